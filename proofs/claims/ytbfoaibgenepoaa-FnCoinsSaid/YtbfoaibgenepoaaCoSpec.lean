/- Places of coins: the model's test, greedy digits, values. -/
import Derived.Test.YtbfoaibgenepoaaCoM
import Derived.Test.YtbfoaibgenepoaaDgSpec
import Derived.Test.YtbfoaibgenepoaaDgVal
import Derived.Test.YtbfoaibgenepoaaLgSpec
import Derived.Deep.LoopGhost
set_option linter.unusedVariables false
set_option linter.unusedSimpArgs false
set_option maxRecDepth 100000
namespace Go.Proofs.Ytbfoaibgenepoaa
open Go.ChangeShapes Go.WideShapes Go.ChangeAt Go.RowKit

set_option maxHeartbeats 4000000 in
theorem specCo_any (v : Value) (l : List Int) (w : World) (hr : RowAt w v (intsOf l)) (hl : l.length ≤ 1048577) (hi : ∀ n ∈ l, in64 n) :
    Calls Try.prog 26 #[v] w fun e w' => e = .returned (.bool (okC l)) ∧ w = w' := by
  obtain ⟨a, cap, rfl, h1, h2, h3⟩ := hr.ints
  unfold maxLen at h2
  have HI := Lib.hid hi
  clear hi hr
  obtain ⟨RES, hRES⟩ : ∃ RES, RES = okC l := ⟨_, rfl⟩
  rw [← hRES]
  have HR := Lib.hid hRES
  clear hRES
  have HL := Lib.hid (fun W => sIn_any (l.length : Int) 1 10 W)
  cases hL : inB (l.length : Int) 1 10
  · have HK := Lib.hid (okC_len (l := l) (fun h => by simp [inB] at hL; omega))
    rw [hL] at HL
    clear hL h3
    go_enter Try.func26, Try.ntmps26
    go_wp2_with fail
    refine (HL.out _).mono ?_
    rintro e w' ⟨rfl, rfl⟩
    go_wp2_with fail
    go_ret
    exact ⟨ret_bool (by rw [HR.out, HK.out]), rfl⟩
  · obtain ⟨l1, l10⟩ := inB_yes hL
    rw [hL] at HL
    have h0 : 0 < l.length := by omega
    obtain ⟨b', off, rfl, hbb, hcell⟩ := h3.resolve_left (fun e => by rw [e] at h0; simp at h0)
    have hc0 := hcell 0 h0
    rw [Nat.add_zero] at hc0
    have HC := Lib.hid hcell
    clear hcell hL h3
    by_cases hone : l[0] = 1
    · rw [hone] at hc0
      have HONE := Lib.hid hone
      clear hone
      go_enter Try.func26, Try.ntmps26
      go_wp2_with fail
      refine (HL.out _).mono ?_
      rintro e w' ⟨rfl, rfl⟩
      go_wp2_with fail
      go_loop [17] (fun i => ∃ k : Nat, k ≤ l.length ∧ i = .int .i64 k ∧ (∀ j (h : j < l.length), j < k → 1 ≤ l[j] ∧ l[j] ≤ 1000) ∧ ascB (l.take k) = true) (fun i => l.length - (intOf i).toNat)
      case atStart => exact ⟨0, Nat.zero_le _, rfl, fun j h k => by omega, rfl⟩
      case round =>
        obtain ⟨k, hk, rfl, hall, hasc⟩ := hrel
        have HA := Lib.hid (And.intro hall hasc); clear hall hasc
        by_cases hlt : k < l.length
        · have hc := HC.out k hlt
          have HS := Lib.hid (fun W => sIn_any l[k] 1 1000 W)
          cases hd : inB l[k] 1 1000
          · have HK := Lib.hid (okC_at hlt (fun h => by simp [inB, h.1, h.2] at hd))
            rw [hd] at HS
            obtain ⟨x, hx⟩ : ∃ x, x = l[k] := ⟨_, rfl⟩
            rw [← hx] at hc HS
            clear hd hx
            go_wp2_with (go_at_call 58; refine (HS.out _).mono ?_; rintro e w' ⟨rfl, rfl⟩)
            go_ret
            exact ⟨ret_bool (by rw [HR.out, HK.out]), rfl⟩
          · have HD := Lib.hid (inB_yes hd)
            rw [hd] at HS
            have HN := Lib.hid (show ∀ j (h : j < l.length), j < k + 1 → 1 ≤ l[j] ∧ l[j] ≤ 1000 from fun j h hj => by
              by_cases e : j = k
              · subst e; exact HD.out
              · exact HA.out.1 j h (by omega))
            clear hd
            cases k with
            | zero =>
              have HN2 := Lib.hid (show ascB (l.take 1) = true by cases l <;> rfl)
              obtain ⟨x, hx⟩ : ∃ x, x = l[0] := ⟨_, rfl⟩
              rw [← hx] at hc HS
              rw [Nat.add_zero] at hc
              clear hx hc0
              go_wp2_with (go_at_call 58; refine (HS.out _).mono ?_; rintro e w' ⟨rfl, rfl⟩)
              go_round
              case rel => exact ⟨1, by omega, by go_num, HN.out, HN2.out⟩
              case measure => simp [intOf]; omega
            | succ j =>
              have hcj := HC.out j (by omega)
              have hT := ascB_take hlt
              rw [HA.out.2, Bool.true_and] at hT
              have HK := Lib.hid (okC_asc hlt)
              obtain ⟨x, hx⟩ : ∃ x, x = l[j + 1] := ⟨_, rfl⟩
              obtain ⟨y, hy⟩ : ∃ y, y = l[j] := ⟨_, rfl⟩
              rw [← hx] at hc HS hT HK
              rw [← hy] at hcj hT HK
              clear hx hy hc0
              by_cases hle : x ≤ y
              · have HKK := Lib.hid (HK.out hle)
                clear hT HK
                go_wp2_with (go_at_call 58; refine (HS.out _).mono ?_; rintro e w' ⟨rfl, rfl⟩)
                go_ret
                exact ⟨ret_bool (by rw [HR.out, HKK.out]), rfl⟩
              · have HN2 := Lib.hid (show ascB (l.take (j + 2)) = true by rw [hT, decide_eq_true (by omega)])
                clear hT HK
                go_wp2_with (go_at_call 58; refine (HS.out _).mono ?_; rintro e w' ⟨rfl, rfl⟩)
                go_round
                case rel => exact ⟨j + 2, by omega, by go_num, HN.out, HN2.out⟩
                case measure => simp [intOf]; omega
        · have hkl : k = l.length := by omega
          have HE := Lib.hid (okC_end h0 (by omega) HONE.out (fun j hj => HA.out.1 j hj (by omega)) (by have := HA.out.2; rwa [hkl, List.take_length] at this))
          have hn9 : ¬ (k : Int) < l.length := by omega
          go_wp2
          go_ret
          exact ⟨ret_bool (by rw [HR.out, HE.out]), rfl⟩
    · have HK := Lib.hid (okC_head h0 hone)
      obtain ⟨x, hx⟩ : ∃ x, x = l[0] := ⟨_, rfl⟩
      rw [← hx] at hc0 hone
      have hxq : (x == 1) = false := by simpa using hone
      clear hone hx
      go_enter Try.func26, Try.ntmps26
      go_wp2_with fail
      refine (HL.out _).mono ?_
      rintro e w' ⟨rfl, rfl⟩
      go_wp2_with fail
      go_ret
      exact ⟨ret_bool (by rw [HR.out, HK.out]), rfl⟩

def rCoinsOk0 (l : List Int) : Bool := okC l
theorem specCoinsOk_any (v : Value) (l : List Int) (w : World) (hr : RowAt w v (intsOf l)) (hl : l.length ≤ 1048576) (hi : ∀ n ∈ l, in64 n) :
    Calls Try.prog 26 #[v] w fun e w' => e = .returned (.bool (rCoinsOk0 l)) ∧ Below w.heap.size w w' := by
  refine (specCo_any v l w hr (by omega) hi).mono ?_
  rintro e w' ⟨rfl, rfl⟩
  exact ⟨rfl, Below.refl _ _⟩

/-! ### greedy digits -/
theorem grT_drop {R : List Int} {k : Nat} (h : k < R.length) (m : Int) : grT m (R.drop k) = m / R[k] :: grT (m % R[k]) (R.drop (k + 1)) := by
  rw [List.drop_eq_getElem_cons h, grT]

set_option maxHeartbeats 4000000 in
theorem specGr_any (n : Int) (v : Value) (l : List Int) (w : World) (hr : RowAt w v (intsOf l)) (hco : Coins l) (hn0 : 0 ≤ n) (hn9 : n ≤ 1000000000000) :
    Calls Try.prog 59 #[.int .i64 n, v] w fun e w' => ∃ v', e = .returned v' ∧ w'.ownsRow w.heap.size 3 1 v' (gz n l).length (intsOf (gz n l)) ∧ Below w.heap.size w w' := by
  obtain ⟨i0, hi, hz0, hz1, hz2⟩ := info_parts infoInt
  have hl := hco.len
  obtain ⟨R, hR⟩ : ∃ R, R = l.reverse := ⟨_, rfl⟩
  have HRL : R.length ≤ 10 := by rw [hR, List.length_reverse]; exact hl
  have HRB := Lib.hid (show ∀ x ∈ R, 1 ≤ x ∧ x ≤ 1000 from fun x hx => hco.bd x (by rw [hR, List.mem_reverse] at hx; exact hx))
  have HG := Lib.hid (show gz n l = (grT n R).reverse by rw [gz, hR])
  have HLN := Lib.hid (grT_len R n)
  have hB0 : Below w.heap.size w (w.alloc (.cells #[] 3)) := (Below.refl _ _).alloc (Nat.le_refl _) _
  have hT := specTurn_any v l (w.alloc (.cells #[] 3)) (hr.below ((Below.refl _ _).alloc (Nat.le_refl _) _)) (by omega)
  rw [← hR] at hT
  have HT := Lib.hid hT
  have hO0 := World.ownsRow_lit (base := w.heap.size) (e := 3) (size := 1) w #[] 0 (Nat.le_refl _) (by decide) rfl
  have HO0 := Lib.hid (And.intro hO0 hB0)
  obtain ⟨a, cap, rfl, q1, q2, q3⟩ := hr.ints
  obtain ⟨ll, hll⟩ : ∃ ll, ll = l.length := ⟨_, rfl⟩
  rw [← hll] at HT ⊢
  clear hT hR hr q1 q2 q3 hco hl hB0 hO0 hll
  go_enter Try.func59, Try.ntmps59
  go_wp2_with fail
  refine HT.out.mono ?_
  rintro e w1 ⟨vt, rfl, hTo, hB1⟩
  have HB1 := Lib.hid (HO0.out.2.trans (hB1.mono HO0.out.2.size))
  have HOW := Lib.hid (owns_below HO0.out.1 hB1)
  have hTl := hTo.lt
  have HTN := Lib.hid (show ∀ b, vt.ownBlock = some b → (Value.slice (some ⟨w.heap.size, 0, none⟩) 0 0).ownBlock ≠ some b from fun b hb => by
    have := (hTl b hb).1
    simp at this
    simp [Value.ownBlock]; omega)
  obtain ⟨at', ct, e3, _, _⟩ := owns_form hTo
  subst e3
  have HTO := Lib.hid hTo
  clear hTo hB1 hTl
  go_wp2_with fail
  go_loopw [0, 5, 12] (fun nv v i wr => ∃ (k : Nat) (m : Int) (P : List Int), k ≤ R.length ∧ i = .int .i64 k ∧ nv = .int .i64 m ∧ 0 ≤ m ∧ m ≤ n ∧ P ++ grT m (R.drop k) = grT n R ∧ wr.ownsRow w.heap.size 3 1 v P.length (intsOf P) ∧ wr.ownsRow (w.alloc (.cells #[] 3)).heap.size 3 1 (.slice at' R.length ct) R.length (intsOf R) ∧ (∀ b, (Value.slice at' R.length ct).ownBlock = some b → v.ownBlock ≠ some b) ∧ Below w.heap.size w wr) (fun _ _ i _ => R.length - (intOf i).toNat)
  case atStart => exact ⟨0, n, [], Nat.zero_le _, rfl, rfl, hn0, Int.le_refl _, rfl, HOW.out, HTO.out, HTN.out, HB1.out⟩
  case round =>
    obtain ⟨k, m, P, hk, rfl, rfl, hm0, hmn, heq, hown, hto, hne, hB⟩ := hrel
    have hPl : P.length = k := by
      have := congrArg List.length heq
      rw [List.length_append, grT_len, grT_len, List.length_drop] at this
      omega
    have hsz := hB.size
    by_cases hlt : k < R.length
    · have hq := HRB.out _ (List.getElem_mem hlt)
      rw [grT_drop hlt] at heq
      have HSTP := Lib.hid (show (P ++ [m / R[k]]) ++ grT (m % R[k]) (R.drop (k + 1)) = grT n R by rw [← heq]; simp)
      obtain ⟨a3, cap3, e3, q1, q2, q3⟩ := (RowAt.of_owns hto).ints
      injection e3 with e3 _ e4
      subst e3 e4
      obtain ⟨b', off, rfl, hbb, hcell⟩ := q3.resolve_left (fun e => by rw [e] at hlt; simp at hlt)
      have hc := hcell k hlt
      obtain ⟨x, hx⟩ : ∃ x, x = R[k] := ⟨_, rfl⟩
      rw [← hx] at hq hc HSTP
      have hx1 := hq.1
      have hx9 := hq.2
      have hxz : (x == 0) = false := by simp; omega
      have hxn : ¬ x = 0 := by omega
      have hqd : m.tdiv x = m / x := Int.tdiv_eq_ediv_of_nonneg hm0
      have hrm : m.tmod x = m % x := Int.tmod_eq_emod_of_nonneg hm0
      have r0 := Int.emod_nonneg m hxn
      have r1 := Int.ediv_nonneg hm0 (show 0 ≤ x by omega)
      have r2 := Int.ediv_le_self x hm0
      have r3 := Int.ediv_mul_add_emod m x
      have r4 := Int.mul_nonneg r1 (show 0 ≤ x by omega)
      obtain ⟨Qd, hQd⟩ : ∃ Qd, Qd = m / x := ⟨_, rfl⟩
      obtain ⟨Rm, hRm⟩ : ∃ Rm, Rm = m % x := ⟨_, rfl⟩
      rw [← hQd] at hqd HSTP r1 r2 r3 r4
      rw [← hRm] at hrm HSTP r0 r3
      have r5 : Rm ≤ m := by omega
      clear hx hQd hRm r3 r4 heq q1 q2 q3 hcell hq
      go_wp2_with (at_builtin; refine wpList_append_own_at _ rfl _ _ 23 rfl w.heap.size 3 i0 (.int .i64 0) 1 8 Try.underlying23 hi hz0 hz1 hz2 rfl (by decide) _ _ _ rfl (hown.alloc _) ⟨wr.heap.size, 0, none⟩ 1 1 [.int .i64 Qd] rfl rfl (one_cell _ _ _) (by intro u hu; simp at hu; subst hu; rfl) (by unfold maxLen; omega) (by omega) (by simp; omega) ?_)
      intro v' w2 hown' hgrow _ hat
      have hB2 := (hB.alloc hsz (.cells #[.int .i64 Qd] 3)).grown hgrow (by simp; omega) (fun j hj => (hown.lt j hj).1)
      have HO := Lib.hid (show w2.ownsRow w.heap.size 3 1 v' (P ++ [Qd]).length (intsOf (P ++ [Qd])) by simpa [intsOf, hPl] using hown')
      have HT2 := Lib.hid ((hto.alloc (.cells #[.int .i64 Qd] 3)).kept hgrow (.inr (fun e => hne b' rfl (by rw [← e]; rfl))))
      have hlt2 := (hto.lt b' rfl).2
      have HNE := Lib.hid (show ∀ b, (Value.slice (some ⟨b', off, none⟩) R.length ct).ownBlock = some b → v'.ownBlock ≠ some b from fun b hb => by
        have e1 : b' = b := by simpa [Value.ownBlock] using hb
        subst e1
        rcases hat with e | e <;> rw [e]
        · exact hne b' rfl
        · simp; omega)
      clear hown' hgrow hown hto hne hat hB hlt2
      go_wp2_with fail
      go_roundw
      case rel => exact ⟨k + 1, Rm, P ++ [Qd], hlt, by go_num, rfl, r0, by omega, HSTP.out, HO.out, HT2.out, HNE.out, hB2⟩
      case measure => simp [intOf]; omega
    · have hkR : k = R.length := by omega
      have HP := Lib.hid (show P.reverse = gz n l by
        rw [hkR, List.drop_length, grT, List.append_nil] at heq
        rw [HG.out, heq])
      have HTR := Lib.hid (specTurn_any _ P wr (RowAt.of_owns hown) (by omega))
      obtain ⟨av, cv, e3, _, _⟩ := owns_form hown
      subst e3
      have hn9' : ¬ (k : Int) < R.length := by omega
      have HBB := Lib.hid (And.intro hB hsz)
      clear hown hto hne heq hB hsz hPl hkR
      go_wp2_with fail
      refine HTR.out.mono ?_
      rintro e w3 ⟨v3, rfl, hO3, hB3⟩
      rw [HP.out] at hO3
      have HO3 := Lib.hid (owns_mono hO3 HBB.out.2)
      have HB3 := Lib.hid (HBB.out.1.trans (hB3.mono HBB.out.2))
      obtain ⟨a3, c3, e3, _, _⟩ := owns_form hO3
      obtain ⟨ln3, hln3⟩ : ∃ ln, ln = (gz n l).length := ⟨_, rfl⟩
      rw [← hln3] at e3
      subst e3
      clear hO3 hB3 hln3
      go_wp2_with fail
      go_ret
      exact ⟨_, rfl, HO3.out, HB3.out⟩

def rGreedyCoins0 (n : Int) (l : List Int) : List Int := if okC l && inB n 0 100000 then gz n l else []
theorem specGreedyCoins_any (n : Int) (v : Value) (l : List Int) (w : World) (hn : in64 n) (hr : RowAt w v (intsOf l)) (hl : l.length ≤ 1048576) (hi : ∀ n ∈ l, in64 n) :
    Calls Try.prog 29 #[.int .i64 n, v] w fun e w' => ∃ v', e = .returned v' ∧ w'.ownsRow w.heap.size 3 1 v' (rGreedyCoins0 n l).length (intsOf (rGreedyCoins0 n l)) ∧ Below w.heap.size w w' := by
  have HC := Lib.hid (specCo_any v l w hr (by omega) hi)
  have HS := Lib.hid (fun W => sIn_any n 0 100000 W)
  have HG := Lib.hid (fun h1 h2 h3 => specGr_any n v l w hr h1 h2 h3)
  have HNO := Lib.hid (fun (h : (okC l && inB n 0 100000) = false) => show ∃ v', Ending.returned (.slice none 0 0) = .returned v' ∧ w.ownsRow w.heap.size 3 1 v' (rGreedyCoins0 n l).length (intsOf (rGreedyCoins0 n l)) ∧ Below w.heap.size w w from by
    refine ⟨_, rfl, ?_, Below.refl _ _⟩
    rw [rGreedyCoins0, h]; exact World.ownsRow_nil _ _ _ _)
  obtain ⟨a, cap, rfl, q1, q2, q3⟩ := hr.ints
  obtain ⟨ll, hll⟩ : ∃ ll, ll = l.length := ⟨_, rfl⟩
  rw [← hll] at HC HG ⊢
  clear hr q1 q2 q3 hll hi hl
  cases hc : okC l
  · rw [hc] at HC
    have HN := Lib.hid (HNO.out (by rw [hc]; rfl))
    clear hc HNO
    go_enter Try.func29, Try.ntmps29
    go_wp2_with fail
    refine HC.out.mono ?_
    rintro e w' ⟨rfl, rfl⟩
    go_wp2_with fail
    go_ret
    exact HN.out
  · rw [hc] at HC
    cases h : inB n 0 100000
    · rw [h] at HS
      have HN := Lib.hid (HNO.out (by rw [h, Bool.and_false]))
      clear hc h HNO
      go_enter Try.func29, Try.ntmps29
      go_wp2_with fail
      refine HC.out.mono ?_
      rintro e w' ⟨rfl, rfl⟩
      go_wp2_with fail
      refine (HS.out _).mono ?_
      rintro e w' ⟨rfl, rfl⟩
      go_wp2_with fail
      go_ret
      exact HN.out
    · rw [h] at HS
      obtain ⟨n0, n1⟩ := inB_yes h
      have HGG := Lib.hid (HG.out (okC_yes hc) n0 (by omega))
      rw [show rGreedyCoins0 n l = gz n l by rw [rGreedyCoins0, hc, h]; rfl]
      obtain ⟨G, hG⟩ : ∃ G, G = gz n l := ⟨_, rfl⟩
      rw [← hG] at HGG ⊢
      clear hc h hG HNO
      go_enter Try.func29, Try.ntmps29
      go_wp2_with fail
      refine HC.out.mono ?_
      rintro e w' ⟨rfl, rfl⟩
      go_wp2_with fail
      refine (HS.out _).mono ?_
      rintro e w' ⟨rfl, rfl⟩
      go_wp2_with fail
      refine HGG.out.mono ?_
      rintro e w2 ⟨v2, rfl, hO, hB⟩
      have HO := Lib.hid hO
      obtain ⟨a3, c3, e3, _, _⟩ := owns_form hO
      obtain ⟨ln3, hln3⟩ : ∃ ln, ln = G.length := ⟨_, rfl⟩
      rw [← hln3] at e3
      subst e3
      clear hO hln3
      go_wp2_with fail
      go_ret
      exact ⟨_, rfl, HO.out, hB⟩

/-! ### values -/
def cvOk (d l : List Int) : Bool := okC l && (decide (d.length = l.length) && decide (∀ x ∈ d, 0 ≤ x ∧ x ≤ 100000))
def rCoinsValue0 (d l : List Int) : Int := if cvOk d l then dotI d l else -1
theorem cv_not {d l : List Int} (h : cvOk d l = false) : rCoinsValue0 d l = -1 := by rw [rCoinsValue0, h]; rfl
theorem cv_at {d l : List Int} {k : Nat} (hk : k < d.length) (h : inB d[k] 0 100000 = false) : cvOk d l = false := by
  have : ¬ (∀ x ∈ d, 0 ≤ x ∧ x ≤ 100000) := fun g => by
    have := g d[k] (List.getElem_mem hk)
    simp [inB, this.1, this.2] at h
  rw [cvOk, decide_eq_false this, Bool.and_false, Bool.and_false]
theorem dotI_small {d l : List Int} {k : Nat} (hd : ∀ x ∈ d.take k, 0 ≤ x ∧ x ≤ 100000) (hc : ∀ x ∈ l, 1 ≤ x ∧ x ≤ 1000) (hl : d.length ≤ 10) : 0 ≤ dotI (d.take k) (l.take k) ∧ dotI (d.take k) (l.take k) ≤ 1000000000 := by
  have h := dotI_bd (B := 100000) (C := 1000) (by decide) (by decide) (d.take k) (l.take k) hd (fun x hx => by have := hc x (List.mem_of_mem_take hx); omega)
  have h2 : (d.take k).length ≤ 10 := by rw [List.length_take]; omega
  omega

theorem take_all {d : List Int} {k : Nat} {P : Int → Prop} (h : ∀ j (h : j < d.length), j < k → P d[j]) : ∀ x ∈ d.take k, P x := fun x hx => by
  obtain ⟨j, hj, rfl⟩ := List.getElem_of_mem hx
  rw [List.length_take] at hj
  rw [List.getElem_take]
  exact h j (by omega) (by omega)

set_option maxHeartbeats 4000000 in
theorem specCv_any (vd v : Value) (d l : List Int) (w : World) (hrd : RowAt w vd (intsOf d)) (hr : RowAt w v (intsOf l)) (hld : d.length ≤ 1048577) (hl : l.length ≤ 1048577) (hi : ∀ n ∈ l, in64 n) (hid : ∀ n ∈ d, in64 n) :
    Calls Try.prog 32 #[vd, v] w fun e w' => e = .returned (.int .i64 (rCoinsValue0 d l)) ∧ w = w' := by
  have HC := Lib.hid (specCo_any v l w hr (by omega) hi)
  obtain ⟨a, cap, rfl, h1, h2, h3⟩ := hr.ints
  obtain ⟨ad, capd, rfl, g1, g2, g3⟩ := hrd.ints
  unfold maxLen at h2 g2
  have HI := Lib.hid hid
  clear hi hid hr hrd
  obtain ⟨RES, hRES⟩ : ∃ RES, RES = rCoinsValue0 d l := ⟨_, rfl⟩
  rw [← hRES]
  have HR := Lib.hid hRES
  clear hRES
  cases hc : okC l
  · rw [hc] at HC
    have HK := Lib.hid (cv_not (d := d) (l := l) (by rw [cvOk, hc]; rfl))
    clear hc h3 g3
    go_enter Try.func32, Try.ntmps32
    go_wp2_with fail
    refine HC.out.mono ?_
    rintro e w' ⟨rfl, rfl⟩
    go_wp2_with fail
    go_ret
    exact ⟨by rw [HR.out, HK.out]; rfl, rfl⟩
  · rw [hc] at HC
    have hco := okC_yes hc
    by_cases hlen : d.length = l.length
    · have HLB := Lib.hid hco.bd
      have hl10 := hco.len
      have HOKC := Lib.hid hc
      have HLEN := Lib.hid hlen
      rw [hlen]
      clear hc hco
      go_enter Try.func32, Try.ntmps32
      go_wp2_with fail
      refine HC.out.mono ?_
      rintro e w' ⟨rfl, rfl⟩
      clear hlen
      go_wp2_with fail
      go_loop [5, 20] (fun n i => ∃ k : Nat, k ≤ l.length ∧ i = .int .i64 k ∧ (∀ j (h : j < d.length), j < k → 0 ≤ d[j] ∧ d[j] ≤ 100000) ∧ n = .int .i64 (dotI (d.take k) (l.take k))) (fun _ i => l.length - (intOf i).toNat)
      case atStart => exact ⟨0, Nat.zero_le _, rfl, fun j h k => by omega, rfl⟩
      case round =>
        obtain ⟨k, hk, rfl, hall, rfl⟩ := hrel
        have HA := Lib.hid hall; clear hall
        by_cases hlt : k < l.length
        · have hltd : k < d.length := by have := HLEN.out; omega
          obtain ⟨b', off, rfl, hbb, hcell⟩ := h3.resolve_left (fun e => by rw [e] at hlt; simp at hlt)
          obtain ⟨bd, offd, rfl, hbbd, hcelld⟩ := g3.resolve_left (fun e => by rw [e] at hltd; simp at hltd)
          have hc := hcell k hlt
          have hcd := hcelld k hltd
          have hx := HLB.out _ (List.getElem_mem hlt)
          clear h3 g3 hcell hcelld
          have HS := Lib.hid (fun W => sIn_any d[k] 0 100000 W)
          have hsm : 0 ≤ dotI (d.take k) (l.take k) ∧ dotI (d.take k) (l.take k) ≤ 1000000000 := by
            exact dotI_small (take_all HA.out) HLB.out (by have := HLEN.out; omega)
          cases hd : inB d[k] 0 100000
          · have HK := Lib.hid (cv_not (l := l) (cv_at hltd hd))
            rw [hd] at HS
            obtain ⟨N, hN⟩ : ∃ N, N = dotI (d.take k) (l.take k) := ⟨_, rfl⟩
            obtain ⟨y, hy⟩ : ∃ y, y = d[k] := ⟨_, rfl⟩
            rw [← hN] at hsm ⊢
            rw [← hy] at hcd HS
            clear hd hN hy
            go_wp2_with (go_at_call 58; refine (HS.out _).mono ?_; rintro e w' ⟨rfl, rfl⟩)
            go_ret
            exact ⟨by rw [HR.out, HK.out]; rfl, rfl⟩
          · have HD := Lib.hid (inB_yes hd)
            rw [hd] at HS
            have HN := Lib.hid (show ∀ j (h : j < d.length), j < k + 1 → 0 ≤ d[j] ∧ d[j] ≤ 100000 from fun j h hj => by
              by_cases e : j = k
              · subst e; exact HD.out
              · exact HA.out j h (by omega))
            have HT := Lib.hid (dotI_take hltd hlt)
            have hy0 := HD.out.1
            have hy9 := HD.out.2
            obtain ⟨N, hNe⟩ : ∃ N, N = dotI (d.take k) (l.take k) := ⟨_, rfl⟩
            obtain ⟨y, hy⟩ : ∃ y, y = d[k] := ⟨_, rfl⟩
            obtain ⟨x, hxe⟩ : ∃ x, x = l[k] := ⟨_, rfl⟩
            rw [← hNe] at hsm HT ⊢
            rw [← hy] at hcd HS HT hy0 hy9
            rw [← hxe] at hc hx HT
            have hp0 : 0 ≤ y * x := Int.mul_nonneg hy0 (by omega)
            have hp1 : y * x ≤ 100000 * 1000 := Int.mul_le_mul hy9 hx.2 (by omega) (by decide)
            have hs0 := hsm.1
            have hs9 := hsm.2
            clear hd hNe hy hxe hsm hx
            go_wp2_with (go_at_call 58; refine (HS.out _).mono ?_; rintro e w' ⟨rfl, rfl⟩)
            go_round
            case rel => exact ⟨k + 1, hlt, by go_num, HN.out, by rw [HT.out]⟩
            case measure => simp [intOf]; omega
        · have hkl : k = l.length := by omega
          have HE := Lib.hid (show dotI (d.take k) (l.take k) = rCoinsValue0 d l by
            have e1 : cvOk d l = true := by
              rw [cvOk, HOKC.out, decide_eq_true HLEN.out, decide_eq_true]
              · rfl
              · intro x hx
                obtain ⟨j, hj, rfl⟩ := List.getElem_of_mem hx
                exact HA.out j hj (by have := HLEN.out; omega)
            rw [rCoinsValue0, e1, if_pos rfl, hkl, List.take_length, List.take_of_length_le (by have := HLEN.out; omega)])
          obtain ⟨N, hNe⟩ : ∃ N, N = dotI (d.take k) (l.take k) := ⟨_, rfl⟩
          rw [← hNe] at HE ⊢
          have hn9 : ¬ (k : Int) < l.length := by omega
          clear h3 g3 hNe hkl
          go_wp2
          go_ret
          exact ⟨by rw [HR.out, ← HE.out]; rfl, rfl⟩
    · have HK := Lib.hid (cv_not (d := d) (l := l) (by rw [cvOk, decide_eq_false hlen]; simp))
      have hlq : ((d.length : Int) == l.length) = false := by simp; omega
      clear hc h3 g3 hco hlen
      go_enter Try.func32, Try.ntmps32
      go_wp2_with fail
      refine HC.out.mono ?_
      rintro e w' ⟨rfl, rfl⟩
      go_wp2_with fail
      go_ret
      exact ⟨by rw [HR.out, HK.out]; rfl, rfl⟩

theorem specCoinsValue_any (vd : Value) (d : List Int) (v : Value) (l : List Int) (w : World) (hrd : RowAt w vd (intsOf d)) (hld : d.length ≤ 1048576) (hid : ∀ n ∈ d, in64 n) (hr : RowAt w v (intsOf l)) (hl : l.length ≤ 1048576) (hi : ∀ n ∈ l, in64 n) :
    Calls Try.prog 32 #[vd, v] w fun e w' => e = .returned (.int .i64 (rCoinsValue0 d l)) ∧ Below w.heap.size w w' := by
  refine (specCv_any vd v d l w hrd hr (by omega) (by omega) hi hid).mono ?_
  rintro e w' ⟨rfl, rfl⟩
  exact ⟨rfl, Below.refl _ _⟩

/-! ### greedy digits, tested -/
set_option maxHeartbeats 2000000 in
theorem specSm_any (va vc : Value) (a c : List Int) (w : World) (hra : RowAt w va (intsOf a)) (hrc : RowAt w vc (intsOf c)) (hl : a.length ≤ 1048577) (hl' : c.length ≤ 1048577) :
    Calls Try.prog 60 #[va, vc] w fun e w' => e = .returned (.bool (decide (a = c))) ∧ w = w' := by
  obtain ⟨aa, cap, rfl, h1, h2, h3⟩ := hra.ints
  obtain ⟨ac, cap', rfl, h1', h2', h3'⟩ := hrc.ints
  unfold maxLen at h2 h2'
  by_cases hlen : a.length = c.length
  · have HLE := Lib.hid hlen
    obtain ⟨m, hm⟩ : ∃ m, m = c.length := ⟨_, rfl⟩
    rw [← hm] at hlen hl' h1' ⊢
    have HM := Lib.hid hm
    obtain ⟨n, hn⟩ : ∃ n, n = a.length := ⟨_, rfl⟩
    have HN := Lib.hid hn
    rw [← hn] at hlen hl h1 ⊢
    subst hlen
    clear hm hn
    go_enter Try.func60, Try.ntmps60
    go_wp2
    go_loop [14] (fun i => ∃ k : Nat, k ≤ n ∧ i = .int .i64 k ∧ ∀ j (ha : j < a.length) (hc : j < c.length), j < k → a[j] = c[j]) (fun i => n - (intOf i).toNat)
    case atStart => exact ⟨0, Nat.zero_le _, rfl, fun _ _ _ h => by omega⟩
    case round =>
      obtain ⟨k, hk, rfl, hall⟩ := hrel
      have HA := Lib.hid hall
      clear hall
      by_cases hlt : k < n
      · have ka : k < a.length := by rw [← HN.out]; exact hlt
        have kc : k < c.length := by rw [← HM.out]; exact hlt
        obtain ⟨b, off, rfl, hb, hcell⟩ := h3.resolve_left (fun e => by rw [e] at ka; simp at ka)
        obtain ⟨b', off', rfl, hb', hcell'⟩ := h3'.resolve_left (fun e => by rw [e] at kc; simp at kc)
        have hc := hcell k ka
        have hc' := hcell' k kc
        obtain ⟨x, hx⟩ : ∃ x, x = a[k] := ⟨_, rfl⟩
        obtain ⟨y, hy⟩ : ∃ y, y = c[k] := ⟨_, rfl⟩
        rw [← hx] at hc
        rw [← hy] at hc'
        have HX := Lib.hid hx
        have HY := Lib.hid hy
        clear h3 h3' hcell hcell' hx hy
        by_cases hxy : x = y
        · have HE := Lib.hid (show ∀ j (ha : j < a.length) (hc : j < c.length), j < k + 1 → a[j] = c[j] from fun j ha hc hj => by
            rcases Nat.lt_or_ge j k with h | h
            · exact HA.out j ha hc h
            · have : j = k := by omega
              subst this
              rw [← HX.out, ← HY.out, hxy])
          subst hxy
          go_wp2
          go_round
          case rel => exact ⟨k + 1, hlt, by go_num, HE.out⟩
          case measure => simp [intOf]; omega
        · have HV := Lib.hid (show decide (a = c) = false from decide_eq_false (fun e => hxy (by rw [HX.out, HY.out]; subst e; rfl)))
          have hq : (x == y) = false := by simp [hxy]
          clear hxy
          go_wp2
          go_ret
          exact ⟨by rw [HV.out]; rfl, rfl⟩
      · have HV := Lib.hid (show decide (a = c) = true from decide_eq_true (List.ext_getElem HLE.out (fun j ha hc => HA.out j ha hc (by have := HN.out; omega))))
        clear h3 h3'
        go_wp2
        go_ret
        exact ⟨by rw [HV.out]; rfl, rfl⟩
  · have HV := Lib.hid (show decide (a = c) = false from decide_eq_false (fun e => hlen (by rw [e])))
    have hlI : ((a.length : Int) == c.length) = false := by simp; omega
    have hlJ : ¬ (a.length : Int) = c.length := by omega
    clear h3 h3'
    go_enter Try.func60, Try.ntmps60
    go_wp2
    go_ret
    exact ⟨by rw [HV.out]; rfl, rfl⟩

def rIsGreedy0 (d l : List Int) : Bool := inB (rCoinsValue0 d l) 0 100000 && decide (d = gz (rCoinsValue0 d l) l)
theorem cv_coins {d l : List Int} (h : 0 ≤ rCoinsValue0 d l) : Coins l := by
  cases e : cvOk d l
  · rw [cv_not e] at h; omega
  · rw [cvOk, Bool.and_eq_true] at e; exact okC_yes e.1
theorem specIsGreedy_any (vd : Value) (d : List Int) (v : Value) (l : List Int) (w : World) (hrd : RowAt w vd (intsOf d)) (hld : d.length ≤ 1048576) (hid : ∀ n ∈ d, in64 n) (hr : RowAt w v (intsOf l)) (hl : l.length ≤ 1048576) (hi : ∀ n ∈ l, in64 n) :
    Calls Try.prog 33 #[vd, v] w fun e w' => e = .returned (.bool (rIsGreedy0 d l)) ∧ Below w.heap.size w w' := by
  have HV := Lib.hid (specCv_any vd v d l w hrd hr (by omega) (by omega) hi hid)
  have HS := Lib.hid (fun W => sIn_any (rCoinsValue0 d l) 0 100000 W)
  have HG := Lib.hid (fun h0 h1 => specGr_any (rCoinsValue0 d l) v l w hr (cv_coins h0) h0 h1)
  have HM := Lib.hid (fun W vg (hb : Below w.heap.size w W) (hg : RowAt W vg (intsOf (gz (rCoinsValue0 d l) l))) => specSm_any vd vg d (gz (rCoinsValue0 d l) l) W (hrd.below hb) hg (by omega) (by rw [gz_len]; omega))
  obtain ⟨a, cap, rfl, q1, q2, q3⟩ := hr.ints
  obtain ⟨ad, capd, rfl, p1, p2, p3⟩ := hrd.ints
  obtain ⟨n, hn⟩ : ∃ n, n = rCoinsValue0 d l := ⟨_, rfl⟩
  rw [← hn] at HV HS HG HM
  have E := Lib.hid (show rIsGreedy0 d l = (inB n 0 100000 && decide (d = gz n l)) by rw [rIsGreedy0, hn])
  obtain ⟨ll, hll⟩ : ∃ ll, ll = l.length := ⟨_, rfl⟩
  obtain ⟨ld, hld'⟩ : ∃ ll, ll = d.length := ⟨_, rfl⟩
  rw [← hll] at HV HG ⊢
  rw [← hld'] at HV HM ⊢
  clear hr hrd q1 q2 q3 p1 p2 p3 hn hll hld' hi hid hld hl
  cases h : inB n 0 100000
  · rw [h] at HS E
    clear h HG HM
    go_enter Try.func33, Try.ntmps33
    go_wp2_with fail
    refine HV.out.mono ?_
    rintro e w' ⟨rfl, rfl⟩
    go_wp2_with fail
    refine (HS.out _).mono ?_
    rintro e w' ⟨rfl, rfl⟩
    go_wp2_with fail
    go_ret
    exact ⟨by rw [E.out]; rfl, Below.refl _ _⟩
  · rw [h] at HS E
    obtain ⟨n0, n1⟩ := inB_yes h
    have HGG := Lib.hid (HG.out n0 (by omega))
    obtain ⟨G, hG⟩ : ∃ G, G = gz n l := ⟨_, rfl⟩
    rw [← hG] at HGG HM E
    obtain ⟨Q, hQ⟩ : ∃ Q, Q = decide (d = G) := ⟨_, rfl⟩
    rw [← hQ] at HM E
    clear h HG hG hQ
    go_enter Try.func33, Try.ntmps33
    go_wp2_with fail
    refine HV.out.mono ?_
    rintro e w' ⟨rfl, rfl⟩
    go_wp2_with fail
    refine (HS.out _).mono ?_
    rintro e w' ⟨rfl, rfl⟩
    go_wp2_with fail
    refine HGG.out.mono ?_
    rintro e w2 ⟨v2, rfl, hO, hB⟩
    have HMM := Lib.hid (HM.out _ _ hB (RowAt.of_owns hO))
    obtain ⟨a3, c3, e3, _, _⟩ := owns_form hO
    obtain ⟨ln3, hln3⟩ : ∃ ln, ln = G.length := ⟨_, rfl⟩
    rw [← hln3] at e3
    subst e3
    clear hO hln3
    go_wp2_with fail
    refine HMM.out.mono ?_
    rintro e w3 ⟨rfl, rfl⟩
    go_wp2_with fail
    go_ret
    exact ⟨by rw [E.out]; rfl, hB⟩

end Go.Proofs.Ytbfoaibgenepoaa
