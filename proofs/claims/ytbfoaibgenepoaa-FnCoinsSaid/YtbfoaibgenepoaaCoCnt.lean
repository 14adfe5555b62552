/- Places of coins: in how many ways; the model's count. -/
import Derived.Test.YtbfoaibgenepoaaCoSpec
import Derived.StillTailTactics
set_option linter.unusedVariables false
set_option linter.unusedSimpArgs false
set_option maxRecDepth 100000
namespace Go.Proofs.Ytbfoaibgenepoaa
open Go.ChangeShapes Go.WideShapes Go.ChangeAt Go.RowKit

/-- the ways when a coin is added to coins that give f -/
def cwU (c : Nat) (f : Nat → Int) (x : Nat) : Int := if 0 < c ∧ c ≤ x then f x + cwU c f (x - c) else f x
termination_by x
decreasing_by omega
def cw0 (x : Nat) : Int := if x = 0 then 1 else 0
def cwF (l : List Int) : Nat → Int := l.foldl (fun f (c : Int) => cwU c.toNat f) cw0
theorem cwU_less {c : Nat} {f : Nat → Int} {x : Nat} (h : x < c) : cwU c f x = f x := by rw [cwU, if_neg (by omega)]
theorem cwU_more {c : Nat} {f : Nat → Int} {x : Nat} (h0 : 0 < c) (h : c ≤ x) : cwU c f x = f x + cwU c f (x - c) := by rw [cwU, if_pos ⟨h0, h⟩]
theorem cwF_take {l : List Int} {j : Nat} (h : j < l.length) : cwF (l.take (j + 1)) = cwU l[j].toNat (cwF (l.take j)) := by
  rw [cwF, List.take_succ_eq_append_getElem h, List.foldl_append]; rfl

theorem cwU_bd {c : Nat} {f : Nat → Int} {B : Int} (hc : 0 < c) (n : Nat) (hf : ∀ x ≤ n, 0 ≤ f x ∧ f x ≤ B) : ∀ x ≤ n, 0 ≤ cwU c f x ∧ cwU c f x ≤ ((x / c + 1 : Nat) : Int) * B := by
  intro x
  induction x using Nat.strongRecOn with
  | _ x ih =>
    intro hx
    have h0 := hf x hx
    by_cases h : c ≤ x
    · rw [cwU_more hc h]
      have h1 := ih (x - c) (by omega) (by omega)
      have e : x / c = (x - c) / c + 1 := by rw [Nat.div_eq x c, if_pos ⟨hc, h⟩]
      rw [← e] at h1
      have e2 : ((x / c + 1 : Nat) : Int) * B = ((x / c : Nat) : Int) * B + B := by rw [Int.natCast_add, Int.add_mul]; simp
      rw [e2]; omega
    · rw [cwU_less (by omega), Nat.div_eq_of_lt (by omega)]
      simpa using h0

/-- a bound: the coin at place k is more than k -/
def cwB : Nat → Nat
  | 0 => 1
  | 1 => 1
  | k + 2 => (400 / (k + 2) + 1) * cwB (k + 1)
theorem coin_ge {l : List Int} (h : Coins l) : ∀ (j : Nat) (hj : j < l.length), (j : Int) + 1 ≤ l[j]
  | 0, hj => by have := h.bd _ (List.getElem_mem hj); omega
  | j + 1, hj => by
    have h1 := coin_ge h j (by omega)
    have h2 := ascB_take hj
    rw [ascB_pre _ h.asc] at h2
    have h3 : l[j] < l[j + 1] := by
      have := h2.symm
      simp only [Bool.and_eq_true, decide_eq_true_eq] at this
      exact this.2
    omega
theorem cwU_one (x : Nat) : cwU 1 cw0 x = 1 := by
  induction x with
  | zero => rw [cwU_less (by omega)]; rfl
  | succ x ih => rw [cwU_more (by omega) (by omega), Nat.add_sub_cancel, ih]; rfl
theorem cwF_bd {l : List Int} (h : Coins l) : ∀ (j : Nat), j ≤ l.length → ∀ x ≤ 400, 0 ≤ cwF (l.take j) x ∧ cwF (l.take j) x ≤ cwB j
  | 0, _, x, _ => by
    show 0 ≤ cw0 x ∧ cw0 x ≤ 1
    rw [cw0]; split <;> omega
  | 1, hj, x, _ => by
    obtain ⟨t, ht⟩ := h.one
    subst ht
    show 0 ≤ cwU 1 cw0 x ∧ cwU 1 cw0 x ≤ 1
    rw [cwU_one]; omega
  | j + 2, hj, x, hx => by
    have hc := coin_ge h (j + 1) (by omega)
    rw [cwF_take (show j + 1 < l.length by omega)]
    have h1 := cwU_bd (c := l[j + 1].toNat) (f := cwF (l.take (j + 1))) (B := cwB (j + 1)) (by omega) 400 (fun x hx => cwF_bd h (j + 1) (by omega) x hx) x hx
    refine ⟨h1.1, Int.le_trans h1.2 ?_⟩
    rw [← Int.natCast_mul]
    have h2 : x / l[j + 1].toNat ≤ 400 / (j + 2) :=
      Nat.le_trans (Nat.div_le_div_right hx) (Nat.div_le_div_left (by omega) (by omega))
    have h3 : (x / l[j + 1].toNat + 1) * cwB (j + 1) ≤ cwB (j + 2) := Nat.mul_le_mul_right _ (by omega)
    omega
theorem cwB_ten : ∀ j ≤ 10, cwB j ≤ 4000000000000000000 := by
  intro j hj
  have : ∀ j : Fin 11, cwB j.val ≤ 4000000000000000000 := by decide +kernel
  exact this ⟨j, by omega⟩
theorem cwF_fits {l : List Int} (h : Coins l) (j : Nat) (hj : j ≤ l.length) (x : Nat) (hx : x ≤ 400) : 0 ≤ cwF (l.take j) x ∧ cwF (l.take j) x ≤ 4000000000000000000 := by
  have h1 := cwF_bd h j hj x hx
  have h2 := cwB_ten j (by have := h.len; omega)
  omega

/-! ### the table -/
def tblC (n : Nat) (f : Nat → Int) : List Int := (List.range (n + 1)).map f
theorem tblC_len (n : Nat) (f : Nat → Int) : (tblC n f).length = n + 1 := by simp [tblC]
theorem tblC_at {n : Nat} {f : Nat → Int} {x : Nat} (h : x ≤ n) : (intsOf (tblC n f))[x]? = some (.int .i64 (f x)) := by
  simp only [intsOf, tblC, List.getElem?_map, List.getElem?_range (show x < n + 1 by omega)]; rfl
theorem tblC_same {n : Nat} {f g : Nat → Int} (h : ∀ x ≤ n, f x = g x) : tblC n f = tblC n g := by
  unfold tblC
  exact List.map_congr_left (fun x hx => h x (by have := List.mem_range.mp hx; omega))
theorem tblC_set {n : Nat} {f : Nat → Int} {x : Nat} (u : Int) : (tblC n f).set x u = tblC n (fun y => if y = x then u else f y) := by
  apply List.ext_getElem (by simp [tblC])
  intro i h1 h2
  simp only [tblC, List.getElem_set, List.getElem_map, List.getElem_range]
  by_cases h : x = i
  · subst h; simp
  · rw [if_neg h, if_neg (fun e => h e.symm)]
def mixC (c : Nat) (f : Nat → Int) (x y : Nat) : Int := if y < x then cwU c f y else f y
theorem mixC_start (n c : Nat) (f : Nat → Int) : tblC n (mixC c f c) = tblC n f := by
  refine tblC_same (fun y _ => ?_)
  rw [mixC]; split
  · exact cwU_less (by omega)
  · rfl
theorem mixC_end {n c x : Nat} (f : Nat → Int) (h : n < x) : tblC n (mixC c f x) = tblC n (cwU c f) :=
  tblC_same (fun y hy => by rw [mixC, if_pos (by omega)])
theorem mixC_next {n c x : Nat} (f : Nat → Int) (h0 : 0 < c) (h : c ≤ x) : (tblC n (mixC c f x)).set x (f x + cwU c f (x - c)) = tblC n (mixC c f (x + 1)) := by
  rw [tblC_set]
  refine tblC_same (fun y _ => ?_)
  by_cases hy : y = x
  · subst hy; rw [if_pos rfl, mixC, if_pos (by omega), cwU_more h0 h]
  · rw [if_neg hy, mixC, mixC]
    by_cases hl : y < x
    · rw [if_pos hl, if_pos (by omega)]
    · rw [if_neg hl, if_neg (by omega)]
theorem cw_ints_set (l : List Int) (j : Nat) (v : Int) : (intsOf l).set j (Value.int .i64 v) = intsOf (l.set j v) := by simp [intsOf, List.map_set]
theorem tblC_zero (n : Nat) : (List.replicate (n + 1) (0 : Int)).set 0 1 = tblC n cw0 := by
  rw [show List.replicate (n + 1) (0 : Int) = tblC n (fun _ => 0) by
    unfold tblC; apply List.ext_getElem (by simp); intro i h1 h2; simp]
  rw [tblC_set]
  rfl

def rCountCoins0 (n : Int) (l : List Int) : Int := if okC l && inB n 0 400 then cwF l n.toNat else -1

theorem owns_drewN_c {w : World} {base : Nat} {e : TypeId} {v : Value} {n : Nat} {xs : List Value} (h : w.ownsRow base e 1 v n xs) (q : Nat) : (w.drewN q).ownsRow base e 1 v n xs := h
theorem cw_zeros (n : Nat) : List.replicate n (Value.int .i64 0) = intsOf (List.replicate n 0) := by simp [intsOf]

set_option maxHeartbeats 8000000 in
theorem specCountCoins_any (n : Int) (v : Value) (l : List Int) (w : World) (hn : in64 n) (hr : RowAt w v (intsOf l)) (hl : l.length ≤ 1048576) (hi : ∀ n ∈ l, in64 n) :
    Calls Try.prog 36 #[.int .i64 n, v] w fun e w' => e = .returned (.int .i64 (rCountCoins0 n l)) ∧ Below w.heap.size w w' := by
  obtain ⟨i0, hi0, hz0, hz1, hz2⟩ := info_parts infoInt
  have HC := Lib.hid (specCo_any v l w hr (by omega) hi)
  have HS := Lib.hid (fun W => sIn_any n 0 400 W)
  have HRow := Lib.hid (fun W (hb : Below w.heap.size w W) => hr.below hb)
  have E := Lib.hid (show rCountCoins0 n l = if okC l && inB n 0 400 then cwF l n.toNat else -1 from rfl)
  cases hc : okC l
  · rw [hc] at HC E
    obtain ⟨a, cap, rfl, q1, q2, q3⟩ := hr.ints
    obtain ⟨ll, hll⟩ : ∃ ll, ll = l.length := ⟨_, rfl⟩
    rw [← hll] at HC ⊢
    clear hc hr q1 q2 q3 hll hi hl HRow
    go_enter Try.func36, Try.ntmps36
    go_wp2_with fail
    refine HC.out.mono ?_
    rintro e w' ⟨rfl, rfl⟩
    go_wp2_with fail
    go_ret
    exact ⟨by rw [E.out]; rfl, Below.refl _ _⟩
  · rw [hc] at HC E
    cases h : inB n 0 400
    · rw [h] at HS E
      obtain ⟨a, cap, rfl, q1, q2, q3⟩ := hr.ints
      obtain ⟨ll, hll⟩ : ∃ ll, ll = l.length := ⟨_, rfl⟩
      rw [← hll] at HC ⊢
      clear hc h hr q1 q2 q3 hll hi hl HRow
      go_enter Try.func36, Try.ntmps36
      go_wp2_with fail
      refine HC.out.mono ?_
      rintro e w' ⟨rfl, rfl⟩
      go_wp2_with fail
      refine (HS.out _).mono ?_
      rintro e w' ⟨rfl, rfl⟩
      go_wp2_with fail
      go_ret
      exact ⟨by rw [E.out]; rfl, Below.refl _ _⟩
    · rw [h] at HS E
      obtain ⟨n0, n1⟩ := inB_yes h
      obtain ⟨k, rfl⟩ : ∃ k : Nat, n = k := ⟨n.toNat, by omega⟩
      have hco := okC_yes hc
      have hl10 := hco.len
      have E2 := Lib.hid (show rCountCoins0 k l = cwF (l.take l.length) k by rw [E.out, List.take_length]; rfl)
      have HFIT := Lib.hid (fun j hj x hx => cwF_fits hco j hj x hx)
      have HLB := Lib.hid hco.bd
      have h0 : 0 < l.length := by obtain ⟨t, ht⟩ := hco.one; rw [ht]; simp
      obtain ⟨a, cap, rfl, q1, q2, q3⟩ := hr.ints
      obtain ⟨K, hK⟩ : ∃ K : Nat, (k : Int) + 1 = K := ⟨k + 1, by omega⟩
      have hw0 : IntKind.i64.wrap (K : Int) = K := by rw [IntKind.wrap_i64]; omega
      clear hc h hr q1 q2 q3 hi hl hco
      go_enter Try.func36, Try.ntmps36
      go_wp2_with fail
      refine HC.out.mono ?_
      rintro e w' ⟨rfl, rfl⟩
      go_wp2_with fail
      refine (HS.out _).mono ?_
      rintro e w' ⟨rfl, rfl⟩
      go_wp2_with (at_make; refine wpList_make_full _ rfl _ _ 23 rfl w.heap.size 3 i0 (.int .i64 0) 1 Try.underlying23 hi0 hz0 hz1 _ _ _ _ K rfl rfl rfl rfl ?c1 ?c2 ?c3 ?_)
      case c1 => rw [hz2]; omega
      case c2 => unfold maxLen; omega
      case c3 => exact Nat.le_refl _
      intro w1 hown hgrow
      have hB1 : Below w.heap.size w w1 := (Below.refl _ _).grown hgrow (Nat.le_refl _) (fun k hk => by cases hk)
      have hKk : K = k + 1 := by omega
      have HO1 := Lib.hid (show w1.ownsRow w.heap.size 3 1 (.slice (some ⟨w.heap.size, 0, none⟩) K K) K (intsOf (List.replicate K 0)) by
        rw [toList_madeCells_one] at hown; rw [← cw_zeros]; simpa using hown)
      have hc1 : w1.cell? ⟨w.heap.size, 0, none⟩ = some (.int .i64 0) := by
        have := HO1.out.cellAt 0 (by omega)
        rw [this, ← cw_zeros, List.getElem?_replicate, if_pos (by omega)]
      have hf1 : w1.frozen? ⟨w.heap.size, 0, none⟩ = false := HO1.out.frozenAt 0
      have hs1 := (HO1.out.stored 0 (.int .i64 1)).1
      rw [cw_ints_set, hKk, tblC_zero, ← hKk] at hs1
      have HS1 := Lib.hid hs1
      have hK0 : (0 : Int) < K := by omega
      have hK1 : 0 < K := by omega
      have HKk := Lib.hid hKk
      clear hs1 hown hgrow hKk
      go_wp2_with fail
      go_loopw [24] (fun i wr => ∃ j : Nat, j ≤ l.length ∧ i = .int .i64 j ∧ wr.ownsRow w.heap.size 3 1 (.slice (some ⟨w.heap.size, 0, none⟩) K K) K (intsOf (tblC k (cwF (l.take j)))) ∧ Below w.heap.size w wr) (fun i _ => l.length - (intOf i).toNat)
      case atStart => exact ⟨0, Nat.zero_le _, rfl, HS1.out, hB1.setCell (p := ⟨w.heap.size, 0, none⟩) (Nat.le_refl _) _⟩
      case round =>
        obtain ⟨j, hj, rfl, hown, hB⟩ := hrel
        clear hB1 hc1 hf1 HO1 HS1
        by_cases hjl : j < l.length
        · have hrw := HRow.out _ hB
          obtain ⟨a3, cap3, e3, _, _, q3⟩ := hrw.ints
          injection e3 with e3 _ e4
          subst e3 e4
          obtain ⟨b', off, rfl, hbb, hcell⟩ := q3.resolve_left (fun e => by rw [e] at h0; simp at h0)
          have hc := hcell j hjl
          have hcb := HLB.out _ (List.getElem_mem hjl)
          have HF0 := Lib.hid (fun x hx => HFIT.out j hj x hx)
          have HF1 := Lib.hid (fun x hx => HFIT.out (j + 1) hjl x hx)
          have HTK := Lib.hid (cwF_take hjl)
          obtain ⟨c, hce⟩ : ∃ c, c = l[j].toNat := ⟨_, rfl⟩
          have hc9 : l[j] = (c : Int) := by omega
          rw [← hce] at HTK
          rw [hc9] at hc hcb
          have hc0 : 0 < c := by omega
          have hc1 : c ≤ 1000 := by omega
          rw [HTK.out] at HF1
          obtain ⟨f, hf⟩ : ∃ f, f = cwF (l.take j) := ⟨_, rfl⟩
          rw [← hf] at HF0 HF1 HTK hown
          have HOW := Lib.hid (And.intro hown hB)
          clear hrw hcell q3 hce hc9 hcb hf hown hB
          go_wp2_with fail
          go_loopw [8] (fun x wr => ∃ X : Nat, c ≤ X ∧ (X ≤ k + 1 ∨ X = c) ∧ x = .int .i64 X ∧ wr.ownsRow w.heap.size 3 1 (.slice (some ⟨w.heap.size, 0, none⟩) K K) K (intsOf (tblC k (mixC c f X))) ∧ Below w.heap.size w wr) (fun x _ => k + 1 - (intOf x).toNat)
          case atStart => exact ⟨c, Nat.le_refl _, .inr rfl, rfl, by rw [mixC_start]; exact HOW.out.1, HOW.out.2⟩
          case round =>
            obtain ⟨X, hcX, hXk, rfl, hown, hB⟩ := hrel
            by_cases hx : X ≤ k
            · obtain ⟨D, hD⟩ : ∃ D : Nat, X = D + c := ⟨X - c, by omega⟩
              have hKk := HKk.out
              have hcx : wr.cell? ⟨w.heap.size, X, none⟩ = some (.int .i64 (f X)) := by
                have h1 := hown.cellAt X (by omega)
                rw [tblC_at hx, mixC, if_neg (by omega)] at h1
                simpa using h1
              have hcd : wr.cell? ⟨w.heap.size, D, none⟩ = some (.int .i64 (cwU c f D)) := by
                have h1 := hown.cellAt D (by omega)
                rw [tblC_at (show D ≤ k by omega), mixC, if_pos (by omega)] at h1
                simpa using h1
              have hfx : wr.frozen? ⟨w.heap.size, X, none⟩ = false := by have := hown.frozenAt X; simpa using this
              have b1 := HF1.out X (by omega)
              have b2 := cwU_more (f := f) hc0 hcX
              rw [show X - c = D by omega] at b2
              have hst := ((owns_drewN_c hown 1).stored X (.int .i64 (cwU c f X))).1
              rw [cw_ints_set, b2, show cwU c f D = cwU c f (X - c) by rw [show X - c = D by omega], mixC_next f hc0 hcX] at hst
              rw [show X - c = D by omega, ← b2] at hst
              obtain ⟨Y, hY⟩ : ∃ Y, Y = cwU c f X := ⟨_, rfl⟩
              obtain ⟨U, hU⟩ : ∃ U, U = f X := ⟨_, rfl⟩
              obtain ⟨V, hV⟩ : ∃ V, V = cwU c f D := ⟨_, rfl⟩
              rw [← hY] at hst b1 b2
              rw [← hU] at hcx b2
              rw [← hV] at hcd b2
              have HST := Lib.hid hst
              have w1 : IntKind.i64.wrap (U + V) = Y := by rw [← b2, IntKind.wrap_i64]; omega
              have w2 : IntKind.i64.wrap ((X : Int) - c) = D := by rw [IntKind.wrap_i64]; omega
              have w3 : IntKind.i64.wrap ((X : Int) + 1) = (X : Int) + 1 := by rw [IntKind.wrap_i64]; omega
              have k1 : (X : Int) < K := by omega
              have k2 : (D : Int) < K := by omega
              have k3 : X < K := by omega
              have k4 : D < K := by omega
              clear hst hY hU hV b1 b2 hKk hD hown hXk
              go_wp2_with fail
              refine wp_region_still_tail 14 (by kernel_rfl) (by kernel_rfl) ?_
              simp only [List.take_succ_cons, List.take_zero, List.drop_succ_cons, List.drop_zero]
              repeat still_step
              refine wpStill_nil ?_
              change wpList _ _ _ _ _ (wr.drewN 1)
              go_wp2_with fail
              go_roundw
              case rel => exact ⟨X + 1, by omega, .inl (by omega), by go_num, HST.out, (below_drewN hB 1).setCell (p := ⟨w.heap.size, X, none⟩) (Nat.le_refl _) _⟩
              case measure => simp [intOf]; omega
            · have HO := Lib.hid (show wr.ownsRow w.heap.size 3 1 (.slice (some ⟨w.heap.size, 0, none⟩) K K) K (intsOf (tblC k (cwF (l.take (j + 1))))) by rw [HTK.out, ← mixC_end f (show k < X by omega)]; exact hown)
              have hx9 : ¬ (X : Int) ≤ k := by omega
              clear hown
              go_wp2_with fail
              go_roundw
              case rel => exact ⟨j + 1, hjl, by go_num, HO.out, hB⟩
              case measure => simp [intOf]; omega
        · have hje : j = l.length := by omega
          subst hje
          have hck : wr.cell? ⟨w.heap.size, k, none⟩ = some (.int .i64 (cwF (l.take l.length) k)) := by
            have h1 := hown.cellAt k (by omega)
            rw [tblC_at (Nat.le_refl _)] at h1
            simpa using h1
          obtain ⟨R, hR⟩ : ∃ R, R = cwF (l.take l.length) k := ⟨_, rfl⟩
          rw [← hR] at hck E2
          have k1 : (k : Int) < K := by omega
          have k2 : k < K := by omega
          clear hown hR
          go_wp2_with fail
          go_ret
          exact ⟨by rw [E2.out]; rfl, hB⟩

end Go.Proofs.Ytbfoaibgenepoaa
