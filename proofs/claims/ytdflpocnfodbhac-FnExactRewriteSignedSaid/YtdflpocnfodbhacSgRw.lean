/- Signed binary digits: the model rewrites signed digits by carries. -/
import Derived.Test.YtdflpocnfodbhacSgSpec
set_option linter.unusedVariables false
set_option linter.unusedSimpArgs false
set_option maxRecDepth 100000
namespace Go.Proofs.Ytdflpocnfodbhac
open Go.ChangeShapes Go.WideShapes Go.ChangeAt Go.RowKit

theorem at0_take {l : List Int} {n : Nat} (hn : n ≤ l.length) (j : Nat) : at0 (l.take n) j = if j < n then at0 l j else 0 := by
  by_cases h : j < n
  · rw [if_pos h, at0_lt (by rw [List.length_take]; omega), at0_lt (by omega), List.getElem_take]
  · rw [if_neg h, at0_ge (by rw [List.length_take]; omega)]
theorem at0_snoc (l : List Int) (d : Int) (j : Nat) : at0 (l ++ [d]) j = if j < l.length then at0 l j else if j = l.length then d else 0 := by
  by_cases h : j < l.length
  · rw [if_pos h, at0_lt (by simp; omega), at0_lt h, List.getElem_append_left h]
  · rw [if_neg h]
    by_cases h' : j = l.length
    · subst h'; rw [if_pos rfl, at0_lt (by simp)]; simp
    · rw [if_neg h', at0_ge (by simp; omega)]
theorem allS_snoc {l : List Int} {d : Int} (hl : AllS l) (h0 : -1 ≤ d) (h1 : d ≤ 1) : AllS (l ++ [d]) := fun x hx => by
  rcases List.mem_append.1 hx with hx | hx
  · exact hl x hx
  · simp at hx; subst hx; exact ⟨h0, h1⟩
theorem spr_snoc {l : List Int} {d : Int} (h : Spr l) (hd : ∀ k, l.length = k + 1 → at0 l k ≠ 0 → d = 0) : Spr (l ++ [d]) := fun j => by
  rw [at0_snoc, at0_snoc]
  by_cases h1 : j + 1 < l.length
  · rw [if_pos (by omega), if_pos h1]; exact h j
  · by_cases h2 : j + 1 = l.length
    · rw [if_pos (by omega), if_neg h1, if_pos h2]
      by_cases h3 : at0 l j = 0
      · exact .inl h3
      · exact .inr (hd j h2.symm h3)
    · right; rw [if_neg h1, if_neg h2]
/-- without the zeros at the end -/
theorem trim_eqS {l : List Int} (hl : AllS l) (hS : Spr l) {n : Nat} (hn : n ≤ l.length) (hz : ∀ j (hj : j < l.length), n ≤ j → l[j] = 0) (hla : ∀ (hj : n - 1 < l.length), n = 0 ∨ l[n - 1] ≠ 0) :
    l.take n = spd (sv l) := by
  have hd : hv 2 (l.drop n) = 0 := hv_zeros _ (fun d hd => by
    obtain ⟨j, hj, rfl⟩ := List.getElem_of_mem hd
    rw [List.getElem_drop]
    exact hz _ _ (by omega))
  have e : sv l = sv (l.take n) := by
    have := hv_append 2 (l.take n) (l.drop n)
    rw [List.take_append_drop, hd] at this
    unfold sv; rw [this]; simp
  have hN : NrmS (l.take n) := by
    refine ⟨fun d hd => hl d (List.mem_of_mem_take hd), ?_⟩
    by_cases h0 : n = 0
    · left; subst h0; simp
    · by_cases h1 : n - 1 < l.length
      · right
        have := (hla h1).resolve_left h0
        rw [List.getLast?_eq_getElem?, List.length_take, Nat.min_eq_left hn, List.getElem?_take, if_pos (by omega), List.getElem?_eq_getElem h1]
        simpa using this
      · left
        have : l.length = 0 := by omega
        rw [List.eq_nil_of_length_eq_zero this]; simp
  have hSp : Spr (l.take n) := fun j => by
    rw [at0_take hn, at0_take hn]
    by_cases h1 : j + 1 < n
    · rw [if_pos (by omega), if_pos h1]; exact hS j
    · right; rw [if_neg h1]
  rw [e]
  exact (spd_sv hN hSp).symm

set_option maxHeartbeats 1000000 in
/-- what l03Done hands back of a row of sparse digits -/
theorem spec6Done_any (v : Value) (l : List Int) (base : Nat) (w : World) (hA : AllS l) (hS : Spr l) (hown : w.ownsRow base 3 1 v l.length (intsOf l)) (hl : l.length ≤ 100000) :
    Calls Try.prog 45 #[v] w fun e w' => ∃ v', e = .returned (.tuple #[v', .bool (fits (spd (sv l)))]) ∧ w.ownsRow base 3 1 v' (if fits (spd (sv l)) then spd (sv l) else []).length (intsOf (if fits (spd (sv l)) then spd (sv l) else [])) ∧ w = w' := by
  obtain ⟨a, cap, rfl, h1, h2⟩ := owns_form hown
  unfold maxLen at h2
  have HT := Lib.hid (specTrim_any a cap l w (RowAt.of_owns hown) (by omega))
  have HW := Lib.hid (fun n (hn : n ≤ l.length) => owns_take hown hn)
  have HEQ := Lib.hid (fun n hn hz hla => trim_eqS hA hS (n := n) hn hz hla)
  obtain ⟨L, hL⟩ : ∃ L, L = spd (sv l) := ⟨_, rfl⟩
  rw [← hL] at HEQ ⊢
  obtain ⟨R, hR⟩ : ∃ R, R = (if fits L then L else []) := ⟨_, rfl⟩
  rw [← hR]
  obtain ⟨f, hf⟩ : ∃ f, f = fits L := ⟨_, rfl⟩
  rw [← hf]
  have HRf := Lib.hid hf; have HRR := Lib.hid hR
  clear hL hown hA hS hR hf
  go_enter Try.func45, Try.ntmps45
  go_wp2_with fail
  refine HT.out.mono ?_
  rintro e w' ⟨n, rfl, hn, hz, hlast, rfl⟩
  have e := HEQ.out n hn hz hlast
  have en : L.length = n := by rw [← e, List.length_take, Nat.min_eq_left hn]
  have HO := Lib.hid (show w.ownsRow base 3 1 (.slice a n cap) L.length (intsOf L) by rw [en, ← e, ← intsOf_take]; exact HW.out n hn)
  by_cases hf : n ≤ 60
  · have HF := Lib.hid (show f = true by rw [HRf.out]; simp [fits, en]; omega)
    have HR := Lib.hid (show R = L by rw [HRR.out, ← HRf.out, HF.out]; rfl)
    clear hz hlast e en HT HEQ HRf HRR
    go_wp2_with fail
    go_ret2
    exact ⟨_, by rw [HF.out]; rfl, by rw [HR.out]; exact HO.out, rfl⟩
  · have HF := Lib.hid (show f = false by rw [HRf.out]; simp [fits, en]; omega)
    have HR := Lib.hid (show R = [] by rw [HRR.out, ← HRf.out, HF.out]; rfl)
    clear hz hlast e en HT HEQ HRf HRR
    go_wp2_with fail
    go_ret2
    exact ⟨_, by rw [HF.out]; rfl, by rw [HR.out]; exact World.ownsRow_nil _ _ _ _, rfl⟩

/-- what a round holds -/
structure RwI (l : List Int) (k : Nat) (o : List Int) (c : Int) : Prop where
  len : o.length = k
  le : k ≤ l.length + 1
  fin : k = l.length + 1 → c = 0
  all : AllS o
  spr : Spr o
  c0 : -1 ≤ c
  c1 : c ≤ 1
  par : ∀ j, k = j + 1 → at0 o j ≠ 0 → (c + at0 l k) % 2 = 0
  val : sv o + 2 ^ k * (c + sv (l.drop k)) = sv l
theorem RwI.init (l : List Int) : RwI l 0 [] 0 := ⟨rfl, by omega, fun h => rfl, fun d hd => by simp at hd, fun j => .inl rfl, by omega, by omega, fun j h => by omega, by simp [sv_nil]⟩
theorem RwI.step {l : List Int} {k : Nat} {o : List Int} {c : Int} (h : RwI l k o c) (hA : AllS l) (hk : k ≤ l.length) : ∃ d c' : Int, RwI l (k + 1) (o ++ [d]) c' ∧ -1 ≤ d ∧ d ≤ 1 ∧ -1 ≤ c' ∧ c' ≤ 1 ∧
    ((at0 l k + c = 0 ∧ d = 0 ∧ c' = 0) ∨ (at0 l k + c = 2 ∧ d = 0 ∧ c' = 1) ∨ (at0 l k + c = -2 ∧ d = 0 ∧ c' = -1) ∨
      (at0 l k + c = 1 ∧ at0 l (k + 1) = 0 ∧ d = 1 ∧ c' = 0) ∨ (at0 l k + c = 1 ∧ at0 l (k + 1) = 1 ∧ d = -1 ∧ c' = 1) ∨ (at0 l k + c = 1 ∧ at0 l (k + 1) = -1 ∧ d = -1 ∧ c' = 1) ∨
      (at0 l k + c = -1 ∧ at0 l (k + 1) = 0 ∧ d = -1 ∧ c' = 0) ∨ (at0 l k + c = -1 ∧ at0 l (k + 1) = 1 ∧ d = 1 ∧ c' = -1) ∨ (at0 l k + c = -1 ∧ at0 l (k + 1) = -1 ∧ d = 1 ∧ c' = -1)) := by
  have hq := allS_at hA k
  have hy := allS_at hA (k + 1)
  have hat := sv_at l k
  have hfin : k = l.length → at0 l k = 0 ∧ at0 l (k + 1) = 0 := fun e => ⟨at0_ge (by omega), at0_ge (by omega)⟩
  have hc0 := h.c0; have hc1 := h.c1
  have hpar := h.par
  have key : ∃ d c' : Int, at0 l k + c = d + 2 * c' ∧ -1 ≤ d ∧ d ≤ 1 ∧ -1 ≤ c' ∧ c' ≤ 1 ∧ ((c + at0 l k) % 2 = 0 → d = 0) ∧ (d ≠ 0 → (c' + at0 l (k + 1)) % 2 = 0) ∧ (k = l.length → c' = 0) ∧
    ((at0 l k + c = 0 ∧ d = 0 ∧ c' = 0) ∨ (at0 l k + c = 2 ∧ d = 0 ∧ c' = 1) ∨ (at0 l k + c = -2 ∧ d = 0 ∧ c' = -1) ∨
      (at0 l k + c = 1 ∧ at0 l (k + 1) = 0 ∧ d = 1 ∧ c' = 0) ∨ (at0 l k + c = 1 ∧ at0 l (k + 1) = 1 ∧ d = -1 ∧ c' = 1) ∨ (at0 l k + c = 1 ∧ at0 l (k + 1) = -1 ∧ d = -1 ∧ c' = 1) ∨
      (at0 l k + c = -1 ∧ at0 l (k + 1) = 0 ∧ d = -1 ∧ c' = 0) ∨ (at0 l k + c = -1 ∧ at0 l (k + 1) = 1 ∧ d = 1 ∧ c' = -1) ∨ (at0 l k + c = -1 ∧ at0 l (k + 1) = -1 ∧ d = 1 ∧ c' = -1)) := by
    obtain ⟨q, hqe⟩ : ∃ q, q = at0 l k := ⟨_, rfl⟩
    obtain ⟨y, hye⟩ : ∃ y, y = at0 l (k + 1) := ⟨_, rfl⟩
    rw [← hqe] at hq hfin ⊢
    rw [← hye] at hy hfin ⊢
    have e : q + c = 0 ∨ q + c = 2 ∨ q + c = -2 ∨ q + c = 1 ∨ q + c = -1 := by omega
    have e2 : y = 0 ∨ y = 1 ∨ y = -1 := by omega
    rcases e with e | e | e | e | e
    · exact ⟨0, 0, by omega, by omega, by omega, by omega, by omega, fun h => by omega, fun h => by omega, fun hk => by have := hfin hk; omega, .inl ⟨e, rfl, rfl⟩⟩
    · exact ⟨0, 1, by omega, by omega, by omega, by omega, by omega, fun h => by omega, fun h => by omega, fun hk => by have := hfin hk; omega, .inr (.inl ⟨e, rfl, rfl⟩)⟩
    · exact ⟨0, -1, by omega, by omega, by omega, by omega, by omega, fun h => by omega, fun h => by omega, fun hk => by have := hfin hk; omega, .inr (.inr (.inl ⟨e, rfl, rfl⟩))⟩
    · rcases e2 with e2 | e2 | e2
      · exact ⟨1, 0, by omega, by omega, by omega, by omega, by omega, fun h => by omega, fun h => by omega, fun hk => by have := hfin hk; omega, .inr (.inr (.inr (.inl ⟨e, e2, rfl, rfl⟩)))⟩
      · exact ⟨-1, 1, by omega, by omega, by omega, by omega, by omega, fun h => by omega, fun h => by omega, fun hk => by have := hfin hk; omega, .inr (.inr (.inr (.inr (.inl ⟨e, e2, rfl, rfl⟩))))⟩
      · exact ⟨-1, 1, by omega, by omega, by omega, by omega, by omega, fun h => by omega, fun h => by omega, fun hk => by have := hfin hk; omega, .inr (.inr (.inr (.inr (.inr (.inl ⟨e, e2, rfl, rfl⟩)))))⟩
    · rcases e2 with e2 | e2 | e2
      · exact ⟨-1, 0, by omega, by omega, by omega, by omega, by omega, fun h => by omega, fun h => by omega, fun hk => by have := hfin hk; omega, .inr (.inr (.inr (.inr (.inr (.inr (.inl ⟨e, e2, rfl, rfl⟩))))))⟩
      · exact ⟨1, -1, by omega, by omega, by omega, by omega, by omega, fun h => by omega, fun h => by omega, fun hk => by have := hfin hk; omega, .inr (.inr (.inr (.inr (.inr (.inr (.inr (.inl ⟨e, e2, rfl, rfl⟩)))))))⟩
      · exact ⟨1, -1, by omega, by omega, by omega, by omega, by omega, fun h => by omega, fun h => by omega, fun hk => by have := hfin hk; omega, .inr (.inr (.inr (.inr (.inr (.inr (.inr (.inr (⟨e, e2, rfl, rfl⟩))))))))⟩
  obtain ⟨d, c', k1, k2, k3, k4, k5, k6, k7, k8, k9⟩ := key
  refine ⟨d, c', ⟨by rw [List.length_append, h.len]; rfl, by omega, fun e => k8 (by omega), allS_snoc h.all k2 k3, spr_snoc h.spr (fun j hj h0 => k6 (hpar j (by rw [← h.len]; exact hj) h0)), k4, k5, fun j hj h0 => ?_, ?_⟩, k2, k3, k4, k5, k9⟩
  · have : j = k := by omega
    subst this
    rw [at0_snoc, h.len, if_neg (by omega), if_pos rfl] at h0
    exact k7 h0
  · have hv := h.val
    rw [sv_snoc, h.len, Int.pow_succ]
    rw [hat] at hv
    rw [← hv]
    have e : c + (at0 l k + 2 * sv (l.drop (k + 1))) = d + 2 * (c' + sv (l.drop (k + 1))) := by omega
    rw [e, Int.mul_add (2 ^ k) d, Int.mul_assoc]; omega

set_option maxHeartbeats 8000000 in
theorem specRewriteSigned_any (v : Value) (l : List Int) (w : World) (hr : RowAt w v (intsOf l)) (hl : l.length ≤ 1048576) (hin : ∀ n ∈ l, in64 n) :
    Calls Try.prog 41 #[v] w fun e w' => ∃ v', e = .returned (.tuple #[v', .bool (rRewriteSigned1 l)]) ∧ w'.ownsRow w.heap.size 3 1 v' (rRewriteSigned0 l).length (intsOf (rRewriteSigned0 l)) ∧ Below w.heap.size w w' := by
  have H1 := Lib.hid (specSg_eq v l w hr hl hin)
  have HRow := Lib.hid hr
  obtain ⟨a, cap, rfl, h1, h2, h3⟩ := hr.ints
  unfold maxLen at h2
  clear h3 hr hin
  cases h : okS l
  · rw [h] at H1
    have E1 := Lib.hid (show rRewriteSigned1 l = false by rw [rRewriteSigned1, h]; rfl)
    have E0 := Lib.hid (show rRewriteSigned0 l = [] by rw [rRewriteSigned0, E1.out]; rfl)
    clear h
    go_enter Try.func41, Try.ntmps41
    go_wp2_with fail
    refine H1.out.mono ?_
    rintro e w' ⟨rfl, rfl⟩
    go_wp2_with fail
    go_ret2
    exact ⟨_, by rw [E1.out]; rfl, by rw [E0.out]; exact World.ownsRow_nil _ _ _ _, Below.refl _ _⟩
  · rw [h] at H1
    obtain ⟨hN, hl60⟩ := okS_yes h
    have HALL := Lib.hid hN.1
    have HE1 := Lib.hid (show rRewriteSigned1 l = fits (spd (sv l)) by rw [rRewriteSigned1, h]; rfl)
    have HE0 := Lib.hid (show rRewriteSigned0 l = if fits (spd (sv l)) then spd (sv l) else [] by rw [rRewriteSigned0, HE1.out])
    have HAT := Lib.hid (fun k W (hk : k ≤ 2000000) (hW : Below w.heap.size w W) => specAt_any _ l k W (HRow.out.below hW) hl hk)
    obtain ⟨i0, hi, hz0, hz1, hz2⟩ := info_parts infoInt
    clear h hN
    go_enter Try.func41, Try.ntmps41
    go_wp2_with fail
    refine H1.out.mono ?_
    rintro e w' ⟨rfl, rfl⟩
    go_wp2_with fail
    go_loopw [4, 5, 6] (fun v cy i wr => ∃ (k : Nat) (o : List Int) (c : Int), i = .int .i64 k ∧ cy = .int .i64 c ∧ RwI l k o c ∧ wr.ownsRow w.heap.size 3 1 v o.length (intsOf o) ∧ Below w.heap.size w wr) (fun _ _ i _ => l.length + 1 - (intOf i).toNat)
    case atStart => exact ⟨0, [], 0, rfl, rfl, RwI.init l, World.ownsRow_lit w #[] 0 (Nat.le_refl _) (by decide) rfl, (Below.refl _ _).alloc (Nat.le_refl _) _⟩
    case round =>
      obtain ⟨k, o, c, rfl, rfl, hI, hown, hB⟩ := hrel
      have hsz := hB.size
      have hc0 := hI.c0; have hc1 := hI.c1
      by_cases hgo : (k : Int) < l.length ∨ (¬ (k : Int) < l.length ∧ c ≠ 0)
      · have hkl : k ≤ l.length := by
          have h1 := hI.fin; have h2 := hI.le
          rcases hgo with h3 | ⟨_, h3⟩
          · omega
          · rcases Nat.lt_or_ge l.length k with h4 | h4
            · exact absurd (h1 (by omega)) h3
            · exact h4
        obtain ⟨d, c', hI', g1, g2, g3, g4, hcase⟩ := hI.step HALL.out hkl
        have hq := allS_at HALL.out k
        have HA1 := Lib.hid (HAT.out k wr (by omega) hB)
        have HA2 := Lib.hid (HAT.out (k + 1) wr (by omega) hB)
        have hol : o.length ≤ 100 := by have := hI.len; omega
        obtain ⟨q, hqe⟩ : ∃ q, q = at0 l k := ⟨_, rfl⟩
        obtain ⟨y, hye⟩ : ∃ y, y = at0 l (k + 1) := ⟨_, rfl⟩
        rw [← hqe] at hq hcase HA1
        rw [← hye] at hcase HA2
        have HI' := Lib.hid hI'
        have hks : ((k + 1 : Nat) : Int) = (k : Int) + 1 := by omega
        rw [hks] at HA2
        have hk100 : (k : Int) ≤ 100 := by omega
        have hguard : ((k : Int) < l.length) ∨ (¬ ((k : Int) < l.length) ∧ (c != 0) = true) := by
          rcases hgo with h3 | ⟨h3, h4⟩
          · exact .inl h3
          · exact .inr ⟨h3, by simp [h4]⟩
        clear hI hI' hqe hye hks hgo g1 g2 g3 g4
        rcases hguard with hgd | ⟨hgd, hgc⟩
        all_goals
          rcases hcase with ⟨e1, rfl, rfl⟩ | ⟨e1, rfl, rfl⟩ | ⟨e1, rfl, rfl⟩ | hcase
          case' inl | inr.inl | inr.inr.inl =>
            go_wp2_with fail
            refine HA1.out.mono ?_
            rintro e w' ⟨rfl, rfl⟩
            go_wp2_with (at_builtin; refine wpList_append_own_at _ rfl _ _ 22 rfl w.heap.size 3 i0 (.int .i64 0) 1 8 Try.underlying22 hi hz0 hz1 hz2 rfl (by decide) _ _ _ rfl (hown.alloc _) ⟨wr.heap.size, 0, none⟩ 1 1 [.int .i64 _] rfl rfl (one_cell _ _ _) (by intro u hu; simp at hu; subst hu; rfl) (by unfold maxLen; omega) (by omega) (by simp; omega) ?_)
            intro v' w1 hown' hgrow _ _
            have hB1 := (hB.alloc hsz _).grown hgrow (by simp; omega) (fun j hj => (hown.lt j hj).1)
            have HO := Lib.hid hown'
            clear hown' hgrow
            go_wp2_with fail
            go_roundw
            case rel => exact ⟨k + 1, _, _, by go_num, rfl, HI'.out, by simpa [intsOf] using HO.out, hB1⟩
            case measure => simp [intOf]; omega
          rcases hcase with ⟨e1, rfl, rfl, rfl⟩ | ⟨e1, rfl, rfl, rfl⟩ | ⟨e1, rfl, rfl, rfl⟩ | ⟨e1, rfl, rfl, rfl⟩ | ⟨e1, rfl, rfl, rfl⟩ | ⟨e1, rfl, rfl, rfl⟩
          all_goals
            go_wp2_with fail
            refine HA1.out.mono ?_
            rintro e w' ⟨rfl, rfl⟩
            go_wp2_with fail
            refine HA2.out.mono ?_
            rintro e w' ⟨rfl, rfl⟩
            go_wp2_with (at_builtin; refine wpList_append_own_at _ rfl _ _ 22 rfl w.heap.size 3 i0 (.int .i64 0) 1 8 Try.underlying22 hi hz0 hz1 hz2 rfl (by decide) _ _ _ rfl (hown.alloc _) ⟨wr.heap.size, 0, none⟩ 1 1 [.int .i64 _] rfl rfl (one_cell _ _ _) (by intro u hu; simp at hu; subst hu; rfl) (by unfold maxLen; omega) (by omega) (by simp; omega) ?_)
            intro v' w1 hown' hgrow _ _
            have hB1 := (hB.alloc hsz _).grown hgrow (by simp; omega) (fun j hj => (hown.lt j hj).1)
            have HO := Lib.hid hown'
            clear hown' hgrow
            go_wp2_with fail
            go_roundw
            case rel => exact ⟨k + 1, _, _, by go_num, rfl, HI'.out, by simpa [intsOf] using HO.out, hB1⟩
            case measure => simp [intOf]; omega
      · have hI0 : ¬ (k : Int) < l.length ∧ c = 0 := by
          by_cases h3 : (k : Int) < l.length
          · exact absurd (.inl h3) hgo
          · refine ⟨h3, ?_⟩
            by_cases h4 : c = 0
            · exact h4
            · exact absurd (.inr ⟨h3, h4⟩) hgo
        obtain ⟨hg1, rfl⟩ := hI0
        have hval := hI.val
        rw [List.drop_of_length_le (by omega), sv_nil, Int.zero_add, Int.mul_zero, Int.add_zero] at hval
        have HD := Lib.hid (spec6Done_any _ o w.heap.size wr hI.all hI.spr hown (by have := hI.len; have := hI.le; omega))
        rw [hval, ← HE0.out, ← HE1.out] at HD
        have hq0 : ((0 : Int) != 0) = false := rfl
        clear hI hval hgo
        go_wp2_with fail
        refine HD.out.mono ?_
        rintro e w2 ⟨v', rfl, ho, rfl⟩
        have HO := Lib.hid ho
        clear ho hown HD
        obtain ⟨av, cv, e3, _, _⟩ := owns_form HO.out
        subst e3
        go_wp2_with fail
        go_ret2
        exact ⟨_, rfl, HO.out, hB⟩

end Go.Proofs.Ytdflpocnfodbhac
