/- Digits: what the digits of a number and the value of digits have to do with each other. -/
import Derived.Test.YtleadjkndciniaaDoorDgS
set_option linter.unusedVariables false
set_option linter.unusedSimpArgs false
set_option maxRecDepth 100000
namespace Go.Proofs.YtleadjkndciniaaDoor

/-- all digits are digits in base b -/
def AllD (b : Nat) (l : List Int) : Prop := ∀ d ∈ l, 0 ≤ d ∧ d ≤ (b : Int) - 1

theorem hv_dg {b : Nat} (hb : 2 ≤ b) : ∀ (k n : Nat), n ≤ k → hv b (dg b n) = n
  | 0, n, h => by
    have : n = 0 := by omega
    subst this; rfl
  | k + 1, n, h => by
    by_cases h0 : n = 0
    · subst h0; rfl
    · have hlt := div_lt' hb h0
      rw [dg_step hb h0, hv_cons, hv_dg hb k (n / b) (by omega)]
      exact_mod_cast Nat.mod_add_div n b

theorem dg_nil {b n : Nat} (hb : 2 ≤ b) (h : dg b n = []) : n = 0 := by
  have := hv_dg hb n n (Nat.le_refl _)
  rw [h, hv_nil] at this; omega

theorem dg_last {b : Nat} (hb : 2 ≤ b) : ∀ (k n : Nat), n ≤ k → dg b n = [] ∨ (dg b n).getLast? ≠ some 0
  | 0, n, h => by
    have : n = 0 := by omega
    subst this; exact .inl rfl
  | k + 1, n, h => by
    by_cases h0 : n = 0
    · subst h0; exact .inl rfl
    · have hlt := div_lt' hb h0
      right
      rw [dg_step hb h0]
      have ih := dg_last hb k (n / b) (by omega)
      cases e : dg b (n / b) with
      | nil =>
        have hq : n / b = 0 := dg_nil hb e
        have hm : n % b = n := Nat.mod_eq_of_lt (by
          rcases Nat.lt_or_ge n b with h | h
          · exact h
          · have := Nat.div_pos h (by omega); omega)
        simp; omega
      | cons y l =>
        rw [e] at ih
        rw [List.getLast?_cons_cons]
        exact ih.resolve_left (by simp)

theorem okD_dg {b n : Nat} (hb : 2 ≤ b) (hb16 : b ≤ 16) (hn : n ≤ 1000000000000) : okD (dg b n) b = true := by
  simp only [okD, Bool.and_eq_true, decide_eq_true_eq]
  exact ⟨⟨⟨okB_mk ⟨by omega, by omega⟩, by have := dg_len40 hb hn; omega⟩, dg_digits hb n n (Nat.le_refl _)⟩, dg_last hb n n (Nat.le_refl _)⟩

theorem hv_nonneg' {b : Nat} {l : List Int} (h : AllD b l) : 0 ≤ hv b l := hv_nonneg (by omega) l (fun d hd => (h d hd).1)

/-- the digits of a value -/
theorem dg_hv_cons {b : Nat} (hb : 2 ≤ b) {d : Int} {l : List Int} (h : AllD b (d :: l)) :
    dg b (hv b (d :: l)).toNat = if hv b (d :: l) = 0 then [] else d :: dg b (hv b l).toNat := by
  have hl : AllD b l := fun x hx => h x (List.mem_cons_of_mem _ hx)
  have hd := h d (by simp)
  have h0 := hv_nonneg' hl
  obtain ⟨H, hH⟩ : ∃ H : Nat, hv b l = H := ⟨(hv b l).toNat, by omega⟩
  obtain ⟨D, hD⟩ : ∃ D : Nat, d = D := ⟨d.toNat, by omega⟩
  have e : hv b (d :: l) = ((D + b * H : Nat) : Int) := by rw [hv_cons, hH, hD]; simp
  rw [e, hH, Int.toNat_natCast, Int.toNat_natCast]
  by_cases hz : D + b * H = 0
  · rw [hz]; simp [dg_zero]
  · have hz' : ¬ ((D + b * H : Nat) : Int) = 0 := by omega
    rw [if_neg hz', dg_step hb hz]
    have hlt : D < b := by omega
    rw [Nat.add_mul_mod_self_left, Nat.mod_eq_of_lt hlt, Nat.add_mul_div_left _ _ (by omega), Nat.div_eq_of_lt hlt, Nat.zero_add, hD]

theorem hv_zero_all {b : Nat} (hb : 2 ≤ b) : ∀ {l : List Int}, AllD b l → hv b l = 0 → ∀ d ∈ l, d = 0
  | [], _, _, d, hd => by simp at hd
  | x :: l, h, hz, d, hd => by
    have hl : AllD b l := fun y hy => h y (List.mem_cons_of_mem _ hy)
    have hx := h x (by simp)
    have h0 := hv_nonneg' hl
    rw [hv_cons] at hz
    have hm : 0 ≤ (b : Int) * hv b l := Int.mul_nonneg (by omega) h0
    have hz2 : (b : Int) * hv b l = 0 := by omega
    have hz3 : hv b l = 0 := by
      rcases Int.mul_eq_zero.1 hz2 with e | e
      · omega
      · exact e
    rcases List.mem_cons.1 hd with rfl | hd
    · omega
    · exact hv_zero_all hb hl hz3 d hd

theorem sum_zero : ∀ {l : List Int}, (∀ d ∈ l, d = 0) → l.sum = 0
  | [], _ => rfl
  | x :: l, h => by
    rw [List.sum_cons, h x (by simp), sum_zero (fun d hd => h d (List.mem_cons_of_mem _ hd))]; rfl

theorem dg_hv_sum {b : Nat} (hb : 2 ≤ b) : ∀ {l : List Int}, AllD b l → (dg b (hv b l).toNat).sum = l.sum
  | [], _ => rfl
  | d :: l, h => by
    rw [dg_hv_cons hb h]
    split
    · rename_i hz
      rw [sum_zero (hv_zero_all hb h hz)]; rfl
    · rw [List.sum_cons, List.sum_cons, dg_hv_sum hb (fun y hy => h y (List.mem_cons_of_mem _ hy))]

theorem dg_hv_len {b : Nat} (hb : 2 ≤ b) : ∀ {l : List Int}, AllD b l → (dg b (hv b l).toNat).length ≤ l.length
  | [], _ => Nat.le_refl _
  | d :: l, h => by
    rw [dg_hv_cons hb h]
    split
    · simp
    · have := dg_hv_len hb (l := l) (fun y hy => h y (List.mem_cons_of_mem _ hy))
      simp; omega

theorem dg_hv_same {b : Nat} (hb : 2 ≤ b) : ∀ {l : List Int}, AllD b l → (l = [] ∨ l.getLast? ≠ some 0) → dg b (hv b l).toNat = l
  | [], _, _ => rfl
  | d :: l, h, hlast => by
    have hl : AllD b l := fun y hy => h y (List.mem_cons_of_mem _ hy)
    have hlast' : (d :: l).getLast? ≠ some 0 := hlast.resolve_left (by simp)
    rw [dg_hv_cons hb h]
    have hnz : ¬ hv b (d :: l) = 0 := fun hz => by
      have := hv_zero_all hb h hz
      apply hlast'
      rw [List.getLast?_eq_some_getLast (by simp)]
      congr 1
      exact this _ (List.getLast_mem _)
    rw [if_neg hnz]
    congr 1
    refine dg_hv_same hb hl ?_
    cases l with
    | nil => exact .inl rfl
    | cons y m => right; rwa [List.getLast?_cons_cons] at hlast'

theorem hv_snoc_zero (b : Int) : ∀ l : List Int, hv b (l ++ [0]) = hv b l
  | [] => by simp [hv_cons, hv_nil]
  | d :: l => by
    rw [List.cons_append, hv_cons, hv_cons, hv_snoc_zero b l]

theorem allD_reverse {b : Nat} {l : List Int} (h : AllD b l) : AllD b l.reverse := fun d hd => h d (List.mem_reverse.1 hd)

/-! ### the reversed digits of a number -/
theorem rev_len {b n : Nat} (hb : 2 ≤ b) : ((n % b ≠ 0 ∨ n = 0) ↔ (dg b (hv b (dg b n).reverse).toNat).length = (dg b n).length) := by
  have hA : AllD b (dg b n) := dg_digits hb n n (Nat.le_refl _)
  by_cases h0 : n = 0
  · subst h0; simp [dg_zero, hv_nil]
  · rw [dg_step hb h0] at hA ⊢
    rw [List.reverse_cons]
    have hR : AllD b ((dg b (n / b)).reverse ++ [((n % b : Nat) : Int)]) := by
      have := allD_reverse hA
      rwa [List.reverse_cons] at this
    by_cases hm : n % b = 0
    · have hlt : (dg b (hv b ((dg b (n / b)).reverse ++ [((n % b : Nat) : Int)])).toNat).length < (((n % b : Nat) : Int) :: dg b (n / b)).length := by
        rw [hm, Int.natCast_zero, hv_snoc_zero]
        have := dg_hv_len hb (l := (dg b (n / b)).reverse) (fun d hd => hR d (List.mem_append.2 (.inl hd)))
        rw [List.length_reverse] at this
        rw [List.length_cons]; omega
      constructor
      · rintro (h | h)
        · exact absurd hm h
        · exact absurd h h0
      · intro h; omega
    · have := dg_hv_same hb hR (.inr (by rw [List.getLast?_append]; simp; omega))
      rw [this]
      simp [hm]

theorem rev_back {b n : Nat} (hb : 2 ≤ b) (h : n % b ≠ 0) : dg b (hv b (dg b n).reverse).toNat = (dg b n).reverse := by
  have hA : AllD b (dg b n) := dg_digits hb n n (Nat.le_refl _)
  have h0 : n ≠ 0 := fun e => by subst e; simp at h
  refine dg_hv_same hb (allD_reverse hA) (.inr ?_)
  rw [dg_step hb h0, List.reverse_cons, List.getLast?_append]
  simp; omega

theorem rev_sum {b n : Nat} (hb : 2 ≤ b) : (dg b (hv b (dg b n).reverse).toNat).sum = (dg b n).sum := by
  have hA : AllD b (dg b n) := dg_digits hb n n (Nat.le_refl _)
  rw [dg_hv_sum hb (allD_reverse hA), List.sum_reverse]

end Go.Proofs.YtleadjkndciniaaDoor
