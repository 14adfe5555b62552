/- Fibonacci places: shifted digits and pairs: what is below and above a number times the golden ratio, without it. -/
import Derived.Test.YtkimojjhmllnfaaFbM
set_option linter.unusedVariables false
set_option linter.unusedSimpArgs false
set_option maxRecDepth 100000
namespace Go.Proofs.Ytkimojjhmllnfaa

/-- x is less than y times the golden ratio; x is greater -/
def Lp (x y : Nat) : Prop := x * x < x * y + y * y
def Gp (x y : Nat) : Prop := x * y + y * y < x * x
theorem sq_add (x y : Nat) : (x + y) * (x + y) = x * x + (x * y + x * y) + y * y := by
  rw [Nat.add_mul, Nat.mul_add, Nat.mul_add, Nat.mul_comm y x]; omega
theorem gp_shift {x y : Nat} : Gp (x + y) x ↔ Lp x y := by
  unfold Gp Lp
  rw [sq_add, Nat.add_mul, Nat.mul_comm y x]; omega
theorem lp_shift {x y : Nat} : Lp (x + y) x ↔ Gp x y := by
  unfold Gp Lp
  rw [sq_add, Nat.add_mul, Nat.mul_comm y x]; omega
theorem lp_two {x y : Nat} (h : Lp x y) : x ≤ 2 * y := by
  unfold Lp at h
  rcases Nat.lt_or_ge (2 * y) x with hx | hx
  · exfalso
    have h1 : (2 * y) * x ≤ x * x := Nat.mul_le_mul_right x (Nat.le_of_lt hx)
    have h2 : y * (2 * y) ≤ y * x := Nat.mul_le_mul_left y (Nat.le_of_lt hx)
    rw [Nat.mul_assoc] at h1
    rw [Nat.mul_left_comm] at h2
    rw [Nat.mul_comm x y] at h
    omega
  · exact hx
theorem gp_one {x y : Nat} (h : Gp x y) : y < x := by
  unfold Gp at h
  rcases Nat.lt_or_ge y x with hx | hx
  · exact hx
  · exfalso
    have h1 : x * x ≤ x * y := Nat.mul_le_mul_left x hx
    omega
theorem sq_succ (x : Nat) : (x + 1) * (x + 1) = x * x + 2 * x + 1 := by
  rw [sq_add]; simp; omega
theorem mul_succ2 (x y : Nat) : (x + 1) * (y + 1) = x * y + x + y + 1 := by
  rw [Nat.add_mul, Nat.mul_add]; simp; omega
theorem lp_inc {x y : Nat} (h : Lp x y) : Lp (x + 1) (y + 1) := by
  have h2 := lp_two h
  unfold Lp at h ⊢
  rw [sq_succ, mul_succ2, sq_succ]; omega
theorem gp_dec {x y : Nat} (h : Gp (x + 1) (y + 1)) : Gp x y := by
  unfold Gp at h ⊢
  rw [sq_succ, mul_succ2, sq_succ] at h
  rcases Nat.lt_or_ge (3 * y + 1) x with hx | hx
  · have h1 : (3 * y) * x ≤ x * x := Nat.mul_le_mul_right x (by omega)
    have h2 : y * (3 * y) ≤ y * x := Nat.mul_le_mul_left y (by omega)
    have h3 : x * 1 ≤ x * x := Nat.mul_le_mul_left x (by omega)
    rw [Nat.mul_assoc] at h1
    rw [Nat.mul_left_comm] at h2
    rw [Nat.mul_comm x y]
    by_cases hy : y = 0
    · subst hy; simp; omega
    · have h4 : 1 * 1 ≤ y * y := Nat.mul_le_mul (by omega) (by omega)
      omega
  · omega
theorem gp_mono {x y : Nat} (h : Gp x y) : Gp (x + 1) y := by
  have h1 := gp_one h
  unfold Gp at h ⊢
  rw [sq_succ, Nat.add_mul]; omega
theorem gp_le {x z y : Nat} (h : Gp x y) (hz : x ≤ z) : Gp z y := by
  induction hz with
  | refl => exact h
  | step _ ih => exact gp_mono ih
theorem lg_no {x y : Nat} (h1 : Lp x y) (h2 : Gp x y) : False := by unfold Lp at h1; unfold Gp at h2; omega
/-- between them lies one number -/
theorem phi_unique {x z y : Nat} (h1 : Lp x y) (h2 : Gp (x + 1) y) (h3 : Lp z y) (h4 : Gp (z + 1) y) : x = z := by
  rcases Nat.lt_trichotomy x z with h | h | h
  · exact (lg_no h3 (gp_le h2 h)).elim
  · exact h
  · exact (lg_no h1 (gp_le h4 h)).elim
/-- the equation has no solution -/
theorem no_eq : ∀ (n x y : Nat), y ≤ n → 1 ≤ y → x * x ≠ x * y + y * y := by
  intro n
  induction n with
  | zero => intro x y h h1; omega
  | succ n ih =>
    intro x y hy h1 e
    have hyx : y < x := by
      rcases Nat.lt_or_ge y x with hx | hx
      · exact hx
      · exfalso
        have h2 : x * x ≤ x * y := Nat.mul_le_mul_left x hx
        have h3 : 1 * 1 ≤ y * y := Nat.mul_le_mul h1 h1
        omega
    have hx2 : x < 2 * y := by
      rcases Nat.lt_or_ge x (2 * y) with hx | hx
      · exact hx
      · exfalso
        have h2 : (2 * y) * x ≤ x * x := Nat.mul_le_mul_right x hx
        have h3 : y * (2 * y) ≤ y * x := Nat.mul_le_mul_left y hx
        have h4 : 1 * 1 ≤ y * y := Nat.mul_le_mul h1 h1
        rw [Nat.mul_assoc] at h2
        rw [Nat.mul_left_comm] at h3
        rw [Nat.mul_comm x y] at e
        omega
    obtain ⟨z, rfl⟩ : ∃ z, x = y + z := ⟨x - y, by omega⟩
    refine ih y z (by omega) (by omega) ?_
    rw [sq_add, Nat.add_mul, Nat.mul_comm z y] at e
    omega
/-- the pair's first number by a square root -/
theorem phi_root {k r : Nat} (hk : 1 ≤ k) (h1 : r * r ≤ 5 * (k * k)) (h2 : 5 * (k * k) < (r + 1) * (r + 1)) : Lp ((k + r) / 2) k ∧ Gp ((k + r) / 2 + 1) k := by
  obtain ⟨a, ha⟩ : ∃ a, a = (k + r) / 2 := ⟨_, rfl⟩
  have a1 : 2 * a ≤ k + r := by omega
  have a2 : k + r ≤ 2 * a + 1 := by omega
  have hrk : k ≤ r := by
    rcases Nat.lt_or_ge r k with h | h
    · have : (r + 1) * (r + 1) ≤ k * k := Nat.mul_le_mul h h
      omega
    · exact h
  have hak : k ≤ 2 * a := by omega
  obtain ⟨t, ht⟩ : ∃ t, 2 * a = k + t := ⟨2 * a - k, by omega⟩
  have htr : t * t ≤ r * r := Nat.mul_le_mul (by omega) (by omega)
  have e : (2 * a) * (2 * a) = k * k + (k * t + k * t) + t * t := by rw [ht, sq_add]
  have e2 : (2 * a) * k = k * k + k * t := by rw [ht, Nat.add_mul, Nat.mul_comm t k]
  have e3 : (2 * a) * (2 * a) = 4 * (a * a) := by rw [Nat.mul_mul_mul_comm]
  have e4 : (2 * a) * k = 2 * (a * k) := Nat.mul_assoc _ _ _
  rw [← ha]
  refine ⟨?_, ?_⟩
  · unfold Lp
    have := no_eq k a k (Nat.le_refl _) hk
    omega
  · unfold Gp
    have h3 : (r + 1) * (r + 1) ≤ (t + 2) * (t + 2) := Nat.mul_le_mul (by omega) (by omega)
    have e5 : (t + 2) * (t + 2) = t * t + (t * 2 + t * 2) + 4 := by rw [sq_add]
    rw [sq_succ, Nat.add_mul, Nat.one_mul]
    omega

/-! ### shifted digits -/
/-- the value of digits that begin with the least place, counted from a place on -/
def vL : Nat → List Int → Nat
  | _, [] => 0
  | k, d :: t => d.toNat * fp k + vL (k + 1) t
theorem vL_add : ∀ (l : List Int) (k : Nat), vL (k + 2) l = vL k l + vL (k + 1) l
  | [], _ => rfl
  | d :: t, k => by
    rw [vL, vL, vL, fp_s, vL_add t (k + 1), Nat.mul_add]; omega
/-- the number and the shifted one stand to each other as 1 to the golden ratio, nearly -/
theorem shift_phi : ∀ {l : List Int}, B01 l → Lp (vL 1 l + 1) (vL 0 l + 1) ∧ Gp (vL 1 l + 2) (vL 0 l + 1)
  | [], _ => by simp [vL, Lp, Gp]
  | d :: t, h => by
    obtain ⟨i1, i2⟩ := shift_phi (b01_tail h)
    have ha := vL_add t 0
    obtain ⟨N, hN⟩ : ∃ N, N = vL 0 t := ⟨_, rfl⟩
    obtain ⟨S, hS⟩ : ∃ S, S = vL 1 t := ⟨_, rfl⟩
    rw [← hN, ← hS] at i1 i2
    rw [← hN, Nat.zero_add, Nat.zero_add, ← hS] at ha
    rcases b01_head h with rfl | rfl
    · have e0 : vL 0 ((0 : Int) :: t) = S := by simp [vL, hS]
      have e1 : vL 1 ((0 : Int) :: t) = S + N := by simp [vL]; omega
      rw [e0, e1]
      refine ⟨?_, ?_⟩
      · have := (lp_shift (x := S + 1) (y := N)).2 (gp_dec i2)
        rwa [show S + 1 + N = S + N + 1 by omega] at this
      · have := (gp_shift (x := S + 1) (y := N + 1)).2 i1
        rwa [show S + 1 + (N + 1) = S + N + 2 by omega] at this
    · have e0 : vL 0 ((1 : Int) :: t) = S + 1 := by simp [vL, fp, hS]; omega
      have e1 : vL 1 ((1 : Int) :: t) = S + N + 2 := by simp [vL, fp]; omega
      rw [e0, e1]
      refine ⟨?_, ?_⟩
      · have := (lp_shift (x := S + 2) (y := N + 1)).2 i2
        rwa [show S + 2 + (N + 1) = S + N + 2 + 1 by omega] at this
      · have := (gp_shift (x := S + 2) (y := N + 2)).2 (lp_inc i1)
        rwa [show S + 2 + (N + 2) = S + N + 2 + 2 by omega] at this
/-- all lists of a number are shifted to one number -/
theorem shift_unique {a b : List Int} (ha : B01 a) (hb : B01 b) (h : vL 0 a = vL 0 b) : vL 1 a = vL 1 b := by
  obtain ⟨a1, a2⟩ := shift_phi ha
  obtain ⟨b1, b2⟩ := shift_phi hb
  rw [← h] at b1 b2
  have := phi_unique a1 a2 b1 b2
  omega
/-- the first number of a pair is one more than the shifted one ahead of its index -/
theorem pair_shift {l : List Int} {a k : Nat} (hl : B01 l) (hk : vL 0 l + 1 = k) (h1 : Lp a k) (h2 : Gp (a + 1) k) : vL 1 l + 1 = a := by
  obtain ⟨a1, a2⟩ := shift_phi hl
  rw [hk] at a1 a2
  exact phi_unique a1 a2 h1 h2
/-- the second number of a pair is the first one shifted -/
theorem pair_second {l : List Int} {a k : Nat} (hl : B01 l) (ha : vL 0 l = a) (h1 : Lp a k) (h2 : Gp (a + 1) k) : vL 1 l = a + k := by
  obtain ⟨a1, a2⟩ := shift_phi hl
  rw [ha] at a1 a2
  have b1 := (lp_shift (x := a + 1) (y := k)).2 h2
  have b2 := (gp_shift (x := a + 1) (y := k + 1)).2 (lp_inc h1)
  have := phi_unique a1 a2 (z := a + k + 1) (by rwa [show a + 1 + k = a + k + 1 by omega] at b1) (by rwa [show a + 1 + (k + 1) = a + k + 1 + 1 by omega] at b2)
  omega
theorem pair_next {a c k : Nat} (h1 : Lp a k) (h3 : Gp (c + 1) (k + 1)) : a < c := by
  rcases Nat.lt_or_ge a c with h | h
  · exact h
  · exact (lg_no (lp_inc h1) (gp_le h3 (by omega))).elim

/-! ### the first digits of a number that is one more than a shifted one -/
/-- no two 1 follow each other, from the least place on -/
def zrs : List Int → Nat
  | [] => 0
  | d :: t => if d = 0 then zrs t + 1 else 0
/-- a 1 ahead of a sparse list, made sparse -/
theorem one_ahead : ∀ (n : Nat) {l : List Int}, l.length ≤ n → B01 l → NoP 1 l → ∃ s, B01 s ∧ NoP 1 s ∧ (∀ k, vL k s = vL k (1 :: l)) ∧ zrs s % 2 = 0 ∧ (∃ j, zrs s = j ∧ 1 ∈ s) := by
  intro n
  induction n with
  | zero =>
    intro l hn hb hp
    have : l = [] := List.eq_nil_of_length_eq_zero (by omega)
    subst this
    exact ⟨[1], b01_cons (.inr rfl) hb, trivial, fun k => rfl, rfl, _, rfl, by simp⟩
  | succ n ih =>
    intro l hn hb hp
    cases l with
    | nil => exact ⟨[1], b01_cons (.inr rfl) hb, trivial, fun k => rfl, rfl, _, rfl, by simp⟩
    | cons d t =>
      rcases b01_head hb with rfl | rfl
      · exact ⟨1 :: 0 :: t, b01_cons (.inr rfl) hb, ⟨by omega, hp⟩, fun k => rfl, rfl, _, rfl, by simp⟩
      · cases t with
        | nil =>
          refine ⟨[0, 0, 1], fun d hd => by simp at hd; omega, ⟨by omega, by omega, trivial⟩, fun k => ?_, rfl, _, rfl, by simp⟩
          simp [vL, fp_s]
        | cons e t =>
          have he : e = 0 := by
            rcases b01_head (b01_tail hb) with rfl | rfl
            · rfl
            · exact absurd ⟨rfl, rfl⟩ hp.1
          subst he
          obtain ⟨s, i1, i2, i3, i4, j, i5, i6⟩ := ih (l := t) (by simp at hn; omega) (b01_tail (b01_tail hb)) (noP_tail (noP_tail hp))
          refine ⟨0 :: 0 :: s, b01_cons (.inl rfl) (b01_cons (.inl rfl) i1), noP_zero (noP_zero i2), fun k => ?_, ?_, _, rfl, by simp [i6]⟩
          · simp [vL, i3, fp_s, Nat.add_assoc]
          · simp [zrs]; omega

end Go.Proofs.Ytkimojjhmllnfaa
