/- Balanced digits: plain functions and facts: the balanced digits of an integer, their value and order. -/
import Derived.Test.YtiemhhkoegkleaaLgR
import Derived.Test.YtiemhhkoegkleaaNgM
set_option linter.unusedVariables false
set_option linter.unusedSimpArgs false
set_option maxRecDepth 100000
namespace Go.Proofs.Ytiemhhkoegkleaa

/-- balanced digits in base 2 h + 1, at most f of them -/
def bdF (h : Nat) : Nat → Int → List Int
  | 0, _ => []
  | f + 1, n => if n = 0 then [] else ((n + h) % (2 * h + 1) - h) :: bdF h f ((n + h) / (2 * h + 1))
def bd (h : Nat) (n : Int) : List Int := bdF h n.natAbs n

theorem bdF_zero (h f : Nat) : bdF h f 0 = [] := by cases f <;> rfl
theorem bdF_succ {h f : Nat} {n : Int} (hn : n ≠ 0) : bdF h (f + 1) n = ((n + h) % (2 * h + 1) - h) :: bdF h f ((n + h) / (2 * h + 1)) := by simp only [bdF, if_neg hn]
/-- one place -/
theorem bd_facts {h : Nat} (hh : 1 ≤ h) (n : Int) : ((n + h) % (2 * h + 1) - h) + (2 * h + 1) * ((n + h) / (2 * h + 1)) = n ∧ -(h : Int) ≤ (n + h) % (2 * h + 1) - h ∧ (n + h) % (2 * h + 1) - h ≤ h := by
  have h1 : (n + h) % (2 * h + 1) + (2 * h + 1) * ((n + h) / (2 * h + 1)) = n + h := Int.emod_add_mul_ediv (n + h) (2 * h + 1)
  have h2 : 0 ≤ (n + h) % (2 * (h : Int) + 1) := Int.emod_nonneg _ (by omega)
  have h3 : (n + h) % (2 * (h : Int) + 1) < 2 * h + 1 := Int.emod_lt_of_pos _ (by omega)
  exact ⟨by omega, by omega, by omega⟩
/-- what is left -/
theorem bd_quo {h : Nat} (hh : 1 ≤ h) (n : Int) : 3 * ((n + h) / (2 * h + 1)).natAbs ≤ n.natAbs + 1 := by
  obtain ⟨h1, h2, h3⟩ := bd_facts hh n
  obtain ⟨q, hq⟩ : ∃ q, q = (n + h) / (2 * (h : Int) + 1) := ⟨_, rfl⟩
  rw [← hq] at h1 ⊢
  rcases ltgeZ q 0 with h0 | h0
  · have h5 : (2 : Int) * (-q - 1) ≤ 2 * h * (-q - 1) := by
      have := Int.mul_le_mul_of_nonneg_right (show (2 : Int) ≤ 2 * h by omega) (show 0 ≤ -q - 1 by omega)
      exact this
    have h6 : (2 * (h : Int) + 1) * q = 2 * h * q + q := by rw [Int.add_mul, Int.one_mul]
    have h7 : 2 * (h : Int) * (-q - 1) = -(2 * h * q) - 2 * h := by rw [Int.mul_sub, Int.mul_neg, Int.mul_one]
    omega
  · rcases ltgeZ 0 q with h8 | h8
    · have h5 : (2 : Int) * (q - 1) ≤ 2 * h * (q - 1) := by
        have := Int.mul_le_mul_of_nonneg_right (show (2 : Int) ≤ 2 * h by omega) (show 0 ≤ q - 1 by omega)
        exact this
      have h6 : (2 * (h : Int) + 1) * q = 2 * h * q + q := by rw [Int.add_mul, Int.one_mul]
      have h7 : 2 * (h : Int) * (q - 1) = 2 * h * q - 2 * h := by rw [Int.mul_sub, Int.mul_one]
      omega
    · have : q = 0 := by omega
      subst this; simp
theorem bd_lt {h : Nat} (hh : 1 ≤ h) {n : Int} (hn : n ≠ 0) : ((n + h) / (2 * h + 1)).natAbs < n.natAbs := by
  have := bd_quo hh n
  omega
theorem bdF_fuel {h : Nat} (hh : 1 ≤ h) : ∀ (f g : Nat) (n : Int), n.natAbs ≤ f → n.natAbs ≤ g → bdF h f n = bdF h g n
  | 0, g, n, h1, _ => by
    have : n = 0 := by omega
    subst this; rw [bdF_zero, bdF_zero]
  | f + 1, 0, n, _, h1 => by
    have : n = 0 := by omega
    subst this; rw [bdF_zero, bdF_zero]
  | f + 1, g + 1, n, h1, h2 => by
    by_cases h0 : n = 0
    · subst h0; rw [bdF_zero, bdF_zero]
    · have := bd_lt hh h0
      rw [bdF_succ h0, bdF_succ h0, bdF_fuel hh f g _ (by omega) (by omega)]
theorem bd_zero (h : Nat) : bd h 0 = [] := bdF_zero _ _
theorem bd_step {h : Nat} (hh : 1 ≤ h) {n : Int} (hn : n ≠ 0) : bd h n = ((n + h) % (2 * h + 1) - h) :: bd h ((n + h) / (2 * h + 1)) := by
  have hlt := bd_lt hh hn
  obtain ⟨m, hm⟩ : ∃ m, n.natAbs = m + 1 := ⟨n.natAbs - 1, by omega⟩
  rw [bd, hm, bdF_succ hn, bd, bdF_fuel hh m _ _ (by omega) (Nat.le_refl _)]
theorem bd_induct {h : Nat} (hh : 1 ≤ h) {P : Int → Prop} (h0 : P 0) (hs : ∀ n, n ≠ 0 → P ((n + h) / (2 * h + 1)) → P n) : ∀ n, P n := by
  have key : ∀ (k : Nat) (n : Int), n.natAbs ≤ k → P n := by
    intro k
    induction k with
    | zero => intro n hn; have : n = 0 := by omega
              subst this; exact h0
    | succ k ih =>
      intro n hk
      by_cases hn : n = 0
      · subst hn; exact h0
      · exact hs n hn (ih _ (by have := bd_lt hh hn; omega))
  exact fun n => key _ n (Nat.le_refl _)

/-- balanced digits -/
def AllB (h : Nat) (l : List Int) : Prop := ∀ d ∈ l, -(h : Int) ≤ d ∧ d ≤ h
def NrmB (h : Nat) (l : List Int) : Prop := AllB h l ∧ (l = [] ∨ l.getLast? ≠ some 0)
/-- the value -/
def bv (h : Nat) (l : List Int) : Int := hv (2 * (h : Int) + 1) l
theorem bv_nil (h : Nat) : bv h [] = 0 := rfl
theorem bv_cons (h : Nat) (d : Int) (l : List Int) : bv h (d :: l) = d + (2 * h + 1) * bv h l := rfl

theorem bv_bd {h : Nat} (hh : 1 ≤ h) : ∀ n, bv h (bd h n) = n := by
  refine bd_induct hh (by rw [bd_zero]; rfl) (fun n hn ih => ?_)
  rw [bd_step hh hn, bv_cons, ih]
  exact (bd_facts hh n).1
theorem bd_digits {h : Nat} (hh : 1 ≤ h) : ∀ n, AllB h (bd h n) := by
  refine bd_induct hh (fun d hd => by rw [bd_zero] at hd; simp at hd) (fun n hn ih d hd => ?_)
  rw [bd_step hh hn] at hd
  rcases List.mem_cons.1 hd with rfl | hd
  · exact (bd_facts hh n).2
  · exact ih d hd
theorem bd_last {h : Nat} (hh : 1 ≤ h) : ∀ n, bd h n = [] ∨ (bd h n).getLast? ≠ some 0 := by
  refine bd_induct hh (.inl (bd_zero h)) (fun n hn ih => .inr ?_)
  rw [bd_step hh hn]
  by_cases hq : (n + h) / (2 * (h : Int) + 1) = 0
  · have := (bd_facts hh n).1
    rw [hq, Int.mul_zero, Int.add_zero] at this
    rw [hq, bd_zero, this]
    simp [hn]
  · rw [bd_step hh hq] at ih ⊢
    rw [List.getLast?_cons_cons]
    exact ih.resolve_left (by simp)
theorem nrmB_bd {h : Nat} (hh : 1 ≤ h) (n : Int) : NrmB h (bd h n) := ⟨bd_digits hh n, bd_last hh n⟩
theorem nrmB_tail {h : Nat} {d : Int} {l : List Int} (hl : NrmB h (d :: l)) : NrmB h l := by
  refine ⟨fun x hx => hl.1 x (List.mem_cons_of_mem _ hx), ?_⟩
  cases l with
  | nil => exact .inl rfl
  | cons y l => right; have := hl.2.resolve_left (by simp); rwa [List.getLast?_cons_cons] at this
theorem bv_ne {h : Nat} (hh : 1 ≤ h) : ∀ {l : List Int}, NrmB h l → l ≠ [] → bv h l ≠ 0
  | [], _, h0 => absurd rfl h0
  | [d], hl, _ => by
    have h0 : d ≠ 0 := by have := hl.2.resolve_left (by simp); simpa using this
    rw [bv_cons, bv_nil]; omega
  | d :: y :: l, hl, _ => by
    have hd := hl.1 d (by simp)
    have ih := bv_ne hh (nrmB_tail hl) (by simp)
    rw [bv_cons]
    obtain ⟨v, hv⟩ : ∃ v, v = bv h (y :: l) := ⟨_, rfl⟩
    rw [← hv] at ih ⊢
    intro e
    rcases ltgeZ v 0 with h0 | h0
    · have : (2 * (h : Int) + 1) * v ≤ (2 * h + 1) * (-1) := Int.mul_le_mul_of_nonneg_left (by omega) (by omega)
      omega
    · have : (2 * (h : Int) + 1) * 1 ≤ (2 * h + 1) * v := Int.mul_le_mul_of_nonneg_left (by omega) (by omega)
      omega
theorem bd_bv {h : Nat} (hh : 1 ≤ h) : ∀ {l : List Int}, NrmB h l → bd h (bv h l) = l
  | [], _ => by rw [bv_nil, bd_zero]
  | d :: l, hl => by
    have hd := hl.1 d (by simp)
    have ih := bd_bv hh (nrmB_tail hl)
    have hne := bv_ne hh hl (by simp)
    rw [bd_step hh hne, bv_cons]
    have e1 : (d + (2 * h + 1) * bv h l + h) % (2 * (h : Int) + 1) = d + h := by
      rw [show d + (2 * (h : Int) + 1) * bv h l + h = (d + h) + (2 * h + 1) * bv h l by omega, Int.add_mul_emod_self_left]
      exact Int.emod_eq_of_lt (by omega) (by omega)
    have e2 : (d + (2 * h + 1) * bv h l + h) / (2 * (h : Int) + 1) = bv h l := by
      rw [show d + (2 * (h : Int) + 1) * bv h l + h = (d + h) + (2 * h + 1) * bv h l by omega, Int.add_mul_ediv_left _ _ (by omega), Int.ediv_eq_zero_of_lt (by omega) (by omega)]
      omega
    rw [e1, e2, ih, Int.add_sub_cancel]

theorem bd_len {h : Nat} (hh : 1 ≤ h) : ∀ (k : Nat) (n : Int), n.natAbs ≤ 2 ^ k → (bd h n).length ≤ k + 1
  | 0, n, hn => by
    have h' : n.natAbs ≤ 1 := by simpa using hn
    by_cases h0 : n = 0
    · subst h0; simp [bd_zero]
    · have := bd_quo hh n
      have hq : (n + h) / (2 * (h : Int) + 1) = 0 := by omega
      rw [bd_step hh h0, hq, bd_zero]; simp
  | k + 1, n, hn => by
    by_cases h0 : n = 0
    · subst h0; simp [bd_zero]
    · have h1 := bd_quo hh n
      rw [Nat.pow_succ] at hn
      have hp : 1 ≤ 2 ^ k := Nat.one_le_two_pow
      have := bd_len hh k ((n + h) / (2 * h + 1)) (by omega)
      rw [bd_step hh h0, List.length_cons]; omega
theorem bd_len41 {h : Nat} {n : Int} (hh : 1 ≤ h) (h1 : -1000000000000 ≤ n) (h2 : n ≤ 1000000000000) : (bd h n).length ≤ 41 := bd_len hh 40 n (by omega)

/-! ### order -/
theorem bv_at (h : Nat) (l : List Int) (k : Nat) : bv h (l.drop k) = at0 l k + (2 * h + 1) * bv h (l.drop (k + 1)) := hv_at (2 * (h : Int) + 1) l k
theorem at0_rangeB {h : Nat} {l : List Int} (hl : AllB h l) (k : Nat) : -(h : Int) ≤ at0 l k ∧ at0 l k ≤ h := by
  by_cases hk : k < l.length
  · rw [at0_lt hk]; exact hl _ (List.getElem_mem hk)
  · rw [at0_ge (by omega)]; omega
theorem bv_order {h : Nat} {a c : List Int} (ha : AllB h a) (hc : AllB h c) : ∀ k, bv h (a.drop k) < bv h (c.drop k) → bv h a < bv h c
  | 0, hk => by simpa using hk
  | k + 1, hk => by
    refine bv_order ha hc k ?_
    have r1 := at0_rangeB ha k
    have r2 := at0_rangeB hc k
    have e1 := bv_at h a k
    have e2 := bv_at h c k
    have h1 : (2 * (h : Int) + 1) * 1 ≤ (2 * h + 1) * (bv h (c.drop (k + 1)) - bv h (a.drop (k + 1))) := Int.mul_le_mul_of_nonneg_left (by omega) (by omega)
    rw [Int.mul_sub] at h1
    omega
theorem bv_place {h : Nat} {a c : List Int} (ha : AllB h a) (hc : AllB h c) {k : Nat} (ht : bv h (a.drop (k + 1)) = bv h (c.drop (k + 1))) (hk : at0 a k < at0 c k) : bv h a < bv h c := by
  refine bv_order ha hc k ?_
  have e1 := bv_at h a k
  have e2 := bv_at h c k
  rw [ht] at e1; omega
/-- far beyond, it stays so -/
theorem bv_far {h : Nat} (hh : 1 ≤ h) (hh7 : h ≤ 7) {l : List Int} (hl : AllB h l) : ∀ k, (bv h (l.drop k) < -100000000000000 ∨ 100000000000000 < bv h (l.drop k)) → (bv h l < -100000000000000 ∨ 100000000000000 < bv h l)
  | 0, hf => by simpa using hf
  | k + 1, hf => by
    refine bv_far hh hh7 hl k ?_
    have r := at0_rangeB hl k
    rw [bv_at]
    obtain ⟨v, hv⟩ : ∃ v, v = bv h (l.drop (k + 1)) := ⟨_, rfl⟩
    rw [← hv] at hf ⊢
    rcases hf with hf | hf
    · have h5 : (2 * (h : Int) + 1) * v ≤ 3 * v := by
        have : (2 * (h : Int) + 1) * (-v) ≥ 3 * (-v) := Int.mul_le_mul_of_nonneg_right (by omega) (by omega)
        rw [Int.mul_neg] at this; omega
      omega
    · have h5 : 3 * v ≤ (2 * (h : Int) + 1) * v := Int.mul_le_mul_of_nonneg_right (by omega) (by omega)
      omega

/-! ### what the functions answer -/
def okE (b : Int) : Bool := inB b 3 15 && decide (b % 2 = 1)
theorem okE_yes {b : Int} (h : okE b = true) : ∃ k : Nat, b = 2 * (k : Int) + 1 ∧ 1 ≤ k ∧ k ≤ 7 := by
  simp only [okE, Bool.and_eq_true, decide_eq_true_eq] at h
  have := inB_yes h.1
  exact ⟨(b / 2).toNat, by omega, by omega, by omega⟩
theorem okE_mk {k : Nat} (h1 : 1 ≤ k) (h2 : k ≤ 7) : okE (2 * (k : Int) + 1) = true := by
  simp only [okE, inB, Bool.and_eq_true, decide_eq_true_eq]; omega
def hOf (b : Int) : Nat := (b / 2).toNat
theorem hOf_eq (k : Nat) : hOf (2 * (k : Int) + 1) = k := by unfold hOf; omega
theorem half_eq (k : Nat) : (2 * (k : Int) + 1) / 2 = k := by omega
/-- are these balanced digits in base b -/
def okW (l : List Int) (b : Int) : Bool := okE b && decide (l.length ≤ 60) && decide (∀ d ∈ l, -(b / 2) ≤ d ∧ d ≤ b / 2) && decide (l = [] ∨ l.getLast? ≠ some 0)
theorem okW_base {l : List Int} {b : Int} (h : okE b = false) : okW l b = false := by simp [okW, h]
theorem okW_long {l : List Int} {b : Int} (h : 60 < l.length) : okW l b = false := by
  have : ¬ l.length ≤ 60 := by omega
  simp [okW, this]
theorem okW_at {l : List Int} {b : Int} {k : Nat} (hk : k < l.length) (h : inB l[k] (-(b / 2)) (b / 2) = false) : okW l b = false := by
  have : ¬ (∀ d ∈ l, -(b / 2) ≤ d ∧ d ≤ b / 2) := fun g => by
    have := g l[k] (List.getElem_mem hk)
    simp [inB] at h; omega
  simp only [okW, decide_eq_false this, Bool.and_false, Bool.false_and]
theorem okW_end {l : List Int} {b : Int} (h1 : okE b = true) (h2 : l.length ≤ 60) (h3 : ∀ d ∈ l, -(b / 2) ≤ d ∧ d ≤ b / 2) : okW l b = decide (l = [] ∨ l.getLast? ≠ some 0) := by
  simp only [okW, h1, decide_eq_true h2, decide_eq_true h3, Bool.true_and]
theorem okW_yes {l : List Int} {b : Int} (h : okW l b = true) : ∃ k : Nat, b = 2 * (k : Int) + 1 ∧ 1 ≤ k ∧ k ≤ 7 ∧ NrmB k l ∧ l.length ≤ 60 := by
  simp only [okW, Bool.and_eq_true, decide_eq_true_eq] at h
  obtain ⟨k, rfl, h1, h2⟩ := okE_yes h.1.1.1
  refine ⟨k, rfl, h1, h2, ⟨fun d hd => ?_, h.2⟩, h.1.1.2⟩
  have := h.1.2 d hd
  rwa [half_eq] at this
theorem okW_mk {l : List Int} {k : Nat} (h1 : 1 ≤ k) (h2 : k ≤ 7) (hN : NrmB k l) (hl : l.length ≤ 60) : okW l (2 * (k : Int) + 1) = true := by
  rw [okW_end (okE_mk h1 h2) hl (fun d hd => by rw [half_eq]; exact hN.1 d hd)]
  exact decide_eq_true hN.2
theorem okW_bd {k : Nat} {n : Int} (h1 : 1 ≤ k) (h2 : k ≤ 7) (hl : (bd k n).length ≤ 60) : okW (bd k n) (2 * (k : Int) + 1) = true := okW_mk h1 h2 (nrmB_bd h1 n) hl

def rBalancedOk0 (l : List Int) (b : Int) : Bool := okW l b
def rBalancedDigits0 (n b : Int) : List Int := if okE b && inN n then bd (hOf b) n else []
def rBalancedValue1 (l : List Int) (b : Int) : Bool := okW l b && inN (bv (hOf b) l)
def rBalancedValue0 (l : List Int) (b : Int) : Int := if rBalancedValue1 l b then bv (hOf b) l else 0
def rBalancedAdd1 (a c : List Int) (b : Int) : Bool := okW a b && okW c b && fits (bd (hOf b) (bv (hOf b) a + bv (hOf b) c))
def rBalancedAdd0 (a c : List Int) (b : Int) : List Int := if rBalancedAdd1 a c b then bd (hOf b) (bv (hOf b) a + bv (hOf b) c) else []
def rBalancedCompare0 (a c : List Int) (b : Int) : Int := if okW a b && okW c b then cmpI (bv (hOf b) a) (bv (hOf b) c) else -2
def rDropPlaces1 (l : List Int) (b k : Int) : Bool := okW l b && inB k 0 60
def rDropPlaces0 (l : List Int) (b k : Int) : List Int := if rDropPlaces1 l b k then l.drop k.toNat else []
/-- the powers of 3, from p on, where the digit is s -/
def wpow (s : Int) : Int → List Int → List Int
  | _, [] => []
  | p, d :: l => if d = s then p :: wpow s (p * 3) l else wpow s (p * 3) l
def rWeighingOf0 (n : Int) : List Int := if inB n 0 1000000000000 then wpow 1 1 (bd 1 n) else []
def rWeighingOf1 (n : Int) : List Int := if inB n 0 1000000000000 then wpow (-1) 1 (bd 1 n) else []

theorem rBalancedDigits0_len (n b : Int) : (rBalancedDigits0 n b).length ≤ 1048577 := by
  unfold rBalancedDigits0; split
  · rename_i h
    simp only [Bool.and_eq_true] at h
    obtain ⟨k, rfl, h1, _⟩ := okE_yes h.1
    have h2 := inN_yes h.2
    rw [hOf_eq]
    have := bd_len41 (h := k) (n := n) h1 h2.1 h2.2
    omega
  · simp
theorem rBalancedAdd0_len (a c : List Int) (b : Int) : (rBalancedAdd0 a c b).length ≤ 1048577 := by
  unfold rBalancedAdd0; split
  · rename_i h
    simp only [rBalancedAdd1, Bool.and_eq_true] at h
    have := fits_len h.2; omega
  · simp
theorem rDropPlaces0_len (l : List Int) (b k : Int) : (rDropPlaces0 l b k).length ≤ 1048577 := by
  unfold rDropPlaces0; split
  · rename_i h
    simp only [rDropPlaces1, Bool.and_eq_true] at h
    obtain ⟨_, _, _, _, _, h2⟩ := okW_yes h.1
    rw [List.length_drop]; omega
  · simp
theorem wpow_len (s : Int) : ∀ (l : List Int) (p : Int), (wpow s p l).length ≤ l.length
  | [], p => by simp [wpow]
  | d :: l, p => by
    have := wpow_len s l (p * 3)
    rw [wpow]; split
    · rw [List.length_cons, List.length_cons]; omega
    · rw [List.length_cons]; omega
theorem wpow_append (s : Int) : ∀ (l m : List Int) (p : Int), wpow s p (l ++ m) = wpow s p l ++ wpow s (p * 3 ^ l.length) m
  | [], m, p => by simp [wpow]
  | d :: l, m, p => by
    have e : p * 3 * 3 ^ l.length = p * 3 ^ (l.length + 1) := by rw [Int.pow_succ]; ac_rfl
    rw [List.cons_append, wpow, wpow, wpow_append s l m (p * 3), List.length_cons, e]
    split <;> simp
theorem rWeighingOf0_len (n : Int) : (rWeighingOf0 n).length ≤ 1048577 := by
  unfold rWeighingOf0; split
  · rename_i h
    have h2 := inB_yes h
    have h3 := bd_len41 (h := 1) (n := n) (by omega) (by omega) h2.2
    have h4 := wpow_len 1 (bd 1 n) 1
    omega
  · simp
theorem rWeighingOf1_len (n : Int) : (rWeighingOf1 n).length ≤ 1048577 := by
  unfold rWeighingOf1; split
  · rename_i h
    have h2 := inB_yes h
    have h3 := bd_len41 (h := 1) (n := n) (by omega) (by omega) h2.2
    have h4 := wpow_len (-1) (bd 1 n) 1
    omega
  · simp

end Go.Proofs.Ytiemhhkoegkleaa
