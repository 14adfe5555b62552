/- Long numbers: what the functions answer. -/
import Derived.Test.YtkimojjhmllnfaaLgM
set_option linter.unusedVariables false
set_option linter.unusedSimpArgs false
set_option maxRecDepth 100000
namespace Go.Proofs.Ytkimojjhmllnfaa

/-- the greatest number whose square is at most n -/
def isq : Nat → Nat
  | 0 => 0
  | n + 1 => if (isq n + 1) * (isq n + 1) ≤ n + 1 then isq n + 1 else isq n
theorem isq_le : ∀ n, isq n * isq n ≤ n
  | 0 => by simp [isq]
  | n + 1 => by
    have := isq_le n
    simp only [isq]; split <;> omega
theorem isq_lt : ∀ n, n < (isq n + 1) * (isq n + 1)
  | 0 => by simp [isq]
  | n + 1 => by
    have := isq_lt n
    simp only [isq]; split
    · have h2 : (isq n + 1 + 1) * (isq n + 1 + 1) = (isq n + 1) * (isq n + 1) + 2 * (isq n + 1) + 1 := by
        rw [Nat.add_mul, Nat.mul_add]; omega
      omega
    · omega
theorem isq_eq {n r : Nat} (h1 : r * r ≤ n) (h2 : n < (r + 1) * (r + 1)) : r = isq n := by
  have a1 := isq_le n
  have a2 := isq_lt n
  rcases Nat.lt_trichotomy r (isq n) with h | h | h
  · have : (r + 1) * (r + 1) ≤ isq n * isq n := Nat.mul_le_mul h h
    omega
  · exact h
  · have : (isq n + 1) * (isq n + 1) ≤ r * r := Nat.mul_le_mul h h
    omega

/-- digits of a number in a base -/
def dgI (b : Int) (n : Nat) : List Int := dg b.toNat n
/-- the number of digits in a base -/
def vlI (b : Int) (l : List Int) : Nat := vl b.toNat l
def fits (l : List Int) : Bool := decide (l.length ≤ 60)

def rAddDigits1 (a c : List Int) (b : Int) : Bool := okD a b && okD c b && fits (dgI b (vlI b a + vlI b c))
def rAddDigits0 (a c : List Int) (b : Int) : List Int := if rAddDigits1 a c b then dgI b (vlI b a + vlI b c) else []
def rMinusDigits1 (a c : List Int) (b : Int) : Bool := okD a b && okD c b && decide (vlI b c ≤ vlI b a)
def rMinusDigits0 (a c : List Int) (b : Int) : List Int := if rMinusDigits1 a c b then dgI b (vlI b a - vlI b c) else []
def rTimesDigits1 (a c : List Int) (b : Int) : Bool := okD a b && okD c b && fits (dgI b (vlI b a * vlI b c))
def rTimesDigits0 (a c : List Int) (b : Int) : List Int := if rTimesDigits1 a c b then dgI b (vlI b a * vlI b c) else []
def rCompareDigits0 (a c : List Int) (b : Int) : Int := if okD a b && okD c b then cmpN (vlI b a) (vlI b c) else -2
def rDivideDigits2 (a c : List Int) (b : Int) : Bool := okD a b && okD c b && decide (c ≠ [])
def rDivideDigits0 (a c : List Int) (b : Int) : List Int := if rDivideDigits2 a c b then dgI b (vlI b a / vlI b c) else []
def rDivideDigits1 (a c : List Int) (b : Int) : List Int := if rDivideDigits2 a c b then dgI b (vlI b a % vlI b c) else []
def rPowerDigits1 (a : List Int) (n b : Int) : Bool := okD a b && inB n 0 60 && fits (dgI b (vlI b a ^ n.toNat))
def rPowerDigits0 (a : List Int) (n b : Int) : List Int := if rPowerDigits1 a n b then dgI b (vlI b a ^ n.toNat) else []
def rRootDigits1 (a : List Int) (b : Int) : Bool := okD a b
def rRootDigits0 (a : List Int) (b : Int) : List Int := if rRootDigits1 a b then dgI b (isq (vlI b a)) else []
def rConvertDigits1 (a : List Int) (f t : Int) : Bool := okD a f && okB t && fits (dgI t (vlI f a))
def rConvertDigits0 (a : List Int) (f t : Int) : List Int := if rConvertDigits1 a f t then dgI t (vlI f a) else []

theorem fits_len {l : List Int} (h : fits l = true) : l.length ≤ 60 := by simpa [fits] using h
/-- a number that is no greater has no more digits -/
theorem dg_mono {b n : Nat} (hb : 2 ≤ b) {l : List Int} (hl : Nrm b l) (h : n ≤ vl b l) : (dg b n).length ≤ l.length := by
  rcases Nat.lt_or_ge l.length (dg b n).length with h' | h'
  · have := lt_of_len hb hl (nrm_dg hb n) h'
    rw [vl_dg hb] at this; omega
  · exact h'

theorem nat_of_ok {l : List Int} {b : Int} (h : okD l b = true) : ∃ n : Nat, b = n ∧ 2 ≤ n ∧ n ≤ 16 ∧ Nrm n l ∧ l.length ≤ 60 := by
  obtain ⟨⟨h1, h2⟩, h3, _⟩ := okD_yes h
  obtain ⟨n, rfl⟩ : ∃ n : Nat, b = n := ⟨b.toNat, by omega⟩
  exact ⟨n, rfl, by omega, by omega, okD_nrm h, h3⟩

theorem rAddDigits0_len (a c : List Int) (b : Int) : (rAddDigits0 a c b).length ≤ 1048577 := by
  unfold rAddDigits0; split
  · rename_i h
    simp only [rAddDigits1, Bool.and_eq_true] at h
    have := fits_len h.2; omega
  · simp
theorem rTimesDigits0_len (a c : List Int) (b : Int) : (rTimesDigits0 a c b).length ≤ 1048577 := by
  unfold rTimesDigits0; split
  · rename_i h
    simp only [rTimesDigits1, Bool.and_eq_true] at h
    have := fits_len h.2; omega
  · simp
theorem rPowerDigits0_len (a : List Int) (n b : Int) : (rPowerDigits0 a n b).length ≤ 1048577 := by
  unfold rPowerDigits0; split
  · rename_i h
    simp only [rPowerDigits1, Bool.and_eq_true] at h
    have := fits_len h.2; omega
  · simp
theorem rConvertDigits0_len (a : List Int) (f t : Int) : (rConvertDigits0 a f t).length ≤ 1048577 := by
  unfold rConvertDigits0; split
  · rename_i h
    simp only [rConvertDigits1, Bool.and_eq_true] at h
    have := fits_len h.2; omega
  · simp
theorem rMinusDigits0_len (a c : List Int) (b : Int) : (rMinusDigits0 a c b).length ≤ 1048577 := by
  unfold rMinusDigits0; split
  · rename_i h
    simp only [rMinusDigits1, Bool.and_eq_true] at h
    obtain ⟨n, rfl, h2, _, hN, hl⟩ := nat_of_ok h.1.1
    have := dg_mono h2 hN (show vl n a - vl n c ≤ vl n a by omega)
    simp only [dgI, vlI, Int.toNat_natCast]; omega
  · simp
theorem rDivideDigits0_len (a c : List Int) (b : Int) : (rDivideDigits0 a c b).length ≤ 1048577 := by
  unfold rDivideDigits0; split
  · rename_i h
    simp only [rDivideDigits2, Bool.and_eq_true] at h
    obtain ⟨n, rfl, h2, _, hN, hl⟩ := nat_of_ok h.1.1
    have := dg_mono h2 hN (Nat.div_le_self (vl n a) (vl n c))
    simp only [dgI, vlI, Int.toNat_natCast]; omega
  · simp
theorem rDivideDigits1_len (a c : List Int) (b : Int) : (rDivideDigits1 a c b).length ≤ 1048577 := by
  unfold rDivideDigits1; split
  · rename_i h
    simp only [rDivideDigits2, Bool.and_eq_true] at h
    obtain ⟨n, rfl, h2, _, hN, hl⟩ := nat_of_ok h.1.1
    have := dg_mono h2 hN (Nat.mod_le (vl n a) (vl n c))
    simp only [dgI, vlI, Int.toNat_natCast]; omega
  · simp
theorem rRootDigits0_len (a : List Int) (b : Int) : (rRootDigits0 a b).length ≤ 1048577 := by
  unfold rRootDigits0; split
  · rename_i h
    obtain ⟨n, rfl, h2, _, hN, hl⟩ := nat_of_ok h
    have := dg_mono h2 hN (n := isq (vl n a)) (by
      have := isq_le (vl n a)
      rcases Nat.eq_zero_or_pos (isq (vl n a)) with h0 | h0
      · omega
      · have : isq (vl n a) * 1 ≤ isq (vl n a) * isq (vl n a) := Nat.mul_le_mul_left _ h0
        omega)
    simp only [dgI, vlI, Int.toNat_natCast]; omega
  · simp

end Go.Proofs.Ytkimojjhmllnfaa
