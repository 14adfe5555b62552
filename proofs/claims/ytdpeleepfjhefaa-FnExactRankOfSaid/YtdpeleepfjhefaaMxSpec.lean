/- Mixed places: the model's tests, ranges, places, digits and values. -/
import Derived.Test.YtdpeleepfjhefaaMxM
set_option linter.unusedVariables false
set_option linter.unusedSimpArgs false
set_option maxRecDepth 100000
namespace Go.Proofs.Ytdpeleepfjhefaa
open Go.ChangeShapes Go.WideShapes Go.ChangeAt Go.RowKit

/-- one more radix keeps within 64 bits -/
theorem rp_step_le {P x : Int} (h0 : 1 ≤ P) (h1 : P ≤ 1000000000000) (h2 : 2 ≤ x) (h3 : x ≤ 60) : 0 ≤ P * x ∧ P * x ≤ 60000000000000 := by
  have e1 : P * x ≤ 1000000000000 * 60 := Int.mul_le_mul h1 h3 (by omega) (by omega)
  have e2 : 0 ≤ P * x := Int.mul_nonneg (by omega) (by omega)
  omega

def rRadicesOk0 (r : List Int) : Bool := okR r
def rRangeOf0 (r : List Int) : Int := if okR r then rp r else 0
def rPlacesOf0 (r : List Int) : List Int := if okR r then plF 1 r else []
def rMixedDigits0 (n : Int) (r : List Int) : List Int := if okR r && inB n 0 (rp r - 1) then md n r else []
def okM (l r : List Int) : Bool := okR r && (decide (l.length = r.length) && decide (∀ j (h1 : j < l.length) (h2 : j < r.length), 0 ≤ l[j] ∧ l[j] ≤ r[j] - 1))
def rMixedOk0 (l r : List Int) : Bool := okM l r
def rMixedValue0 (l r : List Int) : Int := if okM l r then mv l r else -1
theorem okM_yes {l r : List Int} (h : okM l r = true) : okR r = true ∧ FitM l r := by
  simp only [okM, Bool.and_eq_true, decide_eq_true_eq] at h
  exact ⟨h.1, fitM_of h.2.1 h.2.2⟩
theorem okM_mk {l r : List Int} (h1 : okR r = true) (h2 : FitM l r) : okM l r = true := by
  simp only [okM, Bool.and_eq_true, decide_eq_true_eq]
  exact ⟨h1, fitM_len h2, fitM_at h2⟩
theorem okM_base {l r : List Int} (h : okR r = false) : okM l r = false := by simp [okM, h]
theorem okM_len {l r : List Int} (h : l.length ≠ r.length) : okM l r = false := by simp [okM, h]
theorem okM_at {l r : List Int} {j : Nat} (h1 : j < l.length) (h2 : j < r.length) (h : inB l[j] 0 (r[j] - 1) = false) : okM l r = false := by
  cases e : okM l r
  · rfl
  · have := fitM_at (okM_yes e).2 j h1 h2
    rw [show inB l[j] 0 (r[j] - 1) = true by simp [inB]; omega] at h; simp at h
theorem rPlacesOf0_len (r : List Int) : (rPlacesOf0 r).length ≤ 1048577 := by
  unfold rPlacesOf0; split
  · rename_i h
    have := okR_yes h
    rw [plF_len]; omega
  · simp
theorem rMixedDigits0_len (n : Int) (r : List Int) : (rMixedDigits0 n r).length ≤ 1048577 := by
  unfold rMixedDigits0; split
  · rename_i h
    simp only [Bool.and_eq_true] at h
    have := okR_yes h.1
    rw [md_len]; omega
  · simp

end Go.Proofs.Ytdpeleepfjhefaa
