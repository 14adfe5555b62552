/- Digits: the model's functions with more arguments or two answers. -/
import Derived.Test.YtdflpocnfodbhaaDgSpec
import Derived.Test.YtdflpocnfodbhaaDgVal
set_option linter.unusedVariables false
set_option linter.unusedSimpArgs false
set_option maxRecDepth 100000
namespace Go.Proofs.Ytdflpocnfodbhaa
open Go.ChangeShapes Go.WideShapes Go.ChangeAt Go.RowKit

set_option maxHeartbeats 2000000 in
theorem specValueOf_any (v : Value) (l : List Int) (b : Int) (w : World) (hr : RowAt w v (intsOf l)) (hl : l.length ≤ 1048576) (hi : ∀ n ∈ l, in64 n) (hb : in64 b) :
    Calls Try.prog 69 #[v, .int .i64 b] w fun e w' => e = .returned (.tuple #[.int .i64 (rValueOf0 l b), .bool (rValueOf1 l b)]) ∧ Below w.heap.size w w' := by
  have HC := Lib.hid (specDigitsOk_any v l b w hr hl hi hb)
  cases h : okD l b
  · rw [h] at HC
    rw [show rValueOf0 l b = 0 by simp [rValueOf0, h], show rValueOf1 l b = false by simp [rValueOf1, h]]
    clear h hi hb hr
    go_enter Try.func69, Try.ntmps69
    go_wp2_with fail
    refine HC.out.mono ?_
    rintro e w' ⟨rfl, rfl⟩
    go_wp2
    go_ret2
    exact ⟨rfl, Below.refl _ _⟩
  · rw [h] at HC
    obtain ⟨⟨hb2, hb16⟩, hl60, hd, _⟩ := okD_yes h
    have hv0 : 0 ≤ hv b l := hv_nonneg (by omega) _ (fun d hx => (hd d hx).1)
    have HV := Lib.hid (specValue_any v l b w hr hb2 hb16 hl60 hd)
    have H0 := Lib.hid (show rValueOf0 l b = if hv b l ≤ 1000000000000 then hv b l else 0 by rw [rValueOf0, if_pos h])
    have H1 := Lib.hid (show rValueOf1 l b = decide (hv b l ≤ 1000000000000) by rw [rValueOf1, h, Bool.true_and])
    clear h hi hb hr hd
    go_enter Try.func69, Try.ntmps69
    go_wp2_with fail
    refine HC.out.mono ?_
    rintro e w' ⟨rfl, rfl⟩
    go_wp2_with fail
    refine HV.out.mono ?_
    rintro e w' ⟨rfl, rfl⟩
    by_cases hle : hv b l ≤ 1000000000000
    · have HA := Lib.hid (show rValueOf0 l b = hv b l by rw [H0.out, if_pos hle])
      have HB := Lib.hid (show rValueOf1 l b = true by rw [H1.out, decide_eq_true hle])
      rw [show capV (hv b l) = hv b l by rw [capV, if_pos hle]]
      go_wp2
      go_ret2
      exact ⟨by rw [HA.out, HB.out]; rfl, Below.refl _ _⟩
    · have HA := Lib.hid (show rValueOf0 l b = 0 by rw [H0.out, if_neg hle])
      have HB := Lib.hid (show rValueOf1 l b = false by rw [H1.out, decide_eq_false hle])
      rw [show capV (hv b l) = -1 by rw [capV, if_neg hle]]
      go_wp2
      go_ret2
      exact ⟨by rw [HA.out, HB.out]; rfl, Below.refl _ _⟩

end Go.Proofs.Ytdflpocnfodbhaa
