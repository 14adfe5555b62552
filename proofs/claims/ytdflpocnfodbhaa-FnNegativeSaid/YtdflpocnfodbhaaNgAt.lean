/- Negative bases: what the program's functions answer at the digits of integers; and what the law draws. -/
import Derived.Test.YtdflpocnfodbhaaLawFns
import Derived.Test.YtdflpocnfodbhaaNgPubI
import Derived.Test.YtdflpocnfodbhaaNgCmpI
set_option linter.unusedVariables false
set_option linter.unusedSimpArgs false
set_option maxRecDepth 100000
namespace Go.Proofs.Ytdflpocnfodbhaa
open Go.ChangeShapes Go.WideShapes Go.ChangeAt Go.RowKit

section
variable {va vc : Value} {x y : Int} {b : Nat} {w : World}

theorem ng_in64 (hb : 2 ≤ b) (hb16 : b ≤ 16) : ∀ d ∈ ng b x, in64 d := fun d hd => by
  have := ng_digits hb x d hd
  unfold in64; omega
theorem b64 (hb16 : b ≤ 16) : in64 (b : Int) := by unfold in64; omega
theorem ngVal (hb : 2 ≤ b) (hb16 : b ≤ 16) (h1 : -1000000000000 ≤ x) (h2 : x ≤ 1000000000000) : rNegaValue1 (ng b x) b = true ∧ nvI b (ng b x) = x := by
  have h3 := ng_len42 hb h1 h2
  refine ⟨?_, by rw [nvI_nat, nv_ng hb]⟩
  rw [rNegaValue1, okD_ng hb hb16 (by omega), nvI_nat, nv_ng hb, inN_mk h1 h2]; rfl

theorem ngDigitsAt (hb : 2 ≤ b) (hb16 : b ≤ 16) (h1 : -1000000000000 ≤ x) (h2 : x ≤ 1000000000000) :
    Calls Try.prog 37 #[.int .i64 x, .int .i64 b] w (GotN (ng b x) w) := by
  have e0 : rNegaDigits0 x b = ng b x := by rw [rNegaDigits0, okB_mk ⟨by omega, by omega⟩, inN_mk h1 h2, ngI_nat]; rfl
  have := implNegaDigits_any x b w (by unfold in64; omega) (b64 hb16)
  rw [e0] at this
  refine this.mono ?_
  rintro e w' ⟨v, rfl, ho, hB⟩
  obtain ⟨a, cap, rfl, l1, l2⟩ := owns_form ho
  exact ⟨a, cap, rfl, RowAt.of_owns ho, l1, l2, hB⟩
theorem ngValueAt (hb : 2 ≤ b) (hb16 : b ≤ 16) (hra : RowAt w va (intsOf (ng b x))) (h1 : -1000000000000 ≤ x) (h2 : x ≤ 1000000000000) :
    Calls Try.prog 38 #[va, .int .i64 b] w fun e w' => e = .returned (.tuple #[.int .i64 x, .bool true]) ∧ Below w.heap.size w w' := by
  have h3 := ng_len42 hb h1 h2
  obtain ⟨e1, e2⟩ := ngVal hb hb16 h1 h2
  have e0 : rNegaValue0 (ng b x) b = x := by rw [rNegaValue0, e1, e2]; rfl
  have := implNegaValue_any va (ng b x) b w hra (by omega) (ng_in64 hb hb16) (b64 hb16)
  rwa [e0, e1] at this
theorem ngAddAt (hb : 2 ≤ b) (hb16 : b ≤ 16) (hra : RowAt w va (intsOf (ng b x))) (hrc : RowAt w vc (intsOf (ng b y))) (h1 : -1000000000000 ≤ x) (h2 : x ≤ 1000000000000) (h3 : -1000000000000 ≤ y) (h4 : y ≤ 1000000000000) (h5 : -1000000000000 ≤ x + y) (h6 : x + y ≤ 1000000000000) :
    Calls Try.prog 40 #[va, vc, .int .i64 b] w (GotNT (ng b (x + y)) w) := by
  have l1 := ng_len42 hb h1 h2
  have l2 := ng_len42 hb h3 h4
  obtain ⟨e1, e2⟩ := ngVal hb hb16 h1 h2
  obtain ⟨e3, e4⟩ := ngVal hb hb16 h3 h4
  have k1 : rNegaAdd1 (ng b x) (ng b y) b = true := by rw [rNegaAdd1, e1, e3, e2, e4, inN_mk h5 h6]; rfl
  have k0 : rNegaAdd0 (ng b x) (ng b y) b = ng b (x + y) := by rw [rNegaAdd0, k1, e2, e4, ngI_nat]; rfl
  have := implNegaAdd_any va (ng b x) vc (ng b y) b w hra (by omega) (ng_in64 hb hb16) hrc (by omega) (ng_in64 hb hb16) (b64 hb16)
  rw [k1, k0] at this
  refine this.mono ?_
  rintro e w' ⟨v, rfl, ho, hB⟩
  obtain ⟨a, cap, rfl, l1, l2⟩ := owns_form ho
  exact ⟨a, cap, rfl, RowAt.of_owns ho, l1, l2, hB⟩
theorem ngTimesAt (hb : 2 ≤ b) (hb16 : b ≤ 16) (hra : RowAt w va (intsOf (ng b x))) (hrc : RowAt w vc (intsOf (ng b y))) (h1 : -1000000000000 ≤ x) (h2 : x ≤ 1000000000000) (h3 : -1000000000000 ≤ y) (h4 : y ≤ 1000000000000) (h5 : -1000000000000 ≤ x * y) (h6 : x * y ≤ 1000000000000) :
    Calls Try.prog 39 #[va, vc, .int .i64 b] w (GotNT (ng b (x * y)) w) := by
  have l1 := ng_len42 hb h1 h2
  have l2 := ng_len42 hb h3 h4
  obtain ⟨e1, e2⟩ := ngVal hb hb16 h1 h2
  obtain ⟨e3, e4⟩ := ngVal hb hb16 h3 h4
  have k1 : rNegaTimes1 (ng b x) (ng b y) b = true := by rw [rNegaTimes1, e1, e3, e2, e4, inN_mk h5 h6]; rfl
  have k0 : rNegaTimes0 (ng b x) (ng b y) b = ng b (x * y) := by rw [rNegaTimes0, k1, e2, e4, ngI_nat]; rfl
  have := implNegaTimes_any va (ng b x) vc (ng b y) b w hra (by omega) (ng_in64 hb hb16) hrc (by omega) (ng_in64 hb hb16) (b64 hb16)
  rw [k1, k0] at this
  refine this.mono ?_
  rintro e w' ⟨v, rfl, ho, hB⟩
  obtain ⟨a, cap, rfl, l1, l2⟩ := owns_form ho
  exact ⟨a, cap, rfl, RowAt.of_owns ho, l1, l2, hB⟩
theorem ngSignAt (hb : 2 ≤ b) (hb16 : b ≤ 16) (hra : RowAt w va (intsOf (ng b x))) (h1 : -1000000000000 ≤ x) (h2 : x ≤ 1000000000000) :
    Calls Try.prog 42 #[va, .int .i64 b] w fun e w' => e = .returned (.int .i64 (sgnZ x)) ∧ Below w.heap.size w w' := by
  have l1 := ng_len42 hb h1 h2
  have e0 : rNegaSign0 (ng b x) b = sgnZ x := by rw [rNegaSign0, okD_ng hb hb16 (by omega), nvI_nat, nv_ng hb]; rfl
  have := implNegaSign_any va (ng b x) b w hra (by omega) (ng_in64 hb hb16) (b64 hb16)
  rwa [e0] at this
theorem ngCompareAt (hb : 2 ≤ b) (hb16 : b ≤ 16) (hra : RowAt w va (intsOf (ng b x))) (hrc : RowAt w vc (intsOf (ng b y))) (h1 : -1000000000000 ≤ x) (h2 : x ≤ 1000000000000) (h3 : -1000000000000 ≤ y) (h4 : y ≤ 1000000000000) :
    Calls Try.prog 43 #[va, vc, .int .i64 b] w fun e w' => e = .returned (.int .i64 (cmpI x y)) ∧ Below w.heap.size w w' := by
  have l1 := ng_len42 hb h1 h2
  have l2 := ng_len42 hb h3 h4
  have e0 : rNegaCompare0 (ng b x) (ng b y) b = cmpI x y := by rw [rNegaCompare0, okD_ng hb hb16 (by omega), okD_ng hb hb16 (by omega), nvI_nat, nvI_nat, nv_ng hb, nv_ng hb]; rfl
  have := implNegaCompare_any va (ng b x) vc (ng b y) b w hra (by omega) (ng_in64 hb hb16) hrc (by omega) (ng_in64 hb hb16) (b64 hb16)
  rwa [e0] at this
theorem ngRangeAt {j : Nat} (hb : 2 ≤ b) (hb16 : b ≤ 16) (hj : j ≤ 9) :
    Calls Try.prog 41 #[.int .i64 j, .int .i64 b] w fun e w' => e = .returned (.tuple #[.int .i64 (rlo b j), .int .i64 (rhi b j)]) ∧ Below w.heap.size w w' := by
  have hin : inB (j : Int) 0 9 = true := by simp [inB]; omega
  have e0 : rNegaRange0 j b = rlo b j := by rw [rNegaRange0, okB_mk ⟨by omega, by omega⟩, hin]; rfl
  have e1 : rNegaRange1 j b = rhi b j := by rw [rNegaRange1, okB_mk ⟨by omega, by omega⟩, hin]; rfl
  have := implNegaRange_any j b w (by unfold in64; omega) (b64 hb16)
  rwa [e0, e1] at this
theorem ngOkAt (hb : 2 ≤ b) (hb16 : b ≤ 16) (hra : RowAt w va (intsOf (ng b x))) (h1 : -1000000000000 ≤ x) (h2 : x ≤ 1000000000000) :
    Calls Try.prog 20 #[va, .int .i64 b] w fun e w' => e = .returned (.bool true) ∧ w = w' := by
  have l1 := ng_len42 hb h1 h2
  have := implDigitsOk_any va (ng b x) b w hra (by omega) (ng_in64 hb hb16) (b64 hb16)
  rwa [okD_ng hb hb16 (by omega)] at this
end

end Go.Proofs.Ytdflpocnfodbhaa
