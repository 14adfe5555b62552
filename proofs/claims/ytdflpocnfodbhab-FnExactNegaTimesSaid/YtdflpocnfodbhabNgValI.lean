/- Negative bases: the program's value of digits. -/
import Derived.Test.YtdflpocnfodbhabDgImp
import Derived.Test.YtdflpocnfodbhabIntOf
set_option linter.unusedVariables false
set_option linter.unusedSimpArgs false
set_option maxRecDepth 100000
namespace Go.Proofs.Ytdflpocnfodbhab
open Go.ChangeShapes Go.WideShapes Go.ChangeAt Go.RowKit

attribute [local go_sem] Oper.semAt_some wide_fn wide_depth

/-- at a function's return, where the block for the rounds' deferred calls is shut -/
theorem cell_shutI {W : World} {D : Nat} {p : Addr} {v : Value} (h : W.cell? p = some v) (hK : W.heap[D]? = some (.deferred (some []))) : (W.putObj D (.deferred none)).cell? p = some v :=
  cell_kept h (grownBy_putObj' _ D (.deferred none)) (fun r e => by cases e; exact ⟨_, hK, rfl⟩)

/-- beyond the bounds, it stays so -/
theorem nv_out {b : Nat} (hb : 2 ≤ b) (hb16 : b ≤ 16) {l : List Int} (h : AllD b l) : ∀ k, inN (nv b (l.drop k)) = false → inN (nv b l) = false
  | 0, hf => by simpa using hf
  | k + 1, hf => by
    refine nv_out hb hb16 h k ?_
    have r := at0_range hb h k
    rw [nv_at]
    obtain ⟨v, hv⟩ : ∃ v, v = nv b (l.drop (k + 1)) := ⟨_, rfl⟩
    rw [← hv] at hf ⊢
    simp only [inN, inB, Bool.and_eq_false_iff, decide_eq_false_iff_not] at hf ⊢
    rcases hf with hf | hf
    · right
      have h5 : (b : Int) * v ≤ 2 * v := by
        have : (b : Int) * (-v) ≥ 2 * (-v) := Int.mul_le_mul_of_nonneg_right (by omega) (by omega)
        rw [Int.mul_neg] at this; omega
      omega
    · left
      have h5 : 2 * v ≤ (b : Int) * v := Int.mul_le_mul_of_nonneg_right (by omega) (by omega)
      omega

set_option maxHeartbeats 1000000 in
theorem implNegaValue_any (va : Value) (l : List Int) (b : Int) (w : World) (hr : RowAt w va (intsOf l)) (hl : l.length ≤ 1048576) (hi : ∀ n ∈ l, in64 n) (hb : in64 b) :
    Calls Try.prog 30 #[va, .int .i64 b] w fun e w' => e = .returned (.tuple #[.int .i64 (rNegaValue0 l b), .bool (rNegaValue1 l b)]) ∧ Below w.heap.size w w' := by
  have HD := Lib.hid (implDigitsOk_any va l b w hr hl hi hb)
  have HR := Lib.hid hr
  obtain ⟨aa, cap, rfl, h1, h2, h3⟩ := hr.ints
  clear h3 hr hi hb
  cases h : okD l b
  · rw [h] at HD
    have E1 := Lib.hid (show rNegaValue1 l b = false by rw [rNegaValue1, h]; rfl)
    have E0 := Lib.hid (show rNegaValue0 l b = 0 by rw [rNegaValue0, E1.out]; rfl)
    clear h
    go_enter Try.func30, Try.ntmps30
    go_wp2_with fail
    refine HD.out.mono ?_
    rintro e w' ⟨rfl, rfl⟩
    go_wp2_with fail
    go_ret2
    exact ⟨by rw [E0.out, E1.out]; rfl, Below.refl _ _⟩
  · rw [h] at HD
    obtain ⟨⟨hb2, hb16⟩, hl60, hd, _⟩ := okD_yes h
    obtain ⟨c, hc⟩ : ∃ c, c = -b := ⟨_, rfl⟩
    have HC := Lib.hid (integerOf_any _ l c w HR.out hl60 (by omega) (by omega) (fun d hx => by have := hd d hx; omega))
    have hvc : nvI b l = hv c l := by
      rw [nvI, nv, hc]; congr 1; omega
    have HE1 := Lib.hid (show rNegaValue1 l b = inN (hv c l) by rw [rNegaValue1, h, hvc]; rfl)
    have HE0 := Lib.hid (show rNegaValue0 l b = if inN (hv c l) then hv c l else 0 by rw [rNegaValue0, HE1.out, hvc])
    rw [← HE0.out, ← HE1.out, hc] at HC
    clear h hd hvc hc
    go_enter Try.func30, Try.ntmps30
    go_wp2_with fail
    refine HD.out.mono ?_
    rintro e w' ⟨rfl, rfl⟩
    go_wp2_with fail
    refine HC.out.mono ?_
    rintro e w' ⟨rfl, hB⟩
    go_wp2_with fail
    go_ret2
    exact ⟨rfl, hB⟩

end Go.Proofs.Ytdflpocnfodbhab
