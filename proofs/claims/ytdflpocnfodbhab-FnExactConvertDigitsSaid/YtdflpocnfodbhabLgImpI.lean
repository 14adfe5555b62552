/- Long numbers: the program turns digits into another base. -/
import Derived.Test.YtdflpocnfodbhabDgImp
import Derived.Test.YtdflpocnfodbhabLgL
import Derived.Test.YtdflpocnfodbhabLgI
set_option linter.unusedVariables false
set_option linter.unusedSimpArgs false
set_option maxRecDepth 100000
namespace Go.Proofs.Ytdflpocnfodbhab
open Go.ChangeShapes Go.WideShapes Go.ChangeAt Go.RowKit

set_option maxHeartbeats 2000000 in
theorem implConvertDigits_any (va : Value) (a : List Int) (f t : Int) (w : World) (hra : RowAt w va (intsOf a)) (hl : a.length ≤ 1048576) (hia : ∀ n ∈ a, in64 n) (hf : in64 f) (ht : in64 t) :
    Calls Try.prog 28 #[va, .int .i64 f, .int .i64 t] w fun e w' => ∃ v, e = .returned (.tuple #[v, .bool (rConvertDigits1 a f t)]) ∧ w'.ownsRow w.heap.size 3 1 v (rConvertDigits0 a f t).length (intsOf (rConvertDigits0 a f t)) ∧ Below w.heap.size w w' := by
  have H1 := Lib.hid (implDigitsOk_any va a f w hra hl hia hf)
  have H2 := Lib.hid (implBaseOk_any t w ht)
  cases h : okD a f
  · rw [h] at H1
    have E1 := Lib.hid (show rConvertDigits1 a f t = false by rw [rConvertDigits1, h]; rfl)
    have E0 := Lib.hid (show rConvertDigits0 a f t = [] by rw [rConvertDigits0, E1.out]; rfl)
    clear h
    go_enter Try.func28, Try.ntmps28
    go_wp2_with fail
    refine H1.out.mono ?_
    rintro e w' ⟨rfl, rfl⟩
    go_wp2_with fail
    go_ret2
    exact ⟨_, by rw [E1.out]; rfl, by rw [E0.out]; exact World.ownsRow_nil _ _ _ _, Below.refl _ _⟩
  · rw [h] at H1
    cases h2 : okB t
    · rw [h2] at H2
      have E1 := Lib.hid (show rConvertDigits1 a f t = false by rw [rConvertDigits1, h, h2]; rfl)
      have E0 := Lib.hid (show rConvertDigits0 a f t = [] by rw [rConvertDigits0, E1.out]; rfl)
      clear h h2
      go_enter Try.func28, Try.ntmps28
      go_wp2_with fail
      refine H1.out.mono ?_
      rintro e w' ⟨rfl, rfl⟩
      go_wp2_with fail
      refine H2.out.mono ?_
      rintro e w' ⟨rfl, rfl⟩
      go_wp2_with fail
      go_ret2
      exact ⟨_, by rw [E1.out]; rfl, by rw [E0.out]; exact World.ownsRow_nil _ _ _ _, Below.refl _ _⟩
    · rw [h2] at H2
      obtain ⟨hb2, hb16⟩ := okB_yes h2
      obtain ⟨t, rfl⟩ : ∃ t' : Nat, t = t' := ⟨t.toNat, by omega⟩
      obtain ⟨f, rfl, hf2, hf16, hNa, hla⟩ := nat_of_ok h
      have HIN := Lib.hid (implInBase_any va a f t w hf2 hf16 (by omega) (by omega) hNa hra hla)
      obtain ⟨S, hS⟩ : ∃ S, S = vl f a := ⟨_, rfl⟩
      rw [← hS] at HIN
      have E1 := Lib.hid (show rConvertDigits1 a f t = fits (dg t S) by rw [rConvertDigits1, h, h2, Bool.true_and, Bool.true_and, vlI_nat, dgI_nat, hS])
      have E0 := Lib.hid (show rConvertDigits0 a f t = if fits (dg t S) then dg t S else [] by rw [rConvertDigits0, E1.out, vlI_nat, dgI_nat, hS])
      clear h h2 hNa hra hia hS
      go_enter Try.func28, Try.ntmps28
      go_wp2_with fail
      refine H1.out.mono ?_
      rintro e w' ⟨rfl, rfl⟩
      go_wp2_with fail
      refine H2.out.mono ?_
      rintro e w' ⟨rfl, rfl⟩
      go_wp2_with fail
      refine HIN.out.mono ?_
      rintro e w1 ⟨v, rfl, ho, hB⟩
      have HD := Lib.hid (implResult_any v t w.heap.size S w1 ho)
      clear ho
      go_wp2_with fail
      refine HD.out.mono ?_
      rintro e w2 ⟨v', rfl, ho, rfl⟩
      have HO := Lib.hid ho
      clear ho
      go_wp2_with fail
      go_ret2
      exact ⟨_, by rw [E1.out]; rfl, by rw [E0.out]; exact HO.out, hB⟩

end Go.Proofs.Ytdflpocnfodbhab
