/- Long numbers: the program's root of a list of digits. -/
import Derived.Test.YtdflpocnfodbhabDgImp
import Derived.Test.YtdflpocnfodbhabLgQ
set_option linter.unusedVariables false
set_option linter.unusedSimpArgs false
set_option maxRecDepth 100000
namespace Go.Proofs.Ytdflpocnfodbhab
open Go.ChangeShapes Go.WideShapes Go.ChangeAt Go.RowKit

theorem isq_self_leL (X : Nat) : isq X ≤ X := by
  have h := isq_le X
  rcases Nat.eq_zero_or_pos (isq X) with h0 | h0
  · omega
  · have : isq X * 1 ≤ isq X * isq X := Nat.mul_le_mul_left _ h0
    omega

set_option maxHeartbeats 2000000 in
theorem implRootDigits_any (va : Value) (a : List Int) (b : Int) (w : World) (hra : RowAt w va (intsOf a)) (hl : a.length ≤ 1048576) (hia : ∀ n ∈ a, in64 n) (hb : in64 b) :
    Calls Try.prog 26 #[va, .int .i64 b] w fun e w' => ∃ v, e = .returned (.tuple #[v, .bool (rRootDigits1 a b)]) ∧ w'.ownsRow w.heap.size 3 1 v (rRootDigits0 a b).length (intsOf (rRootDigits0 a b)) ∧ Below w.heap.size w w' := by
  have H1 := Lib.hid (implDigitsOk_any va a b w hra hl hia hb)
  cases h : okD a b
  · rw [h] at H1
    have E1 := Lib.hid (show rRootDigits1 a b = false from h)
    have E0 := Lib.hid (show rRootDigits0 a b = [] by rw [rRootDigits0, E1.out]; rfl)
    clear h
    go_enter Try.func26, Try.ntmps26
    go_wp2_with fail
    refine H1.out.mono ?_
    rintro e w' ⟨rfl, rfl⟩
    go_wp2_with fail
    go_ret2
    exact ⟨_, by rw [E1.out]; rfl, by rw [E0.out]; exact World.ownsRow_nil _ _ _ _, Below.refl _ _⟩
  · rw [h] at H1
    obtain ⟨b, rfl, hb2, hb16, hNa, hla⟩ := nat_of_ok h
    have HRT := Lib.hid (implRoot_any va a b w hb2 hb16 hNa hra hla)
    obtain ⟨A, hA⟩ : ∃ A, A = vl b a := ⟨_, rfl⟩
    have hml := dg_mono hb2 hNa (show isq (vl b a) ≤ vl b a from isq_self_leL _)
    rw [← hA] at HRT hml
    have HFI := Lib.hid (show fits (dg b (isq A)) = true from decide_eq_true (by omega))
    have E1 := Lib.hid (show rRootDigits1 a b = true from h)
    have E0 := Lib.hid (show rRootDigits0 a b = dg b (isq A) by rw [rRootDigits0, E1.out, vlI_nat, dgI_nat, hA]; rfl)
    clear h hNa hra hia hA hml
    go_enter Try.func26, Try.ntmps26
    go_wp2_with fail
    refine H1.out.mono ?_
    rintro e w' ⟨rfl, rfl⟩
    go_wp2_with fail
    refine HRT.out.mono ?_
    rintro e w2 ⟨v, rfl, ho, hB⟩
    have HD := Lib.hid (implResult_any v b w.heap.size (isq A) w2 ho)
    rw [HFI.out] at HD
    clear ho
    go_wp2_with fail
    refine HD.out.mono ?_
    rintro e w3 ⟨v', rfl, ho, rfl⟩
    have HO := Lib.hid ho
    clear ho
    go_wp2_with fail
    go_ret2
    exact ⟨_, by rw [E1.out]; rfl, by rw [E0.out]; simpa using HO.out, hB⟩

end Go.Proofs.Ytdflpocnfodbhab
