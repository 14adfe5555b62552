/- Digits: the model's functions of a number and a base. -/
import Derived.Test.YtedjmoliihejcaaDgVal
set_option linter.unusedVariables false
namespace Go.Proofs.Ytedjmoliihejcaa
open Go.ChangeShapes Go.WideShapes Go.ChangeAt Go.RowKit

/-- a valid number and base, as naturals -/
theorem okN_nats {n b : Int} (h : okN n b = true) : ∃ n' b' : Nat, n = n' ∧ b = b' ∧ 2 ≤ b' ∧ b' ≤ 16 ∧ n' ≤ 1000000000000 := by
  obtain ⟨⟨h1, h2⟩, h3, h4⟩ := okN_yes h
  exact ⟨n.toNat, b.toNat, by omega, by omega, by omega, by omega, by omega⟩

theorem dg_15 {b n : Nat} (hb : 2 ≤ b) (hb16 : b ≤ 16) : ∀ d ∈ dg b n, 0 ≤ d ∧ d ≤ 15 := fun d hd => by
  have := dg_digits hb n n (Nat.le_refl _) d hd; omega

set_option maxHeartbeats 2000000 in
theorem specDigitsOf_any (n b : Int) (w : World) (hn : in64 n) (hb : in64 b) :
    Calls Try.prog 29 #[.int .i64 n, .int .i64 b] w fun e w' => ∃ v, e = .returned v ∧ w'.ownsRow w.heap.size 3 1 v (rDigitsOf0 n b).length (intsOf (rDigitsOf0 n b)) ∧ Below w.heap.size w w' := by
  cases h : okN n b
  · have HC := Lib.hid (fun W => specOk_any n b W hn hb)
    rw [h] at HC
    rw [show rDigitsOf0 n b = [] by simp [rDigitsOf0, h]]
    clear h hn hb
    go_enter Try.func29, Try.ntmps29
    go_wp2_with (go_at_call 50; refine (HC.out _).mono ?_; rintro e w' ⟨rfl, rfl⟩)
    go_ret
    exact ⟨_, rfl, World.ownsRow_nil _ _ _ _, Below.refl _ _⟩
  · have HC := Lib.hid (fun W => specOk_any n b W hn hb)
    rw [h] at HC
    obtain ⟨n, b, rfl, rfl, hb2, hb16, hn12⟩ := okN_nats h
    have HE := Lib.hid (show rDigitsOf0 n b = dg b n by rw [rDigitsOf0, if_pos h]; rfl)
    clear h hn hb
    go_enter Try.func29, Try.ntmps29
    go_wp2_with (first | (go_at_call 50; refine (HC.out _).mono ?_; rintro e w' ⟨rfl, rfl⟩) | (go_at_call 51; refine (specDigits_any n b _ hb2 hb16 hn12).mono ?_; rintro e w1 ⟨v, rfl, hown, hB⟩))
    go_ret
    refine ⟨_, rfl, ?_, hB⟩
    rw [HE.out]; exact hown

set_option maxHeartbeats 2000000 in
theorem specCountDigits_any (n b : Int) (w : World) (hn : in64 n) (hb : in64 b) :
    Calls Try.prog 33 #[.int .i64 n, .int .i64 b] w fun e w' => e = .returned (.int .i64 (rCountDigits0 n b)) ∧ Below w.heap.size w w' := by
  cases h : okN n b
  · have HC := Lib.hid (fun W => specOk_any n b W hn hb)
    rw [h] at HC
    rw [show rCountDigits0 n b = -1 by simp [rCountDigits0, h]]
    clear h hn hb
    go_enter Try.func33, Try.ntmps33
    go_wp2_with (go_at_call 50; refine (HC.out _).mono ?_; rintro e w' ⟨rfl, rfl⟩)
    go_ret
    exact ⟨rfl, Below.refl _ _⟩
  · have HC := Lib.hid (fun W => specOk_any n b W hn hb)
    rw [h] at HC
    obtain ⟨n, b, rfl, rfl, hb2, hb16, hn12⟩ := okN_nats h
    have HE := Lib.hid (show rCountDigits0 n b = (dg b n).length by rw [rCountDigits0, if_pos h]; rfl)
    clear h hn hb
    go_enter Try.func33, Try.ntmps33
    go_wp2_with fail
    refine (HC.out _).mono ?_
    rintro e w' ⟨rfl, rfl⟩
    go_wp2_with fail
    refine (specDigits_any n b _ hb2 hb16 hn12).mono ?_
    rintro e w1 ⟨v, rfl, hown, hB⟩
    obtain ⟨a, cap, rfl, h1, h2, h3⟩ := (RowAt.of_owns hown).ints
    clear h3
    go_wp2
    go_ret
    exact ⟨by rw [HE.out]; rfl, hB⟩

set_option maxHeartbeats 2000000 in
theorem specDigitSum_any (n b : Int) (w : World) (hn : in64 n) (hb : in64 b) :
    Calls Try.prog 35 #[.int .i64 n, .int .i64 b] w fun e w' => e = .returned (.int .i64 (rDigitSum0 n b)) ∧ Below w.heap.size w w' := by
  cases h : okN n b
  · have HC := Lib.hid (fun W => specOk_any n b W hn hb)
    rw [h] at HC
    rw [show rDigitSum0 n b = -1 by simp [rDigitSum0, h]]
    clear h hn hb
    go_enter Try.func35, Try.ntmps35
    go_wp2_with (go_at_call 50; refine (HC.out _).mono ?_; rintro e w' ⟨rfl, rfl⟩)
    go_ret
    exact ⟨rfl, Below.refl _ _⟩
  · have HC := Lib.hid (fun W => specOk_any n b W hn hb)
    rw [h] at HC
    obtain ⟨n, b, rfl, rfl, hb2, hb16, hn12⟩ := okN_nats h
    have HE := Lib.hid (show rDigitSum0 n b = (dg b n).sum by rw [rDigitSum0, if_pos h]; rfl)
    have h40 := dg_len40 hb2 hn12
    clear h hn hb
    go_enter Try.func35, Try.ntmps35
    go_wp2_with fail
    refine (HC.out _).mono ?_
    rintro e w' ⟨rfl, rfl⟩
    go_wp2_with fail
    refine (specDigits_any n b _ hb2 hb16 hn12).mono ?_
    rintro e w1 ⟨v, rfl, hown, hB⟩
    go_wp2_with fail
    refine (specSum_any _ _ _ (RowAt.of_owns hown) (by omega) (dg_15 hb2 hb16)).mono ?_
    rintro e w2 ⟨rfl, rfl⟩
    go_wp2
    go_ret
    exact ⟨by rw [HE.out]; rfl, hB⟩

end Go.Proofs.Ytedjmoliihejcaa
