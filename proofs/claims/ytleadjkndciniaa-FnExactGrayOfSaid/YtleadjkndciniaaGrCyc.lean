/- Gray codes: the model's cycles and rings. -/
import Derived.Test.YtleadjkndciniaaGrSpec
set_option linter.unusedVariables false
set_option linter.unusedSimpArgs false
set_option maxRecDepth 100000
namespace Go.Proofs.Ytleadjkndciniaa
open Go.ChangeShapes Go.WideShapes Go.ChangeAt Go.RowKit

theorem pow_s16 {x : Nat} (h : x ≤ 16) : 1 ≤ 2 ^ x ∧ 2 ^ x ≤ 65536 := by
  have h1 : 0 < 2 ^ x := Nat.two_pow_pos x
  have h2 : 2 ^ x ≤ 2 ^ 16 := Nat.pow_le_pow_right (by omega) h
  have h3 : (2 : Nat) ^ 16 = 65536 := by decide
  omega

/-! ### rings -/
def rRingSteps0 (s k : Int) : Int := if inB k 1 16 && inB s 0 (((2 ^ k.toNat : Nat) : Int) - 1) then ((ug s.toNat : Nat) : Int) else -1
theorem specRingSteps_any (s k : Int) (w : World) (hs : in64 s) (hk : in64 k) :
    Calls Try.prog 26 #[.int .i64 s, .int .i64 k] w fun e w' => e = .returned (.int .i64 (rRingSteps0 s k)) ∧ Below w.heap.size w w' := by
  have HK := Lib.hid (fun W => sIn_any k 1 16 W)
  have E := Lib.hid (show rRingSteps0 s k = if inB k 1 16 && inB s 0 (((2 ^ k.toNat : Nat) : Int) - 1) then ((ug s.toNat : Nat) : Int) else -1 from rfl)
  cases h : inB k 1 16
  · rw [h] at HK E
    clear h
    go_enter Try.func26, Try.ntmps26
    go_wp2_with fail
    refine (HK.out _).mono ?_
    rintro e w' ⟨rfl, rfl⟩
    go_wp2_with fail
    go_ret
    exact ⟨by rw [E.out]; rfl, Below.refl _ _⟩
  · rw [h] at HK E
    obtain ⟨k0, k1⟩ := inB_yes h
    obtain ⟨j, rfl⟩ : ∃ j : Nat, k = j := ⟨k.toNat, by omega⟩
    rw [Int.toNat_natCast] at E
    obtain ⟨p1, p2⟩ := pow_s16 (x := j) (by omega)
    have hpc : ((2 ^ j : Nat) : Int) = (2 : Int) ^ j := Int.natCast_pow _ _
    obtain ⟨Q, hQ⟩ : ∃ Q, Q = 2 ^ j := ⟨_, rfl⟩
    rw [← hQ] at p1 p2 hpc E
    have s2 : IntKind.i64.wrap ((2 : Int) ^ j) = Q := by rw [IntKind.wrap_i64, ← hpc]; omega
    have HS := Lib.hid (fun W => sIn_any s 0 ((Q : Int) - 1) W)
    cases h2 : inB s 0 ((Q : Int) - 1)
    · rw [h2] at HS E
      clear h h2 hQ hpc
      go_enter Try.func26, Try.ntmps26
      go_wp2_with fail
      refine (HK.out _).mono ?_
      rintro e w' ⟨rfl, rfl⟩
      go_wp2_with fail
      refine (HS.out _).mono ?_
      rintro e w' ⟨rfl, rfl⟩
      go_wp2_with fail
      go_ret
      exact ⟨by rw [E.out]; rfl, Below.refl _ _⟩
    · rw [h2] at HS E
      obtain ⟨s0, s1⟩ := inB_yes h2
      obtain ⟨t, rfl⟩ : ∃ t : Nat, s = t := ⟨s.toNat, by omega⟩
      have HF := Lib.hid (fun W => sFrom_any t W (by omega))
      clear h h2 hQ hpc
      go_enter Try.func26, Try.ntmps26
      go_wp2_with fail
      refine (HK.out _).mono ?_
      rintro e w' ⟨rfl, rfl⟩
      go_wp2_with fail
      refine (HS.out _).mono ?_
      rintro e w' ⟨rfl, rfl⟩
      go_wp2_with fail
      refine (HF.out _).mono ?_
      rintro e w' ⟨rfl, rfl⟩
      go_wp2_with fail
      go_ret
      exact ⟨by rw [E.out]; rfl, Below.refl _ _⟩

/-! ### cycles made -/
def cycP (m : Nat) : List Int := (List.range m).map (fun n => ((gc n : Nat) : Int))
theorem cycP_len (m : Nat) : (cycP m).length = m := by simp [cycP]
theorem cycP_succ (m : Nat) : cycP (m + 1) = cycP m ++ [((gc m : Nat) : Int)] := by simp [cycP, List.range_succ]
def rGrayCycle0 (k : Int) : List Int := if inB k 1 6 then cyc k.toNat else []
/-! ### cycles tested -/
theorem sPower_any (n : Nat) (w : World) (hn : n < 9223372036854775808) :
    Calls Try.prog 40 #[.int .i64 n] w fun e w' => e = .returned (.bool (pw2 n)) ∧ w = w' := by
  by_cases h0 : n = 0
  · subst h0
    go_enter Try.func40, Try.ntmps40
    go_wp2
    go_ret
    exact ⟨rfl, rfl⟩
  · have hx := and_i64 n (n - 1) hn (by omega)
    rw [show ((n - 1 : Nat) : Int) = (n : Int) - 1 by omega] at hx
    obtain ⟨A, hA⟩ : ∃ A, A = n &&& (n - 1) := ⟨_, rfl⟩
    rw [← hA] at hx
    have HP := Lib.hid (show pw2 n = decide (A = 0) by rw [pw2, decide_eq_true (by omega), Bool.true_and, hA])
    have hpos : (0 : Int) < n := by omega
    obtain ⟨b, hb⟩ : ∃ b, b = decide (A = 0) := ⟨_, rfl⟩
    have hq : ((A : Int) == 0) = b := by
      rw [hb]
      by_cases h : A = 0
      · rw [decide_eq_true h, h]; rfl
      · rw [decide_eq_false h]; simp; omega
    rw [← hb] at HP
    clear hA hb
    go_enter Try.func40, Try.ntmps40
    go_wp2
    go_ret
    exact ⟨by rw [HP.out]; first | rfl | (rw [← hq]; rfl), rfl⟩

end Go.Proofs.Ytleadjkndciniaa
