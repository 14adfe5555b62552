/- Fibonacci places: the model's root and pair. -/
import Derived.Test.YtkimojjhmllnfaaDgSpec
import Derived.Test.YtkimojjhmllnfaaLgR
import Derived.Deep.CutBlock
import Derived.Deep.CutRange
import Derived.Deep.DeepCutAuto
import Derived.Deep.LoopGhost
import Derived.Deep.RegionLaw
import Derived.OwnWalk
set_option linter.unusedVariables false
set_option linter.unusedSimpArgs false
set_option maxRecDepth 100000
namespace Go.Proofs.Ytkimojjhmllnfaa
open Go.ChangeShapes Go.WideShapes Go.ChangeAt Go.RowKit


structure RtI (n lo hi : Nat) : Prop where
  le : lo ≤ hi
  small : hi ≤ 3000000000
  low : lo * lo ≤ n
  high : n < (hi + 1) * (hi + 1)
theorem rtI_start {n : Nat} (h : n ≤ 5000000000000) : RtI n 0 3000000000 := ⟨by omega, by omega, by omega, by omega⟩
theorem rtI_up {n lo hi m : Nat} (h : RtI n lo hi) (h1 : lo < hi) (hm : m = (lo + hi + 1) / 2) (h2 : m * m ≤ n) : RtI n m hi :=
  ⟨by omega, h.small, h2, h.high⟩
theorem rtI_down {n lo hi m : Nat} (h : RtI n lo hi) (h1 : lo < hi) (hm : m = (lo + hi + 1) / 2) (h2 : ¬ m * m ≤ n) : RtI n lo (m - 1) :=
  ⟨by omega, by have := h.small; omega, h.low, by rw [show m - 1 + 1 = m by omega]; omega⟩
theorem rtI_end {n lo hi : Nat} (h : RtI n lo hi) (h1 : ¬ lo < hi) : lo = isq n := by
  have e : lo = hi := by have := h.le; omega
  subst e
  exact isq_eq h.low h.high

set_option maxHeartbeats 1000000 in
theorem specRoot_any (n : Nat) (w : World) (hn : n ≤ 5000000000000) :
    Calls Try.prog 65 #[.int .i64 n] w fun e w' => e = .returned (.int .i64 (isq n : Nat)) ∧ w = w' := by
  have HST := Lib.hid (rtI_start hn)
  go_enter Try.func65, Try.ntmps65
  go_wp2
  go_loop [3, 4] (fun a b => ∃ lo hi : Nat, a = .int .i64 lo ∧ b = .int .i64 hi ∧ RtI n lo hi) (fun a b => (intOf b).toNat - (intOf a).toNat)
  case atStart => exact ⟨0, 3000000000, rfl, rfl, HST.out⟩
  case round =>
    obtain ⟨lo, hi, rfl, rfl, hI⟩ := hrel
    have s1 := hI.le
    have s2 := hI.small
    by_cases hlt : lo < hi
    · obtain ⟨m, hm⟩ : ∃ m, m = (lo + hi + 1) / 2 := ⟨_, rfl⟩
      have hm3 : ((lo : Int) + hi + 1).tdiv 2 = (m : Int) := by rw [Int.tdiv_eq_ediv_of_nonneg (by omega)]; omega
      have hm2 : ((lo : Int) + hi + 1) / 2 = (m : Int) := by omega
      have m1 : lo < m := by omega
      have m2 : m ≤ hi := by omega
      obtain ⟨Q, hQ⟩ : ∃ Q, Q = m * m := ⟨_, rfl⟩
      have hq : (m : Int) * m = Q := by rw [hQ]; exact (Int.natCast_mul m m).symm
      have q9 : Q ≤ 9000000000000000000 := by
        have := Nat.mul_le_mul (show m ≤ 3000000000 by omega) (show m ≤ 3000000000 by omega)
        omega
      by_cases hle : Q ≤ n
      · have HN := Lib.hid (rtI_up hI hlt hm (hQ ▸ hle))
        clear hI hm hQ
        go_wp2
        go_round
        case rel => exact ⟨m, hi, rfl, rfl, HN.out⟩
        case measure => simp [intOf]; omega
      · have HN := Lib.hid (rtI_down hI hlt hm (hQ ▸ hle))
        have hmc : ((m - 1 : Nat) : Int) = (m : Int) - 1 := by omega
        clear hI hm hQ
        go_wp2
        go_round
        case rel => exact ⟨lo, m - 1, rfl, by rw [hmc], HN.out⟩
        case measure => simp [intOf]; omega
    · have HE := Lib.hid (rtI_end hI hlt)
      clear hI
      go_wp2
      go_ret
      exact ⟨by rw [← HE.out]; rfl, rfl⟩

def rWythoffPair0 (k : Int) : Int := if inB k 1 1000000 then ((k.toNat + isq (5 * (k.toNat * k.toNat))) / 2 : Nat) else 0
def rWythoffPair1 (k : Int) : Int := if inB k 1 1000000 then rWythoffPair0 k + k else 0

theorem isq_small {n m : Nat} (h : n < (m + 1) * (m + 1)) : isq n ≤ m := by
  have := isq_le n
  rcases Nat.lt_or_ge m (isq n) with h' | h'
  · have := Nat.mul_le_mul (show m + 1 ≤ isq n by omega) (show m + 1 ≤ isq n by omega)
    omega
  · exact h'

set_option maxHeartbeats 1000000 in
theorem specWythoffPair_any (n : Int) (w : World) (hn : in64 n) :
    Calls Try.prog 45 #[.int .i64 n] w fun e w' => e = .returned (.tuple #[.int .i64 (rWythoffPair0 n), .int .i64 (rWythoffPair1 n)]) ∧ Below w.heap.size w w' := by
  have HS := Lib.hid (fun W => sIn_any n 1 1000000 W)
  cases h : inB n 1 1000000
  · rw [h] at HS
    have E0 := Lib.hid (show rWythoffPair0 n = 0 ∧ rWythoffPair1 n = 0 by rw [rWythoffPair0, rWythoffPair1, h]; exact ⟨rfl, rfl⟩)
    clear h
    go_enter Try.func45, Try.ntmps45
    go_wp2_with fail
    refine (HS.out _).mono ?_
    rintro e w' ⟨rfl, rfl⟩
    go_wp2_with fail
    go_ret2
    exact ⟨by rw [E0.out.1, E0.out.2]; rfl, Below.refl _ _⟩
  · rw [h] at HS
    obtain ⟨n0, n1⟩ := inB_yes h
    obtain ⟨k, rfl⟩ : ∃ k : Nat, n = k := ⟨n.toNat, by omega⟩
    have h0 : rWythoffPair0 k = ((k + isq (5 * (k * k))) / 2 : Nat) := by rw [rWythoffPair0, h]; rfl
    have h1 : rWythoffPair1 k = rWythoffPair0 k + k := by rw [rWythoffPair1, h]; rfl
    obtain ⟨Q, hQ⟩ : ∃ Q, Q = 5 * (k * k) := ⟨_, rfl⟩
    have hq : 5 * (k : Int) * k = Q := by rw [hQ, Int.mul_assoc]; push_cast; rfl
    have q9 : Q ≤ 5000000000000 := by
      have := Nat.mul_le_mul (show k ≤ 1000000 by omega) (show k ≤ 1000000 by omega)
      omega
    have HR := Lib.hid (fun W => specRoot_any Q W q9)
    have r9 : isq Q ≤ 3000000 := isq_small (by omega)
    rw [← hQ] at h0
    obtain ⟨R, hR⟩ : ∃ R, R = isq Q := ⟨_, rfl⟩
    rw [← hR] at HR r9 h0
    obtain ⟨a, ha⟩ : ∃ a, a = (k + R) / 2 := ⟨_, rfl⟩
    rw [← ha] at h0
    have hm3 : ((k : Int) + R).tdiv 2 = (a : Int) := by rw [Int.tdiv_eq_ediv_of_nonneg (by omega)]; omega
    have hm2 : ((k : Int) + R) / 2 = (a : Int) := by omega
    have a9 : a ≤ 3000000 := by omega
    have E0 := Lib.hid (show rWythoffPair0 k = a ∧ rWythoffPair1 k = (a : Int) + k from ⟨h0, by rw [h1, h0]⟩)
    clear h h0 h1 hQ hR ha
    go_enter Try.func45, Try.ntmps45
    go_wp2_with fail
    refine (HS.out _).mono ?_
    rintro e w' ⟨rfl, rfl⟩
    go_wp2_with fail
    refine (HR.out _).mono ?_
    rintro e w' ⟨rfl, rfl⟩
    go_wp2_with fail
    go_ret2
    exact ⟨by rw [E0.out.1, E0.out.2]; rfl, Below.refl _ _⟩

end Go.Proofs.Ytkimojjhmllnfaa
