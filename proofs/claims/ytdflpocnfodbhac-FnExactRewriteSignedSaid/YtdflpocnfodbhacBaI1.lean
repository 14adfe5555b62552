/- Balanced digits: the program's tests, one place of a sum, and the digits of an integer. -/
import Derived.Test.YtdflpocnfodbhacBaM
import Derived.Test.YtdflpocnfodbhacLgCmp
import Derived.Test.YtdflpocnfodbhacRf
import Derived.Deep.LoopGhost
import Derived.Deep.RegionHeld3
set_option linter.unusedVariables false
set_option linter.unusedSimpArgs false
set_option maxRecDepth 100000
namespace Go.Proofs.Ytdflpocnfodbhac
open Go.ChangeShapes Go.WideShapes Go.ChangeAt Go.RowKit

/-- one place of a sum: the digit, and what goes on -/
def pdg (h : Nat) (s : Int) : Int := (s + h) % (2 * h + 1) - h
def pqo (h : Nat) (s : Int) : Int := (s + h) / (2 * h + 1)
theorem pd_facts {h : Nat} (hh : 1 ≤ h) (s : Int) : s = pdg h s + (2 * h + 1) * pqo h s ∧ -(h : Int) ≤ pdg h s ∧ pdg h s ≤ h := by
  obtain ⟨h1, h2, h3⟩ := bd_facts hh s
  exact ⟨h1.symm, h2, h3⟩
theorem pd_uniq {h : Nat} (hh : 1 ≤ h) {s d q : Int} (e : d + (2 * h + 1) * q = s) (h1 : -(h : Int) ≤ d) (h2 : d ≤ h) : pdg h s = d ∧ pqo h s = q := by
  have e1 : s + h = (d + h) + (2 * h + 1) * q := by omega
  unfold pdg pqo
  rw [e1, Int.add_mul_emod_self_left, Int.add_mul_ediv_left _ _ (by omega), Int.emod_eq_of_lt (by omega) (by omega), Int.ediv_eq_zero_of_lt (by omega) (by omega)]
  omega

theorem drew_twice (w : World) (m n : Nat) : (w.drewN m).drewN n = w.drewN (m + n) := by simp [World.drewN, Nat.add_assoc]

/-- what a sum carries -/
def cyOf (s h : Int) : Int := if h < s then 1 else if -h ≤ s then 0 else -1

theorem carry_q (s h : Int) (w : World) (n : Nat) (h1 : 0 ≤ h) (h7 : h ≤ 7) :
    Calls Try.prog 69 #[.int .i64 s, .int .i64 h] (w.drewN n) fun e w' => e = .returned (.int .i64 (cyOf s h)) ∧ w' = w.drewN n := by
  by_cases g1 : h < s
  · have HV := Lib.hid (show cyOf s h = 1 by simp [cyOf, g1])
    go_enter Try.func69, Try.ntmps69
    go_wp2
    go_ret
    exact ⟨by rw [HV.out]; rfl, rfl⟩
  · by_cases g2 : -h ≤ s
    · have HV := Lib.hid (show cyOf s h = 0 by simp [cyOf, g1, g2])
      go_enter Try.func69, Try.ntmps69
      go_wp2
      go_ret
      exact ⟨by rw [HV.out]; rfl, rfl⟩
    · have HV := Lib.hid (show cyOf s h = -1 by simp [cyOf, g1, g2])
      go_enter Try.func69, Try.ntmps69
      go_wp2
      go_ret
      exact ⟨by rw [HV.out]; rfl, rfl⟩

theorem greatest_any (h : Nat) (b : Int) (w : World) (hbe : b = 2 * (h : Int) + 1) (h7 : h ≤ 7) :
    Calls Try.prog 67 #[.int .i64 b] w fun e w' => e = .returned (.int .i64 h) ∧ w' = w := by
  have q2 : (b - 1).tdiv 2 = (h : Int) := by rw [Int.tdiv_eq_ediv_of_nonneg (by omega)]; omega
  go_enter Try.func67, Try.ntmps67
  go_wp2
  go_ret
  exact ⟨rfl, rfl⟩

theorem carry_place {h : Nat} (hh : 1 ≤ h) {s r t : Int} (e : t * (2 * h + 1) + r = s) (h1 : -(2 * (h : Int) + 1) < r) (h2 : r < 2 * h + 1) :
    r - cyOf r h * (2 * h + 1) = pdg h s ∧ t + cyOf r h = pqo h s := by
  have hc : ∃ c, c = cyOf r h ∧ -(h : Int) ≤ r - c * (2 * h + 1) ∧ r - c * (2 * h + 1) ≤ h ∧ (c = 1 ∨ c = 0 ∨ c = -1) := by
    refine ⟨_, rfl, ?_⟩
    unfold cyOf
    split
    · refine ⟨by omega, by omega, .inl rfl⟩
    · split
      · refine ⟨by omega, by omega, .inr (.inl rfl)⟩
      · refine ⟨by omega, by omega, .inr (.inr rfl)⟩
  obtain ⟨c, hc, c1, c2, c3⟩ := hc
  rw [← hc]
  have e2 : (r - c * (2 * (h : Int) + 1)) + (2 * h + 1) * (t + c) = s := by
    obtain ⟨B, hB⟩ : ∃ B, B = 2 * (h : Int) + 1 := ⟨_, rfl⟩
    rw [← hB] at e ⊢
    rw [Int.mul_add, Int.mul_comm B t, Int.mul_comm B c]; omega
  obtain ⟨u1, u2⟩ := pd_uniq hh e2 c1 c2
  exact ⟨u1.symm, u2.symm⟩

set_option maxHeartbeats 2000000 in
theorem placeB_any (s : Int) (h : Nat) (b : Int) (w : World) (hh : 1 ≤ h) (h7 : h ≤ 7) (hbe : b = 2 * (h : Int) + 1) (hs1 : -1000000000000000 ≤ s) (hs2 : s ≤ 1000000000000000) :
    Calls Try.prog 47 #[.int .i64 s, .int .i64 b] w fun e w' => e = .returned (.tuple #[.int .i64 (pdg h s), .int .i64 (pqo h s)]) ∧ ∃ q, w' = w.drewN q := by
  obtain ⟨r, hr⟩ : ∃ r, s.tmod b = r := ⟨_, rfl⟩
  obtain ⟨t, ht⟩ : ∃ t, s.tdiv b = t := ⟨_, rfl⟩
  have e0 := Int.tmod_add_mul_tdiv s b
  rw [hr, ht] at e0
  have r1 : -b < r := by
    have := Int.natAbs_tmod s b
    have h5 : r.natAbs < b.natAbs := by
      rw [← hr, Int.natAbs_tmod]; exact Nat.mod_lt _ (by omega)
    omega
  have r2 : r < b := by
    have h5 : r.natAbs < b.natAbs := by
      rw [← hr, Int.natAbs_tmod]; exact Nat.mod_lt _ (by omega)
    omega
  have t1 : t.natAbs ≤ s.natAbs := by rw [← ht, Int.natAbs_tdiv]; exact Nat.div_le_self _ _
  obtain ⟨p1, p2⟩ := carry_place hh (s := s) (r := r) (t := t) (by rw [← hbe, Int.mul_comm]; omega) (by omega) (by omega)
  rw [← hbe] at p1
  obtain ⟨c, hc⟩ : ∃ c, c = cyOf r h := ⟨_, rfl⟩
  have c1 : -1 ≤ c ∧ c ≤ 1 := by
    rw [hc]; unfold cyOf; split
    · omega
    · split <;> omega
  obtain ⟨c1, c2⟩ := c1
  have HG := Lib.hid (fun n => greatest_any h b (w.drewN n) hbe h7)
  have HC := Lib.hid (fun n => carry_q r h w n (by omega) (by omega))
  rw [← hc] at HC p1 p2
  have P1 := Lib.hid p1; have P2 := Lib.hid p2
  have hb1 : 3 ≤ b := by omega
  have hb2 : b ≤ 15 := by omega
  have m1 : -15 ≤ c * b ∧ c * b ≤ 15 := by
    rcases (show c = -1 ∨ c = 0 ∨ c = 1 by omega) with rfl | rfl | rfl <;> omega
  obtain ⟨m1, m2⟩ := m1
  have hbz : (b == 0) = false := by simp; omega
  clear hc p1 p2 e0 hbe
  go_enter Try.func47, Try.ntmps47
  go_wp2
  go_quiet (first
    | (go_at_call 67; exact Calls.quiet_of_same (HG.out _))
    | (go_at_call 69; exact Calls.quiet_of_same (HC.out _)))
  go_wp2
  go_quiet (fail)
  go_wp2
  go_ret2
  exact ⟨by rw [← P1.out, ← P2.out]; rfl, _, drew_twice _ _ _⟩

theorem baseB_any (b : Int) (w : World) (hb : in64 b) :
    Calls Try.prog 68 #[.int .i64 b] w fun e w' => e = .returned (.bool (okE b)) ∧ w = w' := by
  obtain ⟨hb0, hb1⟩ := hb
  by_cases h : 3 ≤ b
  · by_cases h' : b ≤ 15
    · have ht : b.tmod 2 = b % 2 := Int.tmod_eq_emod_of_nonneg (by omega)
      rcases (show b % 2 = 0 ∨ b % 2 = 1 by omega) with hp | hp
      · have HK := Lib.hid (show okE b = false by simp [okE, hp])
        rw [hp] at ht
        clear hp
        go_enter Try.func68, Try.ntmps68
        go_wp2
        go_ret
        exact ⟨ret_bool HK.out.symm, rfl⟩
      · have HK := Lib.hid (show okE b = true by simp [okE, inB, h, h', hp])
        rw [hp] at ht
        clear hp
        go_enter Try.func68, Try.ntmps68
        go_wp2
        go_ret
        exact ⟨ret_bool HK.out.symm, rfl⟩
    · have HK := Lib.hid (show okE b = false by simp [okE, inB, h'])
      go_enter Try.func68, Try.ntmps68
      go_wp2
      go_ret
      exact ⟨ret_bool HK.out.symm, rfl⟩
  · have HK := Lib.hid (show okE b = false by simp [okE, inB, h])
    go_enter Try.func68, Try.ntmps68
    go_wp2
    go_ret
    exact ⟨ret_bool HK.out.symm, rfl⟩

end Go.Proofs.Ytdflpocnfodbhac
