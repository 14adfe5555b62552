/- Balanced digits: the program's tests, one place of a sum, and the digits of an integer. -/
import Derived.Test.YtdflpocnfodbhabRf
import Derived.Test.YtdflpocnfodbhabLgCmp
import Derived.Test.YtdflpocnfodbhabBaM
import Derived.Deep.LoopGhost
import Derived.Deep.RegionHeld3
set_option linter.unusedVariables false
set_option linter.unusedSimpArgs false
set_option maxRecDepth 100000
namespace Go.Proofs.Ytdflpocnfodbhab
open Go.ChangeShapes Go.WideShapes Go.ChangeAt Go.RowKit

/-- one place of a sum: the digit, and what goes on -/
def pdg (h : Nat) (s : Int) : Int := (s + h) % (2 * h + 1) - h
def pqo (h : Nat) (s : Int) : Int := (s + h) / (2 * h + 1)
theorem pd_facts {h : Nat} (hh : 1 ≤ h) (s : Int) : s = pdg h s + (2 * h + 1) * pqo h s ∧ -(h : Int) ≤ pdg h s ∧ pdg h s ≤ h := by
  obtain ⟨h1, h2, h3⟩ := bd_facts hh s
  exact ⟨h1.symm, h2, h3⟩
theorem pd_uniq {h : Nat} (hh : 1 ≤ h) {s d q : Int} (e : d + (2 * h + 1) * q = s) (h1 : -(h : Int) ≤ d) (h2 : d ≤ h) : pdg h s = d ∧ pqo h s = q := by
  have e1 : s + h = (d + h) + (2 * h + 1) * q := by omega
  unfold pdg pqo
  rw [e1, Int.add_mul_emod_self_left, Int.add_mul_ediv_left _ _ (by omega), Int.emod_eq_of_lt (by omega) (by omega), Int.ediv_eq_zero_of_lt (by omega) (by omega)]
  omega

theorem drew_twice (w : World) (m n : Nat) : (w.drewN m).drewN n = w.drewN (m + n) := by simp [World.drewN, Nat.add_assoc]

/-- what a sum carries -/
def cyOf (s h : Int) : Int := if h < s then 1 else if -h ≤ s then 0 else -1

theorem greatest_any (h : Nat) (b : Int) (w : World) (hbe : b = 2 * (h : Int) + 1) (h7 : h ≤ 7) :
    Calls Try.prog 73 #[.int .i64 b] w fun e w' => e = .returned (.int .i64 h) ∧ w' = w := by
  have q2 : (b - 1).tdiv 2 = (h : Int) := by rw [Int.tdiv_eq_ediv_of_nonneg (by omega)]; omega
  go_enter Try.func73, Try.ntmps73
  go_wp2
  go_ret
  exact ⟨rfl, rfl⟩

theorem carry_place {h : Nat} (hh : 1 ≤ h) {s r t : Int} (e : t * (2 * h + 1) + r = s) (h1 : -(2 * (h : Int) + 1) < r) (h2 : r < 2 * h + 1) :
    r - cyOf r h * (2 * h + 1) = pdg h s ∧ t + cyOf r h = pqo h s := by
  have hc : ∃ c, c = cyOf r h ∧ -(h : Int) ≤ r - c * (2 * h + 1) ∧ r - c * (2 * h + 1) ≤ h ∧ (c = 1 ∨ c = 0 ∨ c = -1) := by
    refine ⟨_, rfl, ?_⟩
    unfold cyOf
    split
    · refine ⟨by omega, by omega, .inl rfl⟩
    · split
      · refine ⟨by omega, by omega, .inr (.inl rfl)⟩
      · refine ⟨by omega, by omega, .inr (.inr rfl)⟩
  obtain ⟨c, hc, c1, c2, c3⟩ := hc
  rw [← hc]
  have e2 : (r - c * (2 * (h : Int) + 1)) + (2 * h + 1) * (t + c) = s := by
    obtain ⟨B, hB⟩ : ∃ B, B = 2 * (h : Int) + 1 := ⟨_, rfl⟩
    rw [← hB] at e ⊢
    rw [Int.mul_add, Int.mul_comm B t, Int.mul_comm B c]; omega
  obtain ⟨u1, u2⟩ := pd_uniq hh e2 c1 c2
  exact ⟨u1.symm, u2.symm⟩

theorem baseB_any (b : Int) (w : World) (hb : in64 b) :
    Calls Try.prog 74 #[.int .i64 b] w fun e w' => e = .returned (.bool (okE b)) ∧ w = w' := by
  obtain ⟨hb0, hb1⟩ := hb
  by_cases h : 3 ≤ b
  · by_cases h' : b ≤ 15
    · have ht : b.tmod 2 = b % 2 := Int.tmod_eq_emod_of_nonneg (by omega)
      rcases (show b % 2 = 0 ∨ b % 2 = 1 by omega) with hp | hp
      · have HK := Lib.hid (show okE b = false by simp [okE, hp])
        rw [hp] at ht
        clear hp
        go_enter Try.func74, Try.ntmps74
        go_wp2
        go_ret
        exact ⟨ret_bool HK.out.symm, rfl⟩
      · have HK := Lib.hid (show okE b = true by simp [okE, inB, h, h', hp])
        rw [hp] at ht
        clear hp
        go_enter Try.func74, Try.ntmps74
        go_wp2
        go_ret
        exact ⟨ret_bool HK.out.symm, rfl⟩
    · have HK := Lib.hid (show okE b = false by simp [okE, inB, h'])
      go_enter Try.func74, Try.ntmps74
      go_wp2
      go_ret
      exact ⟨ret_bool HK.out.symm, rfl⟩
  · have HK := Lib.hid (show okE b = false by simp [okE, inB, h])
    go_enter Try.func74, Try.ntmps74
    go_wp2
    go_ret
    exact ⟨ret_bool HK.out.symm, rfl⟩

end Go.Proofs.Ytdflpocnfodbhab
