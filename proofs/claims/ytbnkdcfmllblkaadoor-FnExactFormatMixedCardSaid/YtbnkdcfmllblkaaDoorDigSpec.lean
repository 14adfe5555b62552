/- IsDigits: the model. -/
import Derived.Test.YtbnkdcfmllblkaaDoorDigS
set_option linter.unusedVariables false
set_option linter.unusedSimpArgs false
namespace Go.Proofs.YtbnkdcfmllblkaaDoor
open Go.ChangeShapes Go.WideShapes Go.ChangeAt Go.RowKit

set_option maxHeartbeats 400000 in
theorem specIsDigits_any (s : ByteArray) (w : World) (hs : s.size ≤ maxLen) :
    Calls Tryd.prog 30 #[.string s] w fun e w' => e = .returned (.bool (isDig s)) ∧ w = w' := by
  unfold maxLen at hs
  go_enter Tryd.func30, Tryd.ntmps30
  go_wp2
  go_loop [3] (fun i => ∃ k : Nat, k ≤ s.size ∧ i = .int .i64 k ∧ ∀ i (h : i < s.size), i < k → digB (s[i].toNat) = true) (fun i => s.size - (intOf i).toNat)
  case atStart => exact ⟨0, by omega, rfl, fun i h k => by omega⟩
  case round =>
    obtain ⟨k, hle, rfl, hall⟩ := hrel
    have HA := Lib.hid hall; clear hall
    by_cases hp : k < s.size
    · by_cases hd : digB (s[k].toNat) = true
      · obtain ⟨d1, d2⟩ := digB_yes hd
        have HD := Lib.hid hd; clear hd
        go_wp2
        go_round
        case rel =>
          refine ⟨k + 1, by omega, by go_num, fun i h j => ?_⟩
          by_cases e : i = k
          · subst e; exact HD.out
          · exact HA.out i h (by omega)
        case measure => simp [intOf]; omega
      · have hf : isDig s = false := by
          simp only [isDig, decide_eq_false_iff_not]; intro ⟨_, h⟩; exact hd (h k hp)
        have HF := Lib.hid hf
        have h1 := digB_no hd
        clear hf hd
        by_cases h2 : (s[k].toNat : Int) < 48
        · clear h1
          go_wp2
          go_ret
          exact ⟨ret_bool HF.out.symm, rfl⟩
        · have h3 : 57 < (s[k].toNat : Int) := by omega
          clear h1
          go_wp2
          go_ret
          exact ⟨ret_bool HF.out.symm, rfl⟩
    · have HP := Lib.hid hp
      go_wp2
      go_ret
      refine ⟨ret_bool ?_, rfl⟩
      simp only [isDig]
      by_cases h0 : s.size = 0
      · simp [h0]
      · have : 0 < s.size := by omega
        simp only [this, true_and, decide_true]
        exact (decide_eq_true (fun i h => HA.out i h (by have := HP.out; omega))).symm

end Go.Proofs.YtbnkdcfmllblkaaDoor
