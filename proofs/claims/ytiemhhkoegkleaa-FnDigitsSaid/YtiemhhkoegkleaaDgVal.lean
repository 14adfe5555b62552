/- Digits: the model's value, sum and turn of a list. -/
import Derived.Test.YtiemhhkoegkleaaRow
import Derived.Maps.AppendAt
set_option linter.unusedVariables false
set_option linter.unusedSimpArgs false
set_option maxRecDepth 100000
namespace Go.Proofs.Ytiemhhkoegkleaa
open Go.ChangeShapes Go.WideShapes Go.ChangeAt Go.RowKit

/-- the sum of the first digits stays small -/
theorem sum_take_bound {l : List Int} (hd : ∀ d ∈ l, 0 ≤ d ∧ d ≤ 15) : ∀ k, k ≤ l.length → 0 ≤ (l.take k).sum ∧ (l.take k).sum ≤ 15 * k
  | 0, _ => by simp
  | k + 1, h => by
    have ih := sum_take_bound hd k (by omega)
    have := hd l[k] (List.getElem_mem (by omega))
    rw [List.take_succ_eq_append_getElem (by omega), List.sum_append]
    simp; omega

set_option maxHeartbeats 2000000 in
theorem specSum_any (v : Value) (l : List Int) (w : World) (hr : RowAt w v (intsOf l)) (hl : l.length ≤ 1000000) (hd : ∀ d ∈ l, 0 ≤ d ∧ d ≤ 15) :
    Calls Try.prog 75 #[v] w fun e w' => e = .returned (.int .i64 l.sum) ∧ w = w' := by
  obtain ⟨a, cap, rfl, h1, h2, h3⟩ := hr.ints
  unfold maxLen at h2
  have HD := Lib.hid hd; clear hd
  go_enter Try.func75, Try.ntmps75
  go_wp2
  go_loop [3, 8] (fun x i => ∃ k : Nat, k ≤ l.length ∧ i = .int .i64 k ∧ x = .int .i64 (l.take k).sum) (fun _ i => l.length - (intOf i).toNat)
  case atStart => exact ⟨0, Nat.zero_le _, rfl, rfl⟩
  case round =>
    obtain ⟨k, hk, rfl, rfl⟩ := hrel
    obtain ⟨hs0, hs1⟩ := sum_take_bound HD.out k hk
    by_cases hlt : k < l.length
    · obtain ⟨b', off, rfl, hbb, hcell⟩ := h3.resolve_left (fun e => by rw [e] at hlt; simp at hlt)
      have hc := hcell k hlt
      have hdj := HD.out _ (List.getElem_mem hlt)
      have HX := Lib.hid (show (l.take k).sum + l[k] = (l.take (k + 1)).sum by
        rw [List.take_succ_eq_append_getElem hlt, List.sum_append]; simp)
      clear h3 hcell
      go_wp2
      go_round
      case rel => exact ⟨k + 1, by omega, by go_num, by rw [HX.out]⟩
      case measure => simp [intOf]; omega
    · have hkl : k = l.length := by omega
      subst hkl
      have HV := Lib.hid (show (l.take l.length).sum = l.sum by rw [List.take_length])
      clear h3
      go_wp2
      go_ret
      exact ⟨by rw [← HV.out]; rfl, rfl⟩

end Go.Proofs.Ytiemhhkoegkleaa
