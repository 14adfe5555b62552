/- Digits: the model's value, sum and turn of a list. -/
import Derived.Test.YtdflpocnfodbhaaRow
import Derived.Test.YtdflpocnfodbhaaDgS
set_option linter.unusedVariables false
set_option linter.unusedSimpArgs false
set_option maxRecDepth 100000
namespace Go.Proofs.Ytdflpocnfodbhaa
open Go.ChangeShapes Go.WideShapes Go.ChangeAt Go.RowKit

set_option maxHeartbeats 2000000 in
theorem specValue_any (v : Value) (l : List Int) (b : Int) (w : World) (hr : RowAt w v (intsOf l)) (hb2 : 2 ≤ b) (hb16 : b ≤ 16) (hl : l.length ≤ 60) (hd : ∀ d ∈ l, 0 ≤ d ∧ d ≤ b - 1) :
    Calls Try.prog 117 #[v, .int .i64 b] w fun e w' => e = .returned (.int .i64 (capV (hv b l))) ∧ w = w' := by
  obtain ⟨a, cap, rfl, h1, h2, h3⟩ := hr.ints
  unfold maxLen at h2
  have HD := Lib.hid hd; clear hd
  go_enter Try.func117, Try.ntmps117
  go_wp2
  go_loop [5, 6] (fun x i => ∃ k : Nat, k ≤ l.length ∧ i = .int .i64 ((k : Int) - 1) ∧ x = .int .i64 (hv b (l.drop k)) ∧ hv b (l.drop k) ≤ 1000000000000) (fun _ i => (intOf i + 1).toNat)
  case atStart => exact ⟨l.length, Nat.le_refl _, rfl, by simp [hv_nil], by simp [hv_nil]⟩
  case round =>
    obtain ⟨k, hk, rfl, rfl, hle⟩ := hrel
    have hx0 : 0 ≤ hv b (l.drop k) := hv_nonneg (by omega) _ (fun d hd => (HD.out d (List.mem_of_mem_drop hd)).1)
    cases k with
    | zero =>
      have HV := Lib.hid (show capV (hv b l) = hv b (l.drop 0) by
        rw [List.drop_zero] at hle ⊢; rw [capV, if_pos hle])
      clear h3
      go_wp2
      go_ret
      exact ⟨by rw [HV.out]; rfl, rfl⟩
    | succ j =>
      rw [show ((j + 1 : Nat) : Int) - 1 = (j : Int) by omega]
      have hjl : j < l.length := by omega
      obtain ⟨b', off, rfl, hbb, hcell⟩ := h3.resolve_left (fun e => by rw [e] at hjl; simp at hjl)
      have hc := hcell j hjl
      have hdr := hv_drop (b := b) hjl
      have hdj := HD.out _ (List.getElem_mem hjl)
      obtain ⟨x, hx⟩ : ∃ x, x = hv b (l.drop (j + 1)) := ⟨_, rfl⟩
      rw [← hx] at hx0 hle hdr ⊢
      have hp0 : 0 ≤ x * b := Int.mul_nonneg hx0 (by omega)
      have hp1 : x * b ≤ 16000000000000 := by
        have := Int.mul_le_mul hle hb16 (by omega) (by omega)
        omega
      rw [Int.mul_comm b x] at hdr
      have hdr' : x * b + l[j] = hv b (l.drop j) := by omega
      have HX := Lib.hid hdr'
      have HLe := Lib.hid (hv_drop_le (b := b) (by omega) l (fun d hd => (HD.out d hd).1) j (by omega))
      clear h3 hcell hdr hdr' hx
      by_cases hbig : 1000000000000 < x * b + l[j]
      · have HV := Lib.hid (show capV (hv b l) = -1 by
          have := HLe.out; have := HX.out
          rw [capV, if_neg (by omega)])
        go_wp2
        go_ret
        exact ⟨by rw [HV.out]; rfl, rfl⟩
      · go_wp2
        go_round
        case rel => exact ⟨j, by omega, by go_num, by rw [HX.out], by have := HX.out; omega⟩
        case measure => simp [intOf]

/-- the sum of the first digits stays small -/
theorem sum_take_bound {l : List Int} (hd : ∀ d ∈ l, 0 ≤ d ∧ d ≤ 15) : ∀ k, k ≤ l.length → 0 ≤ (l.take k).sum ∧ (l.take k).sum ≤ 15 * k
  | 0, _ => by simp
  | k + 1, h => by
    have ih := sum_take_bound hd k (by omega)
    have := hd l[k] (List.getElem_mem (by omega))
    rw [List.take_succ_eq_append_getElem (by omega), List.sum_append]
    simp; omega

end Go.Proofs.Ytdflpocnfodbhaa
