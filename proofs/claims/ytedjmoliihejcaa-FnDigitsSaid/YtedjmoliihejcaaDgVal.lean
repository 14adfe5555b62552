/- Digits: the model's value, sum and turn of a list. -/
import Derived.Test.YtedjmoliihejcaaDgDig
set_option linter.unusedVariables false
namespace Go.Proofs.Ytedjmoliihejcaa
open Go.ChangeShapes Go.WideShapes Go.ChangeAt Go.RowKit

set_option maxHeartbeats 2000000 in
theorem specValue_any (v : Value) (l : List Int) (b : Int) (w : World) (hr : RowAt w v (intsOf l)) (hb2 : 2 ≤ b) (hb16 : b ≤ 16) (hl : l.length ≤ 60) (hd : ∀ d ∈ l, 0 ≤ d ∧ d ≤ b - 1) :
    Calls Try.prog 52 #[v, .int .i64 b] w fun e w' => e = .returned (.int .i64 (capV (hv b l))) ∧ w = w' := by
  obtain ⟨a, cap, rfl, h1, h2, h3⟩ := hr.ints
  unfold maxLen at h2
  have HD := Lib.hid hd; clear hd
  go_enter Try.func52, Try.ntmps52
  go_wp2
  go_loop [5, 6] (fun x i => ∃ k : Nat, k ≤ l.length ∧ i = .int .i64 ((k : Int) - 1) ∧ x = .int .i64 (hv b (l.drop k)) ∧ hv b (l.drop k) ≤ 1000000000000) (fun _ i => (intOf i + 1).toNat)
  case atStart => exact ⟨l.length, Nat.le_refl _, rfl, by simp [hv_nil], by simp [hv_nil]⟩
  case round =>
    obtain ⟨k, hk, rfl, rfl, hle⟩ := hrel
    have hx0 : 0 ≤ hv b (l.drop k) := hv_nonneg (by omega) _ (fun d hd => (HD.out d (List.mem_of_mem_drop hd)).1)
    cases k with
    | zero =>
      have HV := Lib.hid (show capV (hv b l) = hv b (l.drop 0) by
        rw [List.drop_zero] at hle ⊢; rw [capV, if_pos hle])
      clear h3
      go_wp2
      go_ret
      exact ⟨by rw [HV.out]; rfl, rfl⟩
    | succ j =>
      rw [show ((j + 1 : Nat) : Int) - 1 = (j : Int) by omega]
      have hjl : j < l.length := by omega
      obtain ⟨b', off, rfl, hbb, hcell⟩ := h3.resolve_left (fun e => by rw [e] at hjl; simp at hjl)
      have hc := hcell j hjl
      have hdr := hv_drop (b := b) hjl
      have hdj := HD.out _ (List.getElem_mem hjl)
      obtain ⟨x, hx⟩ : ∃ x, x = hv b (l.drop (j + 1)) := ⟨_, rfl⟩
      rw [← hx] at hx0 hle hdr ⊢
      have hp0 : 0 ≤ x * b := Int.mul_nonneg hx0 (by omega)
      have hp1 : x * b ≤ 16000000000000 := by
        have := Int.mul_le_mul hle hb16 (by omega) (by omega)
        omega
      rw [Int.mul_comm b x] at hdr
      have hdr' : x * b + l[j] = hv b (l.drop j) := by omega
      have HX := Lib.hid hdr'
      have HLe := Lib.hid (hv_drop_le (b := b) (by omega) l (fun d hd => (HD.out d hd).1) j (by omega))
      clear h3 hcell hdr hdr' hx
      by_cases hbig : 1000000000000 < x * b + l[j]
      · have HV := Lib.hid (show capV (hv b l) = -1 by
          have := HLe.out; have := HX.out
          rw [capV, if_neg (by omega)])
        go_wp2
        go_ret
        exact ⟨by rw [HV.out]; rfl, rfl⟩
      · go_wp2
        go_round
        case rel => exact ⟨j, by omega, by go_num, by rw [HX.out], by have := HX.out; omega⟩
        case measure => simp [intOf]

/-- the sum of the first digits stays small -/
theorem sum_take_bound {l : List Int} (hd : ∀ d ∈ l, 0 ≤ d ∧ d ≤ 15) : ∀ k, k ≤ l.length → 0 ≤ (l.take k).sum ∧ (l.take k).sum ≤ 15 * k
  | 0, _ => by simp
  | k + 1, h => by
    have ih := sum_take_bound hd k (by omega)
    have := hd l[k] (List.getElem_mem (by omega))
    rw [List.take_succ_eq_append_getElem (by omega), List.sum_append]
    simp; omega

set_option maxHeartbeats 2000000 in
theorem specSum_any (v : Value) (l : List Int) (w : World) (hr : RowAt w v (intsOf l)) (hl : l.length ≤ 1000000) (hd : ∀ d ∈ l, 0 ≤ d ∧ d ≤ 15) :
    Calls Try.prog 53 #[v] w fun e w' => e = .returned (.int .i64 l.sum) ∧ w = w' := by
  obtain ⟨a, cap, rfl, h1, h2, h3⟩ := hr.ints
  unfold maxLen at h2
  have HD := Lib.hid hd; clear hd
  go_enter Try.func53, Try.ntmps53
  go_wp2
  go_loop [3, 8] (fun x i => ∃ k : Nat, k ≤ l.length ∧ i = .int .i64 k ∧ x = .int .i64 (l.take k).sum) (fun _ i => l.length - (intOf i).toNat)
  case atStart => exact ⟨0, Nat.zero_le _, rfl, rfl⟩
  case round =>
    obtain ⟨k, hk, rfl, rfl⟩ := hrel
    obtain ⟨hs0, hs1⟩ := sum_take_bound HD.out k hk
    by_cases hlt : k < l.length
    · obtain ⟨b', off, rfl, hbb, hcell⟩ := h3.resolve_left (fun e => by rw [e] at hlt; simp at hlt)
      have hc := hcell k hlt
      have hdj := HD.out _ (List.getElem_mem hlt)
      have HX := Lib.hid (show (l.take k).sum + l[k] = (l.take (k + 1)).sum by
        rw [List.take_succ_eq_append_getElem hlt, List.sum_append]; simp)
      clear h3 hcell
      go_wp2
      go_round
      case rel => exact ⟨k + 1, by omega, by go_num, by rw [HX.out]⟩
      case measure => simp [intOf]; omega
    · have hkl : k = l.length := by omega
      subst hkl
      have HV := Lib.hid (show (l.take l.length).sum = l.sum by rw [List.take_length])
      clear h3
      go_wp2
      go_ret
      exact ⟨by rw [← HV.out]; rfl, rfl⟩

set_option maxHeartbeats 2000000 in
theorem specTurn_any (v : Value) (l : List Int) (w : World) (hr : RowAt w v (intsOf l)) (hl : l.length ≤ 1000000) :
    Calls Try.prog 54 #[v] w fun e w' => ∃ v, e = .returned v ∧ w'.ownsRow w.heap.size 3 1 v l.reverse.length (intsOf l.reverse) ∧ Below w.heap.size w w' := by
  obtain ⟨a, cap, rfl, h1, h2, h3⟩ := hr.ints
  unfold maxLen at h2
  go_enter Try.func54, Try.ntmps54
  go_wp2
  go_loopw [3, 4] (fun v i wr => ∃ k : Nat, k ≤ l.length ∧ i = .int .i64 ((k : Int) - 1) ∧ wr.ownsRow w.heap.size 3 1 v (l.drop k).reverse.length (intsOf (l.drop k).reverse) ∧ Below w.heap.size w wr) (fun _ i _ => (intOf i + 1).toNat)
  case atStart =>
    refine ⟨l.length, Nat.le_refl _, rfl, ?_, (Below.refl _ _).alloc (Nat.le_refl _) _⟩
    rw [List.drop_length]
    exact World.ownsRow_lit w #[] 0 (Nat.le_refl _) (by decide) rfl
  case round =>
    obtain ⟨k, hk, rfl, hown, hB⟩ := hrel
    obtain ⟨i0, hi, hz0, hz1, hz2⟩ := info_parts infoInt
    have hsz := hB.size
    cases k with
    | zero =>
      have HO := Lib.hid hown; clear hown h3
      go_wp2
      go_ret
      exact ⟨_, rfl, HO.out, hB⟩
    | succ j =>
      rw [show ((j + 1 : Nat) : Int) - 1 = (j : Int) by omega]
      have hjl : j < l.length := by omega
      obtain ⟨b', off, rfl, hbb, hcell⟩ := h3.resolve_left (fun e => by rw [e] at hjl; simp at hjl)
      have hc : wr.cell? ⟨b', off + j, none⟩ = some (.int .i64 l[j]) := by rw [hB.cell (p := ⟨b', off + j, none⟩) hbb]; exact hcell j hjl
      have hrv : (l.drop j).reverse = (l.drop (j + 1)).reverse ++ [l[j]] := by
        rw [List.drop_eq_getElem_cons hjl, List.reverse_cons]
      obtain ⟨L, hL⟩ : ∃ L, L = (l.drop (j + 1)).reverse := ⟨_, rfl⟩
      have hLl : L.length ≤ 1000000 := by rw [hL]; simp; omega
      rw [← hL] at hrv hown
      have HRV := Lib.hid hrv
      clear h3 hcell hrv hL
      go_wp2_with (at_builtin; refine wpList_append_own _ rfl _ _ 24 rfl w.heap.size 3 i0 (.int .i64 0) 1 8 Try.underlying24 hi hz0 hz1 hz2 rfl (by decide) _ _ _ rfl (hown.alloc _) ⟨wr.heap.size, 0, none⟩ 1 1 [.int .i64 l[j]] rfl rfl ?c1 ?c2 ?c3 ?c4 ?c5 ?_)
      case c1 => exact one_cell _ _ _
      case c2 => intro u hu; simp at hu; subst hu; rfl
      case c3 => unfold maxLen; omega
      case c4 => omega
      case c5 => simp; omega
      intro v' w1 hown' hgrow _
      have hB1 := (hB.alloc hsz (.cells #[.int .i64 l[j]] 3)).grown hgrow (by simp; omega) (fun j hj => (hown.lt j hj).1)
      have hO : w1.ownsRow w.heap.size 3 1 v' (L ++ [l[j]]).length (intsOf (L ++ [l[j]])) := by
        simpa [intsOf] using hown'
      have HO' := Lib.hid hO
      clear hown' hgrow hown hB hO
      go_wp2
      go_roundw
      case rel => exact ⟨j, by omega, by go_num, by rw [HRV.out]; exact HO'.out, hB1⟩
      case measure => simp [intOf]

end Go.Proofs.Ytedjmoliihejcaa
