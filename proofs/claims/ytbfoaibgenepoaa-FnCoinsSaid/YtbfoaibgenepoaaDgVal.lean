/- Digits: the model's value, sum and turn of a list. -/
import Derived.Test.YtbfoaibgenepoaaInts
set_option linter.unusedVariables false
set_option linter.unusedSimpArgs false
set_option maxRecDepth 100000
namespace Go.Proofs.Ytbfoaibgenepoaa
open Go.ChangeShapes Go.WideShapes Go.ChangeAt Go.RowKit

/-- the sum of the first digits stays small -/
theorem sum_take_bound {l : List Int} (hd : ∀ d ∈ l, 0 ≤ d ∧ d ≤ 15) : ∀ k, k ≤ l.length → 0 ≤ (l.take k).sum ∧ (l.take k).sum ≤ 15 * k
  | 0, _ => by simp
  | k + 1, h => by
    have ih := sum_take_bound hd k (by omega)
    have := hd l[k] (List.getElem_mem (by omega))
    rw [List.take_succ_eq_append_getElem (by omega), List.sum_append]
    simp; omega

set_option maxHeartbeats 2000000 in
theorem specSum_any (v : Value) (l : List Int) (w : World) (hr : RowAt w v (intsOf l)) (hl : l.length ≤ 1000000) (hd : ∀ d ∈ l, 0 ≤ d ∧ d ≤ 15) :
    Calls Try.prog 62 #[v] w fun e w' => e = .returned (.int .i64 l.sum) ∧ w = w' := by
  obtain ⟨a, cap, rfl, h1, h2, h3⟩ := hr.ints
  unfold maxLen at h2
  have HD := Lib.hid hd; clear hd
  go_enter Try.func62, Try.ntmps62
  go_wp2
  go_loop [3, 8] (fun x i => ∃ k : Nat, k ≤ l.length ∧ i = .int .i64 k ∧ x = .int .i64 (l.take k).sum) (fun _ i => l.length - (intOf i).toNat)
  case atStart => exact ⟨0, Nat.zero_le _, rfl, rfl⟩
  case round =>
    obtain ⟨k, hk, rfl, rfl⟩ := hrel
    obtain ⟨hs0, hs1⟩ := sum_take_bound HD.out k hk
    by_cases hlt : k < l.length
    · obtain ⟨b', off, rfl, hbb, hcell⟩ := h3.resolve_left (fun e => by rw [e] at hlt; simp at hlt)
      have hc := hcell k hlt
      have hdj := HD.out _ (List.getElem_mem hlt)
      have HX := Lib.hid (show (l.take k).sum + l[k] = (l.take (k + 1)).sum by
        rw [List.take_succ_eq_append_getElem hlt, List.sum_append]; simp)
      clear h3 hcell
      go_wp2
      go_round
      case rel => exact ⟨k + 1, by omega, by go_num, by rw [HX.out]⟩
      case measure => simp [intOf]; omega
    · have hkl : k = l.length := by omega
      subst hkl
      have HV := Lib.hid (show (l.take l.length).sum = l.sum by rw [List.take_length])
      clear h3
      go_wp2
      go_ret
      exact ⟨by rw [← HV.out]; rfl, rfl⟩

set_option maxHeartbeats 2000000 in
theorem specTurn_any (v : Value) (l : List Int) (w : World) (hr : RowAt w v (intsOf l)) (hl : l.length ≤ 1000000) :
    Calls Try.prog 73 #[v] w fun e w' => ∃ v, e = .returned v ∧ w'.ownsRow w.heap.size 3 1 v l.reverse.length (intsOf l.reverse) ∧ Below w.heap.size w w' := by
  obtain ⟨a, cap, rfl, h1, h2, h3⟩ := hr.ints
  unfold maxLen at h2
  go_enter Try.func73, Try.ntmps73
  go_wp2
  go_loopw [3, 4] (fun v i wr => ∃ k : Nat, k ≤ l.length ∧ i = .int .i64 ((k : Int) - 1) ∧ wr.ownsRow w.heap.size 3 1 v (l.drop k).reverse.length (intsOf (l.drop k).reverse) ∧ Below w.heap.size w wr) (fun _ i _ => (intOf i + 1).toNat)
  case atStart =>
    refine ⟨l.length, Nat.le_refl _, rfl, ?_, (Below.refl _ _).alloc (Nat.le_refl _) _⟩
    rw [List.drop_length]
    exact World.ownsRow_lit w #[] 0 (Nat.le_refl _) (by decide) rfl
  case round =>
    obtain ⟨k, hk, rfl, hown, hB⟩ := hrel
    obtain ⟨i0, hi, hz0, hz1, hz2⟩ := info_parts infoInt
    have hsz := hB.size
    cases k with
    | zero =>
      have HO := Lib.hid hown; clear hown h3
      go_wp2
      go_ret
      exact ⟨_, rfl, HO.out, hB⟩
    | succ j =>
      rw [show ((j + 1 : Nat) : Int) - 1 = (j : Int) by omega]
      have hjl : j < l.length := by omega
      obtain ⟨b', off, rfl, hbb, hcell⟩ := h3.resolve_left (fun e => by rw [e] at hjl; simp at hjl)
      have hc : wr.cell? ⟨b', off + j, none⟩ = some (.int .i64 l[j]) := by rw [hB.cell (p := ⟨b', off + j, none⟩) hbb]; exact hcell j hjl
      have hrv : (l.drop j).reverse = (l.drop (j + 1)).reverse ++ [l[j]] := by
        rw [List.drop_eq_getElem_cons hjl, List.reverse_cons]
      obtain ⟨L, hL⟩ : ∃ L, L = (l.drop (j + 1)).reverse := ⟨_, rfl⟩
      have hLl : L.length ≤ 1000000 := by rw [hL]; simp; omega
      rw [← hL] at hrv hown
      have HRV := Lib.hid hrv
      clear h3 hcell hrv hL
      go_wp2_with (at_builtin; refine wpList_append_own _ rfl _ _ 23 rfl w.heap.size 3 i0 (.int .i64 0) 1 8 Try.underlying23 hi hz0 hz1 hz2 rfl (by decide) _ _ _ rfl (hown.alloc _) ⟨wr.heap.size, 0, none⟩ 1 1 [.int .i64 l[j]] rfl rfl ?c1 ?c2 ?c3 ?c4 ?c5 ?_)
      case c1 => exact one_cell _ _ _
      case c2 => intro u hu; simp at hu; subst hu; rfl
      case c3 => unfold maxLen; omega
      case c4 => omega
      case c5 => simp; omega
      intro v' w1 hown' hgrow _
      have hB1 := (hB.alloc hsz (.cells #[.int .i64 l[j]] 3)).grown hgrow (by simp; omega) (fun j hj => (hown.lt j hj).1)
      have hO : w1.ownsRow w.heap.size 3 1 v' (L ++ [l[j]]).length (intsOf (L ++ [l[j]])) := by
        simpa [intsOf] using hown'
      have HO' := Lib.hid hO
      clear hown' hgrow hown hB hO
      go_wp2
      go_roundw
      case rel => exact ⟨j, by omega, by go_num, by rw [HRV.out]; exact HO'.out, hB1⟩
      case measure => simp [intOf]

end Go.Proofs.Ytbfoaibgenepoaa
