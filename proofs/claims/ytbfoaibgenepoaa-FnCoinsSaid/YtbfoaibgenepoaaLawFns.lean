/- The laws' own small functions: a drawn number, a power, two equal lists, a list that holds a number, a sum. -/
import Derived.Test.YtbfoaibgenepoaaDgS
import Derived.Test.YtbfoaibgenepoaaDrawC
set_option linter.unusedVariables false
set_option linter.unusedSimpArgs false
set_option maxRecDepth 100000
namespace Go.Proofs.Ytbfoaibgenepoaa
open Go.ChangeShapes Go.WideShapes Go.ChangeAt Go.RowKit

/-- digits of an integer came back -/
def GotN (L : List Int) (w : World) (e : Ending) (w' : World) : Prop := ∃ a cap, e = .returned (.slice a L.length cap) ∧ RowAt w' (.slice a L.length cap) (intsOf L) ∧ L.length ≤ cap ∧ cap ≤ maxLen ∧ Below w.heap.size w w'
def GotNT (L : List Int) (w : World) (e : Ending) (w' : World) : Prop := ∃ a cap, e = .returned (.tuple #[.slice a L.length cap, .bool true]) ∧ RowAt w' (.slice a L.length cap) (intsOf L) ∧ L.length ≤ cap ∧ cap ≤ maxLen ∧ Below w.heap.size w w'

set_option maxHeartbeats 2000000 in
theorem lawNum_any (v : Value) (n : Nat) (w : World) (hv : BytesAt w v) (hn : n ≤ 1000) :
    Calls Try.prog 14 #[v, .int .i64 n] w (NumIn (fun x => 0 ≤ x ∧ x ≤ 65535) w) := by
  have HV := Lib.hid hv
  obtain ⟨a, len, cap, zs, rfl, _⟩ := hv
  go_enter Try.func14, Try.ntmps14
  go_wp2_with fail
  refine (l31New_any _ n _ HV.out hn).mono ?_
  rintro e w1 ⟨g, rfl, hg0, hc1, hb1⟩
  go_wp2_with fail
  refine (byte_any g _ hc1).mono ?_
  rintro e w2 ⟨x, ⟨hx0, hx1⟩, rfl, hc2, hg2⟩
  have hb2 := below_cur hb1 hg2 hg0
  go_wp2_with fail
  refine (byte_any g _ hc2).mono ?_
  rintro e w3 ⟨y, ⟨hy0, hy1⟩, rfl, hc3, hg3⟩
  have hb3 := below_cur hb2 hg3 hg0
  go_wp2_with fail
  go_ret
  exact ⟨x * 256 + y, ⟨by omega, by omega⟩, rfl, hb3⟩

set_option maxHeartbeats 2000000 in
theorem same_any (va vc : Value) (a c : List Int) (w : World) (hra : RowAt w va (intsOf a)) (hrc : RowAt w vc (intsOf c)) (hl : a.length ≤ 1048576) (hl' : c.length ≤ 1048576) (heq : a = c) :
    Calls Try.prog 25 #[va, vc] w fun e w' => e = .returned (.bool true) ∧ w = w' := by
  subst heq
  obtain ⟨aa, cap, rfl, h1, h2, h3⟩ := hra.ints
  obtain ⟨ac, cap', rfl, h1', h2', h3'⟩ := hrc.ints
  unfold maxLen at h2 h2'
  go_enter Try.func25, Try.ntmps25
  go_wp2
  go_loop [14] (fun i => ∃ k : Nat, k ≤ a.length ∧ i = .int .i64 k) (fun i => a.length - (intOf i).toNat)
  case atStart => exact ⟨0, Nat.zero_le _, rfl⟩
  case round =>
    obtain ⟨k, hk, rfl⟩ := hrel
    by_cases hlt : k < a.length
    · obtain ⟨b, off, rfl, hb, hcell⟩ := h3.resolve_left (fun e => by rw [e] at hlt; simp at hlt)
      obtain ⟨b', off', rfl, hb', hcell'⟩ := h3'.resolve_left (fun e => by rw [e] at hlt; simp at hlt)
      have hc := hcell k hlt
      have hc' := hcell' k hlt
      obtain ⟨x, hx⟩ : ∃ x, x = a[k] := ⟨_, rfl⟩
      rw [← hx] at hc hc'
      clear h3 h3' hcell hcell' hx
      go_wp2
      go_round
      case rel => exact ⟨k + 1, hlt, by go_num⟩
      case measure => simp [intOf]; omega
    · clear h3 h3'
      go_wp2
      go_ret
      exact ⟨rfl, rfl⟩

theorem sum_take_le {l : List Int} {B : Int} (hd : ∀ d ∈ l, 0 ≤ d ∧ d ≤ B) : ∀ k, k ≤ l.length → 0 ≤ (l.take k).sum ∧ (l.take k).sum ≤ B * k
  | 0, _ => by simp
  | k + 1, h => by
    have ih := sum_take_le hd k (by omega)
    have := hd l[k] (List.getElem_mem (by omega))
    rw [List.take_succ_eq_append_getElem (by omega), List.sum_append]
    have e : B * ((k + 1 : Nat) : Int) = B * k + B := by rw [Int.natCast_succ, Int.mul_add, Int.mul_one]
    rw [e]
    simp; omega

set_option maxHeartbeats 2000000 in
theorem lsum_any (v : Value) (l : List Int) (w : World) (hr : RowAt w v (intsOf l)) (hl : l.length ≤ 1000) (hd : ∀ d ∈ l, 0 ≤ d ∧ d ≤ 1000000000000000) :
    Calls Try.prog 22 #[v] w fun e w' => e = .returned (.int .i64 l.sum) ∧ w = w' := by
  obtain ⟨a, cap, rfl, h1, h2, h3⟩ := hr.ints
  unfold maxLen at h2
  have HD := Lib.hid hd; clear hd
  go_enter Try.func22, Try.ntmps22
  go_wp2
  go_loop [3, 8] (fun x i => ∃ k : Nat, k ≤ l.length ∧ i = .int .i64 k ∧ x = .int .i64 (l.take k).sum) (fun _ i => l.length - (intOf i).toNat)
  case atStart => exact ⟨0, Nat.zero_le _, rfl, rfl⟩
  case round =>
    obtain ⟨k, hk, rfl, rfl⟩ := hrel
    obtain ⟨hs0, hs1⟩ := sum_take_le HD.out k hk
    by_cases hlt : k < l.length
    · obtain ⟨b', off, rfl, hbb, hcell⟩ := h3.resolve_left (fun e => by rw [e] at hlt; simp at hlt)
      have hc := hcell k hlt
      have hdj := HD.out _ (List.getElem_mem hlt)
      have HX := Lib.hid (show (l.take k).sum + l[k] = (l.take (k + 1)).sum by
        rw [List.take_succ_eq_append_getElem hlt, List.sum_append]; simp)
      clear h3 hcell
      go_wp2
      go_round
      case rel => exact ⟨k + 1, by omega, by go_num, by rw [HX.out]⟩
      case measure => simp [intOf]; omega
    · have hkl : k = l.length := by omega
      subst hkl
      have HV := Lib.hid (show (l.take l.length).sum = l.sum by rw [List.take_length])
      clear h3
      go_wp2
      go_ret
      exact ⟨by rw [← HV.out]; rfl, rfl⟩

end Go.Proofs.Ytbfoaibgenepoaa
