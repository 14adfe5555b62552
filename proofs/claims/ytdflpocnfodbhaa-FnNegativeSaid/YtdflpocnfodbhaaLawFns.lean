/- The laws' own small functions: a drawn number, a power, two equal lists, a list that holds a number, a sum. -/
import Derived.Test.YtdflpocnfodbhaaDrawC
import Derived.Test.YtdflpocnfodbhaaNgM
set_option linter.unusedVariables false
set_option linter.unusedSimpArgs false
set_option maxRecDepth 100000
namespace Go.Proofs.Ytdflpocnfodbhaa
open Go.ChangeShapes Go.WideShapes Go.ChangeAt Go.RowKit

/-- digits of an integer came back -/
def GotN (L : List Int) (w : World) (e : Ending) (w' : World) : Prop := ∃ a cap, e = .returned (.slice a L.length cap) ∧ RowAt w' (.slice a L.length cap) (intsOf L) ∧ L.length ≤ cap ∧ cap ≤ maxLen ∧ Below w.heap.size w w'
def GotNT (L : List Int) (w : World) (e : Ending) (w' : World) : Prop := ∃ a cap, e = .returned (.tuple #[.slice a L.length cap, .bool true]) ∧ RowAt w' (.slice a L.length cap) (intsOf L) ∧ L.length ≤ cap ∧ cap ≤ maxLen ∧ Below w.heap.size w w'

set_option maxHeartbeats 2000000 in
theorem lawNum_any (v : Value) (n : Nat) (w : World) (hv : BytesAt w v) (hn : n ≤ 1000) :
    Calls Try.prog 36 #[v, .int .i64 n] w (NumIn (fun x => 0 ≤ x ∧ x ≤ 65535) w) := by
  have HV := Lib.hid hv
  obtain ⟨a, len, cap, zs, rfl, _⟩ := hv
  go_enter Try.func36, Try.ntmps36
  go_wp2_with fail
  refine (l31New_any _ n _ HV.out hn).mono ?_
  rintro e w1 ⟨g, rfl, hg0, hc1, hb1⟩
  go_wp2_with fail
  refine (byte_any g _ hc1).mono ?_
  rintro e w2 ⟨x, ⟨hx0, hx1⟩, rfl, hc2, hg2⟩
  have hb2 := below_cur hb1 hg2 hg0
  go_wp2_with fail
  refine (byte_any g _ hc2).mono ?_
  rintro e w3 ⟨y, ⟨hy0, hy1⟩, rfl, hc3, hg3⟩
  have hb3 := below_cur hb2 hg3 hg0
  go_wp2_with fail
  go_ret
  exact ⟨x * 256 + y, ⟨by omega, by omega⟩, rfl, hb3⟩

set_option maxHeartbeats 1000000 in
theorem lawPower_any (b k : Nat) (w : World) (hb2 : 2 ≤ b) (hb16 : b ≤ 16) (hk : k ≤ 9) :
    Calls Try.prog 44 #[.int .i64 b, .int .i64 k] w fun e w' => e = .returned (.int .i64 ((b : Int) ^ k)) ∧ w = w' := by
  have HS := Lib.hid (fun j (hj : j ≤ 9) => And.intro (pow_small hb16 hj) (pow_pos' hb2 j))
  go_enter Try.func44, Try.ntmps44
  go_wp2
  go_loop [5, 6] (fun p i => ∃ (j : Nat), j ≤ k ∧ i = .int .i64 j ∧ p = .int .i64 ((b : Int) ^ j)) (fun _ i => k - (intOf i).toNat)
  case atStart => exact ⟨0, Nat.zero_le _, rfl, by simp⟩
  case round =>
    obtain ⟨j, hj, rfl, rfl⟩ := hrel
    obtain ⟨h1, h2⟩ := HS.out j (by omega)
    have HP := Lib.hid (show (b : Int) ^ (j + 1) = b ^ j * b from Int.pow_succ _ _)
    by_cases hlt : j < k
    · obtain ⟨P, hP⟩ : ∃ P, P = (b : Int) ^ j := ⟨_, rfl⟩
      rw [← hP] at h1 h2 HP ⊢
      have hn1 : P * b ≤ 68719476736 * 16 := Int.mul_le_mul h1 (by omega) (by omega) (by omega)
      have hn2 : 0 ≤ P * b := Int.mul_nonneg (by omega) (by omega)
      clear hP
      go_wp2_with fail
      go_round
      case rel => exact ⟨j + 1, by omega, by go_num, by rw [HP.out]⟩
      case measure => simp [intOf]; omega
    · have hjk : j = k := by omega
      subst hjk
      obtain ⟨P, hP⟩ : ∃ P, P = (b : Int) ^ j := ⟨_, rfl⟩
      have HPP := Lib.hid hP
      rw [← hP]
      have hl : ¬ (j : Int) < j := by omega
      clear hP h1 h2 HP hlt
      go_wp2_with fail
      go_ret
      exact ⟨by rw [HPP.out]; rfl, rfl⟩

set_option maxHeartbeats 2000000 in
theorem same_any (va vc : Value) (a c : List Int) (w : World) (hra : RowAt w va (intsOf a)) (hrc : RowAt w vc (intsOf c)) (hl : a.length ≤ 1048576) (hl' : c.length ≤ 1048576) (heq : a = c) :
    Calls Try.prog 30 #[va, vc] w fun e w' => e = .returned (.bool true) ∧ w = w' := by
  subst heq
  obtain ⟨aa, cap, rfl, h1, h2, h3⟩ := hra.ints
  obtain ⟨ac, cap', rfl, h1', h2', h3'⟩ := hrc.ints
  unfold maxLen at h2 h2'
  go_enter Try.func30, Try.ntmps30
  go_wp2
  go_loop [14] (fun i => ∃ k : Nat, k ≤ a.length ∧ i = .int .i64 k) (fun i => a.length - (intOf i).toNat)
  case atStart => exact ⟨0, Nat.zero_le _, rfl⟩
  case round =>
    obtain ⟨k, hk, rfl⟩ := hrel
    by_cases hlt : k < a.length
    · obtain ⟨b, off, rfl, hb, hcell⟩ := h3.resolve_left (fun e => by rw [e] at hlt; simp at hlt)
      obtain ⟨b', off', rfl, hb', hcell'⟩ := h3'.resolve_left (fun e => by rw [e] at hlt; simp at hlt)
      have hc := hcell k hlt
      have hc' := hcell' k hlt
      obtain ⟨x, hx⟩ : ∃ x, x = a[k] := ⟨_, rfl⟩
      rw [← hx] at hc hc'
      clear h3 h3' hcell hcell' hx
      go_wp2
      go_round
      case rel => exact ⟨k + 1, hlt, by go_num⟩
      case measure => simp [intOf]; omega
    · clear h3 h3'
      go_wp2
      go_ret
      exact ⟨rfl, rfl⟩

set_option maxHeartbeats 1000000 in
theorem has_any (v : Value) (l : List Int) (x : Int) (w : World) (hr : RowAt w v (intsOf l)) (hl : l.length ≤ 1048576) :
    Calls Try.prog 53 #[v, .int .i64 x] w fun e w' => e = .returned (.bool (decide (x ∈ l))) ∧ w = w' := by
  obtain ⟨a, cap, rfl, h1, h2, h3⟩ := hr.ints
  unfold maxLen at h2
  go_enter Try.func53, Try.ntmps53
  go_wp2
  go_loop [9] (fun i => ∃ k : Nat, k ≤ l.length ∧ i = .int .i64 k ∧ ∀ j (h : j < l.length), j < k → l[j] ≠ x) (fun i => l.length - (intOf i).toNat)
  case atStart => exact ⟨0, Nat.zero_le _, rfl, fun j h k => by omega⟩
  case round =>
    obtain ⟨k, hk, rfl, hall⟩ := hrel
    have HA := Lib.hid hall; clear hall
    by_cases hlt : k < l.length
    · obtain ⟨b', off, rfl, hbb, hcell⟩ := h3.resolve_left (fun e => by rw [e] at hlt; simp at hlt)
      have hc := hcell k hlt
      have HM := Lib.hid (List.getElem_mem hlt)
      obtain ⟨y, hy⟩ : ∃ y, y = l[k] := ⟨_, rfl⟩
      rw [← hy] at hc HM
      have HY := Lib.hid hy
      clear h3 hcell hy
      by_cases hxy : y = x
      · have HV := Lib.hid (show decide (x ∈ l) = true by rw [← hxy]; exact decide_eq_true HM.out)
        have hq : (y == x) = true := by simp [hxy]
        clear hxy
        go_wp2_with fail
        go_ret
        exact ⟨ret_bool HV.out.symm, rfl⟩
      · have HX := Lib.hid hxy
        have hq : (y == x) = false := by simp [hxy]
        clear hxy
        go_wp2_with fail
        go_round
        case rel => exact ⟨k + 1, hlt, by go_num, fun j h hj => by
          rcases Nat.lt_or_ge j k with h4 | h4
          · exact HA.out j h h4
          · have : j = k := by omega
            subst this; rw [← HY.out]; exact HX.out⟩
        case measure => simp [intOf]; omega
    · have HV := Lib.hid (show decide (x ∈ l) = false from decide_eq_false (fun hm => by
        obtain ⟨j, hj, e⟩ := List.mem_iff_getElem.1 hm
        exact HA.out j hj (by omega) e))
      clear h3
      go_wp2_with fail
      go_ret
      exact ⟨ret_bool HV.out.symm, rfl⟩

theorem sum_take_le {l : List Int} {B : Int} (hd : ∀ d ∈ l, 0 ≤ d ∧ d ≤ B) : ∀ k, k ≤ l.length → 0 ≤ (l.take k).sum ∧ (l.take k).sum ≤ B * k
  | 0, _ => by simp
  | k + 1, h => by
    have ih := sum_take_le hd k (by omega)
    have := hd l[k] (List.getElem_mem (by omega))
    rw [List.take_succ_eq_append_getElem (by omega), List.sum_append]
    have e : B * ((k + 1 : Nat) : Int) = B * k + B := by rw [Int.natCast_succ, Int.mul_add, Int.mul_one]
    rw [e]
    simp; omega

set_option maxHeartbeats 2000000 in
theorem lsum_any (v : Value) (l : List Int) (w : World) (hr : RowAt w v (intsOf l)) (hl : l.length ≤ 1000) (hd : ∀ d ∈ l, 0 ≤ d ∧ d ≤ 1000000000000000) :
    Calls Try.prog 54 #[v] w fun e w' => e = .returned (.int .i64 l.sum) ∧ w = w' := by
  obtain ⟨a, cap, rfl, h1, h2, h3⟩ := hr.ints
  unfold maxLen at h2
  have HD := Lib.hid hd; clear hd
  go_enter Try.func54, Try.ntmps54
  go_wp2
  go_loop [3, 8] (fun x i => ∃ k : Nat, k ≤ l.length ∧ i = .int .i64 k ∧ x = .int .i64 (l.take k).sum) (fun _ i => l.length - (intOf i).toNat)
  case atStart => exact ⟨0, Nat.zero_le _, rfl, rfl⟩
  case round =>
    obtain ⟨k, hk, rfl, rfl⟩ := hrel
    obtain ⟨hs0, hs1⟩ := sum_take_le HD.out k hk
    by_cases hlt : k < l.length
    · obtain ⟨b', off, rfl, hbb, hcell⟩ := h3.resolve_left (fun e => by rw [e] at hlt; simp at hlt)
      have hc := hcell k hlt
      have hdj := HD.out _ (List.getElem_mem hlt)
      have HX := Lib.hid (show (l.take k).sum + l[k] = (l.take (k + 1)).sum by
        rw [List.take_succ_eq_append_getElem hlt, List.sum_append]; simp)
      clear h3 hcell
      go_wp2
      go_round
      case rel => exact ⟨k + 1, by omega, by go_num, by rw [HX.out]⟩
      case measure => simp [intOf]; omega
    · have hkl : k = l.length := by omega
      subst hkl
      have HV := Lib.hid (show (l.take l.length).sum = l.sum by rw [List.take_length])
      clear h3
      go_wp2
      go_ret
      exact ⟨by rw [← HV.out]; rfl, rfl⟩

end Go.Proofs.Ytdflpocnfodbhaa
