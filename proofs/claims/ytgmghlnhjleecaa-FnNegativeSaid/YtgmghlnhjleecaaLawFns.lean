/- The laws' own small functions: a drawn number, a power, two equal lists, a list that holds a number, a sum. -/
import Derived.Test.YtgmghlnhjleecaaNgM
import Derived.Test.YtgmghlnhjleecaaDrawC
set_option linter.unusedVariables false
set_option linter.unusedSimpArgs false
namespace Go.Proofs.Ytgmghlnhjleecaa
open Go.ChangeShapes Go.WideShapes Go.ChangeAt Go.RowKit

/-- digits of an integer came back -/
def GotN (L : List Int) (w : World) (e : Ending) (w' : World) : Prop := ∃ a cap, e = .returned (.slice a L.length cap) ∧ RowAt w' (.slice a L.length cap) (intsOf L) ∧ L.length ≤ cap ∧ cap ≤ maxLen ∧ Below w.heap.size w w'
def GotNT (L : List Int) (w : World) (e : Ending) (w' : World) : Prop := ∃ a cap, e = .returned (.tuple #[.slice a L.length cap, .bool true]) ∧ RowAt w' (.slice a L.length cap) (intsOf L) ∧ L.length ≤ cap ∧ cap ≤ maxLen ∧ Below w.heap.size w w'

set_option maxHeartbeats 2000000 in
theorem lawNum_any (v : Value) (n : Nat) (w : World) (hv : BytesAt w v) (hn : n ≤ 1000) :
    Calls Try.prog 34 #[v, .int .i64 n] w (NumIn (fun x => 0 ≤ x ∧ x ≤ 65535) w) := by
  have HV := Lib.hid hv
  obtain ⟨a, len, cap, zs, rfl, _⟩ := hv
  go_enter Try.func34, Try.ntmps34
  go_wp2_with fail
  refine (l31New_any _ n _ HV.out hn).mono ?_
  rintro e w1 ⟨g, rfl, hg0, hc1, hb1⟩
  go_wp2_with fail
  refine (byte_any g _ hc1).mono ?_
  rintro e w2 ⟨x, ⟨hx0, hx1⟩, rfl, hc2, hg2⟩
  have hb2 := below_cur hb1 hg2 hg0
  go_wp2_with fail
  refine (byte_any g _ hc2).mono ?_
  rintro e w3 ⟨y, ⟨hy0, hy1⟩, rfl, hc3, hg3⟩
  have hb3 := below_cur hb2 hg3 hg0
  go_wp2_with fail
  go_ret
  exact ⟨x * 256 + y, ⟨by omega, by omega⟩, rfl, hb3⟩

set_option maxHeartbeats 1000000 in
theorem lawPower_any (b k : Nat) (w : World) (hb2 : 2 ≤ b) (hb16 : b ≤ 16) (hk : k ≤ 9) :
    Calls Try.prog 42 #[.int .i64 b, .int .i64 k] w fun e w' => e = .returned (.int .i64 ((b : Int) ^ k)) ∧ w = w' := by
  have HS := Lib.hid (fun j (hj : j ≤ 9) => And.intro (pow_small hb16 hj) (pow_pos' hb2 j))
  go_enter Try.func42, Try.ntmps42
  go_wp2
  go_loop [5, 6] (fun p i => ∃ (j : Nat), j ≤ k ∧ i = .int .i64 j ∧ p = .int .i64 ((b : Int) ^ j)) (fun _ i => k - (intOf i).toNat)
  case atStart => exact ⟨0, Nat.zero_le _, rfl, by simp⟩
  case round =>
    obtain ⟨j, hj, rfl, rfl⟩ := hrel
    obtain ⟨h1, h2⟩ := HS.out j (by omega)
    have HP := Lib.hid (show (b : Int) ^ (j + 1) = b ^ j * b from Int.pow_succ _ _)
    by_cases hlt : j < k
    · obtain ⟨P, hP⟩ : ∃ P, P = (b : Int) ^ j := ⟨_, rfl⟩
      rw [← hP] at h1 h2 HP ⊢
      have hn1 : P * b ≤ 68719476736 * 16 := Int.mul_le_mul h1 (by omega) (by omega) (by omega)
      have hn2 : 0 ≤ P * b := Int.mul_nonneg (by omega) (by omega)
      clear hP
      go_wp2_with fail
      go_round
      case rel => exact ⟨j + 1, by omega, by go_num, by rw [HP.out]⟩
      case measure => simp [intOf]; omega
    · have hjk : j = k := by omega
      subst hjk
      obtain ⟨P, hP⟩ : ∃ P, P = (b : Int) ^ j := ⟨_, rfl⟩
      have HPP := Lib.hid hP
      rw [← hP]
      have hl : ¬ (j : Int) < j := by omega
      clear hP h1 h2 HP hlt
      go_wp2_with fail
      go_ret
      exact ⟨by rw [HPP.out]; rfl, rfl⟩

theorem sum_take_le {l : List Int} {B : Int} (hd : ∀ d ∈ l, 0 ≤ d ∧ d ≤ B) : ∀ k, k ≤ l.length → 0 ≤ (l.take k).sum ∧ (l.take k).sum ≤ B * k
  | 0, _ => by simp
  | k + 1, h => by
    have ih := sum_take_le hd k (by omega)
    have := hd l[k] (List.getElem_mem (by omega))
    rw [List.take_succ_eq_append_getElem (by omega), List.sum_append]
    have e : B * ((k + 1 : Nat) : Int) = B * k + B := by rw [Int.natCast_succ, Int.mul_add, Int.mul_one]
    rw [e]
    simp; omega

end Go.Proofs.Ytgmghlnhjleecaa
