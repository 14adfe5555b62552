/- Negative bases: the program's test of the bounds, and the closure that makes one digit at each call. -/
import Derived.Test.YtdflpocnfodbhabRf
import Derived.Test.YtdflpocnfodbhabLgCmp
import Derived.Test.YtdflpocnfodbhabNgSpec
import Derived.Deep.RegionHeld3
set_option linter.unusedVariables false
set_option linter.unusedSimpArgs false
set_option maxRecDepth 100000
namespace Go.Proofs.Ytdflpocnfodbhab
open Go.ChangeShapes Go.WideShapes Go.ChangeAt Go.RowKit

theorem within_any (n : Int) (w : World) (hn : in64 n) :
    Calls Try.prog 66 #[.int .i64 n] w fun e w' => e = .returned (.bool (inN n)) ∧ w = w' := by
  obtain ⟨hb0, hb1⟩ := hn
  by_cases h : -1000000000000 ≤ n
  · have HK := Lib.hid (show inN n = decide (n ≤ 1000000000000) by simp [inN, inB, h])
    go_enter Try.func66, Try.ntmps66
    go_wp2
    all_goals (go_ret; exact ⟨ret_bool HK.out.symm, rfl⟩)
  · have h' : n < -1000000000000 := by omega
    have HK := Lib.hid (show inN n = false by simp [inN, inB, h])
    go_enter Try.func66, Try.ntmps66
    go_wp2
    all_goals (go_ret; exact ⟨ret_bool HK.out.symm, rfl⟩)

theorem maker_any (x : Int) (b : Nat) (w : World) :
    Calls Try.prog 83 #[.int .i64 x, .int .i64 b] w fun e w' => e = .returned (.func (.func 91) #[] #[.pointer (some ⟨w.heap.size + 1, 0, none⟩), .pointer (some ⟨w.heap.size, 0, none⟩)]) ∧ w' = (w.alloc (.cells #[.int .i64 b] 3)).alloc (.cells #[.int .i64 x] 3) := by
  go_enter Try.func83, Try.ntmps83
  go_wp2
  go_ret
  exact ⟨rfl, rfl⟩

/-- the remainder made positive, as Go takes it -/
theorem tmod_twice {b : Nat} (hb : 2 ≤ b) (x : Int) : (x.tmod b + b).tmod b = x % b := by
  obtain ⟨_, _, f3, f4⟩ := tmod_fix hb x
  rw [Int.tmod_eq_emod_of_nonneg (by omega), Int.add_emod_right]
  have e := Int.tmod_add_mul_tdiv x b
  have : x.tmod b = x + b * (-(x.tdiv b)) := by rw [Int.mul_neg]; omega
  rw [this, Int.add_mul_emod_self_left]
theorem quo_neg {b : Nat} (hb : 2 ≤ b) (x : Int) : (x - x % b).tdiv (-(b : Int)) = -(x / b) := by
  rw [Int.tdiv_neg, ← Int.neg_tdiv, show -(x - x % (b : Int)) = x % b - x by omega]
  exact quo_exact hb x

theorem next_zero (Bn Bb : Nat) (w : World) (hn : Boxed w Bn 3 (.int .i64 0)) :
    Calls Try.prog 91 #[.pointer (some ⟨Bn, 0, none⟩), .pointer (some ⟨Bb, 0, none⟩)] w fun e w' => e = .returned (.tuple #[.int .i64 0, .bool false]) ∧ w = w' := by
  have c0 := hn.cell
  clear hn
  go_enter Try.func91, Try.ntmps91
  go_wp2
  go_ret2
  exact ⟨rfl, rfl⟩

set_option maxHeartbeats 2000000 in
theorem next_any (Bn Bb : Nat) (x : Int) (b : Nat) (w : World) (hb : 2 ≤ b) (hb16 : b ≤ 16) (hx : x ≠ 0) (hx1 : -1000000000000 ≤ x) (hx2 : x ≤ 1000000000000) (hne : Bn ≠ Bb) (hn : Boxed w Bn 3 (.int .i64 x)) (hB : Boxed w Bb 3 (.int .i64 b)) :
    Calls Try.prog 91 #[.pointer (some ⟨Bn, 0, none⟩), .pointer (some ⟨Bb, 0, none⟩)] w fun e w' => e = .returned (.tuple #[.int .i64 (x % b), .bool true]) ∧ ∃ q, w' = (w.drewN q).setCell ⟨Bn, 0, none⟩ (.int .i64 (-(x / b))) := by
  obtain ⟨_, _, f3, f4⟩ := tmod_fix hb x
  have hqe := quo_neg hb x
  have hte := tmod_twice hb x
  obtain ⟨d1, d2, d3⟩ := div_facts hb x
  have hqb := quo_bounds hb (Nat.le_refl x.natAbs)
  obtain ⟨d, hd⟩ : ∃ d, d = x % (b : Int) := ⟨_, rfl⟩
  obtain ⟨p, hp⟩ : ∃ p, p = -(x / (b : Int)) := ⟨_, rfl⟩
  rw [← hd] at d1 d2 d3 hqe hte ⊢
  rw [← hp] at hqe hqb ⊢
  have c0 := hn.cell; have c1 := hB.cell; have g0 := hn.frozen
  have hp1 : -1000000000000 ≤ p := by omega
  have hp2 : p ≤ 1000000000000 := by omega
  have hq : (x == 0) = false := by simp [hx]
  clear d1 hn hB hd hp
  go_enter Try.func91, Try.ntmps91
  go_wp2
  go_quiet (fail)
  go_wp2
  go_ret2
  exact ⟨rfl, _, rfl⟩

/-- both at once -/
theorem next_all (Bn Bb : Nat) (x : Int) (b : Nat) (w : World) (hb : 2 ≤ b) (hb16 : b ≤ 16) (hx1 : -1000000000000 ≤ x) (hx2 : x ≤ 1000000000000) (hne : Bn ≠ Bb) (hn : Boxed w Bn 3 (.int .i64 x)) (hB : Boxed w Bb 3 (.int .i64 b)) :
    Calls Try.prog 91 #[.pointer (some ⟨Bn, 0, none⟩), .pointer (some ⟨Bb, 0, none⟩)] w fun e w' => e = .returned (.tuple #[.int .i64 (x % b), .bool (x != 0)]) ∧ Boxed w' Bn 3 (.int .i64 (-(x / b))) ∧ w.grownBy w' (some Bn) ∧ w'.heap.size = w.heap.size := by
  by_cases h : x = 0
  · subst h
    refine (next_zero Bn Bb w hn).mono ?_
    rintro e w' ⟨rfl, rfl⟩
    exact ⟨by simp, by simpa using hn, ⟨rfl, rfl, rfl, Nat.le_refl _, fun _ _ _ => rfl⟩, rfl⟩
  · refine (next_any Bn Bb x b w hb hb16 h hx1 hx2 hne hn hB).mono ?_
    rintro e w' ⟨rfl, q, rfl⟩
    have hn' : Boxed (w.drewN q) Bn 3 (.int .i64 x) := hn
    refine ⟨by simp [h], hn'.set _, ?_, by simp⟩
    have := grownBy_setCell' (w.drewN q) Bn (.int .i64 (-(x / b)))
    exact ⟨this.os, this.tape, this.output, this.size, this.block⟩

end Go.Proofs.Ytdflpocnfodbhab
