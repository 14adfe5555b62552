/- What the laws draw, the core: a cursor further on, a number below a bound, one time in n. -/
import Derived.Test.YtleadjkndciniaaDoorCur
set_option linter.unusedVariables false
set_option linter.unusedSimpArgs false
set_option maxRecDepth 100000
namespace Go.Proofs.YtleadjkndciniaaDoor
open Go.ChangeShapes Go.WideShapes Go.ChangeAt Go.RowKit

theorem below_cur {w0 w w' : World} {g : Nat} (h : Below w0.heap.size w0 w) (hg : w.grownBy w' (some g)) (h0 : w0.heap.size ≤ g) : Below w0.heap.size w0 w' :=
  h.grown hg h.size (fun k hk => by cases hk; exact h0)

set_option maxRecDepth 100000 in
set_option maxHeartbeats 1000000 in
theorem l31New_any (v : Value) (n : Nat) (w : World) (hv : BytesAt w v) (hn : n ≤ 1000) :
    Calls Tryd.prog 24 #[v, .int .i64 n] w (NewCur w) := by
  have HV := Lib.hid hv
  obtain ⟨a, len, cap, zs, rfl, _⟩ := hv
  go_enter Tryd.func24, Tryd.ntmps24
  go_wp2_with (go_at_call 45; refine (new_any _ _ HV.out).mono ?_; rintro e w1 ⟨g, rfl, hg0, hc1, hb1⟩)
  go_loopw [6] (fun i wr => ∃ k : Nat, k ≤ n ∧ i = .int .i64 k ∧ Cur wr g ∧ Below w.heap.size w wr) (fun i _ => n - (intOf i).toNat)
  case atStart => exact ⟨0, Nat.zero_le _, rfl, hc1, hb1⟩
  case round =>
    obtain ⟨k, hk, rfl, hc, hB⟩ := hrel
    clear hc1 hb1
    by_cases hlt : k < n
    · go_wp2_with (go_at_call 32; refine (byte_any g _ hc).mono ?_; rintro e w2 ⟨x, ⟨hx0, hx1⟩, rfl, hc2, hg2⟩)
      go_roundw
      case rel => exact ⟨k + 1, hlt, by go_num, hc2, below_cur hB hg2 hg0⟩
      case measure => simp [intOf]; omega
    · go_wp2
      go_ret
      exact ⟨g, rfl, hg0, hc, hB⟩

/-- a number within bounds, made of new memory alone -/
def NumIn (P : Int → Prop) (w : World) (e : Ending) (w' : World) : Prop := ∃ x : Int, P x ∧ e = .returned (.int .i64 x) ∧ Below w.heap.size w w'

set_option maxHeartbeats 2000000 in
theorem below_any (g n : Nat) (w : World) (hc : Cur w g) (h0 : 1 ≤ n) (h1 : n ≤ 1000000) :
    Calls Tryd.prog 25 #[.pointer (some ⟨g, 0, none⟩), .int .i64 n] w (Drawn (fun x => 0 ≤ x ∧ x < n) g w) := by
  have h0' : (0 : Int) < n := by omega
  have hne : ((n : Int) == 0) = false := by simp; omega
  by_cases hs : n ≤ 256
  · have h1' : (n : Int) ≤ 256 := by omega
    go_enter Tryd.func25, Tryd.ntmps25
    go_wp2_with (go_at_call 32; refine (byte_any g _ hc).mono ?_; rintro e w1 ⟨x, ⟨hx0, hx1⟩, rfl, hc1, hg1⟩)
    go_ret
    exact ⟨x % n, ⟨Int.emod_nonneg _ (by omega), Int.emod_lt_of_pos _ h0'⟩, rfl, hc1, hg1⟩
  · have h1' : (256 : Int) < n := by omega
    go_enter Tryd.func25, Tryd.ntmps25
    go_wp2_with fail
    refine (byte_any g _ hc).mono ?_
    rintro e w1 ⟨x, ⟨hx0, hx1⟩, rfl, hc1, hg1⟩
    go_wp2_with fail
    refine (byte_any g _ hc1).mono ?_
    rintro e w2 ⟨y, ⟨hy0, hy1⟩, rfl, hc2, hg2⟩
    go_wp2_with fail
    refine (byte_any g _ hc2).mono ?_
    rintro e w3 ⟨z, ⟨hz0, hz1⟩, rfl, hc3, hg3⟩
    go_wp2_with fail
    refine (byte_any g _ hc3).mono ?_
    rintro e w4 ⟨u, ⟨hu0, hu1⟩, rfl, hc4, hg4⟩
    go_wp2_with fail
    go_ret
    exact ⟨(x * 16777216 + y * 65536 + z * 256 + u) % n, ⟨Int.emod_nonneg _ (by omega), Int.emod_lt_of_pos _ h0'⟩, rfl, hc4, ((hg1.trans hg2).trans hg3).trans hg4⟩

/-- a yes or no, of which only the cursor's block turns -/
def DrawnB (g : Nat) (w : World) (e : Ending) (w' : World) : Prop := ∃ x : Bool, e = .returned (.bool x) ∧ Cur w' g ∧ w.grownBy w' (some g)

set_option maxHeartbeats 1000000 in
theorem once_any (g n : Nat) (w : World) (hc : Cur w g) (h0 : 1 ≤ n) (h1 : n ≤ 1000000) :
    Calls Tryd.prog 26 #[.pointer (some ⟨g, 0, none⟩), .int .i64 n] w (DrawnB g w) := by
  go_enter Tryd.func26, Tryd.ntmps26
  go_wp2_with (go_at_call 25; refine (below_any g n _ hc h0 h1).mono ?_; rintro e w1 ⟨x, ⟨hx0, hx1⟩, rfl, hc1, hg1⟩)
  go_ret
  exact ⟨_, rfl, hc1, hg1⟩

end Go.Proofs.YtleadjkndciniaaDoor
