/- What the laws draw: numbers and texts; of what was there nothing turns. -/
import Derived.Test.YtdknojpkkbdkiaaDoorCur
set_option linter.unusedVariables false
namespace Go.Proofs.YtdknojpkkbdkiaaDoor
open Go.ChangeShapes Go.WideShapes Go.ChangeAt Go.RowKit

theorem below_cur {w0 w w' : World} {g : Nat} (h : Below w0.heap.size w0 w) (hg : w.grownBy w' (some g)) (h0 : w0.heap.size ≤ g) : Below w0.heap.size w0 w' :=
  h.grown hg h.size (fun k hk => by cases hk; exact h0)

set_option maxRecDepth 100000 in
set_option maxHeartbeats 1000000 in
theorem l31New_any (v : Value) (n : Nat) (w : World) (hv : BytesAt w v) (hn : n ≤ 1000) :
    Calls Tryd.prog 16 #[v, .int .i64 n] w (NewCur w) := by
  have HV := Lib.hid hv
  obtain ⟨a, len, cap, zs, rfl, _⟩ := hv
  go_enter Tryd.func16, Tryd.ntmps16
  go_wp2_with (go_at_call 20; refine (new_any _ _ HV.out).mono ?_; rintro e w1 ⟨g, rfl, hg0, hc1, hb1⟩)
  go_loopw [6] (fun i wr => ∃ k : Nat, k ≤ n ∧ i = .int .i64 k ∧ Cur wr g ∧ Below w.heap.size w wr) (fun i _ => n - (intOf i).toNat)
  case atStart => exact ⟨0, Nat.zero_le _, rfl, hc1, hb1⟩
  case round =>
    obtain ⟨k, hk, rfl, hc, hB⟩ := hrel
    clear hc1 hb1
    by_cases hlt : k < n
    · go_wp2_with (go_at_call 17; refine (byte_any g _ hc).mono ?_; rintro e w2 ⟨x, ⟨hx0, hx1⟩, rfl, hc2, hg2⟩)
      go_roundw
      case rel => exact ⟨k + 1, hlt, by go_num, hc2, below_cur hB hg2 hg0⟩
      case measure => simp [intOf]; omega
    · go_wp2
      go_ret
      exact ⟨g, rfl, hg0, hc, hB⟩

/-- a number within bounds, made of new memory alone -/
def NumIn (P : Int → Prop) (w : World) (e : Ending) (w' : World) : Prop := ∃ x : Int, P x ∧ e = .returned (.int .i64 x) ∧ Below w.heap.size w w'

set_option maxRecDepth 100000 in
set_option maxHeartbeats 1000000 in
theorem makeNum_any (v : Value) (n : Nat) (w : World) (hv : BytesAt w v) (hn : n ≤ 1000) :
    Calls Tryd.prog 6 #[v, .int .i64 n] w (NumIn (fun x => 0 ≤ x ∧ x ≤ 65535) w) := by
  have HV := Lib.hid hv
  obtain ⟨a, len, cap, zs, rfl, _⟩ := hv
  go_enter Tryd.func6, Tryd.ntmps6
  go_wp2_with (go_at_call 16; refine (l31New_any _ n _ HV.out hn).mono ?_; rintro e w1 ⟨g, rfl, hg0, hc1, hb1⟩)
  refine (byte_any g _ hc1).mono ?_
  rintro e w2 ⟨x, ⟨hx0, hx1⟩, rfl, hc2, hg2⟩
  go_wp2_with (go_at_call 17; refine (byte_any g _ hc2).mono ?_; rintro e w3 ⟨y, ⟨hy0, hy1⟩, rfl, hc3, hg3⟩)
  go_ret
  exact ⟨x * 256 + y, ⟨by omega, by omega⟩, rfl, below_cur (below_cur hb1 hg2 hg0) hg3 hg0⟩

set_option maxHeartbeats 1000000 in
theorem below_any (g n : Nat) (w : World) (hc : Cur w g) (h0 : 1 ≤ n) (h1 : n ≤ 256) :
    Calls Tryd.prog 21 #[.pointer (some ⟨g, 0, none⟩), .int .i64 n] w (Drawn (fun x => 0 ≤ x ∧ x < n) g w) := by
  have h0' : (0 : Int) < n := by omega
  have h1' : (n : Int) ≤ 256 := by omega
  have hne : ((n : Int) == 0) = false := by simp; omega
  go_enter Tryd.func21, Tryd.ntmps21
  go_wp2_with (go_at_call 17; refine (byte_any g _ hc).mono ?_; rintro e w1 ⟨x, ⟨hx0, hx1⟩, rfl, hc1, hg1⟩)
  go_ret
  exact ⟨x % n, ⟨Int.emod_nonneg _ (by omega), Int.emod_lt_of_pos _ h0'⟩, rfl, hc1, hg1⟩

def Picked (l : List ByteArray) (g : Nat) (w : World) (e : Ending) (w' : World) : Prop := ∃ s ∈ l, e = .returned (.string s) ∧ Cur w' g ∧ w.grownBy w' (some g)

set_option maxHeartbeats 1000000 in
theorem str_any (g : Nat) (a : Addr) (l : List ByteArray) (w : World) (hc : Cur w g) (h0 : 1 ≤ l.length) (h1 : l.length ≤ 256) (hag : a.block ≠ g) (hsp : a.spot = none) (hrow : ∀ k (hk : k < l.length), w.cell? ⟨a.block, a.off + k, none⟩ = some (.string l[k])) :
    Calls Tryd.prog 22 #[.pointer (some ⟨g, 0, none⟩), .slice (some a) l.length l.length] w (Picked l g w) := by
  obtain ⟨b, off, spot⟩ := a
  simp only at hsp hag hrow
  subst hsp
  obtain ⟨n, hn⟩ : ∃ n, n = l.length := ⟨_, rfl⟩
  rw [← hn] at h0 h1 ⊢
  have HN := Lib.hid hn; clear hn
  go_enter Tryd.func22, Tryd.ntmps22
  go_wp2_with (go_at_call 21; refine (below_any g n _ hc h0 h1).mono ?_)
  rintro e w1 ⟨x, ⟨hx0, hx1⟩, rfl, hc1, hg1⟩
  obtain ⟨k, rfl⟩ : ∃ k : Nat, x = k := ⟨x.toNat, by omega⟩
  have hk : k < l.length := by have := HN.out; omega
  have hcell : w1.cell? ⟨b, off + k, none⟩ = some (.string l[k]) := hg1.cell (hrow k hk) (by simp; omega)
  clear hrow
  go_wp2
  go_ret
  exact ⟨l[k], List.getElem_mem hk, rfl, hc1, hg1⟩

end Go.Proofs.YtdknojpkkbdkiaaDoor
