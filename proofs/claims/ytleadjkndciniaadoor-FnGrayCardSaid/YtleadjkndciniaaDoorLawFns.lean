/- The laws' own small functions: a drawn number, a power, two equal lists, a list that holds a number, a sum. -/
import Derived.Test.YtleadjkndciniaaDoorDgS
import Derived.Test.YtleadjkndciniaaDoorDrawC
set_option linter.unusedVariables false
set_option linter.unusedSimpArgs false
set_option maxRecDepth 100000
namespace Go.Proofs.YtleadjkndciniaaDoor
open Go.ChangeShapes Go.WideShapes Go.ChangeAt Go.RowKit

/-- digits of an integer came back -/
def GotN (L : List Int) (w : World) (e : Ending) (w' : World) : Prop := ∃ a cap, e = .returned (.slice a L.length cap) ∧ RowAt w' (.slice a L.length cap) (intsOf L) ∧ L.length ≤ cap ∧ cap ≤ maxLen ∧ Below w.heap.size w w'
def GotNT (L : List Int) (w : World) (e : Ending) (w' : World) : Prop := ∃ a cap, e = .returned (.tuple #[.slice a L.length cap, .bool true]) ∧ RowAt w' (.slice a L.length cap) (intsOf L) ∧ L.length ≤ cap ∧ cap ≤ maxLen ∧ Below w.heap.size w w'

set_option maxHeartbeats 2000000 in
theorem lawNum_any (v : Value) (n : Nat) (w : World) (hv : BytesAt w v) (hn : n ≤ 1000) :
    Calls Tryd.prog 12 #[v, .int .i64 n] w (NumIn (fun x => 0 ≤ x ∧ x ≤ 65535) w) := by
  have HV := Lib.hid hv
  obtain ⟨a, len, cap, zs, rfl, _⟩ := hv
  go_enter Tryd.func12, Tryd.ntmps12
  go_wp2_with fail
  refine (l31New_any _ n _ HV.out hn).mono ?_
  rintro e w1 ⟨g, rfl, hg0, hc1, hb1⟩
  go_wp2_with fail
  refine (byte_any g _ hc1).mono ?_
  rintro e w2 ⟨x, ⟨hx0, hx1⟩, rfl, hc2, hg2⟩
  have hb2 := below_cur hb1 hg2 hg0
  go_wp2_with fail
  refine (byte_any g _ hc2).mono ?_
  rintro e w3 ⟨y, ⟨hy0, hy1⟩, rfl, hc3, hg3⟩
  have hb3 := below_cur hb2 hg3 hg0
  go_wp2_with fail
  go_ret
  exact ⟨x * 256 + y, ⟨by omega, by omega⟩, rfl, hb3⟩

theorem sum_take_le {l : List Int} {B : Int} (hd : ∀ d ∈ l, 0 ≤ d ∧ d ≤ B) : ∀ k, k ≤ l.length → 0 ≤ (l.take k).sum ∧ (l.take k).sum ≤ B * k
  | 0, _ => by simp
  | k + 1, h => by
    have ih := sum_take_le hd k (by omega)
    have := hd l[k] (List.getElem_mem (by omega))
    rw [List.take_succ_eq_append_getElem (by omega), List.sum_append]
    have e : B * ((k + 1 : Nat) : Int) = B * k + B := by rw [Int.natCast_succ, Int.mul_add, Int.mul_one]
    rw [e]
    simp; omega

end Go.Proofs.YtleadjkndciniaaDoor
