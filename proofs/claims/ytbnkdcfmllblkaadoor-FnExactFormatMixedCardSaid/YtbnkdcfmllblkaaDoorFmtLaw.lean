/- The law on FormatInt, and what the row's list of laid variables gives. -/
import Derived.Test.YtbnkdcfmllblkaaDoorCards
import Derived.Test.YtbnkdcfmllblkaaDoorTie
import Derived.Test.YtbnkdcfmllblkaaDoorRow
import Derived.Test.YtbnkdcfmllblkaaDoorShelfC
import Derived.Deep.RegionWith
import Derived.LaidMore
import Derived.LaidOnce
import Derived.Lib.AtoiAllCases
import Derived.Lib.ItoaNum
import Derived.Lib.LaidTab
import Derived.SevenTiedAt
import Derived.Stop.Joined
set_option linter.unusedVariables false
set_option linter.unusedSimpArgs false
namespace Go.Proofs.YtbnkdcfmllblkaaDoor
open Go.ChangeShapes Go.WideShapes Go.ChangeAt Go.RowKit

theorem below_grow (w : World) (q : Nat) (os : Array Obj) : Below w.heap.size w (Sort.grow (w.drewN q) os) :=
  ⟨rfl, rfl, rfl, by show w.heap.size ≤ (w.heap ++ os).size; simp, fun k hk => by show (w.heap ++ os)[k]? = _; rw [Array.getElem?_append_left hk]⟩

def Tab (w : World) : Prop := Lib.TabIs Tryd.prog w "internal/strconv.uint64pow10" .u64 Lib.pow10Tab

theorem gPow : Tryd.prog.globalNamed "internal/strconv.uint64pow10" = some 2 := by kernel_rfl
theorem tPow : (Tryd.prog.globals[2]?).map (·.type) = some 84 := by kernel_rfl
theorem cPow : Tryd.prog.cellsOf 84 = 20 := by kernel_rfl
theorem cU64 : Tryd.prog.cellsOf 68 = 1 := by kernel_rfl

theorem var_below {P : Program} {w w' : World} {name : String} {x : Array Value} (h : w.var? P name = some x) (hb : Below w.heap.size w w') : w'.var? P name = some x := by
  unfold World.var? at *
  obtain ⟨g, hg, hx⟩ := Option.bind_eq_some_iff.1 h
  rw [hg]
  show (match w'.heap[g]? with | some (.cells cs _ _) => some cs | _ => none) = some x
  have hlt : g < w.heap.size := by
    rcases Nat.lt_or_ge g w.heap.size with h' | h'
    · exact h'
    · simp [Array.getElem?_eq_none h'] at hx
  rw [hb.block g hlt]
  exact hx

/-- the table stands while nothing that was there turns -/
theorem Tab.below {w w' : World} (h : Tab w) (hb : Below w.heap.size w w') : Tab w' := by
  exact var_below h hb

theorem implFormat_any (n : Int) (w : World) (h0 : -9223372036854775808 ≤ n) (h1 : n ≤ 9223372036854775807) (ht : Tab w) :
    Calls Tryd.prog 19 #[.int .i64 n] w fun e w' => e = .returned (.string (bs (Lib.itoa n))) ∧ Below w.heap.size w w' := by
  go_enter Tryd.func19, Tryd.ntmps19
  go_wp2_with (go_at_call 28; refine (Tryd.strconv_Itoa n h0 h1 _ ht).mono ?_; rintro e w' ⟨rfl, k, os, rfl⟩)
  go_ret
  exact ⟨rfl, below_grow _ _ _⟩

end Go.Proofs.YtbnkdcfmllblkaaDoor
