/- Mixed places: the program's checked radices in memory; their size, and whether digits fit them. -/
import Derived.Test.YtleadjkndciniaaDoorMxI0
import Derived.Deep.WholeRow
import Derived.Laws.CopyOwn
import Derived.Laws.Rows
import Derived.Laws.Tables
import Derived.StillTailTactics
set_option linter.unusedVariables false
set_option linter.unusedSimpArgs false
set_option maxRecDepth 100000
namespace Go.Proofs.YtleadjkndciniaaDoor
open Go.ChangeShapes Go.WideShapes Go.ChangeAt Go.RowKit

/-- no radices -/
def sysZ : Array Value := Array.replicate 22 (.int .i64 0)
theorem sysZ_size : sysZ.size = 22 := rfl
theorem sysZ_one : sysZ.all (·.oneCell') = true := by kernel_rfl
theorem sysZ_at {j : Nat} (h : j < 22) : sysZ[j]? = some (.int .i64 0) := by
  simp [sysZ, Array.getElem?_replicate, h]
theorem sysV_zero {r : List Int} (h : okR r = false) : SysV r sysZ :=
  ⟨rfl, sysZ_one, fun e => absurd (h.symm.trans e) (by decide), fun _ => ⟨sysZ_at (by omega), sysZ_at (by omega)⟩⟩

theorem infoSys : (Tryd.prog.info? 66).map (fun i => (i.zero, i.size)) = some (some (.agg sysZ), 22) := by kernel_rfl
theorem sizeSys : (Tryd.prog.info? 66).map (·.size) = some 22 := (zero_of_info infoSys).2
theorem builtSys0 : Tryd.prog.built 66 [] = some sysZ := by kernel_rfl
theorem builtSys1 (n : Int) : Tryd.prog.built 66 [(0, .int .i64 n)] = some (sysZ.setIfInBounds 0 (.int .i64 n)) := by
  kernel_rfl

section
variable {ops : Array Oper} {rest : List Oper} {o : Oper} {a : Act} {w : World} {Q : Exit → Act → World → Prop}

/-- a new system -/
theorem wpS_alloc (hg : o.guard = none) (ho : o.op = .alloc 66)
    (h : ∀ (w1 : World) (g : Nat), Hid (w1.heap[g]? = some (.cells sysZ 66 (0, 0))) → Hid (g = w.heap.size ∧ w1.heap.size = g + 1) → Below w.heap.size w w1 → wpList Tryd.prog ops Q rest (a.put o.dst (.pointer (some ⟨g, 0, none⟩))) w1) :
    wpList Tryd.prog ops Q (o :: rest) a w := by
  refine wpList_plain hg fun K hK => ?_
  unfold Oper.wp execOp
  simp only [ho, Sem.run_bind, Instr.alloc, newVar, newRow, (zero_of_info infoSys).1, run_newObj_alloc, Sem.run_pure, Result.andThen_ok]
  exact hK _ _ (h (w.alloc (.cells sysZ 66)) w.heap.size (heap_alloc_new _ _) ⟨rfl, by simp⟩ ((Below.refl _ _).alloc (Nat.le_refl _) _))

/-- a system that is handed in, in a block of its own -/
theorem wpS_box (hg : o.guard = none) (x : Operand) (ho : o.op = .box 66 x) (cs : Array Value) (hx : a.eval x = .agg cs)
    (h : ∀ (w1 : World) (g : Nat), Hid (w1.heap[g]? = some (.cells cs 66 (0, 0))) → Hid (g = w.heap.size ∧ w1.heap.size = g + 1) → Below w.heap.size w w1 → wpList Tryd.prog ops Q rest (a.put o.dst (.pointer (some ⟨g, 0, none⟩))) w1) :
    wpList Tryd.prog ops Q (o :: rest) a w := by
  refine wpList_plain hg fun K hK => ?_
  unfold Oper.wp execOp
  simp only [ho, hx, Sem.run_bind, Instr.box, newVar, newRow, Value.cells, run_newObj_alloc, Sem.run_pure, Result.andThen_ok]
  exact hK _ _ (h (w.alloc (.cells cs 66)) w.heap.size (heap_alloc_new _ _) ⟨rfl, by simp⟩ ((Below.refl _ _).alloc (Nat.le_refl _) _))

/-- a system stored whole -/
theorem wpS_store (hgd : o.guard = none) (x y : Operand) (ho : o.op = .store 66 x y) (g : Nat) (cs old : Array Value) (hold : Hid (w.heap[g]? = some (.cells old 66 (0, 0)))) (hos : old.size = 22) (hcs : cs.size = 22) (h1 : cs.all (·.oneCell') = true)
    (B : Nat) (w0 : World) (hb : Below B w0 w) (hBg : B ≤ g) (hx : a.eval x = .pointer (some ⟨g, 0, none⟩)) (hy : a.eval y = .agg cs)
    (h : ∀ w1 : World, Hid (w1.heap[g]? = some (.cells cs 66 (0, 0))) → Hid (∀ k, k ≠ g → w1.heap[k]? = w.heap[k]?) → Hid (w1.heap.size = w.heap.size) → Below B w0 w1 → wpList Tryd.prog ops Q rest (a.put o.dst undef) w1) :
    wpList Tryd.prog ops Q (o :: rest) a w :=
  wpList_store_row hgd _ x y ho g cs hx hy _ old hold (by rw [hcs]; exact sizeSys) (by omega) h1
    (h _ (setRow_heap w g old cs _ _ hold) (fun k hk => setRow_other w g k cs hk) (size_setRow w g cs) (below_setRow hb hBg cs))

/-- a system loaded whole -/
theorem wpS_load (hw : Region.wanted o (yielded ops a.tmps) = true) (x : Operand) (ho : o.op = .load 66 x) (g : Nat) (cs : Array Value) (hg : Hid (w.heap[g]? = some (.cells cs 66 (0, 0)))) (hcs : cs.size = 22) (hx : a.eval x = .pointer (some ⟨g, 0, none⟩))
    (h : wpList Tryd.prog ops Q rest (a.put o.dst (.agg cs)) w) : wpList Tryd.prog ops Q (o :: rest) a w :=
  wpList_step fun K hK => by
    simp only [hw, if_true]
    exact wp_load_row _ x ho g hx _ cs _ _ hg Tryd.underlying66 rfl (by rw [hcs]; exact sizeSys) (hK _ _ h)

/-- no radices, as a literal -/
theorem wpS_zero (hgd : o.guard = none) (ho : o.op = .build 66 #[])
    (h : wpList Tryd.prog ops Q rest (a.put o.dst (.agg sysZ)) w) : wpList Tryd.prog ops Q (o :: rest) a w := by
  refine wpList_build hgd _ _ ho ?_ ?_
  · simp [builtSys0]
  · simpa [builtSys0] using h

/-- a literal with the number of radices alone -/
theorem wpS_count (hgd : o.guard = none) (x : Operand) (ho : o.op = .build 66 #[(0, x)]) (n : Int) (hx : a.eval x = .int .i64 n)
    (h : wpList Tryd.prog ops Q rest (a.put o.dst (.agg (sysZ.setIfInBounds 0 (.int .i64 n)))) w) : wpList Tryd.prog ops Q (o :: rest) a w := by
  refine wpList_build hgd _ _ ho ?_ ?_
  · simp [hx, builtSys1]
  · simpa [hx, builtSys1] using h
end

/-- a cell of a system in memory -/
theorem sys_cell {w : World} {g : Nat} {cs : Array Value} {T : TypeId} (h : Hid (w.heap[g]? = some (.cells cs T (0, 0)))) {i : Nat} {v : Value} (hi : cs[i]? = some v) : w.cell? ⟨g, i, none⟩ = some v := by
  rw [cell_of_row w g i cs T (0, 0) h]; exact hi
theorem sys_frozen {w : World} {g : Nat} {cs : Array Value} {T : TypeId} (h : Hid (w.heap[g]? = some (.cells cs T (0, 0)))) (i : Nat) : w.frozen? ⟨g, i, none⟩ = false := by
  have := h.out
  simp [World.frozen?, this]
theorem sys_lt {w : World} {g : Nat} {o : Obj} (h : Hid (w.heap[g]? = some o)) : g < w.heap.size := heap_lt_of_some h.out
theorem sys_below {w w' : World} {g : Nat} {o : Obj} (h : Hid (w.heap[g]? = some o)) (hb : Below w.heap.size w w') : Hid (w'.heap[g]? = some o) := by
  show _ = _
  rw [hb.block g (sys_lt h)]; exact h

set_option maxHeartbeats 1000000 in
theorem size7_any (cs : Array Value) (k : Nat) (v : Int) (w : World) (hs : cs.size = 22) (h0 : cs[0]? = some (.int .i64 k)) (hk : k ≤ 10) (hv : cs[11 + k]? = some (.int .i64 v)) :
    Calls Tryd.prog 49 #[.agg cs] w fun e w' => e = .returned (.int .i64 v) ∧ Below w.heap.size w w' := by
  have H0 := Lib.hid h0
  have HV := Lib.hid hv
  clear h0 hv
  go_enter Tryd.func49, Tryd.ntmps49
  go_wp2_with (refine wpS_box rfl _ rfl cs rfl ?_; intro w1 g hg hgs hB1; have c0 := sys_cell hg H0.out; have c1 := sys_cell hg HV.out)
  go_ret
  exact ⟨rfl, hB1⟩

def fitB (l r : List Int) : Bool := decide (l.length = r.length) && decide (∀ j (h1 : j < l.length) (h2 : j < r.length), 0 ≤ l[j] ∧ l[j] ≤ r[j] - 1)
theorem fitB_at {l r : List Int} {j : Nat} (h1 : j < l.length) (h2 : j < r.length) (h : l[j] < 0 ∨ r[j] ≤ l[j]) : fitB l r = false := by
  cases e : fitB l r
  · rfl
  · simp only [fitB, Bool.and_eq_true, decide_eq_true_eq] at e
    have := e.2 j h1 h2
    omega

set_option maxHeartbeats 2000000 in
theorem allows7_any (cs : Array Value) (v : Value) (l r : List Int) (w : World) (hS : SysK r r.length cs) (hA : AllR r) (hr10 : r.length ≤ 10) (hr : RowAt w v (intsOf l)) :
    Calls Tryd.prog 51 #[.agg cs, v] w fun e w' => e = .returned (.bool (fitB l r)) ∧ Below w.heap.size w w' := by
  obtain ⟨ad, cap, rfl, h1, h2, h3⟩ := hr.ints
  unfold maxLen at h2
  have H0 := Lib.hid hS.count
  have HR := Lib.hid hS.rad
  have hsz := hS.size
  clear hS hr
  by_cases hlen : l.length = r.length
  · go_enter Tryd.func51, Tryd.ntmps51
    have hT : ((l.length : Int) == r.length) = true := by simp [hlen]
    have HLEN := Lib.hid hlen
    clear hlen
    go_wp2_with (refine wpS_box rfl _ rfl cs rfl ?_; intro w1 g hg hgs hB1; have c0 := sys_cell hg H0.out)
    clear hT
    go_loop [14] (fun i => ∃ k : Nat, k ≤ l.length ∧ i = .int .i64 k ∧ ∀ j (g1 : j < l.length) (g2 : j < r.length), j < k → 0 ≤ l[j] ∧ l[j] ≤ r[j] - 1) (fun i => l.length - (intOf i).toNat)
    case atStart => exact ⟨0, Nat.zero_le _, rfl, fun j g1 g2 k => by omega⟩
    case round =>
      obtain ⟨k, hk, rfl, hall⟩ := hrel
      have HAL := Lib.hid hall; clear hall
      by_cases hlt : k < l.length
      · have hlt' : k < r.length := by have := HLEN.out; omega
        obtain ⟨b', off, rfl, hbb, hcell⟩ := h3.resolve_left (fun e => by rw [e] at hlt; simp at hlt)
        have hc : w1.cell? ⟨b', off + k, none⟩ = some (.int .i64 l[k]) := by rw [hB1.cell (p := ⟨b', off + k, none⟩) hbb]; exact hcell k hlt
        have hc2 := sys_cell hg (HR.out k hlt')
        have hx := hA _ (List.getElem_mem hlt')
        have HAT := Lib.hid (fitB_at hlt hlt')
        have HNX := Lib.hid (fun (e : 0 ≤ l[k] ∧ l[k] ≤ r[k] - 1) j (g1 : j < l.length) (g2 : j < r.length) (hj : j < k + 1) => show 0 ≤ l[j] ∧ l[j] ≤ r[j] - 1 by
          by_cases ej : j = k
          · subst ej; exact e
          · exact HAL.out j g1 g2 (by omega))
        obtain ⟨d, hd'⟩ : ∃ d, d = l[k] := ⟨_, rfl⟩
        obtain ⟨x, hx'⟩ : ∃ x, x = r[k] := ⟨_, rfl⟩
        rw [← hd'] at hc HAT HNX
        rw [← hx'] at hc2 hx HAT HNX
        have hx2 := hx.1; have hx60 := hx.2
        clear h3 hcell hd' hx' hx
        have hk10 : k < 10 := by omega
        by_cases d1 : d < 0
        · have HK := Lib.hid (HAT.out (.inl d1))
          go_wp2
          go_ret
          exact ⟨ret_bool HK.out.symm, hB1⟩
        · by_cases d2 : x ≤ d
          · have HK := Lib.hid (HAT.out (.inr d2))
            go_wp2
            go_ret
            exact ⟨ret_bool HK.out.symm, hB1⟩
          · go_wp2
            go_round
            case rel => exact ⟨k + 1, hlt, by go_num, HNX.out ⟨by omega, by omega⟩⟩
            case measure => simp [intOf]; omega
      · have HK := Lib.hid (show fitB l r = true by
          simp only [fitB, Bool.and_eq_true, decide_eq_true_eq]
          exact ⟨HLEN.out, fun j g1 g2 => HAL.out j g1 g2 (by omega)⟩)
        clear h3
        go_wp2
        go_ret
        exact ⟨ret_bool HK.out.symm, hB1⟩
  · have HK := Lib.hid (show fitB l r = false by simp [fitB, hlen])
    have hT : ((l.length : Int) == r.length) = false := by simpa using (by omega : ¬ (l.length : Int) = r.length)
    clear h3
    go_enter Tryd.func51, Tryd.ntmps51
    go_wp2_with (refine wpS_box rfl _ rfl cs rfl ?_; intro w1 g hg hgs hB1; have c0 := sys_cell hg H0.out)
    go_ret
    exact ⟨ret_bool HK.out.symm, hB1⟩

end Go.Proofs.YtleadjkndciniaaDoor
