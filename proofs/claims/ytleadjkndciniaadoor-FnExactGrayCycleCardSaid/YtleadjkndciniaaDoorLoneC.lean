/- Channels in one goroutine: a call within a region; a select of one receive with a default. -/
import Derived.Test.YtleadjkndciniaaDoorLone
import Derived.Conc.LoneSelect
set_option linter.unusedVariables false
set_option linter.unusedSimpArgs false
set_option maxRecDepth 100000
namespace Go.Proofs.YtleadjkndciniaaDoor
open Go.Conc Go.RowKit

section
variable {P : Program} {Q : Exit → Act → World → Prop} {a : Act} {w w₁ : World} {ops : Array Oper} {i : Nat} {rest : List Nat} {o : Oper}
theorem rn_call {f : FuncId} {args : Array Value} (ho : ops[i]? = some o) (hw : Region.wanted o (yielded ops a.tmps) = true) (hr : (execOp a.eval o).run P w = .ok (.enter f args) w₁)
    (hc : Calls P f args w₁ fun e w' => ∃ v, e = .returned v ∧ Rn P ops Q rest (a.put o.dst v) w') : Rn P ops Q (i :: rest) a w := by
  intro b k cs hb
  obtain ⟨e, w2, fr, ⟨v, rfl, hR⟩, hsteps, _, hleave⟩ := hc (b.at a (.inRegion ops (i :: rest) :: k) :: cs)
  obtain ⟨e, a', w3, hq, harr⟩ := hR b k cs hb
  have henter : step P (lone (b.at a (.inRegion ops (i :: rest) :: k)) cs w) = .next (lone (Frame.enter P f args .normal) (b.at a (.inRegion ops (i :: rest) :: k) :: cs) w₁) :=
    step_lone_go (by rw [stepG_op ho hw]; simp [stepG.apply, hr, Frame.at])
  refine ⟨e, a', w3, hq, .of_steps (.head henter (Steps.trans hsteps (.one ?_))) harr⟩
  rw [← finish_here ho]
  exact step_leave_returned hleave
/-- a call of a named function -/
theorem rn_fn {f : FuncId} {fn : Func} {c : Code} {args : Array Operand} {ats : Array TypeId} (ho : ops[i]? = some o) (hw : Region.wanted o (yielded ops a.tmps) = true)
    (hop : o.op = .call { callee := .value (.func f), args, argTypes := ats }) (hf : P.funcs[f]? = some fn) (hname : (fn.name == "runtime.NumGoroutine") = false) (hb : fn.body = some c)
    (hc : Calls P f (args.map a.eval) w fun e w' => ∃ v, e = .returned v ∧ Rn P ops Q rest (a.put o.dst v) w') : Rn P ops Q (i :: rest) a w := by
  refine rn_call (f := f) (args := args.map a.eval) (w₁ := w) ho hw ?_ hc
  have hx : a.eval (.func f) = .func (.func f) #[] #[] := rfl
  have hn : ¬ fn.name = "runtime.NumGoroutine" := by simpa using hname
  simp [execOp, hop, resolve, hx, Deferred.ofValue, invoke, callFunc, hf, hn, hb]
variable {c cap s r : Nat} {buf : Array Value} {z : Value} {tm closed : Bool}
/-- a select of one receive with a default: something lies in the buffer -/
theorem rn_select (ho : ops[i]? = some o) (hw : Region.wanted o (yielded ops a.tmps) = true) (hr : (execOp a.eval o).run P w = .ok (.comm #[rcase c z] false .select) w₁) (hc : w₁.heap[c]? = some (.chan cap buf closed s r tm)) (hsome : 0 < buf.size)
    (h : Rn P ops Q rest (a.put o.dst (.tuple #[goInt 0, .bool true, buf.getD 0 undef])) (w₁.setChan c cap (buf.extract 1 buf.size) closed s (r + 1) tm)) : Rn P ops Q (i :: rest) a w :=
  step_comm_lone ho h fun b k cs hb => step_lone_select_recv_buf (stepG_comm ho hw hb hr) hc hsome
/-- the buffer is empty: the default -/
theorem rn_select_none (ho : ops[i]? = some o) (hw : Region.wanted o (yielded ops a.tmps) = true) (hr : (execOp a.eval o).run P w = .ok (.comm #[rcase c z] false .select) w₁) (hc : w₁.heap[c]? = some (.chan cap #[] false s r tm))
    (h : Rn P ops Q rest (a.put o.dst (.tuple #[goInt (-1), .bool false, z])) w₁) : Rn P ops Q (i :: rest) a w :=
  step_comm_lone ho h fun b k cs hb => step_lone_select_default (stepG_comm ho hw hb hr) hc
end

end Go.Proofs.YtleadjkndciniaaDoor
