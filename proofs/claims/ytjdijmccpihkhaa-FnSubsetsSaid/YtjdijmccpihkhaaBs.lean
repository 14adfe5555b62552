/- Code beside leavers, piece by piece: the walk's judgement (Wb), tame pieces by the usual walk, regions with calls by contracts beside leavers. -/
import Derived.Test.YtjdijmccpihkhaaLfE
import Derived.Conc.CrowdComm
import Derived.Conc.Deaf
import Derived.Conc.Know
import Derived.Conc.Pipeline3
set_option linter.unusedVariables false
set_option linter.unusedSimpArgs false
set_option maxHeartbeats 1000000
namespace Go.Proofs.Ytjdijmccpihkhaa
open Go.Conc

section
variable {P : Program} {F : Okay} {Q : Exit → Act → World → Prop} {a : Act} {w : World}
def Wb (P : Program) (c : Code) (Q : Exit → Act → World → Prop) (a : Act) (w : World) : Prop :=
  ∀ (b : Frame) (k : List Item) (cs : List Frame), b.kind = .normal → To P (Arr b Q k cs) (G (b.at a (.code c :: k)) cs) w
/-- the same, within a region of which the operations l are left -/
def Rb (P : Program) (ops : Array Oper) (Q : Exit → Act → World → Prop) (l : List Nat) (a : Act) (w : World) : Prop :=
  ∀ (b : Frame) (k : List Item) (cs : List Frame), b.kind = .normal → To P (Arr b Q k cs) (G (b.at a (.inRegion ops l :: k)) cs) w
theorem wb_re {c : Code} (τ : Nat → Question → Nat) (d : Nat) (h : Wb P c Q a w) : Wb P c Q a (re w τ d) := fun b k cs hb => to_re τ d (h b k cs hb)
theorem re_wb {c : Code} {τ : Nat → Question → Nat} {d : Nat} (h : Wb P c Q a (re w τ d)) : Wb P c Q a w := fun b k cs hb => re_to (h b k cs hb)
theorem rb_re {ops : Array Oper} {l : List Nat} (τ : Nat → Question → Nat) (d : Nat) (h : Rb P ops Q l a w) : Rb P ops Q l a (re w τ d) := fun b k cs hb => to_re τ d (h b k cs hb)
theorem re_rb {ops : Array Oper} {l : List Nat} {τ : Nat → Question → Nat} {d : Nat} (h : Rb P ops Q l a (re w τ d)) : Rb P ops Q l a w := fun b k cs hb => re_to (h b k cs hb)

/-- a tame piece by the usual walk, on every tape -/
theorem wb_of (hT : Tame P F) {c : Code} (hc : okC F c = true) {t : Array Value} (hQ : ∀ e a w, Q e a w → e = .normal ∨ e = .ret) (h : ∀ σ, c.wp P Q ⟨t, []⟩ (re w σ 0)) : Wb P c Q ⟨t, []⟩ w :=
  fun b k cs hb => to_of_wp hT hb hc hQ h k cs

theorem arr_ret {b : Frame} {Q' : Exit → Act → World → Prop} {k k' : List Item} {cs : List Frame} {a' : Act} {todo : List Item} (h : Qx Q' .ret a' w) : Arr b Q' k' cs (G { b.at a' todo with mode := .returning } cs) w := .inr ⟨a', todo, rfl, h⟩

theorem wb_seq {x y : Code} (h : Wb P x (Exit.then (fun a w => Wb P y Q a w) Q) a w) : Wb P (.seq x y) Q a w := by
  intro b k cs hb
  refine ctl_step rfl (fun W => stepG_seq) ((h b (.code y :: k) cs hb).trans fun g w' hA => ?_)
  rcases hA with ⟨a', rfl, σ, d, hq⟩ | ⟨a', todo, rfl, σ, d, hq⟩
  · exact re_to ((show Wb P y Q a' (re w' σ d) from hq) b k cs hb)
  · exact .here (.inr ⟨a', todo, rfl, σ, d, hq⟩)
/-- first a tame piece -/
theorem wb_first (hT : Tame P F) {x y : Code} (hx : okC F x = true) {t : Array Value} (hQ : ∀ e a w, Q e a w → e = .normal ∨ e = .ret) (h : ∀ σ, x.wp P (Exit.then (fun a w => Wb P y Q a w) Q) ⟨t, []⟩ (re w σ 0)) : Wb P (.seq x y) Q ⟨t, []⟩ w := by
  refine wb_seq (wb_of hT hx (fun e a w hq => ?_) h)
  cases e <;> first | exact .inl rfl | exact .inr rfl | exact hQ _ _ _ hq
theorem wb_cond {c : Operand} {x y : Code} {t : Bool} (hc : a.eval c = .bool t) (h : Wb P (if t then x else y) Q a w) : Wb P (.cond c x y) Q a w :=
  fun b k cs hb => ctl_step rfl (fun W => stepG_cond hc) (h b k cs hb)
theorem wb_skip (h : Q .normal a w) : Wb P .skip Q a w :=
  fun b k cs hb => ctl_step rfl (fun W => stepG_skip) (.here (.inl ⟨a, rfl, w.tape, w.drawn, h⟩))
theorem wb_ret (h : Q .ret a w) : Wb P .ret Q a w :=
  fun b k cs hb => ctl_step rfl (fun W => by simp [G, stepG, stepG.exec, Frame.at]) (.here (.inr ⟨a, .code .ret :: k, rfl, w.tape, w.drawn, h⟩))

/-- first a tame piece, in a given frame -/
theorem at_first (hT : Tame P F) {b : Frame} (hb : b.kind = .normal) {x y : Code} (hx : okC F x = true) {t : Array Value} {k : List Item} {cs : List Frame} (hQ : ∀ e a w, Q e a w → e = .normal ∨ e = .ret)
    (h : ∀ σ, x.wp P (Exit.then (fun a w => To P (Arr b Q k cs) (G (b.at a (.code y :: k)) cs) w) Q) ⟨t, []⟩ (re w σ 0)) : To P (Arr b Q k cs) (G (b.at ⟨t, []⟩ (.code (.seq x y) :: k)) cs) w := by
  refine ctl_step rfl (fun W => stepG_seq) ((to_of_wp hT hb hx (fun e a w hq => ?_) h (.code y :: k) cs).trans fun g w' hA => ?_)
  · cases e <;> first | exact .inl rfl | exact .inr rfl | exact hQ _ _ _ hq
  · rcases hA with ⟨a', rfl, σ, d, hq⟩ | ⟨a', todo, rfl, σ, d, hq⟩
    · exact re_to (show To P (Arr b Q k cs) (G (b.at a' (.code y :: k)) cs) (re w' σ d) from hq)
    · exact .here (.inr ⟨a', todo, rfl, σ, d, hq⟩)

/-! ### regions -/
theorem wb_region {id : Nat} {ops : Array Oper} (h : Rb P ops Q (List.range ops.size) a w) : Wb P (.region id ops false) Q a w :=
  fun b k cs hb => ctl_step rfl (fun W => stepG_region) (h b k cs hb)
theorem wb_region_draw {id : Nat} {ops : Array Oper} (h : ∀ t, Rb P ops Q (Region.schedule (P.follows .mixedOrders) ops t) a w) : Wb P (.region id ops true) Q a w := by
  intro b k cs hb
  refine own_step rfl fun τ d => ⟨_, w, d + 1, #[], stepG_region_draw, by simp, ?_⟩
  exact h _ b k cs hb
theorem rb_nil {ops : Array Oper} (h : Q .normal a w) : Rb P ops Q [] a w :=
  fun b k cs hb => ctl_step rfl (fun W => stepG_region_end) (.here (.inl ⟨a, rfl, w.tape, w.drawn, h⟩))

section
variable {ops : Array Oper} {i : Nat} {rest : List Nat} {o : Oper}
/-- an operation that is passed over -/
theorem rb_unwanted (ho : ops[i]? = some o) (hw : Region.wanted o (yielded ops a.tmps) = false) (h : Rb P ops Q rest (a.put o.dst undef) w) : Rb P ops Q (i :: rest) a w :=
  fun b k cs hb => ctl_step rfl (fun W => stepG_unwanted ho hw) (h b k cs hb)
/-- what a tame operation must come to, whatever the tape -/
def Comes3 (o : Oper) (a : Act) (K : Act → World → Prop) : Result Next → Prop
  | .ok (.value v) w' => K (a.put o.dst v) w'
  | .ok .skip w' => K (a.put o.dst undef) w'
  | _ => False
@[simp] theorem comes3_value (o : Oper) (a : Act) (K : Act → World → Prop) (v : Value) (w' : World) : Comes3 o a K (.ok (.value v) w') = K (a.put o.dst v) w' := rfl
@[simp] theorem comes3_skip (o : Oper) (a : Act) (K : Act → World → Prop) (w' : World) : Comes3 o a K (.ok .skip w') = K (a.put o.dst undef) w' := rfl
theorem op_to (hT : Tame P F) {b : Frame} {k : List Item} {cs : List Frame} {T : Goroutine → World → Prop} (ho : ops[i]? = some o) (hw : Region.wanted o (yielded ops a.tmps) = true) (hb : b.kind = .normal) (hok : okOp F o.op = true)
    (h : ∀ (K : Act → World → Prop), (∀ a w, To P T (G (b.at a (.inRegion ops rest :: k)) cs) w → K a w) → ∀ σ, Comes3 o a K ((execOp a.eval o).run P (re w σ 0))) : To P T (G (b.at a (.inRegion ops (i :: rest) :: k)) cs) w := by
  refine own_step rfl fun τ d => ?_
  -- the run at the tape from d on, laid at 0
  let σ : Nat → Question → Nat := fun n => τ (d + n)
  obtain ⟨c, w₁, es', r, h1, h2, h3⟩ := run_mild (exec_mild hT a o hok) w σ 0 #[]
  have e1 := h1 σ 0 (Agree.refl _ _ _)
  have e2 := h1 τ d (fun n _ => by show τ (d + (0 + n)) = τ (d + n); rw [Nat.zero_add])
  rw [Sem.runT_eq] at e1 e2
  obtain ⟨r1, _⟩ := Prod.mk.inj e1
  obtain ⟨r2, v2⟩ := Prod.mk.inj e2
  have hh := h (fun a w => To P T (G (b.at a (.inRegion ops rest :: k)) cs) w) (fun _ _ h => h) σ
  rw [r1] at hh
  have hk : b.kind ≠ .early := by rw [hb]; simp
  have hl : listed P b.fn a o (re w τ d) = seen P b.fn es' := by rw [listed, v2]; simp
  have hq : ∀ x ∈ seen P b.fn es', QuietE x := fun x hx => h2 x (mem_seen hx)
  rcases h3 with ⟨n, hn, rfl⟩ | ⟨hlt, _, rfl⟩
  · rcases hn with ⟨v, rfl⟩ | rfl | ⟨f, args, rfl, _⟩
    · refine ⟨_, w₁, d + c, _, stepG_value ho hw hk r2, by rw [hl]; exact hq, ?_⟩
      exact re_to (show To P T (G (b.at (a.put o.dst v) (.inRegion ops rest :: k)) cs) (re w₁ σ (0 + c)) from hh)
    · have hfin : (b.at a (.inRegion ops (i :: rest) :: k)).finish undef = b.at (a.put o.dst undef) (.inRegion ops rest :: k) := by rw [Frame.finish_at, ho]; rfl
      have hk' : (b.kind == CallKind.early) = false := by rw [hb]; rfl
      refine ⟨G (b.at (a.put o.dst undef) (.inRegion ops rest :: k)) cs, w₁, d + c, seen P b.fn es', ?_, hq, ?_⟩
      · rw [stepG_oper ho hw, ← hfin]
        simp only [Array.empty_append] at v2
        simp [stepG.apply, r2, v2, G, Frame.at, hk', GStep.after]
      · exact re_to (show To P T (G (b.at (a.put o.dst undef) (.inRegion ops rest :: k)) cs) (re w₁ σ (0 + c)) from hh)
    · exact hh.elim
  · exact hh.elim
theorem rb_op (hT : Tame P F) (ho : ops[i]? = some o) (hw : Region.wanted o (yielded ops a.tmps) = true) (hok : okOp F o.op = true)
    (h : ∀ (K : Act → World → Prop), (∀ a w, Rb P ops Q rest a w → K a w) → ∀ σ, Comes3 o a K ((execOp a.eval o).run P (re w σ 0))) : Rb P ops Q (i :: rest) a w := by
  intro b k cs hb
  exact op_to hT ho hw hb hok fun K hK σ => h K (fun a w hr => hK a w (hr b k cs hb)) σ
/-- a call: the callee's frame on top -/
theorem call_to {f : FuncId} {fn : Func} {c : Code} {args : Array Operand} {ats : Array TypeId} {b : Frame} {k : List Item} {cs : List Frame} {T : Goroutine → World → Prop} (ho : ops[i]? = some o) (hw : Region.wanted o (yielded ops a.tmps) = true) (hk : b.kind = .normal)
    (hop : o.op = .call { callee := .value (.func f), args, argTypes := ats }) (hf : P.funcs[f]? = some fn) (hname : (fn.name == "runtime.NumGoroutine") = false) (hb : fn.body = some c)
    (h : To P T (G ((base f).at { tmps := args.map a.eval ++ Array.replicate (fn.ntmps - (args.map a.eval).size) undef, defers := [] } [.code c]) (b.at a (.inRegion ops (i :: rest) :: k) :: cs)) w) : To P T (G (b.at a (.inRegion ops (i :: rest) :: k)) cs) w := by
  have hk0 : b.kind ≠ .early := by rw [hk]; simp
  have hname' : ¬ fn.name = "runtime.NumGoroutine" := by simpa using hname
  have hx : a.eval (.func f) = .func (.func f) #[] #[] := rfl
  have hrun : ∀ W : World, (execOp a.eval o).run P W = .ok (.enter f (args.map a.eval)) W := fun W => by
    simp [execOp, hop, resolve, hx, Deferred.ofValue, invoke, callFunc, hf, hname', hb]
  have hev : ∀ W : World, (execOp a.eval o).events P W #[] = #[] := fun W => by
    simp [execOp, hop, resolve, hx, Deferred.ofValue, invoke, callFunc, hf, hname', hb]
  have hent : Frame.enter P f (args.map a.eval) .normal = (base f).at { tmps := args.map a.eval ++ Array.replicate (fn.ntmps - (args.map a.eval).size) undef, defers := [] } [.code c] := by
    simp [Frame.enter, base, Frame.at, hf, hb]
  refine own_step rfl fun τ d => ⟨_, w, d, _, stepG_enter ho hw hk0 (hrun _), ?_, ?_⟩
  · intro x hx
    unfold listed at hx
    rw [hev, seen_none] at hx
    simp at hx
  · rw [hent]; exact h
/-- a call by its contract beside leavers -/
theorem rb_call {f : FuncId} {fn : Func} {c : Code} {args : Array Operand} {ats : Array TypeId} {R : Value → World → Prop} (ho : ops[i]? = some o) (hw : Region.wanted o (yielded ops a.tmps) = true)
    (hop : o.op = .call { callee := .value (.func f), args, argTypes := ats }) (hf : P.funcs[f]? = some fn) (hname : (fn.name == "runtime.NumGoroutine") = false) (hb : fn.body = some c)
    (hB : BCalls P f (args.map a.eval) w R) (next : ∀ v w', R v w' → Rb P ops Q rest (a.put o.dst v) w') : Rb P ops Q (i :: rest) a w := by
  intro b k cs hk
  have hk0 : b.kind ≠ .early := by rw [hk]; simp
  have hrun : ∀ W : World, (execOp a.eval o).run P W = .ok (.enter f (args.map a.eval)) W := fun W => by
    have hx : a.eval (.func f) = .func (.func f) #[] #[] := rfl
    have hname' : ¬ fn.name = "runtime.NumGoroutine" := by simpa using hname
    simp [execOp, hop, resolve, hx, Deferred.ofValue, invoke, callFunc, hf, hname', hb]
  have hev : ∀ W : World, (execOp a.eval o).events P W #[] = #[] := fun W => by
    have hx : a.eval (.func f) = .func (.func f) #[] #[] := rfl
    have hname' : ¬ fn.name = "runtime.NumGoroutine" := by simpa using hname
    simp [execOp, hop, resolve, hx, Deferred.ofValue, invoke, callFunc, hf, hname', hb]
  refine own_step rfl fun τ d => ⟨_, w, d, _, stepG_enter ho hw hk0 (hrun _), ?_, ?_⟩
  · intro x hx
    unfold listed at hx
    rw [hev, seen_none] at hx
    simp at hx
  · refine (hB (b.at a (.inRegion ops (i :: rest) :: k)) cs).trans fun g w' ⟨v, e, σ, d, hr⟩ => ?_
    subst e
    rw [Frame.finish_at, ho]
    exact (re_rb (next v _ hr)) b k cs hk
end

/-! ### from a body to a contract -/
/-- its results are temporaries -/
def PlainRes (fn : Func) : Prop := ∀ t : Array Value, ∃ v, results fn t = (pure v : Sem Value)
theorem plain1 {fn : Func} {t : Tmp} (h : fn.results = #[.tmp t]) : PlainRes fn := fun tm => ⟨tm.getD t undef, by simp [results, h]⟩
theorem plain2 {fn : Func} {t u : Tmp} (h : fn.results = #[.tmp t, .tmp u]) : PlainRes fn := fun tm => ⟨.tuple #[tm.getD t undef, tm.getD u undef], by simp [results, h]⟩
theorem bcalls_of_at {f : FuncId} {fn : Func} {c : Code} {args : Array Value} {R : Value → World → Prop} (hf : P.funcs[f]? = some fn) (hb : fn.body = some c) (hres : PlainRes fn)
    (h : ∀ cs, To P (Arr (base f) (bodyPost P fn fun e w' => ∃ v, e = .returned v ∧ R v w') [] cs) (G ((base f).at { tmps := args ++ Array.replicate (fn.ntmps - args.size) undef, defers := [] } [.code c]) cs) w) : BCalls P f args w R := by
  intro c0 cs
  have hent : Frame.enter P f args .normal = (base f).at { tmps := args ++ Array.replicate (fn.ntmps - args.size) undef, defers := [] } [.code c] := by
    simp [Frame.enter, base, Frame.at, hf, hb]
  rw [hent]
  have leave : ∀ (a' : Act) (todo : List Item) (w' : World) (σ : Nat → Question → Nat) (d : Nat), (a'.defers = [] ∧ ∃ v, (results fn a'.tmps).run P (re w' σ d) = .ok v (re w' σ d) ∧ ∃ v', Ending.returned v = .returned v' ∧ R v' (re w' σ d)) →
      To P (Back c0 R cs) (G { (base f).at a' todo with mode := .returning } (c0 :: cs)) w' := by
    rintro a' todo w' σ d ⟨hd, v, hr, v', e, hR⟩
    cases e
    obtain ⟨v2, hv2⟩ := hres a'.tmps
    have e3 : v2 = v := by rw [hv2] at hr; simp [pure, Sem.run] at hr; exact hr
    subst e3
    exact ctl_step rfl (fun W => stepG_leave (b := base f) rfl hd hf (by rw [hv2]; rfl) (by rw [hv2]; rfl)) (.here ⟨v2, rfl, σ, d, hR⟩)
  refine (h (c0 :: cs)).trans fun g w' hA => ?_
  rcases hA with ⟨a', rfl, σ, d, hq⟩ | ⟨a', todo, rfl, σ, d, hq⟩
  · exact ctl_step rfl (fun W => stepG_end) (leave a' _ w' σ d hq)
  · exact leave a' todo w' σ d hq
theorem bcalls_of_wb {f : FuncId} {fn : Func} {c : Code} {args : Array Value} {R : Value → World → Prop} (hf : P.funcs[f]? = some fn) (hb : fn.body = some c) (hres : PlainRes fn)
    (h : Wb P c (bodyPost P fn fun e w' => ∃ v, e = .returned v ∧ R v w') { tmps := args ++ Array.replicate (fn.ntmps - args.size) undef, defers := [] } w) : BCalls P f args w R :=
  bcalls_of_at hf hb hres fun cs => h (base f) [] cs rfl
/-- what a body's post lets by -/
theorem bodyPost_ways {fn : Func} {R : Value → World → Prop} : ∀ e a w, bodyPost P fn (fun e w' => ∃ v, e = .returned v ∧ R v w') e a w → e = .normal ∨ e = .ret := by
  intro e a w h
  cases e with
  | normal => exact .inl rfl
  | ret => exact .inr rfl
  | panic ch => obtain ⟨_, v, e, _⟩ := h; cases e
  | exit id => exact h.elim
  | goto l => exact h.elim
  | outgrown => obtain ⟨v, e, _⟩ := h; cases e
end

end Go.Proofs.Ytjdijmccpihkhaa
