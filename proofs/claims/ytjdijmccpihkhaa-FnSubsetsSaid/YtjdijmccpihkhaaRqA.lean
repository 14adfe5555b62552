/- Ranges over functions beside leavers: the statement, its rounds, the call of yield, the return past the mark. -/
import Derived.Test.YtjdijmccpihkhaaBs
import Derived.AtR
import Derived.RangeFuncRecord
set_option linter.unusedVariables false
set_option linter.unusedSimpArgs false
set_option maxHeartbeats 1000000
namespace Go.Proofs.Ytjdijmccpihkhaa
open Go.Conc

section
variable {P : Program} {T : Goroutine → World → Prop} {b : Frame} {a : Act} {k : List Item} {cs : List Frame} {w : World}

theorem mild_events {α : Type} {L : α → Prop} {s : Sem α} (h : Mild P L s) (W : World) : ∀ x ∈ s.events P W #[], QuietE x := by
  obtain ⟨c, w₁, es', r, h1, h2, h3⟩ := run_mild h W W.tape W.drawn #[]
  have e1 := h1 W.tape W.drawn (Agree.refl _ _ _)
  have e2 : re W W.tape W.drawn = W := rfl
  rw [e2, Sem.runT_eq] at e1
  obtain ⟨_, v⟩ := Prod.mk.inj e1
  intro x hx
  rw [v] at hx
  exact h2 x (by simpa using hx)
theorem mild_getLoop (l : Nat) : Mild P Any (Instr.getLoop l) := by
  unfold Instr.getLoop
  refine Mild.bind (mild_getObj l) fun o => ?_
  split <;> exact trivial
theorem mild_yield (l : Nat) (args : Array Value) : Mild P Any (Instr.yield l args) := by
  unfold Instr.yield
  refine Mild.bind (mild_getLoop l) fun r => ?_
  split
  · exact mild_never (never_stuck _)
  · exact trivial
theorem mild_beginRound (l : Nat) : Mild P Any (Instr.beginRound l) := by
  unfold Instr.beginRound
  refine Mild.bind (mild_getLoop l) fun r => Mild.bind (mild_setObj _ _) fun _ => ?_
  split <;> first | exact trivial | exact mild_runtimePanic _
theorem mild_endRound (l : Nat) (j : Option Code) : Mild P Any (Instr.endRound l j) := by
  unfold Instr.endRound
  exact Mild.bind (mild_getLoop l) fun r => Mild.bind (mild_setObj _ _) fun _ => trivial
theorem mild_endLoop (l : Nat) : Mild P Any (Instr.endLoop l) := by
  unfold Instr.endLoop
  refine Mild.bind (mild_getLoop l) fun r => ?_
  split
  · exact Mild.bind (mild_runtimePanic _) fun _ => Mild.bind (mild_setObj _ _) fun _ => trivial
  · exact Mild.bind (mild_setObj _ _) fun _ => trivial
theorem mild_takeDeferred (r : Nat) : Mild P Any (Instr.takeDeferred r) := by
  unfold Instr.takeDeferred
  refine Mild.bind (mild_getObj r) fun o => ?_
  split
  · exact Mild.bind (mild_setObj _ _) fun _ => trivial
  · exact trivial
theorem mild_enterLoop (fn : FuncId) (tmps : Array Value) (ps : Array Tmp) (assign body : Code) : Mild P Any (Instr.enterLoop fn tmps ps assign body none) := by
  unfold Instr.enterLoop
  exact fun _ _ => trivial
theorem seen_quiet {fn : FuncId} {es : Array Event} (h : ∀ x ∈ es, QuietE x) : ∀ x ∈ seen P fn es, QuietE x := fun x hx => h x (mem_seen hx)

/-! ### a round's frame -/
theorem stepRg_region {id : Nat} {ops : Array Oper} : stepG P true (G (b.atR a (.code (.region id ops false) :: k)) cs) w = .go (G (b.atR a (.inRegion ops (List.range ops.size) :: k)) cs) w := by simp [G, stepG, stepG.exec, Frame.atR]
theorem stepRg_region_end {ops : Array Oper} : stepG P true (G (b.atR a (.inRegion ops [] :: k)) cs) w = .go (G (b.atR a k) cs) w := by simp [G, stepG, stepG.exec, Frame.atR]
theorem stepRg_block {id : Nat} {c : Code} : stepG P true (G (b.atR a (.code (.block id c) :: k)) cs) w = .go (G (b.atR a (.code c :: .inBlock id :: k)) cs) w := by simp [G, stepG, stepG.exec, Frame.atR]
theorem stepRg_inBlock {id : Nat} : stepG P true (G (b.atR a (.inBlock id :: k)) cs) w = .go (G (b.atR a k) cs) w := by simp [G, stepG, stepG.exec, Frame.atR]
theorem stepRg_seq {x y : Code} : stepG P true (G (b.atR a (.code (.seq x y) :: k)) cs) w = .go (G (b.atR a (.code x :: .code y :: k)) cs) w := by simp [G, stepG, stepG.exec, Frame.atR]
/-- a tame operation in a round -/
theorem opR_to {F : Okay} (hT : Tame P F) {ops : Array Oper} {i : Nat} {rest : List Nat} {o : Oper} (ho : ops[i]? = some o) (hw : Region.wanted o (yielded ops a.tmps) = true) (hb : b.kind = .normal) (hok : okOp F o.op = true)
    (h : ∀ (K : Act → World → Prop), (∀ a w, To P T (G (b.atR a (.inRegion ops rest :: k)) cs) w → K a w) → ∀ σ, Comes3 o a K ((execOp a.eval o).run P (re w σ 0))) : To P T (G (b.atR a (.inRegion ops (i :: rest) :: k)) cs) w := by
  have he := Frame.eval_atR b a (.inRegion ops (i :: rest) :: k)
  simp only [Frame.atR] at he
  have hdef : ∀ c, o.op ≠ .defer c := fun c e => by rw [e] at hok; simp [okOp] at hok
  have hop : ∀ W, stepG P true (G (b.atR a (.inRegion ops (i :: rest) :: k)) cs) W = stepG.apply P true (b.atR a (.inRegion ops (i :: rest) :: k)) cs none (execOp a.eval o) W := fun W => by
    cases hr : b.roundOf with
    | none => simp [G, stepG, stepG.exec, stepG.oper, Frame.oper?, Frame.atR, ho, hw, he, hr] at he ⊢; simp [he]
    | some l =>
      rw [hr] at he
      cases ho2 : o.op <;> first | exact absurd ho2 (hdef _) | simp [G, stepG, stepG.exec, stepG.oper, Frame.oper?, Frame.atR, ho, hw, he, hr, ho2]
  refine own_step rfl fun τ d => ?_
  let σ : Nat → Question → Nat := fun n => τ (d + n)
  obtain ⟨c, w₁, es', r, h1, h2, h3⟩ := run_mild (exec_mild hT a o hok) w σ 0 #[]
  have e1 := h1 σ 0 (Agree.refl _ _ _)
  have e2 := h1 τ d (fun n _ => by show τ (d + (0 + n)) = τ (d + n); rw [Nat.zero_add])
  rw [Sem.runT_eq] at e1 e2
  obtain ⟨r1, _⟩ := Prod.mk.inj e1
  obtain ⟨r2, v2⟩ := Prod.mk.inj e2
  have hh := h (fun a w => To P T (G (b.atR a (.inRegion ops rest :: k)) cs) w) (fun _ _ h => h) σ
  rw [r1] at hh
  have hk' : (b.kind == CallKind.early) = false := by rw [hb]; rfl
  have hq : ∀ x ∈ seen P b.fn es', QuietE x := fun x hx => h2 x (mem_seen hx)
  simp only [Array.empty_append] at v2
  rcases h3 with ⟨n, hn, rfl⟩ | ⟨hlt, _, rfl⟩
  · rcases hn with ⟨v, rfl⟩ | rfl | ⟨f, args, rfl, _⟩
    · have hfin : (b.atR a (.inRegion ops (i :: rest) :: k)).finish v = b.atR (a.put o.dst v) (.inRegion ops rest :: k) := by rw [Frame.finish_atR, ho]; rfl
      refine ⟨G (b.atR (a.put o.dst v) (.inRegion ops rest :: k)) cs, w₁, d + c, seen P b.fn es', ?_, hq, ?_⟩
      · rw [hop, ← hfin]
        simp [stepG.apply, r2, v2, G, Frame.atR, hk', GStep.after]
      · exact re_to (show To P T (G (b.atR (a.put o.dst v) (.inRegion ops rest :: k)) cs) (re w₁ σ (0 + c)) from hh)
    · have hfin : (b.atR a (.inRegion ops (i :: rest) :: k)).finish undef = b.atR (a.put o.dst undef) (.inRegion ops rest :: k) := by rw [Frame.finish_atR, ho]; rfl
      refine ⟨G (b.atR (a.put o.dst undef) (.inRegion ops rest :: k)) cs, w₁, d + c, seen P b.fn es', ?_, hq, ?_⟩
      · rw [hop, ← hfin]
        simp [stepG.apply, r2, v2, G, Frame.atR, hk', GStep.after]
      · exact re_to (show To P T (G (b.atR (a.put o.dst undef) (.inRegion ops rest :: k)) cs) (re w₁ σ (0 + c)) from hh)
    · exact hh.elim
  · exact hh.elim
/-- the round begins: the record was ready -/
theorem begin_to {l : Nat} {r : Loop} (hb : b.kind = .normal) (hro : b.roundOf = some l) (hl : w.heap[l]? = some (.loop r)) (hr : r.state = .ready) (h : To P T (G (b.atR a k) cs) (w.putObj l (.loop { r with state := .busy }))) :
    To P T (G (b.atR a (.beginRound :: k)) cs) w := by
  refine own_step rfl fun τ d => ⟨_, w.putObj l (.loop { r with state := .busy }), d, seen P b.fn ((Instr.beginRound l).events P (re w τ d) #[]), ?_, seen_quiet (mild_events (mild_beginRound l) _), h⟩
  have h1 := run_beginRound (P := P) (w := re w τ d) (l := l) (r := r) hl hr
  have hk' : (b.kind == CallKind.early) = false := by rw [hb]; rfl
  have hrun : (do Instr.beginRound l; pure Next.skip : Sem Next).run P (re w τ d) = .ok .skip ((re w τ d).putObj l (.loop { r with state := .busy })) := by simp [Sem.run_bind, h1, Result.andThen]
  have hev : (do Instr.beginRound l; pure Next.skip : Sem Next).events P (re w τ d) #[] = (Instr.beginRound l).events P (re w τ d) #[] := by simp [Sem.events_bind, h1]
  simp [G, stepG, stepG.exec, stepG.apply, Frame.atR, hro, h1, hev, hk', GStep.after, Frame.finish, Sem.runT_eq, Result.andThen]
  rfl
/-- .. and ends: yield hands back true -/
theorem endRound_to {l : Nat} {r : Loop} {c : Frame} (hb : b.kind = .normal) (hro : b.roundOf = some l) (hl : w.heap[l]? = some (.loop r)) (h : To P T (G (c.finish (.bool true)) cs) (w.putObj l (.loop { r with state := .ready, pending := none }))) :
    To P T (G (b.atR a []) (c :: cs)) w := by
  refine own_step rfl fun τ d => ⟨_, w.putObj l (.loop { r with state := .ready, pending := none }), d, seen P b.fn ((Instr.endRound l none).events P (re w τ d) #[]), ?_, seen_quiet (mild_events (mild_endRound l none) _), h⟩
  have h1 := run_endRound (P := P) (w := re w τ d) (l := l) (r := r) none hl
  simp only [Option.isNone_none, ↓reduceIte] at h1
  simp [G, stepG, stepG.exec, doReturn, Frame.atR, hro, hb, Sem.runT_eq, h1, GStep.after]
  rfl
/-- the function that was ranged over has returned -/
theorem endLoop_to {l : Nat} {r : Loop} (hl : w.heap[l]? = some (.loop r)) (hb : r.state ≠ .busy) (hp : r.pending = none) (h : To P T (G (b.at a k) cs) (w.putObj l (.loop { r with state := .exhausted }))) :
    To P T (G (b.at a (.endRangeFunc l :: k)) cs) w := by
  refine own_step rfl fun τ d => ⟨_, w.putObj l (.loop { r with state := .exhausted }), d, seen P b.fn ((Instr.endLoop l).events P (re w τ d) #[]), ?_, seen_quiet (mild_events (mild_endLoop l) _), h⟩
  have h1 : (Instr.endLoop l).run P (re w τ d) = .ok none ((re w τ d).putObj l (.loop { r with state := .exhausted })) := by
    rw [run_endLoop (P := P) (w := re w τ d) (l := l) (r := r) hl hb, hp]
  simp [G, stepG, stepG.exec, Frame.at, Sem.runT_eq, h1, GStep.after]
  rfl
/-- the mark is come to -/
theorem mark_to {r : Nat} {ds : List Deferred} {todo : List Item} (hd : a.defers = { target := .collected r, args := #[] } :: ds) (hl : w.heap[r]? = some (.deferred (some [])))
    (h : To P T (G { b.at { a with defers := ds } todo with mode := .returning } cs) (w.putObj r (.deferred none))) : To P T (G { b.at a todo with mode := .returning } cs) w := by
  refine own_step rfl fun τ d => ⟨_, w.putObj r (.deferred none), d, seen P b.fn ((Instr.takeDeferred r).events P (re w τ d) #[]), ?_, seen_quiet (mild_events (mild_takeDeferred r) _), h⟩
  have h1 := run_takeDeferred (P := P) (w := re w τ d) (b := r) (ds := []) hl
  simp [G, stepG, unwind, Frame.at, hd, Sem.runT_eq, h1, GStep.after]
  rfl
/-- yield is called -/
theorem yield_to {ops : Array Oper} {i : Nat} {rest : List Nat} {o : Oper} (ho : ops[i]? = some o) (hw : Region.wanted o (yielded ops a.tmps) = true) (hk : b.kind = .normal)
    {x : Operand} {args : Array Operand} {ats : Array TypeId} {l : Nat} {r : Loop} (hop : o.op = .call { callee := .value x, args, argTypes := ats }) (hx : a.eval x = .func (.yield l) #[] #[])
    (hl : w.heap[l]? = some (.loop r)) (hs : (args.map a.eval).size = r.params.size)
    (h : To P T (G (Frame.round l r.fn ((r.params.zip (args.map a.eval)).foldl (fun tmps (t, v) => tmps.setIfInBounds t v) r.tmps) r.assign r.body .normal) (b.at a (.inRegion ops (i :: rest) :: k) :: cs)) w) :
    To P T (G (b.at a (.inRegion ops (i :: rest) :: k)) cs) w := by
  have hk' : (b.kind == CallKind.early) = false := by rw [hk]; rfl
  have hex : execOp a.eval o = (do let d ← resolve a.eval { callee := .value x, args, argTypes := ats } o.type; invoke d.target d.args) := by
    simp [execOp, hop]
  have hres : resolve a.eval { callee := .value x, args, argTypes := ats } o.type = (pure { target := .fn (.yield l) #[], args := args.map a.eval } : Sem Deferred) := by
    simp [resolve, hx, Deferred.ofValue]
  have hex2 : execOp a.eval o = Instr.yield l (args.map a.eval) := by
    rw [hex, hres]; rfl
  refine own_step rfl fun τ d => ⟨_, w, d, listed P b.fn a o (re w τ d), ?_, ?_, h⟩
  · have hrun := run_yield (P := P) (w := re w τ d) (l := l) (r := r) (args := args.map a.eval) hl hs
    rw [stepG_oper ho hw, hex2]
    simp [stepG.apply, hrun, G, Frame.at, hk', GStep.after, listed, hex2]
  · unfold listed
    rw [hex2]
    exact seen_quiet (mild_events (mild_yield _ _) _)
/-- yield is called, by what its rounds do -/
theorem yield_next {ops : Array Oper} {i : Nat} {rest : List Nat} {o : Oper} {R : Value → World → Prop} (ho : ops[i]? = some o) (hw : Region.wanted o (yielded ops a.tmps) = true) (hk : b.kind = .normal)
    {x : Operand} {args : Array Operand} {ats : Array TypeId} {l : Nat} {r : Loop} (hop : o.op = .call { callee := .value x, args, argTypes := ats }) (hx : a.eval x = .func (.yield l) #[] #[])
    (hl : w.heap[l]? = some (.loop r)) (hs : (args.map a.eval).size = r.params.size)
    (hY : ∀ c cs', To P (Back c R cs') (G (Frame.round l r.fn ((r.params.zip (args.map a.eval)).foldl (fun tmps (t, v) => tmps.setIfInBounds t v) r.tmps) r.assign r.body .normal) (c :: cs')) w)
    (next : ∀ v w', R v w' → To P T (G (b.at (a.put o.dst v) (.inRegion ops rest :: k)) cs) w') : To P T (G (b.at a (.inRegion ops (i :: rest) :: k)) cs) w := by
  refine yield_to ho hw hk hop hx hl hs ((hY _ _).trans fun g w' ⟨v, e, σ, d, hr⟩ => ?_)
  subst e
  rw [Frame.finish_at, ho]
  exact re_to (next v _ hr)
/-- the statement: the record is laid, the function is called -/
theorem range_to {g : Operand} {ps : Array Tmp} {assign body : Code} {gf : FuncId} {lb : Array Value} {fn : Func} {R : Value → World → Prop} (hb : b.kind = .normal)
    (hg : a.eval g = .func (.func gf) #[] lb) (hf : P.funcs[gf]? = some fn) (hname : (fn.name == "runtime.NumGoroutine") = false) (hbd : fn.body.isNone = false)
    (hcall : BCalls P gf (#[.func (.yield (w.heap.size + 1)) #[] #[]] ++ lb) ((w.alloc (.deferred (some []))).alloc (.loop { state := .ready, pending := none, fn := b.fn, tmps := a.tmps, params := ps, assign, body, defers := w.heap.size })) R)
    (hnext : ∀ v w', R v w' → To P T (G (b.at { a with defers := { target := .collected w.heap.size, args := #[] } :: a.defers } (.endRangeFunc (w.heap.size + 1) :: k)) cs) w') :
    To P T (G (b.at a (.code (.rangeFunc g ps assign body) :: k)) cs) w := by
  have hk' : (b.kind == CallKind.early) = false := by rw [hb]; rfl
  have h1 : ¬ fn.name = "runtime.NumGoroutine" := by simpa using hname
  have h2 : ¬ fn.body = none := by cases hx : fn.body <;> simp_all
  let a1 : Act := { a with defers := { target := .collected w.heap.size, args := #[] } :: a.defers }
  let y : Value := .func (.yield (w.heap.size + 1)) #[] #[]
  let fr1 : Frame := b.at a1 (.inRangeFunc (w.heap.size + 1) :: k)
  let s : Sem Next := do let d ← resolve fr1.eval { callee := .value g, args := #[.const y], argTypes := #[] } 0; invoke d.target d.args
  have hg1 : fr1.eval g = .func (.func gf) #[] lb := by rw [← hg]; cases g <;> rfl
  have hs : s = callFunc gf (#[y] ++ lb) := by
    show (do let d ← resolve fr1.eval { callee := .value g, args := #[.const y], argTypes := #[] } 0; invoke d.target d.args : Sem Next) = _
    have hres : resolve fr1.eval { callee := .value g, args := #[.const y], argTypes := #[] } 0 = (pure { target := .fn (.func gf) lb, args := #[y] } : Sem Deferred) := by
      simp only [resolve, hg1]
      simp [Deferred.ofValue, show fr1.eval (.const y) = y from rfl]
    rw [hres]; rfl
  have hrun : ∀ W : World, s.run P W = .ok (.enter gf (#[y] ++ lb)) W := fun W => by
    rw [hs]; simp [callFunc, hf, h1, h2]
  have hev : ∀ W : World, s.events P W #[] = #[] := fun W => by
    rw [hs]; simp [callFunc, hf, h1, h2]
  have hfin : ∀ v : Value, (b.at a1 (.inRangeFunc (w.heap.size + 1) :: k)).finish v = b.at a1 (.endRangeFunc (w.heap.size + 1) :: k) := fun v => by simp [Frame.finish, Frame.at]
  refine own_step rfl fun τ d => ⟨G (Frame.enter P gf (#[y] ++ lb) .normal) (b.at a1 (.inRangeFunc (w.heap.size + 1) :: k) :: cs), (w.alloc (.deferred (some []))).alloc (.loop { state := .ready, pending := none, fn := b.fn, tmps := a.tmps, params := ps, assign, body, defers := w.heap.size }), d, seen P b.fn ((Instr.enterLoop b.fn a.tmps ps assign body none).events P (re w τ d) #[]), ?_, seen_quiet (mild_events (mild_enterLoop _ _ _ _ _) _), ?_⟩
  · have he := run_enterLoop_outer (P := P) (w := re w τ d) b.fn a.tmps ps assign body
    have hev1 := Frame.eval_at' b a1 (.inRangeFunc (w.heap.size + 1) :: k)
    simp only [Frame.at] at hev1
    have hsz : (re w τ d).heap.size = w.heap.size := rfl
    rw [hsz] at he
    have hr := hrun (((re w τ d).alloc (.deferred (some []))).alloc (.loop { state := .ready, pending := none, fn := b.fn, tmps := a.tmps, params := ps, assign, body, defers := w.heap.size }))
    have hv := hev (((re w τ d).alloc (.deferred (some []))).alloc (.loop { state := .ready, pending := none, fn := b.fn, tmps := a.tmps, params := ps, assign, body, defers := w.heap.size }))
    have hap : ∀ W, stepG.apply P true (b.at a1 (.inRangeFunc (w.heap.size + 1) :: k)) cs none s W = .go (G (Frame.enter P gf (#[y] ++ lb) .normal) (b.at a1 (.inRangeFunc (w.heap.size + 1) :: k) :: cs)) W #[] := fun W => by
      simp [stepG.apply, hrun W, hev W, G, Frame.at, hk', GStep.after, seen_none]
    simp only [G, stepG, stepG.exec, Frame.at, Sem.runT_eq, he]
    exact (congrArg (GStep.after _) (hap _)).trans (by simp [GStep.after]; exact ⟨rfl, rfl⟩)
  · exact (hcall (b.at a1 (.inRangeFunc (w.heap.size + 1) :: k)) cs).trans fun g' w' ⟨v, e, σ, d', hR⟩ => by
      subst e
      rw [hfin]
      exact re_to (hnext v _ hR)
/-- a tame piece ahead of what follows -/
theorem piece_to {F : Okay} (hT : Tame P F) (hb : b.kind = .normal) {c : Code} (hc : okC F c = true) {t : Array Value}
    (h : ∀ σ, c.wp P (Exit.then (fun a w => To P T (G (b.at a k) cs) w) fun _ _ _ => False) ⟨t, []⟩ (re w σ 0)) : To P T (G (b.at ⟨t, []⟩ (.code c :: k)) cs) w := by
  refine (to_of_wp hT hb hc (fun e a w hq => ?_) h k cs).trans fun g w' hA => ?_
  · cases e <;> first | exact .inl rfl | exact hq.elim
  · rcases hA with ⟨a', rfl, σ, d, hq⟩ | ⟨a', todo, rfl, σ, d, hq⟩
    · exact re_to (show To P T (G (b.at a' k) cs) (re w' σ d) from hq)
    · exact hq.elim
/-- a loop, by a measure -/
theorem loop_to {body : Code} (Inv : Nat → Act → World → Prop)
    (h : ∀ m a w, Inv m a w → To P (fun g w' => T g w' ∨ ∃ m' a' σ d, m' < m ∧ g = G (b.at a' (.inLoop body :: k)) cs ∧ Inv m' a' (re w' σ d)) (G (b.at a (.code body :: .inLoop body :: k)) cs) w)
    {m : Nat} (hI : Inv m a w) : To P T (G (b.at a (.code (.loop body) :: k)) cs) w := by
  have key : ∀ M m a w, m ≤ M → Inv m a w → To P T (G (b.at a (.code body :: .inLoop body :: k)) cs) w := by
    intro M
    induction M with
    | zero =>
      intro m a w hm hI
      refine (h m a w hI).trans fun g w' hg => ?_
      rcases hg with hg | ⟨m', a', σ, d, hlt, _⟩
      · exact .here hg
      · omega
    | succ M ih =>
      intro m a w hm hI
      refine (h m a w hI).trans fun g w' hg => ?_
      rcases hg with hg | ⟨m', a', σ, d, hlt, rfl, hI'⟩
      · exact .here hg
      · exact re_to (ctl_step rfl (fun W => stepG_inLoop) (ih m' a' _ (by omega) hI'))
  exact ctl_step rfl (fun W => stepG_loop) (key m m a w (Nat.le_refl _) hI)
end

end Go.Proofs.Ytjdijmccpihkhaa
