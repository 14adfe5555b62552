/- Channels in one goroutine, piece by piece: the walk's judgement at a frame of an ordinary call (Wn), in which a region may send into a buffer with room, receive from a buffer or from a closed channel. Where nothing is sent or received the usual walk serves (Wn.of). -/
import Derived.Test.YtleadjkndciniaaDoorBase
import Derived.Conc.LoneCalls
set_option linter.unusedVariables false
set_option linter.unusedSimpArgs false
set_option maxRecDepth 100000
namespace Go.Proofs.YtleadjkndciniaaDoor
open Go.Conc Go.RowKit

section
variable {P : Program} {Q : Exit → Act → World → Prop} {a : Act} {w : World}

def Wn (P : Program) (c : Code) (Q : Exit → Act → World → Prop) (a : Act) (w : World) : Prop :=
  ∀ (b : Frame) (k : List Item) (cs : List Frame), b.kind ≠ .early → ∃ e a' w', Q e a' w' ∧ Arrives P (lone (b.at a (.code c :: k)) cs w) b k cs e a' w'
/-- the same, within a region of which the operations l are left -/
def Rn (P : Program) (ops : Array Oper) (Q : Exit → Act → World → Prop) (l : List Nat) (a : Act) (w : World) : Prop :=
  ∀ (b : Frame) (k : List Item) (cs : List Frame), b.kind ≠ .early → ∃ e a' w', Q e a' w' ∧ Arrives P (lone (b.at a (.inRegion ops l :: k)) cs w) b k cs e a' w'

theorem Wn.of {c : Code} (h : c.wp P Q a w) : Wn P c Q a w := fun b k cs _ => h b k cs

/-- an arrival behind a further item of the plan -/
theorem arrives_under {m : Machine} {b : Frame} {x : Item} {k : List Item} {cs : List Frame} {e : Exit} {a' : Act} {w' : World} (hx : x.plain = true) (he : e ≠ .normal) (h : Arrives P m b (x :: k) cs e a' w') : Arrives P m b k cs e a' w' :=
  .pass hx (fun _ _ => .inl he) h

theorem wn_seq {x y : Code} (h : Wn P x (Exit.then (fun a w => Wn P y Q a w) Q) a w) : Wn P (.seq x y) Q a w := by
  intro b k cs hb
  obtain ⟨e, a₁, w₁, hq, harr⟩ := h b (.code y :: k) cs hb
  by_cases he : e = .normal
  · subst he
    obtain ⟨e₂, a₂, w₂, hq₂, harr₂⟩ := (show Wn P y Q a₁ w₁ from hq) b k cs hb
    exact ⟨e₂, a₂, w₂, hq₂, .of_steps (.head step_seq harr) harr₂⟩
  · refine ⟨e, a₁, w₁, ?_, .of_steps (.one step_seq) (arrives_under rfl he harr)⟩
    cases e <;> first | exact absurd rfl he | exact hq
/-- first a piece for the usual walk -/
theorem wn_first {x y : Code} (h : x.wp P (Exit.then (fun a w => Wn P y Q a w) Q) a w) : Wn P (.seq x y) Q a w := wn_seq (.of h)
theorem wn_cond {c : Operand} {x y : Code} {t : Bool} (hc : a.eval c = .bool t) (h : Wn P (if t then x else y) Q a w) : Wn P (.cond c x y) Q a w := fun b k cs hb =>
  let ⟨e, a', w', q, r⟩ := h b k cs hb
  ⟨e, a', w', q, .of_steps (.one (step_cond hc)) r⟩
theorem wn_block {id : Nat} {c : Code} (h : Wn P c (Exit.inBlock id Q) a w) : Wn P (.block id c) Q a w := by
  intro b k cs hb
  obtain ⟨e, a₁, w₁, hq, harr⟩ := h b (.inBlock id :: k) cs hb
  cases e with
  | normal => exact ⟨.normal, a₁, w₁, hq, .head step_block (Steps.trans harr (.one step_inBlock))⟩
  | exit j =>
    by_cases hj : j = id
    · subst hj
      have hq' : Q .normal a₁ w₁ := by simpa [Exit.inBlock] using hq
      exact ⟨.normal, a₁, w₁, hq', .head step_block (harr k (by simp [exitTo]))⟩
    · have hq' : Q (.exit j) a₁ w₁ := by simpa [Exit.inBlock, hj] using hq
      have hne : (id == j) = false := by simpa using fun e => hj e.symm
      exact ⟨.exit j, a₁, w₁, hq', fun k' hk => .head step_block (harr k' (by simp [exitTo, hne, hk]))⟩
  | goto l => exact ⟨_, a₁, w₁, hq, fun k' hk => .head step_block (harr k' (by simp [gotoIn, hk]))⟩
  | ret => exact ⟨_, a₁, w₁, hq, .of_steps (.one step_block) harr⟩
  | panic ch => exact ⟨_, a₁, w₁, hq, .of_steps (.one step_block) harr⟩
  | outgrown => exact ⟨_, a₁, w₁, hq, .of_steps (b := b) (k := k) (cs := cs) (e := .outgrown) (.one step_block) harr⟩
/-- a loop: an invariant with the number of rounds that are left at most -/
theorem wn_loop {c : Code} (I : Nat → Act → World → Prop) (n : Nat) (h₀ : I n a w)
    (round : ∀ n a w, I n a w → Wn P c (Exit.then (fun a' w' => ∃ m, m < n ∧ I m a' w') Q) a w) : Wn P (.loop c) Q a w := by
  intro b k cs hb
  have key : ∀ n a w, I n a w → ∃ e a' w', Q e a' w' ∧ Arrives P (lone (b.at a (.code c :: .inLoop c :: k)) cs w) b k cs e a' w' := by
    intro n
    induction n using Nat.strongRecOn with
    | _ n ih =>
      intro a w hI
      obtain ⟨e, a₁, w₁, hq, harr⟩ := round n a w hI b (.inLoop c :: k) cs hb
      by_cases he : e = .normal
      · subst he
        obtain ⟨m, hm, hI₁⟩ := (show ∃ m, m < n ∧ I m a₁ w₁ from hq)
        obtain ⟨e₂, a₂, w₂, hq₂, harr₂⟩ := ih m hm a₁ w₁ hI₁
        exact ⟨e₂, a₂, w₂, hq₂, .of_steps (Steps.trans harr (.one step_inLoop)) harr₂⟩
      · refine ⟨e, a₁, w₁, ?_, arrives_under rfl he harr⟩
        cases e <;> first | exact absurd rfl he | exact hq
  obtain ⟨e, a', w', hq, harr⟩ := key n a w h₀
  exact ⟨e, a', w', hq, .of_steps (.one step_loop) harr⟩
theorem wn_ret (h : Q .ret a w) : Wn P .ret Q a w := .of (wp_ret h)

/-! ### regions -/
theorem wn_region {id : Nat} {ops : Array Oper} (h : Rn P ops Q (List.range ops.size) a w) : Wn P (.region id ops false) Q a w := fun b k cs hb =>
  let ⟨e, a', w', q, r⟩ := h b k cs hb
  ⟨e, a', w', q, .of_steps (.one step_region) r⟩
theorem rn_nil {ops : Array Oper} (h : Q .normal a w) : Rn P ops Q [] a w := fun _ _ _ _ => ⟨.normal, a, w, h, .one step_region_end⟩
theorem rn_wp {ops : Array Oper} {l : List Nat} (h : wpOps P ops Q l a w) : Rn P ops Q l a w := fun b k cs _ => wp_ops l a w h b k cs

section
variable {ops : Array Oper} {i : Nat} {rest : List Nat} {o : Oper} {b : Frame} {k : List Item} {cs : List Frame}
theorem finish_here (ho : ops[i]? = some o) (v : Value) : (b.at a (.inRegion ops (i :: rest) :: k)).finish v = b.at (a.put o.dst v) (.inRegion ops rest :: k) := by
  rw [Frame.finish_at, ho]; rfl
/-- an operation that yields a value -/
theorem rn_value {v : Value} {w' : World} (ho : ops[i]? = some o) (hw : Region.wanted o (yielded ops a.tmps) = true) (hr : (execOp a.eval o).run P w = .ok (.value v) w') (h : Rn P ops Q rest (a.put o.dst v) w') : Rn P ops Q (i :: rest) a w := by
  intro b k cs hb
  obtain ⟨e, a', w'', hq, harr⟩ := h b k cs hb
  refine ⟨e, a', w'', hq, .of_steps (.one (step_lone_go ?_)) harr⟩
  rw [stepG_op ho hw, ← finish_here ho]
  simp [stepG.apply, hr]
/-- an operation that yields nothing -/
theorem rn_still {w' : World} (ho : ops[i]? = some o) (hw : Region.wanted o (yielded ops a.tmps) = true) (hr : (execOp a.eval o).run P w = .ok .skip w') (h : Rn P ops Q rest (a.put o.dst undef) w') : Rn P ops Q (i :: rest) a w := by
  intro b k cs hb
  obtain ⟨e, a', w'', hq, harr⟩ := h b k cs hb
  refine ⟨e, a', w'', hq, .of_steps (.one (step_lone_go ?_)) harr⟩
  rw [stepG_op ho hw, ← finish_here ho]
  simp [stepG.apply, hr]
/-- what an operation must come to: a value, or nothing -/
def Comes1 (o : Oper) (a : Act) (K : Act → World → Prop) : Result Next → Prop
  | .ok (.value v) w' => K (a.put o.dst v) w'
  | .ok .skip w' => K (a.put o.dst undef) w'
  | _ => False
@[simp] theorem comes1_value (o : Oper) (a : Act) (K : Act → World → Prop) (v : Value) (w' : World) : Comes1 o a K (.ok (.value v) w') = K (a.put o.dst v) w' := rfl
@[simp] theorem comes1_skip (o : Oper) (a : Act) (K : Act → World → Prop) (w' : World) : Comes1 o a K (.ok .skip w') = K (a.put o.dst undef) w' := rfl
theorem rn_op (ho : ops[i]? = some o) (hw : Region.wanted o (yielded ops a.tmps) = true) (h : ∀ K : Act → World → Prop, (∀ a w, Rn P ops Q rest a w → K a w) → Comes1 o a K ((execOp a.eval o).run P w)) : Rn P ops Q (i :: rest) a w := by
  have h' := h _ (fun _ _ h => h)
  cases hr : (execOp a.eval o).run P w with
  | ok x w' =>
    rw [hr] at h'
    cases x with
    | value v => exact rn_value ho hw hr h'
    | skip => exact rn_still ho hw hr h'
    | _ => exact h'.elim
  | halt x w' => rw [hr] at h'; exact h'.elim

variable {w₁ : World} {c cap s r : Nat} {buf : Array Value} {v z : Value} {tm closed : Bool}
/-- a step of the machine that is a communication -/
theorem step_comm_lone {v : Value} {w' : World} (ho : ops[i]? = some o) (h : Rn P ops Q rest (a.put o.dst v) w') (hs : ∀ (b : Frame) (k : List Item) (cs : List Frame), b.kind ≠ .early → step P (solo (G (b.at a (.inRegion ops (i :: rest) :: k)) cs) w) = .next (solo (G ((b.at a (.inRegion ops (i :: rest) :: k)).finish v) cs) w')) : Rn P ops Q (i :: rest) a w := by
  intro b k cs hb
  obtain ⟨e, a', w'', hq, harr⟩ := h b k cs hb
  refine ⟨e, a', w'', hq, .of_steps (.one ?_) harr⟩
  have := hs b k cs hb
  rw [finish_here ho] at this
  exact this
/-- a send into a buffer with room -/
theorem rn_send (ho : ops[i]? = some o) (hw : Region.wanted o (yielded ops a.tmps) = true) (hr : (execOp a.eval o).run P w = .ok (.comm #[scase c v z] true .send) w₁) (hc : w₁.heap[c]? = some (.chan cap buf false s r tm)) (hroom : buf.size < cap)
    (h : Rn P ops Q rest (a.put o.dst undef) (w₁.setChan c cap (buf.push v) false (s + 1) r tm)) : Rn P ops Q (i :: rest) a w :=
  step_comm_lone ho h fun b k cs hb => step_lone_send_room (stepG_comm ho hw hb hr) hc hroom
/-- a receive from a buffer that holds something -/
theorem rn_recv (ok : Bool) (ho : ops[i]? = some o) (hw : Region.wanted o (yielded ops a.tmps) = true) (hr : (execOp a.eval o).run P w = .ok (.comm #[rcase c z] true (.recv ok)) w₁) (hc : w₁.heap[c]? = some (.chan cap buf closed s r tm)) (hsome : 0 < buf.size)
    (h : Rn P ops Q rest (a.put o.dst (got ok (buf.getD 0 undef) true)) (w₁.setChan c cap (buf.extract 1 buf.size) closed s (r + 1) tm)) : Rn P ops Q (i :: rest) a w :=
  step_comm_lone ho h fun b k cs hb => step_lone_recv_buf ok (stepG_comm ho hw hb hr) hc hsome
/-- a receive from a closed channel whose buffer is empty -/
theorem rn_recv_shut (ok : Bool) (ho : ops[i]? = some o) (hw : Region.wanted o (yielded ops a.tmps) = true) (hr : (execOp a.eval o).run P w = .ok (.comm #[rcase c z] true (.recv ok)) w₁) (hc : w₁.heap[c]? = some (.chan cap #[] true s r tm))
    (h : Rn P ops Q rest (a.put o.dst (got ok z false)) w₁) : Rn P ops Q (i :: rest) a w :=
  step_comm_lone ho h fun b k cs hb => step_lone_recv_shut ok (stepG_comm ho hw hb hr) hc
end

/-- from the body's walk the contract -/
theorem calls_of_wn {f : FuncId} {fn : Func} {c : Code} {args : Array Value} {R : Ending → World → Prop} (hf : P.funcs[f]? = some fn) (hb : fn.body = some c) (hno : ∀ w', ¬ R .outgrown w')
    (h : Wn P c (bodyPost P fn R) { tmps := args ++ Array.replicate (fn.ntmps - args.size) undef, defers := [] } w) : Calls P f args w R := by
  intro cs
  obtain ⟨b, hbk, hbf, he⟩ : ∃ b : Frame, b.kind = .normal ∧ b.fn = f ∧ Frame.enter P f args .normal = b.at { tmps := args ++ Array.replicate (fn.ntmps - args.size) undef, defers := [] } [.code c] :=
    ⟨{ (default : Frame) with fn := f, kind := .normal }, rfl, rfl, by simp [Frame.enter, Frame.at, hf, hb]⟩
  obtain ⟨e, a', w', hq, harr⟩ := h b [] cs (by rw [hbk]; simp)
  rw [← he] at harr
  cases e with
  | normal =>
    obtain ⟨hd, v, hr, hR⟩ := hq
    exact ⟨.returned v, w', _, hR, Steps.trans harr (.one step_end), hbf, rfl, hd, hbk, fn, by rw [show ({ b.at a' [] with mode := .returning } : Frame).fn = f from hbf]; exact hf, hr⟩
  | ret =>
    obtain ⟨hd, v, hr, hR⟩ := hq
    obtain ⟨todo, hs⟩ := harr
    exact ⟨.returned v, w', _, hR, hs, hbf, rfl, hd, hbk, fn, by rw [show ({ b.at a' todo with mode := .returning } : Frame).fn = f from hbf]; exact hf, hr⟩
  | panic chain =>
    obtain ⟨hd, hR⟩ := hq
    obtain ⟨todo, hs⟩ := harr
    exact ⟨.panicked chain, w', _, hR, hs, hbf, rfl, hd, fn, by rw [show ({ b.at a' todo with mode := .panicking chain } : Frame).fn = f from hbf]; exact hf⟩
  | exit id => exact hq.elim
  | goto l => exact hq.elim
  | outgrown => exact absurd hq (hno _)
end

end Go.Proofs.YtleadjkndciniaaDoor
