/- Steps of a frame whose code is tame (plain operations, calls of tame functions by name): each is the same whatever lies beneath and wherever the tape answers alike; or the goroutine is lost. -/
import Derived.Test.YtjdijmccpihkhaaLfB3
import Derived.Conc.CompanyDraw
import Derived.Conc.Own4
import Derived.Conc.Own5
set_option linter.unusedVariables false
set_option linter.unusedSimpArgs false
set_option maxHeartbeats 1000000
namespace Go.Proofs.Ytjdijmccpihkhaa
open Go.Conc

/-! ### tame code -/
def okBi : Builtin → Bool
  | .append | .len | .cap | .copy | .min | .max => true
  | _ => false
/-- which functions are tame, and which types are integers -/
structure Okay where
  fn : FuncId → Bool
  int : TypeId → Bool
def okOp (F : Okay) : Op → Bool
  | .move _ | .assign _ | .pick .. | .alloc .. | .box .. | .buildSlice .. | .load .. | .store .. | .binOp .. | .unOp .. | .makeChan .. | .makeFunc .. | .nilCheck _ | .build .. => true
  | .convert src dst _ => F.int src && F.int dst
  | .makeSlice .. | .slice .. | .fieldAddr .. | .field .. | .indexAddr .. | .index .. | .extract .. => true
  | .call { callee := .value (.func f), .. } => F.fn f
  | .call { callee := .builtin b, .. } => okBi b
  | _ => false
def okC (F : Okay) : Code → Bool
  | .region _ ops _ => ops.all fun o => okOp F o.op
  | .seq a b | .cond _ a b => okC F a && okC F b
  | .block _ c | .loop c | .scope c => okC F c
  | .rangeFunc .. => false
  | _ => true
def okI (F : Okay) : Item → Bool
  | .code c | .inLoop c | .inScope c => okC F c
  | .inBlock _ => true
  | .inRegion ops _ => ops.all fun o => okOp F o.op
  | _ => false
/-- the functions of F are tame, and no variable waits to be laid -/
structure Tame (P : Program) (F : Okay) : Prop where
  fns : ∀ f, F.fn f = true → ∃ fn c, P.funcs[f]? = some fn ∧ fn.body = some c ∧ (fn.name == "runtime.NumGoroutine") = false ∧ okC F c = true
  ints : ∀ t, F.int t = true → ∃ k, P.underlying t = some (.int k)
  early : ∀ fr cs dy g w, ∃ o w', early P fr cs dy g w = .ended o w'

/-- what an operation of tame code yields -/
def Leaf (F : Okay) (n : Next) : Prop := (∃ v, n = .value v) ∨ n = .skip ∨ ∃ f args, n = .enter f args ∧ F.fn f = true
section
variable {P : Program} {F : Okay}
theorem leaf_value (v : Value) : Leaf F (.value v) := .inl ⟨v, rfl⟩
theorem mild_v {s : Sem Value} (h : Mild P Any s) : Mild P (Leaf F) (do pure (.value (← s))) := Mild.bind h fun v => leaf_value v
theorem mild_u {s : Sem Unit} (h : Mild P Any s) : Mild P (Leaf F) (do s; pure .skip) := Mild.bind h fun v => .inr (.inl rfl)
theorem mild_builtin {b : Builtin} (hb : okBi b = true) (ts : Array TypeId) (t : TypeId) (cs : Array Bool) (args : Array Value) : Mild P (Leaf F) (builtin b ts t cs args) := by
  cases b <;> simp [okBi] at hb
  case append => exact mild_v (mild_append _ _ _)
  case cap => exact mild_v (mild_cap _ _ _)
  case copy => exact mild_v (mild_copy _ _ _)
  case len => exact mild_v (mild_len _ _ _)
  case max => exact mild_v (mild_max _ _ _)
  case min => exact mild_v (mild_min _ _ _)
theorem exec_mild (hT : Tame P F) (a : Act) (o : Oper) (h : okOp F o.op = true) : Mild P (Leaf F) (execOp a.eval o) := by
  obtain ⟨dst, op, type, pos, after, guard⟩ := o
  cases op <;> simp only [okOp, Bool.false_eq_true] at h
  case move => exact leaf_value _
  case assign => exact leaf_value _
  case pick => exact Mild.bind (mild_asBool _) fun b => leaf_value _
  case alloc => exact mild_v (mild_alloc _ _ _)
  case box => exact mild_v (mild_box _ _)
  case buildSlice => exact mild_v (mild_buildSlice _ _ _)
  case load => exact mild_v (mild_loadAt _ _)
  case store => exact mild_u (mild_storeAt _ _ _)
  case binOp => exact mild_v (Mild.bind (mild_eqGuard _ _ _ _ _ _) fun _ => mild_binOp _ _ _ _)
  case unOp => exact mild_v (mild_unary _ _)
  case makeChan => exact mild_v (mild_makeChan _ _)
  case makeFunc => exact mild_v (mild_makeFunc _ _ _)
  case build => exact mild_v (mild_build _ _)
  case convert => rw [Bool.and_eq_true] at h; exact mild_v (mild_convertInts (hT.ints _ h.1) (hT.ints _ h.2) _)
  case nilCheck x =>
    show Mild P (Leaf F) (match a.eval x with | .pointer none | .nilIface | .nilFunc => _ | .func (.method name) first captured => _ | x => _)
    split
    · exact Mild.mono (fun _ h => h.elim) (never_panic _)
    · exact Mild.mono (fun _ h => h.elim) (never_panic _)
    · exact Mild.mono (fun _ h => h.elim) (never_panic _)
    · split
      · exact Mild.mono (fun _ h => h.elim) (never_panic _)
      · refine Mild.bind mild_program fun p => Mild.bind (mild_nilAhead _ _ _ _) fun r => ?_
        split
        · exact trivial
        · exact leaf_value _
      · exact leaf_value _
    · exact leaf_value _
  case makeSlice => exact mild_v (mild_makeSlice _ _ _)
  case slice => exact mild_v (mild_sliceAt _ _ _ _ _)
  case fieldAddr => exact mild_v (mild_fieldAt _ _ _)
  case field => exact mild_v (mild_field _ _ _)
  case indexAddr => exact mild_v (mild_indexAt _ _ _)
  case index => exact mild_v (mild_index _ _ _)
  case extract => exact mild_v (mild_extract _ _)
  case call c =>
    obtain ⟨callee, args, ats⟩ := c
    cases callee with
    | invoke r n => simp [okOp] at h
    | builtin b => exact mild_builtin (by simpa [okOp] using h) _ _ _ _
    | value f =>
      cases f with
      | func f =>
        have hf : F.fn f = true := by simpa [okOp] using h
        obtain ⟨fn, c, h1, h2, h3, _⟩ := hT.fns f hf
        show Mild P (Leaf F) (callFunc f _)
        unfold callFunc
        show Mild P (Leaf F) (match P.funcs[f]? with | none => _ | some fn => _)
        rw [h1]
        simp only [h3, h2, Option.isNone_some, Bool.false_eq_true, ↓reduceIte]
        exact .inr (.inr ⟨_, _, rfl, hf⟩)
      | _ => simp [okOp] at h
end

/-! ### what is lost -/
/-- neither an exit nor a goto leads into k -/
def Shut (k : List Item) : Prop := (∀ id, exitTo id k = none) ∧ ∀ l, gotoIn l k = none
theorem shut_nil : Shut [] := ⟨fun _ => rfl, fun _ => rfl⟩
theorem shut_refuse (s : String) : Shut [.code (.refuse s)] := ⟨fun _ => rfl, fun _ => rfl⟩
theorem exitTo_app (id : Nat) : ∀ (l k : List Item), exitTo id (l ++ k) = match exitTo id l with | some l' => some (l' ++ k) | none => exitTo id k
  | [], k => rfl
  | x :: l, k => by
    cases x <;> simp only [exitTo, List.cons_append]
    case inBlock id' =>
      by_cases h : (id' == id) = true
      · simp [h]
      · simp only [h, Bool.false_eq_true, ↓reduceIte]; exact exitTo_app id l k
    all_goals exact exitTo_app id l k
theorem gotoIn_app (g : Nat) : ∀ (l k : List Item), gotoIn g (l ++ k) = match gotoIn g l with | some l' => some (l' ++ k) | none => gotoIn g k
  | [], k => rfl
  | x :: l, k => by
    cases x <;> simp only [gotoIn, List.cons_append]
    case inScope body =>
      cases h : findLabel body g
      · simp only; exact gotoIn_app g l k
      · rfl
    all_goals exact gotoIn_app g l k
theorem okI_exit {F : Okay} {id : Nat} : ∀ {l l' : List Item}, l.all (okI F) = true → exitTo id l = some l' → l'.all (okI F) = true
  | [], _, _, h => by simp [exitTo] at h
  | x :: l, l', ha, h => by
    simp only [List.all_cons, Bool.and_eq_true] at ha
    cases x <;> simp only [exitTo] at h
    case inBlock id' =>
      split at h
      · cases h; exact ha.2
      · exact okI_exit ha.2 h
    all_goals exact okI_exit ha.2 h
theorem okC_label {F : Okay} {g : Nat} : ∀ {c c' : Code}, okC F c = true → findLabel c g = some c' → okC F c' = true
  | .seq a b, c', ha, h => by
    simp only [okC, Bool.and_eq_true] at ha
    simp only [findLabel] at h
    cases e : findLabel a g with
    | none => rw [e] at h; exact okC_label ha.2 h
    | some r =>
      rw [e] at h; cases h
      simp only [okC, Bool.and_eq_true]
      exact ⟨okC_label ha.1 e, ha.2⟩
  | .label l, c', ha, h => by
    simp only [findLabel] at h
    split at h
    · cases h; rfl
    · cases h
  | .skip, _, _, h | .region .., _, _, h | .cond .., _, _, h | .block .., _, _, h | .loop .., _, _, h | .rangeFunc .., _, _, h | .exit .., _, _, h | .scope .., _, _, h | .goto .., _, _, h | .ret, _, _, h | .refuse .., _, _, h => by simp [findLabel] at h
theorem okI_goto {F : Okay} {g : Nat} : ∀ {l l' : List Item}, l.all (okI F) = true → gotoIn g l = some l' → l'.all (okI F) = true
  | [], _, _, h => by simp [gotoIn] at h
  | x :: l, l', ha, h => by
    have ha0 := ha
    simp only [List.all_cons, Bool.and_eq_true] at ha
    cases x <;> simp only [gotoIn] at h
    case inScope body =>
      cases e : findLabel body g with
      | none => rw [e] at h; exact okI_goto ha.2 h
      | some r =>
        rw [e] at h; cases h
        simp only [List.all_cons, Bool.and_eq_true]
        exact ⟨okC_label (F := F) (c := body) (by simpa [okI] using ha.1) e, ha⟩
    all_goals exact okI_goto ha.2 h

/-- the run ends here, or the frame b is on its way out with a panic -/
def Lost (b : Frame) (t : Array Value) (cs : List Frame) (s : GStep) : Prop :=
  (∃ o w' es, s = .ended o w' es) ∨ ∃ todo ch w' es, s = .go (G { b.at ⟨t, []⟩ todo with mode := .panicking ch } cs) w' es

/-- one step of the frame b over the items l: it stays · it enters a tame function · it returns -/
def Stays (P : Program) (F : Okay) (b : Frame) (t : Array Value) (l : List Item) (w : World) (τ : Nat → Question → Nat) (d : Nat) : Prop :=
  ∃ (c : Nat) (w₁ : World) (es : Array Event), (∀ x ∈ es, QuietE x) ∧
    ((∃ t' l', l'.all (okI F) = true ∧ ∀ k cs σ e, Agree τ d σ e c → stepG P true (G (b.at ⟨t, []⟩ (l ++ k)) cs) (re w σ e) = .go (G (b.at ⟨t', []⟩ (l' ++ k)) cs) (re w₁ σ (e + c)) es) ∨
     (∃ f args ops i rest l', F.fn f = true ∧ l = .inRegion ops (i :: rest) :: l' ∧ ∀ k cs σ e, Agree τ d σ e c → stepG P true (G (b.at ⟨t, []⟩ (l ++ k)) cs) (re w σ e) = .go (G (Frame.enter P f args .normal) (b.at ⟨t, []⟩ (l ++ k) :: cs)) (re w₁ σ (e + c)) es) ∨
     (∀ k cs σ e, Agree τ d σ e c → stepG P true (G (b.at ⟨t, []⟩ (l ++ k)) cs) (re w σ e) = .go (G { b.at ⟨t, []⟩ (l ++ k) with mode := .returning } cs) (re w₁ σ (e + c)) es))

section
variable {P : Program} {F : Okay} {b : Frame} {t : Array Value} {w : World} {τ : Nat → Question → Nat} {d : Nat}
/-- a step of control alone -/
theorem Stays.ctl {l l' : List Item} (hl : l'.all (okI F) = true) (h : ∀ k cs W, stepG P true (G (b.at ⟨t, []⟩ (l ++ k)) cs) W = .go (G (b.at ⟨t, []⟩ (l' ++ k)) cs) W) : Stays P F b t l w τ d :=
  ⟨0, w, #[], by simp, .inl ⟨t, l', hl, fun k cs σ e _ => h k cs _⟩⟩

theorem put_nil (a : Array Value) (dst : Option Tmp) (v : Value) : ∃ t', (Act.put ⟨a, []⟩ dst v) = ⟨t', []⟩ := by
  cases dst
  · exact ⟨a, rfl⟩
  · exact ⟨_, rfl⟩

theorem oper_step (hT : Tame P F) (hb : b.kind = .normal) {ops : Array Oper} {i : Nat} {rest : List Nat} {l : List Item} (hops : (ops.all fun o => okOp F o.op) = true) (hl : l.all (okI F) = true) :
    Stays P F b t (.inRegion ops (i :: rest) :: l) w τ d ∨ ∃ c, ∀ k cs σ e, Agree τ d σ e c → Lost b t cs (stepG P true (G (b.at ⟨t, []⟩ (.inRegion ops (i :: rest) :: l ++ k)) cs) (re w σ e)) := by
  have hreg : okI F (.inRegion ops rest) = true := hops
  cases ho : ops[i]? with
  | none =>
    refine .inl (Stays.ctl (l' := .inRegion ops rest :: l) (by simp [hreg, hl]) fun k cs W => ?_)
    simp [G, stepG, stepG.exec, Frame.at, ho, Frame.finish]
  | some o =>
    have hoo : okOp F o.op = true := by
      have hi := (Array.getElem?_eq_some_iff.1 ho)
      obtain ⟨hlt, rfl⟩ := hi
      exact Array.all_eq_true.1 hops i hlt
    by_cases hw : Region.wanted o (yielded ops t) = true
    · obtain ⟨c, w₁, es', r, h1, h2, h3⟩ := run_mild (exec_mild hT ⟨t, []⟩ o hoo) w τ d #[]
      have hk : (b.kind == CallKind.early) = false := by rw [hb]; rfl
      have hq : ∀ x ∈ seen P b.fn es', QuietE x := fun x hx => h2 x (mem_seen hx)
      have h1' : ∀ σ e, Agree τ d σ e c → (execOp (Act.eval ⟨t, []⟩) o).run P (re w σ e) = r (re w₁ σ (e + c)) ∧ (execOp (Act.eval ⟨t, []⟩) o).events P (re w σ e) #[] = es' := fun σ e ha => by
        have := h1 σ e ha
        rw [Sem.runT_eq] at this
        obtain ⟨a1, a2⟩ := Prod.mk.inj this
        exact ⟨a1, by rw [a2]; simp⟩
      rcases h3 with ⟨n, hn, rfl⟩ | ⟨hh, hok, rfl⟩
      · refine .inl ⟨c, w₁, seen P b.fn es', hq, ?_⟩
        rcases hn with ⟨v, rfl⟩ | rfl | ⟨f, args, rfl, hf⟩
        · obtain ⟨t', ht'⟩ := put_nil t o.dst v
          refine .inl ⟨t', .inRegion ops rest :: l, by simp [hreg, hl], fun k cs σ e ha => ?_⟩
          obtain ⟨a1, a2⟩ := h1' σ e ha
          rw [List.cons_append, List.cons_append, stepG_value ho hw (by rw [hb]; simp) a1, ht', listed, a2]
        · obtain ⟨t', ht'⟩ := put_nil t o.dst undef
          refine .inl ⟨t', .inRegion ops rest :: l, by simp [hreg, hl], fun k cs σ e ha => ?_⟩
          obtain ⟨a1, a2⟩ := h1' σ e ha
          have hfin : (b.at ⟨t, []⟩ (.inRegion ops (i :: rest) :: (l ++ k))).finish undef = b.at ⟨t', []⟩ (.inRegion ops rest :: (l ++ k)) := by rw [Frame.finish_at, ho, ← ht']; rfl
          rw [List.cons_append, List.cons_append, stepG_oper ho hw, ← hfin]
          simp [stepG.apply, a1, a2, G, Frame.at, hk, GStep.after]
        · refine .inr (.inl ⟨f, args, ops, i, rest, l, hf, rfl, fun k cs σ e ha => ?_⟩)
          obtain ⟨a1, a2⟩ := h1' σ e ha
          rw [List.cons_append, stepG_enter ho hw (by rw [hb]; simp) a1, listed, a2]
      · refine .inr ⟨c, fun k cs σ e ha => ?_⟩
        obtain ⟨a1, a2⟩ := h1' σ e ha
        rw [List.cons_append, stepG_oper ho hw]
        cases hh <;> simp only [okHalt] at hok
        case panic v =>
          refine .inr ⟨.inRegion ops (i :: rest) :: (l ++ k), [{ v, recovered := false }], re w₁ σ (e + c), seen P b.fn es', ?_⟩
          simp [stepG.apply, a1, a2, G, Frame.at, hk, GStep.after, Frame.raise]
        case stuck s =>
          refine .inl ⟨.stuck s ((b.at ⟨t, []⟩ (.inRegion ops (i :: rest) :: (l ++ k))).pos P), re w₁ σ (e + c), seen P b.fn es', ?_⟩
          simp [stepG.apply, a1, a2, G, Frame.at, hk, GStep.after]
        case unsupported u =>
          by_cases hu : ∃ g, u = .initOrder g
          · obtain ⟨g, rfl⟩ := hu
            obtain ⟨o', w', he⟩ := hT.early (b.at ⟨t, []⟩ (.inRegion ops (i :: rest) :: (l ++ k))) cs none g (re w₁ σ (e + c))
            refine .inl ⟨o', w', #[], ?_⟩
            simp only [Frame.at] at he
            simp [stepG.apply, a1, a2, G, Frame.at, hk, GStep.after, he, seen]
          · refine .inl ⟨.unsupported u ((b.at ⟨t, []⟩ (.inRegion ops (i :: rest) :: (l ++ k))).pos P), re w₁ σ (e + c), seen P b.fn es', ?_⟩
            cases u <;> first | exact absurd ⟨_, rfl⟩ hu | simp [stepG.apply, a1, a2, G, Frame.at, hk, GStep.after]
    · have hw' : Region.wanted o (yielded ops t) = false := by simpa using hw
      obtain ⟨t', ht'⟩ := put_nil t o.dst undef
      refine .inl ⟨0, w, #[], by simp, .inl ⟨t', .inRegion ops rest :: l, by simp [hreg, hl], fun k cs σ e _ => ?_⟩⟩
      rw [List.cons_append, List.cons_append, stepG_unwanted ho hw', ht']; rfl

/-- one step of a frame over tame items -/
theorem frame_step (hT : Tame P F) (hb : b.kind = .normal) {x : Item} {l : List Item} (hx : okI F x = true) (hl : l.all (okI F) = true) :
    Stays P F b t (x :: l) w τ d ∨ ∃ c, ∀ k cs σ e, Shut k → Agree τ d σ e c → Lost b t cs (stepG P true (G (b.at ⟨t, []⟩ (x :: l ++ k)) cs) (re w σ e)) := by
  have ended : ∀ {k : List Item} {cs : List Frame} {o : Outcome} {W w' : World} {es : Array Event}, stepG P true (G (b.at ⟨t, []⟩ (x :: l ++ k)) cs) W = .ended o w' es → Lost b t cs (stepG P true (G (b.at ⟨t, []⟩ (x :: l ++ k)) cs) W) := fun h => .inl ⟨_, _, _, h⟩
  cases x with
  | inBlock id => exact .inl (Stays.ctl (l' := l) hl fun k cs W => stepG_inBlock)
  | inLoop c => exact .inl (Stays.ctl (l' := .code c :: .inLoop c :: l) (by simpa [okI, hl] using hx) fun k cs W => stepG_inLoop)
  | inScope c => exact .inl (Stays.ctl (l' := l) hl fun k cs W => by simp [G, stepG, stepG.exec, Frame.at])
  | inRegion ops todo =>
    cases todo with
    | nil => exact .inl (Stays.ctl (l' := l) hl fun k cs W => stepG_region_end)
    | cons i rest => exact (oper_step hT hb hx hl).imp id fun ⟨c, h⟩ => ⟨c, fun k cs σ e _ ha => h k cs σ e ha⟩
  | code c =>
    cases c with
    | skip => exact .inl (Stays.ctl (l' := l) hl fun k cs W => stepG_skip)
    | label n => exact .inl (Stays.ctl (l' := l) hl fun k cs W => stepG_label)
    | region id ops draw =>
      have hreg : okI F (.inRegion ops (List.range ops.size)) = true := hx
      cases draw with
      | false => exact .inl (Stays.ctl (l' := .inRegion ops (List.range ops.size) :: l) (by simp [hreg, hl]) fun k cs W => stepG_region)
      | true =>
        refine .inl ⟨1, w, #[], by simp, .inl ⟨t, .inRegion ops (Region.schedule (P.follows .mixedOrders) ops (τ d (.order b.fn id))) :: l, by rw [List.all_cons, hl, Bool.and_true]; exact hx, fun k cs σ e ha => ?_⟩⟩
        rw [List.cons_append, List.cons_append, stepG_region_draw]
        have : (re w σ e).tape (re w σ e).drawn = τ d := (ha 0 (by omega)).symm
        rw [this]; rfl
    | seq p q => exact .inl (Stays.ctl (l' := .code p :: .code q :: l) (by simpa [okI, okC, hl] using hx) fun k cs W => stepG_seq)
    | cond c p q =>
      simp only [okI, okC, Bool.and_eq_true] at hx
      by_cases hc : ∃ z, (Act.eval ⟨t, []⟩ c) = .bool z
      · obtain ⟨z, hz⟩ := hc
        refine .inl (Stays.ctl (l' := .code (if z then p else q) :: l) ?_ fun k cs W => stepG_cond hz)
        cases z <;> simp [okI, hx.1, hx.2, hl]
      · refine .inr ⟨0, fun k cs σ e hk _ => ended (o := .stuck "cond: bool expected" ((b.at ⟨t, []⟩ (.code (.cond c p q) :: (l ++ k))).pos P)) (w' := re w σ e) (es := #[]) ?_⟩
        have h' : (b.at ⟨t, []⟩ (.code (.cond c p q) :: (l ++ k))).eval c = Act.eval ⟨t, []⟩ c := by rw [Frame.eval_at]
        simp only [Frame.at] at h'
        cases hv : Act.eval ⟨t, []⟩ c with
        | bool z => exact absurd ⟨z, hv⟩ hc
        | _ => rw [hv] at h'; simp [G, stepG, stepG.exec, Frame.at, h']
    | block id p => exact .inl (Stays.ctl (l' := .code p :: .inBlock id :: l) (by simpa [okI, okC, hl] using hx) fun k cs W => stepG_block)
    | loop p => exact .inl (Stays.ctl (l' := .code p :: .inLoop p :: l) (by simpa [okI, okC, hl] using hx) fun k cs W => stepG_loop)
    | scope p => exact .inl (Stays.ctl (l' := .code p :: .inScope p :: l) (by simpa [okI, okC, hl] using hx) fun k cs W => by simp [G, stepG, stepG.exec, Frame.at])
    | rangeFunc => simp [okI, okC] at hx
    | exit id =>
      cases he : exitTo id l with
      | some l' => exact .inl (Stays.ctl (l' := l') (okI_exit hl he) fun k cs W => stepG_exit (show exitTo id (l ++ k) = some (l' ++ k) by rw [exitTo_app, he]))
      | none =>
        refine .inr ⟨0, fun k cs σ e hk _ => ?_⟩
        have e0 : exitTo id (l ++ k) = none := by rw [exitTo_app, he]; exact hk.1 id
        exact ended (o := .stuck "exit, goto: no such block or label" ((b.at ⟨t, []⟩ (.code (.exit id) :: (l ++ k))).pos P)) (w' := re w σ e) (es := #[]) (by simp [G, stepG, stepG.exec, Frame.at, e0])
    | goto g =>
      cases he : gotoIn g l with
      | some l' => exact .inl (Stays.ctl (l' := l') (okI_goto hl he) fun k cs W => by
          have e0 : gotoIn g (l ++ k) = some (l' ++ k) := by rw [gotoIn_app, he]
          simp [G, stepG, stepG.exec, Frame.at, e0])
      | none =>
        refine .inr ⟨0, fun k cs σ e hk _ => ?_⟩
        have e0 : gotoIn g (l ++ k) = none := by rw [gotoIn_app, he]; exact hk.2 g
        exact ended (o := .stuck "exit, goto: no such block or label" ((b.at ⟨t, []⟩ (.code (.goto g) :: (l ++ k))).pos P)) (w' := re w σ e) (es := #[]) (by simp [G, stepG, stepG.exec, Frame.at, e0])
    | ret => exact .inl ⟨0, w, #[], by simp, .inr (.inr fun k cs σ e _ => by simp [G, stepG, stepG.exec, Frame.at])⟩
    | refuse why => exact .inr ⟨0, fun k cs σ e hk _ => ended (o := .unsupported (.elab why) ((b.at ⟨t, []⟩ (.code (.refuse why) :: (l ++ k))).pos P)) (w' := re w σ e) (es := #[]) (by simp [G, stepG, stepG.exec, Frame.at])⟩
  | inRangeFunc => simp [okI] at hx
  | endRangeFunc => simp [okI] at hx
  | beginRound => simp [okI] at hx
  | call => simp [okI] at hx
  | extern => simp [okI] at hx
end

end Go.Proofs.Ytjdijmccpihkhaa
