/- From a lone contract on every tape: the walk of tame code is well founded, whatever tape answers between its steps (Ok). -/
import Derived.Test.YtjdijmccpihkhaaLfC
import Derived.Conc.LoneCalls
set_option linter.unusedVariables false
set_option linter.unusedSimpArgs false
set_option maxHeartbeats 1000000
namespace Go.Proofs.Ytjdijmccpihkhaa
open Go.Conc

/-! ### states of tame code: frames of tame functions above a given one -/
structure Cell where
  fn : FuncId
  tmps : Array Value
  items : List Item
def Cell.frame (c : Cell) : Frame := (base c.fn).at ⟨c.tmps, []⟩ c.items
/-- what lies at the bottom: a frame of which the items are known, or whatever frame -/
abbrev Bot := Option (Array Value × List Item)
inductive St where
  | run (tops : List Cell) (bot : Bot)
  | ret (c : Cell) (tops : List Cell) (bot : Bot)
  | fin (t : Array Value) (l : List Item)
  | back (v : Value)
def botF (b f : Frame) (k : List Item) : Bot → Frame
  | some (t, l) => b.at ⟨t, []⟩ (l ++ k)
  | none => f
def St.g (b f : Frame) : St → List Item → List Frame → Goroutine
  | .run [] bot, k, cs => G (botF b f k bot) cs
  | .run (c :: r) bot, k, cs => G c.frame (r.map Cell.frame ++ botF b f k bot :: cs)
  | .ret c r bot, k, cs => G { c.frame with mode := .returning } (r.map Cell.frame ++ botF b f k bot :: cs)
  | .fin t l, k, cs => G { b.at ⟨t, []⟩ (l ++ k) with mode := .returning } cs
  | .back v, k, cs => G (f.finish v) cs
theorem St.status (b f : Frame) (st : St) (k : List Item) (cs : List Frame) : (st.g b f k cs).status = .running := by
  cases st with
  | run tops bot => cases tops <;> rfl
  | _ => rfl
def Waits (l : List Item) : Prop := ∃ ops i rest l', l = .inRegion ops (i :: rest) :: l'
structure OkCell (F : Okay) (c : Cell) : Prop where
  fn : F.fn c.fn = true
  items : c.items.all (okI F) = true
def GoodBot (F : Okay) : Bot → Prop
  | some (_, l) => l.all (okI F) = true ∧ Waits l
  | none => True
def Good (F : Okay) : St → Prop
  | .run [] (some (_, l)) => l.all (okI F) = true
  | .run [] none => False
  | .run (c :: r) bot => OkCell F c ∧ (∀ x ∈ r, OkCell F x ∧ Waits x.items) ∧ GoodBot F bot
  | .ret c r bot => OkCell F c ∧ (∀ x ∈ r, OkCell F x ∧ Waits x.items) ∧ GoodBot F bot
  | .fin _ _ => True
  | .back _ => True
def St.done : St → Prop
  | .run [] (some (_, [])) => True
  | .fin .. => True
  | .back _ => True
  | _ => False

/-- a step that is the same whatever lies beneath, and wherever the tape answers so -/
def StepTo (P : Program) (b : Frame) (st : St) (w : World) (τ : Nat → Question → Nat) (d c : Nat) (st' : St) (w₁ : World) : Prop :=
  ∃ es, (∀ x ∈ es, QuietE x) ∧ ∀ f k cs σ e, Agree τ d σ e c → stepG P true (st.g b f k cs) (re w σ e) = .go (st'.g b f k cs) (re w₁ σ (e + c)) es
/-- a frame that has put nothing off -/
def Calm (f : Frame) : Prop := f.mode = .run ∧ f.defers = []
def LostS (cs : List Frame) (s : GStep) : Prop :=
  (∃ o w' es, s = .ended o w' es) ∨ ∃ fr ch pre w' es, s = .go (G fr (pre ++ cs)) w' es ∧ fr.mode = .panicking ch ∧ fr.defers = [] ∧ ∀ f ∈ pre, Calm f

section
variable {P : Program} {F : Okay} {b : Frame}
theorem mild_results (fn : Func) (t : Array Value) : Mild P Any (results fn t) := by
  unfold results
  refine Mild.bind ?_ fun vs => trivial
  rw [Array.mapM_eq_foldlM, ← Array.foldlM_toList]
  refine mild_foldlM _ (fun x acc => ?_) _ _
  refine Mild.bind ?_ fun v => trivial
  split
  · exact trivial
  · exact Mild.bind (mild_asAddr _) fun _ => mild_loadVar _ _

/-- a frame of an ordinary call on its way out -/
theorem leave_step (fr : Frame) (hk : fr.kind = .normal) (w : World) (τ : Nat → Question → Nat) (d : Nat) (t : Array Value) (l : List Item) :
    (∃ c w₁ es v, (∀ x ∈ es, QuietE x) ∧ ∀ (f : Frame) cs σ e, Agree τ d σ e c → stepG P true (G { fr.at ⟨t, []⟩ l with mode := .returning } (f :: cs)) (re w σ e) = .go (G (f.finish v) cs) (re w₁ σ (e + c)) es) ∨
    ∃ c, ∀ (f : Frame) cs σ e, Agree τ d σ e c → ∃ o w' es, stepG P true (G { fr.at ⟨t, []⟩ l with mode := .returning } (f :: cs)) (re w σ e) = .ended o w' es := by
  cases hf : P.funcs[fr.fn]? with
  | none =>
    refine .inl ⟨0, w, #[], t.getD 0 undef, by simp, fun f cs σ e _ => ?_⟩
    simp [G, stepG, unwind, doReturn, Frame.at, hk, hf]
  | some fn =>
    obtain ⟨c, w₁, es', r, h1, h2, h3⟩ := run_mild (mild_results (P := P) fn t) w τ d #[]
    have h1' : ∀ σ e, Agree τ d σ e c → (results fn t).run P (re w σ e) = r (re w₁ σ (e + c)) ∧ (results fn t).events P (re w σ e) #[] = es' := fun σ e ha => by
      have := h1 σ e ha
      rw [Sem.runT_eq] at this
      obtain ⟨a1, a2⟩ := Prod.mk.inj this
      exact ⟨a1, by rw [a2]; simp⟩
    rcases h3 with ⟨v, _, rfl⟩ | ⟨hh, hok, rfl⟩
    · refine .inl ⟨c, w₁, seen P fr.fn es', v, fun x hx => h2 x (mem_seen hx), fun f cs σ e ha => ?_⟩
      obtain ⟨a1, a2⟩ := h1' σ e ha
      simp [G, stepG, unwind, doReturn, Frame.at, hk, hf, a1, a2, GStep.after]
    · refine .inr ⟨c, fun f cs σ e ha => ?_⟩
      obtain ⟨a1, a2⟩ := h1' σ e ha
      cases hh <;> simp only [okHalt] at hok
      all_goals simp [G, stepG, unwind, doReturn, Frame.at, hk, hf, a1, a2, GStep.after]

theorem enter_frame (hT : Tame P F) {f : FuncId} (hf : F.fn f = true) (args : Array Value) : ∃ c : Cell, Frame.enter P f args .normal = c.frame ∧ OkCell F c := by
  obtain ⟨fn, c, h1, h2, _, h4⟩ := hT.fns f hf
  refine ⟨⟨f, args ++ Array.replicate (fn.ntmps - args.size) undef, [.code c]⟩, ?_, ⟨hf, ?_⟩⟩
  · simp [Frame.enter, Cell.frame, base, Frame.at, h1, h2]
  · simp [okI, h4]

theorem finish_waits {fr : Frame} {t : Array Value} {l k : List Item} (hl : l.all (okI F) = true) (hw : Waits l) (v : Value) : ∃ t' l', l'.all (okI F) = true ∧ ∀ k, (fr.at ⟨t, []⟩ (l ++ k)).finish v = fr.at ⟨t', []⟩ (l' ++ k) := by
  obtain ⟨ops, i, rest, l', rfl⟩ := hw
  obtain ⟨t', ht'⟩ := put_nil t ((ops[i]?).bind (·.dst)) v
  refine ⟨t', .inRegion ops rest :: l', ?_, fun k => ?_⟩
  · simpa [okI] using hl
  · rw [List.cons_append, Frame.finish_at, ht']; rfl

theorem calm_cell (c : Cell) : Calm c.frame := ⟨rfl, rfl⟩
theorem calm_at (b : Frame) (t : Array Value) (l : List Item) : Calm (b.at ⟨t, []⟩ l) := ⟨rfl, rfl⟩
theorem calm_bot {b f : Frame} (hf : Calm f) (k : List Item) (bot : Bot) : Calm (botF b f k bot) := by
  cases bot with
  | none => exact hf
  | some y => exact calm_at _ _ _
theorem calm_pre (r : List Cell) {f : Frame} (hf : Calm f) : ∀ g ∈ r.map Cell.frame ++ [f], Calm g := by
  intro g hg
  rcases List.mem_append.1 hg with h | h
  · obtain ⟨c, _, rfl⟩ := List.mem_map.1 h; exact calm_cell c
  · simp at h; subst h; exact hf

theorem st_step (hT : Tame P F) (hb : b.kind = .normal) {st : St} (hg : Good F st) (hd : ¬ st.done) (w : World) (τ : Nat → Question → Nat) (d : Nat) :
    (∃ c w₁ st', Good F st' ∧ StepTo P b st w τ d c st' w₁) ∨ ∃ c, ∀ f k cs σ e, Calm f → Shut k → Agree τ d σ e c → LostS cs (stepG P true (st.g b f k cs) (re w σ e)) := by
  cases st with
  | fin t l => exact absurd trivial hd
  | back v => exact absurd trivial hd
  | run tops bot =>
    cases tops with
    | nil =>
      obtain _ | ⟨t, l⟩ := bot
      · exact hg.elim
      cases l with
      | nil => exact absurd trivial hd
      | cons x l =>
        have hg' : (x :: l).all (okI F) = true := hg
        have hx : okI F x = true ∧ l.all (okI F) = true := by simpa using hg'
        rcases frame_step (b := b) (t := t) (w := w) (τ := τ) (d := d) hT hb hx.1 hx.2 with ⟨c, w₁, es, hq, h⟩ | ⟨c, h⟩
        · rcases h with ⟨t', l', hl', h⟩ | ⟨f, args, ops, i, rest, l', hf, e, h⟩ | h
          · exact .inl ⟨c, w₁, .run [] (some (t', l')), hl', es, hq, fun f k cs σ e ha => h k cs σ e ha⟩
          · obtain ⟨cl, e1, e2⟩ := enter_frame hT hf args
            refine .inl ⟨c, w₁, .run [cl] (some (t, x :: l)), ⟨e2, by simp, hg', ⟨ops, i, rest, l', e⟩⟩, es, hq, fun f k cs σ e ha => ?_⟩
            have := h k cs σ e ha
            rw [e1] at this
            exact this
          · exact .inl ⟨c, w₁, .fin t (x :: l), trivial, es, hq, fun f k cs σ e ha => h k cs σ e ha⟩
        · refine .inr ⟨c, fun f k cs σ e _ hk ha => ?_⟩
          rcases h k cs σ e hk ha with ⟨o, w', es, h⟩ | ⟨todo, ch, w', es, h⟩
          · exact .inl ⟨o, w', es, h⟩
          · exact .inr ⟨{ b.at ⟨t, []⟩ todo with mode := .panicking ch }, ch, [], w', es, h, rfl, rfl, by simp⟩
    | cons c r =>
      obtain ⟨hc, hr, hbt⟩ := hg
      cases hit : c.items with
      | nil =>
        refine .inl ⟨0, w, .ret c r bot, ⟨hc, hr, hbt⟩, #[], by simp, fun f k cs σ e _ => ?_⟩
        have : c.frame = (base c.fn).at ⟨c.tmps, []⟩ [] := by rw [Cell.frame, hit]
        simp only [St.g, this]
        exact stepG_end
      | cons x l2 =>
        have hx : okI F x = true ∧ l2.all (okI F) = true := by have := hc.items; rw [hit] at this; simpa using this
        rcases frame_step (b := base c.fn) (t := c.tmps) (w := w) (τ := τ) (d := d) hT rfl hx.1 hx.2 with ⟨c', w₁, es, hq, h⟩ | ⟨c', h⟩
        · rcases h with ⟨t', l', hl', h⟩ | ⟨f, args, ops, i, rest, l', hf, e, h⟩ | h
          · refine .inl ⟨c', w₁, .run (⟨c.fn, t', l'⟩ :: r) bot, ⟨⟨hc.fn, hl'⟩, hr, hbt⟩, es, hq, fun f k cs σ e ha => ?_⟩
            have := h [] (r.map Cell.frame ++ botF b f k bot :: cs) σ e ha
            simp only [List.append_nil] at this
            rw [← hit] at this
            exact this
          · obtain ⟨cl, e1, e2⟩ := enter_frame hT hf args
            refine .inl ⟨c', w₁, .run (cl :: c :: r) bot, ⟨e2, ?_, hbt⟩, es, hq, fun f k cs σ e ha => ?_⟩
            · intro y hy
              rcases List.mem_cons.1 hy with rfl | hy
              · exact ⟨hc, by rw [hit]; exact ⟨ops, i, rest, l', e⟩⟩
              · exact hr y hy
            · have := h [] (r.map Cell.frame ++ botF b f k bot :: cs) σ e ha
              simp only [List.append_nil] at this
              rw [e1, ← hit] at this
              exact this
          · refine .inl ⟨c', w₁, .ret c r bot, ⟨hc, hr, hbt⟩, es, hq, fun f k cs σ e ha => ?_⟩
            have := h [] (r.map Cell.frame ++ botF b f k bot :: cs) σ e ha
            simp only [List.append_nil] at this
            rw [← hit] at this
            exact this
        · refine .inr ⟨c', fun f k cs σ e hf hk ha => ?_⟩
          have := h [] (r.map Cell.frame ++ botF b f k bot :: cs) σ e shut_nil ha
          simp only [List.append_nil] at this
          rw [← hit] at this
          rcases this with ⟨o, w', es, h⟩ | ⟨todo, ch, w', es, h⟩
          · exact .inl ⟨o, w', es, h⟩
          · refine .inr ⟨{ (base c.fn).at ⟨c.tmps, []⟩ todo with mode := .panicking ch }, ch, r.map Cell.frame ++ [botF b f k bot], w', es, ?_, rfl, rfl, calm_pre _ (calm_bot hf _ _)⟩
            rw [List.append_assoc]; exact h
  | ret c r bot =>
    obtain ⟨hc, hr, hbt⟩ := hg
    rcases leave_step (P := P) (base c.fn) rfl w τ d c.tmps c.items with ⟨c', w₁, es, v, hq, h⟩ | ⟨c', h⟩
    · cases r with
      | nil =>
        obtain _ | ⟨t, l⟩ := bot
        · exact .inl ⟨c', w₁, .back v, trivial, es, hq, fun f k cs σ e ha => h f cs σ e ha⟩
        · obtain ⟨hl, hwl⟩ := hbt
          obtain ⟨t', l', hl', hfin⟩ := finish_waits (fr := b) (t := t) (k := []) hl hwl v
          refine .inl ⟨c', w₁, .run [] (some (t', l')), hl', es, hq, fun f k cs σ e ha => ?_⟩
          have := h (b.at ⟨t, []⟩ (l ++ k)) cs σ e ha
          rw [hfin] at this
          exact this
      | cons y r =>
        obtain ⟨hy, hwy⟩ := hr y (by simp)
        obtain ⟨t', l', hl', hfin⟩ := finish_waits (fr := base y.fn) (t := y.tmps) (k := []) hy.items hwy v
        refine .inl ⟨c', w₁, .run (⟨y.fn, t', l'⟩ :: r) bot, ⟨⟨hy.fn, hl'⟩, fun x hx => hr x (by simp [hx]), hbt⟩, es, hq, fun f k cs σ e ha => ?_⟩
        have := h y.frame (r.map Cell.frame ++ botF b f k bot :: cs) σ e ha
        have e2 := hfin []
        simp only [List.append_nil] at e2
        have e3 : y.frame.finish v = Cell.frame ⟨y.fn, t', l'⟩ := e2
        rw [e3] at this
        exact this
    · refine .inr ⟨c', fun f k cs σ e _ hk ha => .inl ?_⟩
      cases r with
      | nil => exact h (botF b f k bot) cs σ e ha
      | cons y r => exact h y.frame (r.map Cell.frame ++ botF b f k bot :: cs) σ e ha
end

/-! ### the lone machine: what can't come back -/
/-- a frame at the bottom that neither a return nor a panic gets past -/
def c0 : Frame := { fn := 0, tmps := #[], todo := [.code (.refuse "")], defers := [{ target := .nil, args := #[] }], mode := .run, kind := .normal }
def k0 : List Item := [.code (.refuse "")]
/-- a frame that waits for a call's answer, and then ends the run -/
def c1 (b : Frame) : Frame := { fn := b.fn + 1, tmps := #[], todo := .extern "" #[] :: k0, defers := [], mode := .run, kind := .normal }
theorem calm_c1 (b : Frame) : Calm (c1 b) := ⟨rfl, rfl⟩
theorem c1_finish (b : Frame) (v : Value) : (c1 b).finish v = { fn := b.fn + 1, tmps := #[v], todo := k0, defers := [], mode := .run, kind := .normal } := rfl

section
variable {P : Program} {F : Okay} {b : Frame}
theorem step_solo_end {a : Goroutine} {w w' : World} {o : Outcome} {es : Array Event} (hs : a.status = .running) (h : stepG P true a w = .ended o w' es) : step P (solo a w) = .ended o w' := by
  rw [step, stepT_solo hs]
  simp [runT, solo, Array.swapAt!, Array.swapAt, h, GStep.es]
theorem run_end {n : Nat} {a : Goroutine} {w w' : World} {o : Outcome} {es : Array Event} {m : Machine} (hs : a.status = .running) (h : stepG P true a w = .ended o w' es) (hr : runN P (n + 1) (solo a w) = .next m) : False := by
  simp [runN, step_solo_end hs h] at hr

theorem sink : ∀ (pre : List Frame) (n : Nat) (fr : Frame) (ch : List PanicEntry) (w : World) (m : Machine), fr.mode = .panicking ch → fr.defers = [] → (∀ f ∈ pre, Calm f) →
    runN P n (solo (G fr (pre ++ [c0])) w) = .next m → ∃ fr' cs' w' ch', m = solo (G fr' cs') w' ∧ fr'.mode = .panicking ch' := by
  intro pre
  induction pre with
  | nil =>
    intro n fr ch w m hm hd hp hr
    cases n with
    | zero => simp [runN] at hr; exact ⟨fr, _, w, ch, hr.symm, hm⟩
    | succ n =>
      by_cases hc : fr.catches P = true
      · exact (run_end rfl (o := .unsupported (.noEntry "a panic or Goexit out of a method that fmt calls behind a cut's door") (fr.pos P)) (w' := w) (es := #[]) (by simp [G, stepG, unwind, hm, hd, hc]) hr).elim
      · have h1 : stepG P true (G fr ([] ++ [c0])) w = .go (G (c0.raise ch) []) w := by simp [G, stepG, unwind, hm, hd, hc]
        rw [runN, step_solo_go rfl h1] at hr
        cases n with
        | zero => simp [runN] at hr; exact ⟨_, _, w, ch, hr.symm, rfl⟩
        | succ n => exact (run_end rfl (o := .unsupported (.noEntry "machine/Return: a deferred call of a nil function value, made while the frame is unwinding") ({ c0.raise ch with defers := [] }.pos P)) (w' := w) (es := #[]) (by simp [G, stepG, unwind, c0, Frame.raise, callDeferred]) hr).elim
  | cons f pre ih =>
    intro n fr ch w m hm hd hp hr
    cases n with
    | zero => simp [runN] at hr; exact ⟨fr, _, w, ch, hr.symm, hm⟩
    | succ n =>
      by_cases hc : fr.catches P = true
      · exact (run_end rfl (o := .unsupported (.noEntry "a panic or Goexit out of a method that fmt calls behind a cut's door") (fr.pos P)) (w' := w) (es := #[]) (by simp [G, stepG, unwind, hm, hd, hc]) hr).elim
      · obtain ⟨f1, f2⟩ := hp f (by simp)
        have h1 : stepG P true (G fr (f :: pre ++ [c0])) w = .go (G (f.raise ch) (pre ++ [c0])) w := by simp [G, stepG, unwind, hm, hd, hc]
        rw [runN, step_solo_go rfl h1] at hr
        have h2 : f.raise ch = { f with mode := .panicking ch } := by simp [Frame.raise, f1]
        exact ih n (f.raise ch) ch w m (by rw [h2]) (by rw [h2]; exact f2) (fun g hg => hp g (by simp [hg])) hr

/-- where a contract wants the walk to arrive -/
def Target (b : Frame) (Q : Exit → Act → World → Prop) (k : List Item) (cs : List Frame) (g : Goroutine) (w : World) : Prop :=
  (∃ a, g = G (b.at a k) cs ∧ Q .normal a w) ∨ ∃ a todo, g = G { b.at a todo with mode := .returning } cs ∧ Q .ret a w

theorem target_running {Q : Exit → Act → World → Prop} {k : List Item} {cs : List Frame} {g : Goroutine} {w : World} (h : Target b Q k cs g w) : (∀ ch, g.frame.mode ≠ .panicking ch) ∧ g.callers = cs := by
  rcases h with ⟨a, rfl, _⟩ | ⟨a, todo, rfl, _⟩
  · exact ⟨fun ch h => by simp [G, Frame.at] at h, rfl⟩
  · exact ⟨fun ch h => by simp [G] at h, rfl⟩

/-- what is asked of a target: it is no panic, and lies where the walk began; among the walk's states only its ends are targets -/
structure Aims (P : Program) (b : Frame) (Q : Exit → Act → World → Prop) (B : Value → World → Prop) (T : Goroutine → World → Prop) : Prop where
  calm : ∀ g w, T g w → (∀ ch, g.frame.mode ≠ .panicking ch) ∧ g.callers = [c0]
  ends : ∀ st w, T (St.g b (c1 b) st k0 [c0]) w → (∃ t, st = .run [] (some (t, [])) ∧ Q .normal ⟨t, []⟩ w) ∨ (∃ t l, st = .fin t l ∧ Q .ret ⟨t, []⟩ w) ∨ ∃ v, st = .back v ∧ B v w
variable {Q : Exit → Act → World → Prop} {B : Value → World → Prop} {T : Goroutine → World → Prop}
theorem lost_never (hA : Aims P b Q B T) {n : Nat} {a : Goroutine} {w : World} {g : Goroutine} {w' : World} (hs : a.status = .running) (h : LostS [c0] (stepG P true a w)) (hr : runN P (n + 1) (solo a w) = .next (solo g w')) (hT : T g w') : False := by
  rcases h with ⟨o, w1, es, h⟩ | ⟨fr, ch, pre, w1, es, h, hm, hd, hp⟩
  · exact run_end hs h hr
  · rw [runN, step_solo_go hs h] at hr
    obtain ⟨fr', cs', w2, ch', e, e2⟩ := sink pre n fr ch w1 _ hm hd hp hr
    have : g = G fr' cs' := by simp [solo] at e; exact e.2
    subst this
    exact (hA.calm _ _ hT).1 ch' e2
theorem done_never (hb : b.kind = .normal) (hA : Aims P b Q B T) {n : Nat} {st : St} (hd : st.done) {w : World} {g : Goroutine} {w' : World} (hr : runN P (n + 1) (solo (st.g b (c1 b) k0 [c0]) w) = .next (solo g w')) (hT : T g w') : False := by
  cases st with
  | run tops bot =>
    cases tops with
    | cons => exact hd
    | nil =>
      obtain _ | ⟨t, l⟩ := bot
      · exact hd
      cases l with
      | cons => exact hd
      | nil => exact run_end rfl (o := .unsupported (.elab "") ((b.at ⟨t, []⟩ k0).pos P)) (w' := w) (es := #[]) (by simp [St.g, botF, G, stepG, stepG.exec, Frame.at, k0]) hr
  | ret => exact hd
  | back v => exact run_end rfl (o := .unsupported (.elab "") (((c1 b).finish v).pos P)) (w' := w) (es := #[]) (by rw [St.g, c1_finish]; simp [G, stepG, stepG.exec, k0]) hr
  | fin t l =>
    rcases leave_step (P := P) b hb w w.tape w.drawn t (l ++ k0) with ⟨c, w₁, es, v, _, h⟩ | ⟨c, h⟩
    · have h1 := h c0 [] w.tape w.drawn (Agree.refl _ _ _)
      rw [re_self] at h1
      rw [runN, step_solo_go rfl (show stepG P true (St.g b (c1 b) (.fin t l) k0 [c0]) w = _ from h1)] at hr
      have hfin : c0.finish v = c0 := rfl
      rw [hfin] at hr
      cases n with
      | zero =>
        simp [runN, solo] at hr
        obtain ⟨_, e⟩ := hr
        have := (hA.calm _ _ hT).2
        rw [← e] at this
        simp [G] at this
      | succ n => exact run_end rfl (o := .unsupported (.elab "") (c0.pos P)) (w' := re w₁ w.tape (w.drawn + c)) (es := #[]) (by simp [G, stepG, stepG.exec, c0]) hr
    · obtain ⟨o, w1, es, h1⟩ := h c0 [] w.tape w.drawn (Agree.refl _ _ _)
      rw [re_self] at h1
      exact run_end (n := n) rfl h1 hr
theorem long_callers {x y : Frame} {r : List Frame} (h : r ++ x :: [y] = [y]) : False := by
  have := congrArg List.length h
  simp at this
theorem fn_ne {n : Nat} (h : n + 1 = n ∨ n = n + 1) : False := by omega
theorem aims_target : Aims P b Q (fun _ _ => False) (Target b Q k0 [c0]) := by
  refine ⟨fun _ _ h => target_running h, fun st w hT => ?_⟩
  have hc := (target_running hT).2
  cases st with
  | run tops bot =>
    cases tops with
    | cons c r => exact (long_callers hc).elim
    | nil =>
      rcases hT with ⟨a, e, hq⟩ | ⟨a, todo, e, _⟩
      · obtain _ | ⟨t, l⟩ := bot
        · simp only [St.g, botF, G, Goroutine.mk.injEq, Frame.at, c1, Frame.mk.injEq] at e
          exact (fn_ne (n := b.fn) (by first | exact .inl e.1.1 | exact .inr e.1.1)).elim
        · simp only [St.g, botF, G, Goroutine.mk.injEq, Frame.at, Frame.mk.injEq] at e
          obtain ⟨⟨_, e1, e2, e3, _⟩, _⟩ := e
          have hl : l = [] := by
            have := congrArg List.length e2
            simp [k0] at this
            exact this
          subst hl
          refine .inl ⟨t, rfl, ?_⟩
          have : a = ⟨t, []⟩ := by cases a; simp at e1 e3; simp [e1, e3]
          rw [← this]; exact hq
      · obtain _ | ⟨t, l⟩ := bot
        · simp only [St.g, botF, G, Goroutine.mk.injEq, Frame.at, c1, Frame.mk.injEq] at e
          exact (fn_ne (n := b.fn) (by first | exact .inl e.1.1 | exact .inr e.1.1)).elim
        · simp only [St.g, botF, G, Goroutine.mk.injEq, Frame.at, Frame.mk.injEq] at e
          obtain ⟨⟨_, _, _, _, e5, _⟩, _⟩ := e
          cases e5
  | ret c r bot => exact (long_callers hc).elim
  | back v =>
    exfalso
    rcases hT with ⟨a, e, hq⟩ | ⟨a, todo, e, hq⟩
    · rw [St.g, c1_finish] at e
      simp only [G, Goroutine.mk.injEq, Frame.at, Frame.mk.injEq] at e
      exact (fn_ne (n := b.fn) (by first | exact .inl e.1.1 | exact .inr e.1.1)).elim
    · rw [St.g, c1_finish] at e
      simp only [G, Goroutine.mk.injEq, Frame.at, Frame.mk.injEq] at e
      exact (fn_ne (n := b.fn) (by first | exact .inl e.1.1 | exact .inr e.1.1)).elim
  | fin t l =>
    rcases hT with ⟨a, e, hq⟩ | ⟨a, todo, e, hq⟩
    · simp only [St.g, G, Goroutine.mk.injEq, Frame.at, Frame.mk.injEq] at e
      obtain ⟨⟨_, _, _, _, e5, _⟩, _⟩ := e
      cases e5
    · simp only [St.g, G, Goroutine.mk.injEq, Frame.at, Frame.mk.injEq] at e
      obtain ⟨⟨_, e1, _, e3, _⟩, _⟩ := e
      refine .inr (.inl ⟨t, l, rfl, ?_⟩)
      have : a = ⟨t, []⟩ := by cases a; simp at e1 e3; simp [e1, e3]
      rw [← this]; exact hq
/-- a call's own target: it has returned to the frame that waits -/
theorem aims_call (b : Frame) {R : Value → World → Prop} : Aims P b (fun _ _ _ => False) R (fun g w => ∃ v, g = G ((c1 b).finish v) [c0] ∧ R v w) := by
  refine ⟨fun g w ⟨v, e, _⟩ => ?_, fun st w ⟨v, e, hr⟩ => ?_⟩
  · subst e
    refine ⟨fun ch h => ?_, rfl⟩
    rw [c1_finish] at h; cases h
  · have hc : (St.g b (c1 b) st k0 [c0]).callers = [c0] := by rw [e]; rfl
    rw [c1_finish] at e
    cases st with
    | run tops bot =>
      cases tops with
      | cons c r => exact (long_callers hc).elim
      | nil =>
        obtain _ | ⟨t, l⟩ := bot
        · simp only [St.g, botF, G, Goroutine.mk.injEq, c1, Frame.mk.injEq] at e
          have := congrArg List.length e.1.2.2.1
          simp [k0] at this
        · simp only [St.g, botF, G, Goroutine.mk.injEq, Frame.at, Frame.mk.injEq] at e
          exact (fn_ne (n := b.fn) (by first | exact .inl e.1.1 | exact .inr e.1.1)).elim
    | ret c r bot => exact (long_callers hc).elim
    | back v' =>
      refine .inr (.inr ⟨v', rfl, ?_⟩)
      rw [St.g, c1_finish] at e
      simp only [G, Goroutine.mk.injEq, Frame.mk.injEq] at e
      have : v' = v := by have := e.1.2.1; simpa using this
      rw [this]; exact hr
    | fin t l =>
      simp only [St.g, G, Goroutine.mk.injEq, Frame.at, Frame.mk.injEq] at e
      exact (fn_ne (n := b.fn) (by first | exact .inl e.1.1 | exact .inr e.1.1)).elim
end

/-! ### tapes laid end to end -/
structure Pc where
  τ : Nat → Question → Nat
  d : Nat
  c : Nat
def Kn (p : Nat → Pc) : Nat → Nat
  | 0 => 0
  | n + 1 => Kn p n + (p n).c
theorem kn_mono (p : Nat → Pc) : ∀ {m n : Nat}, m ≤ n → Kn p m ≤ Kn p n := by
  intro m n h
  induction h with
  | refl => exact Nat.le_refl _
  | step _ ih => exact Nat.le_trans ih (Nat.le_add_right _ _)
open Classical in
noncomputable def glue (p : Nat → Pc) (j : Nat) : Question → Nat :=
  if h : ∃ n, Kn p n ≤ j ∧ j < Kn p (n + 1) then (p h.choose).τ ((p h.choose).d + (j - Kn p h.choose)) else fun _ => 0
theorem glue_agree (p : Nat → Pc) (n : Nat) : Agree (p n).τ (p n).d (glue p) (Kn p n) (p n).c := by
  intro j hj
  have hex : ∃ m, Kn p m ≤ Kn p n + j ∧ Kn p n + j < Kn p (m + 1) := ⟨n, by omega, by simp only [Kn]; omega⟩
  have hm := hex.choose_spec
  have he : hex.choose = n := by
    rcases Nat.lt_trichotomy hex.choose n with h | h | h
    · have := kn_mono p (show hex.choose + 1 ≤ n from h); omega
    · exact h
    · have : Kn p n + (p n).c ≤ Kn p hex.choose := kn_mono p (show n + 1 ≤ hex.choose from h)
      omega
  unfold glue
  rw [dif_pos hex]
  rw [he, Nat.add_sub_cancel_left]

/-! ### the walk is well founded -/
inductive Ok (P : Program) (b : Frame) (Q : Exit → Act → World → Prop) (B : Value → World → Prop) : St → World → Prop
  | norm {t : Array Value} {w : World} (σ : Nat → Question → Nat) (e : Nat) : Q .normal ⟨t, []⟩ (re w σ e) → Ok P b Q B (.run [] (some (t, []))) w
  | fin {t : Array Value} {l : List Item} {w : World} (σ : Nat → Question → Nat) (e : Nat) : Q .ret ⟨t, []⟩ (re w σ e) → Ok P b Q B (.fin t l) w
  | back {v : Value} {w : World} (σ : Nat → Question → Nat) (e : Nat) : B v (re w σ e) → Ok P b Q B (.back v) w
  | step {st : St} {w : World} (nx : (Nat → Question → Nat) → Nat → Nat × St × World) (h : ∀ τ d, StepTo P b st w τ d (nx τ d).1 (nx τ d).2.1 (nx τ d).2.2) (ok : ∀ τ d, Ok P b Q B (nx τ d).2.1 (nx τ d).2.2) : Ok P b Q B st w
theorem Ok.step' {P : Program} {b : Frame} {Q : Exit → Act → World → Prop} {B : Value → World → Prop} {st : St} {w : World} (h : ∀ τ d, ∃ c st' w₁, StepTo P b st w τ d c st' w₁ ∧ Ok P b Q B st' w₁) : Ok P b Q B st w :=
  .step (fun τ d => ⟨(h τ d).choose, (h τ d).choose_spec.choose, (h τ d).choose_spec.choose_spec.choose⟩) (fun τ d => (h τ d).choose_spec.choose_spec.choose_spec.1) (fun τ d => (h τ d).choose_spec.choose_spec.choose_spec.2)
theorem least {q : Nat → Prop} (h : ∃ n, q n) : ∃ n, q n ∧ ∀ m, m < n → ¬ q m := by
  obtain ⟨n, hn⟩ := h
  induction n using Nat.strongRecOn with
  | _ n ih =>
    by_cases h : ∃ m, m < n ∧ q m
    · obtain ⟨m, hm, hq⟩ := h; exact ih m hm hq
    · exact ⟨n, hn, fun m hm hq => h ⟨m, hm, hq⟩⟩

section
variable {P : Program} {F : Okay} {b : Frame} {Q : Exit → Act → World → Prop} {B : Value → World → Prop}
/-- where the walk stands still or is lost -/
def StopR (P : Program) (b : Frame) (x : St × World) (p : Pc) : Prop :=
  x.1.done ∨ ∀ f k cs σ e, Calm f → Shut k → Agree p.τ p.d σ e p.c → LostS cs (stepG P true (x.1.g b f k cs) (re x.2 σ e))
abbrev Bad (P : Program) (F : Okay) (b : Frame) (Q : Exit → Act → World → Prop) (B : Value → World → Prop) := { x : St × World // Good F x.1 ∧ ¬ Ok P b Q B x.1 x.2 }
theorem bad_next (hT : Tame P F) (hb : b.kind = .normal) (x : Bad P F b Q B) : ∃ (p : Pc) (y : Bad P F b Q B), StepTo P b x.1.1 x.1.2 p.τ p.d p.c y.1.1 y.1.2 ∨ StopR P b x.1 p := by
  obtain ⟨⟨st, w⟩, hg, hno⟩ := x
  by_cases hd : st.done
  · exact ⟨⟨fun _ _ => 0, 0, 0⟩, ⟨⟨st, w⟩, hg, hno⟩, .inr (.inl hd)⟩
  · have h1 : ¬ ∀ τ d, ∃ c st' w₁, StepTo P b st w τ d c st' w₁ ∧ Ok P b Q B st' w₁ := fun h => hno (.step' h)
    obtain ⟨τ, h1⟩ := Classical.not_forall.1 h1
    obtain ⟨d, h1⟩ := Classical.not_forall.1 h1
    rcases st_step hT hb hg hd w τ d with ⟨c, w₁, st', hg', hs⟩ | ⟨c, hl⟩
    · refine ⟨⟨τ, d, c⟩, ⟨⟨st', w₁⟩, hg', fun hok => h1 ⟨c, st', w₁, hs, hok⟩⟩, .inl hs⟩
    · exact ⟨⟨τ, d, c⟩, ⟨⟨st, w⟩, hg, hno⟩, .inr (.inr hl)⟩

/-- the walk is well founded, where the lone machine arrives on every tape -/
theorem ok_of_lone (hT : Tame P F) (hb : b.kind = .normal) {T : Goroutine → World → Prop} (hA : Aims P b Q B T) {st : St} {w : World} (hg : Good F st)
    (h : ∀ σ, ∃ n g w', runN P n (solo (st.g b (c1 b) k0 [c0]) (re w σ 0)) = .next (solo g w') ∧ T g w') : Ok P b Q B st w := by
  apply Classical.byContradiction
  intro hno
  let nx : Bad P F b Q B → Pc × Bad P F b Q B := fun x => (⟨(bad_next hT hb x).choose, (bad_next hT hb x).choose_spec.choose⟩ : Pc × Bad P F b Q B)
  have hnx : ∀ x, StepTo P b x.1.1 x.1.2 (nx x).1.τ (nx x).1.d (nx x).1.c (nx x).2.1.1 (nx x).2.1.2 ∨ StopR P b x.1 (nx x).1 := fun x => (bad_next hT hb x).choose_spec.choose_spec
  let xs : Nat → Bad P F b Q B := fun n => Nat.rec ⟨⟨st, w⟩, hg, hno⟩ (fun _ x => (nx x).2) n
  have hx0 : xs 0 = ⟨⟨st, w⟩, hg, hno⟩ := rfl
  have hxs : ∀ n, xs (n + 1) = (nx (xs n)).2 := fun n => rfl
  let ps : Nat → Pc := fun n => (nx (xs n)).1
  obtain ⟨M, g, w', hrun, htar⟩ := h (glue ps)
  -- as long as nothing stops
  have key : ∀ n, (∀ m, m < n → ¬ StopR P b (xs m).1 (ps m)) → runN P n (solo (st.g b (c1 b) k0 [c0]) (re w (glue ps) 0)) = .next (solo ((xs n).1.1.g b (c1 b) k0 [c0]) (re (xs n).1.2 (glue ps) (Kn ps n))) := by
    intro n
    induction n with
    | zero => intro _; rfl
    | succ n ih =>
      intro hns
      have h0 := ih fun m hm => hns m (by omega)
      obtain ⟨es, _, hst⟩ := (hnx (xs n)).resolve_right (hns n (by omega))
      have h1 := hst (c1 b) k0 [c0] (glue ps) (Kn ps n) (glue_agree ps n)
      rw [runN_add, h0]
      simp only [runN, step_solo_go (St.status _ _ _ _ _) h1]
      rfl
  have notTarget : ∀ n, ¬ T ((xs n).1.1.g b (c1 b) k0 [c0]) (re (xs n).1.2 (glue ps) (Kn ps n)) := by
    intro n ht
    apply (xs n).2.2
    rcases hA.ends _ _ ht with ⟨t, e, hq⟩ | ⟨t, l, e, hq⟩ | ⟨v, e, hq⟩
    · rw [e]; exact .norm _ _ hq
    · rw [e]; exact .fin _ _ hq
    · rw [e]; exact .back _ _ hq
  by_cases hstop : ∃ N, N < M ∧ StopR P b (xs N).1 (ps N)
  · -- the first stop
    obtain ⟨N, ⟨hN, hS⟩, hmin'⟩ := least hstop
    have hmin : ∀ m, m < N → ¬ StopR P b (xs m).1 (ps m) := fun m hm hs => hmin' m hm ⟨by omega, hs⟩
    have h0 := key N hmin
    obtain ⟨n, rfl⟩ : ∃ n, M = N + (n + 1) := ⟨M - N - 1, by omega⟩
    rw [runN_add, h0] at hrun
    rcases hS with hd | hl
    · exact done_never hb hA hd hrun htar
    · exact lost_never hA (St.status _ _ _ _ _) (hl (c1 b) k0 [c0] (glue ps) (Kn ps N) (calm_c1 b) (shut_refuse _) (glue_agree ps N)) hrun htar
  · have h0 := key M fun m hm hs => hstop ⟨m, hm, hs⟩
    rw [h0] at hrun
    have e1 : g = (xs M).1.1.g b (c1 b) k0 [c0] := by
      simp only [Stepped.next.injEq] at hrun
      simp [solo] at hrun; exact hrun.2.symm
    have e2 : w' = re (xs M).1.2 (glue ps) (Kn ps M) := by
      simp only [Stepped.next.injEq] at hrun
      simp [solo] at hrun; exact hrun.1.symm
    rw [e1, e2] at htar
    exact notTarget M htar
end

end Go.Proofs.Ytjdijmccpihkhaa
