/- A run under another tape: worlds that part in the tape alone; what an operation without outside calls does is the same wherever the tape answers alike. -/
import Derived.Test.YtjdijmccpihkhaaBase
import Derived.Conc.Beside
set_option linter.unusedVariables false
set_option linter.unusedSimpArgs false
namespace Go.Proofs.Ytjdijmccpihkhaa
open Go.Conc

/-- the world with another tape, at another place of it -/
def re (w : World) (τ : Nat → Question → Nat) (d : Nat) : World := { w with tape := τ, drawn := d }
theorem re_re (w : World) (τ σ : Nat → Question → Nat) (d e : Nat) : re (re w τ d) σ e = re w σ e := rfl
theorem re_self (w : World) : re w w.tape w.drawn = w := rfl
theorem re_at (w : World) (τ : Nat → Question → Nat) (d e : Nat) : (re w τ d).at e = re w τ e := rfl
/-- two tapes answer alike for c questions, the one from d on, the other from e on -/
def Agree (τ : Nat → Question → Nat) (d : Nat) (σ : Nat → Question → Nat) (e c : Nat) : Prop := ∀ j, j < c → τ (d + j) = σ (e + j)
theorem Agree.refl (τ : Nat → Question → Nat) (d c : Nat) : Agree τ d τ d c := fun _ _ => rfl

def okHalt : Halt → Prop
  | .panic _ | .stuck _ | .unsupported _ => True
  | _ => False
/-- an entry of the trace that says neither 'disable' nor 'enable' -/
def QuietE (e : Event) : Prop := e.loc ≠ .mark .disable ∧ e.loc ≠ .mark .enable

/-- no call of the outside world, no 'disable', no 'enable'; what it yields is in L -/
def Mild (P : Program) {α : Type} (L : α → Prop) : Sem α → Prop
  | .pure a => L a
  | .load _ _ k => ∀ v, Mild P L (k v)
  | .store _ _ _ k => Mild P L k
  | .new _ k => ∀ r, Mild P L (k r)
  | .shape _ k => ∀ s, Mild P L (k s)
  | .freeze _ _ k => Mild P L k
  | .frozen _ k => ∀ b, Mild P L (k b)
  | .getObj _ k => ∀ o, Mild P L (k o)
  | .setObj _ _ k => Mild P L k
  | .choose _ k => ∀ n, Mild P L (k n)
  | .sys _ _ => False
  | .program k => Mild P L (k P)
  | .mark m k => (m ≠ .disable ∧ m ≠ .enable) ∧ Mild P L k
  | .halt h => okHalt h

section
variable {P : Program} {α β : Type}
theorem Mild.mono {L L' : α → Prop} (hL : ∀ a, L a → L' a) : ∀ {s : Sem α}, Mild P L s → Mild P L' s
  | .pure a, h => hL a h
  | .load _ _ k, h => fun v => Mild.mono hL (h v)
  | .store _ _ _ k, h => Mild.mono hL (s := k) h
  | .new _ k, h => fun v => Mild.mono hL (h v)
  | .shape _ k, h => fun v => Mild.mono hL (h v)
  | .freeze _ _ k, h => Mild.mono hL (s := k) h
  | .frozen _ k, h => fun v => Mild.mono hL (h v)
  | .getObj _ k, h => fun v => Mild.mono hL (h v)
  | .setObj _ _ k, h => Mild.mono hL (s := k) h
  | .choose _ k, h => fun v => Mild.mono hL (h v)
  | .program k, h => Mild.mono hL (s := k P) h
  | .mark _ k, h => ⟨h.1, Mild.mono hL (s := k) h.2⟩
  | .halt _, h => h
theorem Mild.bind' {L : α → Prop} {L' : β → Prop} {f : α → Sem β} (hf : ∀ a, L a → Mild P L' (f a)) : ∀ {s : Sem α}, Mild P L s → Mild P L' (s.bind f)
  | .pure a, h => hf a h
  | .load _ _ k, h => fun v => Mild.bind' hf (h v)
  | .store _ _ _ k, h => Mild.bind' hf (s := k) h
  | .new _ k, h => fun v => Mild.bind' hf (h v)
  | .shape _ k, h => fun v => Mild.bind' hf (h v)
  | .freeze _ _ k, h => Mild.bind' hf (s := k) h
  | .frozen _ k, h => fun v => Mild.bind' hf (h v)
  | .getObj _ k, h => fun v => Mild.bind' hf (h v)
  | .setObj _ _ k, h => Mild.bind' hf (s := k) h
  | .choose _ k, h => fun v => Mild.bind' hf (h v)
  | .program k, h => Mild.bind' hf (s := k P) h
  | .mark _ k, h => ⟨h.1, Mild.bind' hf (s := k) h.2⟩
  | .halt _, h => h
/-- whatever it yields -/
def Any (_ : α) : Prop := True
theorem Mild.bind {L' : β → Prop} {s : Sem α} {f : α → Sem β} (h : Mild P Any s) (hf : ∀ a, Mild P L' (f a)) : Mild P L' (s >>= f) := Mild.bind' (fun a _ => hf a) h
end

section
variable {P : Program}
theorem far_load (w : World) (τ : Nat → Question → Nat) (d : Nat) (a : Addr) (b : Bool) : (re w τ d).farLoad P a b = w.farLoad P a b := rfl
theorem view_store (w : World) (τ : Nat → Question → Nat) (d : Nat) (at_ : Addr) (u : TypeId) (a : Addr) (v : Value) (b : Bool) :
    (re w τ d).viewStore P at_ u a v b = (w.viewStore P at_ u a v b).map fun x => (re x.1 τ d, x.2) := by
  have hs : (re w τ d).seen P at_ u a b = w.seen P at_ u a b := rfl
  unfold World.viewStore
  rw [hs]
  generalize w.seen P at_ u a b = s
  by_cases ht : tight P P.depth u = true
  · simp only [ht]
    cases s with
    | error e => rfl
    | ok y =>
      obtain ⟨c, e, frozen, first, like, cells⟩ := y
      cases hb : v.bytes? with
      | none => rfl
      | some bytes =>
        simp only [bind, Except.bind, Bool.not_true, Bool.false_eq_true, ↓reduceIte]
        by_cases hl : some bytes.length ≠ like.bytes?.map (·.length)
        · simp only [if_pos hl]; rfl
        · simp only [if_neg hl]
          split
          · rename_i e heq
            first | rfl | (split <;> rename_i h2 <;> (first | (rw [heq] at h2; cases h2; rfl) | (rw [heq] at h2; cases h2)))
          · rename_i y heq
            first | rfl | (split <;> rename_i h2 <;> (first | (rw [heq] at h2; cases h2; rfl) | (rw [heq] at h2; cases h2)))
  · have ht' : tight P P.depth u = false := by simpa using ht
    rw [ht']; rfl
theorem far_store (w : World) (τ : Nat → Question → Nat) (d : Nat) (a : Addr) (v : Value) (b : Bool) :
    (re w τ d).farStore P a v b = (w.farStore P a v b).map fun x => (re x.1 τ d, x.2) := by
  unfold World.farStore
  rw [show (re w τ d).heap = w.heap from rfl]
  split
  · rw [view_store]
    split <;> rename_i heq <;> (cases hw : w.viewStore P _ _ a v b <;> rw [hw] at heq <;> simp [Except.map] at heq ⊢ <;> simp [heq])
  · rename_i x h
    rfl

/-- what a run of s comes to, wherever the tape answers so -/
def Comes2 (P : Program) {α : Type} (L : α → Prop) (s : Sem α) (w : World) (τ : Nat → Question → Nat) (d : Nat) (es : Array Event) : Prop :=
  ∃ (c : Nat) (w₁ : World) (es' : Array Event) (r : World → Result α), (∀ σ e, Agree τ d σ e c → s.runT P (re w σ e) es = (r (re w₁ σ (e + c)), es ++ es')) ∧ (∀ x ∈ es', QuietE x) ∧
      ((∃ a, L a ∧ r = .ok a) ∨ ∃ h, okHalt h ∧ r = .halt h)

theorem Comes2.step {α β : Type} {L : α → Prop} {s : Sem α} {k : Sem α} {w w' : World} {τ : Nat → Question → Nat} {d : Nat} {es u : Array Event} (h : Comes2 P L k w' τ d (es ++ u)) (hu : ∀ x ∈ u, QuietE x)
    (hs : ∀ σ e, s.runT P (re w σ e) es = k.runT P (re w' σ e) (es ++ u)) : Comes2 P L s w τ d es := by
  obtain ⟨c, w₁, es', r, h1, h2, h3⟩ := h
  refine ⟨c, w₁, u ++ es', r, fun σ e ha => ?_, fun x hx => ?_, h3⟩
  · rw [hs, h1 σ e ha, Array.append_assoc]
  · rcases Array.mem_append.1 hx with hx | hx
    · exact hu x hx
    · exact h2 x hx
theorem Comes2.still {α : Type} {L : α → Prop} {s : Sem α} {k : Sem α} {w w' : World} {τ : Nat → Question → Nat} {d : Nat} {es : Array Event} (h : Comes2 P L k w' τ d es)
    (hs : ∀ σ e, s.runT P (re w σ e) es = k.runT P (re w' σ e) es) : Comes2 P L s w τ d es := by
  obtain ⟨c, w₁, es', r, h1, h2, h3⟩ := h
  exact ⟨c, w₁, es', r, fun σ e ha => by rw [hs, h1 σ e ha], h2, h3⟩
theorem Comes2.halt {α : Type} {L : α → Prop} {s : Sem α} {w : World} {τ : Nat → Question → Nat} {d : Nat} {es : Array Event} {h : Halt} (hh : okHalt h) (hs : ∀ σ e, s.runT P (re w σ e) es = (.halt h (re w σ e), es)) : Comes2 P L s w τ d es :=
  ⟨0, w, #[], .halt h, fun σ e _ => by rw [hs]; simp, by simp, .inr ⟨h, hh, rfl⟩⟩

theorem far_err {w : World} {a : Addr} {b : Bool} {h : Halt} (hf : w.farLoad P a b = .error h) : okHalt h := by
  unfold World.farLoad at hf
  split at hf
  · split at hf
    · cases hf
    · cases hf; trivial
  · cases hf
    unfold World.noCell
    split <;> trivial
theorem far_errS {w : World} {a : Addr} {v : Value} {b : Bool} {h : Halt} (hf : w.farStore P a v b = .error h) : okHalt h := by
  unfold World.farStore at hf
  split at hf
  · split at hf
    · cases hf
    · cases hf; trivial
  · cases hf
    unfold World.noCell
    split <;> trivial
theorem quiet_cells (l : List Addr) (x y : Bool) : ∀ e ∈ l.toArray.map (fun a => (⟨.cell a, x, y⟩ : Event)), QuietE e := by
  intro e he
  obtain ⟨a, _, rfl⟩ := Array.mem_map.1 he
  exact ⟨by simp, by simp⟩
theorem quiet_one {l : Loc} (x y : Bool) (h : l ≠ .mark .disable ∧ l ≠ .mark .enable) : ∀ e ∈ #[(⟨l, x, y⟩ : Event)], QuietE e := by
  intro e he
  simp at he; subst he; exact h

theorem run_mild {α : Type} {L : α → Prop} : ∀ {s : Sem α}, Mild P L s → ∀ (w : World) (τ : Nat → Question → Nat) (d : Nat) (es : Array Event), Comes2 P L s w τ d es := by
  intro s
  induction s with
  | pure a => exact fun h w τ d es => ⟨0, w, #[], .ok a, fun σ e _ => by simp only [Sem.runT, Array.append_empty, Nat.add_zero], by simp, .inl ⟨a, h, rfl⟩⟩
  | load m a k ih =>
    intro h w τ d es
    cases hc : w.cell? a with
    | some v =>
      refine Comes2.step (β := Unit) (u := #[⟨.cell a, false, m == .atomic⟩]) (ih v (h v) w τ d _) (quiet_one _ _ (by simp)) fun σ e => ?_
      have hc' : (re w σ e).cell? a = some v := hc
      simp only [Sem.runT, hc', Array.push_eq_append]
    | none =>
      cases hf : w.farLoad P a (m == .atomic) with
      | ok y =>
        obtain ⟨v, touched⟩ := y
        refine Comes2.step (β := Unit) (u := touched.toArray.map (⟨.cell ·, false, m == .atomic⟩)) (ih v (h v) w τ d _) (quiet_cells _ _ _) fun σ e => ?_
        have hc' : (re w σ e).cell? a = none := hc
        have hf' : (re w σ e).farLoad P a (m == .atomic) = .ok (v, touched) := hf
        simp only [Sem.runT, hc', hf']
      | error hh =>
        refine Comes2.halt (far_err hf) fun σ e => ?_
        have hc' : (re w σ e).cell? a = none := hc
        have hf' : (re w σ e).farLoad P a (m == .atomic) = .error hh := hf
        simp only [Sem.runT, hc', hf']
  | store m a v k ih =>
    intro h w τ d es
    by_cases hagg : (∃ x, v = .agg x) ∨ ∃ x, v = .tuple x
    · rcases hagg with ⟨x, rfl⟩ | ⟨x, rfl⟩
      · exact Comes2.halt (h := .stuck "store: not the value of one cell") trivial fun σ e => by simp [Sem.runT]
      · exact Comes2.halt (h := .stuck "store: not the value of one cell") trivial fun σ e => by simp [Sem.runT]
    · have e1 : ∀ W : World, (Sem.store m a v k).runT P W es = (match W.cell? a with
          | some _ => if W.frozen? a then (.halt (.unsupported (.unsafePointer "a write to bytes that a string shares")) W, es) else k.runT P (W.setCell a v) (es.push ⟨.cell a, true, m == .atomic⟩)
          | none => match W.farStore P a v (m == .atomic) with
            | .ok (W, touched) => k.runT P W (es ++ touched.toArray.map (⟨.cell ·, true, m == .atomic⟩))
            | .error h => (.halt h W, es)) := by
        intro W
        cases v <;> first | exact absurd (.inl ⟨_, rfl⟩) hagg | exact absurd (.inr ⟨_, rfl⟩) hagg | rfl
      cases hc : w.cell? a with
      | some v0 =>
        cases hz : w.frozen? a
        · refine Comes2.step (β := Unit) (u := #[⟨.cell a, true, m == .atomic⟩]) (w' := w.setCell a v) (ih h _ τ d _) (quiet_one _ _ (by simp)) fun σ e => ?_
          have hc' : (re w σ e).cell? a = some v0 := hc
          have hz' : (re w σ e).frozen? a = false := hz
          rw [e1, hc']
          simp only [hz', Bool.false_eq_true, ↓reduceIte]
          have : (re w σ e).setCell a v = re (w.setCell a v) σ e := rfl
          rw [this, Array.push_eq_append]
        · refine Comes2.halt (h := .unsupported (.unsafePointer "a write to bytes that a string shares")) trivial fun σ e => ?_
          have hc' : (re w σ e).cell? a = some v0 := hc
          have hz' : (re w σ e).frozen? a = true := hz
          rw [e1, hc']
          simp only [hz', ↓reduceIte]
      | none =>
        cases hf : w.farStore P a v (m == .atomic) with
        | ok y =>
          obtain ⟨w', touched⟩ := y
          refine Comes2.step (β := Unit) (u := touched.toArray.map (⟨.cell ·, true, m == .atomic⟩)) (w' := w') (ih h _ τ d _) (quiet_cells _ _ _) fun σ e => ?_
          have hc' : (re w σ e).cell? a = none := hc
          have hf' := far_store (P := P) w σ e a v (m == .atomic)
          rw [hf] at hf'
          rw [e1, hc']
          simp only [hf', Except.map]
        | error hh =>
          refine Comes2.halt (far_errS hf) fun σ e => ?_
          have hc' : (re w σ e).cell? a = none := hc
          have hf' := far_store (P := P) w σ e a v (m == .atomic)
          rw [hf] at hf'
          rw [e1, hc']
          simp only [hf', Except.map]
  | new o k ih => exact fun h w τ d es => (ih w.heap.size (h _) { w with heap := w.heap.push o } τ d es).still fun σ e => rfl
  | shape r k ih => exact fun h w τ d es => (ih (w.shape? r) (h _) w τ d es).still fun σ e => rfl
  | freeze a n k ih =>
    exact fun h w τ d es => (ih h (w.freeze a n) τ d es).still fun σ e => by
      have : (re w σ e).freeze a n = re (w.freeze a n) σ e := by unfold World.freeze; split <;> rfl
      simp only [Sem.runT, this]
  | frozen a k ih => exact fun h w τ d es => (ih (w.frozen? a) (h _) w τ d es).still fun σ e => rfl
  | getObj r k ih =>
    intro h w τ d es
    cases ho : w.heap[r]? with
    | none =>
      refine Comes2.halt (h := .stuck "getObj: no such block") trivial fun σ e => ?_
      have : (re w σ e).heap[r]? = none := ho
      simp only [Sem.runT, this]
    | some o =>
      by_cases hcl : ∃ x y z, o = .cells x y z
      · obtain ⟨x, y, z, rfl⟩ := hcl
        refine Comes2.halt (h := .stuck "getObj: a row of cells") trivial fun σ e => ?_
        have : (re w σ e).heap[r]? = some (.cells x y z) := ho
        simp only [Sem.runT, this]
      · refine Comes2.step (β := Unit) (u := #[⟨.obj r, false, o.isChan⟩]) (ih o (h o) w τ d _) (quiet_one _ _ (by simp)) fun σ e => ?_
        have : (re w σ e).heap[r]? = some o := ho
        simp only [Sem.runT, this]
        cases o <;> first | exact absurd ⟨_, _, _, rfl⟩ hcl | simp only [Array.push_eq_append]
  | setObj r o k ih =>
    intro h w τ d es
    cases ho : w.heap[r]? with
    | none =>
      refine Comes2.halt (h := .stuck "setObj: no such block") trivial fun σ e => ?_
      have : (re w σ e).heap[r]? = none := ho
      simp only [Sem.runT, this]
    | some o' =>
      by_cases hcl : ∃ x y z, o' = .cells x y z
      · obtain ⟨x, y, z, rfl⟩ := hcl
        refine Comes2.halt (h := .stuck "setObj: a row of cells") trivial fun σ e => ?_
        have : (re w σ e).heap[r]? = some (.cells x y z) := ho
        simp only [Sem.runT, this]
      · refine Comes2.step (β := Unit) (u := #[⟨.obj r, true, o.isChan⟩]) (w' := { w with heap := w.heap.setIfInBounds r o }) (ih h _ τ d _) (quiet_one _ _ (by simp)) fun σ e => ?_
        have : (re w σ e).heap[r]? = some o' := ho
        simp only [Sem.runT, this]
        cases o' <;> first | exact absurd ⟨_, _, _, rfl⟩ hcl | (simp only [Array.push_eq_append]; rfl)
  | choose q k ih =>
    intro h w τ d es
    cases hq : q.forced
    · obtain ⟨c, w₁, es', r, h1, h2, h3⟩ := ih (q.cut (τ d q)) (h _) w τ (d + 1) es
      refine ⟨c + 1, w₁, es', r, fun σ e ha => ?_, h2, h3⟩
      have e0 : τ d = σ e := ha 0 (by omega)
      simp only [Sem.runT, hq, Bool.false_eq_true, ↓reduceIte]
      have e2 : (re w σ e).tape (re w σ e).drawn q = τ d q := by rw [e0]; rfl
      rw [e2]
      have := h1 σ (e + 1) (fun j hj => by
        have := ha (j + 1) (by omega)
        rw [show d + 1 + j = d + (j + 1) by omega, show e + 1 + j = e + (j + 1) by omega]; exact this)
      rw [show e + (c + 1) = e + 1 + c by omega]
      exact this
    · exact (ih 0 (h 0) w τ d es).still fun σ e => by simp only [Sem.runT, hq, ↓reduceIte]
  | sys c k ih => exact fun h => h.elim
  | program k ih => exact fun h w τ d es => (ih P h w τ d es).still fun σ e => rfl
  | mark m k ih =>
    intro h w τ d es
    refine Comes2.step (β := Unit) (u := #[⟨.mark m, false, true⟩]) (ih h.2 w τ d _) (quiet_one _ _ ⟨fun e => h.1.1 (by cases e; rfl), fun e => h.1.2 (by cases e; rfl)⟩) fun σ e => by simp only [Sem.runT, Array.push_eq_append]
  | halt hh => exact fun h w τ d es => Comes2.halt (h := hh) h fun σ e => rfl
end

end Go.Proofs.Ytjdijmccpihkhaa
