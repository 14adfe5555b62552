/- What is left as it was, whatever the tape; the walk by statements beside leavers; a law's run, whole. -/
import Derived.Test.YtjdijmccpihkhaaRow
import Derived.Test.YtjdijmccpihkhaaPhC
import Derived.Test.YtjdijmccpihkhaaBs
import Derived.Maps.AppendAt
set_option linter.unusedVariables false
set_option linter.unusedSimpArgs false
set_option maxHeartbeats 1000000
namespace Go.Proofs.Ytjdijmccpihkhaa
open Go.Conc
open Go.RowKit (Below)

/-- as Below, but for the tape -/
def Bel (B : Nat) (w w' : World) : Prop := ∃ τ d, Below B (re w τ d) w'
theorem Bel.refl (B : Nat) (w : World) : Bel B w w := ⟨w.tape, w.drawn, Below.refl B w⟩
theorem bel_of {B : Nat} {w w' : World} (h : Below B w w') : Bel B w w' := ⟨w.tape, w.drawn, h⟩
theorem bel_re {B : Nat} {w w' : World} {σ : Nat → Question → Nat} {d : Nat} (h : Below B (re w σ d) w') : Bel B w w' := ⟨σ, d, h⟩
theorem re_bel {B : Nat} {w w' : World} {σ : Nat → Question → Nat} {d : Nat} (h : Bel B (re w σ d) w') : Bel B w w' := by
  obtain ⟨τ, e, h⟩ := h
  exact ⟨τ, e, h⟩
theorem bel_to {B : Nat} {w w' : World} (h : Bel B w w') (σ : Nat → Question → Nat) (d : Nat) : Bel B w (re w' σ d) := by
  obtain ⟨τ, e, h⟩ := h
  exact ⟨σ, 0, ⟨h.os, rfl, h.output, h.size, h.block⟩⟩
theorem Bel.trans {B : Nat} {a b c : World} (h : Bel B a b) (k : Bel B b c) : Bel B a c := by
  obtain ⟨τ, e, h⟩ := h
  obtain ⟨σ, d, k⟩ := k
  exact ⟨σ, 0, ⟨k.os.trans h.os, k.tape, k.output.trans h.output, Nat.le_trans h.size k.size, fun i hi => (k.block i hi).trans (h.block i hi)⟩⟩
theorem Bel.mono {B B' : Nat} {w w' : World} (h : Bel B w w') (hB : B' ≤ B) : Bel B' w w' := by
  obtain ⟨τ, e, h⟩ := h
  exact ⟨τ, e, h.mono hB⟩
theorem Bel.size {B : Nat} {w w' : World} (h : Bel B w w') : w.heap.size ≤ w'.heap.size := by
  obtain ⟨τ, e, h⟩ := h
  exact h.size
theorem Bel.below {B : Nat} {w w' : World} (h : Bel B w w') (d : Nat) : Below B w (re w' w.tape d) := by
  obtain ⟨τ, e, h⟩ := h
  exact ⟨h.os, rfl, h.output, h.size, h.block⟩
theorem bel_grown {B : Nat} {a w w' : World} {row : Option Nat} (h : Bel B a w) (hg : w.grownBy w' row) (hB : B ≤ w.heap.size) (hr : ∀ k, row = some k → B ≤ k) : Bel B a w' :=
  h.trans (bel_of ((Below.refl B w).grown hg hB hr))
theorem bel_grown_re {B : Nat} {a w w' : World} {σ : Nat → Question → Nat} {d : Nat} {row : Option Nat} (h : Bel B a w) (hg : (re w σ d).grownBy w' row) (hB : B ≤ w.heap.size) (hr : ∀ k, row = some k → B ≤ k) : Bel B a w' :=
  h.trans (bel_re ((Below.refl B (re w σ d)).grown hg hB hr))
theorem owns_bel {w w' : World} {base : Nat} {e : TypeId} {size : Nat} {v : Value} {n : Nat} {xs : List Value} (h : w.ownsRow base e size v n xs) (hb : Bel w.heap.size w w') : w'.ownsRow base e size v n xs := by
  obtain ⟨τ, d, hb⟩ := hb
  exact owns_below (w := re w τ d) h hb
theorem RowAt.bel {w w' : World} {v : Value} {cs : List Value} (h : RowAt w v cs) (hb : Bel w.heap.size w w') : RowAt w' v cs := by
  obtain ⟨τ, d, hb⟩ := hb
  exact RowAt.below (w := re w τ d) h hb

/-! ### a stretch on whatever tape -/
def Sam (w w₁ : World) : Prop := ∃ σ d, w₁ = re w σ d
theorem Sam.owns {w w₁ : World} {base : Nat} {e : TypeId} {size : Nat} {v : Value} {n : Nat} {xs : List Value} (h : Sam w w₁) (ho : w.ownsRow base e size v n xs) : w₁.ownsRow base e size v n xs := by
  obtain ⟨σ, d, rfl⟩ := h; exact ho
theorem Sam.row {w w₁ : World} {v : Value} {cs : List Value} (h : Sam w w₁) (ho : RowAt w v cs) : RowAt w₁ v cs := by
  obtain ⟨σ, d, rfl⟩ := h; exact ho
theorem Sam.bel {B : Nat} {a w w₁ : World} (h : Sam w w₁) (hb : Bel B a w) : Bel B a w₁ := by
  obtain ⟨σ, d, rfl⟩ := h; exact bel_to hb σ d
theorem Sam.size {w w₁ : World} (h : Sam w w₁) : w₁.heap.size = w.heap.size := by
  obtain ⟨σ, d, rfl⟩ := h; rfl
section
variable {P : Program} {F : Okay} {Q : Exit → Act → World → Prop} {a : Act} {w : World}
/-- a tame piece with calls, on whatever tape -/
theorem wb_firstS (hT : Tame P F) {x y : Code} (hx : okC F x = true) {t : Array Value} (hQ : ∀ e a w, Q e a w → e = .normal ∨ e = .ret) (h : ∀ w₁, Sam w w₁ → x.wp P (Exit.then (fun a w => Wb P y Q a w) Q) ⟨t, []⟩ w₁) : Wb P (.seq x y) Q ⟨t, []⟩ w :=
  wb_first hT hx hQ fun σ => h _ ⟨σ, 0, rfl⟩
theorem wb_lastS (hT : Tame P F) {x : Code} (hx : okC F x = true) {t : Array Value} (hQ : ∀ e a w, Q e a w → e = .normal ∨ e = .ret) (h : ∀ w₁, Sam w w₁ → x.wp P Q ⟨t, []⟩ w₁) : Wb P x Q ⟨t, []⟩ w :=
  wb_of hT hx hQ fun σ => h _ ⟨σ, 0, rfl⟩
/-- a tame call within a region, by its lone contract -/
theorem rb_lone {ops : Array Oper} {i : Nat} {rest : List Nat} {o : Oper} {f : FuncId} {fn : Func} {c : Code} {args : Array Operand} {ats : Array TypeId} (hT : Tame P F) (hF : F.fn f = true) (ho : ops[i]? = some o) (hw : Region.wanted o (yielded ops a.tmps) = true)
    (hop : o.op = .call { callee := .value (.func f), args, argTypes := ats }) (hf : P.funcs[f]? = some fn) (hname : (fn.name == "runtime.NumGoroutine") = false) (hb : fn.body = some c)
    (h : ∀ w₁, Sam w w₁ → Calls P f (args.map a.eval) w₁ fun e w' => ∃ v, e = .returned v ∧ Rb P ops Q rest (a.put o.dst v) w') : Rb P ops Q (i :: rest) a w :=
  rb_call (R := fun v w' => Rb P ops Q rest (a.put o.dst v) w') ho hw hop hf hname hb (bcalls_of_calls hT hF fun σ => h _ ⟨σ, 0, rfl⟩) fun _ _ h => h
end

/-- a law's run, whole: one result in a temporary -/
theorem main_ends {P : Program} {f : FuncId} {fn : Func} {c : Code} {t : Tmp} {args : Array Value} {W : World} {v : Value} {Post : Value → World → Prop} (hf : P.funcs[f]? = some fn) (hb : fn.body = some c) (hr : fn.results = #[.tmp t]) (hin : P.inits.idxOf? f = none)
    (h : ∀ Q : Exit → Act → World → Prop, (∀ e a w, Q e a w → e = .normal ∨ e = .ret) → (∀ (tm : Array Value) (w' : World), tm.getD t undef = v → (∀ d, Post v (re w' W.tape d)) → Q .ret ⟨tm, []⟩ w') →
      Wb P c Q { tmps := args ++ Array.replicate (fn.ntmps - args.size) undef, defers := [] } W) :
    ∃ M last o w' t', runNT P (M + 1) (solo (G (Frame.enter P f args .normal) []) W) #[] = (.ended o w', t') ∧ runN P M (solo (G (Frame.enter P f args .normal) []) W) = .next last ∧ step P last = .ended o w' ∧ Conc.Good P Post last o w' t' := by
  have hent : Frame.enter P f args .normal = (base f).at { tmps := args ++ Array.replicate (fn.ntmps - args.size) undef, defers := [] } [.code c] := by
    simp [Frame.enter, base, Frame.at, hf, hb]
  rw [hent]
  refine ends_beside ((h (fun e a w' => e = .ret ∧ a.defers = [] ∧ a.tmps.getD t undef = v ∧ ∀ d, Post v (re w' W.tape d)) (fun e a w hq => .inr hq.1) (fun tm w' h1 h2 => ⟨rfl, rfl, h1, h2⟩) (base f) [] [] rfl).mono fun g w' hA => ?_)
  rcases hA with ⟨a', rfl, σ, d, hq, _⟩ | ⟨a', todo, rfl, σ, d, _, hd, hv, hp⟩
  · cases hq
  · refine ⟨rfl, v, fun τ e => ?_, fun τ e he => ?_⟩
    · have hres : (results fn a'.tmps).run P (re w' τ e) = .ok v (re w' τ e) := by rw [← hv]; exact results_tmp hr _ _ _
      have hev : (results fn a'.tmps).events P (re w' τ e) #[] = #[] := events_results_tmp hr _ _
      simp [G, stepG, unwind, doReturn, Frame.at, base, hf, hd, hres, hev, seen, GStep.after, hin]
    · rw [he]; exact hp e
end Go.Proofs.Ytjdijmccpihkhaa
