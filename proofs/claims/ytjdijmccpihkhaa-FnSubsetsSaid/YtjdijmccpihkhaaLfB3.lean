/- More operations that are mild: a check for nil, a struct value, a conversion between integers. -/
import Derived.Test.YtjdijmccpihkhaaLfB2
set_option linter.unusedVariables false
set_option linter.unusedSimpArgs false
set_option maxHeartbeats 1000000
namespace Go.Proofs.Ytjdijmccpihkhaa
open Go.Conc
variable {P : Program}

theorem mild_mapM {α β : Type} (f : α → Sem β) (hf : ∀ a, Mild P Any (f a)) (xs : Array α) : Mild P Any (xs.mapM f) := by
  rw [Array.mapM_eq_foldlM, ← Array.foldlM_toList]
  exact mild_foldlM _ (fun b a => mild_map (hf a)) _ _
theorem mild_build (t : TypeId) (ps : Array (Nat × Value)) : Mild P Any (Instr.build t ps) := by
  unfold Instr.build
  refine Mild.bind (mild_zeroValue _) fun z => ?_
  refine Mild.bind (mild_underlying _) fun u => ?_
  split
  · refine Mild.bind (mild_mapM _ (fun f => Mild.bind (mild_sizeOf _) fun s => by exact trivial) _) fun pl => ?_
    split <;> exact trivial
  · refine Mild.bind (mild_sizeOf _) fun s => ?_
    split <;> exact trivial
  · exact trivial
theorem mild_followBlind : ∀ (l : List FieldStep) (t : TypeId) (x : Option Value), Mild P Any (followBlind l t x)
  | [], t, x => trivial
  | s :: rest, t, x => by
    unfold followBlind
    refine Mild.bind (mild_underlying _) fun u => ?_
    split
    · split
      · split
        · exact trivial
        · exact mild_followBlind _ _ _
        · exact trivial
        · exact trivial
        · exact Mild.bind (mild_part _ _ _) fun v => mild_followBlind _ _ _
        · exact trivial
        · exact mild_followBlind _ _ _
      · exact trivial
    · exact trivial
theorem mild_nilAhead : ∀ (n : Nat) (t : TypeId) (v : Value) (s : String), Mild P Any (nilAhead n t v s)
  | 0, _, _, _ => trivial
  | n + 1, t, v, s => by
    unfold nilAhead
    refine Mild.bind (mild_typeInfo _) fun i => ?_
    split
    · refine Mild.bind (mild_followBlind _ _ _) fun r => ?_
      split
      · exact trivial
      · split
        · exact mild_nilAhead n _ _ _
        · exact trivial
        · exact trivial
        · exact trivial
        · exact trivial
        · refine Mild.bind (mild_underlying _) fun u => ?_
          split <;> exact trivial
    · exact trivial
theorem mild_known {t : TypeId} {u : TypeDesc} {β : Type} {L : β → Prop} {f : TypeDesc → Sem β} (h : P.underlying t = some u) (hf : Mild P L (f u)) : Mild P L (underlying t >>= f) := by
  unfold underlying
  show Mild P L ((match P.underlying t with | some u => _ | none => _ : Sem TypeDesc) >>= f)
  rw [h]
  exact hf
theorem mild_convertInts {src dst : TypeId} (hs : ∃ k, P.underlying src = some (.int k)) (hd : ∃ k, P.underlying dst = some (.int k)) (x : Value) : Mild P Any (convert src dst x) := by
  obtain ⟨ks, hs⟩ := hs
  obtain ⟨kd, hd⟩ := hd
  unfold convert
  refine mild_known hs (mild_known hd ?_)
  cases x <;> first | exact mild_intToInt _ _ | exact mild_floatToInt _ _ _ | exact trivial | (rename_i a; cases a <;> exact trivial)

end Go.Proofs.Ytjdijmccpihkhaa
