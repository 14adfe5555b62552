/- The trace of a stretch in which goroutine j sends over a channel to goroutine 0: nobody races; where the channel was found closed, goroutine 0 knows all. -/
import Derived.Test.YtjdijmccpihkhaaLfE
import Derived.Conc.Deaf
import Derived.Conc.Know
set_option linter.unusedVariables false
set_option linter.unusedSimpArgs false
set_option maxHeartbeats 1000000
namespace Go.Proofs.Ytjdijmccpihkhaa
open Go.Conc

structure PhT (j : Nat) (Mine : Loc → Prop) (t : Trace) : Prop where
  clean : ∀ said, ¬ Race said t
  k0 : ∀ i x, touchAt t i = some x → x.loc.isMemory = true → Knows t 0 i ∨ (t.g? i = some j ∧ x.write = false ∧ ¬ Mine x.loc)
  kj : ∀ i x, touchAt t i = some x → x.loc.isMemory = true → x.write = true → Knows t j i ∨ Mine x.loc
  h0 : Deaf t 0 = 0
  hj : Deaf t j = 0

section
variable {j : Nat} {Mine : Loc → Prop} {t u : Trace}
theorem neutral_deaf {g d : Nat} {y : MemOp} (h : ∀ m, y.act = .mark m → Neutral m) : deafStep g d y = d := by
  unfold deafStep
  split
  · rename_i e; exact absurd (h _ e) (by simp [Neutral])
  · rename_i e; exact absurd (h _ e) (by simp [Neutral])
  · rfl
theorem deaf_wordless (hu : Wordless u) (g : Nat) : Deaf (t ++ u) g = Deaf t g := by
  obtain ⟨l⟩ := u
  rw [Deaf_append]
  induction l generalizing t with
  | nil => rfl
  | cons y l ih =>
    rw [List.foldl_cons, neutral_deaf (hu y (by simp))]
    have := ih (t := t) (fun op hop => hu op (by simp at hop ⊢; exact .inr hop))
    exact this

/-- a race lies in what touched -/
theorem noRace_mute {said : Bool} (h : ¬ Race said t) (hu : ∀ op ∈ u, op.act.touch? = none) : ¬ Race said (t ++ u) := by
  rintro ⟨i, k, hik, ⟨a, b, ha, hb, hc⟩, n1, n2⟩
  obtain ⟨x, hx, hxa⟩ := touch_of ha
  obtain ⟨y, hy, hyb⟩ := touch_of hb
  rcases getElem?_append_cases hy with ⟨hk, hy'⟩ | ⟨_, hyu⟩
  · have hi : i < t.size := Nat.lt_trans hik hk
    have hx' : t[i]? = some x := by rw [← getElem?_append_old (u := u) hi]; exact hx
    exact h ⟨i, k, hik, ⟨a, b, by simp [Trace.act?, hx', hxa], by simp [Trace.act?, hy', hyb], hc⟩, fun e => n1 (hb_app u e), fun e => n2 (hb_app u e)⟩
  · rw [hu y hyu] at hyb; cases hyb

theorem g?_new {i : Nat} {x : MemOp} (h : t[i]? = some x) : t.g? i = some x.g := by simp [Trace.g?, h]

/-- operations that touch nothing, and say no word -/
theorem PhT.quiet (h : PhT j Mine t) (hu : ∀ op ∈ u, op.act.touch? = none) (hd0 : Deaf (t ++ u) 0 = 0) (hdj : Deaf (t ++ u) j = 0) : PhT j Mine (t ++ u) := by
  refine ⟨fun said => noRace_mute (h.clean said) hu, fun i x hx hm => ?_, fun i x hx hm hw => ?_, hd0, hdj⟩
  · obtain ⟨y, hy, hyx⟩ := touch_of hx
    rcases getElem?_append_cases hy with ⟨hi, hy'⟩ | ⟨_, hyu⟩
    · have := h.k0 i x (by rw [touchAt_of hy']; exact hyx) hm
      rw [g?_old hi]
      exact this.imp (·.app u) id
    · rw [hu y hyu] at hyx; cases hyx
  · obtain ⟨y, hy, hyx⟩ := touch_of hx
    rcases getElem?_append_cases hy with ⟨hi, hy'⟩ | ⟨_, hyu⟩
    · exact (h.kj i x (by rw [touchAt_of hy']; exact hyx) hm hw).imp (·.app u) id
    · rw [hu y hyu] at hyx; cases hyx
theorem PhT.comm (h : PhT j Mine t) (hu : ∀ op ∈ u, op.act.touch? = none ∧ ∀ m, op.act ≠ .mark m) : PhT j Mine (t ++ u) := by
  have hw : Wordless u := fun op hop m e => absurd e ((hu op hop).2 m)
  exact h.quiet (fun op hop => (hu op hop).1) (by rw [deaf_wordless hw]; exact h.h0) (by rw [deaf_wordless hw]; exact h.hj)

theorem ev_words {Q : Event → Prop} {g : Nat} {fn : FuncId} {pos : String} {es : Array Event} (h : ∀ e ∈ es, ∀ m, e.loc = .mark m → Neutral m) : Wordless (MemOp.ofEvents g fn pos es) := by
  rw [ofEvents_eq]
  intro op hop
  obtain ⟨e, he, rfl⟩ := Array.mem_map.1 hop
  exact ofEvent_noMark (h e he)

/-- goroutine 0's own -/
theorem PhT.own0 (h : PhT j Mine t) (hj : j ≠ 0) {fn : FuncId} {pos : String} {es : Array Event} (he : ∀ e ∈ es, EvA Mine e) : PhT j Mine (t ++ MemOp.ofEvents 0 fn pos es) := by
  have hw : Wordless (MemOp.ofEvents 0 fn pos es) := ev_words (Q := fun _ => True) fun e hx => (he e hx).1
  have hg : ∀ op ∈ MemOp.ofEvents 0 fn pos es, op.g = 0 := fun op hop => ofEv_g hop
  have ht : ∀ op ∈ MemOp.ofEvents 0 fn pos es, ∀ b, op.act.touch? = some b → b.write = true → Mine b.loc := by
    rw [ofEvents_eq]
    intro op hop b hb hwr
    obtain ⟨e, hx, rfl⟩ := Array.mem_map.1 hop
    obtain ⟨e1, e2⟩ := ofEvent_touch (he e hx).1 hb
    rw [e1]; exact (he e hx).2 (e2 ▸ hwr)
  refine ⟨fun said => noRace_append (h.clean said) hg fun i a ha op hop b hb hc => ?_, fun i x hx hm => ?_, fun i x hx hm hwr => ?_, by rw [deaf_wordless hw]; exact h.h0, by rw [deaf_wordless hw]; exact h.hj⟩
  · rcases h.k0 i a ha hc.2.1 with hk | ⟨_, hwa, hna⟩
    · exact hk
    · have hwb : b.write = true := by
        have := hc.2.2.1
        rw [hwa] at this; simpa using this
      have hmb := ht op hop b hb hwb
      have : a.loc = b.loc := hc.1
      exact absurd (this ▸ hmb) hna
  · obtain ⟨y, hy, hyx⟩ := touch_of hx
    rcases getElem?_append_cases hy with ⟨hi, hy'⟩ | ⟨_, hyu⟩
    · rw [g?_old hi]
      exact (h.k0 i x (by rw [touchAt_of hy']; exact hyx) hm).imp (·.app _) id
    · have := knows_own hy
      rw [hg y hyu] at this
      exact .inl this
  · obtain ⟨y, hy, hyx⟩ := touch_of hx
    rcases getElem?_append_cases hy with ⟨hi, hy'⟩ | ⟨_, hyu⟩
    · exact (h.kj i x (by rw [touchAt_of hy']; exact hyx) hm hwr).imp (·.app _) id
    · exact .inr (ht y hyu x hyx hwr)

/-- the sender's own -/
theorem PhT.ownj (h : PhT j Mine t) {fn : FuncId} {pos : String} {es : Array Event} (he : ∀ e ∈ es, EvB Mine e) : PhT j Mine (t ++ MemOp.ofEvents j fn pos es) := by
  have hw : Wordless (MemOp.ofEvents j fn pos es) := ev_words (Q := fun _ => True) fun e hx => (he e hx).1
  have hg : ∀ op ∈ MemOp.ofEvents j fn pos es, op.g = j := fun op hop => ofEv_g hop
  have ht : ∀ op ∈ MemOp.ofEvents j fn pos es, ∀ b, op.act.touch? = some b → b.write = false ∧ ¬ Mine b.loc := by
    rw [ofEvents_eq]
    intro op hop b hb
    obtain ⟨e, hx, rfl⟩ := Array.mem_map.1 hop
    obtain ⟨e1, e2⟩ := ofEvent_touch (he e hx).1 hb
    rw [e1, e2]; exact (he e hx).2
  refine ⟨fun said => noRace_append (h.clean said) hg fun i a ha op hop b hb hc => ?_, fun i x hx hm => ?_, fun i x hx hm hwr => ?_, by rw [deaf_wordless hw]; exact h.h0, by rw [deaf_wordless hw]; exact h.hj⟩
  · obtain ⟨b1, b2⟩ := ht op hop b hb
    have hwa : a.write = true := by
      have := hc.2.2.1
      rw [b1] at this; simpa using this
    rcases h.kj i a ha hc.2.1 hwa with hk | hmn
    · exact hk
    · have : a.loc = b.loc := hc.1
      exact absurd (this ▸ hmn) b2
  · obtain ⟨y, hy, hyx⟩ := touch_of hx
    rcases getElem?_append_cases hy with ⟨hi, hy'⟩ | ⟨_, hyu⟩
    · rw [g?_old hi]
      exact (h.k0 i x (by rw [touchAt_of hy']; exact hyx) hm).imp (·.app _) id
    · refine .inr ⟨by rw [g?_new hy, hg y hyu], ht y hyu x hyx⟩
  · obtain ⟨y, hy, hyx⟩ := touch_of hx
    rcases getElem?_append_cases hy with ⟨hi, hy'⟩ | ⟨_, hyu⟩
    · exact (h.kj i x (by rw [touchAt_of hy']; exact hyx) hm hwr).imp (·.app _) id
    · have := (ht y hyu x hyx).1
      rw [hwr] at this; cases this

/-- a third one's, who only leaves -/
theorem PhT.mute (h : PhT j Mine t) {g : Nat} (hg0 : g ≠ 0) (hgj : g ≠ j) {fn : FuncId} {pos : String} {es : Array Event} (hm : ∀ e ∈ es, e.mute = true) : PhT j Mine (t ++ MemOp.ofEvents g fn pos es) := by
  refine h.quiet (fun op hop => ?_) ((Deaf_other t hg0 _ fun op hop => ofEv_g hop).trans h.h0) ((Deaf_other t hgj _ fun op hop => ofEv_g hop).trans h.hj)
  rw [ofEvents_eq] at hop
  obtain ⟨e, he, rfl⟩ := Array.mem_map.1 hop
  exact touch_mute (hm e he)

/-- the go statement -/
theorem phT_fork (h : PastE t) (hj0 : j ≠ 0) (hd : Deaf t j = 0) {x y : MemOp} (hx : x.g = 0 ∧ x.act = .go j) (hy : y.g = j ∧ y.act = .start) : PhT j Mine (t ++ #[x, y]) := by
  obtain ⟨B, hP⟩ := h
  have hmute : ∀ op ∈ #[x, y], op.act.touch? = none ∧ ∀ m, op.act ≠ .mark m := by
    intro op hop
    simp at hop
    rcases hop with rfl | rfl
    · rw [hx.2]; exact ⟨rfl, by simp⟩
    · rw [hy.2]; exact ⟨rfl, by simp⟩
  have hw : Wordless #[x, y] := fun op hop m e => absurd e ((hmute op hop).2 m)
  have ex : (t ++ #[x, y])[t.size]? = some x := by rw [Array.getElem?_append_right (Nat.le_refl _)]; simp
  have ey : (t ++ #[x, y])[t.size + 1]? = some y := by rw [Array.getElem?_append_right (Nat.le_succ _)]; simp
  have hx0 : (t ++ #[x, y]).heard t.size := ⟨0, by rw [g?_new ex, hx.1], by rw [deaf_old (Nat.le_refl _)]; exact hP.hears⟩
  have hy0 : (t ++ #[x, y]).heard (t.size + 1) := ⟨j, by rw [g?_new ey, hy.1], by
    rw [deaf_succ ex, deaf_old (Nat.le_refl _)]
    unfold deafStep; rw [hx.2]; exact hd⟩
  have hedge : HappensBefore (t ++ #[x, y]) t.size (t.size + 1) := .single (.inr ⟨.spawn (child := j) (by rw [act?_of ex, hx.2]) (by rw [act?_of ey, hy.2]) (by rw [g?_new ey, hy.1]), hx0, hy0⟩)
  refine ⟨fun said => noRace_mute (hP.clean said) fun op hop => (hmute op hop).1, fun i a ha hm => ?_, fun i a ha hm hwr => ?_, by rw [deaf_wordless hw]; exact hP.hears, by rw [deaf_wordless hw]; exact hd⟩
  · obtain ⟨z, hz, hza⟩ := touch_of ha
    rcases getElem?_append_cases hz with ⟨hi, hz'⟩ | ⟨_, hzu⟩
    · rcases hP.known i a (by rw [touchAt_of hz']; exact hza) hm with hk | ⟨hf, _⟩
      · exact .inl (hk.app _)
      · exact hf.elim
    · rw [(hmute z hzu).1] at hza; cases hza
  · obtain ⟨z, hz, hza⟩ := touch_of ha
    rcases getElem?_append_cases hz with ⟨hi, hz'⟩ | ⟨_, hzu⟩
    · rcases hP.known i a (by rw [touchAt_of hz']; exact hza) hm with hk | ⟨hf, _⟩
      · have h1 : HappensBefore (t ++ #[x, y]) i t.size := hk.hb_new (Nat.le_refl _) ex hx.1
        exact .inl ⟨t.size + 1, y, ey, hy.1, .inr (h1.trans hedge)⟩
      · exact hf.elim
    · rw [(hmute z hzu).1] at hza; cases hza

/-- the channel was closed by j at pc, and j has done nothing since -/
structure PhC (j c : Nat) (t : Trace) (pc : Nat) : Prop where
  op : ∃ x, t[pc]? = some x ∧ x.g = j ∧ x.act = .close c
  heard : t.heard pc
  last : ∀ i x, t[i]? = some x → x.g = j → i ≤ pc
theorem PhC.app {c pc : Nat} (h : PhC j c t pc) (hu : ∀ op ∈ u, op.g ≠ j) : PhC j c (t ++ u) pc := by
  obtain ⟨x, h1, h2, h3⟩ := h.op
  have hlt := lt_size_of_getElem? h1
  refine ⟨⟨x, by rw [getElem?_append_old hlt]; exact h1, h2, h3⟩, (heard_old hlt).2 h.heard, fun i y hy hg => ?_⟩
  rcases getElem?_append_cases hy with ⟨_, hy'⟩ | ⟨_, hyu⟩
  · exact h.last i y hy' hg
  · exact absurd hg (hu y hyu)
theorem phC_new (h : PhT j Mine t) {c : Nat} {x : MemOp} (hx : x.g = j ∧ x.act = .close c) : PhT j Mine (t ++ #[x]) ∧ PhC j c (t ++ #[x]) t.size := by
  have ex : (t ++ #[x])[t.size]? = some x := by rw [Array.getElem?_append_right (Nat.le_refl _)]; simp
  refine ⟨h.comm fun op hop => ?_, ⟨⟨x, ex, hx.1, hx.2⟩, ⟨j, by rw [g?_new ex, hx.1], by rw [deaf_old (Nat.le_refl _)]; exact h.hj⟩, fun i y hy _ => ?_⟩⟩
  · simp at hop; subst hop; rw [hx.2]; exact ⟨rfl, by simp⟩
  · have := lt_size_of_getElem? hy
    simp at this; omega
/-- goroutine 0 has found the channel closed: it knows all -/
theorem past_of_closed (h : PhT j Mine t) (hj0 : j ≠ 0) {c pc : Nat} (hC : PhC j c t pc) {x : MemOp} (hx : x.g = 0 ∧ x.act = .recvClosed c) : PastE (t ++ #[x]) := by
  have ex : (t ++ #[x])[t.size]? = some x := by rw [Array.getElem?_append_right (Nat.le_refl _)]; simp
  have hmute : ∀ op ∈ #[x], op.act.touch? = none ∧ ∀ m, op.act ≠ .mark m := by
    intro op hop; simp at hop; subst hop; rw [hx.2]; exact ⟨rfl, by simp⟩
  have h' := h.comm hmute
  have hC' := hC.app (u := #[x]) fun op hop => by simp at hop; subst hop; rw [hx.1]; exact fun e => hj0 e.symm
  have hx0 : (t ++ #[x]).heard t.size := ⟨0, by rw [g?_new ex, hx.1], by rw [deaf_old (Nat.le_refl _)]; exact h.h0⟩
  obtain ⟨k, hk1, hk2, hk3⟩ := hC'.op
  have hedge : HappensBefore (t ++ #[x]) pc t.size := .single (.inr ⟨.closed (c := c) (by rw [act?_of hk1, hk3]) (by rw [act?_of ex, hx.2]), hC'.heard, hx0⟩)
  have known : ∀ i a, touchAt (t ++ #[x]) i = some a → a.loc.isMemory = true → Knows (t ++ #[x]) 0 i := by
    intro i a ha hm
    rcases h'.k0 i a ha hm with hk | ⟨hg, _⟩
    · exact hk
    · obtain ⟨y, hy, hya⟩ := touch_of ha
      have hyg : y.g = j := by rw [g?_new hy] at hg; simpa using hg
      have hle := hC'.last i y hy hyg
      have hne : i ≠ pc := by rintro rfl; rw [hk1] at hy; cases hy; rw [hk3] at hya; cases hya
      exact ⟨t.size, x, ex, hx.1, .inr ((hb_po (by omega) hy hk1 (hyg.trans hk2.symm)).trans hedge)⟩
  obtain ⟨C, hC⟩ : ∃ C, ∀ op ∈ t ++ #[x], op.act.low C := by
    generalize t ++ #[x] = s
    obtain ⟨l⟩ := s
    induction l with
    | nil => exact ⟨0, by simp⟩
    | cons y l ih =>
      obtain ⟨B, hB⟩ := ih
      obtain ⟨D, hD⟩ := act_low y.act
      refine ⟨max B D, fun op hop => ?_⟩
      simp at hop
      rcases hop with rfl | hop
      · exact MemAct.low_mono (Nat.le_max_right _ _) hD
      · exact MemAct.low_mono (Nat.le_max_left _ _) (hB op (by simpa using hop))
  refine ⟨C, h'.clean, fun i a ha hm => .inl (known i a ha hm), fun i g hg hne hc => ?_, h'.h0, hC⟩
  obtain ⟨a, ha, hm, _⟩ := hc
  obtain ⟨q, z, h1, h2, h3⟩ := known i a ha hm
  refine ⟨q, by rw [g?_new h1, h2], ?_⟩
  rcases h3 with rfl | h3
  · rw [g?_new h1, h2] at hg; exact absurd (Option.some.inj hg).symm hne
  · exact h3
end

end Go.Proofs.Ytjdijmccpihkhaa
