/- From the go statement of a sender to what follows the closed channel; and the run's end beside leavers. -/
import Derived.Test.YtjdijmccpihkhaaPhB
set_option linter.unusedVariables false
set_option linter.unusedSimpArgs false
set_option maxHeartbeats 1000000
namespace Go.Proofs.Ytjdijmccpihkhaa
open Go.Conc
open Go.ConcN (sumTo upd sumTo_upd upd_ne upd_same)

section
variable {P : Program} {T : Goroutine → World → Prop} {a : Goroutine} {w : World}

/-- ahead of goroutine 0's step others may slip -/
theorem first_step (hs : a.status = .running)
    (h : ∀ gs sl sl' t q τ d e, gs[0]? = some a → Leavers P t gs q → PastE t → stepT P (crowd gs (re w τ d) sl) = runT P (crowd gs (re w τ e) sl') 0 → Gets P T τ (crowd gs (re w τ d) sl) t) : To P T a w := by
  have key : ∀ (M : Nat) (gs : Array Goroutine) (sl : Option (Nat × Nat)) (t : Trace) (q : Nat → Nat) (τ : Nat → Question → Nat) (d : Nat), sumTo gs.size q < M → gs[0]? = some a → Leavers P t gs q → PastE t →
      Gets P T τ (crowd gs (re w τ d) sl) t := by
    intro M
    induction M with
    | zero => intro gs sl t q τ d hM; omega
    | succ M ih =>
      intro gs sl t q τ d hM h0 hL hP
      have haw : ∀ g ∈ gs, awake g := by
        intro g hg
        obtain ⟨i, hi, rfl⟩ := Array.mem_iff_getElem.1 hg
        rcases Nat.eq_zero_or_pos i with rfl | hpos
        · have : gs[0] = a := by simpa [Array.getElem?_eq_getElem hi] using h0
          rw [this]; exact awake_of (.inl hs)
        · exact awake_of ((hL.old i _ hpos (Array.getElem?_eq_getElem hi)).status.elim .inl fun x => .inr (.inr x))
      obtain ⟨i, g, e, sl', hi, hg, hst⟩ := crowd_pick (P := P) (w := re w τ d) (sl := sl) haw ⟨0, a, h0, hs⟩
      rcases Nat.eq_zero_or_pos i with rfl | hpos
      · exact h gs sl sl' t q τ d e h0 hL hP hst
      · have hq := hL.old i g hpos hi
        have hi0 : (i == 0) = false := by simp; omega
        have hlt : i < gs.size := (Array.getElem?_eq_some_iff.1 hi).1
        cases hqi : q i with
        | zero => rw [hqi] at hq; rw [hq.1] at hg; cases hg
        | succ k =>
          rw [hqi] at hq
          rcases hq with ⟨hf, _⟩ | ⟨_, g', es, hm, hstp, hq'⟩
          · rw [hf] at hg; cases hg
          have hrunT := runT_crowd_go (P := P) (sl := sl') (i := i) hi (by rw [hi0]; exact hstp (re w τ e))
          have hsum := sum_down hlt hqi
          refine Gets.step (ops := MemOp.ofEvents i g.frame.fn g.frame.place es) ?_ (hst.trans hrunT)
          refine ih ((gs.map (woken P g g' (re w τ e))).setIfInBounds i g') sl' _ (upd q i k) τ e (by simp; omega) (by
              have hne : i ≠ 0 := by omega
              rw [Array.getElem?_setIfInBounds_ne hne, Array.getElem?_map, h0]
              simp [woken_run hs])
            ⟨fun j x hj hx => by
              by_cases hji : i = j
              · subst hji
                rw [Array.getElem?_setIfInBounds_self_of_lt (by simpa using hlt)] at hx
                obtain rfl := Option.some.inj hx
                rw [upd_same, Deaf_own]
                exact hq'
              · rw [Array.getElem?_setIfInBounds_ne hji, Array.getElem?_map] at hx
                obtain ⟨y, hy, rfl⟩ := Option.map_eq_some_iff.1 hx
                have hqj := hL.old j y hj hy
                rw [woken_quitsD hqj, upd_ne q k (Ne.symm hji), Deaf_other t hji _ (fun op hop => ofEv_g hop)]
                exact hqj, fun j hj => by
              rw [Deaf_other t (g' := i) (by simp at hj; omega) _ (fun op hop => ofEv_g hop)]
              exact hL.above j (by simpa using hj)⟩
            (hP.mute (by omega) hm)
  exact fun gs sl t q τ d h0 hL hP => key _ gs sl t q τ d (Nat.lt_succ_self _) h0 hL hP

/-- THE GO STATEMENT OF A SENDER: behind it goroutine 0 receives the same values, finds the channel closed and goes on to T -/
theorem spawn_to (hs : a.status = .running)
    (h : ∀ τ d, ∃ a' child w' es c S Mine z vs s r tm, stepG P true a (re w τ d) = .spawn a' child w' es ∧ (∀ e ∈ es, QuietE e) ∧ (∀ w w₁, Aside c w w₁ → S w → S w₁) ∧ (∀ w, S w → w.tape = τ) ∧ S w' ∧
      w'.heap[c]? = some (.chan 0 #[] false s r tm) ∧ Recvs P c S Mine z (fun g w => To P T g w) vs a' w' ∧ Sends P c S Mine vs child) : To P T a w := by
  refine first_step hs fun gs sl sl' t q τ d e h0 hL hP hst => ?_
  obtain ⟨a', child, w', es, c, S, Mine, z, vs, s, r, tm, hsp, hes, hSt, hτ, hS, hc, hA, hB⟩ := h τ e
  have hrun := runT_crowd_spawn (P := P) (sl := sl') (i := 0) h0 (show stepG P (0 == 0) a (re w τ e) = _ from hsp)
  have hlt0 : 0 < gs.size := (Array.getElem?_eq_some_iff.1 h0).1
  refine Gets.step ?_ (hst.trans hrun)
  have etr : t ++ ((MemOp.ofEvents 0 a.frame.fn a.frame.place es).push { g := 0, fn := a.frame.fn, pos := a.frame.place, act := .go gs.size } |>.push { g := gs.size, fn := child.frame.fn, pos := a.frame.place, act := .start }) =
      (t ++ MemOp.ofEvents 0 a.frame.fn a.frame.place es) ++ #[{ g := 0, fn := a.frame.fn, pos := a.frame.place, act := .go gs.size }, { g := gs.size, fn := child.frame.fn, pos := a.frame.place, act := .start }] := by
    rw [Array.append_assoc]; congr 1
  rw [etr]
  have hj0 : gs.size ≠ 0 := by omega
  have hP1 := hP.own (fn := a.frame.fn) (pos := a.frame.place) hes
  have hd : Deaf (t ++ MemOp.ofEvents 0 a.frame.fn a.frame.place es) gs.size = 0 := by
    rw [Deaf_other t (g' := 0) (by omega) _ (fun op hop => ofEv_g hop)]; exact hL.above _ (Nat.le_refl _)
  have hPh := phT_fork (Mine := Mine) hP1 hj0 hd (x := { g := 0, fn := a.frame.fn, pos := a.frame.place, act := .go gs.size }) (y := { g := gs.size, fn := child.frame.fn, pos := a.frame.place, act := .start }) ⟨rfl, rfl⟩ ⟨rfl, rfl⟩
  obtain ⟨na, hna⟩ := (recvs_iff P c S Mine z _ vs _ _).1 hA
  obtain ⟨nb, hnb⟩ := (sends_iff P c S Mine vs _).1 hB
  have hw : Wordless #[({ g := 0, fn := a.frame.fn, pos := a.frame.place, act := .go gs.size } : MemOp), { g := gs.size, fn := child.frame.fn, pos := a.frame.place, act := .start }] := fun op hop m e => by
    simp at hop; rcases hop with rfl | rfl <;> cases e
  refine open_gets hj0 hSt hτ vs (na + 1 + (nb + 1) + sumTo ((gs.setIfInBounds 0 a').push child).size q + 1) ((gs.setIfInBounds 0 a').push child) a' child w' sl' _ q (na + 1) (nb + 1) s r tm (by omega) (by omega) (by
    rw [Array.getElem?_push]; simp [hlt0]; exact fun e => absurd e.symm hj0) (by rw [Array.getElem?_push]; simp) ?_ hPh hS hc (.inl ⟨na, rfl, hna⟩) (.inl ⟨nb, rfl, hnb⟩)
  refine ⟨fun i g hi hij hx => ?_, fun i hi => ?_⟩
  · rw [deaf_wordless hw, Deaf_other t (g' := 0) (by omega) _ (fun op hop => ofEv_g hop)]
    have hx' : gs[i]? = some g := by
      rw [Array.getElem?_push] at hx
      have : ¬ i = (gs.setIfInBounds 0 a').size := by simpa using hij
      rw [if_neg this, Array.getElem?_setIfInBounds_ne (by omega)] at hx
      exact hx
    exact hL.old i g hi hx'
  · rw [deaf_wordless hw, Deaf_other t (g' := 0) (by simp at hi; omega) _ (fun op hop => ofEv_g hop)]
    exact hL.above i (by simp at hi; omega)
end

/-! ### the run's end -/
theorem ends_beside {P : Program} {a : Goroutine} {W : World} {Post : Value → World → Prop} (h : To P (fun g w' => g.status = .running ∧ ∃ v, (∀ τ d, stepG P true g (re w' τ d) = .ended (.done v) (re w' τ d)) ∧ ∀ τ d, τ = W.tape → Post v (re w' τ d)) a W) :
    ∃ M last o w' t', runNT P (M + 1) (solo a W) #[] = (.ended o w', t') ∧ runN P M (solo a W) = .next last ∧ step P last = .ended o w' ∧ Conc.Good P Post last o w' t' := by
  obtain ⟨N, gs', a', w', sl', t', q', d', h1, h2, ⟨hr, v, hend, hpost⟩, h4, B, h5⟩ := h #[a] none #[] (fun _ => 0) W.tape W.drawn rfl (leavers_one P a) ⟨0, past_nil⟩
  have hD : ∀ w w' es, (fun (_ _ : World) (es : Array Event) => es = #[]) w w' es → ∀ e ∈ es, EvL (fun _ => False) B e := by
    intro w w' es h e he; have h : es = #[] := h; subst h; simp at he
  obtain ⟨N2, last, o, w2, t2, e1, e2, e3, e4⟩ := beside_ends (P := P) (Post := Post) (D := fun (_ _ : World) (es : Array Event) => es = #[]) (n := 0) (sl := sl') (w := re w' W.tape d') hD h2 h4 h5 (by
    rintro w₁ ⟨d, rfl⟩
    exact ⟨hr, v, #[], hend W.tape d, by simp, hpost W.tape d rfl⟩)
  have e0 : re W W.tape W.drawn = W := rfl
  rw [e0] at h1
  refine ⟨N + N2, last, o, w2, t2, ?_, ?_, e3, e4⟩
  · rw [Nat.add_assoc, runNT_add]
    show (match runNT P N (crowd #[a] W none) #[] with | (.next m, t) => runNT P (N2 + 1) m t | e => e) = _
    rw [h1]; exact e1
  · rw [runN_add]
    have := runNT_fst P N (crowd #[a] W none) #[]
    show (match runN P N (crowd #[a] W none) with | .next m => runN P N2 m | e => e) = _
    rw [← this, h1]; exact e2

end Go.Proofs.Ytjdijmccpihkhaa
