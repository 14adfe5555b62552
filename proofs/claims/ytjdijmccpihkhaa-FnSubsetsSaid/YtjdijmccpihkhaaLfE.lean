/- Walks beside goroutines that only leave: on whatever tape the machine of many comes from a state of goroutine 0 to another (To); what a lone contract on every tape says holds beside leavers too. -/
import Derived.Test.YtjdijmccpihkhaaLfD
set_option linter.unusedVariables false
set_option linter.unusedSimpArgs false
set_option maxHeartbeats 1000000
namespace Go.Proofs.Ytjdijmccpihkhaa
open Go.Conc
open Go.ConcN (sumTo upd sumTo_upd upd_ne upd_same)

/-! ### the trace -/
def PastE (t : Trace) : Prop := ∃ B, Past (fun _ => False) B t
theorem act_low (x : MemAct) : ∃ B, x.low B := by
  cases x with
  | access e =>
    cases h : e.loc with
    | cell a => exact ⟨a.block + 1, by simp [MemAct.low, Loc.low, h]⟩
    | obj r => exact ⟨r + 1, by simp [MemAct.low, Loc.low, h]⟩
    | _ => exact ⟨0, by simp [MemAct.low, Loc.low, h]⟩
  | mark m => cases m <;> first | exact ⟨_, Nat.lt_succ_self _⟩ | exact ⟨0, trivial⟩
  | go _ | start => exact ⟨0, trivial⟩
  | send _ _ | sendDone _ _ | recv _ _ _ | recvDone _ _ | close _ | recvClosed _ => exact ⟨_, Nat.lt_succ_self _⟩
theorem events_low (es : List Event) : ∃ B, ∀ e ∈ es, (MemAct.ofEvent e).low B := by
  induction es with
  | nil => exact ⟨0, by simp⟩
  | cons e es ih =>
    obtain ⟨B, hB⟩ := ih
    obtain ⟨C, hC⟩ := act_low (MemAct.ofEvent e)
    refine ⟨max B C, fun x hx => ?_⟩
    rcases List.mem_cons.1 hx with rfl | hx
    · exact MemAct.low_mono (Nat.le_max_right _ _) hC
    · exact MemAct.low_mono (Nat.le_max_left _ _) (hB x hx)
theorem PastE.own {t : Trace} (h : PastE t) {fn : FuncId} {pos : String} {es : Array Event} (hq : ∀ e ∈ es, QuietE e) : PastE (t ++ MemOp.ofEvents 0 fn pos es) := by
  obtain ⟨B, hB⟩ := h
  obtain ⟨C, hC⟩ := events_low es.toList
  refine ⟨max B C, (hB.mono (Nat.le_max_left _ _)).own fun e he => ⟨fun x _ hf => hf.elim, (hq e he).1, (hq e he).2, ?_⟩⟩
  exact MemAct.low_mono (Nat.le_max_right _ _) (hC e (by simpa using he))
theorem PastE.mute {t : Trace} (h : PastE t) {g : Nat} (hg : g ≠ 0) {fn : FuncId} {pos : String} {es : Array Event} (hm : ∀ e ∈ es, e.mute = true) : PastE (t ++ MemOp.ofEvents g fn pos es) :=
  let ⟨B, hB⟩ := h
  ⟨B, hB.mute hg hm⟩

theorem ofEv_g {g : Nat} {fn : FuncId} {pos : String} {es : Array Event} {op : MemOp} (h : op ∈ MemOp.ofEvents g fn pos es) : op.g = g := by
  rw [ofEvents_eq] at h
  obtain ⟨e, _, rfl⟩ := Array.mem_map.1 h
  rfl

/-! ### the judgement -/
def To (P : Program) (T : Goroutine → World → Prop) (a : Goroutine) (w : World) : Prop :=
  ∀ (gs : Array Goroutine) (sl : Option (Nat × Nat)) (t : Trace) (q : Nat → Nat) (τ : Nat → Question → Nat) (d : Nat), gs[0]? = some a → Leavers P t gs q → PastE t →
    ∃ N gs' a' w' sl' t' q' d', runNT P N (crowd gs (re w τ d) sl) t = (.next (crowd gs' (re w' τ d') sl'), t') ∧ gs'[0]? = some a' ∧ T a' w' ∧ Leavers P t' gs' q' ∧ PastE t'

section
variable {P : Program} {T T' : Goroutine → World → Prop} {a : Goroutine} {w : World}
theorem To.here (h : T a w) : To P T a w := fun gs sl t q τ d h0 hL hP => ⟨0, gs, a, w, sl, t, q, d, rfl, h0, h, hL, hP⟩
theorem To.trans (h : To P T a w) (h' : ∀ a' w', T a' w' → To P T' a' w') : To P T' a w := by
  intro gs sl t q τ d h0 hL hP
  obtain ⟨N, gs', a', w', sl', t', q', d', h1, h2, h3, h4, h5⟩ := h gs sl t q τ d h0 hL hP
  obtain ⟨N2, gs2, a2, w2, sl2, t2, q2, d2, k1, k2, k3, k4, k5⟩ := h' a' w' h3 gs' sl' t' q' τ d' h2 h4 h5
  exact ⟨N + N2, gs2, a2, w2, sl2, t2, q2, d2, by rw [runNT_add, h1]; exact k1, k2, k3, k4, k5⟩
theorem To.mono (h : To P T a w) (hT : ∀ a w, T a w → T' a w) : To P T' a w := h.trans fun a' w' ht => .here (hT _ _ ht)
theorem to_re (τ : Nat → Question → Nat) (d : Nat) (h : To P T a w) : To P T a (re w τ d) := fun gs sl t q σ e h0 hL hP => h gs sl t q σ e h0 hL hP
theorem re_to {τ : Nat → Question → Nat} {d : Nat} (h : To P T a (re w τ d)) : To P T a w := fun gs sl t q σ e h0 hL hP => h gs sl t q σ e h0 hL hP

/-- goroutine 0 takes one step of its own -/
theorem own_step (hs : a.status = .running) (h : ∀ τ d, ∃ a' w' d' es, stepG P true a (re w τ d) = .go a' (re w' τ d') es ∧ (∀ e ∈ es, QuietE e) ∧ To P T a' w') : To P T a w := by
  have key : ∀ (M : Nat) (gs : Array Goroutine) (sl : Option (Nat × Nat)) (t : Trace) (q : Nat → Nat) (τ : Nat → Question → Nat) (d : Nat), sumTo gs.size q ≤ M → gs[0]? = some a → Leavers P t gs q → PastE t →
      ∃ N gs' a' w' sl' t' q' d', runNT P N (crowd gs (re w τ d) sl) t = (.next (crowd gs' (re w' τ d') sl'), t') ∧ gs'[0]? = some a' ∧ T a' w' ∧ Leavers P t' gs' q' ∧ PastE t' := by
    intro M
    induction M with
    | zero =>
      intro gs sl t q τ d hM h0 hL hP
      have haw : ∀ g ∈ gs, awake g := by
        intro g hg
        obtain ⟨i, hi, rfl⟩ := Array.mem_iff_getElem.1 hg
        rcases Nat.eq_zero_or_pos i with rfl | hpos
        · have : gs[0] = a := by simpa [Array.getElem?_eq_getElem hi] using h0
          rw [this]; exact awake_of (.inl hs)
        · exact awake_of ((hL.old i _ hpos (Array.getElem?_eq_getElem hi)).status.elim .inl fun x => .inr (.inr x))
      obtain ⟨i, g, e, sl', hi, hg, hst⟩ := crowd_pick (P := P) (w := re w τ d) (sl := sl) haw ⟨0, a, h0, hs⟩
      rcases Nat.eq_zero_or_pos i with rfl | hpos
      · obtain rfl : g = a := by rw [h0] at hi; exact (Option.some.inj hi).symm
        obtain ⟨a', w', d', es, hgo, hq, hTo⟩ := h τ e
        have hrunT := runT_crowd_go (P := P) (sl := sl') (i := 0) hi (show stepG P (0 == 0) g (re w τ e) = _ from hgo)
        have hlt : 0 < gs.size := (Array.getElem?_eq_some_iff.1 h0).1
        obtain ⟨N, gs', a'', w'', sl'', t', q', d'', hr, h0', hS, hL', hP'⟩ := hTo ((gs.map (woken P g a' (re w' τ d'))).setIfInBounds 0 a') sl' (t ++ MemOp.ofEvents 0 g.frame.fn g.frame.place es) q τ d' (by simp [hlt])
          ⟨fun j x hj hx => by
            have hne : 0 ≠ j := by omega
            rw [Array.getElem?_setIfInBounds_ne hne, Array.getElem?_map] at hx
            obtain ⟨y, hy, rfl⟩ := Option.map_eq_some_iff.1 hx
            have hq := hL.old j y hj hy
            rw [woken_quitsD hq, Deaf_other t (by omega) _ (fun op hop => ofEv_g hop)]
            exact hq, fun j hj => by
            rw [Deaf_other t (g' := 0) (by simp at hj; omega) _ (fun op hop => ofEv_g hop)]
            exact hL.above j (by simpa using hj)⟩ (hP.own hq)
        exact ⟨N + 1, gs', a'', w'', sl'', t', q', d'', by simp only [runNT, hst]; rw [show (re w τ d).at e = re w τ e from rfl, hrunT]; exact hr, h0', hS, hL', hP'⟩
      · have hq := hL.old i g hpos hi
        have hlt : i < gs.size := (Array.getElem?_eq_some_iff.1 hi).1
        cases hqi : q i with
        | zero => rw [hqi] at hq; rw [hq.1] at hg; cases hg
        | succ k =>
          have hsum : sumTo gs.size (upd q i k) + (k + 1) = sumTo gs.size q + k := by
            have := sumTo_upd q k id hlt
            simpa [hqi] using this
          omega
    | succ M ih =>
      intro gs sl t q τ d hM h0 hL hP
      have haw : ∀ g ∈ gs, awake g := by
        intro g hg
        obtain ⟨i, hi, rfl⟩ := Array.mem_iff_getElem.1 hg
        rcases Nat.eq_zero_or_pos i with rfl | hpos
        · have : gs[0] = a := by simpa [Array.getElem?_eq_getElem hi] using h0
          rw [this]; exact awake_of (.inl hs)
        · exact awake_of ((hL.old i _ hpos (Array.getElem?_eq_getElem hi)).status.elim .inl fun x => .inr (.inr x))
      obtain ⟨i, g, e, sl', hi, hg, hst⟩ := crowd_pick (P := P) (w := re w τ d) (sl := sl) haw ⟨0, a, h0, hs⟩
      rcases Nat.eq_zero_or_pos i with rfl | hpos
      · obtain rfl : g = a := by rw [h0] at hi; exact (Option.some.inj hi).symm
        obtain ⟨a', w', d', es, hgo, hq, hTo⟩ := h τ e
        have hrunT := runT_crowd_go (P := P) (sl := sl') (i := 0) hi (show stepG P (0 == 0) g (re w τ e) = _ from hgo)
        have hlt : 0 < gs.size := (Array.getElem?_eq_some_iff.1 h0).1
        obtain ⟨N, gs', a'', w'', sl'', t', q', d'', hr, h0', hS, hL', hP'⟩ := hTo ((gs.map (woken P g a' (re w' τ d'))).setIfInBounds 0 a') sl' (t ++ MemOp.ofEvents 0 g.frame.fn g.frame.place es) q τ d' (by simp [hlt])
          ⟨fun j x hj hx => by
            have hne : 0 ≠ j := by omega
            rw [Array.getElem?_setIfInBounds_ne hne, Array.getElem?_map] at hx
            obtain ⟨y, hy, rfl⟩ := Option.map_eq_some_iff.1 hx
            have hq := hL.old j y hj hy
            rw [woken_quitsD hq, Deaf_other t (by omega) _ (fun op hop => ofEv_g hop)]
            exact hq, fun j hj => by
            rw [Deaf_other t (g' := 0) (by simp at hj; omega) _ (fun op hop => ofEv_g hop)]
            exact hL.above j (by simpa using hj)⟩ (hP.own hq)
        exact ⟨N + 1, gs', a'', w'', sl'', t', q', d'', by simp only [runNT, hst]; rw [show (re w τ d).at e = re w τ e from rfl, hrunT]; exact hr, h0', hS, hL', hP'⟩
      · -- a leaver slips
        have hq := hL.old i g hpos hi
        have hi0 : (i == 0) = false := by simp; omega
        have hlt : i < gs.size := (Array.getElem?_eq_some_iff.1 hi).1
        cases hqi : q i with
        | zero => rw [hqi] at hq; rw [hq.1] at hg; cases hg
        | succ k =>
          rw [hqi] at hq
          rcases hq with ⟨hf, _⟩ | ⟨_, g', es, hm, hstp, hq'⟩
          · rw [hf] at hg; cases hg
          have hrunT := runT_crowd_go (P := P) (sl := sl') (i := i) hi (by rw [hi0]; exact hstp (re w τ e))
          have hsz : ((gs.map (woken P g g' (re w τ e))).setIfInBounds i g').size = gs.size := by simp
          have hsum : sumTo gs.size (upd q i k) + (k + 1) = sumTo gs.size q + k := by
            have := sumTo_upd q k id hlt
            simpa [hqi] using this
          obtain ⟨N, gs', a'', w'', sl'', t', q', d'', hr, h0', hS, hL', hP'⟩ := ih ((gs.map (woken P g g' (re w τ e))).setIfInBounds i g') sl' (t ++ MemOp.ofEvents i g.frame.fn g.frame.place es) (upd q i k) τ e (by rw [hsz]; omega)
            (by
              have hne : i ≠ 0 := by omega
              rw [Array.getElem?_setIfInBounds_ne hne, Array.getElem?_map, h0]
              simp [woken_run hs])
            ⟨fun j x hj hx => by
              by_cases hji : i = j
              · subst hji
                rw [Array.getElem?_setIfInBounds_self_of_lt (by simpa using hlt)] at hx
                obtain rfl := Option.some.inj hx
                rw [upd_same, Deaf_own]
                exact hq'
              · rw [Array.getElem?_setIfInBounds_ne hji, Array.getElem?_map] at hx
                obtain ⟨y, hy, rfl⟩ := Option.map_eq_some_iff.1 hx
                have hqj := hL.old j y hj hy
                rw [woken_quitsD hqj, upd_ne q k (Ne.symm hji), Deaf_other t hji _ (fun op hop => ofEv_g hop)]
                exact hqj, fun j hj => by
              rw [Deaf_other t (g' := i) (by simp at hj; omega) _ (fun op hop => ofEv_g hop)]
              exact hL.above j (by simpa using hj)⟩
            (hP.mute (by omega) hm)
          exact ⟨N + 1, gs', a'', w'', sl'', t', q', d'', by simp only [runNT, hst]; rw [show (re w τ d).at e = re w τ e from rfl, hrunT]; exact hr, h0', hS, hL', hP'⟩
  exact fun gs sl t q τ d h0 hL hP => key _ gs sl t q τ d (Nat.le_refl _) h0 hL hP
/-- a step of control -/
theorem ctl_step {a' : Goroutine} (hs : a.status = .running) (h : ∀ W, stepG P true a W = .go a' W) (hT : To P T a' w) : To P T a w :=
  own_step hs fun τ d => ⟨a', w, d, #[], h _, by simp, hT⟩

/-! ### what a lone contract says holds beside leavers -/
variable {F : Okay} {b : Frame} {Q : Exit → Act → World → Prop}
/-- Q, but for the tape -/
def Qx (Q : Exit → Act → World → Prop) (e : Exit) (a : Act) (w : World) : Prop := ∃ σ d, Q e a (re w σ d)
def Arr (b : Frame) (Q : Exit → Act → World → Prop) (k : List Item) (cs : List Frame) (g : Goroutine) (w : World) : Prop :=
  (∃ a, g = G (b.at a k) cs ∧ Qx Q .normal a w) ∨ ∃ a todo, g = G { b.at a todo with mode := .returning } cs ∧ Qx Q .ret a w
def Back (f : Frame) (B : Value → World → Prop) (cs : List Frame) (g : Goroutine) (w : World) : Prop := ∃ v, g = G (f.finish v) cs ∧ ∃ σ d, B v (re w σ d)
variable {B : Value → World → Prop}
theorem to_of_ok {st : St} (h : Ok P b Q B st w) (f : Frame) (k : List Item) (cs : List Frame) : To P (fun g w => Arr b Q k cs g w ∨ Back f B cs g w) (st.g b f k cs) w := by
  induction h with
  | norm σ e hq => exact .here (.inl (.inl ⟨_, rfl, σ, e, hq⟩))
  | fin σ e hq => exact .here (.inl (.inr ⟨_, _, rfl, σ, e, hq⟩))
  | back σ e hq => exact .here (.inr ⟨_, rfl, σ, e, hq⟩)
  | step nx h ok ih =>
    refine own_step (St.status _ _ _ _ _) fun τ d => ?_
    obtain ⟨es, hq, hst⟩ := h τ d
    exact ⟨_, _, _, es, hst f k cs τ d (Agree.refl _ _ _), hq, ih τ d⟩

theorem to_of_wp (hT : Tame P F) (hb : b.kind = .normal) {c : Code} (hc : okC F c = true) {t : Array Value} (hQ : ∀ e a w, Q e a w → e = .normal ∨ e = .ret)
    (h : ∀ σ, c.wp P Q ⟨t, []⟩ (re w σ 0)) (k : List Item) (cs : List Frame) : To P (Arr b Q k cs) (G (b.at ⟨t, []⟩ (.code c :: k)) cs) w := by
  have hok : Ok P b Q (fun _ _ => False) (.run [] (some (t, [.code c]))) w := by
    refine ok_of_lone hT hb aims_target (by simp [Good, okI, hc]) fun σ => ?_
    obtain ⟨e, a', w', hq, harr⟩ := h σ b k0 [c0]
    rcases hQ _ _ _ hq with rfl | rfl
    · obtain ⟨n, hn⟩ := harr
      exact ⟨n, _, w', hn, .inl ⟨a', rfl, hq⟩⟩
    · obtain ⟨todo, n, hn⟩ := harr
      exact ⟨n, _, w', hn, .inr ⟨a', todo, rfl, hq⟩⟩
  exact (to_of_ok hok b k cs).mono fun g w h => h.elim id fun ⟨_, _, _, _, h⟩ => h.elim

/-- a call beside leavers: whoever calls is handed what it returns -/
def BCalls (P : Program) (f : FuncId) (args : Array Value) (w : World) (R : Value → World → Prop) : Prop :=
  ∀ (c : Frame) (cs : List Frame), To P (Back c R cs) (G (Frame.enter P f args .normal) (c :: cs)) w
theorem BCalls.mono {f : FuncId} {args : Array Value} {R R' : Value → World → Prop} (h : BCalls P f args w R) (hR : ∀ v w', R v w' → R' v w') : BCalls P f args w R' :=
  fun c cs => (h c cs).mono fun g w' ⟨v, e, σ, d, hr⟩ => ⟨v, e, σ, d, hR _ _ hr⟩
theorem bcalls_re {f : FuncId} {args : Array Value} {R : Value → World → Prop} (τ : Nat → Question → Nat) (d : Nat) (h : BCalls P f args w R) : BCalls P f args (re w τ d) R := fun c cs => to_re τ d (h c cs)

/-- a lone contract on every tape holds beside leavers -/
theorem bcalls_of_calls (hT : Tame P F) {f : FuncId} (hF : F.fn f = true) {args : Array Value} {R : Value → World → Prop}
    (h : ∀ σ, Calls P f args (re w σ 0) fun e w' => ∃ v, e = .returned v ∧ R v w') : BCalls P f args w R := by
  intro c cs
  obtain ⟨cl, e1, e2⟩ := enter_frame hT hF args
  have hok : Ok P (base 0) (fun _ _ _ => False) R (.run [cl] none) w := by
    refine ok_of_lone hT rfl (aims_call (base 0)) (by exact ⟨e2, by simp, trivial⟩) fun σ => ?_
    obtain ⟨e, w', fr, ⟨v, rfl, hr⟩, hc, hfn, hl⟩ := h σ [c1 (base 0), c0]
    obtain ⟨n, hn⟩ := hc
    rw [e1] at hn
    refine ⟨n + 1, G ((c1 (base 0)).finish v) [c0], w', ?_, v, rfl, hr⟩
    have hstep := step_leave_returned (c := c1 (base 0)) (cs := [c0]) hl
    show runN P (n + 1) (lone cl.frame [c1 (base 0), c0] (re w σ 0)) = _
    rw [runN_add, hn]
    simp only [runN, hstep]
    rfl
  have := to_of_ok hok c [] cs
  rw [e1]
  refine To.mono (T := fun g w => Arr (base 0) (fun _ _ _ => False) [] cs g w ∨ Back c R cs g w) this fun g w h => ?_
  rcases h with (⟨_, _, _, _, h⟩ | ⟨_, _, _, _, _, h⟩) | h
  · exact h.elim
  · exact h.elim
  · exact h
end

end Go.Proofs.Ytjdijmccpihkhaa
