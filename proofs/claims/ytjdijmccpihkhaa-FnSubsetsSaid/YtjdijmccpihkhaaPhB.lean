/- A sender and a receiver over a channel without a buffer, beside goroutines that only leave: on every tape goroutine 0 gets all values, finds the channel closed and goes on; the sender is one more leaver. -/
import Derived.Test.YtjdijmccpihkhaaPhA
import Derived.Conc.CrowdComm
import Derived.Conc.Pipeline3
set_option linter.unusedVariables false
set_option linter.unusedSimpArgs false
set_option maxHeartbeats 1000000
namespace Go.Proofs.Ytjdijmccpihkhaa
open Go.Conc
open Go.ConcN (sumTo upd sumTo_upd upd_ne upd_same)

structure LeavX (P : Program) (j : Nat) (t : Trace) (gs : Array Goroutine) (q : Nat → Nat) : Prop where
  old : ∀ i g, 0 < i → i ≠ j → gs[i]? = some g → QuitsD P (q i) (Deaf t i) g
  above : ∀ i, gs.size ≤ i → Deaf t i = 0

/-- the machine of many comes to a frame in which T holds of goroutine 0 -/
def Gets (P : Program) (T : Goroutine → World → Prop) (τ : Nat → Question → Nat) (m : Machine) (t : Trace) : Prop :=
  ∃ N gs' a' w' sl' t' q' d', runNT P N m t = (.next (crowd gs' (re w' τ d') sl'), t') ∧ gs'[0]? = some a' ∧ T a' w' ∧ Leavers P t' gs' q' ∧ PastE t'
theorem Gets.step {P : Program} {T : Goroutine → World → Prop} {τ : Nat → Question → Nat} {m m' : Machine} {t : Trace} {ops : Array MemOp} (h : Gets P T τ m' (t ++ ops)) (hs : stepT P m = (.next m', ops)) : Gets P T τ m t := by
  obtain ⟨N, gs', a', w', sl', t', q', d', h1, h2⟩ := h
  exact ⟨N + 1, gs', a', w', sl', t', q', d', by simp only [runNT, hs]; exact h1, h2⟩

section
variable {P : Program} {T : Goroutine → World → Prop} {j c : Nat} {S : World → Prop} {Mine : Loc → Prop} {z : Value} {gs : Array Goroutine} {q : Nat → Nat} {t : Trace} {a b : Goroutine} {w : World} {sl : Option (Nat × Nat)}

theorem LeavX.own (h : LeavX P j t gs q) {i : Nat} (hi : i = 0 ∨ i = j) {u : Trace} (hu : ∀ op ∈ u, op.g = 0 ∨ op.g = j) (hd : Wordless u) {gs' : Array Goroutine} (hsz : gs'.size = gs.size) (hg : ∀ k, k ≠ 0 → k ≠ j → gs'[k]? = gs[k]?) : LeavX P j (t ++ u) gs' q := by
  refine ⟨fun k g hk hkj hx => ?_, fun k hk => ?_⟩
  · rw [hg k (by omega) hkj] at hx
    rw [deaf_wordless hd]
    exact h.old k g hk hkj hx
  · rw [deaf_wordless hd]; exact h.above k (by omega)

/-- who is awake -/
theorem awake_all (hL : LeavX P j t gs q) (h0 : gs[0]? = some a) (hj : gs[j]? = some b) (ha : awake a) (hb : awake b) : ∀ g ∈ gs, awake g := by
  intro g hg
  obtain ⟨i, hi, rfl⟩ := Array.mem_iff_getElem.1 hg
  have hget := Array.getElem?_eq_getElem hi
  by_cases h1 : i = 0
  · subst h1; rw [hget] at h0; cases h0; exact ha
  · by_cases h2 : i = j
    · subst h2; rw [hget] at hj; cases hj; exact hb
    · exact awake_of ((hL.old i _ (by omega) h2 hget).status.elim .inl fun x => .inr (.inr x))
theorem offers_none (hL : LeavX P j t gs q) {i : Nat} {g : Goroutine} (hi : 0 < i) (hij : i ≠ j) (hg : gs[i]? = some g) (r : Nat) (send : Bool) : offersAt g r send = [] := by
  refine offersAt_of_not_blocked ?_ r send
  rcases (hL.old i g hi hij hg).status with h | h <;> rw [h] <;> simp

/-- the array behind a step of goroutine i, where nobody is woken -/
theorem map_woken {f : Goroutine → Goroutine} (hf : ∀ (k : Nat) (g : Goroutine), gs[k]? = some g → f g = g) : gs.map f = gs := by
  apply Array.ext_getElem?
  intro k
  rw [Array.getElem?_map]
  cases h : gs[k]? with
  | none => rfl
  | some g => simp [hf k g h]

theorem leaver_slips (hj0 : j ≠ 0) (hL : LeavX P j t gs q) (hP : PhT j Mine t) {i k : Nat} {g g' : Goroutine} {es : Array Event} (hi0 : 0 < i) (hij : i ≠ j) (hi : gs[i]? = some g) (hqi : q i = k + 1)
    (hm : ∀ e ∈ es, Event.mute e = true) (hq' : QuitsD P k (deafBehind (Deaf t i) es) g') :
    LeavX P j (t ++ MemOp.ofEvents i g.frame.fn g.frame.place es) (gs.setIfInBounds i g') (upd q i k) ∧ PhT j Mine (t ++ MemOp.ofEvents i g.frame.fn g.frame.place es) := by
  have hlt : i < gs.size := (Array.getElem?_eq_some_iff.1 hi).1
  refine ⟨⟨fun n x hn hnj hx => ?_, fun n hn => ?_⟩, hP.mute (by omega) hij hm⟩
  · by_cases hni : i = n
    · subst hni
      rw [Array.getElem?_setIfInBounds_self_of_lt hlt] at hx
      cases hx
      rw [upd_same, Deaf_own]; exact hq'
    · rw [Array.getElem?_setIfInBounds_ne hni] at hx
      rw [upd_ne q k (Ne.symm hni), Deaf_other t hni _ fun op hop => ofEv_g hop]
      exact hL.old n x hn hnj hx
  · rw [Deaf_other t (g' := i) (by simp at hn; omega) _ fun op hop => ofEv_g hop]
    exact hL.above n (by simpa using hn)

theorem sum_down {n : Nat} {q : Nat → Nat} {i k : Nat} (hlt : i < n) (hqi : q i = k + 1) : sumTo n (upd q i k) + 1 = sumTo n q := by
  have h2 : sumTo n (upd q i k) + (k + 1) = sumTo n q + k := by
    have := sumTo_upd q k id hlt
    simpa [hqi] using this
  omega

/-- the channel is closed; goroutine 0 has not seen it yet -/
theorem shut_gets (hj0 : j ≠ 0) {τ : Nat → Question → Nat} (hSt : ∀ w w₁, Aside c w w₁ → S w → S w₁) (hτ : ∀ w, S w → w.tape = τ) : ∀ (M : Nat) (gs : Array Goroutine) (a b : Goroutine) (w : World) (sl : Option (Nat × Nat)) (t : Trace) (q : Nat → Nat) (n k pc s r : Nat) (tm : Bool), n + k + sumTo gs.size q < M → gs[0]? = some a → gs[j]? = some b →
    LeavX P j t gs q → PhT j Mine t → PhC j c t pc → S w → w.heap[c]? = some (.chan 0 #[] true s r tm) → Goes P true (Aside c) (DA c S Mine) (StopA P c S Mine z (fun g w => To P T g w) []) n a w → QuitsIn P k b →
    Gets P T τ (crowd gs w sl) t := by
  intro M
  induction M with
  | zero =>
    intro gs a b w sl t q n k pc s r tm hM h0 hj hL hP hC hS hc hA hB
    omega
  | succ M ih =>
    intro gs a b w sl t q n k pc s r tm hM h0 hj hL hP hC hS hc hA hB
    have hra : a.status = .running := hA.running (fun _ _ => StopA.running) w (Aside.refl c w)
    have awb : awake b := awake_of (hB.status.elim .inl fun h => .inr (.inr h))
    obtain ⟨i, g, d, sl', hi, hg, hst⟩ := crowd_pick (P := P) (w := w) (sl := sl) (awake_all hL h0 hj (awake_of (.inl hra)) awb) ⟨0, a, h0, hra⟩
    have hlt : i < gs.size := (Array.getElem?_eq_some_iff.1 hi).1
    have hlt0 : 0 < gs.size := (Array.getElem?_eq_some_iff.1 h0).1
    have hAs : Aside c w (w.at d) := Aside.at c w d
    have hc1 : (w.at d).heap[c]? = some (.chan 0 #[] true s r tm) := hc
    have wokeAll : ∀ (x x' : Goroutine) (W : World) (k : Nat) (g : Goroutine), gs[k]? = some g → woken P x x' W g = g := by
      intro x x' W n g hg
      by_cases h1 : n = 0
      · subst h1; rw [h0] at hg; cases hg; exact woken_running hra
      · by_cases h2 : n = j
        · subst h2; rw [hj] at hg; cases hg; exact woken_quits hB
        · exact woken_quitsD (hL.old n g (by omega) h2 hg)
    by_cases h1 : i = 0
    · subst h1
      obtain rfl : g = a := by rw [h0] at hi; exact (Option.some.inj hi).symm
      rcases hA.cases with hstop | ⟨n', rfl, hstep⟩
      · have hat := hstop _ hAs
        obtain ⟨es, hcomm, hes⟩ := hat.comm
        have hp : partners (gs.setIfInBounds 0 ph) c true = [] := partners_nil fun m x hx => by
          rcases getElem?_stand _ _ _ _ hx with ⟨_, rfl⟩ | ⟨hm, hx⟩
          · exact offersAt_ph _ _
          · by_cases hmj : m = j
            · subst hmj; rw [hj] at hx; cases hx
              exact offersAt_of_not_blocked (by rcases hB.status with h | h <;> rw [h] <;> simp) _ _
            · exact offers_none hL (by omega) hmj hx _ _
        have hrun := crowd_recv_closed (sl := sl') hi (show stepG P (0 == 0) g (w.at d) = _ from hcomm) hc1 hp
        rw [finishComm_recv] at hrun
        have hTo := hat.nil _ (Aside.refl c _)
        refine Gets.step (m' := crowd (gs.setIfInBounds 0 (Conc.served (core g) (recvd true z false))) (w.at d) sl') ?_ (hst.trans hrun)
        rw [← Array.append_assoc]
        have hP1 := hP.own0 (fn := g.frame.fn) (pos := g.frame.place) hj0 hes
        have hC1 := hC.app (u := MemOp.ofEvents 0 g.frame.fn g.frame.place es) fun op hop => by rw [ofEv_g hop]; exact fun e => hj0 e.symm
        have hPast := past_of_closed hP1 hj0 hC1 (x := { g := 0, fn := (core g).frame.fn, pos := (core g).frame.place, act := .recvClosed c }) ⟨rfl, rfl⟩
        have hw1 : Wordless (MemOp.ofEvents 0 g.frame.fn g.frame.place es) := (late0 hes).1
        have hw2 : Wordless #[({ g := 0, fn := (core g).frame.fn, pos := (core g).frame.place, act := .recvClosed c } : MemOp)] := fun op hop m e => by simp at hop; subst hop; cases e
        obtain ⟨N, gs', a', w', sl2, t', q', d', e1, e2, e3, e4, e5⟩ := hTo (gs.setIfInBounds 0 (Conc.served (core g) (recvd true z false))) sl' _ (upd q j k) τ (w.at d).drawn (by simp [hlt0]; rfl)
          ⟨fun m x hm hx => by
            rw [Array.getElem?_setIfInBounds_ne (by omega)] at hx
            rw [deaf_wordless hw2, deaf_wordless hw1]
            by_cases hmj : m = j
            · subst hmj; rw [hj] at hx; cases hx
              rw [upd_same, hP.hj]; exact QuitsD.of_quitsIn hB
            · rw [upd_ne q k hmj]; exact hL.old m x hm hmj hx,
           fun m hm => by
            rw [deaf_wordless hw2, deaf_wordless hw1]; exact hL.above m (by simpa using hm)⟩ hPast
        have e0 : re (w.at d) τ (w.at d).drawn = w.at d := by rw [← hτ w hS]; exact re_self (w.at d)
        rw [e0] at e1
        exact ⟨N, gs', a', w', sl2, t', q', d', e1, e2, e3, e4, e5⟩
      · obtain ⟨a', w', es, hgo, ⟨hSS, hcc, hes⟩, hg'⟩ := hstep _ hAs
        have hrun := runT_crowd_go (sl := sl') hi (show stepG P (0 == 0) g (w.at d) = _ from hgo)
        rw [map_woken (wokeAll _ _ _)] at hrun
        refine Gets.step (ops := MemOp.ofEvents 0 g.frame.fn g.frame.place es) ?_ (hst.trans hrun)
        refine ih _ a' b w' sl' _ q n' k pc s r tm (by simp; omega) (by simp [hlt0]) (by rw [Array.getElem?_setIfInBounds_ne (fun e => hj0 e.symm)]; exact hj) ?_ (hP.own0 hj0 hes) (hC.app fun op hop => by rw [ofEv_g hop]; exact fun e => hj0 e.symm) (hSS (hSt _ _ hAs hS)) (hcc.trans hc1) hg' hB
        exact hL.own (.inl rfl) (fun op hop => .inl (ofEv_g hop)) (late0 hes).1 (by simp) fun m hm _ => by rw [Array.getElem?_setIfInBounds_ne (fun e => hm e.symm)]
    · have hi0 : (i == 0) = false := by simpa using h1
      by_cases h2 : i = j
      · subst h2
        obtain rfl : g = b := by rw [hj] at hi; exact (Option.some.inj hi).symm
        cases k with
        | zero => rw [show g.status = .finished from hB] at hg; cases hg
        | succ k =>
          rcases hB with h | ⟨_, b', hw, hq⟩
          · rw [h] at hg; cases hg
          · have hrun := runT_crowd_go (sl := sl') hi (by rw [hi0]; exact hw (w.at d))
            rw [map_woken (wokeAll _ _ _)] at hrun
            refine Gets.step (ops := MemOp.ofEvents i g.frame.fn g.frame.place #[]) ?_ (hst.trans hrun)
            rw [ofEvents_none, Array.append_empty]
            refine ih _ a b' (w.at d) sl' _ q n k pc s r tm (by simp; omega) (by rw [Array.getElem?_setIfInBounds_ne h1]; exact h0) (by simp [hlt]) ?_ hP hC (hSt _ _ hAs hS) hc1 (Goes.rely (R := Aside c) (fun _ _ _ h h' => Aside.trans h h') hA hAs) hq
            exact ⟨fun m x hm hmj hx => hL.old m x hm hmj (by rw [Array.getElem?_setIfInBounds_ne (fun e => hmj e.symm)] at hx; exact hx), fun m hm => hL.above m (by simpa using hm)⟩
      · have hq := hL.old i g (by omega) h2 hi
        cases hqi : q i with
        | zero => rw [hqi] at hq; rw [hq.1] at hg; cases hg
        | succ k' =>
          rw [hqi] at hq
          rcases hq with ⟨hf, _⟩ | ⟨_, g', es, hm, hstp, hq'⟩
          · rw [hf] at hg; cases hg
          have hrun := runT_crowd_go (sl := sl') hi (by rw [hi0]; exact hstp (w.at d))
          rw [map_woken (wokeAll _ _ _)] at hrun
          obtain ⟨hL', hP'⟩ := leaver_slips hj0 hL hP (by omega) h2 hi hqi hm hq'
          refine Gets.step (ops := MemOp.ofEvents i g.frame.fn g.frame.place es) ?_ (hst.trans hrun)
          refine ih _ a b (w.at d) sl' _ (upd q i k') n k pc s r tm (by have := sum_down hlt hqi; simp; omega) (by rw [Array.getElem?_setIfInBounds_ne h1]; exact h0) (by rw [Array.getElem?_setIfInBounds_ne h2]; exact hj) hL' hP' (hC.app fun op hop => by rw [ofEv_g hop]; exact h2) (hSt _ _ hAs hS) hc1 (Goes.rely (R := Aside c) (fun _ _ _ h h' => Aside.trans h h') hA hAs) hB

theorem noWays_recv {W : World} {x : Array Goroutine} {s r : Nat} {tm : Bool} (hc : W.heap[c]? = some (.chan 0 #[] false s r tm)) (hp : partners x c true = []) : ∀ cc ∈ #[rcase c z], NoWays W x cc := by
  intro cc hcc
  simp at hcc; subst hcc
  exact ⟨made_recv z hc, by simp [ways, rcase, hc, hp]⟩
theorem noWays_send {W : World} {x : Array Goroutine} {s r : Nat} {tm : Bool} {v z' : Value} (hc : W.heap[c]? = some (.chan 0 #[] false s r tm)) (hp : partners x c false = []) : ∀ cc ∈ #[scase c v z'], NoWays W x cc := by
  intro cc hcc
  simp at hcc; subst hcc
  exact ⟨made_send v z' hc, by simp [ways, scase, hc, hp]⟩

theorem commWords {u : Trace} (h : ∀ op ∈ u, op.act.touch? = none ∧ ∀ m, op.act ≠ .mark m) : Wordless u := fun op hop m e => absurd e ((h op hop).2 m)
theorem LeavX.silent (h : LeavX P j t gs q) {u : Trace} (hd : Wordless u) {gs' : Array Goroutine} (hsz : gs'.size = gs.size) (hg : ∀ k, k ≠ 0 → k ≠ j → gs'[k]? = gs[k]?) : LeavX P j (t ++ u) gs' q :=
  ⟨fun k g hk hkj hx => by rw [hg k (by omega) hkj] at hx; rw [deaf_wordless hd]; exact h.old k g hk hkj hx, fun k hk => by rw [deaf_wordless hd]; exact h.above k (by omega)⟩

/-- the channel is open, the values vs are still to pass -/
theorem open_gets (hj0 : j ≠ 0) {τ : Nat → Question → Nat} (hSt : ∀ w w₁, Aside c w w₁ → S w → S w₁) (hτ : ∀ w, S w → w.tape = τ) :
    ∀ (vs : List Value) (M : Nat) (gs : Array Goroutine) (a b : Goroutine) (w : World) (sl : Option (Nat × Nat)) (t : Trace) (q : Nat → Nat) (ra rb s r : Nat) (tm : Bool), ra + rb + sumTo gs.size q < M → 0 < ra + rb → gs[0]? = some a → gs[j]? = some b →
    LeavX P j t gs q → PhT j Mine t → S w → w.heap[c]? = some (.chan 0 #[] false s r tm) → SitA P c S Mine z (fun g w => To P T g w) vs ra a w → SitB P c S Mine vs rb b →
    Gets P T τ (crowd gs w sl) t := by
  intro vs
  induction vs with
  | nil =>
    intro M
    induction M with
    | zero => intro gs a b w sl t q ra rb s r tm hM; omega
    | succ M ih =>
      intro gs a b w sl t q ra rb s r tm hM hpos h0 hj hL hP hS hc hA hB
      have sA := hA.status
      have sB := hB.status hS
      have awA : awake a := awake_of (by rcases sA with ⟨h, _⟩ | ⟨h, _⟩ <;> simp [h])
      have awB : awake b := awake_of (by rcases sB with ⟨h, _⟩ | ⟨h, _⟩ <;> simp [h])
      have hlt0 : 0 < gs.size := (Array.getElem?_eq_some_iff.1 h0).1
      have hltj : j < gs.size := (Array.getElem?_eq_some_iff.1 hj).1
      have some1 : ∃ (i : Nat) (g : Goroutine), gs[i]? = some g ∧ g.status = .running := by
        rcases sA with ⟨h, _⟩ | ⟨_, e0⟩
        · exact ⟨0, a, h0, h⟩
        · rcases sB with ⟨h, _⟩ | ⟨_, e1⟩
          · exact ⟨j, b, hj, h⟩
          · omega
      obtain ⟨i, g, d, sl', hi, hg, hst⟩ := crowd_pick (P := P) (w := w) (sl := sl) (awake_all hL h0 hj awA awB) some1
      have hlt : i < gs.size := (Array.getElem?_eq_some_iff.1 hi).1
      have hAs : Aside c w (w.at d) := Aside.at c w d
      have hS1 : S (w.at d) := hSt _ _ hAs hS
      have hc1 : (w.at d).heap[c]? = some (.chan 0 #[] false s r tm) := hc
      have hw2 : Aside c (w.at d) ((w.at d).passed c s r tm) := Aside.put c _ _
      have setne : ∀ (x y : Goroutine) (k : Nat), k ≠ 0 → k ≠ j → ((gs.setIfInBounds j x).setIfInBounds 0 y)[k]? = gs[k]? := fun x y k h1 h2 => by
        rw [Array.getElem?_setIfInBounds_ne (fun e => h1 e.symm), Array.getElem?_setIfInBounds_ne (fun e => h2 e.symm)]
      have wokeAll : ∀ (x x' : Goroutine) (W : World), W.heap[c]? = some (.chan 0 #[] false s r tm) → ∀ (k : Nat) (g : Goroutine), gs[k]? = some g → woken P x x' W g = g := by
        intro x x' W hW n g hg
        by_cases h1 : n = 0
        · subst h1; rw [h0] at hg; cases hg; exact hA.woken hW
        · by_cases h2 : n = j
          · subst h2; rw [hj] at hg; cases hg; exact hB.woken hS hW
          · exact woken_quitsD (hL.old n g (by omega) h2 hg)
      by_cases h1 : i = 0
      · -- THE RECEIVER MOVES
        subst h1
        obtain rfl : g = a := by rw [h0] at hi; exact (Option.some.inj hi).symm
        rcases hA with ⟨n, rfl, hgo⟩ | ⟨_, g0, rfl, _⟩
        · rcases hgo.cases with hstop | ⟨n', rfl, hstep⟩
          · have hat := hstop _ hAs
            obtain ⟨es, hcomm, hes⟩ := hat.comm
            rcases hB with ⟨k, rfl, hgb⟩ | ⟨rfl, v', vs', g₂, z', hvs, rfl, hnext⟩
            · -- the sender is on its way: the receiver waits
              have hbs : b.status ≠ .blocked := by rw [hgb.running (fun _ _ => StopB.running) w hS]; simp
              have hp : partners (gs.setIfInBounds 0 ph) c true = [] := partners_nil fun m x hx => by
                rcases getElem?_stand _ _ _ _ hx with ⟨_, rfl⟩ | ⟨hm, hx⟩
                · exact offersAt_ph _ _
                · by_cases hmj : m = j
                  · subst hmj; rw [hj] at hx; cases hx; exact offersAt_of_not_blocked hbs _ _
                  · exact offers_none hL (by omega) hmj hx _ _
              have hrun := crowd_waits (sl := sl') hi (show stepG P (0 == 0) g (w.at d) = _ from hcomm) (noWays_recv hc1 hp)
              refine Gets.step (ops := MemOp.ofEvents 0 g.frame.fn g.frame.place es) ?_ (hst.trans hrun)
              refine ih _ (parked (core g) #[rcase c z] (.recv true)) b (w.at d) sl' _ q 0 (k + 1) s r tm (by simp; omega) (by omega) (by simp [hlt0]) (by rw [Array.getElem?_setIfInBounds_ne (fun e => hj0 e.symm)]; exact hj) ?_ (hP.own0 hj0 hes) hS1 hc1
                (.inr ⟨rfl, g, rfl, fun w₁ h₁ => hstop w₁ (hAs.trans h₁)⟩) (.inl ⟨k, rfl, hgb⟩)
              exact hL.silent (late0 hes).1 (by simp) fun k hk _ => by rw [Array.getElem?_setIfInBounds_ne (fun e => hk e.symm)]
            · cases hvs
          · obtain ⟨a', w', es, hgo', ⟨hSS, hcc, hes⟩, hg'⟩ := hstep _ hAs
            have hrun := runT_crowd_go (sl := sl') hi (show stepG P (0 == 0) g (w.at d) = _ from hgo')
            have hcw : w'.heap[c]? = some (.chan 0 #[] false s r tm) := hcc.trans hc1
            rw [map_woken (wokeAll _ _ _ hcw)] at hrun
            refine Gets.step (ops := MemOp.ofEvents 0 g.frame.fn g.frame.place es) ?_ (hst.trans hrun)
            refine ih _ a' b w' sl' _ q (n' + 1) rb s r tm (by simp; omega) (by omega) (by simp [hlt0]) (by rw [Array.getElem?_setIfInBounds_ne (fun e => hj0 e.symm)]; exact hj) ?_ (hP.own0 hj0 hes) (hSS hS1) hcw (.inl ⟨n', rfl, hg'⟩) hB
            exact hL.silent (late0 hes).1 (by simp) fun k hk _ => by rw [Array.getElem?_setIfInBounds_ne (fun e => hk e.symm)]
        · simp [parked] at hg
      · have hi0 : (i == 0) = false := by simpa using h1
        by_cases h2 : i = j
        · -- THE SENDER MOVES
          subst h2
          obtain rfl : g = b := by rw [hj] at hi; exact (Option.some.inj hi).symm
          rcases hB with ⟨k, rfl, hgb⟩ | ⟨_, v', vs', g₂, z', hvs, rfl, _⟩
          · rcases hgb.cases with hstop | ⟨k', rfl, hstep⟩
            · have hat := hstop _ hS1
              -- it closes the channel
              obtain ⟨_, hwake, g₂, es, nq, hclose, hes, hq⟩ := hat
              have hgo := hclose _ s r tm hS1 hc1
              have hw3 : Aside c (w.at d) ((w.at d).shut c s r tm) := Aside.put c _ _
              have hc2 : ((w.at d).shut c s r tm).heap[c]? = some (.chan 0 #[] true s r tm) := heap_put hc1
              have hwk : ∀ o, woken P g g₂ ((w.at d).shut c s r tm) o = o.again ((w.at d).shut c s r tm) := by
                intro o; unfold Go.Conc.woken; rcases hq.status with h | h <;> simp [hwake, h]
              have hA' : ∃ n, Goes P true (Aside c) (DA c S Mine) (StopA P c S Mine z (fun g w => To P T g w) []) n (a.again ((w.at d).shut c s r tm)) ((w.at d).shut c s r tm) := by
                rcases hA with ⟨n, _, hg⟩ | ⟨_, g, rfl, hs⟩
                · rw [again_running _ (.inl (hg.running (fun _ _ => StopA.running) w (Aside.refl c w)))]
                  exact ⟨n, Goes.rely (R := Aside c) (fun _ _ _ h h' => Aside.trans h h') hg (hAs.trans hw3)⟩
                · rw [again_parked_shut rfl hc2]
                  exact ⟨0, fun w₁ h₁ => (hs w₁ ((hAs.trans hw3).trans h₁)).again⟩
              obtain ⟨na, hna⟩ := hA'
              have hrun := runT_crowd_go (sl := sl') hi (by rw [hi0]; exact hgo)
              refine Gets.step ?_ (hst.trans hrun)
              have hmap : (gs.map (woken P g g₂ ((w.at d).shut c s r tm))).setIfInBounds i g₂ = (gs.setIfInBounds 0 (a.again ((w.at d).shut c s r tm))).setIfInBounds i g₂ := by
                apply Array.ext_getElem?
                intro m
                by_cases hm : i = m
                · subst hm; simp [hlt]
                · rw [Array.getElem?_setIfInBounds_ne hm, Array.getElem?_setIfInBounds_ne hm, Array.getElem?_map]
                  by_cases hm0 : m = 0
                  · subst hm0; rw [h0]; simp [hlt0, hwk]
                  · rw [Array.getElem?_setIfInBounds_ne (fun e => hm0 e.symm)]
                    cases hx : gs[m]? with
                    | none => rfl
                    | some x => simp only [Option.map_some]; rw [woken_quitsD (hL.old m x (by omega) (fun e => hm e.symm) hx)]
              rw [hmap, ofEvents_push, Array.push_eq_append, ← Array.append_assoc]
              obtain ⟨hP2, hC2⟩ := phC_new (hP.ownj (fn := g.frame.fn) (pos := g.frame.place) hes) (c := c) (x := { g := i, fn := g.frame.fn, pos := g.frame.place, act := .ofEvent ⟨.obj c, true, true⟩ }) ⟨rfl, rfl⟩
              have hq2 : ∀ op ∈ #[({ g := i, fn := g.frame.fn, pos := g.frame.place, act := .ofEvent ⟨.obj c, true, true⟩ } : MemOp)], op.act.touch? = none ∧ ∀ m, op.act ≠ .mark m := by
                intro op hop; simp at hop; subst hop; exact ⟨rfl, by simp [MemAct.ofEvent]⟩
              refine shut_gets hj0 hSt hτ (na + nq + sumTo gs.size q + 1) _ (a.again ((w.at d).shut c s r tm)) g₂ ((w.at d).shut c s r tm) sl' _ q na nq _ s r tm (by simp) (by rw [Array.getElem?_setIfInBounds_ne h1]; simp [hlt0]) (by simp [hlt]) ?_ hP2 hC2 (hSt _ _ hw3 hS1) hc2 hna hq
              exact (hL.silent (ev_words (Q := fun _ => True) fun e he => (hes e he).1) rfl fun _ _ _ => rfl).silent (commWords hq2) (by simp) fun k hk1 hk2 => by
                rw [Array.getElem?_setIfInBounds_ne (fun e => hk2 e.symm), Array.getElem?_setIfInBounds_ne (fun e => hk1 e.symm)]
            · obtain ⟨b', w', es, hgo', ⟨hww, hes⟩, hg'⟩ := hstep _ hS1
              subst hww
              have hrun := runT_crowd_go (sl := sl') hi (by rw [hi0]; exact hgo')
              rw [map_woken (wokeAll _ _ _ hc1)] at hrun
              refine Gets.step (ops := MemOp.ofEvents i g.frame.fn g.frame.place es) ?_ (hst.trans hrun)
              refine ih _ a b' (w.at d) sl' _ q ra (k' + 1) s r tm (by simp; omega) (by omega) (by rw [Array.getElem?_setIfInBounds_ne h1]; exact h0) (by simp [hlt]) ?_ (hP.ownj hes) hS1 hc1 (hA.rely hAs) (.inl ⟨k', rfl, hg'.anyWorld default⟩)
              exact hL.silent (ev_words (Q := fun _ => True) fun e he => (hes e he).1) (by simp) fun k _ hk => by rw [Array.getElem?_setIfInBounds_ne (fun e => hk e.symm)]
          · simp [parked] at hg
        · -- a leaver slips
          have hq := hL.old i g (by omega) h2 hi
          cases hqi : q i with
          | zero => rw [hqi] at hq; rw [hq.1] at hg; cases hg
          | succ k' =>
            rw [hqi] at hq
            rcases hq with ⟨hf, _⟩ | ⟨_, g', es, hm, hstp, hq'⟩
            · rw [hf] at hg; cases hg
            have hrun := runT_crowd_go (sl := sl') hi (by rw [hi0]; exact hstp (w.at d))
            rw [map_woken (wokeAll _ _ _ hc1)] at hrun
            obtain ⟨hL', hP'⟩ := leaver_slips hj0 hL hP (by omega) h2 hi hqi hm hq'
            refine Gets.step (ops := MemOp.ofEvents i g.frame.fn g.frame.place es) ?_ (hst.trans hrun)
            exact ih _ a b (w.at d) sl' _ (upd q i k') ra rb s r tm (by have := sum_down hlt hqi; simp; omega) hpos (by rw [Array.getElem?_setIfInBounds_ne h1]; exact h0) (by rw [Array.getElem?_setIfInBounds_ne h2]; exact hj) hL' hP' hS1 hc1 (hA.rely hAs) hB
  | cons v vs ihv =>
    intro M
    induction M with
    | zero => intro gs a b w sl t q ra rb s r tm hM; omega
    | succ M ih =>
      intro gs a b w sl t q ra rb s r tm hM hpos h0 hj hL hP hS hc hA hB
      have sA := hA.status
      have sB := hB.status hS
      have awA : awake a := awake_of (by rcases sA with ⟨h, _⟩ | ⟨h, _⟩ <;> simp [h])
      have awB : awake b := awake_of (by rcases sB with ⟨h, _⟩ | ⟨h, _⟩ <;> simp [h])
      have hlt0 : 0 < gs.size := (Array.getElem?_eq_some_iff.1 h0).1
      have hltj : j < gs.size := (Array.getElem?_eq_some_iff.1 hj).1
      have some1 : ∃ (i : Nat) (g : Goroutine), gs[i]? = some g ∧ g.status = .running := by
        rcases sA with ⟨h, _⟩ | ⟨_, e0⟩
        · exact ⟨0, a, h0, h⟩
        · rcases sB with ⟨h, _⟩ | ⟨_, e1⟩
          · exact ⟨j, b, hj, h⟩
          · omega
      obtain ⟨i, g, d, sl', hi, hg, hst⟩ := crowd_pick (P := P) (w := w) (sl := sl) (awake_all hL h0 hj awA awB) some1
      have hlt : i < gs.size := (Array.getElem?_eq_some_iff.1 hi).1
      have hAs : Aside c w (w.at d) := Aside.at c w d
      have hS1 : S (w.at d) := hSt _ _ hAs hS
      have hc1 : (w.at d).heap[c]? = some (.chan 0 #[] false s r tm) := hc
      have hw2 : Aside c (w.at d) ((w.at d).passed c s r tm) := Aside.put c _ _
      have setne : ∀ (x y : Goroutine) (k : Nat), k ≠ 0 → k ≠ j → ((gs.setIfInBounds j x).setIfInBounds 0 y)[k]? = gs[k]? := fun x y k h1 h2 => by
        rw [Array.getElem?_setIfInBounds_ne (fun e => h1 e.symm), Array.getElem?_setIfInBounds_ne (fun e => h2 e.symm)]
      have wokeAll : ∀ (x x' : Goroutine) (W : World), W.heap[c]? = some (.chan 0 #[] false s r tm) → ∀ (k : Nat) (g : Goroutine), gs[k]? = some g → woken P x x' W g = g := by
        intro x x' W hW n g hg
        by_cases h1 : n = 0
        · subst h1; rw [h0] at hg; cases hg; exact hA.woken hW
        · by_cases h2 : n = j
          · subst h2; rw [hj] at hg; cases hg; exact hB.woken hS hW
          · exact woken_quitsD (hL.old n g (by omega) h2 hg)
      by_cases h1 : i = 0
      · -- THE RECEIVER MOVES
        subst h1
        obtain rfl : g = a := by rw [h0] at hi; exact (Option.some.inj hi).symm
        rcases hA with ⟨n, rfl, hgo⟩ | ⟨_, g0, rfl, _⟩
        · rcases hgo.cases with hstop | ⟨n', rfl, hstep⟩
          · have hat := hstop _ hAs
            obtain ⟨es, hcomm, hes⟩ := hat.comm
            rcases hB with ⟨k, rfl, hgb⟩ | ⟨rfl, v', vs', g₂, z', hvs, rfl, hnext⟩
            · -- the sender is on its way: the receiver waits
              have hbs : b.status ≠ .blocked := by rw [hgb.running (fun _ _ => StopB.running) w hS]; simp
              have hp : partners (gs.setIfInBounds 0 ph) c true = [] := partners_nil fun m x hx => by
                rcases getElem?_stand _ _ _ _ hx with ⟨_, rfl⟩ | ⟨hm, hx⟩
                · exact offersAt_ph _ _
                · by_cases hmj : m = j
                  · subst hmj; rw [hj] at hx; cases hx; exact offersAt_of_not_blocked hbs _ _
                  · exact offers_none hL (by omega) hmj hx _ _
              have hrun := crowd_waits (sl := sl') hi (show stepG P (0 == 0) g (w.at d) = _ from hcomm) (noWays_recv hc1 hp)
              refine Gets.step (ops := MemOp.ofEvents 0 g.frame.fn g.frame.place es) ?_ (hst.trans hrun)
              refine ih _ (parked (core g) #[rcase c z] (.recv true)) b (w.at d) sl' _ q 0 (k + 1) s r tm (by simp; omega) (by omega) (by simp [hlt0]) (by rw [Array.getElem?_setIfInBounds_ne (fun e => hj0 e.symm)]; exact hj) ?_ (hP.own0 hj0 hes) hS1 hc1
                (.inr ⟨rfl, g, rfl, fun w₁ h₁ => hstop w₁ (hAs.trans h₁)⟩) (.inl ⟨k, rfl, hgb⟩)
              exact hL.silent (late0 hes).1 (by simp) fun k hk _ => by rw [Array.getElem?_setIfInBounds_ne (fun e => hk e.symm)]
            · cases hvs
              -- the sender waits: both are served in this one step
              have hp : partners (gs.setIfInBounds 0 ph) c true = [(j, 0)] := by
                rw [partners_one (j := j) (stand_get hj0 hj) fun m x hm hx => ?_]
                · simp [offersAt_parked_send]
                · rcases getElem?_stand _ _ _ _ hx with ⟨_, rfl⟩ | ⟨hm0, hx⟩
                  · exact offersAt_ph _ _
                  · exact offers_none hL (by omega) hm hx _ _
              have hrun := crowd_recv_meets (sl := sl') hi (show stepG P (0 == 0) g (w.at d) = _ from hcomm) hc1 hj0 hj hp
              rw [finishComm_recv, finishComm_send] at hrun
              obtain ⟨na, hna⟩ := (recvs_iff P c S Mine z _ vs _ _).1 (hat.cons _ hw2)
              obtain ⟨nb, hnb⟩ := (sends_iff P c S Mine vs _).1 hnext
              refine Gets.step ?_ (hst.trans hrun)
              rw [← Array.append_assoc]
              have hq2 : ∀ op ∈ #[({ g := j, fn := g₂.frame.fn, pos := g₂.frame.place, act := .send c s } : MemOp), { g := 0, fn := (core g).frame.fn, pos := (core g).frame.place, act := .recv c r 0 },
                  { g := j, fn := g₂.frame.fn, pos := g₂.frame.place, act := .sendDone c s }, { g := 0, fn := (core g).frame.fn, pos := (core g).frame.place, act := .recvDone c r }], op.act.touch? = none ∧ ∀ m, op.act ≠ .mark m := by
                intro op hop; simp at hop; rcases hop with rfl | rfl | rfl | rfl <;> exact ⟨rfl, by simp⟩
              refine ihv (na + 1 + (nb + 1) + sumTo gs.size q + 1) _ (Conc.served (core g) (.tuple #[v, .bool true])) (Conc.served g₂ undef) ((w.at d).passed c s r tm) sl' _ q (na + 1) (nb + 1) (s + 1) (r + 1) tm (by simp) (by omega) (by simp [hlt0]; rfl) (by rw [Array.getElem?_setIfInBounds_ne (fun e => hj0 e.symm)]; simp [hltj]) ?_ ((hP.own0 hj0 hes).comm hq2) (hSt _ _ hw2 hS1) (heap_put hc1) (.inl ⟨na, rfl, hna⟩) (.inl ⟨nb, rfl, hnb⟩)
              exact (hL.silent (late0 hes).1 rfl fun _ _ _ => rfl).silent (commWords hq2) (by simp) fun k h1 h2 => setne _ _ k h1 h2
          · obtain ⟨a', w', es, hgo', ⟨hSS, hcc, hes⟩, hg'⟩ := hstep _ hAs
            have hrun := runT_crowd_go (sl := sl') hi (show stepG P (0 == 0) g (w.at d) = _ from hgo')
            have hcw : w'.heap[c]? = some (.chan 0 #[] false s r tm) := hcc.trans hc1
            rw [map_woken (wokeAll _ _ _ hcw)] at hrun
            refine Gets.step (ops := MemOp.ofEvents 0 g.frame.fn g.frame.place es) ?_ (hst.trans hrun)
            refine ih _ a' b w' sl' _ q (n' + 1) rb s r tm (by simp; omega) (by omega) (by simp [hlt0]) (by rw [Array.getElem?_setIfInBounds_ne (fun e => hj0 e.symm)]; exact hj) ?_ (hP.own0 hj0 hes) (hSS hS1) hcw (.inl ⟨n', rfl, hg'⟩) hB
            exact hL.silent (late0 hes).1 (by simp) fun k hk _ => by rw [Array.getElem?_setIfInBounds_ne (fun e => hk e.symm)]
        · simp [parked] at hg
      · have hi0 : (i == 0) = false := by simpa using h1
        by_cases h2 : i = j
        · -- THE SENDER MOVES
          subst h2
          obtain rfl : g = b := by rw [hj] at hi; exact (Option.some.inj hi).symm
          rcases hB with ⟨k, rfl, hgb⟩ | ⟨_, v', vs', g₂, z', hvs, rfl, _⟩
          · rcases hgb.cases with hstop | ⟨k', rfl, hstep⟩
            · have hat := hstop _ hS1
              obtain ⟨_, g₂, z', es, hcomm, hes, hnext⟩ := hat
              have hcm := hcomm _ hS1
              rcases hA with ⟨n, rfl, hgo⟩ | ⟨rfl, g0, rfl, hs⟩
              · -- the receiver is on its way: the sender waits
                have has : a.status ≠ .blocked := by rw [hgo.running (fun _ _ => StopA.running) w (Aside.refl c w)]; simp
                have hp : partners (gs.setIfInBounds i ph) c false = [] := partners_nil fun m x hx => by
                  rcases getElem?_stand _ _ _ _ hx with ⟨_, rfl⟩ | ⟨hm, hx⟩
                  · exact offersAt_ph _ _
                  · by_cases hm0 : m = 0
                    · subst hm0; rw [h0] at hx; cases hx; exact offersAt_of_not_blocked has _ _
                    · exact offers_none hL (by omega) hm hx _ _
                have hrun := crowd_waits (sl := sl') hi (by rw [hi0]; exact hcm) (noWays_send hc1 hp)
                refine Gets.step (ops := MemOp.ofEvents i g.frame.fn g.frame.place es) ?_ (hst.trans hrun)
                refine ih _ a (parked g₂ #[scase c v z'] .send) (w.at d) sl' _ q (n + 1) 0 s r tm (by simp; omega) (by omega) (by rw [Array.getElem?_setIfInBounds_ne h1]; exact h0) (by simp [hlt]) ?_ (hP.ownj hes) hS1 hc1
                  (.inl ⟨n, rfl, Goes.rely (R := Aside c) (fun _ _ _ h h' => Aside.trans h h') hgo hAs⟩) (.inr ⟨rfl, v, vs, g₂, z', rfl, rfl, hnext⟩)
                exact hL.silent (ev_words (Q := fun _ => True) fun e he => (hes e he).1) (by simp) fun k _ hk => by rw [Array.getElem?_setIfInBounds_ne (fun e => hk e.symm)]
              · -- the receiver waits: both are served in this one step
                have h0i : (0 : Nat) ≠ i := fun e => h1 e.symm
                have hp : partners (gs.setIfInBounds i ph) c false = [(0, 0)] := by
                  rw [partners_one (j := 0) (stand_get h0i h0) fun m x hm hx => ?_]
                  · simp [offersAt_parked_recv]
                  · rcases getElem?_stand _ _ _ _ hx with ⟨_, rfl⟩ | ⟨hmi, hx⟩
                    · exact offersAt_ph _ _
                    · exact offers_none hL (by omega) hmi hx _ _
                have hrun := crowd_send_meets (sl := sl') hi (by rw [hi0]; exact hcm) hc1 h0i h0 hp
                rw [finishComm_recv, finishComm_send] at hrun
                obtain ⟨na, hna⟩ := (recvs_iff P c S Mine z _ vs _ _).1 ((hs _ hAs).cons _ hw2)
                obtain ⟨nb, hnb⟩ := (sends_iff P c S Mine vs _).1 hnext
                refine Gets.step ?_ (hst.trans hrun)
                rw [← Array.append_assoc]
                have hq2 : ∀ op ∈ #[({ g := i, fn := g₂.frame.fn, pos := g₂.frame.place, act := .send c s } : MemOp), { g := 0, fn := (core g0).frame.fn, pos := (core g0).frame.place, act := .recv c r 0 },
                    { g := i, fn := g₂.frame.fn, pos := g₂.frame.place, act := .sendDone c s }, { g := 0, fn := (core g0).frame.fn, pos := (core g0).frame.place, act := .recvDone c r }], op.act.touch? = none ∧ ∀ m, op.act ≠ .mark m := by
                  intro op hop; simp at hop; rcases hop with rfl | rfl | rfl | rfl <;> exact ⟨rfl, by simp⟩
                refine ihv (na + 1 + (nb + 1) + sumTo gs.size q + 1) _ (Conc.served (core g0) (.tuple #[v, .bool true])) (Conc.served g₂ undef) ((w.at d).passed c s r tm) sl' _ q (na + 1) (nb + 1) (s + 1) (r + 1) tm (by simp) (by omega) (by rw [Array.getElem?_setIfInBounds_ne h1]; simp [hlt0]; rfl) (by simp [hltj]) ?_ ((hP.ownj hes).comm hq2) (hSt _ _ hw2 hS1) (heap_put hc1) (.inl ⟨na, rfl, hna⟩) (.inl ⟨nb, rfl, hnb⟩)
                exact (hL.silent (ev_words (Q := fun _ => True) fun e he => (hes e he).1) rfl fun _ _ _ => rfl).silent (commWords hq2) (by simp) fun k hk1 hk2 => by
                  rw [Array.getElem?_setIfInBounds_ne (fun e => hk2 e.symm), Array.getElem?_setIfInBounds_ne (fun e => hk1 e.symm)]
            · obtain ⟨b', w', es, hgo', ⟨hww, hes⟩, hg'⟩ := hstep _ hS1
              subst hww
              have hrun := runT_crowd_go (sl := sl') hi (by rw [hi0]; exact hgo')
              rw [map_woken (wokeAll _ _ _ hc1)] at hrun
              refine Gets.step (ops := MemOp.ofEvents i g.frame.fn g.frame.place es) ?_ (hst.trans hrun)
              refine ih _ a b' (w.at d) sl' _ q ra (k' + 1) s r tm (by simp; omega) (by omega) (by rw [Array.getElem?_setIfInBounds_ne h1]; exact h0) (by simp [hlt]) ?_ (hP.ownj hes) hS1 hc1 (hA.rely hAs) (.inl ⟨k', rfl, hg'.anyWorld default⟩)
              exact hL.silent (ev_words (Q := fun _ => True) fun e he => (hes e he).1) (by simp) fun k _ hk => by rw [Array.getElem?_setIfInBounds_ne (fun e => hk e.symm)]
          · simp [parked] at hg
        · -- a leaver slips
          have hq := hL.old i g (by omega) h2 hi
          cases hqi : q i with
          | zero => rw [hqi] at hq; rw [hq.1] at hg; cases hg
          | succ k' =>
            rw [hqi] at hq
            rcases hq with ⟨hf, _⟩ | ⟨_, g', es, hm, hstp, hq'⟩
            · rw [hf] at hg; cases hg
            have hrun := runT_crowd_go (sl := sl') hi (by rw [hi0]; exact hstp (w.at d))
            rw [map_woken (wokeAll _ _ _ hc1)] at hrun
            obtain ⟨hL', hP'⟩ := leaver_slips hj0 hL hP (by omega) h2 hi hqi hm hq'
            refine Gets.step (ops := MemOp.ofEvents i g.frame.fn g.frame.place es) ?_ (hst.trans hrun)
            exact ih _ a b (w.at d) sl' _ (upd q i k') ra rb s r tm (by have := sum_down hlt hqi; simp; omega) hpos (by rw [Array.getElem?_setIfInBounds_ne h1]; exact h0) (by rw [Array.getElem?_setIfInBounds_ne h2]; exact hj) hL' hP' hS1 hc1 (hA.rely hAs) hB
end

end Go.Proofs.Ytjdijmccpihkhaa
