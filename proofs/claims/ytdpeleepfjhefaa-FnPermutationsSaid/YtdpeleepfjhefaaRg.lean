/- A range over a function whose rounds may trust in what the iterator hands out: as Rf, but a round knows that the elements so far are a beginning of what comes. -/
import Derived.Test.YtdpeleepfjhefaaRf
set_option linter.unusedVariables false
set_option linter.unusedSimpArgs false
set_option maxRecDepth 100000
namespace Go.Proofs.Ytdpeleepfjhefaa
open Go.ChangeShapes Go.WideShapes Go.ChangeAt Go.RowKit

/-- THE CONTRACT of an iterator's value, made in w, whose rounds may trust in what has come (Sp). Kp: what a round that goes on keeps; every round keeps the m blocks that the iterator lays ahead of the first one. -/
def SeqG {α : Type} (P : Program) (g : Nat) (lb : Array Value) (encs : α → Array Value) (Kp : World → World → Prop) (m : Nat) (S Sp : List α → Prop) (w : World) : Prop :=
  ∀ (l : Nat) (J Jx : List α → World → Prop) (W : World), Below w.heap.size w W → OwnFrom W.heap.size J → OwnFrom W.heap.size Jx →
    (∀ pre x W1, J pre W1 → Sp (pre ++ [x]) → W.heap.size + m ≤ W1.heap.size → YieldAt Fence.wide 0 P l (encs x) W1 fun e W' =>
      Area W.heap.size m W1 W' ∧ ((e = .returned (.bool true) ∧ J (pre ++ [x]) W' ∧ Kp W1 W') ∨ (e = .returned (.bool false) ∧ Jx (pre ++ [x]) W'))) →
    J [] W →
    CallsIn Fence.wide 0 P g (#[.func (.yield l) #[] #[]] ++ lb) W fun e W' => (∃ v, e = .returned v) ∧ ((∃ xs, S xs ∧ J xs W') ∨ (∃ pre, Sp pre ∧ Jx pre W'))

theorem SeqG.later {α : Type} {P : Program} {g : Nat} {lb : Array Value} {encs : α → Array Value} {Kp : World → World → Prop} {m : Nat} {S Sp : List α → Prop} {w w' : World}
    (h : SeqG P g lb encs Kp m S Sp w) (hb : Below w.heap.size w w') : SeqG P g lb encs Kp m S Sp w' :=
  fun l J Jx W hW => h l J Jx W (hb.trans (hW.mono hb.size))

set_option maxHeartbeats 1000000 in
/-- THE LAW of the statement. -/
theorem rangeG {α : Type} {P : Program} {g : Operand} {ps : Array Tmp} {assign body : Code} {Q : Exit → Act → World → Prop} {a : Act} {w : World}
    {gf : Nat} {lb : Array Value} (hg : a.eval g = .func (.func gf) #[] lb) (eg : ∀ args w, (callFunc gf args).run P w = .ok (.enter gf args) w)
    {encs : α → Array Value} {Kp : World → World → Prop} {m : Nat} {S Sp : List α → Prop} {w0 : World} (hseq : SeqG P gf lb encs Kp m S Sp w0)
    (hKt : ∀ {X Y Z : World}, Kp X Y → Kp Y Z → Kp X Z) (hKb : ∀ (X : World) (l : Nat) (o : Obj), w.heap.size ≤ l → w.heap.size ≤ X.heap.size → Kp X (X.putObj l o)) (hb0 : Below w0.heap.size w0 w) (hps : ∀ x, (encs x).size = ps.size)
    (I : List α → World → Prop) (Ix : Code → List α → World → Prop) (hI : OwnFrom w.heap.size I) (hIx : ∀ c, OwnFrom w.heap.size (Ix c)) (h0 : I [] w) (a₁ : α → Act)
    (hassign : ∀ (l : Nat) (x : α) (W : World) (K : Act → World → Prop), K (a₁ x) W →
      assign.wpIn (Fence.wide.inRound l) 0 P (Exit.then K (fun _ _ _ => False)) { tmps := (ps.zip (encs x)).foldl (fun t (p, v) => t.setIfInBounds p v) a.tmps, defers := [] } W)
    (hbody : ∀ (l : Nat) (pre : List α) (x : α) (W : World), I pre W → Sp (pre ++ [x]) → w.heap.size + (2 + m) ≤ W.heap.size → Books w.heap.size W →
      body.wpIn (Fence.wide.inRound l) 0 P (postW w.heap.size m Kp I Ix (pre ++ [x]) W) (a₁ x) W)
    (hdone : ∀ (D : Nat) (xs : List α) (W : World), w.heap.size ≤ D → S xs → I xs W → W.heap[D]? = some (.deferred (some [])) → Q .normal { a with defers := { target := .collected D, args := #[] } :: a.defers } W)
    (hstop : ∀ (D : Nat) (c : Code) (pre : List α) (W : World), w.heap.size ≤ D → Sp pre → Ix c pre W → W.heap[D]? = some (.deferred (some [])) → c.wpIn Fence.wide 0 P Q { a with defers := { target := .collected D, args := #[] } :: a.defers } W) :
    (Code.rangeFunc g ps assign body).wpIn Fence.wide 0 P Q a w := by
  refine wpIn_rangeFunc fun fn hfn => ?_
  obtain ⟨B, hB⟩ : ∃ B, B = w.heap.size := ⟨_, rfl⟩
  rw [← hB] at hI hIx hKb hbody hdone hstop
  obtain ⟨r, hr⟩ : ∃ r : LoopState → Option Code → Loop, r = fun st pe => { state := st, pending := pe, fn, tmps := a.tmps, params := ps, assign, body, defers := B } := ⟨_, rfl⟩
  obtain ⟨W1, hW1⟩ : ∃ W1, (w.alloc (.deferred (some []))).alloc (.loop (r .ready none)) = W1 := ⟨_, rfl⟩
  have hs1 : W1.heap.size = B + 2 := by rw [← hW1, hB]; simp
  have hL1 : W1.heap[B + 1]? = some (.loop (r .ready none)) := by
    have := World.alloc_heap_new (w.alloc (.deferred (some []))) (.loop (r .ready none))
    rwa [World.size_alloc, ← hB, hW1] at this
  have hK1 : W1.heap[B]? = some (.deferred (some [])) := by
    rw [← hW1, hB]; exact (Below.heap_alloc _ _ _ (by simp)).trans (World.alloc_heap_new w _)
  have hI1 : I [] W1 := by rw [← hW1]; exact hI.alloc _ (hI.alloc _ h0)
  have hb1 : Below w0.heap.size w0 W1 := by
    rw [← hW1]; exact (hb0.alloc hb0.size _).alloc (by have := hb0.size; simp; omega) _
  refine ⟨B + 1, [{ target := .collected B, args := #[] }], W1, { target := .fn (.func gf) lb, args := #[.func (.yield (B + 1)) #[] #[]] }, W1, gf,
    #[.func (.yield (B + 1)) #[] #[]] ++ lb, W1, ?_, ?_, fun f' hf' => trivial, by simp [invoke, go_sem, eg], (fun h => by simp [wide_depth] at h), ?_⟩
  · rw [← hW1, hr, hB]; exact run_enterLoop_outer _ _ _ _ _
  · simp only [resolve, hg]
    simp [go_sem]
  -- what holds between two rounds: the caller's word, and the two blocks of book-keeping
  have up : ∀ {X Y : World} {row : Option Nat} {st : LoopState} {pe : Option Code}, X.grownBy Y row → (∀ q, row = some q → W1.heap.size ≤ q ∧ ∃ o : Obj, X.heap[q]? = some o ∧ o.isCells = false) →
      (∀ q, row = some q → B ≤ q ∧ ∃ o : Obj, X.heap[q]? = some o ∧ o.isCells = false) ∧ (X.heap[B + 1]? = some (.loop (r st pe)) → Y.heap[B + 1]? = some (.loop (r st pe))) ∧ (X.heap[B]? = some (.deferred (some [])) → Y.heap[B]? = some (.deferred (some []))) :=
    fun hg' hq => ⟨fun q e => ⟨by have := (hq q e).1; omega, (hq q e).2⟩, block_kept hg' (fun q e => (hq q e).1) (by omega), block_kept hg' (fun q e => (hq q e).1) (by omega)⟩
  refine (hseq (B + 1)
    (fun pre W => I pre W ∧ W.heap[B + 1]? = some (.loop (r .ready none)) ∧ W.heap[B]? = some (.deferred (some [])))
    (fun pre W => ∃ c, Ix c pre W ∧ W.heap[B + 1]? = some (.loop (r .done (some c))) ∧ W.heap[B]? = some (.deferred (some [])))
    W1 hb1
    (fun s X Y row ⟨hi, hl, hk⟩ hg' hq => ⟨hI s X Y row hi hg' (up (st := .ready) (pe := none) hg' hq).1, (up hg' hq).2.1 hl, (up (st := .ready) (pe := none) hg' hq).2.2 hk⟩)
    (fun s X Y row ⟨c, hi, hl, hk⟩ hg' hq => ⟨c, hIx c s X Y row hi hg' (up (st := .ready) (pe := none) hg' hq).1, (up hg' hq).2.1 hl, (up (st := .ready) (pe := none) hg' hq).2.2 hk⟩)
    ?_ ⟨hI1, hL1, hK1⟩).mono ?_
  · rintro pre x W ⟨hi, hl, hk⟩ hlen hsW
    have hlt := heap_lt_of_some hl
    have hy := run_yield (P := P) (args := encs x) hl (by rw [hr]; exact hps x)
    rw [hr] at hy
    refine ⟨fn, _, assign, body, hy, roundIn_of_wpIn hfn (hassign _ x W _ ⟨_, run_beginRound hl (by rw [hr]), ?_⟩)⟩
    obtain ⟨V, hV⟩ : ∃ V, W.putObj (B + 1) (.loop { r .ready none with state := .busy }) = V := ⟨_, rfl⟩
    have hlV : V.heap[B + 1]? = some (.loop { r .ready none with state := .busy }) := by rw [← hV]; exact World.putObj_heap_same hlt
    have hkV : V.heap[B]? = some (.deferred (some [])) := by rw [← hV]; exact (World.putObj_heap_other (by omega)).trans hk
    have hbV : Kp W V := by rw [← hV]; exact hKb _ _ _ (by omega) (by omega)
    have hfV : Area (B + 2) m W V := by rw [← hV]; exact Area.putObj _ (by omega)
    have hiV : I pre V := by rw [← hV]; exact hI.putObj _ hi (by omega) hl rfl
    rw [hV]
    -- the end of a round, by whatever way its body is left
    have fin : ∀ (jump : Option Code) (X : World), Area B (2 + m) V X → ∃ Y, (Instr.endRound (B + 1) jump).run P X = .ok (.bool jump.isNone) Y ∧ Y = X.putObj (B + 1) (.loop (r (if jump.isNone then .ready else .done) jump)) ∧
        X.heap[B + 1]? = some (.loop { r .ready none with state := .busy }) ∧ Y.heap[B + 1]? = some (.loop (r (if jump.isNone then .ready else .done) jump)) ∧ Y.heap[B]? = some (.deferred (some [])) ∧ Area W1.heap.size m W Y := fun jump X hX => by
      have hlX := (hX (B + 1) (by omega) (by omega)).trans hlV
      have e := run_endRound (P := P) jump hlX
      refine ⟨_, e, ?_, hlX, ?_, ?_, ?_⟩
      · rw [hr]
      · rw [hr] at hlX ⊢; exact World.putObj_heap_same (heap_lt_of_some hlX)
      · exact (World.putObj_heap_other (by omega)).trans ((hX B (by omega) (by omega)).trans hkV)
      · rw [hs1]; exact (hfV.trans (hX.sub (by omega) (by omega))).trans (Area.putObj _ (by omega))
    refine wpIn_mono (hbody _ pre x V hiV hlen (by rw [← hV]; simp; omega) ⟨⟨_, hkV, rfl⟩, ⟨_, hlV, rfl⟩⟩) ?_
    have out : ∀ (c : Code) (X : World), Area B (2 + m) V X → Ix c (pre ++ [x]) X → ∃ v Y, (Instr.endRound (B + 1) (some c)).run P X = .ok v Y ∧ Area W1.heap.size m W Y ∧
        ((Ending.returned v = .returned (.bool true) ∧ (I (pre ++ [x]) Y ∧ Y.heap[B + 1]? = some (.loop (r .ready none)) ∧ Y.heap[B]? = some (.deferred (some []))) ∧ Kp W Y) ∨
          (Ending.returned v = .returned (.bool false) ∧ ∃ c, Ix c (pre ++ [x]) Y ∧ Y.heap[B + 1]? = some (.loop (r .done (some c))) ∧ Y.heap[B]? = some (.deferred (some [])))) := fun c X hX hi => by
      obtain ⟨Y, e, hY, hlX, hlY, hkY, hf⟩ := fin (some c) X hX
      exact ⟨_, Y, e, hf, .inr ⟨rfl, c, by rw [hY]; exact (hIx c).putObj _ hi (by omega) hlX rfl, hlY, hkY⟩⟩
    rintro e a3 X hp
    cases e with
    | normal =>
      obtain ⟨hX, hbX, hi3⟩ := hp
      obtain ⟨Y, e, hY, hlX, hlY, hkY, hf⟩ := fin none X hX
      refine ⟨_, Y, e, hf, .inl ⟨rfl, ⟨by rw [hY]; exact hI.putObj _ hi3 (by omega) hlX rfl, hlY, hkY⟩, ?_⟩⟩
      rw [hY]
      exact hKt (hKt hbV hbX) (hKb _ _ _ (by omega) (by have := heap_lt_of_some hlX; omega))
    | ret => exact out .ret X hp.1 hp.2
    | exit id => exact out (.exit id) X hp.1 hp.2
    | goto t => exact out (.goto t) X hp.1 hp.2
    | panic ch => exact hp.elim
    | outgrown => exact hp.elim
  · rintro e X ⟨⟨v, rfl⟩, (⟨xs, hS, hi, hl, hk⟩ | ⟨pre, hSp, c, hi, hl, hk⟩)⟩
    · exact ⟨none, _, by have := run_endLoop (P := P) hl (by rw [hr]; simp); rw [hr] at this; exact this, hdone B xs _ (Nat.le_refl _) hS (hI.putObj _ hi (by omega) hl rfl) ((World.putObj_heap_other (by omega)).trans hk)⟩
    · exact ⟨some c, _, by have := run_endLoop (P := P) hl (by rw [hr]; simp); rw [hr] at this; exact this, hstop B c pre _ (Nat.le_refl _) hSp ((hIx c).putObj _ hi (by omega) hl rfl) ((World.putObj_heap_other (by omega)).trans hk)⟩

end Go.Proofs.Ytdpeleepfjhefaa
