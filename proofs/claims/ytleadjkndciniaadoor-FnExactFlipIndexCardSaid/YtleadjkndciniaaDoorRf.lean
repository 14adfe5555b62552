/- A range over a function at the fence that asks nothing: the contract of an iterator's value whose rounds keep whatever holds no cells and was laid since the iterator was called, and the law of the statement over it. So an iterator may itself range over another one. -/
import Derived.Test.YtleadjkndciniaaDoorRow
import Derived.LoopIn
import Derived.LoopNIn
import Derived.Maps.AppendAt
import Derived.OwnWalkIn
import Derived.RangeFuncBound
import Derived.RangeFuncLeaves
import Derived.RangeFuncNested
import Derived.Shelf.Abstract
import Derived.TacticsInMore
set_option linter.unusedVariables false
set_option linter.unusedSimpArgs false
set_option maxRecDepth 100000
namespace Go.Proofs.YtleadjkndciniaaDoor
open Go.ChangeShapes Go.WideShapes Go.ChangeAt Go.RowKit

theorem wide_fn (f : FuncId) : Fence.wide.fn f = True := rfl
theorem wide_depth : Fence.wide.depth = none := rfl

/-- a block laid ahead of the one that turns -/
theorem block_kept {W W' : World} {row : Option Nat} {C k : Nat} {o : Obj} (hg : W.grownBy W' row) (hr : ∀ r, row = some r → C ≤ r) (hk : k < C) (h : W.heap[k]? = some o) : W'.heap[k]? = some o :=
  (hg.block k (heap_lt_of_some h) (fun e => by have := hr k e.symm; omega)).trans h

/-- blocks A up to A + m lie as they lay -/
def Area (A m : Nat) (W W' : World) : Prop := ∀ k, A ≤ k → k < A + m → W'.heap[k]? = W.heap[k]?
theorem Area.refl (A m : Nat) (W : World) : Area A m W W := fun _ _ _ => rfl
theorem Area.trans {A m : Nat} {X Y Z : World} (h : Area A m X Y) (h' : Area A m Y Z) : Area A m X Z := fun k h1 h2 => (h' k h1 h2).trans (h k h1 h2)
theorem Area.sub {A m A' m' : Nat} {X Y : World} (h : Area A m X Y) (h1 : A ≤ A') (h2 : A' + m' ≤ A + m) : Area A' m' X Y := fun k h3 h4 => h k (by omega) (by omega)
theorem Area.grown {A m : Nat} {X Y : World} {row : Option Nat} (hg : X.grownBy Y row) (hm : A + m ≤ X.heap.size) (hr : ∀ r, row = some r → r < A ∨ A + m ≤ r) : Area A m X Y :=
  fun k h1 h2 => hg.block k (by omega) (fun e => by have := hr k e.symm; omega)
theorem Area.putObj {A m l : Nat} {X : World} (o : Obj) (h : l < A ∨ A + m ≤ l) : Area A m X (X.putObj l o) :=
  fun k h1 h2 => World.putObj_heap_other (by omega)
theorem Area.setCell {A m : Nat} {X : World} (p : Addr) (v : Value) (h : p.block < A ∨ A + m ≤ p.block) : Area A m X (X.setCell p v) :=
  fun k h1 h2 => Below.heap_setCell X p v k (by omega)
theorem Area.alloc {A m : Nat} {X : World} (o : Obj) (hm : A + m ≤ X.heap.size) : Area A m X (X.alloc o) :=
  fun k h1 h2 => Below.heap_alloc X o k (by omega)
theorem Area.drewN {A m : Nat} {X : World} (q : Nat) : Area A m X (X.drewN q) := fun _ _ _ => rfl

/-- THE CONTRACT of an iterator's value, made in w. Kp: what a round that goes on keeps; every round keeps the m blocks that the iterator lays ahead of the first one. -/
def SeqW {α : Type} (P : Program) (g : Nat) (lb : Array Value) (encs : α → Array Value) (Kp : World → World → Prop) (m : Nat) (S Sp : List α → Prop) (N : Nat) (w : World) : Prop :=
  ∀ (l : Nat) (J Jx : List α → World → Prop) (W : World), Below w.heap.size w W → OwnFrom W.heap.size J → OwnFrom W.heap.size Jx →
    (∀ pre x W1, J pre W1 → pre.length < N → W.heap.size + m ≤ W1.heap.size → YieldAt Fence.wide 0 P l (encs x) W1 fun e W' =>
      Area W.heap.size m W1 W' ∧ ((e = .returned (.bool true) ∧ J (pre ++ [x]) W' ∧ Kp W1 W') ∨ (e = .returned (.bool false) ∧ Jx (pre ++ [x]) W'))) →
    J [] W →
    CallsIn Fence.wide 0 P g (#[.func (.yield l) #[] #[]] ++ lb) W fun e W' => (∃ v, e = .returned v) ∧ ((∃ xs, S xs ∧ J xs W') ∨ (∃ pre, Sp pre ∧ Jx pre W'))

theorem SeqW.later {α : Type} {P : Program} {g : Nat} {lb : Array Value} {encs : α → Array Value} {Kp : World → World → Prop} {m : Nat} {S Sp : List α → Prop} {N : Nat} {w w' : World}
    (h : SeqW P g lb encs Kp m S Sp N w) (hb : Below w.heap.size w w') : SeqW P g lb encs Kp m S Sp N w' :=
  fun l J Jx W hW => h l J Jx W (hb.trans (hW.mono hb.size))

/-- what lay below n₀, and m blocks from A on -/
def KpA (n₀ A m : Nat) (X Y : World) : Prop := Below n₀ X Y ∧ Area A m X Y
theorem KpA.trans {n₀ A m : Nat} {X Y Z : World} (h : KpA n₀ A m X Y) (k : KpA n₀ A m Y Z) : KpA n₀ A m X Z := ⟨h.1.trans k.1, h.2.trans k.2⟩
theorem ownFrom_mono {β : Type} {B C : Nat} {I : β → World → Prop} (h : OwnFrom B I) (hBC : B ≤ C) : OwnFrom C I :=
  fun s W W' row hs hg hr => h s W W' row hs hg (fun r e => ⟨Nat.le_trans hBC (hr r e).1, (hr r e).2⟩)
theorem below_putObj {n₀ l : Nat} {X : World} (o : Obj) (h : n₀ ≤ l) (hn : n₀ ≤ X.heap.size) : Below n₀ X (X.putObj l o) :=
  (Below.refl n₀ X).grown (grownBy_putObj' X l o) hn (fun k e => by cases e; exact h)

/-- how the body of a round may be left -/
def postW {α : Type} (B m : Nat) (Kp : World → World → Prop) (I : List α → World → Prop) (Ix : Code → List α → World → Prop) (xs : List α) (W : World) : Exit → Act → World → Prop
  | .normal, _, W' => Area B (2 + m) W W' ∧ Kp W W' ∧ I xs W'
  | .ret, _, W' => Area B (2 + m) W W' ∧ Ix .ret xs W'
  | .exit id, _, W' => Area B (2 + m) W W' ∧ Ix (.exit id) xs W'
  | .goto t, _, W' => Area B (2 + m) W W' ∧ Ix (.goto t) xs W'
  | .panic _, _, _ => False
  | .outgrown, _, _ => False

/-- the two blocks of book-keeping hold no cells -/
def Books (B : Nat) (W : World) : Prop := (∃ o : Obj, W.heap[B]? = some o ∧ o.isCells = false) ∧ (∃ o : Obj, W.heap[B + 1]? = some o ∧ o.isCells = false)
theorem Books.area {B : Nat} {X Y : World} (h : Books B X) (hk : KeepsOthers X Y) : Area B 2 X Y := fun k h1 h2 => by
  obtain ⟨⟨o, ho, hc⟩, o', ho', hc'⟩ := h
  rcases Nat.lt_or_ge B k with hlt | hge
  · obtain rfl : k = B + 1 := by omega
    exact (hk.same _ _ ho' hc').trans ho'.symm
  · obtain rfl : k = B := by omega
    exact (hk.same _ _ ho hc).trans ho.symm

theorem below_kb {n₀ : Nat} {w : World} (hn : n₀ ≤ w.heap.size) (X : World) (l : Nat) (o : Obj) (h1 : w.heap.size ≤ l) (h2 : w.heap.size ≤ X.heap.size) : Below n₀ X (X.putObj l o) :=
  below_putObj o (Nat.le_trans hn h1) (Nat.le_trans hn h2)

set_option maxHeartbeats 1000000 in
/-- THE LAW of the statement. -/
theorem rangeW {α : Type} {P : Program} {g : Operand} {ps : Array Tmp} {assign body : Code} {Q : Exit → Act → World → Prop} {a : Act} {w : World}
    {gf : Nat} {lb : Array Value} (hg : a.eval g = .func (.func gf) #[] lb) (eg : ∀ args w, (callFunc gf args).run P w = .ok (.enter gf args) w)
    {encs : α → Array Value} {Kp : World → World → Prop} {m : Nat} {S Sp : List α → Prop} {N : Nat} {w0 : World} (hseq : SeqW P gf lb encs Kp m S Sp N w0)
    (hKt : ∀ {X Y Z : World}, Kp X Y → Kp Y Z → Kp X Z) (hKb : ∀ (X : World) (l : Nat) (o : Obj), w.heap.size ≤ l → w.heap.size ≤ X.heap.size → Kp X (X.putObj l o)) (hb0 : Below w0.heap.size w0 w) (hps : ∀ x, (encs x).size = ps.size)
    (I : List α → World → Prop) (Ix : Code → List α → World → Prop) (hI : OwnFrom w.heap.size I) (hIx : ∀ c, OwnFrom w.heap.size (Ix c)) (h0 : I [] w) (a₁ : α → Act)
    (hassign : ∀ (l : Nat) (x : α) (W : World) (K : Act → World → Prop), K (a₁ x) W →
      assign.wpIn (Fence.wide.inRound l) 0 P (Exit.then K (fun _ _ _ => False)) { tmps := (ps.zip (encs x)).foldl (fun t (p, v) => t.setIfInBounds p v) a.tmps, defers := [] } W)
    (hbody : ∀ (l : Nat) (pre : List α) (x : α) (W : World), I pre W → pre.length < N → w.heap.size + (2 + m) ≤ W.heap.size → Books w.heap.size W →
      body.wpIn (Fence.wide.inRound l) 0 P (postW w.heap.size m Kp I Ix (pre ++ [x]) W) (a₁ x) W)
    (hdone : ∀ (D : Nat) (xs : List α) (W : World), w.heap.size ≤ D → S xs → I xs W → W.heap[D]? = some (.deferred (some [])) → Q .normal { a with defers := { target := .collected D, args := #[] } :: a.defers } W)
    (hstop : ∀ (D : Nat) (c : Code) (pre : List α) (W : World), w.heap.size ≤ D → Sp pre → Ix c pre W → W.heap[D]? = some (.deferred (some [])) → c.wpIn Fence.wide 0 P Q { a with defers := { target := .collected D, args := #[] } :: a.defers } W) :
    (Code.rangeFunc g ps assign body).wpIn Fence.wide 0 P Q a w := by
  refine wpIn_rangeFunc fun fn hfn => ?_
  obtain ⟨B, hB⟩ : ∃ B, B = w.heap.size := ⟨_, rfl⟩
  rw [← hB] at hI hIx hKb hbody hdone hstop
  obtain ⟨r, hr⟩ : ∃ r : LoopState → Option Code → Loop, r = fun st pe => { state := st, pending := pe, fn, tmps := a.tmps, params := ps, assign, body, defers := B } := ⟨_, rfl⟩
  obtain ⟨W1, hW1⟩ : ∃ W1, (w.alloc (.deferred (some []))).alloc (.loop (r .ready none)) = W1 := ⟨_, rfl⟩
  have hs1 : W1.heap.size = B + 2 := by rw [← hW1, hB]; simp
  have hL1 : W1.heap[B + 1]? = some (.loop (r .ready none)) := by
    have := World.alloc_heap_new (w.alloc (.deferred (some []))) (.loop (r .ready none))
    rwa [World.size_alloc, ← hB, hW1] at this
  have hK1 : W1.heap[B]? = some (.deferred (some [])) := by
    rw [← hW1, hB]; exact (Below.heap_alloc _ _ _ (by simp)).trans (World.alloc_heap_new w _)
  have hI1 : I [] W1 := by rw [← hW1]; exact hI.alloc _ (hI.alloc _ h0)
  have hb1 : Below w0.heap.size w0 W1 := by
    rw [← hW1]; exact (hb0.alloc hb0.size _).alloc (by have := hb0.size; simp; omega) _
  refine ⟨B + 1, [{ target := .collected B, args := #[] }], W1, { target := .fn (.func gf) lb, args := #[.func (.yield (B + 1)) #[] #[]] }, W1, gf,
    #[.func (.yield (B + 1)) #[] #[]] ++ lb, W1, ?_, ?_, fun f' hf' => trivial, by simp [invoke, go_sem, eg], (fun h => by simp [wide_depth] at h), ?_⟩
  · rw [← hW1, hr, hB]; exact run_enterLoop_outer _ _ _ _ _
  · simp only [resolve, hg]
    simp [go_sem]
  -- what holds between two rounds: the caller's word, and the two blocks of book-keeping
  have up : ∀ {X Y : World} {row : Option Nat} {st : LoopState} {pe : Option Code}, X.grownBy Y row → (∀ q, row = some q → W1.heap.size ≤ q ∧ ∃ o : Obj, X.heap[q]? = some o ∧ o.isCells = false) →
      (∀ q, row = some q → B ≤ q ∧ ∃ o : Obj, X.heap[q]? = some o ∧ o.isCells = false) ∧ (X.heap[B + 1]? = some (.loop (r st pe)) → Y.heap[B + 1]? = some (.loop (r st pe))) ∧ (X.heap[B]? = some (.deferred (some [])) → Y.heap[B]? = some (.deferred (some []))) :=
    fun hg' hq => ⟨fun q e => ⟨by have := (hq q e).1; omega, (hq q e).2⟩, block_kept hg' (fun q e => (hq q e).1) (by omega), block_kept hg' (fun q e => (hq q e).1) (by omega)⟩
  refine (hseq (B + 1)
    (fun pre W => I pre W ∧ W.heap[B + 1]? = some (.loop (r .ready none)) ∧ W.heap[B]? = some (.deferred (some [])))
    (fun pre W => ∃ c, Ix c pre W ∧ W.heap[B + 1]? = some (.loop (r .done (some c))) ∧ W.heap[B]? = some (.deferred (some [])))
    W1 hb1
    (fun s X Y row ⟨hi, hl, hk⟩ hg' hq => ⟨hI s X Y row hi hg' (up (st := .ready) (pe := none) hg' hq).1, (up hg' hq).2.1 hl, (up (st := .ready) (pe := none) hg' hq).2.2 hk⟩)
    (fun s X Y row ⟨c, hi, hl, hk⟩ hg' hq => ⟨c, hIx c s X Y row hi hg' (up (st := .ready) (pe := none) hg' hq).1, (up hg' hq).2.1 hl, (up (st := .ready) (pe := none) hg' hq).2.2 hk⟩)
    ?_ ⟨hI1, hL1, hK1⟩).mono ?_
  · rintro pre x W ⟨hi, hl, hk⟩ hlen hsW
    have hlt := heap_lt_of_some hl
    have hy := run_yield (P := P) (args := encs x) hl (by rw [hr]; exact hps x)
    rw [hr] at hy
    refine ⟨fn, _, assign, body, hy, roundIn_of_wpIn hfn (hassign _ x W _ ⟨_, run_beginRound hl (by rw [hr]), ?_⟩)⟩
    obtain ⟨V, hV⟩ : ∃ V, W.putObj (B + 1) (.loop { r .ready none with state := .busy }) = V := ⟨_, rfl⟩
    have hlV : V.heap[B + 1]? = some (.loop { r .ready none with state := .busy }) := by rw [← hV]; exact World.putObj_heap_same hlt
    have hkV : V.heap[B]? = some (.deferred (some [])) := by rw [← hV]; exact (World.putObj_heap_other (by omega)).trans hk
    have hbV : Kp W V := by rw [← hV]; exact hKb _ _ _ (by omega) (by omega)
    have hfV : Area (B + 2) m W V := by rw [← hV]; exact Area.putObj _ (by omega)
    have hiV : I pre V := by rw [← hV]; exact hI.putObj _ hi (by omega) hl rfl
    rw [hV]
    -- the end of a round, by whatever way its body is left
    have fin : ∀ (jump : Option Code) (X : World), Area B (2 + m) V X → ∃ Y, (Instr.endRound (B + 1) jump).run P X = .ok (.bool jump.isNone) Y ∧ Y = X.putObj (B + 1) (.loop (r (if jump.isNone then .ready else .done) jump)) ∧
        X.heap[B + 1]? = some (.loop { r .ready none with state := .busy }) ∧ Y.heap[B + 1]? = some (.loop (r (if jump.isNone then .ready else .done) jump)) ∧ Y.heap[B]? = some (.deferred (some [])) ∧ Area W1.heap.size m W Y := fun jump X hX => by
      have hlX := (hX (B + 1) (by omega) (by omega)).trans hlV
      have e := run_endRound (P := P) jump hlX
      refine ⟨_, e, ?_, hlX, ?_, ?_, ?_⟩
      · rw [hr]
      · rw [hr] at hlX ⊢; exact World.putObj_heap_same (heap_lt_of_some hlX)
      · exact (World.putObj_heap_other (by omega)).trans ((hX B (by omega) (by omega)).trans hkV)
      · rw [hs1]; exact (hfV.trans (hX.sub (by omega) (by omega))).trans (Area.putObj _ (by omega))
    refine wpIn_mono (hbody _ pre x V hiV hlen (by rw [← hV]; simp; omega) ⟨⟨_, hkV, rfl⟩, ⟨_, hlV, rfl⟩⟩) ?_
    have out : ∀ (c : Code) (X : World), Area B (2 + m) V X → Ix c (pre ++ [x]) X → ∃ v Y, (Instr.endRound (B + 1) (some c)).run P X = .ok v Y ∧ Area W1.heap.size m W Y ∧
        ((Ending.returned v = .returned (.bool true) ∧ (I (pre ++ [x]) Y ∧ Y.heap[B + 1]? = some (.loop (r .ready none)) ∧ Y.heap[B]? = some (.deferred (some []))) ∧ Kp W Y) ∨
          (Ending.returned v = .returned (.bool false) ∧ ∃ c, Ix c (pre ++ [x]) Y ∧ Y.heap[B + 1]? = some (.loop (r .done (some c))) ∧ Y.heap[B]? = some (.deferred (some [])))) := fun c X hX hi => by
      obtain ⟨Y, e, hY, hlX, hlY, hkY, hf⟩ := fin (some c) X hX
      exact ⟨_, Y, e, hf, .inr ⟨rfl, c, by rw [hY]; exact (hIx c).putObj _ hi (by omega) hlX rfl, hlY, hkY⟩⟩
    rintro e a3 X hp
    cases e with
    | normal =>
      obtain ⟨hX, hbX, hi3⟩ := hp
      obtain ⟨Y, e, hY, hlX, hlY, hkY, hf⟩ := fin none X hX
      refine ⟨_, Y, e, hf, .inl ⟨rfl, ⟨by rw [hY]; exact hI.putObj _ hi3 (by omega) hlX rfl, hlY, hkY⟩, ?_⟩⟩
      rw [hY]
      exact hKt (hKt hbV hbX) (hKb _ _ _ (by omega) (by have := heap_lt_of_some hlX; omega))
    | ret => exact out .ret X hp.1 hp.2
    | exit id => exact out (.exit id) X hp.1 hp.2
    | goto t => exact out (.goto t) X hp.1 hp.2
    | panic ch => exact hp.elim
    | outgrown => exact hp.elim
  · rintro e X ⟨⟨v, rfl⟩, (⟨xs, hS, hi, hl, hk⟩ | ⟨pre, hSp, c, hi, hl, hk⟩)⟩
    · exact ⟨none, _, by have := run_endLoop (P := P) hl (by rw [hr]; simp); rw [hr] at this; exact this, hdone B xs _ (Nat.le_refl _) hS (hI.putObj _ hi (by omega) hl rfl) ((World.putObj_heap_other (by omega)).trans hk)⟩
    · exact ⟨some c, _, by have := run_endLoop (P := P) hl (by rw [hr]; simp); rw [hr] at this; exact this, hstop B c pre _ (Nat.le_refl _) hSp ((hIx c).putObj _ hi (by omega) hl rfl) ((World.putObj_heap_other (by omega)).trans hk)⟩

theorem boxed_at (W : World) (t : TypeId) (v : Value) {g : Nat} (hg : g = W.heap.size) : Boxed (W.alloc (.cells #[v] t)) g t v := hg ▸ Boxed.new W t v
theorem boxed_below {X Y : World} {n g : Nat} {t : TypeId} {v : Value} (h : Boxed X g t v) (hb : Below n X Y) (hg : g < n) : Boxed Y g t v := (hb.block g hg).trans h

end Go.Proofs.YtleadjkndciniaaDoor
