/- (a plain list of integers) A range over the library's iterator that goes through a slice from its last element on: the law of the statement, by the number of elements that are left. The slice's cells may turn between two rounds. -/
import Derived.Test.YtleadjkndciniaaDoorDgS
import Derived.Test.YtleadjkndciniaaDoorRf
import Derived.Deep.LoopGhost
import Derived.Deep.RegionHeld3
import Derived.RangeFuncCalls
set_option linter.unusedVariables false
set_option linter.unusedSimpArgs false
set_option maxRecDepth 100000
namespace Go.Proofs.YtleadjkndciniaaDoor
open Go.ChangeShapes Go.WideShapes Go.ChangeAt Go.RowKit

attribute [local go_sem] Oper.semAt_some wide_fn wide_depth

/-- what the iterator reads while k elements are left -/
def BackRdI (Bs : Nat) (sa : Option Addr) (len cap : Nat) (Good : Nat → Int → Prop) (k : Nat) (X : World) : Prop :=
  X.cell? ⟨Bs, 0, none⟩ = some (.slice sa len cap) ∧ ∀ j, j < k → ∃ (d : Int) (b' off : Nat), sa = some ⟨b', off, none⟩ ∧ Good j d ∧ X.cell? ⟨b', off + j, none⟩ = some (.int .i64 d)

set_option maxRecDepth 100000 in
set_option maxHeartbeats 2000000 in
theorem backNI_calls (Bs : Nat) (sa : Option Addr) (len cap : Nat) (Good : Nat → Int → Prop) (hlen : len ≤ 1000000) (l : Nat) (J Jx : Nat → World → Prop) (W : World)
    (hrd : ∀ k X, J k X → k ≤ len → BackRdI Bs sa len cap Good k X)
    (hY : ∀ k d X, k < len → Good k d → J (k + 1) X → YieldAt Fence.wide 0 Tryd.prog l #[.int .i64 k, .int .i64 d] X fun e X' => (e = .returned (.bool true) ∧ J k X') ∨ (e = .returned (.bool false) ∧ Jx k X'))
    (h0 : J len W) :
    CallsIn Fence.wide 0 Tryd.prog 50 (#[.func (.yield l) #[] #[]] ++ #[.pointer (some ⟨Bs, 0, none⟩)]) W fun e W' => (∃ v, e = .returned v) ∧ (J 0 W' ∨ ∃ k, k < len ∧ Jx k W') := by
  have hcs' := (hrd len W h0 (Nat.le_refl _)).1
  refine callsIn_of_wp Tryd.func50 rfl trivial ?_ rfl
  simp only [Tryd.ntmps50, List.size_toArray, List.length_cons, List.length_nil, Nat.reduceAdd, Nat.reduceSub, Array.replicate_succ, Array.replicate_zero, List.push_toArray, List.append_toArray, List.nil_append, List.cons_append]
  gi_wp2
  gi_loopw [3] (fun i wr => ∃ (k : Nat), k ≤ len ∧ i = .int .i64 ((k : Int) - 1) ∧ J k wr) (fun i _ => (intOf i + 1).toNat)
  case atStart => exact ⟨len, Nat.le_refl _, rfl, h0⟩
  case round =>
    obtain ⟨k, hk, rfl, hJs⟩ := hrel
    obtain ⟨hcs2, hrd2⟩ := hrd k wr hJs hk
    cases k with
    | zero =>
      clear hrd2
      gi_wp2
      go_end0
      exact ⟨⟨_, rfl⟩, .inl hJs⟩
    | succ j =>
      rw [show ((j + 1 : Nat) : Int) - 1 = (j : Int) by omega]
      have hjl : j < len := by omega
      obtain ⟨d, b', off, rfl, hg, hc⟩ := hrd2 j (by omega)
      obtain ⟨fn, tmps, assign, body, hy, hR⟩ := hY j d wr hjl hg hJs
      clear hrd2
      gi_wp2
      refine hR.mono ?_
      rintro e W3 (⟨rfl, hJ3⟩ | ⟨rfl, hJx3⟩)
      · gi_wp2
        go_roundw
        case rel => exact ⟨j, by omega, by go_num, hJ3⟩
        case measure => simp [intOf]
      · gi_wp2
        refine bodyPost_ret (results_none rfl _ _ _) rfl ?_
        exact ⟨⟨_, rfl⟩, .inr ⟨j, hjl, hJx3⟩⟩

theorem backLI_any (a : Option Addr) (len cap : Nat) (w : World) :
    Calls Tryd.prog 34 #[.slice a len cap] w fun e w' => e = .returned (.func (.func 50) #[] #[.pointer (some ⟨w.heap.size, 0, none⟩)]) ∧ w' = w.alloc (.cells #[.slice a len cap] 25) := by
  go_enter Tryd.func34, Tryd.ntmps34
  go_wp2
  go_ret
  exact ⟨rfl, rfl⟩

/-- how the body of a round may be left -/
def postBI (B : Nat) (I : Nat → World → Prop) (Ix : Code → Nat → World → Prop) (k : Nat) (W : World) : Exit → Act → World → Prop
  | .normal, _, W' => Area B 2 W W' ∧ I k W'
  | .ret, _, W' => Area B 2 W W' ∧ Ix .ret k W'
  | .exit id, _, W' => Area B 2 W W' ∧ Ix (.exit id) k W'
  | .goto t, _, W' => Area B 2 W W' ∧ Ix (.goto t) k W'
  | .panic _, _, _ => False
  | .outgrown, _, _ => False

set_option maxHeartbeats 1000000 in
/-- THE LAW of the statement. -/
theorem rangeBI {g : Operand} {ps : Array Tmp} {assign body : Code} {Q : Exit → Act → World → Prop} {a : Act} {w : World}
    {Bs : Nat} {sa : Option Addr} {len cap : Nat} (Good : Nat → Int → Prop) (hg : a.eval g = .func (.func 50) #[] #[.pointer (some ⟨Bs, 0, none⟩)])
    (hlen : len ≤ 1000000) (hps : ps.size = 2)
    (I : Nat → World → Prop) (Ix : Code → Nat → World → Prop) (hI : OwnFrom w.heap.size I) (hIx : ∀ c, OwnFrom w.heap.size (Ix c)) (h0 : I len w)
    (hrd : ∀ k X, I k X → k ≤ len → BackRdI Bs sa len cap Good k X) (a₁ : Nat → Int → Act)
    (hassign : ∀ (l : Nat) (k : Nat) (d : Int) (W : World) (K : Act → World → Prop), K (a₁ k d) W →
      assign.wpIn (Fence.wide.inRound l) 0 Tryd.prog (Exit.then K (fun _ _ _ => False)) { tmps := (ps.zip #[.int .i64 k, .int .i64 d]).foldl (fun t (p, v) => t.setIfInBounds p v) a.tmps, defers := [] } W)
    (hbody : ∀ (l : Nat) (k : Nat) (d : Int) (W : World), k < len → Good k d → I (k + 1) W → w.heap.size + 2 ≤ W.heap.size → Books w.heap.size W →
      body.wpIn (Fence.wide.inRound l) 0 Tryd.prog (postBI w.heap.size I Ix k W) (a₁ k d) W)
    (hdone : ∀ (D : Nat) (W : World), w.heap.size ≤ D → I 0 W → W.heap[D]? = some (.deferred (some [])) → Q .normal { a with defers := { target := .collected D, args := #[] } :: a.defers } W)
    (hstop : ∀ (D : Nat) (c : Code) (k : Nat) (W : World), w.heap.size ≤ D → k < len → Ix c k W → W.heap[D]? = some (.deferred (some [])) → c.wpIn Fence.wide 0 Tryd.prog Q { a with defers := { target := .collected D, args := #[] } :: a.defers } W) :
    (Code.rangeFunc g ps assign body).wpIn Fence.wide 0 Tryd.prog Q a w := by
  refine wpIn_rangeFunc fun fn hfn => ?_
  have eg : ∀ args w, (callFunc 50 args).run Tryd.prog w = .ok (.enter 50 args) w := enters_of Tryd.func50 (by kernel_rfl) rfl
  obtain ⟨B, hB⟩ : ∃ B, B = w.heap.size := ⟨_, rfl⟩
  rw [← hB] at hI hIx hbody hdone hstop
  obtain ⟨r, hr⟩ : ∃ r : LoopState → Option Code → Loop, r = fun st pe => { state := st, pending := pe, fn, tmps := a.tmps, params := ps, assign, body, defers := B } := ⟨_, rfl⟩
  obtain ⟨W1, hW1⟩ : ∃ W1, (w.alloc (.deferred (some []))).alloc (.loop (r .ready none)) = W1 := ⟨_, rfl⟩
  have hs1 : W1.heap.size = B + 2 := by rw [← hW1, hB]; simp
  have hL1 : W1.heap[B + 1]? = some (.loop (r .ready none)) := by
    have := World.alloc_heap_new (w.alloc (.deferred (some []))) (.loop (r .ready none))
    rwa [World.size_alloc, ← hB, hW1] at this
  have hK1 : W1.heap[B]? = some (.deferred (some [])) := by
    rw [← hW1, hB]; exact (Below.heap_alloc _ _ _ (by simp)).trans (World.alloc_heap_new w _)
  have hI1 : I len W1 := by rw [← hW1]; exact hI.alloc _ (hI.alloc _ h0)
  refine ⟨B + 1, [{ target := .collected B, args := #[] }], W1, { target := .fn (.func 50) #[.pointer (some ⟨Bs, 0, none⟩)], args := #[.func (.yield (B + 1)) #[] #[]] }, W1, 50,
    #[.func (.yield (B + 1)) #[] #[]] ++ #[.pointer (some ⟨Bs, 0, none⟩)], W1, ?_, ?_, fun f' hf' => trivial, by simp [invoke, go_sem, eg], (fun h => by simp [wide_depth] at h), ?_⟩
  · rw [← hW1, hr, hB]; exact run_enterLoop_outer _ _ _ _ _
  · simp only [resolve, hg]
    simp [go_sem]
  refine (backNI_calls Bs sa len cap Good hlen (B + 1)
    (fun k W => I k W ∧ W.heap[B + 1]? = some (.loop (r .ready none)) ∧ W.heap[B]? = some (.deferred (some [])) ∧ B + 2 ≤ W.heap.size)
    (fun k W => ∃ c, Ix c k W ∧ W.heap[B + 1]? = some (.loop (r .done (some c))) ∧ W.heap[B]? = some (.deferred (some [])))
    W1 (fun k X h hk => hrd k X h.1 hk) ?_ ⟨hI1, hL1, hK1, by omega⟩).mono ?_
  · rintro k d W hk hgd ⟨hi, hl, hkk, hsW⟩
    have hlt := heap_lt_of_some hl
    have hy := run_yield (P := Tryd.prog) (args := #[.int .i64 k, .int .i64 d]) hl (by rw [hr]; exact hps.symm)
    rw [hr] at hy
    refine ⟨fn, _, assign, body, hy, roundIn_of_wpIn hfn (hassign _ k d W _ ⟨_, run_beginRound hl (by rw [hr]), ?_⟩)⟩
    obtain ⟨V, hV⟩ : ∃ V, W.putObj (B + 1) (.loop { r .ready none with state := .busy }) = V := ⟨_, rfl⟩
    have hlV : V.heap[B + 1]? = some (.loop { r .ready none with state := .busy }) := by rw [← hV]; exact World.putObj_heap_same hlt
    have hkV : V.heap[B]? = some (.deferred (some [])) := by rw [← hV]; exact (World.putObj_heap_other (by omega)).trans hkk
    have hiV : I (k + 1) V := by rw [← hV]; exact hI.putObj _ hi (by omega) hl rfl
    have hsV : V.heap.size = W.heap.size := by rw [← hV]; simp
    rw [hV]
    have fin : ∀ (jump : Option Code) (X : World), Area B 2 V X → ∃ Y, (Instr.endRound (B + 1) jump).run Tryd.prog X = .ok (.bool jump.isNone) Y ∧ Y = X.putObj (B + 1) (.loop (r (if jump.isNone then .ready else .done) jump)) ∧
        X.heap[B + 1]? = some (.loop { r .ready none with state := .busy }) ∧ Y.heap[B + 1]? = some (.loop (r (if jump.isNone then .ready else .done) jump)) ∧ Y.heap[B]? = some (.deferred (some [])) ∧ B + 2 ≤ Y.heap.size := fun jump X hX => by
      have hlX := (hX (B + 1) (by omega) (by omega)).trans hlV
      have hlXt := heap_lt_of_some hlX
      have e := run_endRound (P := Tryd.prog) jump hlX
      refine ⟨_, e, ?_, hlX, ?_, ?_, by simp; omega⟩
      · rw [hr]
      · rw [hr] at hlX ⊢; exact World.putObj_heap_same (heap_lt_of_some hlX)
      · exact (World.putObj_heap_other (by omega)).trans ((hX B (by omega) (by omega)).trans hkV)
    refine wpIn_mono (hbody _ k d V hk hgd hiV (by omega) ⟨⟨_, hkV, rfl⟩, ⟨_, hlV, rfl⟩⟩) ?_
    have out : ∀ (c : Code) (X : World), Area B 2 V X → Ix c k X → ∃ v Y, (Instr.endRound (B + 1) (some c)).run Tryd.prog X = .ok v Y ∧
        ((Ending.returned v = .returned (.bool true) ∧ (I k Y ∧ Y.heap[B + 1]? = some (.loop (r .ready none)) ∧ Y.heap[B]? = some (.deferred (some [])) ∧ B + 2 ≤ Y.heap.size)) ∨
          (Ending.returned v = .returned (.bool false) ∧ ∃ c, Ix c k Y ∧ Y.heap[B + 1]? = some (.loop (r .done (some c))) ∧ Y.heap[B]? = some (.deferred (some [])))) := fun c X hX hi => by
      obtain ⟨Y, e, hY, hlX, hlY, hkY, hsY⟩ := fin (some c) X hX
      exact ⟨_, Y, e, .inr ⟨rfl, c, by rw [hY]; exact (hIx c).putObj _ hi (by omega) hlX rfl, hlY, hkY⟩⟩
    rintro e a3 X hp
    cases e with
    | normal =>
      obtain ⟨hX, hi3⟩ := hp
      obtain ⟨Y, e, hY, hlX, hlY, hkY, hsY⟩ := fin none X hX
      exact ⟨_, Y, e, .inl ⟨rfl, by rw [hY]; exact hI.putObj _ hi3 (by omega) hlX rfl, hlY, hkY, hsY⟩⟩
    | ret => exact out .ret X hp.1 hp.2
    | exit id => exact out (.exit id) X hp.1 hp.2
    | goto t => exact out (.goto t) X hp.1 hp.2
    | panic ch => exact hp.elim
    | outgrown => exact hp.elim
  · rintro e X ⟨⟨v, rfl⟩, (⟨hi, hl, hk, _⟩ | ⟨k, hk2, c, hi, hl, hk⟩)⟩
    · exact ⟨none, _, by have := run_endLoop (P := Tryd.prog) hl (by rw [hr]; simp); rw [hr] at this; exact this, hdone B _ (Nat.le_refl _) (hI.putObj _ hi (by omega) hl rfl) ((World.putObj_heap_other (by omega)).trans hk)⟩
    · exact ⟨some c, _, by have := run_endLoop (P := Tryd.prog) hl (by rw [hr]; simp); rw [hr] at this; exact this, hstop B c k _ (Nat.le_refl _) hk2 ((hIx c).putObj _ hi (by omega) hl rfl) ((World.putObj_heap_other (by omega)).trans hk)⟩

/-- a row that is owned abides -/
theorem ownedI_own {β : Type} (base : Nat) (e : TypeId) (v : β → Value) (n : β → Nat) (xs : β → List Value) : Own (fun s W => W.ownsRow base e 1 (v s) (n s) (xs s)) := fun s W W' row h hg hr => by
  refine World.ownsRow.kept h hg ?_
  cases hv : (v s).ownBlock with
  | none => exact .inl rfl
  | some k =>
    refine .inr (fun e => ?_)
    obtain ⟨o, ho, hc⟩ := hr k e.symm
    rcases h.2 with ⟨h0, _⟩ | ⟨g, cap, cur, h0, _, hh, _⟩
    · rw [h0] at hv; simp [Value.ownBlock] at hv
    · rw [h0] at hv
      simp [Value.ownBlock] at hv
      subst hv
      rw [hh] at ho
      injection ho with ho
      subst ho
      simp [Obj.isCells] at hc

theorem Area.belowI {A m n : Nat} {X Y : World} (h : Below n X Y) (hn : A + m ≤ n) : Area A m X Y := fun k h1 h2 => h.block k (by omega)

end Go.Proofs.YtleadjkndciniaaDoor
