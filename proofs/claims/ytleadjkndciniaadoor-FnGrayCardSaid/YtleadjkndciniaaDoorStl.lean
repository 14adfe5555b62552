/- A region that draws its order within a round of a range over a function: operations that leave the world as it is, and behind them a tail that goes in order (a store). Calls in it by the plain contracts. -/
import Derived.Test.YtleadjkndciniaaDoorBase
import Derived.OrdersIn
import Derived.RangeFuncCalls
import Derived.StillTailTactics
import Derived.TacticsIn
set_option linter.unusedVariables false
set_option linter.unusedSimpArgs false
namespace Go.Proofs.YtleadjkndciniaaDoor
open Go.ChangeShapes Go.WideShapes Go.ChangeAt Go.RowKit

section
variable {P : Program} {w : World} {ops : Array Oper} {Q : Exit → Act → World → Prop} {r : Nat}

/-- no operation defers a call -/
def calm (ops : Array Oper) : Bool := ops.all fun o => match o.op with
  | .defer _ => false
  | _ => true
theorem calm_at {i : Nat} {o : Oper} (h : calm ops = true) (ho : ops[i]? = some o) : ∀ c, o.op ≠ .defer c := fun c hc => by
  obtain ⟨hi, rfl⟩ := Array.getElem?_eq_some_iff.1 ho
  have := Array.all_eq_true.1 h i hi
  rw [hc] at this; cases this

theorem opIn_still {o : Oper} {a : Act} {K : Act → Prop} {K' : Act → World → Prop} (hd : ∀ c, o.op ≠ .defer c) (hK : ∀ a, K a → K' a w) (hs : o.still P a w K) : o.wpIn (Fence.wide.inRound r) 0 P a w K' Q := by
  refine ⟨fun _ _ => trivial, ?_⟩
  rw [Oper.semAt_eq _ _ _ hd]
  revert hs
  unfold Oper.still
  cases (execOp a.eval o).run P w with
  | halt x w' => intro hs; exact hs.elim
  | ok x w' =>
    cases x with
    | enter f args =>
      rintro ⟨rfl, v, hc, hn⟩
      refine ⟨(fun h => by cases (show false = true from h)), (CallsIn.inRound r (callsIn_wide.2 hc)).mono ?_⟩
      rintro e w'' ⟨rfl, rfl⟩
      exact hK _ hn
    | value v => rintro ⟨rfl, hn⟩; exact hK _ hn
    | skip => rintro ⟨rfl, hn⟩; exact hK _ hn
    | _ => intro hs; exact hs.elim
theorem opAtIn_still {i : Nat} {a : Act} {K : Act → Prop} {K' : Act → World → Prop} (hcm : calm ops = true) (hK : ∀ a, K a → K' a w) (hs : stOp P ops w i K a) : wpOpIn (Fence.wide.inRound r) 0 P ops Q i K' a w := by
  unfold wpOpIn
  unfold stOp at hs
  cases ho : ops[i]? with
  | none => rw [ho] at hs; exact hK _ hs
  | some o =>
    rw [ho] at hs
    dsimp only at hs ⊢
    cases hw : Region.wanted o (yielded ops a.tmps)
    · rw [hw] at hs; exact ⟨fun _ _ => trivial, hK _ hs⟩
    · rw [hw] at hs; exact opIn_still (calm_at hcm ho) hK hs
theorem headIn {n g : Nat} {L : Array Bool → Act → Prop} (hcm : calm ops = true) (hL : ∀ listed a, L listed a → wpAnyIn (Fence.wide.inRound r) 0 P .any ops Q g listed a w) :
    ∀ (f : Nat) (listed : Array Bool) (a : Act), wpAnyL P .any ops w n L f listed a → wpAnyIn (Fence.wide.inRound r) 0 P .any ops Q (f + g) listed a w := by
  intro f
  induction f with
  | zero => intro listed a h; rw [Nat.zero_add]; exact hL _ _ h
  | succ f ih =>
    intro listed a h
    rw [Nat.add_right_comm]
    exact ⟨fun h0 => absurd h0 h.1, fun i hi => opAtIn_still hcm (fun a' h' => ih _ a' h') (h.2 i hi).2⟩
theorem seqIn : ∀ (l : List Oper) (k : Nat) (listed : Array Bool) (a : Act) (w : World), (∀ j, l[j]? = ops[k + j]?) →
    Region.seqB .any ops l.length k listed = true → wpListIn (Fence.wide.inRound r) 0 P ops Q l a w → wpAnyIn (Fence.wide.inRound r) 0 P .any ops Q l.length listed a w := by
  intro l
  induction l with
  | nil => intro k listed a w _ hB h; exact ⟨by simpa [Region.seqB] using hB, h⟩
  | cons o l ih =>
    intro k listed a w hl hB h
    have h0 : ops[k]? = some o := by simpa using (hl 0).symm
    simp only [List.length_cons, Region.seqB, Bool.and_eq_true, decide_eq_true_eq] at hB
    refine ⟨fun h1 => (by rw [hB.1] at h1; cases h1), fun i hi => ?_⟩
    rw [hB.1, List.mem_singleton] at hi
    subst hi
    have hw : wpOpIn (Fence.wide.inRound r) 0 P ops Q i (wpListIn (Fence.wide.inRound r) 0 P ops Q l) a w := by unfold wpOpIn; simp only [h0]; exact h
    refine wpOpIn_mono (fun a' w' h' => ih (i + 1) _ a' w' (fun j => ?_) hB.2 h') hw
    have := hl (j + 1)
    simpa [Nat.add_assoc, Nat.add_comm 1 j] using this
/-- THE LAW: the first n operations leave the world, the rest goes in order. -/
theorem regionIn_tail {id : Nat} {a : Act} {l : List Oper} (n : Nat) (hm : P.follows .mixedOrders = true) (hB : Region.lexTailB .any l.toArray n = true) (hcm : calm l.toArray = true)
    (h : wpStill P l.toArray { w with drawn := w.drawn + 1 } (fun a' => wpListIn (Fence.wide.inRound r) 0 P l.toArray Q (l.drop n) a' { w with drawn := w.drawn + 1 }) (l.take n) a) : (Code.region id l.toArray true).wpIn (Fence.wide.inRound r) 0 P Q a w := by
  simp only [Region.lexTailB, Bool.and_eq_true, decide_eq_true_eq] at hB
  obtain ⟨⟨⟨⟨hsel, hn⟩, hs⟩, hc⟩, hlex⟩ := hB
  have hn' : n < l.length := by simpa using hn
  have htl : (l.take n).length = n := by simp; omega
  have hdl : (l.drop n).length = l.toArray.size - n := by simp
  have inv0 : HeadInv .any l.toArray n (Array.replicate l.toArray.size false) :=
    ⟨by simp, fun j oj _ hl => (by rw [getD_replicate_false] at hl; cases hl), fun t _ ht => getD_in (by simpa using ht) (getD_replicate_false _ _)⟩
  have H := wpAnyL_lex (md := .any) (g := l.toArray.size - n) hsel hs hc hn (l.take n) 0 _ a (fun j hj => by
    rw [htl] at hj
    simp [hj]) (by simpa using htl) inv0 (by rw [htl]; exact hlex) h
  refine wpIn_region_any hm ?_
  have := headIn (Q := Q) (r := r) (g := l.toArray.size - n) hcm (fun listed a' hL => by
    have := seqIn (Q := Q) (r := r) (l.drop n) n listed a' { w with drawn := w.drawn + 1 } (fun j => by simp [List.getElem?_drop]) (by rw [hdl]; exact hL.1) hL.2
    rwa [hdl] at this) _ _ _ H
  rw [htl, show n + (l.toArray.size - n) = l.toArray.size by omega] at this
  exact this
end

end Go.Proofs.YtleadjkndciniaaDoor
