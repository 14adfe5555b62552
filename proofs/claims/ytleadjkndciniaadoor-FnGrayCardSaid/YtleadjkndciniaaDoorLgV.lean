/- Long numbers: the program divides one number by another one. -/
import Derived.Test.YtleadjkndciniaaDoorLgM
import Derived.Test.YtleadjkndciniaaDoorLgSpec
import Derived.Test.YtleadjkndciniaaDoorRf
import Derived.Deep.LoopGhost
import Derived.Deep.RegionHeld3
import Derived.Lib.SliceRun
import Derived.RangeFuncCalls
import Derived.Sort.LoopGhostIn
import Derived.Sort.QuietIn
import Derived.StillTailTactics
set_option linter.unusedVariables false
set_option linter.unusedSimpArgs false
set_option maxRecDepth 100000
namespace Go.Proofs.YtleadjkndciniaaDoor
open Go.ChangeShapes Go.WideShapes Go.ChangeAt Go.RowKit

attribute [local go_sem] Oper.semAt_some wide_fn wide_depth

/-- 'make([]T, n)' inside a fence -/
theorem wpListIn_make_fullL {F : Fence} {r : Nat} {P : Program} (w : World) {ops : Array Oper} {rest : List Oper} {o : Oper} {a : Act} {Q : Exit → Act → World → Prop}
    (hg : o.guard = none) (l c : Operand) (t : TypeId) (hop : o.op = Op.makeSlice t l c)
    (base : Nat) (e : TypeId) (i : TypeInfo) (z : Value) (size : Nat) (h1 : P.underlying t = some (.slice e)) (h2 : P.info? e = some i) (h3 : i.zero = some z) (h4 : i.size = size)
    (kl kc : IntKind) (L C : Int) (n : Nat) (hl : a.eval l = .int kl L) (hc : a.eval c = .int kc C) (hL : L = (n : Int)) (hC : C = (n : Int)) (b2 : i.bytes * n ≤ 281474976710656) (b3 : n ≤ maxLen) (b4 : base ≤ w.heap.size)
    (hK : ∀ w', w'.ownsRow base e size (.slice (some ⟨w.heap.size, 0, none⟩) n n) n (madeCells z.cells (n * size)).toList → w.grownBy w' none → wpListIn F r P ops Q rest (a.put o.dst (.slice (some ⟨w.heap.size, 0, none⟩) n n)) w') :
    wpListIn F r P ops Q (o :: rest) a w := by
  refine wpListIn_plain hg fun K hK' => ?_
  obtain ⟨w', hrun, r1, r2⟩ := run_make_full (P := P) w base t e i z size h1 h2 h3 h4 kl kc n b2 b3 b4
  subst hL
  subst hC
  unfold Oper.wpIn
  refine ⟨?_, ?_⟩
  · simp [Oper.about, hop]
  · rw [Oper.semAt_plain F _ _ (by rw [hop]; intro c hc'; cases hc')]
    simp [execOp, hop, hl, hc, hrun, Result.andThen]
    exact hK' _ _ (hK w' r1 r2)

theorem trim_ex (l : List Int) : ∀ m, m ≤ l.length → (∀ j (hj : j < l.length), m ≤ j → l[j] = 0) → ∃ n, n ≤ l.length ∧ (∀ j (hj : j < l.length), n ≤ j → l[j] = 0) ∧ (∀ (h : n - 1 < l.length), n = 0 ∨ l[n - 1] ≠ 0)
  | 0, hm, hz => ⟨0, hm, hz, fun _ => .inl rfl⟩
  | m + 1, hm, hz => by
    by_cases h : l[m] = 0
    · exact trim_ex l m (by omega) (fun j hj hmj => by
        by_cases e : j = m
        · subst e; exact h
        · exact hz j hj (by omega))
    · exact ⟨m + 1, hm, hz, fun _ => .inr h⟩
theorem trim_owns {a : Option Addr} {cap : Nat} {l : List Int} {b base : Nat} {w : World} (hb : 2 ≤ b) (hA : AllD b l) (hown : w.ownsRow base 3 1 (.slice a l.length cap) l.length (intsOf l)) :
    w.ownsRow base 3 1 (.slice a (dg b (vl b l)).length cap) (dg b (vl b l)).length (intsOf (dg b (vl b l))) := by
  obtain ⟨n, hn, hz, hlast⟩ := trim_ex l l.length (Nat.le_refl _) (fun j hj h => by omega)
  have e := trim_eq hb hA hn hz hlast
  have en : (dg b (vl b l)).length = n := by rw [← e, List.length_take, Nat.min_eq_left hn]
  rw [en, ← e, ← intsOf_take]
  exact owns_take hown hn
theorem owns_setOff {w : World} {base : Nat} {e : TypeId} {v : Value} {n : Nat} {xs : List Value} (h : w.ownsRow base e 1 v n xs) (p : Addr) (u : Value) (hp : v.ownBlock ≠ some p.block) : (w.setCell p u).ownsRow base e 1 v n xs := by
  obtain ⟨hl, h2⟩ := h
  refine ⟨hl, ?_⟩
  rcases h2 with h2 | ⟨g, cap, cur, hv, hg, hh, r⟩
  · exact .inl h2
  · refine .inr ⟨g, cap, cur, hv, hg, ?_, r⟩
    rw [Below.heap_setCell w p u g (fun e => hp (by subst hv; simp [Value.ownBlock, e]))]
    exact hh
theorem boxed_setOff {X : World} {g : Nat} {t : TypeId} {v : Value} (h : Boxed X g t v) (p : Addr) (u : Value) (hp : p.block ≠ g) : Boxed (X.setCell p u) g t v := (Below.heap_setCell X p u g (fun e => hp e.symm)).trans h

theorem drop_set_self : ∀ (l : List Int) (k : Nat) (v : Int), k < l.length → (l.set k v).drop k = v :: l.drop (k + 1)
  | d :: l, 0, v, h => by simp
  | d :: l, k + 1, v, h => by simpa using drop_set_self l k v (by simpa using h)

end Go.Proofs.YtleadjkndciniaaDoor
