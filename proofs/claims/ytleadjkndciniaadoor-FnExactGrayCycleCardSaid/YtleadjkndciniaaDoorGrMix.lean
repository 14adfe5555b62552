/- Gray codes: the model's digits of mixed places. -/
import Derived.Test.YtleadjkndciniaaDoorGrM
import Derived.Test.YtleadjkndciniaaDoorLgCmp
import Derived.Test.YtleadjkndciniaaDoorMxSpec
import Derived.Deep.LoopGhost
import Derived.StillTailTactics
set_option linter.unusedVariables false
set_option linter.unusedSimpArgs false
set_option maxRecDepth 100000
namespace Go.Proofs.YtleadjkndciniaaDoor
open Go.ChangeShapes Go.WideShapes Go.ChangeAt Go.RowKit

theorem inR_of : ∀ {l r : List Int}, FitM l r → InR l r
  | [], [], _ => trivial
  | x :: l, y :: r, h => by
    have h0 := fitM_at h 0 (by simp) (by simp)
    simp at h0
    refine ⟨by omega, inR_of (fitM_of (by have := fitM_len h; simpa using this) (fun j h1 h2 => ?_))⟩
    have := fitM_at h (j + 1) (by simp; omega) (by simp; omega)
    simpa using this
  | [], _ :: _, h => by have := fitM_len h; simp at this
  | _ :: _, [], h => by have := fitM_len h; simp at this
theorem fit_of : ∀ {l r : List Int}, InR l r → FitM l r := fun {l r} h => fitM_of h.len (fun j h1 h2 => by
  have : ∀ (l r : List Int), InR l r → ∀ j (h1 : j < l.length) (h2 : j < r.length), 0 ≤ l[j] ∧ l[j] ≤ r[j] - 1 := by
    intro l
    induction l with
    | nil => intro r _ j h1; simp at h1
    | cons x l ih =>
      intro r h j h1 h2
      cases r with
      | nil => exact h.elim
      | cons y r =>
        cases j with
        | zero => have := h.1; simp; omega
        | succ j => simpa using ih r h.2 j (by simpa using h1) (by simpa using h2)
  exact this l r h j h1 h2)
theorem inR_drop : ∀ {l r : List Int} (k : Nat), InR l r → InR (l.drop k) (r.drop k)
  | l, r, 0, h => by simpa using h
  | [], [], k + 1, _ => trivial
  | _ :: l, _ :: r, k + 1, h => by simpa using inR_drop k h.2
  | [], _ :: _, _ + 1, h => h.elim
  | _ :: _, [], _ + 1, h => h.elim
theorem inR_sum : ∀ {l r : List Int}, InR l r → (∀ x ∈ r, x ≤ 60) → 0 ≤ l.sum ∧ l.sum ≤ 60 * l.length
  | [], [], _, _ => by simp
  | x :: l, y :: r, h, hr => by
    have h1 := inR_sum h.2 (fun z hz => hr z (by simp [hz]))
    have h2 := hr y (by simp)
    have h3 := h.1
    rw [List.sum_cons, List.length_cons]; omega
  | [], _ :: _, h, _ => h.elim
  | _ :: _, [], h, _ => h.elim
theorem drop_setG : ∀ (l : List Int) (k : Nat) (v : Int), k < l.length → (l.set k v).drop k = v :: l.drop (k + 1)
  | d :: l, 0, v, h => by simp
  | d :: l, k + 1, v, h => by simpa using drop_setG l k v (by simpa using h)
theorem take_setG (l : List Int) (k : Nat) (v : Int) : (l.set k v).take k = l.take k := by
  rw [List.take_set]; exact List.set_eq_of_length_le (by rw [List.length_take]; omega)
theorem gm_drop {d r : List Int} {j : Nat} (h1 : j < d.length) (h2 : j < r.length) : gmS (d.drop j) (r.drop j) = ((if (gmS (d.drop (j + 1)) (r.drop (j + 1))).2 % 2 = 1 then r[j] - 1 - d[j] else d[j]) :: (gmS (d.drop (j + 1)) (r.drop (j + 1))).1, (gmS (d.drop (j + 1)) (r.drop (j + 1))).2 + (if (gmS (d.drop (j + 1)) (r.drop (j + 1))).2 % 2 = 1 then r[j] - 1 - d[j] else d[j])) := by
  rw [List.drop_eq_getElem_cons h1, List.drop_eq_getElem_cons h2, gmS_cons]
theorem um_drop {d r : List Int} {j : Nat} (h1 : j < d.length) (h2 : j < r.length) : umS (d.drop j) (r.drop j) = ((if (umS (d.drop (j + 1)) (r.drop (j + 1))).2 % 2 = 1 then r[j] - 1 - d[j] else d[j]) :: (umS (d.drop (j + 1)) (r.drop (j + 1))).1, (umS (d.drop (j + 1)) (r.drop (j + 1))).2 + d[j]) := by
  rw [List.drop_eq_getElem_cons h1, List.drop_eq_getElem_cons h2, umS_cons]
theorem take_at {D d : List Int} {j : Nat} (h : D.take (j + 1) = d.take (j + 1)) (h1 : j < D.length) (h2 : j < d.length) : D[j] = d[j] ∧ D.take j = d.take j := by
  refine ⟨?_, ?_⟩
  · have e := congrArg (fun l : List Int => l[j]?) h
    simp only [List.getElem?_take, if_pos (Nat.lt_succ_self j), List.getElem?_eq_getElem h1, List.getElem?_eq_getElem h2, Option.some.injEq] at e
    exact e
  · have e := congrArg (List.take j) h
    rwa [List.take_take, List.take_take, Nat.min_eq_left (by omega)] at e

def rGrayDigits0 (n : Int) (r : List Int) : List Int := (gmS (rMixedDigits0 n r) r).1
def rFromGrayDigits0 (d r : List Int) : Int := if okM d r then mv (umS d r).1 r else -1
theorem owns_drewN_g {w : World} {base : Nat} {e : TypeId} {v : Value} {n : Nat} {xs : List Value} (h : w.ownsRow base e 1 v n xs) (q : Nat) : (w.drewN q).ownsRow base e 1 v n xs := h
theorem ints_set (l : List Int) (j : Nat) (v : Int) : (intsOf l).set j (Value.int .i64 v) = intsOf (l.set j v) := by simp [intsOf, List.map_set]

end Go.Proofs.YtleadjkndciniaaDoor
