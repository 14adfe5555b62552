/- Gray codes: the model's test of a cycle. -/
import Derived.Test.YtleadjkndciniaaDoorGrM
import Derived.Test.YtleadjkndciniaaDoorDgS
set_option linter.unusedVariables false
set_option linter.unusedSimpArgs false
set_option maxRecDepth 100000
namespace Go.Proofs.YtleadjkndciniaaDoor
open Go.ChangeShapes Go.WideShapes Go.ChangeAt Go.RowKit

theorem infoBoolG : (Tryd.prog.info? 4).map (fun i => (i.zero, i.size, i.bytes)) = some (some (.bool false), 1, 1) := by kernel_rfl

/-- a row of m marks -/
def tbB (m : Nat) (f : Nat → Bool) : List Value := (List.range m).map (fun j => Value.bool (f j))
theorem tbB_at {m : Nat} {f : Nat → Bool} {x : Nat} (h : x < m) : (tbB m f)[x]? = some (.bool (f x)) := by
  simp only [tbB, List.getElem?_map, List.getElem?_range h]; rfl
theorem tbB_set {m : Nat} {f : Nat → Bool} {x : Nat} (b : Bool) : (tbB m f).set x (.bool b) = tbB m (fun j => if j = x then b else f j) := by
  apply List.ext_getElem (by simp [tbB])
  intro i h1 h2
  simp only [tbB, List.getElem_set, List.getElem_map, List.getElem_range]
  by_cases h : x = i
  · subst h; simp
  · rw [if_neg h, if_neg (fun e => h e.symm)]
theorem tbB_no (m : Nat) : List.replicate m (Value.bool false) = tbB m (fun _ => false) := by
  unfold tbB; apply List.ext_getElem (by simp); intro i h1 h2; simp
theorem tbB_same {m : Nat} {f g : Nat → Bool} (h : ∀ x < m, f x = g x) : tbB m f = tbB m g := by
  unfold tbB
  exact List.map_congr_left (fun x hx => by rw [h x (List.mem_range.mp hx)])
/-- which numbers have come -/
def seenB (l : List Int) (i : Nat) (j : Nat) : Bool := (l.take i).contains (j : Int)
theorem seenB_next {l : List Int} {i x : Nat} (hi : i < l.length) (hx : l[i] = (x : Int)) (m : Nat) : tbB m (fun j => if j = x then true else seenB l i j) = tbB m (seenB l (i + 1)) := by
  refine tbB_same (fun j _ => ?_)
  unfold seenB
  rw [List.take_succ_eq_append_getElem hi, List.contains_eq_any_beq, List.contains_eq_any_beq, List.any_append, hx]
  simp only [List.any_cons, List.any_nil, Bool.or_false]
  by_cases h : j = x
  · subst h; simp
  · rw [if_neg h]
    have : ((j : Int) == (x : Int)) = false := by simp; omega
    rw [this, Bool.or_false]

def rIsGrayCycle0 (l : List Int) (k : Int) : Bool := inB k 1 6 && (decide ((l.length : Int) = ((2 ^ k.toNat : Nat) : Int)) && cycB l)
theorem cycB_no {l : List Int} {i : Nat} (h : i < l.length) (hc : cycAt l i = false) : cycB l = false := by
  cases e : cycB l
  · rfl
  · have := List.all_eq_true.1 e i (List.mem_range.2 h)
    rw [hc] at this; cases this
theorem cycB_yes {l : List Int} (h : ∀ i, i < l.length → cycAt l i = true) : cycB l = true :=
  List.all_eq_true.2 (fun i hi => h i (List.mem_range.1 hi))
theorem getD_at {l : List Int} {i : Nat} (h : i < l.length) : l.getD i 0 = l[i] := by rw [List.getD_eq_getElem?_getD, List.getElem?_eq_getElem h]; rfl

end Go.Proofs.YtleadjkndciniaaDoor
