/- Places of coins, plain: tables while they are filled; counts coin after coin. -/
import Derived.Test.YtbfoaibgenepoaaCoW
import Derived.Test.YtbfoaibgenepoaaCoCnt
set_option linter.unusedVariables false
set_option linter.unusedSimpArgs false
set_option maxRecDepth 100000
namespace Go.Proofs.Ytbfoaibgenepoaa

/-- the first coin's table, filled up to x -/
def begT (g : Int → Int) (z : Int) (x y : Nat) : Int := if y ≤ x then w0 g z y else 0
theorem tblC_put (n : Nat) (z : Int) : (List.replicate (n + 1) (0 : Int)).set 0 z = tblC n (fun y => if y = 0 then z else 0) := by
  rw [show List.replicate (n + 1) (0 : Int) = tblC n (fun _ => 0) by
    unfold tblC; apply List.ext_getElem (by simp); intro i h1 h2; simp]
  rw [tblC_set]
theorem begT_zero {g : Int → Int} {z : Int} : (fun y : Nat => if y = 0 then z else 0) = begT g z 0 := by
  funext y
  rw [begT]
  cases y with
  | zero => rfl
  | succ y => rw [if_neg (by omega), if_neg (by omega)]
theorem begT_next {g : Int → Int} {z : Int} {x : Nat} : (fun y => if y = x + 1 then w0 g z (x + 1) else begT g z x y) = begT g z (x + 1) := by
  funext y
  simp only [begT]
  by_cases h : y = x + 1
  · rw [if_pos h, if_pos (by omega), h]
  · rw [if_neg h]
    by_cases h2 : y ≤ x
    · rw [if_pos h2, if_pos (by omega)]
    · rw [if_neg h2, if_neg (by omega)]
/-- a coin's table, filled below x -/
def mixW {α : Type} (g : α → α) (h : α → α → α) (c : Nat) (f : Nat → α) (x y : Nat) : α := if y < x then wU g h c f y else f y
theorem mixW_start (n c : Nat) (g : Int → Int) (h : Int → Int → Int) (f : Nat → Int) : tblC n (mixW g h c f c) = tblC n f := by
  refine tblC_same (fun y _ => ?_)
  rw [mixW]; split
  · exact wU_less (by omega)
  · rfl
theorem mixW_end {n c x : Nat} (g : Int → Int) (h : Int → Int → Int) (f : Nat → Int) (hx : n < x) : tblC n (mixW g h c f x) = tblC n (wU g h c f) :=
  tblC_same (fun y hy => by rw [mixW, if_pos (by omega)])
theorem mixW_next {n c x : Nat} (g : Int → Int) (h : Int → Int → Int) (f : Nat → Int) : (tblC n (mixW g h c f x)).set x (wU g h c f x) = tblC n (mixW g h c f (x + 1)) := by
  rw [tblC_set]
  refine tblC_same (fun y _ => ?_)
  by_cases hy : y = x
  · subst hy; rw [if_pos rfl, mixW, if_pos (by omega)]
  · rw [if_neg hy, mixW, mixW]
    by_cases hl : y < x
    · rw [if_pos hl, if_pos (by omega)]
    · rw [if_neg hl, if_neg (by omega)]

/-- the counts, by the coins up to place j -/
def wCt (l : List Int) (j x : Nat) : Int := wF (fun _ y => y) (fun a b => a + b) 1 l j x
theorem wU_cw (c : Nat) (f : Nat → Int) (x : Nat) : wU (fun y => y) (fun a b => a + b) c f x = cwU c f x := by
  induction x using Nat.strongRecOn with
  | _ x ih =>
    by_cases hx : 0 < c ∧ c ≤ x
    · rw [wU_more hx.1 hx.2, cwU_more hx.1 hx.2, ih (x - c) (by omega)]
    · rw [wU, if_neg hx, cwU, if_neg hx]
theorem wCt_cw {l : List Int} (h : Coins l) : ∀ (j : Nat), j < l.length → ∀ x, wCt l j x = cwF (l.take (j + 1)) x
  | 0, _, x => by
    obtain ⟨t, ht⟩ := h.one
    subst ht
    show w0 (fun y : Int => y) 1 x = cwU 1 cw0 x
    rw [cwU_one]
    induction x with
    | zero => rfl
    | succ x ih => rw [w0, ih]
  | j + 1, hj, x => by
    rw [cwF_take hj]
    have e : wCt l (j + 1) x = wU (fun y => y) (fun a b => a + b) (l.getD (j + 1) 0).toNat (wCt l j) x := rfl
    have e2 : l.getD (j + 1) 0 = l[j + 1] := by rw [List.getD_eq_getElem?_getD, List.getElem?_eq_getElem hj]; rfl
    rw [e, wU_cw, e2, funext (wCt_cw h j (by omega))]
theorem wCt_fits {l : List Int} (h : Coins l) (j : Nat) (hj : j < l.length) (x : Nat) (hx : x ≤ 400) : 0 ≤ wCt l j x ∧ wCt l j x ≤ 4000000000000000000 := by
  rw [wCt_cw h j hj]
  exact cwF_fits h (j + 1) (by omega) x hx

end Go.Proofs.Ytbfoaibgenepoaa
