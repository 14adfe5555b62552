/- Factorial places and permutations: plain functions and facts: factorials, factorial digits, Lehmer's digits, permutations in their order. -/
import Derived.Test.YtjdijmccpihkhaaMxM
set_option linter.unusedVariables false
set_option linter.unusedSimpArgs false
set_option maxRecDepth 100000
namespace Go.Proofs.Ytjdijmccpihkhaa

def fct : Nat → Int
  | 0 => 1
  | k + 1 => ((k : Int) + 1) * fct k
/-- the radices 1 to m -/
def fr (m : Nat) : List Int := (List.range m).map fun k : Nat => (k : Int) + 1
theorem fr_len (m : Nat) : (fr m).length = m := by simp [fr]
theorem fr_get (m : Nat) {k : Nat} (h : k < (fr m).length) : (fr m)[k] = (k : Int) + 1 := by simp [fr]
theorem fr_succ (m : Nat) : fr (m + 1) = fr m ++ [(m : Int) + 1] := by simp [fr, List.range_succ]
theorem fr_take {m k : Nat} (h : k ≤ m) : (fr m).take k = fr k := by
  simp only [fr, ← List.map_take, List.take_range, Nat.min_eq_left h]
theorem rp_fr : ∀ m, rp (fr m) = fct m
  | 0 => rfl
  | m + 1 => by rw [fr_succ, rp_append, rp_fr m]; simp [rp, fct, Int.mul_comm]
def AllP (r : List Int) : Prop := ∀ x ∈ r, 1 ≤ x
theorem allP_tail {x : Int} {r : List Int} (h : AllP (x :: r)) : AllP r := fun y hy => h y (List.mem_cons_of_mem _ hy)
theorem allP_take {r : List Int} (h : AllP r) (k : Nat) : AllP (r.take k) := fun x hx => h x (List.mem_of_mem_take hx)
theorem allP_fr (m : Nat) : AllP (fr m) := by
  intro x hx
  simp only [fr, List.mem_map] at hx
  obtain ⟨k, _, rfl⟩ := hx
  omega
theorem rp_posP : ∀ {r : List Int}, AllP r → 1 ≤ rp r
  | [], _ => by simp [rp]
  | x :: r, h => by
    have h1 := h x (by simp)
    have h2 := rp_posP (allP_tail h)
    have : x * 1 ≤ x * rp r := Int.mul_le_mul_of_nonneg_left h2 (by omega)
    rw [rp]; omega
theorem md_appendP : ∀ (r s : List Int) (n : Int), AllP r → md n (r ++ s) = md n r ++ md (n / rp r) s
  | [], s, n, _ => by simp [md, rp]
  | x :: r, s, n, h => by
    have h1 := h x (by simp)
    rw [List.cons_append, md, md, md_appendP r s _ (allP_tail h), rp, Int.ediv_ediv_of_nonneg (by omega)]; rfl
theorem md_takeP {r : List Int} {k : Nat} (hA : AllP r) (h : k < r.length) (n : Int) : md n (r.take (k + 1)) = md n (r.take k) ++ [(n / rp (r.take k)) % r[k]] := by
  rw [List.take_succ_eq_append_getElem h, md_appendP _ _ _ (allP_take hA k)]; simp [md]
theorem fit_mdP : ∀ {r : List Int}, AllP r → ∀ n, FitM (md n r) r
  | [], _, _ => trivial
  | x :: r, hA, n => by
    have h1 := hA x (by simp)
    have h2 : n % x < x := Int.emod_lt_of_pos _ (by omega)
    exact ⟨⟨Int.emod_nonneg _ (by omega), by omega⟩, fit_mdP (allP_tail hA) _⟩
theorem mv_rangeP : ∀ {l r : List Int}, AllP r → FitM l r → 0 ≤ mv l r ∧ mv l r ≤ rp r - 1
  | [], [], _, _ => by simp [mv, rp]
  | d :: l, x :: r, hA, h => by
    have h1 := hA x (by simp)
    obtain ⟨i1, i2⟩ := mv_rangeP (allP_tail hA) h.2
    have hd := h.1
    have e1 : 0 ≤ x * mv l r := Int.mul_nonneg (by omega) i1
    have e2 : x * mv l r ≤ x * (rp r - 1) := Int.mul_le_mul_of_nonneg_left i2 (by omega)
    rw [Int.mul_sub, Int.mul_one] at e2
    rw [mv, rp]; omega
  | [], x :: r, _, h => h.elim
  | d :: l, [], _, h => h.elim
theorem md_mvP : ∀ {l r : List Int}, AllP r → FitM l r → md (mv l r) r = l
  | [], [], _, _ => rfl
  | d :: l, x :: r, hA, h => by
    have h1 := hA x (by simp)
    have hd := h.1
    have e1 : (d + x * mv l r) % x = d := by rw [Int.add_mul_emod_self_left]; exact Int.emod_eq_of_lt hd.1 (by omega)
    have e2 : (d + x * mv l r) / x = mv l r := by rw [Int.add_mul_ediv_left _ _ (by omega), Int.ediv_eq_zero_of_lt hd.1 (by omega), Int.zero_add]
    rw [mv, md, e1, e2, md_mvP (allP_tail hA) h.2]
  | [], x :: r, _, h => h.elim
  | d :: l, [], _, h => h.elim
theorem mv_mdP : ∀ {r : List Int}, AllP r → ∀ n, mv (md n r) r = n % rp r
  | [], _, n => by simp [md, mv, rp, Int.emod_one]
  | x :: r, hA, n => by
    have h1 := hA x (by simp)
    have h2 := rp_posP (allP_tail hA)
    rw [md, mv, mv_mdP (allP_tail hA), rp]
    obtain ⟨R, hR⟩ : ∃ R, R = rp r := ⟨_, rfl⟩
    rw [← hR] at h2 ⊢
    have d1 := Int.emod_add_mul_ediv n x
    have d2 := Int.emod_add_mul_ediv (n / x) R
    have a0 : 0 ≤ n % x := Int.emod_nonneg _ (by omega)
    have a1 : n % x < x := Int.emod_lt_of_pos _ (by omega)
    have b0 : 0 ≤ n / x % R := Int.emod_nonneg _ (by omega)
    have b1 : n / x % R < R := Int.emod_lt_of_pos _ (by omega)
    obtain ⟨A, hA'⟩ : ∃ A, A = n % x := ⟨_, rfl⟩
    obtain ⟨q, hq⟩ : ∃ q, q = n / x := ⟨_, rfl⟩
    rw [← hA'] at d1 a0 a1 ⊢
    rw [← hq] at d1 d2 b0 b1 ⊢
    obtain ⟨C, hC⟩ : ∃ C, C = q % R := ⟨_, rfl⟩
    obtain ⟨t, ht⟩ : ∃ t, t = q / R := ⟨_, rfl⟩
    rw [← hC] at d2 b0 b1 ⊢
    rw [← ht] at d2
    have e : n = (A + x * C) + x * R * t := by rw [← d1, ← d2, Int.mul_add, Int.mul_assoc]; omega
    have c0 : 0 ≤ x * C := Int.mul_nonneg (by omega) b0
    have c1 : x * C ≤ x * (R - 1) := Int.mul_le_mul_of_nonneg_left (by omega) (by omega)
    rw [Int.mul_sub, Int.mul_one] at c1
    rw [e, Int.add_mul_emod_self_left, Int.emod_eq_of_lt (by omega) (by omega)]

/-! ### permutations -/
/-- how many of t are less than x -/
def cntL (x : Int) (t : List Int) : Nat := t.countP (fun y => decide (y < x))
def cntG (x : Int) (t : List Int) : Nat := t.countP (fun y => decide (x < y))
theorem cntL_le (x : Int) (t : List Int) : cntL x t ≤ t.length := List.countP_le_length
theorem cntL_cons (x y : Int) (t : List Int) : cntL x (y :: t) = cntL x t + if y < x then 1 else 0 := by
  simp [cntL, List.countP_cons]
/-- Lehmer's digits, the last item's first -/
def leh : List Int → List Int
  | [] => []
  | x :: t => leh t ++ [(cntL x t : Int)]
theorem leh_len : ∀ l, (leh l).length = l.length
  | [] => rfl
  | x :: t => by rw [leh, List.length_append, leh_len t]; simp
theorem fitM_snoc : ∀ {l r : List Int} {d x : Int}, FitM l r → 0 ≤ d ∧ d ≤ x - 1 → FitM (l ++ [d]) (r ++ [x])
  | [], [], _, _, _, h => ⟨h, trivial⟩
  | _ :: _, _ :: _, _, _, h, h' => ⟨h.1, fitM_snoc h.2 h'⟩
  | [], _ :: _, _, _, h, _ => h.elim
  | _ :: _, [], _, _, h, _ => h.elim
theorem leh_fit : ∀ l, FitM (leh l) (fr l.length)
  | [] => trivial
  | x :: t => by
    rw [leh, List.length_cons, fr_succ]
    exact fitM_snoc (leh_fit t) ⟨by omega, by have := cntL_le x t; omega⟩
theorem leh_at : ∀ (l : List Int) (i : Nat) (h : i < l.length) (h' : l.length - 1 - i < (leh l).length), (leh l)[l.length - 1 - i] = (cntL l[i] (l.drop (i + 1)) : Int)
  | [], i, h, _ => by simp at h
  | x :: t, 0, h, h' => by
    have : (leh (x :: t)).length - 1 = t.length := by rw [leh_len]; simp
    simp only [leh, List.length_cons, Nat.add_sub_cancel, Nat.sub_zero, List.getElem_cons_zero, List.drop_succ_cons, List.drop_zero]
    rw [List.getElem_append_right (by rw [leh_len]; exact Nat.le_refl _)]
    simp [leh_len]
  | x :: t, i + 1, h, h' => by
    have hi : i < t.length := by simpa using h
    have := leh_at t i hi (by rw [leh_len]; omega)
    simp only [leh, List.length_cons, List.getElem_cons_succ, List.drop_succ_cons]
    rw [List.getElem_append_left (by rw [leh_len]; omega)]
    simp only [show t.length + 1 - 1 - (i + 1) = t.length - 1 - i by omega]
    exact this

/-- items taken out of a list, one after another, by their places -/
def pat : List Int → List Int → List Int
  | [], _ => []
  | k :: ds, left => (left.getD k.toNat 0) :: pat ds (left.eraseIdx k.toNat)
theorem pat_len : ∀ (ds left : List Int), (pat ds left).length = ds.length
  | [], _ => rfl
  | k :: ds, left => by rw [pat, List.length_cons, List.length_cons, pat_len ds]

/-- inversions -/
def inv : List Int → Int
  | [] => 0
  | x :: t => (cntL x t : Int) + inv t
theorem leh_sum : ∀ l, (leh l).sum = inv l
  | [] => rfl
  | x :: t => by rw [leh, inv, List.sum_append, leh_sum t]; simp; omega
theorem inv_snoc : ∀ (l : List Int) (x : Int), inv (l ++ [x]) = inv l + cntG x l
  | [], x => by simp [inv, cntL, cntG]
  | y :: t, x => by
    rw [List.cons_append, inv, inv_snoc t x, inv]
    simp only [cntL, cntG, List.countP_append, List.countP_cons, List.countP_nil]
    by_cases h : x < y <;> simp [h] <;> omega
theorem cntG_rev (x : Int) (t : List Int) : cntG x t.reverse = cntG x t := by simp [cntG, List.countP_reverse]
theorem cnt_all : ∀ (x : Int) (t : List Int), x ∉ t → (cntL x t : Int) + cntG x t = t.length
  | x, [], _ => by simp [cntL, cntG]
  | x, y :: t, h => by
    have h1 : x ≠ y := fun e => h (by simp [e])
    have ih := cnt_all x t (fun e => h (by simp [e]))
    simp only [cntL, cntG, List.countP_cons] at ih ⊢
    rcases Int.lt_trichotomy x y with h2 | h2 | h2
    · have : ¬ y < x := by omega
      simp [h2, this]; omega
    · exact absurd h2 h1
    · have : ¬ x < y := by omega
      simp [h2, this]; omega
theorem inv_rev : ∀ l : List Int, l.Nodup → 2 * (inv l + inv l.reverse) = l.length * ((l.length : Int) - 1)
  | [], _ => by simp [inv]
  | x :: t, h => by
    obtain ⟨h1, h2⟩ := List.nodup_cons.1 h
    have ih := inv_rev t h2
    have hc := cnt_all x t h1
    rw [List.reverse_cons, inv_snoc, inv, cntG_rev, List.length_cons]
    have e : ((t.length + 1 : Nat) : Int) * (((t.length + 1 : Nat) : Int) - 1) = t.length * ((t.length : Int) - 1) + 2 * t.length := by
      have e1 : ((t.length + 1 : Nat) : Int) = (t.length : Int) + 1 := by omega
      rw [e1, Int.add_sub_cancel, Int.add_mul, Int.mul_sub, Int.mul_one, Int.one_mul]; omega
    rw [e]; omega

end Go.Proofs.Ytjdijmccpihkhaa
