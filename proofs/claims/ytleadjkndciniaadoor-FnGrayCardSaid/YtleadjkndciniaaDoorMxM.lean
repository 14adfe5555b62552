/- Mixed places: plain functions and facts: the range, the places, digits, values, sums and carries. -/
import Derived.Test.YtleadjkndciniaaDoorDgS
set_option linter.unusedVariables false
set_option linter.unusedSimpArgs false
set_option maxRecDepth 100000
namespace Go.Proofs.YtleadjkndciniaaDoor

/-- the product of radices -/
def rp : List Int → Int
  | [] => 1
  | x :: r => x * rp r
def AllR (r : List Int) : Prop := ∀ x ∈ r, 2 ≤ x ∧ x ≤ 60
theorem allR_tail {x : Int} {r : List Int} (h : AllR (x :: r)) : AllR r := fun y hy => h y (List.mem_cons_of_mem _ hy)
theorem rp_pos : ∀ {r : List Int}, AllR r → 1 ≤ rp r
  | [], _ => by simp [rp]
  | x :: r, h => by
    have h1 := h x (by simp)
    have h2 := rp_pos (allR_tail h)
    have : x * 1 ≤ x * rp r := Int.mul_le_mul_of_nonneg_left h2 (by omega)
    rw [rp]; omega
theorem rp_append : ∀ r s : List Int, rp (r ++ s) = rp r * rp s
  | [], s => by simp [rp]
  | x :: r, s => by rw [List.cons_append, rp, rp_append r s, rp, Int.mul_assoc]
theorem rp_take {r : List Int} {k : Nat} (h : k < r.length) : rp (r.take (k + 1)) = rp (r.take k) * r[k] := by
  rw [List.take_succ_eq_append_getElem h, rp_append]; simp [rp]
theorem rp_split (r : List Int) (k : Nat) : rp (r.take k) * rp (r.drop k) = rp r := by rw [← rp_append, List.take_append_drop]
theorem allR_take {r : List Int} (h : AllR r) (k : Nat) : AllR (r.take k) := fun x hx => h x (List.mem_of_mem_take hx)
theorem allR_drop {r : List Int} (h : AllR r) (k : Nat) : AllR (r.drop k) := fun x hx => h x (List.mem_of_mem_drop hx)
theorem rp_take_le {r : List Int} (h : AllR r) (k : Nat) : rp (r.take k) ≤ rp r := by
  have h1 := rp_pos (allR_take h k)
  have h2 := rp_pos (allR_drop h k)
  have : rp (r.take k) * 1 ≤ rp (r.take k) * rp (r.drop k) := Int.mul_le_mul_of_nonneg_left h2 (by omega)
  rw [rp_split] at this; omega

def okR (r : List Int) : Bool := decide (1 ≤ r.length) && decide (r.length ≤ 10) && decide (∀ x ∈ r, 2 ≤ x ∧ x ≤ 60) && decide (rp r ≤ 1000000000000)
theorem okR_yes {r : List Int} (h : okR r = true) : 1 ≤ r.length ∧ r.length ≤ 10 ∧ AllR r ∧ rp r ≤ 1000000000000 := by
  simp only [okR, Bool.and_eq_true, decide_eq_true_eq] at h
  exact ⟨h.1.1.1, h.1.1.2, h.1.2, h.2⟩
theorem okR_mk {r : List Int} (h1 : 1 ≤ r.length) (h2 : r.length ≤ 10) (h3 : AllR r) (h4 : rp r ≤ 1000000000000) : okR r = true := by
  simp only [okR, Bool.and_eq_true, decide_eq_true_eq]; exact ⟨⟨⟨h1, h2⟩, h3⟩, h4⟩
theorem okR_len {r : List Int} (h : inB (r.length : Int) 1 10 = false) : okR r = false := by
  cases e : okR r
  · rfl
  · obtain ⟨h1, h2, _, _⟩ := okR_yes e
    rw [show inB (r.length : Int) 1 10 = true by simp [inB]; omega] at h; simp at h
theorem okR_at {r : List Int} {k : Nat} (hk : k < r.length) (h : inB r[k] 2 60 = false) : okR r = false := by
  cases e : okR r
  · rfl
  · obtain ⟨_, _, h3, _⟩ := okR_yes e
    have := h3 _ (List.getElem_mem hk)
    rw [show inB r[k] 2 60 = true by simp [inB]; omega] at h; simp at h
theorem okR_big {r : List Int} {k : Nat} (h : 1000000000000 < rp (r.take k)) : okR r = false := by
  cases e : okR r
  · rfl
  · obtain ⟨_, _, h3, h4⟩ := okR_yes e
    have := rp_take_le h3 k
    omega

/-- what each place counts -/
def plF : Int → List Int → List Int
  | _, [] => []
  | q, x :: r => q :: plF (q * x) r
theorem plF_len : ∀ (r : List Int) (q : Int), (plF q r).length = r.length
  | [], q => rfl
  | x :: r, q => by rw [plF, List.length_cons, List.length_cons, plF_len r]
theorem plF_append : ∀ (r s : List Int) (q : Int), plF q (r ++ s) = plF q r ++ plF (q * rp r) s
  | [], s, q => by simp [plF, rp]
  | x :: r, s, q => by rw [List.cons_append, plF, plF, plF_append r s, rp, Int.mul_assoc]; rfl
theorem plF_take {r : List Int} {k : Nat} (h : k < r.length) : plF 1 (r.take (k + 1)) = plF 1 (r.take k) ++ [rp (r.take k)] := by
  rw [List.take_succ_eq_append_getElem h, plF_append]; simp [plF]

/-- mixed digits -/
def md : Int → List Int → List Int
  | _, [] => []
  | n, x :: r => n % x :: md (n / x) r
theorem md_len : ∀ (r : List Int) (n : Int), (md n r).length = r.length
  | [], n => rfl
  | x :: r, n => by rw [md, List.length_cons, List.length_cons, md_len r]
theorem md_append : ∀ (r s : List Int) (n : Int), AllR r → md n (r ++ s) = md n r ++ md (n / rp r) s
  | [], s, n, _ => by simp [md, rp]
  | x :: r, s, n, h => by
    have h1 := h x (by simp)
    rw [List.cons_append, md, md, md_append r s _ (allR_tail h), rp, Int.ediv_ediv_of_nonneg (by omega)]; rfl
theorem md_take {r : List Int} {k : Nat} (hA : AllR r) (h : k < r.length) (n : Int) : md n (r.take (k + 1)) = md n (r.take k) ++ [(n / rp (r.take k)) % r[k]] := by
  rw [List.take_succ_eq_append_getElem h, md_append _ _ _ (allR_take hA k)]; simp [md]
/-- their value -/
def mv : List Int → List Int → Int
  | d :: l, x :: r => d + x * mv l r
  | _, _ => 0
theorem mv_nil (r : List Int) : mv [] r = 0 := by cases r <;> rfl
theorem mv_nil' (l : List Int) : mv l [] = 0 := by cases l <;> rfl
/-- the digits fit the radices -/
def FitM : List Int → List Int → Prop
  | [], [] => True
  | d :: l, x :: r => (0 ≤ d ∧ d ≤ x - 1) ∧ FitM l r
  | _, _ => False
theorem fitM_len : ∀ {l r : List Int}, FitM l r → l.length = r.length
  | [], [], _ => rfl
  | d :: l, x :: r, h => by rw [List.length_cons, List.length_cons, fitM_len h.2]
  | [], x :: r, h => h.elim
  | d :: l, [], h => h.elim
theorem fitM_of : ∀ {l r : List Int}, l.length = r.length → (∀ j (h1 : j < l.length) (h2 : j < r.length), 0 ≤ l[j] ∧ l[j] ≤ r[j] - 1) → FitM l r
  | [], [], _, _ => trivial
  | d :: l, x :: r, h, hj => ⟨by have := hj 0 (by simp) (by simp); simpa using this, fitM_of (by simpa using h) (fun j h1 h2 => by have := hj (j + 1) (by simp; omega) (by simp; omega); simpa using this)⟩
  | [], x :: r, h, _ => by simp at h
  | d :: l, [], h, _ => by simp at h
theorem fitM_at : ∀ {l r : List Int}, FitM l r → ∀ j (h1 : j < l.length) (h2 : j < r.length), 0 ≤ l[j] ∧ l[j] ≤ r[j] - 1
  | d :: l, x :: r, h, 0, _, _ => h.1
  | d :: l, x :: r, h, j + 1, h1, h2 => by simpa using fitM_at h.2 j (by simpa using h1) (by simpa using h2)
  | [], [], _, j, h1, _ => by simp at h1
  | [], x :: r, h, _, _, _ => h.elim
  | d :: l, [], h, _, _, _ => h.elim
theorem mv_range : ∀ {l r : List Int}, AllR r → FitM l r → 0 ≤ mv l r ∧ mv l r ≤ rp r - 1
  | [], [], _, _ => by simp [mv, rp]
  | d :: l, x :: r, hA, h => by
    have h1 := hA x (by simp)
    obtain ⟨i1, i2⟩ := mv_range (allR_tail hA) h.2
    have hd := h.1
    have e1 : 0 ≤ x * mv l r := Int.mul_nonneg (by omega) i1
    have e2 : x * mv l r ≤ x * (rp r - 1) := Int.mul_le_mul_of_nonneg_left i2 (by omega)
    rw [Int.mul_sub, Int.mul_one] at e2
    rw [mv, rp]; omega
  | [], x :: r, _, h => h.elim
  | d :: l, [], _, h => h.elim
theorem fit_md : ∀ {r : List Int}, AllR r → ∀ n, FitM (md n r) r
  | [], _, _ => trivial
  | x :: r, hA, n => by
    have h1 := hA x (by simp)
    have h2 : n % x < x := Int.emod_lt_of_pos _ (by omega)
    exact ⟨⟨Int.emod_nonneg _ (by omega), by omega⟩, fit_md (allR_tail hA) _⟩
theorem mv_md : ∀ {r : List Int}, AllR r → ∀ n, mv (md n r) r = n % rp r
  | [], _, n => by simp [md, mv, rp, Int.emod_one]
  | x :: r, hA, n => by
    have h1 := hA x (by simp)
    have h2 := rp_pos (allR_tail hA)
    rw [md, mv, mv_md (allR_tail hA), rp]
    obtain ⟨R, hR⟩ : ∃ R, R = rp r := ⟨_, rfl⟩
    rw [← hR] at h2 ⊢
    have d1 := Int.emod_add_mul_ediv n x
    have d2 := Int.emod_add_mul_ediv (n / x) R
    have a0 : 0 ≤ n % x := Int.emod_nonneg _ (by omega)
    have a1 : n % x < x := Int.emod_lt_of_pos _ (by omega)
    have b0 : 0 ≤ n / x % R := Int.emod_nonneg _ (by omega)
    have b1 : n / x % R < R := Int.emod_lt_of_pos _ (by omega)
    obtain ⟨A, hA'⟩ : ∃ A, A = n % x := ⟨_, rfl⟩
    obtain ⟨q, hq⟩ : ∃ q, q = n / x := ⟨_, rfl⟩
    rw [← hA'] at d1 a0 a1 ⊢
    rw [← hq] at d1 d2 b0 b1 ⊢
    obtain ⟨C, hC⟩ : ∃ C, C = q % R := ⟨_, rfl⟩
    obtain ⟨t, ht⟩ : ∃ t, t = q / R := ⟨_, rfl⟩
    rw [← hC] at d2 b0 b1 ⊢
    rw [← ht] at d2
    have e : n = (A + x * C) + x * R * t := by rw [← d1, ← d2, Int.mul_add, Int.mul_assoc]; omega
    have c0 : 0 ≤ x * C := Int.mul_nonneg (by omega) b0
    have c1 : x * C ≤ x * (R - 1) := Int.mul_le_mul_of_nonneg_left (by omega) (by omega)
    rw [Int.mul_sub, Int.mul_one] at c1
    rw [e, Int.add_mul_emod_self_left, Int.emod_eq_of_lt (by omega) (by omega)]
theorem md_mv : ∀ {l r : List Int}, AllR r → FitM l r → md (mv l r) r = l
  | [], [], _, _ => rfl
  | d :: l, x :: r, hA, h => by
    have h1 := hA x (by simp)
    have hd := h.1
    have e1 : (d + x * mv l r) % x = d := by rw [Int.add_mul_emod_self_left]; exact Int.emod_eq_of_lt hd.1 (by omega)
    have e2 : (d + x * mv l r) / x = mv l r := by rw [Int.add_mul_ediv_left _ _ (by omega), Int.ediv_eq_zero_of_lt hd.1 (by omega), Int.zero_add]
    rw [mv, md, e1, e2, md_mv (allR_tail hA) h.2]
  | [], x :: r, _, h => h.elim
  | d :: l, [], _, h => h.elim

/-- place by place: the digits, the last carry, the number of carries -/
def adD (cy : Int) : List Int → List Int → List Int → List Int
  | a :: l, c :: m, x :: r => (a + c + cy) % x :: adD ((a + c + cy) / x) l m r
  | _, _, _ => []
def adC (cy : Int) : List Int → List Int → List Int → Int
  | a :: l, c :: m, x :: r => adC ((a + c + cy) / x) l m r
  | _, _, _ => cy
def adN (cy : Int) : List Int → List Int → List Int → Int
  | a :: l, c :: m, x :: r => (a + c + cy) / x + adN ((a + c + cy) / x) l m r
  | _, _, _ => 0
theorem ad_carry {a c cy x : Int} (h0 : 0 ≤ cy) (h1 : cy ≤ 1) (ha : 0 ≤ a ∧ a ≤ x - 1) (hc : 0 ≤ c ∧ c ≤ x - 1) (hx : 2 ≤ x) : 0 ≤ (a + c + cy) / x ∧ (a + c + cy) / x ≤ 1 ∧ 0 ≤ a + c + cy := by
  refine ⟨Int.ediv_nonneg (by omega) (by omega), ?_, by omega⟩
  have : (a + c + cy) / x < 2 := Int.ediv_lt_of_lt_mul (by omega) (by omega)
  omega
theorem ad_val : ∀ {l m r : List Int} (cy : Int), 0 ≤ cy → cy ≤ 1 → AllR r → FitM l r → FitM m r →
    FitM (adD cy l m r) r ∧ mv (adD cy l m r) r + rp r * adC cy l m r = mv l r + mv m r + cy ∧ 0 ≤ adC cy l m r ∧ adC cy l m r ≤ 1 ∧ adC cy l m r ≤ adN cy l m r + cy ∧ 0 ≤ adN cy l m r
  | [], [], [], cy, h0, h1, _, _, _ => by simp [adD, adC, adN, mv, rp, FitM]; omega
  | a :: l, c :: m, x :: r, cy, h0, h1, hA, hl, hm => by
    have hx := hA x (by simp)
    obtain ⟨k1, k2, k3⟩ := ad_carry h0 h1 hl.1 hm.1 hx.1
    obtain ⟨i1, i2, i3, i4, i5, i6⟩ := ad_val ((a + c + cy) / x) k1 k2 (allR_tail hA) hl.2 hm.2
    have hd := Int.emod_add_mul_ediv (a + c + cy) x
    have hr0 : 0 ≤ (a + c + cy) % x := Int.emod_nonneg _ (by omega)
    have hr1 : (a + c + cy) % x < x := Int.emod_lt_of_pos _ (by omega)
    rw [adD, adC, adN]
    refine ⟨⟨⟨hr0, by omega⟩, i1⟩, ?_, i3, i4, by omega, by omega⟩
    rw [mv, mv, mv, rp]
    obtain ⟨D, hD⟩ : ∃ D, D = mv (adD ((a + c + cy) / x) l m r) r := ⟨_, rfl⟩
    obtain ⟨K, hK⟩ : ∃ K, K = adC ((a + c + cy) / x) l m r := ⟨_, rfl⟩
    obtain ⟨Q, hQ⟩ : ∃ Q, Q = (a + c + cy) / x := ⟨_, rfl⟩
    rw [← hD, ← hK, ← hQ] at i2
    rw [← hD, ← hK]
    rw [← hQ] at hd
    have e : x * (D + rp r * K) = x * (mv l r + mv m r + Q) := by rw [i2]
    rw [Int.mul_add, Int.mul_add, Int.mul_add] at e
    rw [Int.mul_assoc]; omega
  | [], [], x :: r, _, _, _, _, h, _ => h.elim
  | [], c :: m, [], _, _, _, _, _, h => h.elim
  | [], c :: m, x :: r, _, _, _, _, h, _ => h.elim
  | a :: l, [], [], _, _, _, _, h, _ => h.elim
  | a :: l, [], x :: r, _, _, _, _, _, h => h.elim
  | a :: l, c :: m, [], _, _, _, _, h, _ => h.elim

/-! ### the law's sums -/
theorem mv_take {l r : List Int} {k : Nat} (h1 : k < l.length) (h2 : k < r.length) : mv (l.take (k + 1)) (r.take (k + 1)) = mv (l.take k) (r.take k) + l[k] * rp (r.take k) := by
  rw [List.take_succ_eq_append_getElem h1, List.take_succ_eq_append_getElem h2]
  have key : ∀ (l r : List Int) (d x : Int), l.length = r.length → mv (l ++ [d]) (r ++ [x]) = mv l r + d * rp r := by
    intro l
    induction l with
    | nil => intro r d x h; have : r = [] := List.eq_nil_of_length_eq_zero h.symm
             subst this; simp [mv, mv_nil, rp]
    | cons a l ih =>
      intro r d x h
      cases r with
      | nil => simp at h
      | cons y r =>
        rw [List.cons_append, List.cons_append, mv, mv, ih r d x (by simpa using h), rp, Int.mul_add]
        have : y * (d * rp r) = d * (y * rp r) := by ac_rfl
        omega
  exact key _ _ _ _ (by simp; omega)
theorem plF_get : ∀ (r : List Int) (q : Int) (k : Nat) (h : k < (plF q r).length), (plF q r)[k] = q * rp (r.take k)
  | [], q, k, h => by simp [plF] at h
  | x :: r, q, 0, h => by simp [plF, rp]
  | x :: r, q, k + 1, h => by
    have := plF_get r (q * x) k (by simpa [plF] using h)
    simp only [plF, List.getElem_cons_succ, List.take_succ_cons, rp]
    rw [this, Int.mul_assoc]
/-- each carry takes a radix minus 1 from the digits -/
theorem ad_sum {B : Int} (hB : B ≠ 0) : ∀ (l m r : List Int) (cy : Int), l.length = r.length → m.length = r.length → (∀ x ∈ r, x = B) → l.sum + m.sum + cy - (adD cy l m r).sum = (B - 1) * adN cy l m r + adC cy l m r
  | [], [], [], cy, _, _, _ => by simp [adD, adN, adC]
  | a :: l, c :: m, x :: r, cy, h1, h2, hx => by
    have e := hx x (by simp)
    subst e
    have ih := ad_sum hB l m r ((a + c + cy) / x) (by simpa using h1) (by simpa using h2) (fun y hy => hx y (by simp [hy]))
    have hd := Int.emod_add_mul_ediv (a + c + cy) x
    rw [adD, adN, adC, List.sum_cons, List.sum_cons, List.sum_cons, Int.mul_add]
    obtain ⟨Q, hQ⟩ : ∃ Q, Q = (a + c + cy) / x := ⟨_, rfl⟩
    rw [← hQ] at ih hd ⊢
    have e2 : (x - 1) * Q = x * Q - Q := by rw [Int.sub_mul, Int.one_mul]
    rw [e2]; omega
  | a :: l, _, [], _, h, _, _ => by simp at h
  | [], _, x :: r, _, h, _, _ => by simp at h
  | a :: l, [], x :: r, _, _, h, _ => by simp at h
  | [], c :: m, [], _, _, h, _ => by simp at h

end Go.Proofs.YtleadjkndciniaaDoor
