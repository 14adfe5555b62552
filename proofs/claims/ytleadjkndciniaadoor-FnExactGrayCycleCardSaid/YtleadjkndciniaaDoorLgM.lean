/- Long numbers: plain facts on lists of digits and their values. -/
import Derived.Test.YtleadjkndciniaaDoorDgM
set_option linter.unusedVariables false
set_option linter.unusedSimpArgs false
set_option maxRecDepth 100000
namespace Go.Proofs.YtleadjkndciniaaDoor

theorem hv_append (b : Int) : ∀ l m : List Int, hv b (l ++ m) = hv b l + b ^ l.length * hv b m
  | [], m => by simp [hv_nil]
  | d :: l, m => by
    rw [List.cons_append, hv_cons, hv_cons, hv_append b l m, List.length_cons, Int.pow_succ]
    rw [Int.mul_add, Int.add_assoc, Int.mul_comm (b ^ l.length) b, Int.mul_assoc]

theorem hv_snoc (b : Int) (l : List Int) (d : Int) : hv b (l ++ [d]) = hv b l + b ^ l.length * d := by
  rw [hv_append, hv_cons, hv_nil]; simp

theorem hv_zeros (b : Int) : ∀ {l : List Int}, (∀ d ∈ l, d = 0) → hv b l = 0
  | [], _ => rfl
  | d :: l, h => by
    rw [hv_cons, h d (by simp), hv_zeros b (fun x hx => h x (List.mem_cons_of_mem _ hx))]; simp

theorem pow_pos' {b : Nat} (hb : 2 ≤ b) (k : Nat) : (0 : Int) < (b : Int) ^ k := Int.pow_pos (by omega)

theorem hv_lt {b : Nat} (hb : 2 ≤ b) : ∀ {l : List Int}, AllD b l → hv b l < (b : Int) ^ l.length
  | [], _ => by simp [hv_nil]
  | d :: l, h => by
    have ih := hv_lt hb (l := l) (fun x hx => h x (List.mem_cons_of_mem _ hx))
    have hd := h d (by simp)
    rw [hv_cons, List.length_cons, Int.pow_succ, Int.mul_comm]
    have : ((hv b l + 1) * b : Int) ≤ b ^ l.length * b := Int.mul_le_mul_of_nonneg_right (by omega) (by omega)
    rw [Int.add_mul, Int.one_mul] at this
    omega

theorem hv_ge {b : Nat} (hb : 2 ≤ b) {l : List Int} (h : AllD b l) (h0 : l ≠ []) (hl : l.getLast? ≠ some 0) : (b : Int) ^ (l.length - 1) ≤ hv b l := by
  have e : l = l.dropLast ++ [l.getLast h0] := (List.dropLast_concat_getLast h0).symm
  have hz : l.getLast h0 ≠ 0 := fun hz => hl (by rw [List.getLast?_eq_some_getLast h0, hz])
  have hd := h _ (List.getLast_mem h0)
  have hp := hv_nonneg' (b := b) (l := l.dropLast) (fun d hd => h d (List.dropLast_subset _ hd))
  rw [e, hv_snoc, List.length_append, List.length_dropLast]
  have h1 : (1 : Int) ≤ l.getLast h0 := by omega
  have : (b : Int) ^ (l.length - 1) * 1 ≤ b ^ (l.length - 1) * l.getLast h0 := Int.mul_le_mul_of_nonneg_left h1 (Int.le_of_lt (pow_pos' hb _))
  simp only [List.length_cons, List.length_nil, Nat.zero_add, Nat.add_sub_cancel]
  omega

/-- digits without zeros at the end -/
def Nrm (b : Nat) (l : List Int) : Prop := AllD b l ∧ (l = [] ∨ l.getLast? ≠ some 0)
theorem nrm_dg {b : Nat} (hb : 2 ≤ b) (n : Nat) : Nrm b (dg b n) := ⟨dg_digits hb n n (Nat.le_refl _), dg_last hb n n (Nat.le_refl _)⟩
theorem nrm_eq {b : Nat} (hb : 2 ≤ b) {l : List Int} (h : Nrm b l) : dg b (hv b l).toNat = l := dg_hv_same hb h.1 h.2
theorem okD_nrm {l : List Int} {b : Nat} (h : okD l b = true) : Nrm b l := ⟨(okD_yes h).2.2.1, (okD_yes h).2.2.2⟩
/-- the number of digits -/
def vl (b : Nat) (l : List Int) : Nat := (hv b l).toNat
theorem vl_cast {b : Nat} {l : List Int} (h : AllD b l) : (vl b l : Int) = hv b l := by
  have := hv_nonneg' h
  unfold vl; omega
theorem dg_vl {b : Nat} (hb : 2 ≤ b) {l : List Int} (h : Nrm b l) : dg b (vl b l) = l := nrm_eq hb h
theorem vl_dg {b : Nat} (hb : 2 ≤ b) (n : Nat) : vl b (dg b n) = n := by
  unfold vl; rw [hv_dg hb n n (Nat.le_refl _)]; simp
theorem dg_inj {b : Nat} (hb : 2 ≤ b) {n m : Nat} (h : dg b n = dg b m) : n = m := by rw [← vl_dg hb n, h, vl_dg hb]

/-- without the zeros at the end -/
theorem trim_eq {b : Nat} (hb : 2 ≤ b) {l : List Int} (h : AllD b l) {n : Nat} (hn : n ≤ l.length) (hz : ∀ j (hj : j < l.length), n ≤ j → l[j] = 0) (hl : ∀ (h : n - 1 < l.length), n = 0 ∨ l[n - 1] ≠ 0) :
    l.take n = dg b (vl b l) := by
  have hd : hv b (l.drop n) = 0 := hv_zeros b (fun d hd => by
    obtain ⟨j, hj, rfl⟩ := List.getElem_of_mem hd
    rw [List.getElem_drop]
    exact hz _ _ (by omega))
  have e : hv b l = hv b (l.take n) := by
    have := hv_append b (l.take n) (l.drop n)
    rw [List.take_append_drop, hd] at this
    rw [this]; simp
  have hN : Nrm b (l.take n) := by
    refine ⟨fun d hd => h d (List.mem_of_mem_take hd), ?_⟩
    by_cases h0 : n = 0
    · left; subst h0; simp
    · by_cases h1 : n - 1 < l.length
      · right
        have := (hl h1).resolve_left h0
        rw [List.getLast?_eq_getElem?, List.length_take, Nat.min_eq_left hn, List.getElem?_take, if_pos (by omega), List.getElem?_eq_getElem h1]
        simpa using this
      · left
        have : l.length = 0 := by omega
        rw [List.eq_nil_of_length_eq_zero this]; simp
  unfold vl
  rw [e]
  exact (nrm_eq hb hN).symm

/-! ### one place after the other -/
/-- the digit at a place, or 0 beyond the list -/
def at0 (l : List Int) (k : Nat) : Int := l.getD k 0
theorem at0_lt {l : List Int} {k : Nat} (h : k < l.length) : at0 l k = l[k] := by
  rw [at0, List.getD_eq_getElem?_getD, List.getElem?_eq_getElem h]; rfl
theorem at0_ge {l : List Int} {k : Nat} (h : l.length ≤ k) : at0 l k = 0 := by
  rw [at0, List.getD_eq_getElem?_getD, List.getElem?_eq_none h]; rfl
theorem at0_range {b : Nat} (hb : 2 ≤ b) {l : List Int} (h : AllD b l) (k : Nat) : 0 ≤ at0 l k ∧ at0 l k ≤ (b : Int) - 1 := by
  by_cases hk : k < l.length
  · rw [at0_lt hk]; exact h _ (List.getElem_mem hk)
  · rw [at0_ge (by omega)]; omega
theorem hv_at (b : Int) (l : List Int) (k : Nat) : hv b (l.drop k) = at0 l k + b * hv b (l.drop (k + 1)) := by
  by_cases hk : k < l.length
  · rw [at0_lt hk]; exact hv_drop hk
  · rw [at0_ge (by omega), List.drop_of_length_le (by omega), List.drop_of_length_le (by omega), hv_nil]; simp

/-- the sum, with the digits that are made so far and the carry -/
theorem add_step {b : Nat} (hb : 2 ≤ b) {S o A C A' C' x : Int} {k : Nat} {ka kc cy : Int} (h : S = o + (b : Int) ^ k * (cy + A + C)) (hA : A = ka + b * A') (hC : C = kc + b * C') (hx : x = ka + kc + cy) :
    S = (o + (b : Int) ^ k * (x % b)) + (b : Int) ^ (k + 1) * (x / b + A' + C') := by
  have e : x % b + b * (x / b) = x := Int.emod_add_mul_ediv x b
  have e2 : cy + A + C = x % b + b * (x / b + A' + C') := by
    rw [Int.mul_add, Int.mul_add]; omega
  rw [h, e2, Int.pow_succ, Int.mul_add, Int.mul_assoc]
  omega

/-- the difference, with the borrow -/
theorem sub_step {b : Nat} {S o A C A' C' d bw' : Int} {k : Nat} {ka kc bw : Int} (h : S = o + (b : Int) ^ k * (A - C - bw)) (hA : A = ka + b * A') (hC : C = kc + b * C') (hd : d = ka - kc - bw + b * bw') :
    S = (o + (b : Int) ^ k * d) + (b : Int) ^ (k + 1) * (A' - C' - bw') := by
  have e2 : A - C - bw = d + b * (A' - C' - bw') := by
    rw [Int.mul_sub, Int.mul_sub]; omega
  rw [h, e2, Int.pow_succ, Int.mul_add, Int.mul_assoc]
  omega

/-! ### comparing -/
theorem lt_of_len {b : Nat} (hb : 2 ≤ b) {a c : List Int} (ha : Nrm b a) (hc : Nrm b c) (h : a.length < c.length) : vl b a < vl b c := by
  have h1 := hv_lt hb ha.1
  have hne : c ≠ [] := fun e => by rw [e] at h; simp at h
  have h2 := hv_ge hb hc.1 hne (hc.2.resolve_left hne)
  have h3 : (b : Int) ^ a.length ≤ b ^ (c.length - 1) := by
    have : b ^ a.length ≤ b ^ (c.length - 1) := Nat.pow_le_pow_right (by omega) (by omega)
    exact_mod_cast this
  have e1 := vl_cast ha.1
  have e2 := vl_cast hc.1
  omega

theorem lt_of_place {b : Nat} (hb : 2 ≤ b) {a c : List Int} (ha : AllD b a) (hc : AllD b c) {k : Nat} (h1 : k < a.length) (h2 : k < c.length) (ht : a.drop (k + 1) = c.drop (k + 1)) (h : a[k] < c[k]) : vl b a < vl b c := by
  have ea := hv_append b (a.take k) (a.drop k)
  have ec := hv_append b (c.take k) (c.drop k)
  rw [List.take_append_drop, List.length_take, Nat.min_eq_left (by omega), hv_drop h1] at ea
  rw [List.take_append_drop, List.length_take, Nat.min_eq_left (by omega), hv_drop h2] at ec
  have la := hv_lt hb (l := a.take k) (fun d hd => ha d (List.mem_of_mem_take hd))
  rw [List.length_take, Nat.min_eq_left (by omega)] at la
  have lc := hv_nonneg' (b := b) (l := c.take k) (fun d hd => hc d (List.mem_of_mem_take hd))
  rw [← ht] at ec
  have key : (b : Int) ^ k * (a[k] + b * hv b (a.drop (k + 1))) + b ^ k * 1 ≤ b ^ k * (c[k] + b * hv b (a.drop (k + 1))) := by
    rw [← Int.mul_add]
    exact Int.mul_le_mul_of_nonneg_left (by omega) (Int.le_of_lt (pow_pos' hb k))
  have e1 := vl_cast ha
  have e2 := vl_cast hc
  omega

/-- how two numbers stand to each other -/
def cmpN (n m : Nat) : Int := if n < m then -1 else if m < n then 1 else 0

end Go.Proofs.YtleadjkndciniaaDoor
