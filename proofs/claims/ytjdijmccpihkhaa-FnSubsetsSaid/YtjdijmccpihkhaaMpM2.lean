/- Permutations in their order, as plain facts: items taken by Lehmer's digits, the order of their numbers, and complements. -/
import Derived.Test.YtjdijmccpihkhaaMpM
set_option linter.unusedVariables false
set_option linter.unusedSimpArgs false
set_option maxRecDepth 100000
namespace Go.Proofs.Ytjdijmccpihkhaa

/-- digits from the last place on: each is less than the number of items that are left -/
def FitD : List Int → Nat → Prop
  | [], 0 => True
  | k :: ds, m + 1 => (0 ≤ k ∧ k ≤ m) ∧ FitD ds m
  | _, _ => False
theorem fitD_len : ∀ {ds : List Int} {m : Nat}, FitD ds m → ds.length = m
  | [], 0, _ => rfl
  | k :: ds, m + 1, h => by rw [List.length_cons, fitD_len h.2]
  | [], m + 1, h => h.elim
  | k :: ds, 0, h => h.elim
/-- their value -/
def vR : List Int → Int
  | [] => 0
  | k :: ds => k * fct ds.length + vR ds
theorem fct_pos : ∀ m, 1 ≤ fct m
  | 0 => by simp [fct]
  | m + 1 => by
    have h := fct_pos m
    have : ((m : Int) + 1) * 1 ≤ ((m : Int) + 1) * fct m := Int.mul_le_mul_of_nonneg_left h (by omega)
    rw [fct]; omega
theorem vR_range : ∀ {ds : List Int} {m : Nat}, FitD ds m → 0 ≤ vR ds ∧ vR ds ≤ fct m - 1
  | [], 0, _ => by simp [vR, fct]
  | k :: ds, m + 1, h => by
    obtain ⟨i1, i2⟩ := vR_range h.2
    have hl := fitD_len h.2
    have hf := fct_pos m
    have e1 : 0 ≤ k * fct m := Int.mul_nonneg h.1.1 (by omega)
    have e2 : k * fct m ≤ (m : Int) * fct m := Int.mul_le_mul_of_nonneg_right h.1.2 (by omega)
    have e3 : ((m : Int) + 1) * fct m = m * fct m + fct m := by rw [Int.add_mul, Int.one_mul]
    rw [vR, hl, fct, e3]; omega
  | [], m + 1, h => h.elim
  | k :: ds, 0, h => h.elim
theorem mv_snoc : ∀ (l r : List Int) (d x : Int), l.length = r.length → mv (l ++ [d]) (r ++ [x]) = mv l r + d * rp r := by
  intro l
  induction l with
  | nil => intro r d x h; have : r = [] := List.eq_nil_of_length_eq_zero h.symm
           subst this; simp [mv, mv_nil, rp]
  | cons a l ih =>
    intro r d x h
    cases r with
    | nil => simp at h
    | cons y r =>
      rw [List.cons_append, List.cons_append, mv, mv, ih r d x (by simpa using h), rp, Int.mul_add]
      have : y * (d * rp r) = d * (y * rp r) := by ac_rfl
      omega
theorem fitM_snoc_inv : ∀ {l r : List Int} {d x : Int}, l.length = r.length → FitM (l ++ [d]) (r ++ [x]) → FitM l r ∧ 0 ≤ d ∧ d ≤ x - 1
  | [], [], _, _, _, h => ⟨trivial, h.1⟩
  | _ :: _, _ :: _, _, _, hl, h => by
    obtain ⟨h1, h2⟩ := fitM_snoc_inv (by simpa using hl) h.2
    exact ⟨⟨h.1, h1⟩, h2⟩
  | [], _ :: _, _, _, hl, _ => by simp at hl
  | _ :: _, [], _, _, hl, _ => by simp at hl
/-- factorial digits read from the last place on -/
theorem fit_rev : ∀ (m : Nat) (d : List Int), FitM d (fr m) → FitD d.reverse m ∧ vR d.reverse = mv d (fr m)
  | 0, d, h => by
    have : d = [] := List.eq_nil_of_length_eq_zero (by rw [fitM_len h, fr_len])
    subst this; exact ⟨trivial, by simp [vR, mv_nil]⟩
  | m + 1, d, h => by
    have hl : d.length = m + 1 := by rw [fitM_len h, fr_len]
    obtain ⟨e, x, rfl⟩ : ∃ e x, d = e ++ [x] := ⟨d.dropLast, d.getLast (by intro e; rw [e] at hl; simp at hl), (List.dropLast_concat_getLast _).symm⟩
    have hle : e.length = m := by simpa using hl
    rw [fr_succ] at h ⊢
    obtain ⟨h1, h2, h3⟩ := fitM_snoc_inv (by rw [fr_len]; exact hle) h
    obtain ⟨i1, i2⟩ := fit_rev m e h1
    rw [List.reverse_append, mv_snoc _ _ _ _ (by rw [fr_len]; exact hle), rp_fr]
    refine ⟨⟨⟨h2, by omega⟩, i1⟩, ?_⟩
    show x * fct (e.reverse).length + vR e.reverse = _
    rw [i2, List.length_reverse, hle]; omega

/-! ### taking items -/
abbrev Asc (l : List Int) : Prop := l.Pairwise (· < ·)
theorem asc_erase {l : List Int} (h : Asc l) (k : Nat) : Asc (l.eraseIdx k) := h.sublist (List.eraseIdx_sublist l k)
theorem cntL_perm {x : Int} {a b : List Int} (h : a.Perm b) : cntL x a = cntL x b := h.countP_eq _
theorem cntL_zero {x : Int} {t : List Int} (h : ∀ y ∈ t, x ≤ y) : cntL x t = 0 := by
  unfold cntL
  rw [List.countP_eq_zero]
  intro y hy
  have := h y hy
  simp; omega
theorem cntL_at : ∀ {l : List Int} (k : Nat), Asc l → k < l.length → cntL (l.getD k 0) (l.eraseIdx k) = k
  | [], k, _, h => by simp at h
  | y :: s, 0, h, _ => by
    simp only [List.getD_cons_zero, List.eraseIdx_cons_zero]
    exact cntL_zero (fun z hz => by have := List.rel_of_pairwise_cons h hz; omega)
  | y :: s, k + 1, h, hk => by
    have hk' : k < s.length := by simpa using hk
    have ih := cntL_at k (List.Pairwise.of_cons h) hk'
    simp only [List.getD_cons_succ, List.eraseIdx_cons_succ, cntL_cons, ih]
    have hm : s.getD k 0 ∈ s := by rw [List.getD_eq_getElem?_getD, List.getElem?_eq_getElem hk']; exact List.getElem_mem hk'
    have := List.rel_of_pairwise_cons h hm
    rw [if_pos this]
theorem asc_find : ∀ {l : List Int} {x : Int}, Asc l → x ∈ l → cntL x l < l.length ∧ l.getD (cntL x l) 0 = x ∧ l.eraseIdx (cntL x l) = l.erase x
  | [], x, _, h => by simp at h
  | y :: s, x, h, hx => by
    by_cases e : y = x
    · subst e
      have h0 : cntL y (y :: s) = 0 := cntL_zero (fun z hz => by
        rcases List.mem_cons.1 hz with rfl | hz
        · omega
        · have := List.rel_of_pairwise_cons h hz; omega)
      rw [h0]; simp
    · have hxs : x ∈ s := by
        rcases List.mem_cons.1 hx with h1 | h1
        · exact absurd h1.symm e
        · exact h1
      have hlt := List.rel_of_pairwise_cons h hxs
      obtain ⟨i1, i2, i3⟩ := asc_find (List.Pairwise.of_cons h) hxs
      rw [cntL_cons, if_pos hlt]
      refine ⟨by simpa using i1, by simpa using i2, ?_⟩
      rw [List.eraseIdx_cons_succ, i3, List.erase_cons_tail (by simpa using e)]
theorem erase_perm : ∀ {l : List Int} (k : Nat), k < l.length → ((l.getD k 0) :: l.eraseIdx k).Perm l
  | [], k, h => by simp at h
  | y :: s, 0, _ => by simp
  | y :: s, k + 1, h => by
    have ih := erase_perm (l := s) k (by simpa using h)
    simp only [List.getD_cons_succ, List.eraseIdx_cons_succ]
    exact (List.Perm.swap _ _ _).trans (ih.cons y)
theorem pat_perm : ∀ {ds left : List Int}, FitD ds left.length → (pat ds left).Perm left
  | [], left, h => by
    cases left with
    | nil => exact List.Perm.refl _
    | cons y s => exact h.elim
  | k :: ds, left, h => by
    cases left with
    | nil => exact h.elim
    | cons y s =>
      have hk : k.toNat < (y :: s).length := by have := h.1; simp; omega
      have hl : ((y :: s).eraseIdx k.toNat).length = s.length := by rw [List.length_eraseIdx_of_lt hk]; simp
      have ih := pat_perm (ds := ds) (left := (y :: s).eraseIdx k.toNat) (by rw [hl]; exact h.2)
      rw [pat]
      exact (ih.cons _).trans (erase_perm _ hk)
theorem leh_pat : ∀ {ds left : List Int}, Asc left → FitD ds left.length → leh (pat ds left) = ds.reverse
  | [], left, _, h => rfl
  | k :: ds, left, ha, h => by
    cases left with
    | nil => exact h.elim
    | cons y s =>
      have hk : k.toNat < (y :: s).length := by have := h.1; simp; omega
      have hl : ((y :: s).eraseIdx k.toNat).length = s.length := by rw [List.length_eraseIdx_of_lt hk]; simp
      have hf : FitD ds ((y :: s).eraseIdx k.toNat).length := by rw [hl]; exact h.2
      rw [pat, leh, leh_pat (asc_erase ha _) hf, cntL_perm (pat_perm hf), cntL_at _ ha hk, List.reverse_cons]
      rw [Int.toNat_of_nonneg h.1.1]
theorem pat_leh : ∀ {l left : List Int}, Asc left → l.Perm left → pat (leh l).reverse left = l
  | [], left, _, h => by
    rw [leh]; rfl
  | x :: t, left, ha, h => by
    have hx : x ∈ left := h.subset (by simp)
    obtain ⟨i1, i2, i3⟩ := asc_find ha hx
    have hc : cntL x left = cntL x t := by rw [← cntL_perm h, cntL_cons, if_neg (by omega)]; rfl
    rw [hc] at i1 i2 i3
    rw [leh, List.reverse_append]
    show pat ((cntL x t : Int) :: (leh t).reverse) left = x :: t
    rw [pat, Int.toNat_natCast, i2, i3]
    have hp : t.Perm (left.erase x) := by
      have := h.erase x
      rwa [List.erase_cons_head] at this
    rw [pat_leh (ha.sublist List.erase_sublist) hp]

/-! ### order -/
def lexLt : List Int → List Int → Prop
  | x :: a, y :: b => x < y ∨ (x = y ∧ lexLt a b)
  | _, _ => False
theorem lex_digits : ∀ {ds es : List Int} {m : Nat}, FitD ds m → FitD es m → vR ds < vR es → lexLt ds es
  | [], [], 0, _, _, h => by simp [vR] at h
  | k :: ds, j :: es, m + 1, h1, h2, h => by
    have l1 := fitD_len h1.2; have l2 := fitD_len h2.2
    obtain ⟨a0, a1⟩ := vR_range h1.2
    obtain ⟨b0, b1⟩ := vR_range h2.2
    rw [vR, vR, l1, l2] at h
    rcases Int.lt_trichotomy k j with hk | hk | hk
    · exact .inl hk
    · subst hk
      exact .inr ⟨rfl, lex_digits h1.2 h2.2 (by omega)⟩
    · exfalso
      have : (j + 1) * fct m ≤ k * fct m := Int.mul_le_mul_of_nonneg_right (by omega) (by have := fct_pos m; omega)
      rw [Int.add_mul, Int.one_mul] at this
      omega
  | [], _ :: _, 0, _, h, _ => h.elim
  | [], _, _ + 1, h, _, _ => h.elim
  | _ :: _, _, 0, h, _, _ => h.elim
  | _ :: _, [], _ + 1, _, h, _ => h.elim
theorem asc_mono : ∀ {l : List Int} {i j : Nat}, Asc l → i < j → j < l.length → l.getD i 0 < l.getD j 0
  | [], _, _, _, _, h => by simp at h
  | y :: s, 0, j + 1, h, _, hj => by
    have hj' : j < s.length := by simpa using hj
    have hm : s.getD j 0 ∈ s := by rw [List.getD_eq_getElem?_getD, List.getElem?_eq_getElem hj']; exact List.getElem_mem hj'
    simpa using List.rel_of_pairwise_cons h hm
  | y :: s, i + 1, j + 1, h, hij, hj => by
    have := asc_mono (l := s) (i := i) (j := j) (List.Pairwise.of_cons h) (by omega) (by simpa using hj)
    simpa using this
theorem lex_pat : ∀ {ds es left : List Int}, Asc left → FitD ds left.length → FitD es left.length → lexLt ds es → lexLt (pat ds left) (pat es left)
  | k :: ds, j :: es, left, ha, h1, h2, h => by
    cases left with
    | nil => exact h1.elim
    | cons y s =>
      have hk : k.toNat < (y :: s).length := by have := h1.1; simp; omega
      have hj : j.toNat < (y :: s).length := by have := h2.1; simp; omega
      have hl : ((y :: s).eraseIdx k.toNat).length = s.length := by rw [List.length_eraseIdx_of_lt hk]; simp
      rw [pat, pat]
      rcases h with h | ⟨rfl, h⟩
      · exact .inl (asc_mono ha (by have := h1.1; have := h2.1; omega) hj)
      · exact .inr ⟨rfl, lex_pat (asc_erase ha _) (by rw [hl]; exact h1.2) (by rw [hl]; exact h2.2) h⟩
  | [], _, _, _, _, _, h => by simp [lexLt] at h
  | _ :: _, [], _, _, _, _, h => by simp [lexLt] at h

/-! ### complements -/
def cD : List Int → List Int
  | [] => []
  | k :: ds => ((ds.length : Int) - k) :: cD ds
theorem cD_len : ∀ ds, (cD ds).length = ds.length
  | [] => rfl
  | k :: ds => by rw [cD, List.length_cons, List.length_cons, cD_len ds]
theorem cD_fit : ∀ {ds : List Int} {m : Nat}, FitD ds m → FitD (cD ds) m ∧ vR (cD ds) = fct m - 1 - vR ds
  | [], 0, _ => ⟨trivial, by simp [cD, vR, fct]⟩
  | k :: ds, m + 1, h => by
    have hl := fitD_len h.2
    obtain ⟨i1, i2⟩ := cD_fit h.2
    refine ⟨⟨by have := h.1; rw [hl]; omega, i1⟩, ?_⟩
    rw [cD, vR, vR, i2, cD_len, hl, fct, Int.sub_mul, Int.add_mul, Int.one_mul]; omega
  | [], m + 1, h => h.elim
  | k :: ds, 0, h => h.elim
theorem getD_map (c : Int → Int) {l : List Int} {k : Nat} (h : k < l.length) : (l.map c).getD k 0 = c (l.getD k 0) := by
  rw [List.getD_eq_getElem?_getD, List.getD_eq_getElem?_getD, List.getElem?_map, List.getElem?_eq_getElem h]; rfl
theorem map_erase (c : Int → Int) (l : List Int) (k : Nat) : (l.map c).eraseIdx k = (l.eraseIdx k).map c := by
  rw [List.eraseIdx_eq_take_drop_succ, List.eraseIdx_eq_take_drop_succ, List.map_append, List.map_take, List.map_drop]
theorem pat_map (c : Int → Int) : ∀ {ds left : List Int}, FitD ds left.length → pat ds (left.map c) = (pat ds left).map c
  | [], left, _ => rfl
  | k :: ds, left, h => by
    have hk : k.toNat < left.length := by
      cases left with
      | nil => exact h.elim
      | cons y s => have := h.1; simp; omega
    have hf : FitD ds (left.eraseIdx k.toNat).length := by
      rw [List.length_eraseIdx_of_lt hk]
      cases left with
      | nil => exact h.elim
      | cons y s => exact h.2
    rw [pat, pat, getD_map c hk, map_erase, pat_map c hf]; rfl
theorem erase_rev : ∀ (l : List Int) (k : Nat), k < l.length → l.reverse.getD (l.length - 1 - k) 0 = l.getD k 0 ∧ l.reverse.eraseIdx (l.length - 1 - k) = (l.eraseIdx k).reverse := by
  intro l k hk
  refine ⟨?_, ?_⟩
  · rw [List.getD_eq_getElem?_getD, List.getD_eq_getElem?_getD, List.getElem?_reverse (by omega), show l.length - 1 - (l.length - 1 - k) = k by omega]
  · rw [List.eraseIdx_eq_take_drop_succ, List.eraseIdx_eq_take_drop_succ, List.reverse_append, List.take_reverse, List.drop_reverse]
    rw [show l.length - (l.length - 1 - k) = k + 1 by omega, show l.length - (l.length - 1 - k + 1) = k by omega]
theorem pat_comp : ∀ {ds left : List Int}, FitD ds left.length → pat (cD ds) left.reverse = pat ds left
  | [], left, _ => rfl
  | k :: ds, left, h => by
    have hl' := fitD_len h
    have hk : k.toNat < left.length := by
      cases left with
      | nil => exact h.elim
      | cons y s => have := h.1; simp; omega
    have hl : (left.eraseIdx k.toNat).length = ds.length := by rw [List.length_eraseIdx_of_lt hk, ← hl']; simp
    have hf : FitD ds ds.length := by
      cases left with
      | nil => exact h.elim
      | cons y s => have := h.2; rwa [← fitD_len this] at this
    have hk0 : 0 ≤ k := by
      cases left with
      | nil => exact h.elim
      | cons y s => exact h.1.1
    have e : ((ds.length : Int) - k).toNat = left.length - 1 - k.toNat := by rw [← hl', List.length_cons]; omega
    obtain ⟨e1, e2⟩ := erase_rev left k.toNat hk
    rw [cD, pat, pat, e, e1, e2, pat_comp (by rw [hl]; exact hf)]

end Go.Proofs.Ytjdijmccpihkhaa
