/- Fibonacci digits: what the two laws say of plain lists. -/
import Derived.Test.YtkimojjhmllnfaaFbPair
import Derived.Test.YtkimojjhmllnfaaFbDen
import Derived.Test.YtkimojjhmllnfaaFbShift
import Derived.Test.YtkimojjhmllnfaaFbDraw
set_option linter.unusedVariables false
set_option linter.unusedSimpArgs false
set_option maxRecDepth 100000
namespace Go.Proofs.Ytkimojjhmllnfaa
open Go.ChangeShapes Go.WideShapes Go.ChangeAt Go.RowKit

/-! ### the least place first, the greatest place first -/
theorem vL_snoc (d : Int) : ∀ (l : List Int) (k : Nat), vL k (l ++ [d]) = vL k l + d.toNat * fp (k + l.length)
  | [], k => by simp [vL]
  | x :: l, k => by
    rw [List.cons_append, vL, vL, vL_snoc d l (k + 1), List.length_cons, show k + 1 + l.length = k + (l.length + 1) by omega]; omega
theorem vL_rev : ∀ t : List Int, vL 0 t.reverse = vT t
  | [] => rfl
  | d :: t => by
    rw [List.reverse_cons, vL_snoc, vL_rev t, vT, List.length_reverse, Nat.zero_add]; omega
theorem vL_rev' (l : List Int) : vT l.reverse = vL 0 l := by rw [← vL_rev, List.reverse_reverse]
theorem b01_rev {l : List Int} (h : B01 l) : B01 l.reverse := fun d hd => h d (List.mem_reverse.1 hd)
theorem prs_rev (x : Int) : ∀ l : List Int, prs x l.reverse = prs x l
  | [] => rfl
  | [_] => rfl
  | a :: b :: t => by
    have ih := prs_rev x (b :: t)
    rw [List.reverse_cons] at ih
    rw [List.reverse_cons, List.reverse_cons, prs_snoc, ih, prs, Bool.or_comm, Bool.and_comm]
theorem noP_rev (x : Int) (l : List Int) : NoP x l.reverse ↔ NoP x l := by
  rw [← prs_noP, ← prs_noP, prs_rev]
theorem sum_rev : ∀ l : List Int, l.reverse.sum = l.sum
  | [] => rfl
  | d :: t => by rw [List.reverse_cons, List.sum_append, sum_rev t]; simp; omega
theorem top_rev {l : List Int} (h : l = [] ∨ l.getLast? ≠ some 0) : TopT l.reverse := by
  intro d t e he
  rcases h with rfl | h
  · simp at e
  · apply h
    have : l = (d :: t).reverse := by rw [← e, List.reverse_reverse]
    rw [this, List.getLast?_reverse, he]; rfl

/-! ### sparse and dense digits of a number -/
structure IsT (x : Int) (n : Nat) (l : List Int) : Prop where
  b : B01 l
  p : NoP x l
  t : TopT l
  v : vT l = n
theorem fp_59 {n : Nat} (h : n ≤ 500000000000) : n + 2 ≤ fp 58 := by
  have := fp_mono (show 56 ≤ 58 by omega)
  rw [fp_56] at this
  omega
theorem isT_sp {n : Nat} (h : n ≤ 500000000000) : IsT 1 n (trT (gs 58 n)) := by
  have h1 := fp_59 h
  exact ⟨trT_b01 (gs_b01 _ _), trT_noP (gs_noP (by omega)), trT_top _, by rw [trT_val, gs_val (by omega)]⟩
theorem first_place : ∀ (m n : Nat), n + 2 ≤ fp (m + 1) → ∃ k, k ≤ m ∧ n + 2 ≤ fp (k + 1) ∧ (k = 0 ∨ fp k < n + 2)
  | 0, n, h => ⟨0, Nat.le_refl _, h, .inl rfl⟩
  | m + 1, n, h => by
    by_cases h' : n + 2 ≤ fp (m + 1)
    · obtain ⟨k, h1, h2, h3⟩ := first_place m n h'
      exact ⟨k, by omega, h2, h3⟩
    · exact ⟨m + 1, Nat.le_refl _, h, .inr (by omega)⟩
theorem isT_dn {n : Nat} (h : n ≤ 500000000000) : IsT 0 n (trT (gd 58 n)) := by
  have h1 := fp_59 h
  have h2 := fp_lt 58
  obtain ⟨k, hk, k1, k2⟩ := first_place 58 n (by omega)
  have e := dn_at hk k1
  have e' : trT (gd k n) = trT (gd 58 n) := by
    have := congrArg List.reverse e
    rw [dn, List.reverse_reverse, List.reverse_reverse] at this
    exact this
  rw [← e']
  refine ⟨trT_b01 (gd_b01 _ _), trT_noP (gd_noP k1 ?_).1, trT_top _, by rw [trT_val, gd_val k1]⟩
  rcases k2 with rfl | k2
  · have : fp (0 - 1) = 1 := rfl
    omega
  · have := fp_mono (show k - 1 ≤ k by omega)
    omega
theorem isT_one {n : Nat} {a b : List Int} (ha : IsT 1 n a) (hb : IsT 1 n b) : a = b := by
  have e : vT a = vT b := by rw [ha.v, hb.v]
  exact sp_unique ha.b ha.p hb.b hb.p (Nat.le_antisymm (sparse_len ha.b ha.t hb.b hb.p hb.t e) (sparse_len hb.b hb.t ha.b ha.p ha.t e.symm)) e
theorem isT_zero {n : Nat} {a b : List Int} (ha : IsT 0 n a) (hb : IsT 0 n b) : a = b := by
  have e : vT a = vT b := by rw [ha.v, hb.v]
  exact dn_unique ha.b ha.p hb.b hb.p (Nat.le_antisymm (dense_len hb.b ha.b ha.p ha.t e.symm) (dense_len ha.b hb.b hb.p hb.t e)) e
theorem sp_rev (n : Nat) : (sp n).reverse = trT (gs 58 n) := by rw [sp, List.reverse_reverse]
theorem dn_rev (n : Nat) : (dn n).reverse = trT (gd 58 n) := by rw [dn, List.reverse_reverse]
theorem sp_val {n : Nat} (h : n ≤ 500000000000) : vL 0 (sp n) = n := by rw [sp, vL_rev, (isT_sp h).v]
theorem dn_val {n : Nat} (h : n ≤ 500000000000) : vL 0 (dn n) = n := by rw [dn, vL_rev, (isT_dn h).v]
theorem okF_rev {l : List Int} (hb : B01 l) (ht : TopT l) (hl : l.length ≤ 58) : okF l.reverse = true := by
  simp only [okF, Bool.and_eq_true, decide_eq_true_eq]
  refine ⟨by rw [List.length_reverse]; omega, fun d hd => ?_, ?_⟩
  · have := hb d (List.mem_reverse.1 hd); omega
  · cases e : l with
    | nil => left; rfl
    | cons x t =>
      right
      have := ht x t e
      rw [List.getLast?_reverse, List.head?_cons]
      simpa using this
theorem sp_ok {n : Nat} (h : n ≤ 500000000000) : okF (sp n) = true := by
  have := trT_le (gs 58 n)
  rw [gs_len] at this
  exact okF_rev (isT_sp h).b (isT_sp h).t this
theorem dn_ok {n : Nat} (h : n ≤ 500000000000) : okF (dn n) = true := by
  have := trT_le (gd 58 n)
  rw [gd_len] at this
  exact okF_rev (isT_dn h).b (isT_dn h).t this
theorem sp_prs {n : Nat} (h : n ≤ 500000000000) : prs 1 (sp n) = false := by rw [sp, prs_rev, prs_noP]; exact (isT_sp h).p
theorem dn_prs {n : Nat} (h : n ≤ 500000000000) : prs 0 (dn n) = false := by rw [dn, prs_rev, prs_noP]; exact (isT_dn h).p
theorem dn_short {n : Nat} (h : n ≤ 500000000000) : (dn n).length ≤ (sp n).length := by
  rw [dn, sp, List.length_reverse, List.length_reverse]
  have a := isT_sp h
  have b := isT_dn h
  exact dense_len a.b b.b b.p b.t (by rw [a.v, b.v])
theorem cnt_sp {n : Nat} (h : n ≤ 500000000000) : 1 ≤ cnt (sp n).length n := by
  have a := isT_sp h
  have := cnt_pos a.b
  rw [a.v] at this
  rw [sp, List.length_reverse]; exact this
theorem cnt_one {n : Nat} (h : n ≤ 500000000000) : cnt (sp n).length n = 1 ↔ sp n = dn n := by
  have a := isT_sp h
  have b := isT_dn h
  have c1 := cnt_sp h
  have hl := dn_short h
  rw [dn, sp, List.length_reverse, List.length_reverse] at hl
  constructor
  · intro h1
    apply Classical.byContradiction
    intro hne
    have hz : B01 (List.replicate ((trT (gs 58 n)).length - (trT (gd 58 n)).length) 0 ++ trT (gd 58 n)) := b01_zeros _ b.b
    have hlen : (trT (gs 58 n)).length = (List.replicate ((trT (gs 58 n)).length - (trT (gd 58 n)).length) (0 : Int) ++ trT (gd 58 n)).length := by
      rw [List.length_append, List.length_replicate]; omega
    have h2 := cnt_two a.b hz hlen (by rw [vT_zeros, a.v, b.v]) (fun e => by
      rcases Nat.eq_zero_or_pos ((trT (gs 58 n)).length - (trT (gd 58 n)).length) with h0 | h0
      · rw [h0] at e
        exact hne (by rw [sp, dn, e]; rfl)
      · obtain ⟨z, hz⟩ : ∃ z, (trT (gs 58 n)).length - (trT (gd 58 n)).length = z + 1 := ⟨_ - 1, (Nat.succ_pred_eq_of_pos h0).symm⟩
        rw [hz, List.replicate_succ, List.cons_append] at e
        exact a.t _ _ e rfl)
    rw [a.v] at h2
    rw [sp, List.length_reverse] at h1
    omega
  · intro e
    have e' : trT (gs 58 n) = trT (gd 58 n) := by rw [← sp_rev, ← dn_rev, e]
    rcases Nat.lt_or_ge 1 (cnt (sp n).length n) with h2 | h2
    · obtain ⟨x, y, x1, y1, x2, y2, x3, y3, hne⟩ := cnt_more h2
      rw [sp, List.length_reverse] at x2 y2
      have f : ∀ {z : List Int}, B01 z → z.length = (trT (gs 58 n)).length → vT z = n → z = trT (gs 58 n) := fun {z} z1 z2 z3 =>
        leT_anti z2 (le_sparse z1 a.b a.p z2 (by rw [z3, a.v])) (by rw [e'] at z2 ⊢; exact ge_dense z1 b.b b.p z2 (by rw [z3, b.v]))
      exact absurd ((f x1 x2 x3).trans (f y1 y2 y3).symm) hne
    · omega

/-! ### a list that was drawn -/
theorem fbL_v {l : List Int} (h : FbL l) : B01 l ∧ TopT l.reverse ∧ vL 0 l ≤ 2000 := by
  obtain ⟨h1, h2⟩ := h
  obtain ⟨_, k2, k3⟩ := okF_yes h1
  refine ⟨k2, top_rev k3, ?_⟩
  have h5 := vL_le (l := l) 0 k2
  have h6 := fp_mono (show 0 + l.length + 1 ≤ 14 by omega)
  have h7 : fp 14 = 987 := rfl
  omega
theorem fb_sparse {l : List Int} (h : FbL l) : rIsSparseFib0 l = decide (l = sp (vL 0 l)) := by
  obtain ⟨b, t, v⟩ := fbL_v h
  have a := isT_sp (show vL 0 l ≤ 500000000000 by omega)
  rw [rIsSparseFib0, h.1, Bool.true_and]
  by_cases e : l = sp (vL 0 l)
  · have e2 := sp_prs (show vL 0 l ≤ 500000000000 by omega)
    rw [← e] at e2
    rw [e2, decide_eq_true e]; rfl
  · rw [decide_eq_false e]
    cases hp : prs 1 l
    · have hl : IsT 1 (vL 0 l) l.reverse := ⟨b01_rev b, (noP_rev 1 l).2 ((prs_noP 1 l).1 hp), t, vL_rev' l⟩
      have := isT_one hl a
      exact absurd (by rw [sp, ← this, List.reverse_reverse]) e
    · rfl
theorem fb_dense {l : List Int} (h : FbL l) : rIsDenseFib0 l = decide (l = dn (vL 0 l)) := by
  obtain ⟨b, t, v⟩ := fbL_v h
  have a := isT_dn (show vL 0 l ≤ 500000000000 by omega)
  rw [rIsDenseFib0, h.1, Bool.true_and]
  by_cases e : l = dn (vL 0 l)
  · have e2 := dn_prs (show vL 0 l ≤ 500000000000 by omega)
    rw [← e] at e2
    rw [e2, decide_eq_true e]; rfl
  · rw [decide_eq_false e]
    cases hp : prs 0 l
    · have hl : IsT 0 (vL 0 l) l.reverse := ⟨b01_rev b, (noP_rev 0 l).2 ((prs_noP 0 l).1 hp), t, vL_rev' l⟩
      have := isT_zero hl a
      exact absurd (by rw [dn, ← this, List.reverse_reverse]) e
    · rfl
theorem fb_light {l : List Int} (h : FbL l) : (sp (vL 0 l)).sum ≤ l.sum := by
  obtain ⟨b, t, v⟩ := fbL_v h
  have a := isT_sp (show vL 0 l ≤ 500000000000 by omega)
  obtain ⟨s, s1, s2, s3, s4⟩ := to_sparse _ (b01_rev b) (Nat.le_refl _)
  have hs : IsT 1 (vL 0 l) (trT s) := ⟨trT_b01 s1, trT_noP s2, trT_top s, by rw [trT_val, s3, vL_rev']⟩
  have e := isT_one hs a
  rw [sp, sum_rev, ← e, trT_sum]
  rw [sum_rev] at s4
  exact s4
theorem fb_heavy {l : List Int} (h : FbL l) : l.sum ≤ (dn (vL 0 l)).sum := by
  obtain ⟨b, t, v⟩ := fbL_v h
  have a := isT_dn (show vL 0 l ≤ 500000000000 by omega)
  obtain ⟨s, s1, s2, s3, s4, s5⟩ := to_dense (vT l.reverse) (b01_rev b) (Nat.le_add_right _ _)
  have hs : IsT 0 (vL 0 l) s := ⟨s1, s2, s3, by rw [s4, vL_rev']⟩
  have e := isT_zero hs a
  rw [dn, sum_rev, ← e]
  rw [sum_rev] at s5
  exact s5

/-! ### shifts -/
theorem vL_zeros : ∀ (j k : Nat), vL k (List.replicate j 0 ++ [1]) = fp (k + j)
  | 0, k => by simp [vL]
  | j + 1, k => by rw [List.replicate_succ, List.cons_append, vL, vL_zeros j (k + 1)]; simp; congr 1; omega
theorem b01_sp (n : Nat) : B01 (sp n) := sp_b01 n
theorem shift_place {j : Nat} (h : fp j ≤ 500000000000) : vL 1 (sp (fp j)) = fp (j + 1) := by
  have hb : B01 (List.replicate j 0 ++ [1]) := b01_zeros j (b01_cons (.inr rfl) (fun d hd => by simp at hd))
  rw [shift_unique (b01_sp _) hb (by rw [sp_val h, vL_zeros, Nat.zero_add]), vL_zeros, Nat.add_comm]
theorem shift_two {n : Nat} (h : n ≤ 500000000000) (h2 : vL 1 (sp n) ≤ 500000000000) : vL 1 (sp (vL 1 (sp n))) = vL 1 (sp n) + n := by
  have hb : B01 (0 :: sp n) := b01_cons (.inl rfl) (b01_sp n)
  have e0 : vL 0 (0 :: sp n) = vL 1 (sp n) := by rw [vL]; simp
  have e1 : vL 1 (0 :: sp n) = vL 2 (sp n) := by rw [vL]; simp
  rw [shift_unique (b01_sp _) hb (by rw [sp_val h2, e0]), e1, vL_add, sp_val h, Nat.zero_add]; omega

end Go.Proofs.Ytkimojjhmllnfaa
