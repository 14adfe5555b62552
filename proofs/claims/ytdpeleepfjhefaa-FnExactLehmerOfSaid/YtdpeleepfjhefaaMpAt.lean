/- Permutations: what the law asks of a permutation by its number, as plain facts. -/
import Derived.Test.YtdpeleepfjhefaaMpNext
import Derived.Test.YtdpeleepfjhefaaMpDraw
set_option linter.unusedVariables false
set_option linter.unusedSimpArgs false
set_option maxRecDepth 100000
namespace Go.Proofs.Ytdpeleepfjhefaa

theorem iot_asc (m : Nat) : Asc (iot m) := by
  unfold Asc iot
  rw [List.pairwise_map]
  exact (List.pairwise_lt_range (n := m)).imp (fun h => by omega)
theorem iot_mem {m : Nat} {x : Int} (h : x ∈ iot m) : 0 ≤ x ∧ x ≤ (m : Int) - 1 := by
  unfold iot at h
  obtain ⟨k, hk, rfl⟩ := List.mem_map.1 h
  have := List.mem_range.1 hk
  omega
theorem iot_nodup (m : Nat) : (iot m).Nodup := (iot_asc m).imp (fun h e => by omega)
theorem perm_okP {l : List Int} {m : Nat} (h : l.Perm (iot m)) (h1 : 1 ≤ m) (h8 : m ≤ 8) : okP l = true := by
  have hl : l.length = m := by rw [h.length_eq, iot_len]
  simp only [okP, Bool.and_eq_true, decide_eq_true_eq]
  exact ⟨by omega, by omega, fun x hx => by rw [hl]; exact iot_mem (h.mem_iff.1 hx), h.nodup_iff.2 (iot_nodup m)⟩

/-- all that the law asks of the digits and of the permutation -/
theorem pm_all {k : Int} {m : Nat} (h : MpL k m) : ∃ D : List Int, FitM D (fr m) ∧ D.length = m ∧ mv D (fr m) = k ∧ FitD D.reverse m ∧ vR D.reverse = k ∧ rPermutationAt0 k m = pat D.reverse (iot m) ∧ rFactorialDigits0 k m = D := by
  obtain ⟨h1, h6, k0, kf⟩ := h
  have hF := fit_mdP (allP_fr m) k
  have hv : mv (md k (fr m)) (fr m) = k := by rw [mv_mdP (allP_fr m), rp_fr, Int.emod_eq_of_lt k0 kf]
  obtain ⟨r1, r2⟩ := fit_rev m _ hF
  have hb : (inB (m : Int) 1 8 && inB k 0 (fct m - 1)) = true := by rw [inB_of (by omega) (by omega), inB_of (by omega) (by omega)]; rfl
  refine ⟨md k (fr m), hF, by rw [md_len, fr_len], hv, r1, by rw [r2, hv], ?_, ?_⟩
  · rw [rPermutationAt0, Int.toNat_natCast, hb]; rfl
  · rw [rFactorialDigits0, Int.toNat_natCast, hb]; rfl

theorem pm_ok {k : Int} {m : Nat} (h : MpL k m) : okP (rPermutationAt0 k m) = true ∧ (rPermutationAt0 k m).length = m ∧ leh (rPermutationAt0 k m) = rFactorialDigits0 k m ∧ (rPermutationAt0 k m).Perm (iot m) := by
  obtain ⟨D, hF, hl, hv, r1, r2, e1, e2⟩ := pm_all h
  have hp : (pat D.reverse (iot m)).Perm (iot m) := pat_perm (by rw [iot_len]; exact r1)
  have hlen : (pat D.reverse (iot m)).length = m := by rw [pat_len, List.length_reverse, hl]
  rw [e1, e2]
  exact ⟨perm_okP hp h.1 (by have := h.2.1; omega), hlen, by rw [leh_pat (iot_asc m) (by rw [iot_len]; exact r1), List.reverse_reverse], hp⟩
theorem pm_rank {k : Int} {m : Nat} (h : MpL k m) : rRankOf0 (rPermutationAt0 k m) = k := by
  obtain ⟨D, hF, hl, hv, r1, r2, e1, e2⟩ := pm_all h
  obtain ⟨o1, o2, o3, o4⟩ := pm_ok h
  rw [rRankOf0, o1, if_pos rfl, o2, o3, e2, hv]
theorem pm_leh {k : Int} {m : Nat} (h : MpL k m) : rLehmerOf0 (rPermutationAt0 k m) = rFactorialDigits0 k m := by
  obtain ⟨o1, o2, o3, o4⟩ := pm_ok h
  rw [rLehmerOf0, o1, if_pos rfl, o3]
theorem pm_val {k : Int} {m : Nat} (h : MpL k m) : rFactorialValue0 (rFactorialDigits0 k m) = k := by
  obtain ⟨D, hF, hl, hv, r1, r2, e1, e2⟩ := pm_all h
  obtain ⟨o1, o2, o3, o4⟩ := pm_ok h
  have := leh_okD8 o1
  rw [o3, e2] at this
  rw [e2, rFactorialValue0, this, if_pos rfl, hl, hv]
theorem pm_inv {k : Int} {m : Nat} (h : MpL k m) : rCountInversions0 (rPermutationAt0 k m) = (rFactorialDigits0 k m).sum := by
  obtain ⟨o1, o2, o3, o4⟩ := pm_ok h
  rw [rCountInversions0, o1, if_pos rfl, ← leh_sum, o3]
theorem pm_next {k : Int} {m : Nat} (h : MpL k m) : rNextPermutation0 (rPermutationAt0 k m) = rPermutationAt0 (k + 1) m ∧ rNextPermutation1 (rPermutationAt0 k m) = decide (k + 1 < fct m) := by
  obtain ⟨o1, o2, o3, o4⟩ := pm_ok h
  have hr := pm_rank h
  rw [rRankOf0, o1, if_pos rfl] at hr
  rw [rNextPermutation0, rNextPermutation1, o1, if_pos rfl, hr, o2]
  exact ⟨rfl, rfl⟩
theorem pm_lex {k : Int} {m : Nat} (h : MpL k m) (h2 : k + 1 < fct m) : MpL (k + 1) m ∧ lexLt (rPermutationAt0 k m) (rPermutationAt0 (k + 1) m) := by
  have h' : MpL (k + 1) m := ⟨h.1, h.2.1, by have := h.2.2.1; omega, h2⟩
  obtain ⟨D, hF, hl, hv, r1, r2, e1, e2⟩ := pm_all h
  obtain ⟨D', hF', hl', hv', r1', r2', e1', e2'⟩ := pm_all h'
  rw [e1, e1']
  exact ⟨h', lex_pat (iot_asc m) (by rw [iot_len]; exact r1) (by rw [iot_len]; exact r1') (lex_digits r1 r1' (by rw [r2, r2']; omega))⟩
theorem iot_comp (m : Nat) : (iot m).reverse.map (fun x => (m : Int) - 1 - x) = iot m := by
  apply List.ext_getElem
  · simp [iot]
  · intro i h1 h2
    simp [iot] at h1 h2 ⊢
    omega
theorem pm_other {k : Int} {m : Nat} (h : MpL k m) : rPermutationAt0 (fct m - 1 - k) m = (rPermutationAt0 k m).map (fun x => (m : Int) - 1 - x) := by
  have h' : MpL (fct m - 1 - k) m := ⟨h.1, h.2.1, by have := h.2.2.2; omega, by have := h.2.2.1; omega⟩
  obtain ⟨D, hF, hl, hv, r1, r2, e1, e2⟩ := pm_all h
  obtain ⟨D', hF', hl', hv', r1', r2', e1', e2'⟩ := pm_all h'
  obtain ⟨c1, c2⟩ := cD_fit r1
  have e : (cD D.reverse).reverse = D' := by
    have l1 : leh (pat (cD D.reverse) (iot m)) = (cD D.reverse).reverse := leh_pat (iot_asc m) (by rw [iot_len]; exact c1)
    have hlen : (pat (cD D.reverse) (iot m)).length = m := by rw [pat_len, cD_len, List.length_reverse, hl]
    have l2 := leh_fit (pat (cD D.reverse) (iot m))
    rw [l1, hlen] at l2
    have l3 := (fit_rev m _ l2).2
    rw [List.reverse_reverse, c2, r2] at l3
    have l4 := md_mvP (allP_fr m) l2
    have l5 := md_mvP (allP_fr m) hF'
    rw [← l4, ← l3, ← l5, hv']
  have e' : D'.reverse = cD D.reverse := by rw [← e, List.reverse_reverse]
  rw [e1, e1', e']
  conv => lhs; rw [← iot_comp m]
  rw [pat_map _ (by rw [List.length_reverse, iot_len]; exact c1), pat_comp (by rw [iot_len]; exact r1)]
theorem pm_back {k : Int} {m : Nat} (h : MpL k m) : rCountInversions0 (rPermutationAt0 k m).reverse + rCountInversions0 (rPermutationAt0 k m) = (m : Int) * ((m : Int) - 1) / 2 := by
  obtain ⟨o1, o2, o3, o4⟩ := pm_ok h
  have ob : okP (rPermutationAt0 k m).reverse = true := perm_okP ((List.reverse_perm _).trans o4) h.1 (by have := h.2.1; omega)
  have := inv_rev _ (okP_yes o1).2.2.2
  rw [o2] at this
  rw [rCountInversions0, rCountInversions0, ob, o1, if_pos rfl, if_pos rfl, ← this]
  omega
theorem fac_at {m : Nat} (h1 : 1 ≤ m) (h6 : m ≤ 6) : rFactorial0 m = fct m ∧ rFactorial0 ((m : Int) - 1) = fct (m - 1) ∧ fct m = m * fct (m - 1) := by
  obtain ⟨j, rfl⟩ : ∃ j, m = j + 1 := ⟨m - 1, by omega⟩
  have e : ((j + 1 : Nat) : Int) - 1 = (j : Int) := by omega
  refine ⟨?_, ?_, ?_⟩
  · rw [rFactorial0, inB_of (by omega) (by omega), if_pos rfl, Int.toNat_natCast]
  · rw [e, rFactorial0, inB_of (by omega) (by omega), if_pos rfl, Int.toNat_natCast]; rfl
  · rw [fct]; rfl

end Go.Proofs.Ytdpeleepfjhefaa
