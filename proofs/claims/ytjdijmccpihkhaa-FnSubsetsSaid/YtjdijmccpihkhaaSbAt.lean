/- Subsets: what the law asks of a subset, as plain facts. -/
import Derived.Test.YtjdijmccpihkhaaSbMask
import Derived.Test.YtjdijmccpihkhaaSbDraw
set_option linter.unusedVariables false
set_option linter.unusedSimpArgs false
set_option maxRecDepth 100000
namespace Go.Proofs.Ytjdijmccpihkhaa

theorem inB_in {n lo hi : Int} (h1 : lo ≤ n) (h2 : n ≤ hi) : inB n lo hi = true := by simp [inB, h1, h2]
theorem atOk_of {n k : Nat} (hk : k ≤ 8) (h : n < bn 20 k) : atOk n k = true := by
  rw [atOk, inB_in (by omega) (by omega), Int.toNat_natCast, inB_in (by omega) (by omega)]; rfl
theorem at_eq {n k : Nat} (hk : k ≤ 8) (h : n < bn 20 k) : rSubsetAt0 n k = (gr k n).reverse := by
  rw [rSubsetAt0, atOk_of hk h, if_pos rfl, Int.toNat_natCast, Int.toNat_natCast]
theorem sb_at {l : List Int} (h : SbL l) : rSubsetAt0 (rk l) l.length = l ∧ rSubsetAt1 (rk l) l.length = true ∧ rk l < bn 20 l.length ∧ rSubsetRank0 l = rk l ∧ rMaskOf0 l = mk l ∧ rSubsetOf0 (mk l) = l ∧ mk l < 1048576 ∧ rSubsetOk0 l 20 = true := by
  obtain ⟨h1, h2⟩ := h
  have hd := okS_desc (m := 20) h1
  have hlt : rk l < bn 20 l.length := by
    have := rkD_lt hd
    rwa [List.length_reverse] at this
  have hg : gr l.length (rk l) = l.reverse := by
    have := gr_rk (Nat.le_refl 20) hd
    rwa [List.length_reverse] at this
  have hm := mk_small h1
  refine ⟨?_, atOk_of (by omega) hlt, hlt, by rw [rSubsetRank0, h1, if_pos rfl], by rw [rMaskOf0, h1, if_pos rfl], ?_, hm, h1⟩
  · rw [at_eq (by omega) hlt, hg, List.reverse_reverse]
  · rw [rSubsetOf0, inB_in (by omega) (by omega), if_pos rfl, Int.toNat_natCast, so_mk h1]
theorem sb_other {l : List Int} (h : SbL l) : rOtherSubset0 l 20 = oth l 20 ∧ rOtherSubset1 l 20 = true ∧ okS (oth l 20) 20 = true ∧ rOtherSubset0 (oth l 20) 20 = l ∧ rOtherSubset1 (oth l 20) 20 = true ∧ (oth l 20).length + l.length = 20 ∧ rMaskOf0 (oth l 20) = mk (oth l 20) ∧ mk l + mk (oth l 20) = 1048575 := by
  have ho := oth_ok (l := l) (m := 20) (by omega)
  have ho' : okS (oth l 20) 20 = true := ho
  exact ⟨by rw [rOtherSubset0, h.1, if_pos rfl]; rfl, h.1, ho, by rw [rOtherSubset0, ho', if_pos rfl]; exact oth_oth (m := 20) h.1, ho, oth_len (m := 20) h.1, by rw [rMaskOf0, ho', if_pos rfl], oth_mk h.1⟩
theorem sb_next {l : List Int} (h : SbL l) : rNextSubset0 l = rSubsetAt0 ((rk l : Int) + 1) l.length ∧ rNextSubset1 l = decide (rk l + 1 < bn 20 l.length) := by
  have h8 : nxOk l = true := by rw [nxOk, h.1, decide_eq_true (show l.length ≤ 8 by have := h.2; omega)]; rfl
  refine ⟨by rw [rNextSubset0, h8, if_pos rfl], ?_⟩
  rw [rNextSubset1, h8, Bool.true_and, rSubsetAt1, atOk, inB_in (by omega) (by have := h.2; omega), Int.toNat_natCast, Bool.true_and]
  by_cases hlt : rk l + 1 < bn 20 l.length
  · rw [inB_in (by omega) (by omega), decide_eq_true hlt]
  · rw [decide_eq_false hlt]; simp [inB]; omega
theorem sb_more {l : List Int} (h : SbL l) (h2 : rk l + 1 < bn 20 l.length) : okS (rSubsetAt0 ((rk l : Int) + 1) l.length) 20 = true ∧ (rSubsetAt0 ((rk l : Int) + 1) l.length).length = l.length ∧ rSubsetRank0 (rSubsetAt0 ((rk l : Int) + 1) l.length) = (rk l : Int) + 1 ∧ rMaskOf0 (rSubsetAt0 ((rk l : Int) + 1) l.length) = mk (rSubsetAt0 ((rk l : Int) + 1) l.length) ∧ mk l < mk (rSubsetAt0 ((rk l : Int) + 1) l.length) ∧ mk (rSubsetAt0 ((rk l : Int) + 1) l.length) < 1048576 := by
  have hk : l.length ≤ 8 := by have := h.2; omega
  have e : rSubsetAt0 ((rk l : Int) + 1) l.length = (gr l.length (rk l + 1)).reverse := at_eq (n := rk l + 1) hk h2
  obtain ⟨g1, g2⟩ := gr_desc (Nat.le_refl 20) h2
  have hok : okS (gr l.length (rk l + 1)).reverse 20 = true := desc_okS (m := 20) (Nat.le_refl _) g1
  have hr : rk (gr l.length (rk l + 1)).reverse = rk l + 1 := by
    unfold rk
    rw [List.reverse_reverse]
    exact g2
  rw [e]
  refine ⟨hok, by rw [List.length_reverse, gr_len], by rw [rSubsetRank0, hok, if_pos rfl, hr]; rfl, by rw [rMaskOf0, hok, if_pos rfl], ?_, mk_small hok⟩
  have hm := mkD_mono (okS_desc (m := 20) h.1) g1 (by rw [List.length_reverse, gr_len]) (by rw [g2]; unfold rk; omega)
  rwa [mkD_mk, mkD_mk, List.reverse_reverse] at hm
theorem sb_none {l : List Int} (h : SbL l) (h2 : ¬ rk l + 1 < bn 20 l.length) : (rSubsetAt0 ((rk l : Int) + 1) l.length).length = 0 := by
  have : atOk ((rk l : Int) + 1) l.length = false := by
    rw [atOk, Int.toNat_natCast]
    have : inB ((rk l : Int) + 1) 0 ((bn 20 l.length : Int) - 1) = false := by simp [inB]; omega
    rw [this, Bool.and_false]
  rw [rSubsetAt0, this]; rfl
theorem sb_dsum {l : List Int} (h : SbL l) : rDigitSum0 (mk l) 2 = l.length := by
  have hm := mk_small h.1
  have hok : okN (mk l : Int) 2 = true := by
    rw [okN, show okB 2 = true from rfl, inB_in (by omega) (by omega)]; rfl
  rw [rDigitSum0, hok, if_pos rfl, Int.toNat_natCast]
  exact mk_dsum h.1
theorem bn_at {a b : Nat} (ha : a ≤ 30) (hb : b ≤ 30) : rBinomial0 a b = bn a b := by
  rw [rBinomial0, inB_in (by omega) (by omega), inB_in (by omega) (by omega), Int.toNat_natCast, Int.toNat_natCast]; rfl
theorem bn_pascal {a b : Nat} (ha : a ≤ 29) (hb : b ≤ 28) : rBinomial0 ((a : Int) + 1) ((b : Int) + 1) = bn (a + 1) (b + 1) ∧ rBinomial0 a b = bn a b ∧ rBinomial0 a ((b : Int) + 1) = bn a (b + 1) ∧ bn (a + 1) (b + 1) = bn a b + bn a (b + 1) ∧ bn (a + 1) (b + 1) ≤ 1073741824 :=
  ⟨bn_at (a := a + 1) (b := b + 1) (by omega) (by omega), bn_at (by omega) (by omega), bn_at (a := a) (b := b + 1) (by omega) (by omega), bn_s a b, bn_30 (by omega)⟩
theorem bn_turn {a b : Nat} (ha : a ≤ 29) (hb : b ≤ a) : rBinomial0 a ((a : Int) - b) = bn a b := by
  have e : ((a : Int) - b) = ((a - b : Nat) : Int) := by omega
  rw [e, bn_at (by omega) (by omega)]
  have := bn_symm a b (a - b) (by omega)
  rw [show b + (a - b) = a by omega] at this
  rw [this]

end Go.Proofs.Ytjdijmccpihkhaa
