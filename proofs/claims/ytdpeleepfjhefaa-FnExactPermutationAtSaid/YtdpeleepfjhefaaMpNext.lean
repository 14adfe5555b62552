/- Permutations: the model's next permutation. -/
import Derived.Test.YtdpeleepfjhefaaMpPub
import Derived.Test.YtdpeleepfjhefaaMpPerm
set_option linter.unusedVariables false
set_option linter.unusedSimpArgs false
set_option maxRecDepth 100000
namespace Go.Proofs.Ytdpeleepfjhefaa
open Go.ChangeShapes Go.WideShapes Go.ChangeAt Go.RowKit

theorem inB_of {n lo hi : Int} (h1 : lo ≤ n) (h2 : n ≤ hi) : inB n lo hi = true := by simp [inB, h1, h2]
theorem rank_range {l : List Int} : 0 ≤ mv (leh l) (fr l.length) ∧ mv (leh l) (fr l.length) ≤ fct l.length - 1 := by
  have := mv_rangeP (allP_fr l.length) (leh_fit l)
  rw [rp_fr] at this; exact this
theorem pm_len {n : Int} {k : Nat} : (rPermutationAt0 n k).length = if inB (k : Int) 1 8 && inB n 0 (fct k - 1) then k else 0 := by
  rw [rPermutationAt0, Int.toNat_natCast]
  split
  · rw [pat_len, List.length_reverse, md_len, fr_len]
  · rfl

set_option maxHeartbeats 1000000 in
theorem specNextPermutation_any (v : Value) (l : List Int) (w : World) (hr : RowAt w v (intsOf l)) (hl : l.length ≤ 1048576) (hi : ∀ n ∈ l, in64 n) :
    Calls Try.prog 37 #[v] w fun e w' => ∃ v', e = .returned (.tuple #[v', .bool (rNextPermutation1 l)]) ∧ w'.ownsRow w.heap.size 3 1 v' (rNextPermutation0 l).length (intsOf (rNextPermutation0 l)) ∧ Below w.heap.size w w' := by
  have H1 := Lib.hid (specPm_eq v l w hr hl)
  have H2 := Lib.hid (fun W hW => specRankOf_any v l W (hr.below (w' := W) hW) hl hi)
  obtain ⟨a, cap, rfl, g1, g2, g3⟩ := hr.ints
  unfold maxLen at g2
  clear hr hi g3
  cases h : okP l
  · rw [h] at H1
    have E0 := Lib.hid (show rNextPermutation0 l = [] by rw [rNextPermutation0, h]; rfl)
    have E1 := Lib.hid (show rNextPermutation1 l = false by rw [rNextPermutation1, h]; rfl)
    clear h
    go_enter Try.func37, Try.ntmps37
    go_wp2_with fail
    refine H1.out.mono ?_
    rintro e w1 ⟨rfl, hB1⟩
    go_wp2_with fail
    go_ret2
    exact ⟨_, by rw [E1.out]; rfl, by rw [E0.out]; exact World.ownsRow_nil _ _ _ _, hB1⟩
  · rw [h] at H1
    obtain ⟨o1, o2, _, _⟩ := okP_yes h
    obtain ⟨R, hR⟩ : ∃ R, R = mv (leh l) (fr l.length) := ⟨_, rfl⟩
    have hrg := rank_range (l := l)
    have hfc := fct_le (show l.length ≤ 12 by omega)
    have hB8 : inB (l.length : Int) 1 8 = true := inB_of (by omega) (by omega)
    rw [← hR] at hrg
    have ER := Lib.hid (show rRankOf0 l = R by rw [rRankOf0, h, if_pos rfl, hR])
    have E0 : rNextPermutation0 l = rPermutationAt0 (R + 1) l.length := by rw [rNextPermutation0, h, if_pos rfl, hR]
    have E1 : rNextPermutation1 l = decide (R + 1 < fct l.length) := by rw [rNextPermutation1, h, hR]; rfl
    rw [ER.out] at H2
    have HP := Lib.hid (fun W => specPermutationAt_any (R + 1) l.length W ⟨by omega, by omega⟩ ⟨by omega, by omega⟩)
    have hw1 : IntKind.i64.wrap (R + 1) = R + 1 := by rw [IntKind.wrap_i64]; omega
    have HLEN : (rPermutationAt0 (R + 1) l.length).length = if R + 1 < fct l.length then l.length else 0 := by
      rw [pm_len, hB8, Bool.true_and]
      by_cases e : R + 1 < fct l.length
      · rw [if_pos e, if_pos (inB_of (by omega) (by omega))]
      · rw [if_neg e, if_neg]
        intro hh
        have := inB_yes hh
        omega
    clear h hR hB8
    by_cases e : R + 1 < fct l.length
    · rw [if_pos e] at HLEN
      rw [decide_eq_true e] at E1
      have EE0 := Lib.hid E0
      have EE1 := Lib.hid E1
      have HLN := Lib.hid HLEN
      rw [HLEN] at HP
      have hne : ¬ (l.length : Int) = 0 := by omega
      clear E0 E1 HLEN e
      go_enter Try.func37, Try.ntmps37
      go_wp2_with fail
      refine H1.out.mono ?_
      rintro e w1 ⟨rfl, hB1⟩
      go_wp2_with fail
      refine (H2.out w1 hB1).mono ?_
      rintro e w2 ⟨rfl, hB2⟩
      go_wp2_with fail
      refine (HP.out w2).mono ?_
      rintro e w3 ⟨v3, rfl, hO, hB3⟩
      have HO := Lib.hid (show w3.ownsRow w.heap.size 3 1 v3 (rNextPermutation0 l).length (intsOf (rNextPermutation0 l)) by
        rw [EE0.out, HLN.out]
        exact owns_mono hO (by have := hB1.size; have := hB2.size; omega))
      obtain ⟨av, cv, e3, _, _⟩ := owns_form hO
      subst e3
      clear hO
      go_wp2_with fail
      go_ret2
      exact ⟨_, by rw [EE1.out]; rfl, HO.out, hB1.trans ((hB2.mono hB1.size).trans (hB3.mono (by have := hB1.size; have := hB2.size; omega)))⟩
    · rw [if_neg e] at HLEN
      rw [decide_eq_false e] at E1
      have EE0 := Lib.hid (show rNextPermutation0 l = [] by rw [E0]; exact List.eq_nil_of_length_eq_zero HLEN)
      have EE1 := Lib.hid E1
      rw [HLEN] at HP
      clear E0 E1 HLEN e
      go_enter Try.func37, Try.ntmps37
      go_wp2_with fail
      refine H1.out.mono ?_
      rintro e w1 ⟨rfl, hB1⟩
      go_wp2_with fail
      refine (H2.out w1 hB1).mono ?_
      rintro e w2 ⟨rfl, hB2⟩
      go_wp2_with fail
      refine (HP.out w2).mono ?_
      rintro e w3 ⟨v3, rfl, hO, hB3⟩
      obtain ⟨av, cv, e3, _, _⟩ := owns_form hO
      subst e3
      clear hO
      go_wp2_with fail
      go_ret2
      exact ⟨_, by rw [EE1.out]; rfl, by rw [EE0.out]; exact World.ownsRow_nil _ _ _ _, hB1.trans ((hB2.mono hB1.size).trans (hB3.mono (by have := hB1.size; have := hB2.size; omega)))⟩

end Go.Proofs.Ytdpeleepfjhefaa
