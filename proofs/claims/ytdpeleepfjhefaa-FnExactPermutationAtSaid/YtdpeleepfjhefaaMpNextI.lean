/- Permutations: the program's permutation at a number, as the law asks it, and the next permutation. -/
import Derived.Test.YtdpeleepfjhefaaMpLeI
import Derived.Test.YtdpeleepfjhefaaMpPatI
set_option linter.unusedVariables false
set_option linter.unusedSimpArgs false
set_option maxRecDepth 100000
namespace Go.Proofs.Ytdpeleepfjhefaa
open Go.ChangeShapes Go.WideShapes Go.ChangeAt Go.RowKit

theorem implPermutationAt_any (n m : Int) (w : World) (hn : in64 n) (hm : in64 m) :
    Calls Try.prog 19 #[.int .i64 n, .int .i64 m] w fun e w' => ∃ v', e = .returned v' ∧ w'.ownsRow w.heap.size 3 1 v' (rPermutationAt0 n m).length (intsOf (rPermutationAt0 n m)) ∧ Below w.heap.size w w' := by
  refine (permAt_any n m w hn hm).mono ?_
  rintro e w' ⟨v', h1, h2, h3, _⟩
  exact ⟨v', h1, h2, h3⟩

set_option maxHeartbeats 4000000 in
theorem implNextPermutation_any (v : Value) (l : List Int) (w : World) (hr : RowAt w v (intsOf l)) (hl : l.length ≤ 1048576) (hi : ∀ n ∈ l, in64 n) :
    Calls Try.prog 24 #[v] w fun e w' => ∃ v', e = .returned (.tuple #[v', .bool (rNextPermutation1 l)]) ∧ w'.ownsRow w.heap.size 3 1 v' (rNextPermutation0 l).length (intsOf (rNextPermutation0 l)) ∧ Below w.heap.size w w' := by
  have HC := Lib.hid (implRankOf_any v l w hr hl hi)
  obtain ⟨a, cap, rfl, h1, h2, h3⟩ := hr.ints
  unfold maxLen at h2
  clear h3 hr hi
  cases h : okP l
  · have HNO := Lib.hid (fun w' (hB : Below w.heap.size w w') => show ∃ v', Ending.returned (.tuple #[.slice none 0 0, .bool false]) = .returned (.tuple #[v', .bool (rNextPermutation1 l)]) ∧ w'.ownsRow w.heap.size 3 1 v' (rNextPermutation0 l).length (intsOf (rNextPermutation0 l)) ∧ Below w.heap.size w w' from by
      refine ⟨_, by rw [rNextPermutation1, h]; rfl, ?_, hB⟩
      rw [rNextPermutation0, h]; exact World.ownsRow_nil _ _ _ _)
    rw [show rRankOf0 l = -1 by rw [rRankOf0, h]; rfl] at HC
    clear h
    go_enter Try.func24, Try.ntmps24
    go_wp2_with fail
    refine HC.out.mono ?_
    rintro e w1 ⟨rfl, hB1⟩
    go_wp2_with fail
    go_ret2
    exact HNO.out _ hB1
  · obtain ⟨n1, n8, _⟩ := okP_yes h
    obtain ⟨k0, k1⟩ := rank_range (l := l)
    obtain ⟨f1, f2⟩ := fct_le (show l.length ≤ 12 by omega)
    have HX0 := Lib.hid (show rNextPermutation0 l = rPermutationAt0 (mv (leh l) (fr l.length) + 1) l.length by rw [rNextPermutation0, h]; rfl)
    have HX1 := Lib.hid (show rNextPermutation1 l = decide (mv (leh l) (fr l.length) + 1 < fct l.length) by rw [rNextPermutation1, h]; rfl)
    rw [show rRankOf0 l = mv (leh l) (fr l.length) by rw [rRankOf0, h]; rfl] at HC
    obtain ⟨K, hK⟩ : ∃ K, K = mv (leh l) (fr l.length) := ⟨_, rfl⟩
    rw [← hK] at HC HX0 HX1 k0 k1
    have HP := Lib.hid (fun W => permAt_any (K + 1) l.length W ⟨by omega, by omega⟩ ⟨by omega, by omega⟩)
    have hPL := pm_len (n := K + 1) (k := l.length)
    rw [inB_of (show (1 : Int) ≤ l.length by omega) (by omega), Bool.true_and] at hPL
    obtain ⟨L, hL⟩ : ∃ L, L = rPermutationAt0 (K + 1) l.length := ⟨_, rfl⟩
    rw [← hL] at HX0 HP hPL
    clear hL hK h
    by_cases hlt : K + 1 < fct l.length
    · have HB1 := Lib.hid (show rNextPermutation1 l = true by rw [HX1.out]; exact decide_eq_true hlt)
      rw [inB_of (by omega) (by omega), if_pos rfl] at hPL
      have hl1 : 1 ≤ L.length := by omega
      clear hlt hPL
      go_enter Try.func24, Try.ntmps24
      go_wp2_with fail
      refine HC.out.mono ?_
      rintro e w1 ⟨rfl, hB1⟩
      go_wp2_with fail
      refine (HP.out w1).mono ?_
      rintro e w2 ⟨v2, rfl, hO, hB2, hv⟩
      have HO := Lib.hid hO
      obtain ⟨p, cp, rfl⟩ := owns_some8 hO hl1
      have q1 := run_neq_slice_nil_any (P := Try.prog) w2 23 3 (some p) L.length cp 0 0 Try.underlying23
      have HBB := Lib.hid (And.intro hB1.size (hB1.trans (hB2.mono hB1.size)))
      clear hO hv hB1 hB2
      go_wp2_with fail
      go_ret2
      refine ⟨_, by rw [HB1.out]; rfl, ?_, HBB.out.2⟩
      rw [HX0.out]; exact owns_mono HO.out HBB.out.1
    · have HB1 := Lib.hid (show rNextPermutation1 l = false by rw [HX1.out]; exact decide_eq_false hlt)
      have hno : inB (K + 1) 0 (fct l.length - 1) = false := by simp [inB]; omega
      rw [hno] at hPL
      have HLn := Lib.hid (List.eq_nil_of_length_eq_zero (show L.length = 0 by simpa using hPL))
      clear hlt hPL hno
      go_enter Try.func24, Try.ntmps24
      go_wp2_with fail
      refine HC.out.mono ?_
      rintro e w1 ⟨rfl, hB1⟩
      go_wp2_with fail
      refine (HP.out w1).mono ?_
      rintro e w2 ⟨v2, rfl, hO, hB2, hv⟩
      obtain rfl := hv HLn.out
      have q1 := run_neq_slice_nil_any (P := Try.prog) w2 23 3 none 0 0 0 0 Try.underlying23
      have HBB := Lib.hid (hB1.trans (hB2.mono hB1.size))
      clear hO hv hB1 hB2
      go_wp2_with fail
      go_ret2
      refine ⟨_, by rw [HB1.out]; rfl, ?_, HBB.out⟩
      rw [HX0.out, HLn.out]; exact World.ownsRow_nil _ _ _ _

end Go.Proofs.Ytdpeleepfjhefaa
