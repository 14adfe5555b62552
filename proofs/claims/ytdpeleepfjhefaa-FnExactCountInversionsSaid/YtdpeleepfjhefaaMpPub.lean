/- Permutations: the model's test, Lehmer's digits, ranks and inversions as they are called. -/
import Derived.Test.YtdpeleepfjhefaaMpOk
import Derived.Test.YtdpeleepfjhefaaDgVal
import Derived.Test.YtdpeleepfjhefaaMpVal
import Derived.Test.YtdpeleepfjhefaaMpLeh
set_option linter.unusedVariables false
set_option linter.unusedSimpArgs false
set_option maxRecDepth 100000
namespace Go.Proofs.Ytdpeleepfjhefaa
open Go.ChangeShapes Go.WideShapes Go.ChangeAt Go.RowKit

theorem specPermutationOk_any (v : Value) (l : List Int) (w : World) (hr : RowAt w v (intsOf l)) (hl : l.length ≤ 1048576) (hi : ∀ n ∈ l, in64 n) :
    Calls Try.prog 33 #[v] w fun e w' => e = .returned (.bool (rPermutationOk0 l)) ∧ Below w.heap.size w w' := specPm_eq v l w hr hl
theorem rLehmerOf0_len (l : List Int) : (rLehmerOf0 l).length ≤ 1048577 := by
  unfold rLehmerOf0; split
  · rename_i h
    have := okP_yes h
    rw [leh_len]; omega
  · simp
theorem leh_okD8 {l : List Int} (h : okP l = true) : okD8 (leh l) = true := by
  obtain ⟨h1, h2, _⟩ := okP_yes h
  simp only [okD8, Bool.and_eq_true, decide_eq_true_eq, leh_len]
  refine ⟨h1, h2, fun j hj => ?_⟩
  have hj' : j < (fr l.length).length := by rw [fr_len]; exact hj
  have := fitM_at (leh_fit l) j (by rw [leh_len]; exact hj) hj'
  rw [fr_get _ hj'] at this
  omega
theorem leh_bits {l : List Int} (h : okP l = true) : ∀ d ∈ leh l, 0 ≤ d ∧ d ≤ 7 := by
  intro d hd
  obtain ⟨j, hj, rfl⟩ := List.getElem_of_mem hd
  have h1 := (okD8_yes (leh_okD8 h)).2.2 j hj
  have h2 := (okP_yes h).2.1
  rw [leh_len] at hj
  omega

set_option maxHeartbeats 1000000 in
theorem specLehmerOf_any (v : Value) (l : List Int) (w : World) (hr : RowAt w v (intsOf l)) (hl : l.length ≤ 1048576) (hi : ∀ n ∈ l, in64 n) :
    Calls Try.prog 34 #[v] w fun e w' => ∃ v', e = .returned v' ∧ w'.ownsRow w.heap.size 3 1 v' (rLehmerOf0 l).length (intsOf (rLehmerOf0 l)) ∧ Below w.heap.size w w' := by
  have H1 := Lib.hid (specPm_eq v l w hr hl)
  have H2 := Lib.hid (fun h8 W hW => specLeh_any v l W (hr.below (w' := W) hW) h8)
  clear hr hi
  cases h : okP l
  · rw [h] at H1
    have E0 := Lib.hid (show rLehmerOf0 l = [] by rw [rLehmerOf0, h]; rfl)
    clear h
    go_enter Try.func34, Try.ntmps34
    go_wp2_with fail
    refine H1.out.mono ?_
    rintro e w1 ⟨rfl, hB1⟩
    go_wp2_with fail
    go_ret
    exact ⟨_, rfl, by rw [E0.out]; exact World.ownsRow_nil _ _ _ _, hB1⟩
  · rw [h] at H1
    have E0 := Lib.hid (show rLehmerOf0 l = leh l by rw [rLehmerOf0, h]; rfl)
    have HL := Lib.hid (H2.out (okP_yes h).2.1)
    clear h
    go_enter Try.func34, Try.ntmps34
    go_wp2_with fail
    refine H1.out.mono ?_
    rintro e w1 ⟨rfl, hB1⟩
    go_wp2_with fail
    refine (HL.out w1 hB1).mono ?_
    rintro e w2 ⟨v2, rfl, hO, hB2⟩
    have HO := Lib.hid (owns_mono hO hB1.size)
    clear hO
    go_wp2_with fail
    go_ret
    exact ⟨_, rfl, by rw [E0.out]; exact HO.out, hB1.trans (hB2.mono hB1.size)⟩

set_option maxHeartbeats 1000000 in
theorem specRankOf_any (v : Value) (l : List Int) (w : World) (hr : RowAt w v (intsOf l)) (hl : l.length ≤ 1048576) (hi : ∀ n ∈ l, in64 n) :
    Calls Try.prog 35 #[v] w fun e w' => e = .returned (.int .i64 (rRankOf0 l)) ∧ Below w.heap.size w w' := by
  have H1 := Lib.hid (specPm_eq v l w hr hl)
  have H2 := Lib.hid (fun h8 W hW => specLeh_any v l W (hr.below (w' := W) hW) h8)
  clear hr hi
  cases h : okP l
  · rw [h] at H1
    have E0 := Lib.hid (show rRankOf0 l = -1 by rw [rRankOf0, h]; rfl)
    clear h
    go_enter Try.func35, Try.ntmps35
    go_wp2_with fail
    refine H1.out.mono ?_
    rintro e w1 ⟨rfl, hB1⟩
    go_wp2_with fail
    go_ret
    exact ⟨by rw [E0.out]; rfl, hB1⟩
  · rw [h] at H1
    have E0 := Lib.hid (show rFactorialValue0 (leh l) = rRankOf0 l by rw [rFactorialValue0, leh_okD8 h, rRankOf0, h, leh_len])
    have HL := Lib.hid (H2.out (okP_yes h).2.1)
    have HV := Lib.hid (fun v W hW => specFactorialValue_any v (leh l) W hW (by have := (okP_yes h).2.1; rw [leh_len]; omega) (fun n hn => by have := leh_bits h n hn; exact ⟨by omega, by omega⟩))
    rw [E0.out] at HV
    clear h
    go_enter Try.func35, Try.ntmps35
    go_wp2_with fail
    refine H1.out.mono ?_
    rintro e w1 ⟨rfl, hB1⟩
    go_wp2_with fail
    refine (HL.out w1 hB1).mono ?_
    rintro e w2 ⟨v2, rfl, hO, hB2⟩
    have HR := Lib.hid (RowAt.of_owns hO)
    have hB12 := hB1.trans (hB2.mono hB1.size)
    clear hO hB2
    go_wp2_with fail
    refine (HV.out _ _ HR.out).mono ?_
    rintro e w3 ⟨rfl, hB3⟩
    go_wp2_with fail
    go_ret
    exact ⟨rfl, hB12.trans (hB3.mono hB12.size)⟩

set_option maxHeartbeats 1000000 in
theorem specCountInversions_any (v : Value) (l : List Int) (w : World) (hr : RowAt w v (intsOf l)) (hl : l.length ≤ 1048576) (hi : ∀ n ∈ l, in64 n) :
    Calls Try.prog 38 #[v] w fun e w' => e = .returned (.int .i64 (rCountInversions0 l)) ∧ Below w.heap.size w w' := by
  have H1 := Lib.hid (specPm_eq v l w hr hl)
  have H2 := Lib.hid (fun h8 W hW => specLeh_any v l W (hr.below (w' := W) hW) h8)
  clear hr hi
  cases h : okP l
  · rw [h] at H1
    have E0 := Lib.hid (show rCountInversions0 l = -1 by rw [rCountInversions0, h]; rfl)
    clear h
    go_enter Try.func38, Try.ntmps38
    go_wp2_with fail
    refine H1.out.mono ?_
    rintro e w1 ⟨rfl, hB1⟩
    go_wp2_with fail
    go_ret
    exact ⟨by rw [E0.out]; rfl, hB1⟩
  · rw [h] at H1
    have E0 := Lib.hid (show (leh l).sum = rCountInversions0 l by rw [rCountInversions0, h, leh_sum]; rfl)
    have HL := Lib.hid (H2.out (okP_yes h).2.1)
    have HV := Lib.hid (fun v W hW => specSum_any v (leh l) W hW (by have := (okP_yes h).2.1; rw [leh_len]; omega) (fun n hn => by have := leh_bits h n hn; omega))
    rw [E0.out] at HV
    clear h
    go_enter Try.func38, Try.ntmps38
    go_wp2_with fail
    refine H1.out.mono ?_
    rintro e w1 ⟨rfl, hB1⟩
    go_wp2_with fail
    refine (HL.out w1 hB1).mono ?_
    rintro e w2 ⟨v2, rfl, hO, hB2⟩
    have HR := Lib.hid (RowAt.of_owns hO)
    have hB12 := hB1.trans (hB2.mono hB1.size)
    clear hO hB2
    go_wp2_with fail
    refine (HV.out _ _ HR.out).mono ?_
    rintro e w' ⟨rfl, rfl⟩
    go_wp2_with fail
    go_ret
    exact ⟨rfl, hB12⟩

end Go.Proofs.Ytdpeleepfjhefaa
