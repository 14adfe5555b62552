/- Permutations: the program's number of inversions. -/
import Derived.Test.YtdpeleepfjhefaaMpLeI
import Derived.Test.YtdpeleepfjhefaaSumOf
set_option linter.unusedVariables false
set_option linter.unusedSimpArgs false
set_option maxRecDepth 100000
namespace Go.Proofs.Ytdpeleepfjhefaa
open Go.ChangeShapes Go.WideShapes Go.ChangeAt Go.RowKit

set_option maxHeartbeats 2000000 in
theorem implCountInversions_any (v : Value) (l : List Int) (w : World) (hr : RowAt w v (intsOf l)) (hl : l.length ≤ 1048576) (hi : ∀ n ∈ l, in64 n) :
    Calls Try.prog 23 #[v] w fun e w' => e = .returned (.int .i64 (rCountInversions0 l)) ∧ Below w.heap.size w w' := by
  have HC := Lib.hid (lehmer_any v l w hr (by omega))
  obtain ⟨a, cap, rfl, h1, h2, h3⟩ := hr.ints
  clear h3 hr hi
  cases h : okP l
  · have HK := Lib.hid (show rCountInversions0 l = -1 by rw [rCountInversions0, h]; rfl)
    have HH := Lib.hid h
    clear h
    go_enter Try.func23, Try.ntmps23
    go_wp2_with fail
    refine HC.out.mono ?_
    rintro e w1 ⟨v1, rfl, hO, hB, hv⟩
    obtain rfl := hv HH.out
    have q1 := Lib.run_eql_slice_nil (P := Try.prog) w1 23 3 none 0 0 0 0 Try.underlying23
    clear hO hv
    go_wp2_with fail
    go_ret
    exact ⟨by rw [HK.out]; rfl, hB⟩
  · have HK := Lib.hid (show rCountInversions0 l = (leh l).sum by rw [rCountInversions0, h, if_pos rfl, leh_sum])
    have HLn := okP_yes h
    have hll := leh_len l
    rw [show rLehmerOf0 l = leh l by rw [rLehmerOf0, h, if_pos rfl]] at HC
    have HD := Lib.hid (leh_bits h)
    have hn1 := HLn.1; have hn8 := HLn.2.1
    clear h HLn
    obtain ⟨L, hLe⟩ : ∃ L, L = leh l := ⟨_, rfl⟩
    rw [← hLe] at HK HC HD hll
    have hl1 : 1 ≤ L.length := by omega
    have hl8 : L.length ≤ 8 := by omega
    clear hLe hll
    go_enter Try.func23, Try.ntmps23
    go_wp2_with fail
    refine HC.out.mono ?_
    rintro e w1 ⟨v1, rfl, hO, hB, hv⟩
    have HV := Lib.hid (values_any v1 L w1 w1 (by omega) (fun d hd => by have := HD.out d hd; omega) (RowAt.of_owns hO) (Below.refl _ _))
    obtain ⟨p, cp, rfl⟩ := owns_some8 hO hl1
    have q1 := Lib.run_eql_slice_nil (P := Try.prog) w1 23 3 (some p) L.length cp 0 0 Try.underlying23
    clear hO hv
    go_wp2_with fail
    refine HV.out.mono ?_
    rintro e w2 ⟨rfl, hB2, hs2, hseq⟩
    have HSU := Lib.hid (sumVals_any _ _ L w2 w1 (by omega) (by omega) hseq)
    have HS2 := Lib.hid hs2
    clear hseq hs2
    go_wp2_with fail
    refine HSU.out.mono ?_
    rintro e w3 ⟨rfl, hB3⟩
    go_wp2_with fail
    go_ret
    exact ⟨by rw [HK.out]; rfl, hB.trans ((hB2.mono hB.size).trans (hB3.mono (by have := hB.size; have := hB2.size; omega)))⟩

end Go.Proofs.Ytdpeleepfjhefaa
