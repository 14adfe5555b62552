/- Balanced digits: the program compares two lists. -/
import Derived.Test.YtdflpocnfodbhacBaI1b
import Derived.Test.YtdflpocnfodbhacLastD
set_option linter.unusedVariables false
set_option linter.unusedSimpArgs false
set_option maxRecDepth 100000
namespace Go.Proofs.Ytdflpocnfodbhac
open Go.ChangeShapes Go.WideShapes Go.ChangeAt Go.RowKit

set_option maxHeartbeats 1000000 in
theorem implBalancedCompare_any (va : Value) (a : List Int) (vc : Value) (c : List Int) (b : Int) (w : World) (hra : RowAt w va (intsOf a)) (hl : a.length ≤ 1048576) (hia : ∀ n ∈ a, in64 n) (hrc : RowAt w vc (intsOf c)) (hl' : c.length ≤ 1048576) (hic : ∀ n ∈ c, in64 n) (hb : in64 b) :
    Calls Try.prog 22 #[va, vc, .int .i64 b] w fun e w' => e = .returned (.int .i64 (rBalancedCompare0 a c b)) ∧ Below w.heap.size w w' := by
  have H1 := Lib.hid (implBal_eq va a b w hra hl hia hb)
  have H2 := Lib.hid (implBal_eq vc c b w hrc hl' hic hb)
  have HRA := Lib.hid hra; have HRC := Lib.hid hrc
  obtain ⟨aa, cap, rfl, h1, h2, h3⟩ := hra.ints
  obtain ⟨ac, cap', rfl, h1', h2', h3'⟩ := hrc.ints
  unfold maxLen at h2 h2'
  clear h3 h3' hra hrc
  cases h : okW a b
  · rw [h] at H1
    have E0 := Lib.hid (show rBalancedCompare0 a c b = -2 by rw [rBalancedCompare0, h]; rfl)
    clear h
    go_enter Try.func22, Try.ntmps22
    go_wp2_with fail
    refine H1.out.mono ?_
    rintro e w' ⟨rfl, rfl⟩
    go_wp2_with fail
    go_ret
    exact ⟨by rw [E0.out]; rfl, Below.refl _ _⟩
  · rw [h] at H1
    cases hc : okW c b
    · rw [hc] at H2
      have E0 := Lib.hid (show rBalancedCompare0 a c b = -2 by rw [rBalancedCompare0, h, hc]; rfl)
      clear h hc
      go_enter Try.func22, Try.ntmps22
      go_wp2_with fail
      refine H1.out.mono ?_
      rintro e w' ⟨rfl, rfl⟩
      go_wp2_with fail
      refine H2.out.mono ?_
      rintro e w' ⟨rfl, rfl⟩
      go_wp2_with fail
      go_ret
      exact ⟨by rw [E0.out]; rfl, Below.refl _ _⟩
    · rw [hc] at H2
      obtain ⟨n, hbe, hn1, hn7, hNa, hla⟩ := okW_yes h
      obtain ⟨n', hbe', _, _, hNc, hlc⟩ := okW_yes hc
      obtain rfl : n = n' := by omega
      have E0 := show rBalancedCompare0 a c b = cmpI (bv n a) (bv n c) by rw [rBalancedCompare0, h, hc, hbe, hOf_eq]; rfl
      have HL := Lib.hid (lastDiff_any _ a _ c w HRA.out hla HRC.out hlc)
      have HV := Lib.hid (show ∀ s k, LastD a c s k → s = rBalancedCompare0 a c b from fun s k hd => by
        rw [E0]
        rcases hd with ⟨rfl, rfl, he⟩ | ⟨hne, rfl, he⟩
        · have := drop_ext (f := bv n) (bv_at n) a c 60 0 (by omega) (by omega) (fun j _ => he j)
          rw [List.drop_zero, List.drop_zero] at this
          rw [this, cmpI_eq]
        · have ht := drop_ext (f := bv n) (bv_at n) a c 60 (k + 1) (by omega) (by omega) (fun j hj => he j (by omega))
          rcases Int.lt_or_gt_of_ne hne with h3 | h3
          · rw [cmpI_lt (bv_place hNa.1 hNc.1 ht h3)]
            simp [cmpZ, h3]
          · rw [cmpI_gt (bv_place hNc.1 hNa.1 ht.symm h3)]
            have : ¬ at0 a k < at0 c k := by omega
            simp [cmpZ, h3, this])
      clear h hc hNa hNc hia hic hb hbe hbe' E0
      go_enter Try.func22, Try.ntmps22
      go_wp2_with fail
      refine H1.out.mono ?_
      rintro e w' ⟨rfl, rfl⟩
      go_wp2_with fail
      refine H2.out.mono ?_
      rintro e w' ⟨rfl, rfl⟩
      go_wp2_with fail
      refine HL.out.mono ?_
      rintro e w' ⟨s, k, rfl, hk, hd, rfl⟩
      have HS := Lib.hid (HV.out s k hd)
      clear hd hk
      go_wp2_with fail
      go_ret
      exact ⟨by rw [← HS.out]; rfl, Below.refl _ _⟩

end Go.Proofs.Ytdflpocnfodbhac
