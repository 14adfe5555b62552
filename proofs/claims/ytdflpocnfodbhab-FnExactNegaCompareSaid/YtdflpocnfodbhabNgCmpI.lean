/- Negative bases: the program compares two lists at the greatest place where they differ. -/
import Derived.Test.YtdflpocnfodbhabNgOrdI
import Derived.Test.YtdflpocnfodbhabLastD
set_option linter.unusedVariables false
set_option linter.unusedSimpArgs false
set_option maxRecDepth 100000
namespace Go.Proofs.Ytdflpocnfodbhab
open Go.ChangeShapes Go.WideShapes Go.ChangeAt Go.RowKit

theorem cmpZ_eq (x y : Int) : cmpZ x y = cmpI x y := rfl
theorem psg_pm (k : Nat) : psg k = 1 ∨ psg k = -1 := by
  unfold psg; split
  · exact .inl rfl
  · exact .inr rfl

set_option maxHeartbeats 2000000 in
theorem implNegaCompare_any (va : Value) (a : List Int) (vc : Value) (c : List Int) (b : Int) (w : World) (hra : RowAt w va (intsOf a)) (hl : a.length ≤ 1048576) (hia : ∀ n ∈ a, in64 n) (hrc : RowAt w vc (intsOf c)) (hl' : c.length ≤ 1048576) (hic : ∀ n ∈ c, in64 n) (hb : in64 b) :
    Calls Try.prog 38 #[va, vc, .int .i64 b] w fun e w' => e = .returned (.int .i64 (rNegaCompare0 a c b)) ∧ Below w.heap.size w w' := by
  have H1 := Lib.hid (implDigitsOk_any va a b w hra hl hia hb)
  have H2 := Lib.hid (implDigitsOk_any vc c b w hrc hl' hic hb)
  have HRA := Lib.hid hra; have HRC := Lib.hid hrc
  obtain ⟨aa, cap, rfl, h1, h2, h3⟩ := hra.ints
  obtain ⟨ac, cap', rfl, h1', h2', h3'⟩ := hrc.ints
  unfold maxLen at h2 h2'
  clear h3 h3' hra hrc
  have HNO := Lib.hid (fun h : (okD a b && okD c b) = false => show rNegaCompare0 a c b = -2 by rw [rNegaCompare0, h, if_neg (by simp)])
  cases ha : okD a b
  · rw [ha] at H1
    have E0 := Lib.hid (HNO.out (by rw [ha]; rfl))
    clear ha
    go_enter Try.func38, Try.ntmps38
    go_wp2_with fail
    refine H1.out.mono ?_
    rintro e w' ⟨rfl, rfl⟩
    go_wp2_with fail
    go_ret
    exact ⟨by rw [E0.out]; rfl, Below.refl _ _⟩
  · rw [ha] at H1
    cases hc : okD c b
    · rw [hc] at H2
      have E0 := Lib.hid (HNO.out (by rw [ha, hc]; rfl))
      clear ha hc
      go_enter Try.func38, Try.ntmps38
      go_wp2_with fail
      refine H1.out.mono ?_
      rintro e w' ⟨rfl, rfl⟩
      go_wp2_with fail
      refine H2.out.mono ?_
      rintro e w' ⟨rfl, rfl⟩
      go_wp2_with fail
      go_ret
      exact ⟨by rw [E0.out]; rfl, Below.refl _ _⟩
    · rw [hc] at H2
      obtain ⟨n, rfl, hn2, hn16, hNa, hla⟩ := nat_of_ok ha
      have hNc := okD_nrm hc
      have hlc := (okD_yes hc).2.1
      have E0 := show rNegaCompare0 a c n = cmpI (nv n a) (nv n c) by rw [rNegaCompare0, ha, hc, nvI_nat, nvI_nat]; rfl
      have HL := Lib.hid (lastDiff_any _ a _ c w HRA.out hla HRC.out hlc)
      have HPL := Lib.hid (fun k hk => place_any k w hk)
      have HV := Lib.hid (show ∀ s k, LastD a c s k → s * psg k = rNegaCompare0 a c n ∧ (s = 0 ∨ s = 1 ∨ s = -1) from fun s k hd => by
        rw [E0]
        have hat : ∀ l k, nv n (l.drop k) = at0 l k + -(n : Int) * nv n (l.drop (k + 1)) := fun l k => by rw [nv_at, Int.neg_mul]; omega
        rcases hd with ⟨rfl, rfl, he⟩ | ⟨hne, rfl, he⟩
        · have := drop_ext (f := nv n) hat a c 60 0 (by omega) (by omega) (fun j _ => he j)
          rw [List.drop_zero, List.drop_zero] at this
          rw [this, cmpI_eq]
          exact ⟨Int.zero_mul _, .inl rfl⟩
        · have ht := drop_ext (f := nv n) hat a c 60 (k + 1) (by omega) (by omega) (fun j hj => he j (by omega))
          refine ⟨?_, .inr (cmpZ_pm hne)⟩
          rw [cmpZ_eq]
          rcases Int.lt_or_gt_of_ne hne with h3 | h3
          · obtain ⟨i1, i2⟩ := nv_place (k := k) hn2 hNa.1 hNc.1 ht h3
            rw [cmpI_lt h3, psg]
            split
            · rename_i hp; rw [cmpI_lt (i1 hp)]; rfl
            · rename_i hp; rw [cmpI_gt (i2 (by omega))]; rfl
          · obtain ⟨i1, i2⟩ := nv_place (k := k) hn2 hNc.1 hNa.1 ht.symm h3
            rw [cmpI_gt h3, psg]
            split
            · rename_i hp; rw [cmpI_gt (i1 hp)]; rfl
            · rename_i hp; rw [cmpI_lt (i2 (by omega))]; rfl)
      clear ha hc hNa hNc hia hic hb HNO E0
      go_enter Try.func38, Try.ntmps38
      go_wp2_with fail
      refine H1.out.mono ?_
      rintro e w' ⟨rfl, rfl⟩
      go_wp2_with fail
      refine H2.out.mono ?_
      rintro e w' ⟨rfl, rfl⟩
      go_wp2_with fail
      refine HL.out.mono ?_
      rintro e w' ⟨s, k, rfl, hk, hd, rfl⟩
      obtain ⟨hs, hs3⟩ := HV.out s k hd
      have HP := Lib.hid (HPL.out k (by omega))
      obtain ⟨t, ht⟩ : ∃ t, t = psg k := ⟨_, rfl⟩
      have ht2 := psg_pm k
      rw [← ht] at hs HP ht2
      have HS := Lib.hid hs
      clear hd hs ht
      rcases hs3 with rfl | rfl | rfl <;> rcases ht2 with rfl | rfl
      all_goals
        go_wp2_with fail
        refine HP.out.mono ?_
        rintro e w' ⟨rfl, rfl⟩
        go_wp2_with fail
        go_ret
        exact ⟨by rw [← HS.out]; rfl, Below.refl _ _⟩

end Go.Proofs.Ytdflpocnfodbhab
