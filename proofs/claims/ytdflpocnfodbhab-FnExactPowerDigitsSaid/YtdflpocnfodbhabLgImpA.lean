/- Long numbers: the program adds, subtracts, multiplies, compares, raises to a power. -/
import Derived.Test.YtdflpocnfodbhabDgImp
import Derived.Test.YtdflpocnfodbhabLgPow
import Derived.Test.YtdflpocnfodbhabLgC
import Derived.Test.YtdflpocnfodbhabLgT
set_option linter.unusedVariables false
set_option linter.unusedSimpArgs false
set_option maxRecDepth 100000
namespace Go.Proofs.Ytdflpocnfodbhab
open Go.ChangeShapes Go.WideShapes Go.ChangeAt Go.RowKit

set_option maxHeartbeats 2000000 in
theorem implCompareDigits_any (va : Value) (a : List Int) (vc : Value) (c : List Int) (b : Int) (w : World) (hra : RowAt w va (intsOf a)) (hl : a.length ≤ 1048576) (hia : ∀ n ∈ a, in64 n) (hrc : RowAt w vc (intsOf c)) (hl' : c.length ≤ 1048576) (hic : ∀ n ∈ c, in64 n) (hb : in64 b) :
    Calls Try.prog 17 #[va, vc, .int .i64 b] w fun e w' => e = .returned (.int .i64 (rCompareDigits0 a c b)) ∧ Below w.heap.size w w' := by
  have H1 := Lib.hid (implDigitsOk_any va a b w hra hl hia hb)
  have H2 := Lib.hid (implDigitsOk_any vc c b w hrc hl' hic hb)
  cases h : okD a b
  · rw [h] at H1
    have E0 := Lib.hid (show rCompareDigits0 a c b = -2 by rw [rCompareDigits0, h]; rfl)
    clear h
    go_enter Try.func17, Try.ntmps17
    go_wp2_with fail
    refine H1.out.mono ?_
    rintro e w' ⟨rfl, rfl⟩
    go_wp2_with fail
    go_ret
    exact ⟨by rw [E0.out]; rfl, Below.refl _ _⟩
  · rw [h] at H1
    cases h2 : okD c b
    · rw [h2] at H2
      have E0 := Lib.hid (show rCompareDigits0 a c b = -2 by rw [rCompareDigits0, h, h2]; rfl)
      clear h h2
      go_enter Try.func17, Try.ntmps17
      go_wp2_with fail
      refine H1.out.mono ?_
      rintro e w' ⟨rfl, rfl⟩
      go_wp2_with fail
      refine H2.out.mono ?_
      rintro e w' ⟨rfl, rfl⟩
      go_wp2_with fail
      go_ret
      exact ⟨by rw [E0.out]; rfl, Below.refl _ _⟩
    · rw [h2] at H2
      obtain ⟨n, rfl, hn2, hn16, hNa, hla⟩ := nat_of_ok h
      have hNc := okD_nrm h2
      have hlc := (okD_yes h2).2.1
      have HCM := Lib.hid (implCompare_any va vc a c n w hn2 hNa hNc hra hrc (by omega) (by omega))
      have E0 := Lib.hid (show rCompareDigits0 a c n = cmpN (vl n a) (vl n c) by rw [rCompareDigits0, h, h2, vlI_nat, vlI_nat]; rfl)
      rw [← E0.out] at HCM
      clear h h2 hNa hNc hra hrc hia hic
      go_enter Try.func17, Try.ntmps17
      go_wp2_with fail
      refine H1.out.mono ?_
      rintro e w' ⟨rfl, rfl⟩
      go_wp2_with fail
      refine H2.out.mono ?_
      rintro e w' ⟨rfl, rfl⟩
      go_wp2_with fail
      refine HCM.out.mono ?_
      rintro e w1 ⟨rfl, hB⟩
      go_wp2_with fail
      go_ret
      exact ⟨rfl, hB⟩

set_option maxHeartbeats 4000000 in
theorem implPowerDigits_any (va : Value) (a : List Int) (n b : Int) (w : World) (hra : RowAt w va (intsOf a)) (hl : a.length ≤ 1048576) (hia : ∀ n ∈ a, in64 n) (hn : in64 n) (hb : in64 b) :
    Calls Try.prog 24 #[va, .int .i64 n, .int .i64 b] w fun e w' => ∃ v, e = .returned (.tuple #[v, .bool (rPowerDigits1 a n b)]) ∧ w'.ownsRow w.heap.size 3 1 v (rPowerDigits0 a n b).length (intsOf (rPowerDigits0 a n b)) ∧ Below w.heap.size w w' := by
  have H1 := Lib.hid (implDigitsOk_any va a b w hra hl hia hb)
  have HNO := Lib.hid (fun w' (hB : Below w.heap.size w w') (h : rPowerDigits1 a n b = false) => show ∃ v, Ending.returned (.tuple #[.slice none 0 0, .bool false]) = .returned (.tuple #[v, .bool (rPowerDigits1 a n b)]) ∧ w'.ownsRow w.heap.size 3 1 v (rPowerDigits0 a n b).length (intsOf (rPowerDigits0 a n b)) ∧ Below w.heap.size w w' from
    ⟨_, by rw [h], by rw [rPowerDigits0, h]; exact World.ownsRow_nil _ _ _ _, hB⟩)
  have HIN := Lib.hid hn
  clear hn
  cases h : okD a b
  · rw [h] at H1
    have E := Lib.hid (HNO.out w (Below.refl _ _) (by rw [rPowerDigits1, h]; rfl))
    clear h
    go_enter Try.func24, Try.ntmps24
    go_wp2_with fail
    refine H1.out.mono ?_
    rintro e w' ⟨rfl, rfl⟩
    go_wp2_with fail
    go_ret2
    exact E.out
  · rw [h] at H1
    by_cases hn0 : n < 0
    · have E := Lib.hid (HNO.out w (Below.refl _ _) (by
        have : inB n 0 60 = false := by simp [inB]; omega
        rw [rPowerDigits1, h, this]; rfl))
      clear h
      go_enter Try.func24, Try.ntmps24
      go_wp2_with fail
      refine H1.out.mono ?_
      rintro e w' ⟨rfl, rfl⟩
      go_wp2_with fail
      go_ret2
      exact E.out
    · by_cases hn60 : 60 < n
      · have E := Lib.hid (HNO.out w (Below.refl _ _) (by
          have : inB n 0 60 = false := by simp [inB]; omega
          rw [rPowerDigits1, h, this]; rfl))
        clear h
        go_enter Try.func24, Try.ntmps24
        go_wp2_with fail
        refine H1.out.mono ?_
        rintro e w' ⟨rfl, rfl⟩
        go_wp2_with fail
        go_ret2
        exact E.out
      · have hin : inB n 0 60 = true := by simp [inB]; omega
        obtain ⟨n, rfl⟩ : ∃ n' : Nat, n = n' := ⟨n.toNat, by omega⟩
        obtain ⟨b, rfl, hb2, hb16, hNa, hla⟩ := nat_of_ok h
        obtain ⟨A, hA⟩ : ∃ A, A = vl b a := ⟨_, rfl⟩
        have HE := Lib.hid (show rPowerDigits1 a n b = fits (dg b (A ^ n)) by rw [rPowerDigits1, h, hin, Bool.true_and, Bool.true_and, vlI_nat, dgI_nat, hA]; rfl)
        have HE0 := Lib.hid (show ∀ r, r = fits (dg b (A ^ n)) → rPowerDigits0 a n b = if r then dg b (A ^ n) else [] from fun r hr => by rw [rPowerDigits0, HE.out, hr, vlI_nat, dgI_nat, hA]; rfl)
        have HT := Lib.hid (fun v (l : List Int) W (hB : Below w.heap.size w W) (hA : AllD b l) (hrow : RowAt W v (intsOf l)) (hll : l.length ≤ 60) => implTimes_any v va l a b W hb2 hb16 hA hNa.1 hrow (hra.below hB) (by omega) (by omega))
        rw [← hA] at HT
        have HONE := Lib.hid (dg_one hb2)
        have hlit := World.ownsRow_lit (base := w.heap.size) (e := 3) (size := 1) w #[.int .i64 1] 1 (Nat.le_refl _) (by decide) rfl
        have HL := Lib.hid hlit
        clear h hin hNa hra hia hA hlit
        go_enter Try.func24, Try.ntmps24
        go_wp2_with fail
        refine H1.out.mono ?_
        rintro e w' ⟨rfl, rfl⟩
        go_wp2_with fail
        go_loopw [8, 23] (fun v i wr => ∃ k : Nat, k ≤ n ∧ i = .int .i64 k ∧ (dg b (A ^ k)).length ≤ 60 ∧ wr.ownsRow w.heap.size 3 1 v (dg b (A ^ k)).length (intsOf (dg b (A ^ k))) ∧ Below w.heap.size w wr) (fun _ i _ => (n - (intOf i).toNat))
        case atStart =>
          refine ⟨0, Nat.zero_le _, rfl, ?_, ?_, (Below.refl _ _).alloc (Nat.le_refl _) _⟩
          · rw [Nat.pow_zero, HONE.out]; decide
          · rw [Nat.pow_zero, HONE.out]; exact HL.out
        case round =>
          obtain ⟨k, hk, rfl, h60, hown, hB⟩ := hrel
          have hsz := hB.size
          by_cases hlt : k < n
          · have HTk := Lib.hid (HT.out _ _ wr hB (nrm_dg hb2 (A ^ k)).1 (RowAt.of_owns hown) h60)
            rw [vl_dg hb2, ← Nat.pow_succ] at HTk
            obtain ⟨R, hR⟩ : ∃ R, R = dg b (A ^ (k + 1)) := ⟨_, rfl⟩
            rw [← hR] at HTk
            have HR := Lib.hid hR
            clear hown hR
            go_wp2_with fail
            refine HTk.out.mono ?_
            rintro e w1 ⟨v, rfl, ho, hB1⟩
            have hB2 := hB.trans (hB1.mono hsz)
            have hO := owns_mono ho hsz
            obtain ⟨a', cap, rfl, h1, h2⟩ := owns_form hO
            unfold maxLen at h2
            have HO := Lib.hid hO
            clear ho hB1 hO
            by_cases hf : R.length ≤ 60
            · go_wp2_with fail
              go_roundw
              case rel => exact ⟨k + 1, by omega, by go_num, by rw [← HR.out]; exact hf, by rw [← HR.out]; exact HO.out, hB2⟩
              case measure => simp [intOf]; omega
            · have HF := Lib.hid (show rPowerDigits1 a n b = false by rw [HE.out]; exact pow_over hb2 hlt (by rw [← HR.out]; exact hf))
              go_wp2_with fail
              go_ret2
              exact HNO.out _ hB2 HF.out
          · have hkn : k = n := by omega
            subst hkn
            have HF := Lib.hid (show rPowerDigits1 a k b = true by rw [HE.out]; exact decide_eq_true h60)
            have HF0 := Lib.hid (show rPowerDigits0 a k b = dg b (A ^ k) by rw [HE0.out true (by rw [← HE.out, HF.out])]; rfl)
            have HO := Lib.hid hown
            clear hown
            go_wp2_with fail
            go_ret2
            exact ⟨_, by rw [HF.out]; rfl, by rw [HF0.out]; exact HO.out, hB⟩

end Go.Proofs.Ytdflpocnfodbhab
