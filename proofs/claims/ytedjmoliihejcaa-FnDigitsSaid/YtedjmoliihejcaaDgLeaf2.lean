/- Digits: the model's functions with more arguments or two answers. -/
import Derived.Test.YtedjmoliihejcaaDgLeaf
set_option linter.unusedVariables false
namespace Go.Proofs.Ytedjmoliihejcaa
open Go.ChangeShapes Go.WideShapes Go.ChangeAt Go.RowKit

set_option maxHeartbeats 2000000 in
theorem specReverseNumber_any (n b : Int) (w : World) (hn : in64 n) (hb : in64 b) :
    Calls Try.prog 36 #[.int .i64 n, .int .i64 b] w fun e w' => e = .returned (.tuple #[.int .i64 (rReverseNumber0 n b), .bool (rReverseNumber1 n b)]) ∧ Below w.heap.size w w' := by
  cases h : okN n b
  · have HC := Lib.hid (fun W => specOk_any n b W hn hb)
    rw [h] at HC
    rw [show rReverseNumber0 n b = 0 by simp [rReverseNumber0, h], show rReverseNumber1 n b = false by simp [rReverseNumber1, h]]
    clear h hn hb
    go_enter Try.func36, Try.ntmps36
    go_wp2_with (go_at_call 50; refine (HC.out _).mono ?_; rintro e w' ⟨rfl, rfl⟩)
    go_ret2
    exact ⟨rfl, Below.refl _ _⟩
  · have HC := Lib.hid (fun W => specOk_any n b W hn hb)
    rw [h] at HC
    obtain ⟨n, b, rfl, rfl, hb2, hb16, hn12⟩ := okN_nats h
    obtain ⟨R, hR⟩ : ∃ R, R = (dg b n).reverse := ⟨_, rfl⟩
    have H0 := Lib.hid (show rReverseNumber0 n b = if hv b R ≤ 1000000000000 then hv b R else 0 by rw [rReverseNumber0, if_pos h, hR]; rfl)
    have H1 := Lib.hid (show rReverseNumber1 n b = decide (hv b R ≤ 1000000000000) by rw [rReverseNumber1, h, Bool.true_and, hR]; rfl)
    have h40 := dg_len40 hb2 hn12
    have hRl : R.length ≤ 60 := by rw [hR, List.length_reverse]; omega
    have hRd : ∀ d ∈ R, 0 ≤ d ∧ d ≤ (b : Int) - 1 := fun d hd => dg_digits hb2 n n (Nat.le_refl _) d (by rw [hR] at hd; exact List.mem_reverse.1 hd)
    have hv0 : 0 ≤ hv b R := hv_nonneg (by omega) _ (fun d hd => (hRd d hd).1)
    have HRd := Lib.hid hRd
    have HR := Lib.hid hR
    clear h hn hb hRd hR
    go_enter Try.func36, Try.ntmps36
    go_wp2_with fail
    refine (HC.out _).mono ?_
    rintro e w' ⟨rfl, rfl⟩
    go_wp2_with fail
    refine (specDigits_any n b _ hb2 hb16 hn12).mono ?_
    rintro e w1 ⟨v, rfl, hown, hB⟩
    go_wp2_with fail
    have CT := Lib.hid (specTurn_any _ _ _ (RowAt.of_owns hown) (by omega))
    rw [← HR.out] at CT
    refine CT.out.mono ?_
    clear CT
    rintro e w2 ⟨v2, rfl, hown2, hB2⟩
    go_wp2_with fail
    refine (specValue_any _ R b _ (RowAt.of_owns hown2) (by omega) (by omega) hRl HRd.out).mono ?_
    rintro e w3 ⟨rfl, rfl⟩
    have hBB := hB.trans (hB2.mono hB.size)
    by_cases hle : hv b R ≤ 1000000000000
    · have HA := Lib.hid (show rReverseNumber0 n b = hv b R by rw [H0.out, if_pos hle])
      have HB := Lib.hid (show rReverseNumber1 n b = true by rw [H1.out, decide_eq_true hle])
      rw [show capV (hv b R) = hv b R by rw [capV, if_pos hle]]
      clear hown hown2 hB hB2
      go_wp2
      go_ret2
      exact ⟨by rw [HA.out, HB.out]; rfl, hBB⟩
    · have HA := Lib.hid (show rReverseNumber0 n b = 0 by rw [H0.out, if_neg hle])
      have HB := Lib.hid (show rReverseNumber1 n b = false by rw [H1.out, decide_eq_false hle])
      rw [show capV (hv b R) = -1 by rw [capV, if_neg hle]]
      clear hown hown2 hB hB2
      go_wp2
      go_ret2
      exact ⟨by rw [HA.out, HB.out]; rfl, hBB⟩

set_option maxHeartbeats 2000000 in
theorem specValueOf_any (v : Value) (l : List Int) (b : Int) (w : World) (hr : RowAt w v (intsOf l)) (hl : l.length ≤ 1048576) (hi : ∀ n ∈ l, in64 n) (hb : in64 b) :
    Calls Try.prog 32 #[v, .int .i64 b] w fun e w' => e = .returned (.tuple #[.int .i64 (rValueOf0 l b), .bool (rValueOf1 l b)]) ∧ Below w.heap.size w w' := by
  have HC := Lib.hid (specDigitsOk_any v l b w hr hl hi hb)
  cases h : okD l b
  · rw [h] at HC
    rw [show rValueOf0 l b = 0 by simp [rValueOf0, h], show rValueOf1 l b = false by simp [rValueOf1, h]]
    clear h hi hb hr
    go_enter Try.func32, Try.ntmps32
    go_wp2_with fail
    refine HC.out.mono ?_
    rintro e w' ⟨rfl, rfl⟩
    go_wp2
    go_ret2
    exact ⟨rfl, Below.refl _ _⟩
  · rw [h] at HC
    obtain ⟨⟨hb2, hb16⟩, hl60, hd, _⟩ := okD_yes h
    have hv0 : 0 ≤ hv b l := hv_nonneg (by omega) _ (fun d hx => (hd d hx).1)
    have HV := Lib.hid (specValue_any v l b w hr hb2 hb16 hl60 hd)
    have H0 := Lib.hid (show rValueOf0 l b = if hv b l ≤ 1000000000000 then hv b l else 0 by rw [rValueOf0, if_pos h])
    have H1 := Lib.hid (show rValueOf1 l b = decide (hv b l ≤ 1000000000000) by rw [rValueOf1, h, Bool.true_and])
    clear h hi hb hr hd
    go_enter Try.func32, Try.ntmps32
    go_wp2_with fail
    refine HC.out.mono ?_
    rintro e w' ⟨rfl, rfl⟩
    go_wp2_with fail
    refine HV.out.mono ?_
    rintro e w' ⟨rfl, rfl⟩
    by_cases hle : hv b l ≤ 1000000000000
    · have HA := Lib.hid (show rValueOf0 l b = hv b l by rw [H0.out, if_pos hle])
      have HB := Lib.hid (show rValueOf1 l b = true by rw [H1.out, decide_eq_true hle])
      rw [show capV (hv b l) = hv b l by rw [capV, if_pos hle]]
      go_wp2
      go_ret2
      exact ⟨by rw [HA.out, HB.out]; rfl, Below.refl _ _⟩
    · have HA := Lib.hid (show rValueOf0 l b = 0 by rw [H0.out, if_neg hle])
      have HB := Lib.hid (show rValueOf1 l b = false by rw [H1.out, decide_eq_false hle])
      rw [show capV (hv b l) = -1 by rw [capV, if_neg hle]]
      go_wp2
      go_ret2
      exact ⟨by rw [HA.out, HB.out]; rfl, Below.refl _ _⟩

set_option maxHeartbeats 2000000 in
theorem specDigitAt_any (n b k : Int) (w : World) (hn : in64 n) (hb : in64 b) (hk : in64 k) :
    Calls Try.prog 34 #[.int .i64 n, .int .i64 b, .int .i64 k] w fun e w' => e = .returned (.int .i64 (rDigitAt0 n b k)) ∧ Below w.heap.size w w' := by
  have HC := Lib.hid (fun W => specOk_any n b W hn hb)
  have HI := Lib.hid (fun W => sIn_any k 0 59 W)
  cases h : okN n b
  · rw [h] at HC
    rw [show rDigitAt0 n b k = -1 by simp [rDigitAt0, h]]
    clear h hn hb
    go_enter Try.func34, Try.ntmps34
    go_wp2_with (go_at_call 50; refine (HC.out _).mono ?_; rintro e w' ⟨rfl, rfl⟩)
    go_ret
    exact ⟨rfl, Below.refl _ _⟩
  · rw [h] at HC
    cases hin : inB k 0 59
    · rw [hin] at HI
      rw [show rDigitAt0 n b k = -1 by simp [rDigitAt0, hin]]
      clear h hn hb hin
      go_enter Try.func34, Try.ntmps34
      go_wp2_with fail
      refine (HC.out _).mono ?_
      rintro e w' ⟨rfl, rfl⟩
      go_wp2_with fail
      refine (HI.out _).mono ?_
      rintro e w' ⟨rfl, rfl⟩
      go_wp2
      go_ret
      exact ⟨rfl, Below.refl _ _⟩
    · rw [hin] at HI
      obtain ⟨n, b, rfl, rfl, hb2, hb16, hn12⟩ := okN_nats h
      obtain ⟨hk0, hk59⟩ := inB_yes hin
      obtain ⟨k, rfl⟩ : ∃ k' : Nat, k = k' := ⟨k.toNat, by omega⟩
      have HE := Lib.hid (show rDigitAt0 n b k = (dg b n).getD k 0 by rw [rDigitAt0, h, hin]; rfl)
      have h40 := dg_len40 hb2 hn12
      clear h hn hb hin hk
      obtain ⟨R, hR⟩ : ∃ R, R = dg b n := ⟨_, rfl⟩
      have HD := Lib.hid (fun W => specDigits_any n b W hb2 hb16 hn12)
      rw [← hR] at HE HD h40
      clear hR
      go_enter Try.func34, Try.ntmps34
      go_wp2_with fail
      refine (HC.out _).mono ?_
      rintro e w' ⟨rfl, rfl⟩
      go_wp2_with fail
      refine (HI.out _).mono ?_
      rintro e w' ⟨rfl, rfl⟩
      go_wp2_with fail
      refine (HD.out _).mono ?_
      rintro e w1 ⟨v, rfl, hown, hB⟩
      obtain ⟨a, cap, rfl, h1, h2, h3⟩ := (RowAt.of_owns hown).ints
      by_cases hlt : k < R.length
      · obtain ⟨b', off, rfl, hbb, hcell⟩ := h3.resolve_left (fun e => by rw [e] at hlt; simp at hlt)
        have hc := hcell k hlt
        have HG := Lib.hid (show R.getD k 0 = R[k] by rw [List.getD_eq_getElem?_getD, List.getElem?_eq_getElem hlt]; rfl)
        clear h3 hcell hown
        go_wp2
        go_ret
        exact ⟨by rw [HE.out, HG.out]; rfl, hB⟩
      · have HG := Lib.hid (show R.getD k 0 = 0 by rw [List.getD_eq_getElem?_getD, List.getElem?_eq_none (by omega)]; rfl)
        clear h3 hown
        go_wp2
        go_ret
        exact ⟨by rw [HE.out, HG.out]; rfl, hB⟩

end Go.Proofs.Ytedjmoliihejcaa
