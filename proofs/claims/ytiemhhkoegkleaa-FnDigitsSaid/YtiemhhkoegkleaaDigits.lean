/- The law on digits: they are the places of a number, and reversed digits have the same sum. -/
import Derived.Test.YtiemhhkoegkleaaDgDraw
import Derived.Test.YtiemhhkoegkleaaDgM
import Derived.Test.YtiemhhkoegkleaaDgFmtI
set_option linter.unusedVariables false
set_option linter.unusedSimpArgs false
set_option maxRecDepth 100000
namespace Go.Proofs.Ytiemhhkoegkleaa
open Go.ChangeShapes Go.WideShapes Go.ChangeAt Go.RowKit

/-- what the functions answer at a number and a base that are valid -/
theorem at_ok {n b : Nat} (hb : 2 ≤ b) (hb16 : b ≤ 16) (hn : n ≤ 1000000000000) : okN (n : Int) (b : Int) = true := by
  simp only [okN, Bool.and_eq_true, okB, inB, decide_eq_true_eq]
  omega
theorem at_of {n b : Nat} (hb : 2 ≤ b) (hb16 : b ≤ 16) (hn : n ≤ 1000000000000) : rDigitsOf0 (n : Int) (b : Int) = dg b n := by
  rw [rDigitsOf0, if_pos (at_ok hb hb16 hn)]; rfl
theorem at_count {n b : Nat} (hb : 2 ≤ b) (hb16 : b ≤ 16) (hn : n ≤ 1000000000000) : rCountDigits0 (n : Int) (b : Int) = (dg b n).length := by
  rw [rCountDigits0, if_pos (at_ok hb hb16 hn)]; rfl
theorem at_sum {n b : Nat} (hb : 2 ≤ b) (hb16 : b ≤ 16) (hn : n ≤ 1000000000000) : rDigitSum0 (n : Int) (b : Int) = (dg b n).sum := by
  rw [rDigitSum0, if_pos (at_ok hb hb16 hn)]; rfl
theorem at_value {n b : Nat} (hb : 2 ≤ b) (hb16 : b ≤ 16) (hn : n ≤ 1000000000000) : rValueOf0 (dg b n) (b : Int) = n ∧ rValueOf1 (dg b n) (b : Int) = true := by
  have h := okD_dg hb hb16 hn
  have e := hv_dg hb n n (Nat.le_refl _)
  have hle : hv (b : Int) (dg b n) ≤ 1000000000000 := by rw [e]; omega
  constructor
  · rw [rValueOf0, if_pos h, if_pos hle, e]
  · rw [rValueOf1, h, decide_eq_true hle]; rfl
theorem at_digit {n b : Nat} (hb : 2 ≤ b) (hb16 : b ≤ 16) (hn : n ≤ 1000000000000) {k : Nat} (hk : k < (dg b n).length) : rDigitAt0 (n : Int) (b : Int) (k : Int) = (dg b n)[k] := by
  have h40 := dg_len40 hb hn
  rw [rDigitAt0, if_pos (by rw [at_ok hb hb16 hn, Bool.true_and]; simp only [inB, Bool.and_eq_true, decide_eq_true_eq]; omega)]
  simp only [Int.toNat_natCast]
  rw [List.getD_eq_getElem?_getD, List.getElem?_eq_getElem hk]; rfl
theorem at_digit59 {n b : Nat} (hb : 2 ≤ b) (hb16 : b ≤ 16) (hn : n ≤ 1000000000000) : rDigitAt0 (n : Int) (b : Int) 59 = 0 := by
  have h40 := dg_len40 hb hn
  rw [rDigitAt0, if_pos (by rw [at_ok hb hb16 hn, Bool.true_and]; rfl)]
  rw [List.getD_eq_getElem?_getD, List.getElem?_eq_none (by simp; omega)]; rfl
/-- the reversed number, where there is one -/
theorem at_rev {n b : Nat} (hb : 2 ≤ b) (hb16 : b ≤ 16) (hn : n ≤ 1000000000000) :
    (rReverseNumber1 (n : Int) (b : Int) = false ∧ rReverseNumber0 (n : Int) (b : Int) = 0) ∨
    ∃ r : Nat, r ≤ 1000000000000 ∧ r = (hv b (dg b n).reverse).toNat ∧ rReverseNumber1 (n : Int) (b : Int) = true ∧ rReverseNumber0 (n : Int) (b : Int) = r := by
  have hA : AllD b (dg b n) := dg_digits hb n n (Nat.le_refl _)
  have h0 := hv_nonneg' (allD_reverse hA)
  have ok := at_ok hb hb16 hn
  by_cases hle : hv (b : Int) (dg b n).reverse ≤ 1000000000000
  · refine .inr ⟨_, ?_, rfl, ?_, ?_⟩
    · omega
    · rw [rReverseNumber1, ok, Bool.true_and]; exact decide_eq_true hle
    · rw [rReverseNumber0, if_pos ok]
      show (if hv (b : Int) (dg b n).reverse ≤ 1000000000000 then hv (b : Int) (dg b n).reverse else 0) = _
      rw [if_pos hle]; omega
  · refine .inl ⟨?_, ?_⟩
    · rw [rReverseNumber1, ok, Bool.true_and]; exact decide_eq_false hle
    · rw [rReverseNumber0, if_pos ok]
      show (if hv (b : Int) (dg b n).reverse ≤ 1000000000000 then hv (b : Int) (dg b n).reverse else 0) = _
      rw [if_neg hle]
theorem at_back {n b r : Nat} (hb : 2 ≤ b) (hb16 : b ≤ 16) (hn : n ≤ 1000000000000) (hr : r ≤ 1000000000000) (e : r = (hv b (dg b n).reverse).toNat) (h : n % b ≠ 0) :
    rReverseNumber1 (r : Int) (b : Int) = true ∧ rReverseNumber0 (r : Int) (b : Int) = n := by
  have hd : dg b r = (dg b n).reverse := by rw [e]; exact rev_back hb h
  have hv' : hv (b : Int) (dg b r).reverse = n := by rw [hd, List.reverse_reverse]; exact hv_dg hb n n (Nat.le_refl _)
  rcases at_rev hb hb16 hr with ⟨h1, _⟩ | ⟨q, hq, e1, h1, h2⟩
  · rw [rReverseNumber1, at_ok hb hb16 hr, Bool.true_and] at h1
    have := of_decide_eq_false h1
    simp only [Int.toNat_natCast] at this
    rw [hv'] at this; omega
  · exact ⟨h1, by rw [h2, e1, hv']; simp⟩
theorem at_text {n b : Nat} (hb : 2 ≤ b) (hb16 : b ≤ 16) (hn : n ≤ 1000000000000) : (rFormatDigits0 (dg b n) (b : Int)).size = max 1 (dg b n).length := by
  rw [rFormatDigits0, if_pos (okD_dg hb hb16 hn)]
  split
  · rename_i h; rw [h, bs_size]; rfl
  · rename_i h
    rw [bs_size, txt_length]
    have : (dg b n).length ≠ 0 := fun e => h (List.eq_nil_of_length_eq_zero e)
    omega

set_option maxRecDepth 100000 in
set_option maxHeartbeats 8000000 in
theorem lawDigits (W : World) (a : Option Addr) (len cap : Nat) (zs : List Int) (hz : IsRow .u8 W a len cap zs) :
    Calls Try.prog 3 #[.slice a len cap] W fun e w' => e = .returned (.bool true) ∧ Below W.heap.size W w' := by
  have hv := bytesAt_of hz
  have HV := Lib.hid hv
  have hlen : len ≤ 9223372036854775807 := by
    obtain ⟨_, n, c, zs', e, h1, h2, _⟩ := hv
    injection e with _ e1 _
    unfold maxLen at h2; omega
  clear hz hv
  by_cases hbig : 1048576 < len
  · go_enter Try.func3, Try.ntmps3
    go_wp2
    go_ret
    exact ⟨rfl, Below.refl _ _⟩
  · go_enter Try.func3, Try.ntmps3
    go_wp2_with fail
    refine (makeNumber_any _ 0 _ HV.out (by omega)).mono ?_
    rintro e w1 ⟨n, ⟨hn0, hn1⟩, rfl, b1⟩
    go_wp2_with fail
    refine (makeBase_any _ 10 _ (HV.out.below b1) (by omega)).mono ?_
    rintro e w2 ⟨b, ⟨hb0, hb1⟩, rfl, c2⟩
    have b2 := b1.trans (c2.mono b1.size)
    obtain ⟨n, rfl⟩ : ∃ m : Nat, n = m := ⟨n.toNat, by omega⟩
    obtain ⟨b, rfl⟩ : ∃ m : Nat, b = m := ⟨b.toNat, by omega⟩
    have hb2 : 2 ≤ b := by omega
    have hb16 : b ≤ 16 := by omega
    have hn : n ≤ 1000000000000 := by omega
    have IN := Lib.hid (show in64 n by unfold in64; omega)
    have IB := Lib.hid (show in64 b by unfold in64; omega)
    have h40 := dg_len40 hb2 hn
    obtain ⟨R, hR⟩ : ∃ R, R = dg b n := ⟨_, rfl⟩
    have HR := Lib.hid hR
    have E0 := Lib.hid (at_of hb2 hb16 hn)
    have E1 := Lib.hid (at_value hb2 hb16 hn)
    have E3 := Lib.hid (at_count hb2 hb16 hn)
    have E4 := Lib.hid (okD_dg hb2 hb16 hn)
    have E6 := Lib.hid (fun k hk => at_digit hb2 hb16 hn (k := k) hk)
    have E8 := Lib.hid (at_sum hb2 hb16 hn)
    have E9 := Lib.hid (at_digit59 hb2 hb16 hn)
    have E12 := Lib.hid (at_text hb2 hb16 hn)
    have hdig : ∀ d ∈ R, 0 ≤ d ∧ d ≤ 15 := fun d hd => by
      have := dg_digits hb2 n n (Nat.le_refl _) d (by rw [← hR]; exact hd); omega
    rw [← hR] at h40 E0 E1 E3 E4 E8 E12
    have E6' := Lib.hid (show ∀ (k : Nat) (hk : k < R.length), rDigitAt0 (n : Int) (b : Int) (k : Int) = R[k] by
      subst hR; exact E6.out)
    have HD := Lib.hid hdig
    have HI := Lib.hid (show ∀ d ∈ R, in64 d from fun d hd => by have := hdig d hd; unfold in64; omega)
    clear hR hdig E6
    have HN := Lib.hid hn
    clear hn0 hn1 hb0 hb1 hn b1 c2
    go_wp2_with fail
    refine (implDigitsOf_any _ _ _ IN.out IB.out).mono ?_
    rw [E0.out]
    rintro e w3 ⟨v, rfl, o3, c3⟩
    have b3 := b2.trans (c3.mono b2.size)
    have HRow3 := Lib.hid (RowAt.of_owns o3)
    obtain ⟨av, capv, rfl, hv1, hv2, hv3⟩ := (RowAt.of_owns o3).ints
    clear hv3 o3 c3 b2
    go_wp2_with fail
    refine (implValueOf_any _ R _ _ HRow3.out (by omega) HI.out IB.out).mono ?_
    rw [E1.out.1, E1.out.2]
    rintro e w4 ⟨rfl, c4⟩
    have b4 := b3.trans (c4.mono b3.size)
    have HRow4 := Lib.hid (HRow3.out.below c4)
    clear c4 b3 HRow3
    go_wp2_with fail
    refine (implCountDigits_any _ _ _ IN.out IB.out).mono ?_
    rw [E3.out]
    rintro e w5 ⟨rfl, c5⟩
    have b5 := b4.trans (c5.mono b4.size)
    have HRow5 := Lib.hid (HRow4.out.below c5)
    clear c5 b4 HRow4
    go_wp2_with fail
    refine (implDigitsOk_any _ R _ _ HRow5.out (by omega) HI.out IB.out).mono ?_
    rw [E4.out]
    rintro e w6 ⟨rfl, rfl⟩
    go_wp2_with fail
    refine (implBaseOk_any _ _ IB.out).mono ?_
    rw [okB_mk ⟨by omega, by omega⟩]
    rintro e w6 ⟨rfl, rfl⟩
    go_wp2_with fail
    go_loopw [8, 59] (fun t i wr => ∃ k : Nat, k ≤ R.length ∧ i = .int .i64 k ∧ t = .int .i64 (R.take k).sum ∧ Below W.heap.size W wr ∧ RowAt wr (.slice av R.length capv) (intsOf R)) (fun _ i _ => R.length - (intOf i).toNat)
    case atStart => exact ⟨0, Nat.zero_le _, rfl, rfl, b5, HRow5.out⟩
    case round =>
      obtain ⟨k, hk, rfl, rfl, hB, hrow⟩ := hrel
      clear b5 HRow5
      by_cases hlt : k < R.length
      · have hrow' := hrow.ints
        obtain ⟨a', cap', e', _, _, h3⟩ := hrow'
        injection e' with e1 e2 e3
        subst e1 e3
        obtain ⟨b', off, rfl, hbb, hcell⟩ := h3.resolve_left (fun e => by rw [e] at hlt; simp at hlt)
        have hc := hcell k hlt
        have hdk := HD.out _ (List.getElem_mem hlt)
        obtain ⟨s0, s1⟩ := sum_take_bound HD.out k hk
        have HX := Lib.hid (show (R.take k).sum + R[k] = (R.take (k + 1)).sum by
          rw [List.take_succ_eq_append_getElem hlt, List.sum_append]; simp)
        have HRW := Lib.hid hrow
        have E6k := Lib.hid (E6'.out k hlt)
        clear h3 hcell hrow
        go_wp2_with fail
        refine (implDigitAt_any _ _ _ _ IN.out IB.out (by unfold in64; omega)).mono ?_
        rw [E6k.out]
        rintro e w7 ⟨rfl, c7⟩
        have HR7 := Lib.hid (HRW.out.below c7)
        have b7 := hB.trans (c7.mono hB.size)
        clear hB c7 hc
        go_wp2_with fail
        go_roundw
        case rel => exact ⟨k + 1, by omega, by go_num, by rw [HX.out], b7, HR7.out⟩
        case measure => simp [intOf]; omega
      · have hkl : k = R.length := by omega
        subst hkl
        rw [List.take_length]
        have HRW := Lib.hid hrow
        obtain ⟨t0, t1⟩ := sum_take_bound HD.out R.length (Nat.le_refl _)
        rw [List.take_length] at t0 t1
        obtain ⟨t, ht⟩ : ∃ t, t = R.sum := ⟨_, rfl⟩
        rw [← ht] at t0 t1 E8 ⊢
        have HT := Lib.hid ht
        clear hrow ht
        go_wp2_with fail
        refine (implReverseNumber_any _ _ _ IN.out IB.out).mono ?_
        rintro e w7 ⟨rfl, c7⟩
        have HR7 := Lib.hid (HRW.out.below c7)
        have b7 := hB.trans (c7.mono hB.size)
        clear hB c7 HRW
        have hb1 : (0 : Int) < b := by omega
        -- the last part: the text, after the second reversal
        have HF := Lib.hid (fun (w : World) (hw : RowAt w (.slice av R.length capv) (intsOf R)) => implFormatDigits_any _ R _ w hw (by omega) HI.out IB.out)
        rcases at_rev hb2 hb16 HN.out with ⟨r1, r0⟩ | ⟨r, hr, er, r1, r0⟩
        · rw [r1, r0]
          clear r1 r0
          go_wp2_with fail
          refine (implDigitSum_any _ _ _ IN.out IB.out).mono ?_
          rw [E8.out]
          rintro e w8 ⟨rfl, c8⟩
          have HR8 := Lib.hid (HR7.out.below c8)
          have b8 := b7.trans (c8.mono b7.size)
          clear c8 b7 HR7
          go_wp2_with fail
          refine (implDigitAt_any _ _ _ _ IN.out IB.out (by unfold in64; omega)).mono ?_
          rw [E9.out]
          rintro e w9 ⟨rfl, c9⟩
          have HR9 := Lib.hid (HR8.out.below c9)
          have b9 := b8.trans (c9.mono b8.size)
          clear c9 b8 HR8
          go_wp2_with fail
          refine (implReverseNumber_any _ _ _ (by unfold in64; omega) IB.out).mono ?_
          obtain ⟨y, hy⟩ : ∃ y, y = rReverseNumber0 0 (b : Int) := ⟨_, rfl⟩
          obtain ⟨q, hq⟩ : ∃ q, q = rReverseNumber1 0 (b : Int) := ⟨_, rfl⟩
          rw [← hy, ← hq]
          clear hy hq
          rintro e w10 ⟨rfl, c10⟩
          have HR10 := Lib.hid (HR9.out.below c10)
          have b10 := b9.trans (c10.mono b9.size)
          clear c10 b9 HR9
          go_wp2_with fail
          refine (HF.out _ HR10.out).mono ?_
          rintro e w11 ⟨rfl, c11⟩
          have b11 := b10.trans (c11.mono b10.size)
          have E := E12.out
          clear c11 b10
          go_wp2_with fail
          go_ret
          exact ⟨ret_bool (by simp; omega), b11⟩
        · have F1 := Lib.hid (at_sum hb2 hb16 hr)
          have F2 := Lib.hid (at_count hb2 hb16 hr)
          have F3 := Lib.hid (show (dg b r).sum = t by rw [er, rev_sum hb2, HT.out, HR.out])
          rw [F3.out] at F1
          have F4 := Lib.hid (rev_len (b := b) (n := n) hb2)
          rw [← er, ← HR.out] at F4
          have F5 := Lib.hid (at_back hb2 hb16 HN.out hr er)
          have IR := Lib.hid (show in64 (r : Int) by unfold in64; omega)
          have hr40 := dg_len40 hb2 hr
          obtain ⟨m, hm⟩ : ∃ m, m = (dg b r).length := ⟨_, rfl⟩
          rw [← hm] at F2 F4 hr40
          rw [r1, r0]
          have hmod : ((n : Int) % b) = ((n % b : Nat) : Int) := rfl
          have HMOD := Lib.hid hmod
          clear r1 r0 er hm F3 hmod
          go_wp2_with fail
          refine (implDigitSum_any _ _ _ IN.out IB.out).mono ?_
          rw [E8.out]
          rintro e w8 ⟨rfl, c8⟩
          have HR8 := Lib.hid (HR7.out.below c8)
          have b8 := b7.trans (c8.mono b7.size)
          clear c8 b7 HR7
          go_wp2_with fail
          refine (implDigitAt_any _ _ _ _ IN.out IB.out (by unfold in64; omega)).mono ?_
          rw [E9.out]
          rintro e w9 ⟨rfl, c9⟩
          have HR9 := Lib.hid (HR8.out.below c9)
          have b9 := b8.trans (c9.mono b8.size)
          clear c9 b8 HR8
          go_wp2_with fail
          refine (implDigitSum_any _ _ _ IR.out IB.out).mono ?_
          rw [F1.out]
          rintro e w10 ⟨rfl, c10⟩
          have HR10 := Lib.hid (HR9.out.below c10)
          have b10 := b9.trans (c10.mono b9.size)
          clear c10 b9 HR9
          by_cases hz : n % b = 0
          · have hzi : (n : Int) % b = 0 := by rw [HMOD.out, hz]; rfl
            by_cases h0 : n = 0
            · have hi0 : ((n : Int) == 0) = true := by simp [h0]
              have hml : m = R.length := F4.out.1 (.inr h0)
              have hmq : ((m : Int) == (R.length : Int)) = true := by simp [hml]
              clear hml h0 hz
              go_wp2_with fail
              refine (implCountDigits_any _ _ _ IR.out IB.out).mono ?_
              rw [F2.out]
              rintro e w11 ⟨rfl, c11⟩
              have HR11 := Lib.hid (HR10.out.below c11)
              have b11 := b10.trans (c11.mono b10.size)
              clear c11 b10 HR10
              go_wp2_with fail
              refine (implReverseNumber_any _ _ _ IR.out IB.out).mono ?_
              obtain ⟨y, hy⟩ : ∃ y, y = rReverseNumber0 (r : Int) (b : Int) := ⟨_, rfl⟩
              obtain ⟨q, hq⟩ : ∃ q, q = rReverseNumber1 (r : Int) (b : Int) := ⟨_, rfl⟩
              rw [← hy, ← hq]
              clear hy hq
              rintro e w12 ⟨rfl, c12⟩
              have HR12 := Lib.hid (HR11.out.below c12)
              have b12 := b11.trans (c12.mono b11.size)
              clear c12 b11 HR11
              go_wp2_with fail
              refine (HF.out _ HR12.out).mono ?_
              rintro e w13 ⟨rfl, c13⟩
              have b13 := b12.trans (c13.mono b12.size)
              have E := E12.out
              clear c13 b12
              go_wp2_with fail
              go_ret
              exact ⟨ret_bool (by simp; omega), b13⟩
            · have hi0 : ((n : Int) == 0) = false := by simp [h0]
              have hi1 : ¬ (n : Int) = 0 := by omega
              have hml : m ≠ R.length := fun e => (F4.out.2 e).elim (fun h => h hz) h0
              have hmq : ((m : Int) == (R.length : Int)) = false := by simp; omega
              clear hml h0 hz
              go_wp2_with fail
              refine (implCountDigits_any _ _ _ IR.out IB.out).mono ?_
              rw [F2.out]
              rintro e w11 ⟨rfl, c11⟩
              have HR11 := Lib.hid (HR10.out.below c11)
              have b11 := b10.trans (c11.mono b10.size)
              clear c11 b10 HR10
              go_wp2_with fail
              refine (implReverseNumber_any _ _ _ IR.out IB.out).mono ?_
              obtain ⟨y, hy⟩ : ∃ y, y = rReverseNumber0 (r : Int) (b : Int) := ⟨_, rfl⟩
              obtain ⟨q, hq⟩ : ∃ q, q = rReverseNumber1 (r : Int) (b : Int) := ⟨_, rfl⟩
              rw [← hy, ← hq]
              clear hy hq
              rintro e w12 ⟨rfl, c12⟩
              have HR12 := Lib.hid (HR11.out.below c12)
              have b12 := b11.trans (c12.mono b11.size)
              clear c12 b11 HR11
              go_wp2_with fail
              refine (HF.out _ HR12.out).mono ?_
              rintro e w13 ⟨rfl, c13⟩
              have b13 := b12.trans (c13.mono b12.size)
              have E := E12.out
              clear c13 b12
              go_wp2_with fail
              go_ret
              exact ⟨ret_bool (by simp; omega), b13⟩
          · have hzi : ¬ (n : Int) % b = 0 := by rw [HMOD.out]; omega
            have hml : m = R.length := F4.out.1 (.inl hz)
            have hmq : ((m : Int) == (R.length : Int)) = true := by simp [hml]
            have F6 := Lib.hid (F5.out hz)
            clear hml hz
            go_wp2_with fail
            refine (implCountDigits_any _ _ _ IR.out IB.out).mono ?_
            rw [F2.out]
            rintro e w11 ⟨rfl, c11⟩
            have HR11 := Lib.hid (HR10.out.below c11)
            have b11 := b10.trans (c11.mono b10.size)
            clear c11 b10 HR10
            go_wp2_with fail
            refine (implReverseNumber_any _ _ _ IR.out IB.out).mono ?_
            rw [F6.out.1, F6.out.2]
            rintro e w12 ⟨rfl, c12⟩
            have HR12 := Lib.hid (HR11.out.below c12)
            have b12 := b11.trans (c12.mono b11.size)
            clear c12 b11 HR11
            go_wp2_with fail
            refine (HF.out _ HR12.out).mono ?_
            rintro e w13 ⟨rfl, c13⟩
            have b13 := b12.trans (c13.mono b12.size)
            have E := E12.out
            clear c13 b12
            go_wp2_with fail
            go_ret
            exact ⟨ret_bool (by simp; omega), b13⟩

end Go.Proofs.Ytiemhhkoegkleaa
