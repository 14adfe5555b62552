/- The law on long numbers: sums, products, differences, quotients, roots, powers and conversions fit together. -/
import Derived.Test.YtdflpocnfodbhaaDgDraw
import Derived.Test.YtdflpocnfodbhaaLgDraw
import Derived.Test.YtdflpocnfodbhaaLgAt
set_option linter.unusedVariables false
set_option linter.unusedSimpArgs false
set_option maxRecDepth 100000
namespace Go.Proofs.Ytdflpocnfodbhaa
open Go.ChangeShapes Go.WideShapes Go.ChangeAt Go.RowKit

theorem AllRows.nil (w : World) : AllRows w [] := fun p hp => by simp at hp
theorem cmp_le {n m : Nat} (h : n ≤ m) : cmpN n m ≤ 0 := by
  unfold cmpN; split
  · omega
  · split <;> omega
theorem cmpN_gt {n m : Nat} (h : m < n) : cmpN n m = 1 := by
  unfold cmpN; rw [if_neg (by omega), if_pos h]
theorem toTen {va : Value} {X b : Nat} {w : World} (hb : 2 ≤ b) (hb16 : b ≤ 16) (hra : RowAt w va (intsOf (dg b X))) (h1 : (dg b X).length ≤ 7) :
    Calls Try.prog 35 #[va, .int .i64 b, .int .i64 10] w (Got (dg 10 X) w) :=
  convertAt (t := 10) hb hb16 (by omega) (by omega) hra (by omega) (by have := ten_len hb hb16 h1; omega)
theorem ofTen {va : Value} {X b : Nat} {w : World} (hb : 2 ≤ b) (hb16 : b ≤ 16) (hra : RowAt w va (intsOf (dg 10 X))) (h1 : (dg b X).length ≤ 7) :
    Calls Try.prog 35 #[va, .int .i64 10, .int .i64 b] w (Got (dg b X) w) :=
  convertAt (f := 10) (by omega) (by omega) hb hb16 hra (by have := ten_len hb hb16 h1; omega) (by omega)

/-- the literal 1, added -/
theorem litAt {va : Value} {X b : Nat} {w : World} (hb : 2 ≤ b) (hb16 : b ≤ 16) (hra : RowAt w va (intsOf (dg b X))) (h1 : (dg b X).length ≤ 7) (h2 : (dg b 1).length ≤ 7) :
    Calls Try.prog 27 #[va, .slice (some ⟨w.heap.size, 0, none⟩) 1 1, .int .i64 b] (w.alloc (.cells #[.int .i64 1] 3)) (Got (dg b (X + 1)) w) := by
  have hlit := World.ownsRow_lit (base := w.heap.size) (e := 3) (size := 1) w #[.int .i64 1] 1 (Nat.le_refl _) (by decide) rfl
  have hB := (Below.refl w.heap.size w).alloc (Nat.le_refl _) (.cells #[.int .i64 1] 3)
  have hr : RowAt (w.alloc (.cells #[.int .i64 1] 3)) (.slice (some ⟨w.heap.size, 0, none⟩) 1 1) (intsOf (dg b 1)) := by
    rw [dg_one hb]; exact RowAt.of_owns hlit
  refine (addAt hb hb16 (hra.below hB) hr h1 h2 (by omega)).mono ?_
  rintro e w' ⟨v, rfl, hr', hc⟩
  exact ⟨v, rfl, hr', hB.trans (hc.mono hB.size)⟩

set_option maxRecDepth 100000 in
set_option maxHeartbeats 16000000 in
theorem lawLong (W : World) (a : Option Addr) (len cap : Nat) (zs : List Int) (hz : IsRow .u8 W a len cap zs) :
    Calls Try.prog 4 #[.slice a len cap] W fun e w' => e = .returned (.bool true) ∧ Below W.heap.size W w' := by
  have hv := bytesAt_of hz
  have HV := Lib.hid hv
  have hlen : len ≤ 9223372036854775807 := by
    obtain ⟨_, n, c, zs', e, h1, h2, _⟩ := hv
    injection e with _ e1 _
    unfold maxLen at h2; omega
  clear hz hv
  by_cases hbig : 1048576 < len
  · go_enter Try.func4, Try.ntmps4
    go_wp2
    go_ret
    exact ⟨rfl, Below.refl _ _⟩
  · go_enter Try.func4, Try.ntmps4
    go_wp2_with fail
    refine (makeBase_any _ 0 _ HV.out (by omega)).mono ?_
    rintro e w1 ⟨b, ⟨hb0, hb1⟩, rfl, c1⟩
    obtain ⟨b, rfl⟩ : ∃ m : Nat, b = m := ⟨b.toNat, by omega⟩
    have hb2 : 2 ≤ b := by omega
    have hb16 : b ≤ 16 := by omega
    clear hb0 hb1
    go_wp2_with fail
    refine (makeLong_any _ 2 b _ (HV.out.below c1) (by omega) hb2 hb16).mono ?_
    rintro e w2 ⟨X, vx, hX, rfl, rx, hc⟩
    have c2 := c1.trans (hc.mono c1.size)
    have R2 := (AllRows.nil w2).cons rx
    clear c1 rx hc
    go_wp2_with fail
    refine (makeLong_any _ 14 b _ (HV.out.below c2) (by omega) hb2 hb16).mono ?_
    rintro e w3 ⟨Y, vy, hY, rfl, ry, hc⟩
    have c3 := c2.trans (hc.mono c2.size)
    have R3 := (R2.below hc).cons ry
    clear c2 ry hc R2
    go_wp2_with fail
    refine (makeLong_any _ 26 b _ (HV.out.below c3) (by omega) hb2 hb16).mono ?_
    rintro e w4 ⟨Z, vz, hZ, rfl, rz, hc⟩
    have b0 := c3.trans (hc.mono c3.size)
    obtain ⟨az, capz, rfl, hz1, hz2, _⟩ := rz.ints
    unfold maxLen at hz2
    have HR0 := Lib.hid ((R3.below hc).cons rz)
    clear c3 rz hc R3
    have LX := Lib.hid hX; have LY := Lib.hid hY; have LZ := Lib.hid hZ
    clear hX hY
    have LS := Lib.hid (add_len hb2 LX.out LY.out)
    have LU := Lib.hid (times_len hb2 LS.out LZ.out)
    have LV := Lib.hid (times_len hb2 LX.out LZ.out)
    have LW := Lib.hid (times_len hb2 LY.out LZ.out)
    have LH := Lib.hid (mono_len hb2 (isq_self_le X) LX.out)
    have L1 := Lib.hid (show (dg b 1).length ≤ 7 by rw [dg_one hb2]; decide)
    have LH1 := Lib.hid (add_len hb2 LH.out L1.out)
    have LK := Lib.hid (times_len hb2 LH.out LH.out)
    have LK1 := Lib.hid (times_len hb2 LH1.out LH1.out)
    have LYY := Lib.hid (times_len hb2 LY.out LY.out)
    have LY3 := Lib.hid (times_len hb2 LYY.out LY.out)
    have LQ := Lib.hid (mono_len hb2 (Nat.div_le_self X Y) LX.out)
    have LR := Lib.hid (mono_len hb2 (Nat.mod_le X Y) LX.out)
    have LP := Lib.hid (mono_len hb2 (Nat.div_mul_le_self X Y) LX.out)
    go_wp2_with fail
    refine (addAt hb2 hb16 (HR0.out.get 2 rfl) (HR0.out.get 1 rfl) LX.out LY.out (by omega)).mono ?_
    rintro e w' ⟨vs, rfl, hr0, hc⟩
    have HR1 := Lib.hid ((HR0.out.below hc).cons hr0)
    have b1 := b0.trans (hc.mono b0.size)
    clear HR0 b0 hc hr0
    go_wp2_with fail
    refine (timesAt hb2 hb16 (HR1.out.get 0 rfl) (HR1.out.get 1 rfl) LS.out LZ.out (by omega)).mono ?_
    rintro e w' ⟨vu, rfl, hr0, hc⟩
    have HR2 := Lib.hid ((HR1.out.below hc).cons hr0)
    have b2 := b1.trans (hc.mono b1.size)
    clear HR1 b1 hc hr0
    go_wp2_with fail
    refine (timesAt hb2 hb16 (HR2.out.get 4 rfl) (HR2.out.get 2 rfl) LX.out LZ.out (by omega)).mono ?_
    rintro e w' ⟨vv, rfl, hr0, hc⟩
    have HR3 := Lib.hid ((HR2.out.below hc).cons hr0)
    have b3 := b2.trans (hc.mono b2.size)
    clear HR2 b2 hc hr0
    go_wp2_with fail
    refine (timesAt hb2 hb16 (HR3.out.get 4 rfl) (HR3.out.get 3 rfl) LY.out LZ.out (by omega)).mono ?_
    rintro e w' ⟨vw, rfl, hr0, hc⟩
    have HR4 := Lib.hid ((HR3.out.below hc).cons hr0)
    have b4 := b3.trans (hc.mono b3.size)
    clear HR3 b3 hc hr0
    go_wp2_with fail
    have hC := addAt hb2 hb16 (HR4.out.get 1 rfl) (HR4.out.get 0 rfl) LV.out LW.out (by omega)
    rw [← Nat.add_mul] at hC
    refine hC.mono ?_
    rintro e w' ⟨vt, rfl, hr0, hc⟩
    have HR5 := Lib.hid ((HR4.out.below hc).cons hr0)
    have b5 := b4.trans (hc.mono b4.size)
    clear HR4 b4 hc hr0 hC
    go_wp2_with fail
    have hC := minusAt hb2 hb16 (HR5.out.get 4 rfl) (HR5.out.get 6 rfl) (by have := LS.out; omega) (Nat.le_add_left _ _)
    rw [Nat.add_sub_cancel] at hC
    refine hC.mono ?_
    rintro e w' ⟨vm, rfl, hr0, hc⟩
    have HR6 := Lib.hid ((HR5.out.below hc).cons hr0)
    have b6 := b5.trans (hc.mono b5.size)
    clear HR5 b5 hc hr0 hC
    go_wp2_with fail
    refine (sameAt (HR6.out.get 4 rfl) (HR6.out.get 1 rfl) (by have := LU.out; omega)).mono ?_
    rintro e w' ⟨rfl, rfl⟩
    go_wp2_with fail
    refine (sameAt (HR6.out.get 0 rfl) (HR6.out.get 8 rfl) (by have := LX.out; omega)).mono ?_
    rintro e w' ⟨rfl, rfl⟩
    go_wp2_with fail
    have hC := compareAt hb2 hb16 (HR6.out.get 5 rfl) (HR6.out.get 8 rfl) (by have := LS.out; omega) (by have := LX.out; omega)
    obtain ⟨zs, hz⟩ : ∃ z, z = cmpN (X + Y) X := ⟨_, rfl⟩
    rw [← hz] at hC
    have hzs : ¬ zs < 0 := by rw [hz]; exact cmp_sum X Y
    clear hz
    refine hC.mono ?_
    rintro e w' ⟨rfl, hc⟩
    clear hC
    have HR7 := Lib.hid (HR6.out.below hc)
    have b7 := b6.trans (hc.mono b6.size)
    clear HR6 b6 hc
    rcases Nat.eq_zero_or_pos Z with hZ0 | hZ0
    · have HZ0 := Lib.hid hZ0
      have hz0 : (dg b Z).length = 0 := by rw [HZ0.out, dg_zero]; rfl
      clear hZ0
      rw [hz0] at HR7 ⊢
      clear hz0 hz1 hZ
      go_wp2_with fail
      refine (divideNo hb2 hb16 (HR7.out.get 4 rfl) (HR7.out.get 6 rfl) (by have := LU.out; omega) (by have := LZ.out; omega) HZ0.out).mono ?_
      rintro e w' ⟨vq, vr, rfl, hc⟩
      have HR8 := Lib.hid (HR7.out.below hc)
      have b8 := b7.trans (hc.mono b7.size)
      clear HR7 b7 hc
      rcases Nat.eq_zero_or_pos Y with hY0 | hY0
      · have HY0 := Lib.hid hY0
        clear hY0
        go_wp2_with fail
        refine (divideNo hb2 hb16 (HR8.out.get 8 rfl) (HR8.out.get 7 rfl) (by have := LX.out; omega) (by have := LY.out; omega) HY0.out).mono ?_
        rintro e w' ⟨vq, vr, rfl, hc⟩
        have HR9 := Lib.hid (HR8.out.below hc)
        have b9 := b8.trans (hc.mono b8.size)
        clear HR8 b8 hc
        go_wp2_with fail
        refine (rootAt hb2 hb16 (HR9.out.get 8 rfl) (by have := LX.out; omega)).mono ?_
        rintro e w' ⟨vh, rfl, hr0, hc⟩
        have HR10 := Lib.hid ((HR9.out.below hc).cons hr0)
        have b10 := b9.trans (hc.mono b9.size)
        clear HR9 b9 hc hr0
        go_wp2_with fail
        refine (timesAt hb2 hb16 (HR10.out.get 0 rfl) (HR10.out.get 0 rfl) LH.out LH.out (by omega)).mono ?_
        rintro e w' ⟨vk, rfl, hr0, hc⟩
        have HR11 := Lib.hid ((HR10.out.below hc).cons hr0)
        have b11 := b10.trans (hc.mono b10.size)
        clear HR10 b10 hc hr0
        go_wp2_with fail
        refine (litAt hb2 hb16 (HR11.out.get 1 rfl) LH.out L1.out).mono ?_
        rintro e w' ⟨vh1, rfl, hr0, hc⟩
        have HR12 := Lib.hid ((HR11.out.below hc).cons hr0)
        have b12 := b11.trans (hc.mono b11.size)
        clear HR11 b11 hc hr0
        go_wp2_with fail
        refine (timesAt hb2 hb16 (HR12.out.get 0 rfl) (HR12.out.get 0 rfl) LH1.out LH1.out (by omega)).mono ?_
        rintro e w' ⟨vk1, rfl, hr0, hc⟩
        have HR13 := Lib.hid ((HR12.out.below hc).cons hr0)
        have b13 := b12.trans (hc.mono b12.size)
        clear HR12 b12 hc hr0
        go_wp2_with fail
        refine (powerAt hb2 hb16 (HR13.out.get 11 rfl) LY.out).mono ?_
        rintro e w' ⟨vp3, rfl, hr0, hc⟩
        have HR14 := Lib.hid ((HR13.out.below hc).cons hr0)
        have b14 := b13.trans (hc.mono b13.size)
        clear HR13 b13 hc hr0
        go_wp2_with fail
        refine (timesAt hb2 hb16 (HR14.out.get 12 rfl) (HR14.out.get 12 rfl) LY.out LY.out (by omega)).mono ?_
        rintro e w' ⟨vyy, rfl, hr0, hc⟩
        have HR15 := Lib.hid ((HR14.out.below hc).cons hr0)
        have b15 := b14.trans (hc.mono b14.size)
        clear HR14 b14 hc hr0
        go_wp2_with fail
        refine (timesAt hb2 hb16 (HR15.out.get 0 rfl) (HR15.out.get 13 rfl) LYY.out LY.out (by omega)).mono ?_
        rintro e w' ⟨vy3, rfl, hr0, hc⟩
        have HR16 := Lib.hid ((HR15.out.below hc).cons hr0)
        have b16 := b15.trans (hc.mono b15.size)
        clear HR15 b15 hc hr0
        go_wp2_with fail
        refine (toTen hb2 hb16 (HR16.out.get 15 rfl) LX.out).mono ?_
        rintro e w' ⟨vc, rfl, hr0, hc⟩
        have HR17 := Lib.hid ((HR16.out.below hc).cons hr0)
        have b17 := b16.trans (hc.mono b16.size)
        clear HR16 b16 hc hr0
        go_wp2_with fail
        refine (ofTen hb2 hb16 (HR17.out.get 0 rfl) LX.out).mono ?_
        rintro e w' ⟨ve, rfl, hr0, hc⟩
        have HR18 := Lib.hid ((HR17.out.below hc).cons hr0)
        have b18 := b17.trans (hc.mono b17.size)
        clear HR17 b17 hc hr0
        go_wp2_with fail
        have hC := compareAt hb2 hb16 (HR18.out.get 7 rfl) (HR18.out.get 17 rfl) (by have := LK.out; omega) (by have := LX.out; omega)
        obtain ⟨zk, hz⟩ : ∃ z, z = cmpN (isq X * isq X) X := ⟨_, rfl⟩
        rw [← hz] at hC
        have hzk : zk ≤ 0 := by rw [hz]; exact cmp_le (isq_le X)
        clear hz
        refine hC.mono ?_
        rintro e w' ⟨rfl, hc⟩
        clear hC
        have HR19 := Lib.hid (HR18.out.below hc)
        have b19 := b18.trans (hc.mono b18.size)
        clear HR18 b18 hc
        go_wp2_with fail
        have hC := compareAt hb2 hb16 (HR19.out.get 5 rfl) (HR19.out.get 17 rfl) (by have := LK1.out; omega) (by have := LX.out; omega)
        rw [cmpN_gt (isq_lt X)] at hC
        refine hC.mono ?_
        rintro e w' ⟨rfl, hc⟩
        clear hC
        have HR20 := Lib.hid (HR19.out.below hc)
        have b20 := b19.trans (hc.mono b19.size)
        clear HR19 b19 hc
        go_wp2_with fail
        refine (sameAt (HR20.out.get 4 rfl) (HR20.out.get 2 rfl) (by have := LY3.out; omega)).mono ?_
        rintro e w' ⟨rfl, rfl⟩
        go_wp2_with fail
        refine (sameAt (HR20.out.get 0 rfl) (HR20.out.get 17 rfl) (by have := LX.out; omega)).mono ?_
        rintro e w' ⟨rfl, rfl⟩
        obtain ⟨zb, hzb⟩ : ∃ z, z = cmpN Y X := ⟨_, rfl⟩
        have HZB := Lib.hid hzb
        have hzi : -1 ≤ zb ∧ zb ≤ 1 := by rw [hzb]; unfold cmpN; split <;> (try split) <;> omega
        obtain ⟨hzi0, hzi1⟩ := hzi
        clear hzb
        go_wp2_with fail
        have hC := compareAt hb2 hb16 (HR20.out.get 17 rfl) (HR20.out.get 16 rfl) (by have := LX.out; omega) (by have := LY.out; omega)
        rw [cmp_flip X Y, ← HZB.out] at hC
        refine hC.mono ?_
        rintro e w' ⟨rfl, hc⟩
        clear hC
        have HR21 := Lib.hid (HR20.out.below hc)
        have b21 := b20.trans (hc.mono b20.size)
        clear HR20 b20 hc
        go_wp2_with fail
        have hC := compareAt hb2 hb16 (HR21.out.get 16 rfl) (HR21.out.get 17 rfl) (by have := LY.out; omega) (by have := LX.out; omega)
        rw [← HZB.out] at hC
        refine hC.mono ?_
        rintro e w' ⟨rfl, hc⟩
        clear hC
        have HR22 := Lib.hid (HR21.out.below hc)
        have b22 := b21.trans (hc.mono b21.size)
        clear HR21 b21 hc
        go_wp2_with fail
        go_ret
        exact ⟨by first | rfl | exact ret_bool (by simp), b22⟩
      · have HY0 := Lib.hid hY0
        clear hY0
        go_wp2_with fail
        refine (divideAt hb2 hb16 (HR8.out.get 8 rfl) (HR8.out.get 7 rfl) (by have := LX.out; omega) (by have := LY.out; omega) (Nat.pos_iff_ne_zero.1 HY0.out)).mono ?_
        rintro e w' ⟨vq2, vr2, rfl, hr1, hr0, hc⟩
        have HR9 := Lib.hid (((HR8.out.below hc).cons hr1).cons hr0)
        have b9 := b8.trans (hc.mono b8.size)
        clear HR8 b8 hc hr0 hr1
        go_wp2_with fail
        refine (timesAt hb2 hb16 (HR9.out.get 1 rfl) (HR9.out.get 9 rfl) LQ.out LY.out (by omega)).mono ?_
        rintro e w' ⟨vp, rfl, hr0, hc⟩
        have HR10 := Lib.hid ((HR9.out.below hc).cons hr0)
        have b10 := b9.trans (hc.mono b9.size)
        clear HR9 b9 hc hr0
        go_wp2_with fail
        have hC := addAt hb2 hb16 (HR10.out.get 0 rfl) (HR10.out.get 1 rfl) LP.out LR.out (by omega)
        rw [Nat.div_add_mod'] at hC
        refine hC.mono ?_
        rintro e w' ⟨va, rfl, hr0, hc⟩
        have HR11 := Lib.hid ((HR10.out.below hc).cons hr0)
        have b11 := b10.trans (hc.mono b10.size)
        clear HR10 b10 hc hr0 hC
        go_wp2_with fail
        refine (sameAt (HR11.out.get 0 rfl) (HR11.out.get 12 rfl) (by have := LX.out; omega)).mono ?_
        rintro e w' ⟨rfl, rfl⟩
        go_wp2_with fail
        have hC := compareAt hb2 hb16 (HR11.out.get 2 rfl) (HR11.out.get 11 rfl) (by have := LR.out; omega) (by have := LY.out; omega)
        rw [cmp_lt (Nat.mod_lt X HY0.out)] at hC
        refine hC.mono ?_
        rintro e w' ⟨rfl, hc⟩
        clear hC
        have HR12 := Lib.hid (HR11.out.below hc)
        have b12 := b11.trans (hc.mono b11.size)
        clear HR11 b11 hc
        go_wp2_with fail
        refine (rootAt hb2 hb16 (HR12.out.get 12 rfl) (by have := LX.out; omega)).mono ?_
        rintro e w' ⟨vh, rfl, hr0, hc⟩
        have HR13 := Lib.hid ((HR12.out.below hc).cons hr0)
        have b13 := b12.trans (hc.mono b12.size)
        clear HR12 b12 hc hr0
        go_wp2_with fail
        refine (timesAt hb2 hb16 (HR13.out.get 0 rfl) (HR13.out.get 0 rfl) LH.out LH.out (by omega)).mono ?_
        rintro e w' ⟨vk, rfl, hr0, hc⟩
        have HR14 := Lib.hid ((HR13.out.below hc).cons hr0)
        have b14 := b13.trans (hc.mono b13.size)
        clear HR13 b13 hc hr0
        go_wp2_with fail
        refine (litAt hb2 hb16 (HR14.out.get 1 rfl) LH.out L1.out).mono ?_
        rintro e w' ⟨vh1, rfl, hr0, hc⟩
        have HR15 := Lib.hid ((HR14.out.below hc).cons hr0)
        have b15 := b14.trans (hc.mono b14.size)
        clear HR14 b14 hc hr0
        go_wp2_with fail
        refine (timesAt hb2 hb16 (HR15.out.get 0 rfl) (HR15.out.get 0 rfl) LH1.out LH1.out (by omega)).mono ?_
        rintro e w' ⟨vk1, rfl, hr0, hc⟩
        have HR16 := Lib.hid ((HR15.out.below hc).cons hr0)
        have b16 := b15.trans (hc.mono b15.size)
        clear HR15 b15 hc hr0
        go_wp2_with fail
        refine (powerAt hb2 hb16 (HR16.out.get 15 rfl) LY.out).mono ?_
        rintro e w' ⟨vp3, rfl, hr0, hc⟩
        have HR17 := Lib.hid ((HR16.out.below hc).cons hr0)
        have b17 := b16.trans (hc.mono b16.size)
        clear HR16 b16 hc hr0
        go_wp2_with fail
        refine (timesAt hb2 hb16 (HR17.out.get 16 rfl) (HR17.out.get 16 rfl) LY.out LY.out (by omega)).mono ?_
        rintro e w' ⟨vyy, rfl, hr0, hc⟩
        have HR18 := Lib.hid ((HR17.out.below hc).cons hr0)
        have b18 := b17.trans (hc.mono b17.size)
        clear HR17 b17 hc hr0
        go_wp2_with fail
        refine (timesAt hb2 hb16 (HR18.out.get 0 rfl) (HR18.out.get 17 rfl) LYY.out LY.out (by omega)).mono ?_
        rintro e w' ⟨vy3, rfl, hr0, hc⟩
        have HR19 := Lib.hid ((HR18.out.below hc).cons hr0)
        have b19 := b18.trans (hc.mono b18.size)
        clear HR18 b18 hc hr0
        go_wp2_with fail
        refine (toTen hb2 hb16 (HR19.out.get 19 rfl) LX.out).mono ?_
        rintro e w' ⟨vc, rfl, hr0, hc⟩
        have HR20 := Lib.hid ((HR19.out.below hc).cons hr0)
        have b20 := b19.trans (hc.mono b19.size)
        clear HR19 b19 hc hr0
        go_wp2_with fail
        refine (ofTen hb2 hb16 (HR20.out.get 0 rfl) LX.out).mono ?_
        rintro e w' ⟨ve, rfl, hr0, hc⟩
        have HR21 := Lib.hid ((HR20.out.below hc).cons hr0)
        have b21 := b20.trans (hc.mono b20.size)
        clear HR20 b20 hc hr0
        go_wp2_with fail
        have hC := compareAt hb2 hb16 (HR21.out.get 7 rfl) (HR21.out.get 21 rfl) (by have := LK.out; omega) (by have := LX.out; omega)
        obtain ⟨zk, hz⟩ : ∃ z, z = cmpN (isq X * isq X) X := ⟨_, rfl⟩
        rw [← hz] at hC
        have hzk : zk ≤ 0 := by rw [hz]; exact cmp_le (isq_le X)
        clear hz
        refine hC.mono ?_
        rintro e w' ⟨rfl, hc⟩
        clear hC
        have HR22 := Lib.hid (HR21.out.below hc)
        have b22 := b21.trans (hc.mono b21.size)
        clear HR21 b21 hc
        go_wp2_with fail
        have hC := compareAt hb2 hb16 (HR22.out.get 5 rfl) (HR22.out.get 21 rfl) (by have := LK1.out; omega) (by have := LX.out; omega)
        rw [cmpN_gt (isq_lt X)] at hC
        refine hC.mono ?_
        rintro e w' ⟨rfl, hc⟩
        clear hC
        have HR23 := Lib.hid (HR22.out.below hc)
        have b23 := b22.trans (hc.mono b22.size)
        clear HR22 b22 hc
        go_wp2_with fail
        refine (sameAt (HR23.out.get 4 rfl) (HR23.out.get 2 rfl) (by have := LY3.out; omega)).mono ?_
        rintro e w' ⟨rfl, rfl⟩
        go_wp2_with fail
        refine (sameAt (HR23.out.get 0 rfl) (HR23.out.get 21 rfl) (by have := LX.out; omega)).mono ?_
        rintro e w' ⟨rfl, rfl⟩
        obtain ⟨zb, hzb⟩ : ∃ z, z = cmpN Y X := ⟨_, rfl⟩
        have HZB := Lib.hid hzb
        have hzi : -1 ≤ zb ∧ zb ≤ 1 := by rw [hzb]; unfold cmpN; split <;> (try split) <;> omega
        obtain ⟨hzi0, hzi1⟩ := hzi
        clear hzb
        go_wp2_with fail
        have hC := compareAt hb2 hb16 (HR23.out.get 21 rfl) (HR23.out.get 20 rfl) (by have := LX.out; omega) (by have := LY.out; omega)
        rw [cmp_flip X Y, ← HZB.out] at hC
        refine hC.mono ?_
        rintro e w' ⟨rfl, hc⟩
        clear hC
        have HR24 := Lib.hid (HR23.out.below hc)
        have b24 := b23.trans (hc.mono b23.size)
        clear HR23 b23 hc
        go_wp2_with fail
        have hC := compareAt hb2 hb16 (HR24.out.get 20 rfl) (HR24.out.get 21 rfl) (by have := LY.out; omega) (by have := LX.out; omega)
        rw [← HZB.out] at hC
        refine hC.mono ?_
        rintro e w' ⟨rfl, hc⟩
        clear hC
        have HR25 := Lib.hid (HR24.out.below hc)
        have b25 := b24.trans (hc.mono b24.size)
        clear HR24 b24 hc
        go_wp2_with fail
        go_ret
        exact ⟨by first | rfl | exact ret_bool (by simp), b25⟩
    · have HZ0 := Lib.hid hZ0
      have hz0 : (dg b Z).length ≠ 0 := fun e => by have := (nil_iff hb2).1 (List.eq_nil_of_length_eq_zero e); omega
      obtain ⟨nz, hnz⟩ : ∃ n, n = (dg b Z).length := ⟨_, rfl⟩
      rw [← hnz] at HR7 hz0 hz1 hZ ⊢
      have hzn : 0 < nz := by omega
      have hzi : (0 : Int) < (nz : Int) := by omega
      clear hZ0 hz0 hnz
      go_wp2_with fail
      have hC := divideAt hb2 hb16 (HR7.out.get 4 rfl) (HR7.out.get 6 rfl) (by have := LU.out; omega) (by have := LZ.out; omega) (Nat.pos_iff_ne_zero.1 HZ0.out)
      rw [Nat.mul_div_cancel _ HZ0.out, Nat.mul_mod_left, dg_zero] at hC
      refine hC.mono ?_
      rintro e w' ⟨vq, vr, rfl, hr1, hr0, hc⟩
      obtain ⟨ar, capr, rfl, hr2, hr3, _⟩ := hr0.ints
      unfold maxLen at hr3
      have HR8 := Lib.hid ((HR7.out.below hc).cons hr1)
      have b8 := b7.trans (hc.mono b7.size)
      clear HR7 b7 hc hr0 hr1 hC hr2
      go_wp2_with fail
      refine (sameAt (HR8.out.get 0 rfl) (HR8.out.get 6 rfl) (by have := LS.out; omega)).mono ?_
      rintro e w' ⟨rfl, rfl⟩
      rcases Nat.eq_zero_or_pos Y with hY0 | hY0
      · have HY0 := Lib.hid hY0
        clear hY0
        go_wp2_with fail
        refine (divideNo hb2 hb16 (HR8.out.get 9 rfl) (HR8.out.get 8 rfl) (by have := LX.out; omega) (by have := LY.out; omega) HY0.out).mono ?_
        rintro e w' ⟨vq, vr, rfl, hc⟩
        have HR9 := Lib.hid (HR8.out.below hc)
        have b9 := b8.trans (hc.mono b8.size)
        clear HR8 b8 hc
        go_wp2_with fail
        refine (rootAt hb2 hb16 (HR9.out.get 9 rfl) (by have := LX.out; omega)).mono ?_
        rintro e w' ⟨vh, rfl, hr0, hc⟩
        have HR10 := Lib.hid ((HR9.out.below hc).cons hr0)
        have b10 := b9.trans (hc.mono b9.size)
        clear HR9 b9 hc hr0
        go_wp2_with fail
        refine (timesAt hb2 hb16 (HR10.out.get 0 rfl) (HR10.out.get 0 rfl) LH.out LH.out (by omega)).mono ?_
        rintro e w' ⟨vk, rfl, hr0, hc⟩
        have HR11 := Lib.hid ((HR10.out.below hc).cons hr0)
        have b11 := b10.trans (hc.mono b10.size)
        clear HR10 b10 hc hr0
        go_wp2_with fail
        refine (litAt hb2 hb16 (HR11.out.get 1 rfl) LH.out L1.out).mono ?_
        rintro e w' ⟨vh1, rfl, hr0, hc⟩
        have HR12 := Lib.hid ((HR11.out.below hc).cons hr0)
        have b12 := b11.trans (hc.mono b11.size)
        clear HR11 b11 hc hr0
        go_wp2_with fail
        refine (timesAt hb2 hb16 (HR12.out.get 0 rfl) (HR12.out.get 0 rfl) LH1.out LH1.out (by omega)).mono ?_
        rintro e w' ⟨vk1, rfl, hr0, hc⟩
        have HR13 := Lib.hid ((HR12.out.below hc).cons hr0)
        have b13 := b12.trans (hc.mono b12.size)
        clear HR12 b12 hc hr0
        go_wp2_with fail
        refine (powerAt hb2 hb16 (HR13.out.get 12 rfl) LY.out).mono ?_
        rintro e w' ⟨vp3, rfl, hr0, hc⟩
        have HR14 := Lib.hid ((HR13.out.below hc).cons hr0)
        have b14 := b13.trans (hc.mono b13.size)
        clear HR13 b13 hc hr0
        go_wp2_with fail
        refine (timesAt hb2 hb16 (HR14.out.get 13 rfl) (HR14.out.get 13 rfl) LY.out LY.out (by omega)).mono ?_
        rintro e w' ⟨vyy, rfl, hr0, hc⟩
        have HR15 := Lib.hid ((HR14.out.below hc).cons hr0)
        have b15 := b14.trans (hc.mono b14.size)
        clear HR14 b14 hc hr0
        go_wp2_with fail
        refine (timesAt hb2 hb16 (HR15.out.get 0 rfl) (HR15.out.get 14 rfl) LYY.out LY.out (by omega)).mono ?_
        rintro e w' ⟨vy3, rfl, hr0, hc⟩
        have HR16 := Lib.hid ((HR15.out.below hc).cons hr0)
        have b16 := b15.trans (hc.mono b15.size)
        clear HR15 b15 hc hr0
        go_wp2_with fail
        refine (toTen hb2 hb16 (HR16.out.get 16 rfl) LX.out).mono ?_
        rintro e w' ⟨vc, rfl, hr0, hc⟩
        have HR17 := Lib.hid ((HR16.out.below hc).cons hr0)
        have b17 := b16.trans (hc.mono b16.size)
        clear HR16 b16 hc hr0
        go_wp2_with fail
        refine (ofTen hb2 hb16 (HR17.out.get 0 rfl) LX.out).mono ?_
        rintro e w' ⟨ve, rfl, hr0, hc⟩
        have HR18 := Lib.hid ((HR17.out.below hc).cons hr0)
        have b18 := b17.trans (hc.mono b17.size)
        clear HR17 b17 hc hr0
        go_wp2_with fail
        have hC := compareAt hb2 hb16 (HR18.out.get 7 rfl) (HR18.out.get 18 rfl) (by have := LK.out; omega) (by have := LX.out; omega)
        obtain ⟨zk, hz⟩ : ∃ z, z = cmpN (isq X * isq X) X := ⟨_, rfl⟩
        rw [← hz] at hC
        have hzk : zk ≤ 0 := by rw [hz]; exact cmp_le (isq_le X)
        clear hz
        refine hC.mono ?_
        rintro e w' ⟨rfl, hc⟩
        clear hC
        have HR19 := Lib.hid (HR18.out.below hc)
        have b19 := b18.trans (hc.mono b18.size)
        clear HR18 b18 hc
        go_wp2_with fail
        have hC := compareAt hb2 hb16 (HR19.out.get 5 rfl) (HR19.out.get 18 rfl) (by have := LK1.out; omega) (by have := LX.out; omega)
        rw [cmpN_gt (isq_lt X)] at hC
        refine hC.mono ?_
        rintro e w' ⟨rfl, hc⟩
        clear hC
        have HR20 := Lib.hid (HR19.out.below hc)
        have b20 := b19.trans (hc.mono b19.size)
        clear HR19 b19 hc
        go_wp2_with fail
        refine (sameAt (HR20.out.get 4 rfl) (HR20.out.get 2 rfl) (by have := LY3.out; omega)).mono ?_
        rintro e w' ⟨rfl, rfl⟩
        go_wp2_with fail
        refine (sameAt (HR20.out.get 0 rfl) (HR20.out.get 18 rfl) (by have := LX.out; omega)).mono ?_
        rintro e w' ⟨rfl, rfl⟩
        obtain ⟨zb, hzb⟩ : ∃ z, z = cmpN Y X := ⟨_, rfl⟩
        have HZB := Lib.hid hzb
        have hzi : -1 ≤ zb ∧ zb ≤ 1 := by rw [hzb]; unfold cmpN; split <;> (try split) <;> omega
        obtain ⟨hzi0, hzi1⟩ := hzi
        clear hzb
        go_wp2_with fail
        have hC := compareAt hb2 hb16 (HR20.out.get 18 rfl) (HR20.out.get 17 rfl) (by have := LX.out; omega) (by have := LY.out; omega)
        rw [cmp_flip X Y, ← HZB.out] at hC
        refine hC.mono ?_
        rintro e w' ⟨rfl, hc⟩
        clear hC
        have HR21 := Lib.hid (HR20.out.below hc)
        have b21 := b20.trans (hc.mono b20.size)
        clear HR20 b20 hc
        go_wp2_with fail
        have hC := compareAt hb2 hb16 (HR21.out.get 17 rfl) (HR21.out.get 18 rfl) (by have := LY.out; omega) (by have := LX.out; omega)
        rw [← HZB.out] at hC
        refine hC.mono ?_
        rintro e w' ⟨rfl, hc⟩
        clear hC
        have HR22 := Lib.hid (HR21.out.below hc)
        have b22 := b21.trans (hc.mono b21.size)
        clear HR21 b21 hc
        go_wp2_with fail
        go_ret
        exact ⟨by first | rfl | exact ret_bool (by simp), b22⟩
      · have HY0 := Lib.hid hY0
        clear hY0
        go_wp2_with fail
        refine (divideAt hb2 hb16 (HR8.out.get 9 rfl) (HR8.out.get 8 rfl) (by have := LX.out; omega) (by have := LY.out; omega) (Nat.pos_iff_ne_zero.1 HY0.out)).mono ?_
        rintro e w' ⟨vq2, vr2, rfl, hr1, hr0, hc⟩
        have HR9 := Lib.hid (((HR8.out.below hc).cons hr1).cons hr0)
        have b9 := b8.trans (hc.mono b8.size)
        clear HR8 b8 hc hr0 hr1
        go_wp2_with fail
        refine (timesAt hb2 hb16 (HR9.out.get 1 rfl) (HR9.out.get 10 rfl) LQ.out LY.out (by omega)).mono ?_
        rintro e w' ⟨vp, rfl, hr0, hc⟩
        have HR10 := Lib.hid ((HR9.out.below hc).cons hr0)
        have b10 := b9.trans (hc.mono b9.size)
        clear HR9 b9 hc hr0
        go_wp2_with fail
        have hC := addAt hb2 hb16 (HR10.out.get 0 rfl) (HR10.out.get 1 rfl) LP.out LR.out (by omega)
        rw [Nat.div_add_mod'] at hC
        refine hC.mono ?_
        rintro e w' ⟨va, rfl, hr0, hc⟩
        have HR11 := Lib.hid ((HR10.out.below hc).cons hr0)
        have b11 := b10.trans (hc.mono b10.size)
        clear HR10 b10 hc hr0 hC
        go_wp2_with fail
        refine (sameAt (HR11.out.get 0 rfl) (HR11.out.get 13 rfl) (by have := LX.out; omega)).mono ?_
        rintro e w' ⟨rfl, rfl⟩
        go_wp2_with fail
        have hC := compareAt hb2 hb16 (HR11.out.get 2 rfl) (HR11.out.get 12 rfl) (by have := LR.out; omega) (by have := LY.out; omega)
        rw [cmp_lt (Nat.mod_lt X HY0.out)] at hC
        refine hC.mono ?_
        rintro e w' ⟨rfl, hc⟩
        clear hC
        have HR12 := Lib.hid (HR11.out.below hc)
        have b12 := b11.trans (hc.mono b11.size)
        clear HR11 b11 hc
        go_wp2_with fail
        refine (rootAt hb2 hb16 (HR12.out.get 13 rfl) (by have := LX.out; omega)).mono ?_
        rintro e w' ⟨vh, rfl, hr0, hc⟩
        have HR13 := Lib.hid ((HR12.out.below hc).cons hr0)
        have b13 := b12.trans (hc.mono b12.size)
        clear HR12 b12 hc hr0
        go_wp2_with fail
        refine (timesAt hb2 hb16 (HR13.out.get 0 rfl) (HR13.out.get 0 rfl) LH.out LH.out (by omega)).mono ?_
        rintro e w' ⟨vk, rfl, hr0, hc⟩
        have HR14 := Lib.hid ((HR13.out.below hc).cons hr0)
        have b14 := b13.trans (hc.mono b13.size)
        clear HR13 b13 hc hr0
        go_wp2_with fail
        refine (litAt hb2 hb16 (HR14.out.get 1 rfl) LH.out L1.out).mono ?_
        rintro e w' ⟨vh1, rfl, hr0, hc⟩
        have HR15 := Lib.hid ((HR14.out.below hc).cons hr0)
        have b15 := b14.trans (hc.mono b14.size)
        clear HR14 b14 hc hr0
        go_wp2_with fail
        refine (timesAt hb2 hb16 (HR15.out.get 0 rfl) (HR15.out.get 0 rfl) LH1.out LH1.out (by omega)).mono ?_
        rintro e w' ⟨vk1, rfl, hr0, hc⟩
        have HR16 := Lib.hid ((HR15.out.below hc).cons hr0)
        have b16 := b15.trans (hc.mono b15.size)
        clear HR15 b15 hc hr0
        go_wp2_with fail
        refine (powerAt hb2 hb16 (HR16.out.get 16 rfl) LY.out).mono ?_
        rintro e w' ⟨vp3, rfl, hr0, hc⟩
        have HR17 := Lib.hid ((HR16.out.below hc).cons hr0)
        have b17 := b16.trans (hc.mono b16.size)
        clear HR16 b16 hc hr0
        go_wp2_with fail
        refine (timesAt hb2 hb16 (HR17.out.get 17 rfl) (HR17.out.get 17 rfl) LY.out LY.out (by omega)).mono ?_
        rintro e w' ⟨vyy, rfl, hr0, hc⟩
        have HR18 := Lib.hid ((HR17.out.below hc).cons hr0)
        have b18 := b17.trans (hc.mono b17.size)
        clear HR17 b17 hc hr0
        go_wp2_with fail
        refine (timesAt hb2 hb16 (HR18.out.get 0 rfl) (HR18.out.get 18 rfl) LYY.out LY.out (by omega)).mono ?_
        rintro e w' ⟨vy3, rfl, hr0, hc⟩
        have HR19 := Lib.hid ((HR18.out.below hc).cons hr0)
        have b19 := b18.trans (hc.mono b18.size)
        clear HR18 b18 hc hr0
        go_wp2_with fail
        refine (toTen hb2 hb16 (HR19.out.get 20 rfl) LX.out).mono ?_
        rintro e w' ⟨vc, rfl, hr0, hc⟩
        have HR20 := Lib.hid ((HR19.out.below hc).cons hr0)
        have b20 := b19.trans (hc.mono b19.size)
        clear HR19 b19 hc hr0
        go_wp2_with fail
        refine (ofTen hb2 hb16 (HR20.out.get 0 rfl) LX.out).mono ?_
        rintro e w' ⟨ve, rfl, hr0, hc⟩
        have HR21 := Lib.hid ((HR20.out.below hc).cons hr0)
        have b21 := b20.trans (hc.mono b20.size)
        clear HR20 b20 hc hr0
        go_wp2_with fail
        have hC := compareAt hb2 hb16 (HR21.out.get 7 rfl) (HR21.out.get 22 rfl) (by have := LK.out; omega) (by have := LX.out; omega)
        obtain ⟨zk, hz⟩ : ∃ z, z = cmpN (isq X * isq X) X := ⟨_, rfl⟩
        rw [← hz] at hC
        have hzk : zk ≤ 0 := by rw [hz]; exact cmp_le (isq_le X)
        clear hz
        refine hC.mono ?_
        rintro e w' ⟨rfl, hc⟩
        clear hC
        have HR22 := Lib.hid (HR21.out.below hc)
        have b22 := b21.trans (hc.mono b21.size)
        clear HR21 b21 hc
        go_wp2_with fail
        have hC := compareAt hb2 hb16 (HR22.out.get 5 rfl) (HR22.out.get 22 rfl) (by have := LK1.out; omega) (by have := LX.out; omega)
        rw [cmpN_gt (isq_lt X)] at hC
        refine hC.mono ?_
        rintro e w' ⟨rfl, hc⟩
        clear hC
        have HR23 := Lib.hid (HR22.out.below hc)
        have b23 := b22.trans (hc.mono b22.size)
        clear HR22 b22 hc
        go_wp2_with fail
        refine (sameAt (HR23.out.get 4 rfl) (HR23.out.get 2 rfl) (by have := LY3.out; omega)).mono ?_
        rintro e w' ⟨rfl, rfl⟩
        go_wp2_with fail
        refine (sameAt (HR23.out.get 0 rfl) (HR23.out.get 22 rfl) (by have := LX.out; omega)).mono ?_
        rintro e w' ⟨rfl, rfl⟩
        obtain ⟨zb, hzb⟩ : ∃ z, z = cmpN Y X := ⟨_, rfl⟩
        have HZB := Lib.hid hzb
        have hzi : -1 ≤ zb ∧ zb ≤ 1 := by rw [hzb]; unfold cmpN; split <;> (try split) <;> omega
        obtain ⟨hzi0, hzi1⟩ := hzi
        clear hzb
        go_wp2_with fail
        have hC := compareAt hb2 hb16 (HR23.out.get 22 rfl) (HR23.out.get 21 rfl) (by have := LX.out; omega) (by have := LY.out; omega)
        rw [cmp_flip X Y, ← HZB.out] at hC
        refine hC.mono ?_
        rintro e w' ⟨rfl, hc⟩
        clear hC
        have HR24 := Lib.hid (HR23.out.below hc)
        have b24 := b23.trans (hc.mono b23.size)
        clear HR23 b23 hc
        go_wp2_with fail
        have hC := compareAt hb2 hb16 (HR24.out.get 21 rfl) (HR24.out.get 22 rfl) (by have := LY.out; omega) (by have := LX.out; omega)
        rw [← HZB.out] at hC
        refine hC.mono ?_
        rintro e w' ⟨rfl, hc⟩
        clear hC
        have HR25 := Lib.hid (HR24.out.below hc)
        have b25 := b24.trans (hc.mono b24.size)
        clear HR24 b24 hc
        go_wp2_with fail
        go_ret
        exact ⟨by first | rfl | exact ret_bool (by simp), b25⟩

end Go.Proofs.Ytdflpocnfodbhaa
