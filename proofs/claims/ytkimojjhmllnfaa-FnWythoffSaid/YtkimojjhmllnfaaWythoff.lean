/- The law on pairs: their differences, shifts, zeros, and the word that turns into itself. -/
import Derived.Test.YtkimojjhmllnfaaFbI4
import Derived.Test.YtkimojjhmllnfaaFbI5
import Derived.Test.YtkimojjhmllnfaaDraw
import Derived.Laws.CopyOwn
set_option linter.unusedVariables false
set_option linter.unusedSimpArgs false
set_option maxRecDepth 100000
namespace Go.Proofs.Ytkimojjhmllnfaa
open Go.ChangeShapes Go.WideShapes Go.ChangeAt Go.RowKit

theorem sbs_snoc (c : UInt8) : ∀ l : List UInt8, sbs (l ++ [c]) = sbs l ++ (if c = 97 then [97, 98] else [97])
  | [] => by simp [sbs]
  | d :: l => by rw [List.cons_append, sbs, sbs, sbs_snoc c l, List.append_assoc]
theorem sbs_take {l : List UInt8} {k : Nat} (h : k < l.length) : sbs (l.take (k + 1)) = sbs (l.take k) ++ (if l[k] = 97 then [97, 98] else [97]) := by
  rw [List.take_succ_eq_append_getElem h, sbs_snoc]
theorem w60_37 : (sbs (w60.take 37)).length ≥ 60 ∧ (sbs (w60.take 37)).take 60 = w60 ∧ ∀ k, k < 37 → (sbs (w60.take k)).length < 60 := by decide +kernel
theorem sbs_len : ∀ l : List UInt8, (sbs l).length ≤ 2 * l.length
  | [] => Nat.le_refl _
  | c :: l => by
    have := sbs_len l
    rw [sbs, List.length_append, List.length_cons]
    split <;> simp <;> omega
theorem bs_extract (l : List UInt8) (n : Nat) : (bs l).extract 0 n = bs (l.take n) := by
  apply bs_ext
  simp [bs, ByteArray.data_extract]

set_option maxRecDepth 100000 in
set_option maxHeartbeats 16000000 in
theorem lawWythoff (W : World) (a : Option Addr) (len cap : Nat) (zs : List Int) (hz : IsRow .u8 W a len cap zs) :
    Calls Try.prog 4 #[.slice a len cap] W fun e w' => e = .returned (.bool true) ∧ Below W.heap.size W w' := by
  have hv := bytesAt_of hz
  have HV := Lib.hid hv
  have hlen : len ≤ 9223372036854775807 := by
    obtain ⟨_, n, c, zs', e, h1, h2, _⟩ := hv
    injection e with _ e1 _
    unfold maxLen at h2; omega
  clear hz hv
  have HB := Below.refl W.heap.size W
  by_cases hbig : 1048576 < len
  · go_enter Try.func4, Try.ntmps4
    go_wp2
    go_ret
    exact ⟨rfl, Below.refl _ _⟩
  · go_enter Try.func4, Try.ntmps4
    go_wp2_with fail
    refine (makeNum_any _ 0 _ (HV.out.below HB) (by omega)).mono ?_
    rintro e wa ⟨x, ⟨hx0, hx1⟩, rfl, hb⟩
    replace HB := HB.trans (hb.mono HB.size)
    clear hb
    obtain ⟨N, hN, hN9⟩ : ∃ N : Nat, x.tmod 1000 = N ∧ N ≤ 999 := ⟨(x % 1000).toNat, by rw [Int.tmod_eq_emod_of_nonneg hx0]; omega, by omega⟩
    obtain ⟨K, hKN⟩ : ∃ K, K = N + 1 := ⟨_, rfl⟩
    have h1N : (1 : Int) + N = K := by omega
    have hK1 : 1 ≤ K := by omega
    have hK9 : K ≤ 1000 := by omega
    clear hKN hx0 hx1
    have h0 : rWythoffPair0 K = wyA K := by rw [rWythoffPair0, inB_of (by omega) (by omega)]; rfl
    have h1 : rWythoffPair1 K = (wyA K : Int) + K := by rw [rWythoffPair1, inB_of (by omega) (by omega), ← h0]; rfl
    have h2 : rWythoffPair0 ((K : Int) + 1) = wyA (K + 1) := by rw [rWythoffPair0, inB_of (by omega) (by omega)]; rfl
    have h3 : rWythoffPair1 ((K : Int) + 1) = (wyA (K + 1) : Int) + (K + 1) := by rw [rWythoffPair1, inB_of (by omega) (by omega), ← h2]; rfl
    have CW1 := Lib.hid (fun W => implWythoffPair_any K W ⟨by omega, by omega⟩)
    rw [h0, h1] at CW1
    have CW2 := Lib.hid (fun W => implWythoffPair_any ((K : Int) + 1) W ⟨by omega, by omega⟩)
    rw [h2, h3] at CW2
    have hnx := wyA_next hK1
    have hle := wyA_le hK1
    have hle2 := wyA_le (show 1 ≤ K + 1 by omega)
    have CS1 := Lib.hid (fun W => implShiftFib_any (wyA K : Nat) W ⟨by omega, by omega⟩)
    rw [show rShiftFib0 (wyA K : Nat) = (wyA K : Int) + K by
      have := wy_second hK1 (by omega)
      rw [rShiftFib0, inB_of (by omega) (by omega), if_pos rfl, Int.toNat_natCast, this]; omega] at CS1
    have CS2 := Lib.hid (fun W => implShiftFib_any ((K : Int) - 1) W ⟨by omega, by omega⟩)
    rw [show rShiftFib0 ((K : Int) - 1) = vL 1 (sp (K - 1)) by
      rw [rShiftFib0, inB_of (by omega) (by omega), if_pos rfl, show ((K : Int) - 1).toNat = K - 1 by omega]] at CS2
    have hsv := wy_shift hK1 (by omega)
    have CP1 := Lib.hid (fun W => implSparseFib_any (wyA K : Nat) W ⟨by omega, by omega⟩)
    rw [show rSparseFib0 (wyA K : Nat) = sp (wyA K) by rw [rSparseFib0, inB_of (by omega) (by omega)]; rfl] at CP1
    have CP2 := Lib.hid (fun W => implSparseFib_any ((wyA K : Int) + K) W ⟨by omega, by omega⟩)
    rw [show rSparseFib0 ((wyA K : Int) + K) = sp (wyA K + K) by rw [rSparseFib0, inB_of (by omega) (by omega)]; rfl] at CP2
    have CZ1 := Lib.hid (fun W v (h : RowAt W v (intsOf (sp (wyA K)))) => zeros_any v (sp (wyA K)) W h (by have := sp_few (n := wyA K) (by omega); omega))
    have CZ2 := Lib.hid (fun W v (h : RowAt W v (intsOf (sp (wyA K + K)))) => zeros_any v (sp (wyA K + K)) W h (by have := sp_few (n := wyA K + K) (by omega); omega))
    have z1 := wy_even hK1 (by omega)
    have z2 := wy_odd hK1 (by omega)
    obtain ⟨A, hA⟩ : ∃ A, A = wyA K := ⟨_, rfl⟩
    obtain ⟨C, hC⟩ : ∃ C, C = wyA (K + 1) := ⟨_, rfl⟩
    obtain ⟨V, hV⟩ : ∃ V, V = vL 1 (sp (K - 1)) := ⟨_, rfl⟩
    rw [← hA] at CW1 CS1 CP1 CP2 CZ1 CZ2 hnx hle hsv z1 z2
    rw [← hC] at CW2 hnx hle2
    rw [← hV] at CS2 hsv
    obtain ⟨S, hS⟩ : ∃ S, S = sp A := ⟨_, rfl⟩
    obtain ⟨U, hU⟩ : ∃ U, U = sp (A + K) := ⟨_, rfl⟩
    rw [← hS] at CP1 CZ1 z1
    rw [← hU] at CP2 CZ2 z2
    obtain ⟨Z1, hZ1⟩ : ∃ Z, Z = zrs S := ⟨_, rfl⟩
    obtain ⟨Z2, hZ2⟩ : ∃ Z, Z = zrs U := ⟨_, rfl⟩
    rw [← hZ1] at CZ1 z1
    rw [← hZ2] at CZ2 z2
    have hz1 : ((Z1 : Nat) : Int).tmod 2 = 0 := by rw [Int.tmod_eq_emod_of_nonneg (by omega)]; omega
    have hz2 : ((Z2 : Nat) : Int).tmod 2 = 1 := by rw [Int.tmod_eq_emod_of_nonneg (by omega)]; omega
    obtain ⟨lS, hlS⟩ : ∃ n, n = S.length := ⟨_, rfl⟩
    obtain ⟨lU, hlU⟩ : ∃ n, n = U.length := ⟨_, rfl⟩
    rw [← hlS] at CP1
    rw [← hlU] at CP2
    have hVA : (V : Int) + 1 = A := by omega
    have hA1 : ¬ (A : Int) ≤ 0 := by omega
    have hA9 : A ≤ 2000 := by omega
    have hC9 : C ≤ 3000 := by omega
    have hV9 : V ≤ 2000 := by omega
    have hAC : ¬ (C : Int) ≤ A := by omega
    have hACK : ¬ (C : Int) + (K + 1) ≤ A + K := by omega
    have CF := Lib.hid (fun W => implFibWord_any 60 W ⟨by omega, by omega⟩)
    rw [show rFibWord0 60 = bs w60 by rw [rFibWord0, inB_of (by omega) (by omega), if_pos rfl, show (60 : Int).toNat = 60 from rfl, fw_60]] at CF
    have CF5 := Lib.hid (fun W => implFibWord_any 5 W ⟨by omega, by omega⟩)
    rw [show rFibWord0 5 = bs [97, 98, 97, 97, 98] by rw [rFibWord0, inB_of (by omega) (by omega), if_pos rfl, show (5 : Int).toNat = 5 from rfl, fw_5]] at CF5
    obtain ⟨x60, x37, xlt⟩ := w60_37
    have HST := Lib.hid (fun (k : Nat) (h : k < 60) => sbs_take (l := w60) (k := k) (by rw [w60_len]; exact h))
    have HLN := Lib.hid (fun (k : Nat) => sbs_len (w60.take k))
    have HXL := Lib.hid xlt
    have HX37 := Lib.hid (show (bs (sbs (w60.take 37))).extract 0 60 = bs w60 by rw [bs_extract, x37])
    have HX60 := Lib.hid x60
    obtain ⟨WD, hWD⟩ : ∃ w, w = bs w60 := ⟨_, rfl⟩
    have HWS := Lib.hid (show WD.size = 60 by rw [hWD, bs_size, w60_len])
    rw [← hWD] at CF HX37
    have HWD := Lib.hid hWD
    clear x60 x37 xlt hWD h0 h1 h2 h3 hnx hle hle2 hsv z1 z2 hA hC hV hS hU hZ1 hZ2 hlS hlU
    go_wp2_with fail
    refine (CW1.out _).mono ?_
    rintro e w2 ⟨rfl, hb⟩
    replace HB := HB.trans (hb.mono HB.size)
    clear hb
    go_wp2_with fail
    refine (CW2.out _).mono ?_
    rintro e w3 ⟨rfl, hb⟩
    replace HB := HB.trans (hb.mono HB.size)
    clear hb
    go_wp2_with fail
    refine (CS1.out _).mono ?_
    rintro e w4 ⟨rfl, hb⟩
    replace HB := HB.trans (hb.mono HB.size)
    clear hb
    go_wp2_with fail
    refine (CS2.out _).mono ?_
    rintro e w5 ⟨rfl, hb⟩
    replace HB := HB.trans (hb.mono HB.size)
    clear hb
    go_wp2_with fail
    refine (CP1.out _).mono ?_
    rintro e w6 ⟨vs, rfl, ho, hb⟩
    replace HB := HB.trans (hb.mono HB.size)
    have HS := Lib.hid (RowAt.of_owns ho)
    obtain ⟨aS1, cS1, rfl, _, _⟩ := owns_form ho
    clear ho
    clear hb
    go_wp2_with fail
    refine (CP2.out _).mono ?_
    rintro e w7 ⟨vu, rfl, ho, hb⟩
    replace HS := Lib.hid (HS.out.below hb)
    replace HB := HB.trans (hb.mono HB.size)
    have HU := Lib.hid (RowAt.of_owns ho)
    obtain ⟨aU1, cU1, rfl, _, _⟩ := owns_form ho
    clear ho
    clear hb
    go_wp2_with fail
    refine (CZ1.out _ _ HS.out).mono ?_
    rintro e w' ⟨rfl, rfl⟩
    go_wp2_with fail
    refine (CZ2.out _ _ HU.out).mono ?_
    rintro e w' ⟨rfl, rfl⟩
    clear HS HU CZ1 CZ2 CP1 CP2 CS1 CS2 CW1 CW2
    go_wp2_with fail
    refine (CF.out _).mono ?_
    rintro e w8 ⟨rfl, hb⟩
    replace HB := HB.trans (hb.mono HB.size)
    clear hb
    have hws := HWS.out
    have HBH := Lib.hid HB
    clear HB
    go_wp2_with fail
    go_loop [11, 12] (fun s i => ∃ k : Nat, k ≤ 37 ∧ i = .int .i64 k ∧ s = .string (bs (sbs (w60.take k)))) (fun _ i => 37 - (intOf i).toNat)
    case atStart => exact ⟨0, Nat.zero_le _, rfl, rfl⟩
    case round =>
      obtain ⟨k, hk, rfl, rfl⟩ := hrel
      by_cases hlt : k < 37
      · have hT := HST.out k (by omega)
        have hl := HXL.out k hlt
        have hsz : (bs (sbs (w60.take k))).size < 60 := by rw [bs_size]; exact hl
        obtain ⟨X, hX⟩ : ∃ X, X = sbs (w60.take k) := ⟨_, rfl⟩
        rw [← hX] at hT hsz ⊢
        have hkI : (k : Int) < 60 := by omega
        have hks : k < WD.size := by omega
        have hget : WD[k]'hks = w60[k]'(by rw [w60_len]; omega) := by
          have e := HWD.out
          subst e
          rfl
        obtain ⟨c, hc⟩ : ∃ c, c = w60[k]'(by rw [w60_len]; omega) := ⟨_, rfl⟩
        rw [← hc] at hT hget
        by_cases hca : c = 97
        · have HT := Lib.hid (show sbs (w60.take (k + 1)) = X ++ [97, 98] by rw [hT, if_pos hca])
          have hq : (((WD[k]'hks).toNat : Int) == 97) = true := by rw [hget, hca]; rfl
          clear hc hX hT hl hget hca
          go_wp2_with fail
          exact ⟨⟨k + 1, by omega, by go_num, by rw [HT.out, bs_add]⟩, by simp [intOf]; omega⟩
        · have HT := Lib.hid (show sbs (w60.take (k + 1)) = X ++ [97] by rw [hT, if_neg hca])
          have hq : (((WD[k]'hks).toNat : Int) == 97) = false := by
            rw [hget, beq_eq_false_iff_ne]
            intro e
            apply hca
            apply UInt8.toNat.inj
            have : (97 : UInt8).toNat = 97 := rfl
            omega
          clear hc hX hT hl hget hca
          go_wp2_with fail
          exact ⟨⟨k + 1, by omega, by go_num, by rw [HT.out, bs_add]⟩, by simp [intOf]; omega⟩
      · have hk37 : k = 37 := by omega
        subst hk37
        have hsz := HX60.out
        have hx37 := HX37.out
        obtain ⟨X, hX⟩ : ∃ X, X = sbs (w60.take 37) := ⟨_, rfl⟩
        rw [← hX] at hsz hx37 ⊢
        have hszB : ¬ (bs X).size < 60 := by rw [bs_size]; omega
        clear hX
        go_wp2_with fail
        refine (CF5.out _).mono ?_
        rintro e w9 ⟨rfl, hb⟩
        have HB9 := Lib.hid (HBH.out.trans (hb.mono HBH.out.size))
        clear hb
        have hbl : ((bs [97, 98, 97, 97, 98]).toList == [97, 98, 97, 97, 98]) = true := by decide +kernel
        go_wp2_with fail
        go_ret
        exact ⟨rfl, HB9.out⟩

end Go.Proofs.Ytkimojjhmllnfaa
