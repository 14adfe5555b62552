/- Gray codes, the program: tests, codes, rings, how many differ. -/
import Derived.Test.YtleadjkndciniaaDoorGrCyc
set_option linter.unusedVariables false
set_option linter.unusedSimpArgs false
set_option maxRecDepth 100000
namespace Go.Proofs.YtleadjkndciniaaDoor
open Go.ChangeShapes Go.WideShapes Go.ChangeAt Go.RowKit

theorem fitsG_any (n : Int) (w : World) :
    Calls Tryd.prog 27 #[.int .i64 n] w fun e w' => e = .returned (.bool (inB n 0 1000000000000)) ∧ w = w' := by
  by_cases h : 0 ≤ n
  · go_enter Tryd.func27, Tryd.ntmps27
    go_wp2
    all_goals (go_ret; exact ⟨ret_bool (by simp [inB, h]), rfl⟩)
  · have h' : n < 0 := by omega
    go_enter Tryd.func27, Tryd.ntmps27
    go_wp2
    all_goals (go_ret; exact ⟨ret_bool (by simp [inB]; omega), rfl⟩)

theorem cycleOk_any (n : Int) (w : World) :
    Calls Tryd.prog 38 #[.int .i64 n] w fun e w' => e = .returned (.bool (inB n 1 6)) ∧ w = w' := by
  by_cases h : 1 ≤ n
  · go_enter Tryd.func38, Tryd.ntmps38
    go_wp2
    all_goals (go_ret; exact ⟨ret_bool (by simp [inB, h]), rfl⟩)
  · have h' : n < 1 := by omega
    go_enter Tryd.func38, Tryd.ntmps38
    go_wp2
    all_goals (go_ret; exact ⟨ret_bool (by simp [inB]; omega), rfl⟩)

theorem implGrayOf_any (n : Int) (w : World) (hn : in64 n) :
    Calls Tryd.prog 7 #[.int .i64 n] w fun e w' => e = .returned (.int .i64 (rGrayOf0 n)) ∧ Below w.heap.size w w' := by
  have HS := Lib.hid (fun W => fitsG_any n W)
  cases h : inB n 0 1000000000000
  · have E := Lib.hid (show rGrayOf0 n = -1 by rw [rGrayOf0, h]; rfl)
    rw [h] at HS
    clear h
    go_enter Tryd.func7, Tryd.ntmps7
    go_wp2_with fail
    refine (HS.out _).mono ?_
    rintro e w' ⟨rfl, rfl⟩
    go_wp2_with fail
    go_ret
    exact ⟨by rw [E.out]; rfl, Below.refl _ _⟩
  · obtain ⟨n0, n1⟩ := inB_yes h
    obtain ⟨k, rfl⟩ : ∃ k : Nat, n = k := ⟨n.toNat, by omega⟩
    have E := Lib.hid (show rGrayOf0 k = (gc k : Nat) by rw [rGrayOf0, h]; rfl)
    have HX := Lib.hid (xor_i64 k (k / 2) (by omega) (by omega))
    have hx : bits .xor .i64 (k : Int) ((k : Int) / 2) = ((gc k : Nat) : Int) := by
      have := HX.out
      rwa [show ((k / 2 : Nat) : Int) = (k : Int) / 2 by omega] at this
    rw [h] at HS
    clear h
    go_enter Tryd.func7, Tryd.ntmps7
    go_wp2_with fail
    refine (HS.out _).mono ?_
    rintro e w' ⟨rfl, rfl⟩
    go_wp2_with fail
    go_ret
    exact ⟨by rw [E.out]; rfl, Below.refl _ _⟩

set_option maxHeartbeats 2000000 in
theorem implFromGray_any (n : Int) (w : World) (hn : in64 n) :
    Calls Tryd.prog 9 #[.int .i64 n] w fun e w' => e = .returned (.int .i64 (rFromGray0 n)) ∧ Below w.heap.size w w' := by
  have HS := Lib.hid (fun W => fitsG_any n W)
  cases h : inB n 0 1000000000000
  · have E := Lib.hid (show rFromGray0 n = -1 by rw [rFromGray0, h]; rfl)
    rw [h] at HS
    clear h
    go_enter Tryd.func9, Tryd.ntmps9
    go_wp2_with fail
    refine (HS.out _).mono ?_
    rintro e w' ⟨rfl, rfl⟩
    go_wp2_with fail
    go_ret
    exact ⟨by rw [E.out]; rfl, Below.refl _ _⟩
  · obtain ⟨n0, n1⟩ := inB_yes h
    obtain ⟨g, rfl⟩ : ∃ k : Nat, n = k := ⟨n.toNat, by omega⟩
    have E := Lib.hid (show rFromGray0 g = (ug g : Nat) by rw [rFromGray0, h]; rfl)
    have HB := Lib.hid (fun (x : Nat) (hx : x < 1099511627776) => show ug x < 1099511627776 from ug_lt (k := 40) (by simpa using hx))
    rw [h] at HS
    clear h
    go_enter Tryd.func9, Tryd.ntmps9
    go_wp2_with fail
    refine (HS.out _).mono ?_
    rintro e w' ⟨rfl, rfl⟩
    go_wp2_with fail
    go_loop [4, 3] (fun gv nv => ∃ x y : Nat, gv = .int .i64 x ∧ nv = .int .i64 y ∧ x ≤ g ∧ y < 1099511627776 ∧ y ^^^ ug x = ug g) (fun gv _ => (intOf gv).toNat)
    case atStart => exact ⟨g, 0, rfl, rfl, Nat.le_refl _, by omega, Nat.zero_xor _⟩
    case round =>
      obtain ⟨x, y, rfl, rfl, hx, hy, hxy⟩ := hrel
      by_cases h0 : x = 0
      · subst h0
        rw [ug_zero, Nat.xor_zero] at hxy
        have HY := Lib.hid hxy
        clear hxy
        go_wp2
        go_ret
        exact ⟨by rw [E.out, ← HY.out]; rfl, Below.refl _ _⟩
      · have HN := Lib.hid (show (y ^^^ x) ^^^ ug (x / 2) = ug g by rw [Nat.xor_assoc, ← ug_step]; exact hxy)
        have HYB := Lib.hid (show y ^^^ x < 1099511627776 from Nat.xor_lt_two_pow (n := 40) (by simpa using hy) (by simp; omega))
        have hxx := xor_i64 y x (by omega) (by omega)
        have hpos : (0 : Int) < x := by omega
        obtain ⟨Z, hZ⟩ : ∃ Z, Z = y ^^^ x := ⟨_, rfl⟩
        rw [← hZ] at HN HYB hxx
        have HXL := Lib.hid hx
        clear hxy hZ hx
        go_wp2
        go_round
        case rel => exact ⟨x / 2, Z, by go_num, rfl, by have := HXL.out; omega, HYB.out, HN.out⟩
        case measure => simp [intOf]; omega

theorem implRingSteps_any (s k : Int) (w : World) (hs : in64 s) (hk : in64 k) :
    Calls Tryd.prog 17 #[.int .i64 s, .int .i64 k] w fun e w' => e = .returned (.int .i64 (rRingSteps0 s k)) ∧ Below w.heap.size w w' := by
  have E := Lib.hid (show rRingSteps0 s k = if inB k 1 16 && inB s 0 (((2 ^ k.toNat : Nat) : Int) - 1) then ((ug s.toNat : Nat) : Int) else -1 from rfl)
  by_cases k0 : k < 1
  · have V := Lib.hid (show rRingSteps0 s k = -1 by rw [E.out, show inB k 1 16 = false by simp [inB]; omega]; rfl)
    clear E
    go_enter Tryd.func17, Tryd.ntmps17
    go_wp2
    go_ret
    exact ⟨by rw [V.out]; rfl, Below.refl _ _⟩
  by_cases k1 : 16 < k
  · have V := Lib.hid (show rRingSteps0 s k = -1 by rw [E.out, show inB k 1 16 = false by simp [inB]; omega]; rfl)
    clear E
    go_enter Tryd.func17, Tryd.ntmps17
    go_wp2
    go_ret
    exact ⟨by rw [V.out]; rfl, Below.refl _ _⟩
  rw [show inB k 1 16 = true by simp [inB]; omega] at E
  obtain ⟨j, rfl⟩ : ∃ j : Nat, k = j := ⟨k.toNat, by omega⟩
  rw [Int.toNat_natCast] at E
  obtain ⟨p1, p2⟩ := pow_s16 (x := j) (by omega)
  have hpc : ((2 ^ j : Nat) : Int) = (2 : Int) ^ j := Int.natCast_pow _ _
  obtain ⟨Q, hQ⟩ : ∃ Q, Q = 2 ^ j := ⟨_, rfl⟩
  rw [← hQ] at p1 p2 hpc E
  have s2 : IntKind.i64.wrap ((2 : Int) ^ j) = Q := by rw [IntKind.wrap_i64, ← hpc]; omega
  clear hQ hpc
  by_cases s0 : s < 0
  · have V := Lib.hid (show rRingSteps0 s j = -1 by rw [E.out, show inB s 0 ((Q : Int) - 1) = false by simp [inB]; omega]; rfl)
    clear E
    go_enter Tryd.func17, Tryd.ntmps17
    go_wp2
    go_ret
    exact ⟨by rw [V.out]; rfl, Below.refl _ _⟩
  by_cases s1 : (Q : Int) ≤ s
  · have V := Lib.hid (show rRingSteps0 s j = -1 by rw [E.out, show inB s 0 ((Q : Int) - 1) = false by simp [inB]; omega]; rfl)
    clear E
    go_enter Tryd.func17, Tryd.ntmps17
    go_wp2
    go_ret
    exact ⟨by rw [V.out]; rfl, Below.refl _ _⟩
  · obtain ⟨t, rfl⟩ : ∃ t : Nat, s = t := ⟨s.toNat, by omega⟩
    have ht : inB (t : Int) 0 1000000000000 = true := by simp [inB]; omega
    have V := Lib.hid (show rRingSteps0 t j = rFromGray0 t by
      rw [E.out, show inB (t : Int) 0 ((Q : Int) - 1) = true by simp [inB]; omega, rFromGray0, ht]; rfl)
    have HF := Lib.hid (fun W => implFromGray_any t W hs)
    rw [← V.out] at HF
    clear E V ht
    go_enter Tryd.func17, Tryd.ntmps17
    go_wp2_with fail
    refine (HF.out _).mono ?_
    rintro e w' ⟨rfl, hB⟩
    go_wp2_with fail
    go_ret
    exact ⟨rfl, hB⟩

set_option maxHeartbeats 2000000 in
theorem implCountDifferent_any (va : Value) (a : List Int) (vc : Value) (c : List Int) (w : World) (hra : RowAt w va (intsOf a)) (hl : a.length ≤ 1048576) (hia : ∀ n ∈ a, in64 n) (hrc : RowAt w vc (intsOf c)) (hl' : c.length ≤ 1048576) (hic : ∀ n ∈ c, in64 n) :
    Calls Tryd.prog 14 #[va, vc] w fun e w' => e = .returned (.int .i64 (rCountDifferent0 a c)) ∧ Below w.heap.size w w' := by
  have HRA := Lib.hid (fun W (hb : Below w.heap.size w W) => hra.below hb)
  have HRC := Lib.hid (fun W (hb : Below w.heap.size w W) => hrc.below hb)
  obtain ⟨aa, cap, rfl, h1, h2, h3⟩ := hra.ints
  obtain ⟨ac, cap', rfl, h1', h2', h3'⟩ := hrc.ints
  unfold maxLen at h2 h2'
  clear hra hrc hia hic
  by_cases hlen : a.length = c.length
  · have E := Lib.hid (show rCountDifferent0 a c = (cdf a c : Nat) by rw [rCountDifferent0, if_pos hlen])
    have HCL := Lib.hid (fun k => cdf_le (a.take k) (c.take k))
    obtain ⟨m, hm⟩ : ∃ m, m = c.length := ⟨_, rfl⟩
    rw [← hm] at hlen hl' h1' HRC ⊢
    have HM := Lib.hid hm
    obtain ⟨n, hn⟩ : ∃ n, n = a.length := ⟨_, rfl⟩
    have HN := Lib.hid hn
    rw [← hn] at hlen hl h1 HRA ⊢
    subst hlen
    clear hm hn h3 h3'
    go_enter Tryd.func14, Tryd.ntmps14
    go_wp2
    go_loopw [5, 14] (fun nv i wr => ∃ k : Nat, k ≤ n ∧ i = .int .i64 k ∧ nv = .int .i64 (cdf (a.take k) (c.take k) : Nat) ∧ Below w.heap.size w wr) (fun _ i _ => n - (intOf i).toNat)
    case atStart => exact ⟨0, Nat.zero_le _, rfl, rfl, Below.refl _ _⟩
    case round =>
      obtain ⟨k, hk, rfl, rfl, hB⟩ := hrel
      have hcl := HCL.out k
      have hlk : (a.take k).length ≤ k := List.length_take_le _ _
      by_cases hlt : k < n
      · have ka : k < a.length := by rw [← HN.out]; exact hlt
        have kc : k < c.length := by rw [← HM.out]; exact hlt
        obtain ⟨a3, cap3, e3, _, _, h3⟩ := (HRA.out _ hB).ints
        injection e3 with e3 e5 e4
        clear e5
        subst e3 e4
        obtain ⟨a4, cap4, e3, _, _, h3'⟩ := (HRC.out _ hB).ints
        injection e3 with e3 e5 e4
        clear e5
        subst e3 e4
        obtain ⟨b, off, rfl, hb, hcell⟩ := h3.resolve_left (fun e => by rw [e] at ka; simp at ka)
        obtain ⟨b', off', rfl, hb', hcell'⟩ := h3'.resolve_left (fun e => by rw [e] at kc; simp at kc)
        have hc := hcell k ka
        have hc' := hcell' k kc
        have ht := cdf_take ka kc
        obtain ⟨x, hx⟩ : ∃ x, x = a[k] := ⟨_, rfl⟩
        obtain ⟨y, hy⟩ : ∃ y, y = c[k] := ⟨_, rfl⟩
        obtain ⟨C, hC⟩ : ∃ C, C = cdf (a.take k) (c.take k) := ⟨_, rfl⟩
        rw [← hx] at hc ht
        rw [← hy] at hc' ht
        rw [← hC] at ht hcl ⊢
        have hC9 : C ≤ 1048576 := by omega
        have hki : (k : Int) < n := by omega
        have hbb : k ≠ n := by omega
        clear h3 h3' hcell hcell' hx hy hC hcl hlk
        by_cases hxy : x = y
        · rw [if_pos hxy] at ht
          have HT := Lib.hid (ht.trans (Nat.add_zero C))
          subst hxy
          clear ht
          go_wp2
          go_quiet (fail)
          go_wp2
          go_roundw
          case rel => exact ⟨k + 1, hlt, by go_num, by rw [HT.out], below_drewN hB _⟩
          case measure => simp [intOf]; omega
        · rw [if_neg hxy] at ht
          have HT := Lib.hid ht
          have hxb : (x == y) = false := by simp [hxy]
          clear ht
          go_wp2
          go_quiet (fail)
          go_wp2
          go_roundw
          case rel => exact ⟨k + 1, hlt, by go_num, by rw [HT.out]; go_num, below_drewN hB _⟩
          case measure => simp [intOf]; omega
      · have HE := Lib.hid (show cdf (a.take k) (c.take k) = cdf a c by rw [List.take_of_length_le (by have := HN.out; omega), List.take_of_length_le (by have := HM.out; omega)])
        rw [HE.out]
        have hn9 : ¬ (k : Int) < n := by omega
        clear hcl hlk
        go_wp2
        go_ret
        exact ⟨by rw [E.out]; rfl, hB⟩
  · have E := Lib.hid (show rCountDifferent0 a c = -1 by rw [rCountDifferent0, if_neg hlen])
    have hlI : ((a.length : Int) == c.length) = false := by simp; omega
    have hlJ : ¬ (a.length : Int) = c.length := by omega
    clear h3 h3' hlen
    go_enter Tryd.func14, Tryd.ntmps14
    go_wp2
    go_ret
    exact ⟨by rw [E.out]; rfl, Below.refl _ _⟩

end Go.Proofs.YtleadjkndciniaaDoor
