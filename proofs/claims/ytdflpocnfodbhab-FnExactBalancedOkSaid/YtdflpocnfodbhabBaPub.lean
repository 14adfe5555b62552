/- Balanced digits: the model's public functions of digits and values. -/
import Derived.Test.YtdflpocnfodbhabBaSpec
set_option linter.unusedVariables false
set_option linter.unusedSimpArgs false
set_option maxRecDepth 100000
namespace Go.Proofs.Ytdflpocnfodbhab
open Go.ChangeShapes Go.WideShapes Go.ChangeAt Go.RowKit

theorem specBalancedOk_any (v : Value) (l : List Int) (b : Int) (w : World) (hr : RowAt w v (intsOf l)) (hl : l.length ≤ 1048576) (hi : ∀ n ∈ l, in64 n) (hb : in64 b) :
    Calls Try.prog 39 #[v, .int .i64 b] w fun e w' => e = .returned (.bool (rBalancedOk0 l b)) ∧ Below w.heap.size w w' := by
  refine (specBal_eq v l b w hr hl hi hb).mono ?_
  rintro e w' ⟨rfl, rfl⟩
  exact ⟨rfl, Below.refl _ _⟩

set_option maxHeartbeats 4000000 in
theorem specBalancedValue_any (v : Value) (l : List Int) (b : Int) (w : World) (hr : RowAt w v (intsOf l)) (hl : l.length ≤ 1048576) (hi : ∀ n ∈ l, in64 n) (hb : in64 b) :
    Calls Try.prog 41 #[v, .int .i64 b] w fun e w' => e = .returned (.tuple #[.int .i64 (rBalancedValue0 l b), .bool (rBalancedValue1 l b)]) ∧ Below w.heap.size w w' := by
  have H1 := Lib.hid (specBal_eq v l b w hr hl hi hb)
  obtain ⟨a, cap, rfl, h1, h2, h3⟩ := hr.ints
  unfold maxLen at h2
  clear hr
  cases h : okW l b
  · rw [h] at H1
    have E1 := Lib.hid (show rBalancedValue1 l b = false by rw [rBalancedValue1, h]; rfl)
    have E0 := Lib.hid (show rBalancedValue0 l b = 0 by rw [rBalancedValue0, E1.out]; rfl)
    clear h h3
    go_enter Try.func41, Try.ntmps41
    go_wp2_with fail
    refine H1.out.mono ?_
    rintro e w' ⟨rfl, rfl⟩
    go_wp2_with fail
    go_ret2
    exact ⟨by rw [E1.out, E0.out]; rfl, Below.refl _ _⟩
  · rw [h] at H1
    obtain ⟨k, hbe, hk1, hk7, hN, hla⟩ := okW_yes h
    have HE1 := Lib.hid (show rBalancedValue1 l b = inN (bv k l) by rw [rBalancedValue1, h, hbe, hOf_eq]; rfl)
    have HE0 := Lib.hid (show rBalancedValue0 l b = if inN (bv k l) then bv k l else 0 by rw [rBalancedValue0, HE1.out, hbe, hOf_eq])
    have HA := Lib.hid hN.1
    have HFAR := Lib.hid (bv_far hk1 hk7 hN.1)
    have HIN := Lib.hid (fun n lo hi => sIn_any n lo hi w)
    have HBE := Lib.hid hbe
    have hb1 : 3 ≤ b := by omega
    have hb2 : b ≤ 15 := by omega
    have hkb : (k : Int) ≤ 7 := by omega
    clear h hN hi hb hbe
    go_enter Try.func41, Try.ntmps41
    go_wp2_with fail
    refine H1.out.mono ?_
    rintro e w' ⟨rfl, rfl⟩
    go_wp2_with fail
    go_loop [6, 7] (fun x i => ∃ (j : Nat) (y : Int), j ≤ l.length ∧ i = .int .i64 ((j : Int) - 1) ∧ x = .int .i64 y ∧ y = bv k (l.drop j) ∧ -100000000000000 ≤ y ∧ y ≤ 100000000000000) (fun _ i => (intOf i + 1).toNat)
    case atStart => exact ⟨l.length, 0, Nat.le_refl _, rfl, rfl, by rw [List.drop_length, bv_nil], by omega, by omega⟩
    case round =>
      obtain ⟨j, y, hj, rfl, rfl, hy, hy1, hy2⟩ := hrel
      cases j with
      | zero =>
        rw [List.drop_zero] at hy
        clear h3
        have hC := HIN.out y (-1000000000000) 1000000000000
        cases hin : inB y (-1000000000000) 1000000000000
        · rw [hin] at hC
          have HC := Lib.hid hC
          have E1 := Lib.hid (show rBalancedValue1 l b = false by rw [HE1.out, ← hy]; exact hin)
          have E0 := Lib.hid (show rBalancedValue0 l b = 0 by rw [rBalancedValue0, E1.out]; rfl)
          clear hC hin hy
          go_wp2_with fail
          refine HC.out.mono ?_
          rintro e w' ⟨rfl, rfl⟩
          go_wp2_with fail
          go_ret2
          exact ⟨by rw [E1.out, E0.out]; rfl, Below.refl _ _⟩
        · rw [hin] at hC
          have HC := Lib.hid hC
          have E1 := Lib.hid (show rBalancedValue1 l b = true by rw [HE1.out, ← hy]; exact hin)
          have E0 := Lib.hid (show rBalancedValue0 l b = y by rw [HE0.out, ← hy, show inN y = true from hin]; rfl)
          clear hC hin hy
          go_wp2_with fail
          refine HC.out.mono ?_
          rintro e w' ⟨rfl, rfl⟩
          go_wp2_with fail
          go_ret2
          exact ⟨by rw [E1.out, E0.out]; rfl, Below.refl _ _⟩
      | succ j =>
        rw [show ((j + 1 : Nat) : Int) - 1 = (j : Int) by omega]
        have hjl : j < l.length := by omega
        obtain ⟨b', off, rfl, hbb, hcell⟩ := h3.resolve_left (fun e => by rw [e] at hjl; simp at hjl)
        have hc := hcell j hjl
        have hd := HA.out _ (List.getElem_mem hjl)
        have hat := bv_at k l j
        rw [at0_lt hjl, ← hy, ← HBE.out] at hat
        obtain ⟨d, hd'⟩ : ∃ d, d = l[j] := ⟨_, rfl⟩
        rw [← hd'] at hc hd hat
        have hby1 : y * b ≤ 1500000000000000 := by
          have : y * b ≤ 100000000000000 * b := Int.mul_le_mul_of_nonneg_right hy2 (by omega)
          omega
        have hby2 : -1500000000000000 ≤ y * b := by
          have : -100000000000000 * b ≤ y * b := Int.mul_le_mul_of_nonneg_right hy1 (by omega)
          omega
        rw [Int.mul_comm b y, Int.add_comm] at hat
        have HAT := Lib.hid hat
        clear h3 hcell hd' hy hat
        have hC := HIN.out (y * b + d) (-100000000000000) 100000000000000
        cases hin : inB (y * b + d) (-100000000000000) 100000000000000
        · rw [hin] at hC
          have HC := Lib.hid hC
          have E1 := Lib.hid (show rBalancedValue1 l b = false by
            have h4 := HFAR.out j (by rw [HAT.out]; simp [inB] at hin; omega)
            rw [HE1.out]
            simp [inN, inB]; omega)
          have E0 := Lib.hid (show rBalancedValue0 l b = 0 by rw [rBalancedValue0, E1.out]; rfl)
          clear hC hin
          go_wp2_with fail
          refine HC.out.mono ?_
          rintro e w' ⟨rfl, rfl⟩
          go_wp2_with fail
          go_ret2
          exact ⟨by rw [E1.out, E0.out]; rfl, Below.refl _ _⟩
        · rw [hin] at hC
          have HC := Lib.hid hC
          have HBD := Lib.hid (inB_yes hin)
          clear hC hin
          go_wp2_with fail
          refine HC.out.mono ?_
          rintro e w' ⟨rfl, rfl⟩
          go_wp2_with fail
          go_round
          case rel => exact ⟨j, _, by omega, by go_num, rfl, HAT.out.symm, HBD.out.1, HBD.out.2⟩
          case measure => simp [intOf]

end Go.Proofs.Ytdflpocnfodbhab
