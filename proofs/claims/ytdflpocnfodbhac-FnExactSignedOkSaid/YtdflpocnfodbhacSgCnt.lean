/- Signed binary digits: the model's counts, its test of sparse digits and its values. -/
import Derived.Test.YtdflpocnfodbhacSgSpec
set_option linter.unusedVariables false
set_option linter.unusedSimpArgs false
set_option maxRecDepth 100000
namespace Go.Proofs.Ytdflpocnfodbhac
open Go.ChangeShapes Go.WideShapes Go.ChangeAt Go.RowKit

theorem spr_of {l : List Int} (h : ∀ j (hj : j + 1 < l.length), l[j] = 0 ∨ l[j + 1] = 0) : sprB l = true := (sprB_iff l).2 (fun j => by
  rcases Nat.lt_or_ge (j + 1) l.length with hj | hj
  · rw [at0_lt hj, at0_lt (by omega)]; exact h j hj
  · right; exact at0_ge hj)
theorem spr_not {l : List Int} {j : Nat} (hj : j + 1 < l.length) (h0 : l[j] ≠ 0) (h1 : l[j + 1] ≠ 0) : sprB l = false := by
  cases h : sprB l
  · rfl
  · have := (sprB_iff l).1 h j
    rw [at0_lt hj, at0_lt (by omega)] at this
    rcases this with e | e
    · exact absurd e h0
    · exact absurd e h1

set_option maxHeartbeats 2000000 in
theorem specIsSparse_any (v : Value) (l : List Int) (w : World) (hr : RowAt w v (intsOf l)) (hl : l.length ≤ 1048576) (hi : ∀ n ∈ l, in64 n) :
    Calls Try.prog 33 #[v] w fun e w' => e = .returned (.bool (rIsSparse0 l)) ∧ Below w.heap.size w w' := by
  have H1 := Lib.hid (specSg_eq v l w hr hl hi)
  obtain ⟨a, cap, rfl, h1, h2, h3⟩ := hr.ints
  unfold maxLen at h2
  clear hr hi
  cases h : okS l
  · rw [h] at H1
    have E0 := Lib.hid (show rIsSparse0 l = false by rw [rIsSparse0, h]; rfl)
    clear h h3
    go_enter Try.func33, Try.ntmps33
    go_wp2_with fail
    refine H1.out.mono ?_
    rintro e w' ⟨rfl, rfl⟩
    go_wp2_with fail
    go_ret
    exact ⟨by rw [E0.out]; rfl, Below.refl _ _⟩
  · rw [h] at H1
    have E0 := Lib.hid (show rIsSparse0 l = sprB l by rw [rIsSparse0, h]; rfl)
    clear h
    go_enter Try.func33, Try.ntmps33
    go_wp2_with fail
    refine H1.out.mono ?_
    rintro e w' ⟨rfl, rfl⟩
    go_wp2_with fail
    go_loop [10] (fun i => ∃ k : Nat, k ≤ l.length ∧ i = .int .i64 k ∧ ∀ j (hj : j + 1 < l.length), j + 1 < k → l[j] = 0 ∨ l[j + 1] = 0) (fun i => l.length - (intOf i).toNat)
    case atStart => exact ⟨0, Nat.zero_le _, rfl, fun j hj k => by omega⟩
    case round =>
      obtain ⟨k, hk, rfl, hall⟩ := hrel
      have HA := Lib.hid hall; clear hall
      by_cases hlt : k < l.length
      · obtain ⟨b', off, rfl, hbb, hcell⟩ := h3.resolve_left (fun e => by rw [e] at hlt; simp at hlt)
        have hc := hcell k hlt
        cases k with
        | zero =>
          simp only [Nat.add_zero] at hc
          clear h3 hcell
          go_wp2_with fail
          go_round
          case rel => exact ⟨1, by omega, by go_num, fun j hj h => by omega⟩
          case measure => simp [intOf]; omega
        | succ k =>
          have hc2 := hcell k (by omega)
          have HY := Lib.hid (show l[k + 1] = l[k + 1] from rfl)
          obtain ⟨y, hy⟩ : ∃ y, y = l[k + 1] := ⟨_, rfl⟩
          obtain ⟨x, hx⟩ : ∃ x, x = l[k] := ⟨_, rfl⟩
          rw [← hy] at hc
          rw [← hx] at hc2
          have HYY := Lib.hid hy; have HXX := Lib.hid hx
          have hk0 : (0 : Int) < (k : Int) + 1 := by omega
          have hks : (k : Int) + 1 - 1 = k := by omega
          have hke : ((k + 1 : Nat) : Int) = (k : Int) + 1 := by omega
          rw [hke]
          clear h3 hcell hy hx hke
          by_cases hy0 : y = 0
          · have qy : (y != 0) = false := by simp [hy0]
            have HOR := Lib.hid (show l[k] = 0 ∨ l[k + 1] = 0 by right; rw [← HYY.out]; exact hy0)
            clear hy0
            go_wp2_with fail
            go_round
            case rel =>
              refine ⟨k + 2, by omega, by go_num, fun j hj h => ?_⟩
              rcases Nat.lt_or_ge (j + 1) (k + 1) with h4 | h4
              · exact HA.out j hj h4
              · have : j = k := by omega
                subst this; exact HOR.out
            case measure => simp [intOf]; omega
          · have qy : (y != 0) = true := by simp [hy0]
            by_cases hx0 : x = 0
            · have qx : (x != 0) = false := by simp [hx0]
              have HOR := Lib.hid (show l[k] = 0 ∨ l[k + 1] = 0 by left; rw [← HXX.out]; exact hx0)
              clear hy0 hx0
              go_wp2_with fail
              go_round
              case rel =>
                refine ⟨k + 2, by omega, by go_num, fun j hj h => ?_⟩
                rcases Nat.lt_or_ge (j + 1) (k + 1) with h4 | h4
                · exact HA.out j hj h4
                · have : j = k := by omega
                  subst this; exact HOR.out
              case measure => simp [intOf]; omega
            · have qx : (x != 0) = true := by simp [hx0]
              have HV := Lib.hid (spr_not (l := l) (j := k) hlt (by rw [← HXX.out]; exact hx0) (by rw [← HYY.out]; exact hy0))
              clear hy0 hx0
              go_wp2_with fail
              go_ret
              exact ⟨by rw [E0.out, HV.out]; rfl, Below.refl _ _⟩
      · have HV := Lib.hid (spr_of (l := l) (fun j hj => HA.out j hj (by omega)))
        clear h3
        go_wp2_with fail
        go_ret
        exact ⟨by rw [E0.out, HV.out]; rfl, Below.refl _ _⟩

theorem sv_bound {l : List Int} (h : AllS l) : ∀ (j k : Nat), l.length ≤ k + j → -(2 ^ j : Int) < sv (l.drop k) ∧ sv (l.drop k) < 2 ^ j
  | 0, k, hk => by rw [List.drop_of_length_le (by omega), sv_nil]; decide
  | j + 1, k, hk => by
    have ih := sv_bound h j (k + 1) (by omega)
    have hat := sv_at l k
    have hr := allS_at h k
    have e : (2 : Int) ^ (j + 1) = 2 * 2 ^ j := by rw [Int.pow_succ, Int.mul_comm]
    rw [e]
    obtain ⟨P, hP⟩ : ∃ P, P = (2 : Int) ^ j := ⟨_, rfl⟩
    rw [← hP] at ih ⊢
    omega
theorem sv_small {l : List Int} (h : AllS l) (hl : l.length ≤ 60) (k : Nat) : -1152921504606846976 < sv (l.drop k) ∧ sv (l.drop k) < 1152921504606846976 := sv_bound h 60 k (by omega)

set_option maxHeartbeats 2000000 in
theorem specSignedValue_any (v : Value) (l : List Int) (w : World) (hr : RowAt w v (intsOf l)) (hl : l.length ≤ 1048576) (hi : ∀ n ∈ l, in64 n) :
    Calls Try.prog 31 #[v] w fun e w' => e = .returned (.tuple #[.int .i64 (rSignedValue0 l), .bool (rSignedValue1 l)]) ∧ Below w.heap.size w w' := by
  have H1 := Lib.hid (specSg_eq v l w hr hl hi)
  obtain ⟨a, cap, rfl, h1, h2, h3⟩ := hr.ints
  unfold maxLen at h2
  clear hr hi
  cases h : okS l
  · rw [h] at H1
    have E1 := Lib.hid (show rSignedValue1 l = false by rw [rSignedValue1, h]; rfl)
    have E0 := Lib.hid (show rSignedValue0 l = 0 by rw [rSignedValue0, E1.out]; rfl)
    clear h h3
    go_enter Try.func31, Try.ntmps31
    go_wp2_with fail
    refine H1.out.mono ?_
    rintro e w' ⟨rfl, rfl⟩
    go_wp2_with fail
    go_ret2
    exact ⟨by rw [E0.out, E1.out]; rfl, Below.refl _ _⟩
  · rw [h] at H1
    have hN := okS_yes h
    have hN1 := hN.1.1
    have HSM := Lib.hid (fun k => sv_small hN1 hN.2 k)
    have HALL := Lib.hid hN1
    have HE1 := Lib.hid (show rSignedValue1 l = inN (sv l) by rw [rSignedValue1, h]; rfl)
    have HE0 := Lib.hid (show rSignedValue0 l = if inN (sv l) then sv l else 0 by rw [rSignedValue0, HE1.out])
    have HIN := Lib.hid (fun n => sIn_any n (-1000000000000) 1000000000000 w)
    clear h hN hN1
    go_enter Try.func31, Try.ntmps31
    go_wp2_with fail
    refine H1.out.mono ?_
    rintro e w' ⟨rfl, rfl⟩
    go_wp2_with fail
    go_loop [4, 5] (fun x i => ∃ k : Nat, k ≤ l.length ∧ i = .int .i64 ((k : Int) - 1) ∧ x = .int .i64 (sv (l.drop k))) (fun _ i => (intOf i + 1).toNat)
    case atStart => exact ⟨l.length, Nat.le_refl _, rfl, by rw [List.drop_length]; rfl⟩
    case round =>
      obtain ⟨k, hk, rfl, rfl⟩ := hrel
      cases k with
      | zero =>
        rw [List.drop_zero]
        have hs := HSM.out 0
        rw [List.drop_zero] at hs
        cases hin : inN (sv l)
        · have HC := Lib.hid (HIN.out (sv l))
          rw [show inB (sv l) (-1000000000000) 1000000000000 = false from hin] at HC
          have HK := Lib.hid (show rSignedValue1 l = false by rw [HE1.out, hin])
          have HK0 := Lib.hid (show rSignedValue0 l = 0 by rw [HE0.out, hin]; rfl)
          clear hin h3
          go_wp2_with fail
          refine HC.out.mono ?_
          rintro e w' ⟨rfl, rfl⟩
          go_wp2_with fail
          go_ret2
          exact ⟨by rw [HK.out, HK0.out]; rfl, Below.refl _ _⟩
        · have HC := Lib.hid (HIN.out (sv l))
          rw [show inB (sv l) (-1000000000000) 1000000000000 = true from hin] at HC
          have HK := Lib.hid (show rSignedValue1 l = true by rw [HE1.out, hin])
          have HK0 := Lib.hid (show rSignedValue0 l = sv l by rw [HE0.out, hin]; rfl)
          clear hin h3
          go_wp2_with fail
          refine HC.out.mono ?_
          rintro e w' ⟨rfl, rfl⟩
          go_wp2_with fail
          go_ret2
          exact ⟨by rw [HK.out, HK0.out]; rfl, Below.refl _ _⟩
      | succ j =>
        rw [show ((j + 1 : Nat) : Int) - 1 = (j : Int) by omega]
        have hjl : j < l.length := by omega
        obtain ⟨b', off, rfl, hbb, hcell⟩ := h3.resolve_left (fun e => by rw [e] at hjl; simp at hjl)
        have hc := hcell j hjl
        have hd := HALL.out _ (List.getElem_mem hjl)
        have hat := sv_at l j
        rw [at0_lt hjl] at hat
        have hs := HSM.out (j + 1)
        obtain ⟨d, hd'⟩ : ∃ d, d = l[j] := ⟨_, rfl⟩
        obtain ⟨y, hy⟩ : ∃ y, y = sv (l.drop (j + 1)) := ⟨_, rfl⟩
        rw [← hd'] at hc hd hat
        rw [← hy] at hat hs ⊢
        have HAT := Lib.hid (show 2 * y + d = sv (l.drop j) by rw [hat]; omega)
        clear h3 hcell hd' hy hat
        go_wp2_with fail
        go_round
        case rel => exact ⟨j, by omega, by go_num, by rw [← HAT.out]⟩
        case measure => simp [intOf]

end Go.Proofs.Ytdflpocnfodbhac
