/- Fibonacci digits: the law's count of zeros, and the word of 60 characters. -/
import Derived.Test.YtkimojjhmllnfaaFbWord
import Derived.Test.YtkimojjhmllnfaaFbDen
import Derived.Deep.RegionHeld3
set_option linter.unusedVariables false
set_option linter.unusedSimpArgs false
set_option maxRecDepth 100000
namespace Go.Proofs.Ytkimojjhmllnfaa
open Go.ChangeShapes Go.WideShapes Go.ChangeAt Go.RowKit

theorem zrs_all : ∀ {l : List Int}, (∀ j (h : j < l.length), l[j] = 0) → zrs l = l.length
  | [], _ => rfl
  | d :: t, h => by
    have h0 := h 0 (by simp)
    rw [List.getElem_cons_zero] at h0
    rw [zrs, if_pos h0, zrs_all (fun j hj => by have := h (j + 1) (by simp; omega); simpa using this), List.length_cons]
theorem zrs_at : ∀ {l : List Int} {k : Nat} (hk : k < l.length), (∀ j (h : j < l.length), j < k → l[j] = 0) → l[k] ≠ 0 → zrs l = k
  | d :: t, 0, hk, h, hn => by
    rw [List.getElem_cons_zero] at hn
    rw [zrs, if_neg hn]
  | d :: t, k + 1, hk, h, hn => by
    have h0 := h 0 (by simp) (by omega)
    rw [List.getElem_cons_zero] at h0
    rw [List.getElem_cons_succ] at hn
    rw [zrs, if_pos h0, zrs_at (by simpa using hk) (fun j hj hjk => by have := h (j + 1) (by simp; omega) (by omega); simpa using this) hn]

set_option maxHeartbeats 2000000 in
theorem zeros_any (v : Value) (l : List Int) (w : World) (hr : RowAt w v (intsOf l)) (hl : l.length ≤ 1048576) :
    Calls Try.prog 30 #[v] w fun e w' => e = .returned (.int .i64 (zrs l : Nat)) ∧ w = w' := by
  obtain ⟨a, cap, rfl, h1, h2, h3⟩ := hr.ints
  unfold maxLen at h2
  go_enter Try.func30, Try.ntmps30
  go_wp2
  go_loop [7] (fun i => ∃ k : Nat, k ≤ l.length ∧ i = .int .i64 k ∧ ∀ j (h : j < l.length), j < k → l[j] = 0) (fun i => l.length - (intOf i).toNat)
  case atStart => exact ⟨0, Nat.zero_le _, rfl, fun j h k => by omega⟩
  case round =>
    obtain ⟨k, hk, rfl, hall⟩ := hrel
    have HA := Lib.hid hall; clear hall
    by_cases hlt : k < l.length
    · obtain ⟨b', off, rfl, hbb, hcell⟩ := h3.resolve_left (fun e => by rw [e] at hlt; simp at hlt)
      have hc := hcell k hlt
      obtain ⟨y, hy⟩ : ∃ y, y = l[k] := ⟨_, rfl⟩
      rw [← hy] at hc
      have HY := Lib.hid hy
      clear h3 hcell hy
      by_cases h0 : y = 0
      · have HN := Lib.hid (show ∀ j (h : j < l.length), j < k + 1 → l[j] = 0 from fun j h hj => by
          rcases Nat.lt_or_ge j k with h4 | h4
          · exact HA.out j h h4
          · have : j = k := by omega
            subst this; rw [← HY.out]; exact h0)
        subst h0
        go_wp2
        go_round
        case rel => exact ⟨k + 1, hlt, by go_num, HN.out⟩
        case measure => simp [intOf]; omega
      · have HV := Lib.hid (zrs_at hlt HA.out (by rw [← HY.out]; exact h0))
        have hq : (y == 0) = false := by simpa using h0
        clear h0
        go_wp2
        go_ret
        exact ⟨by rw [HV.out]; rfl, rfl⟩
    · have HV := Lib.hid (zrs_all (l := l) (fun j h => HA.out j h (by omega)))
      clear h3
      go_wp2
      go_ret
      exact ⟨by rw [HV.out]; rfl, rfl⟩

/-! ### the word -/
theorem gs_pad : ∀ (m k n : Nat), k ≤ m → n < fp k → ∃ z, gs m n = List.replicate z 0 ++ gs k n
  | 0, k, n, hk, hn => ⟨0, by have : k = 0 := by omega
                              subst this; rfl⟩
  | m + 1, k, n, hk, hn => by
    rcases Nat.lt_or_ge m k with h | h
    · have : k = m + 1 := by omega
      subst this; exact ⟨0, rfl⟩
    · obtain ⟨z, hz⟩ := gs_pad m k n h hn
      have := fp_mono h
      exact ⟨z + 1, by rw [gs, if_neg (by omega), hz, List.replicate_succ]; rfl⟩
def fwd (k : Nat) : UInt8 := if at0 (trT (gs 10 k)).reverse 0 = 1 then 98 else 97
theorem fwc_small {k : Nat} (h : k < 100) : fwc k = fwd k := by
  obtain ⟨z, hz⟩ := gs_pad 58 10 k (by omega) (by have : fp 10 = 144 := rfl; omega)
  rw [fwc, fwd, sp, hz, trT_zeros]
theorem fw_map : ∀ k, k ≤ 100 → fw k = (List.range k).map fwd
  | 0, _ => rfl
  | k + 1, h => by rw [fw, fw_map k (by omega), fwc_small (by omega), List.range_succ, List.map_append]; rfl
def w60 : List UInt8 := (List.range 60).map fwd
/-- a turned to ab, b to a -/
def sbs : List UInt8 → List UInt8
  | [] => []
  | c :: t => (if c = 97 then [97, 98] else [97]) ++ sbs t
theorem fw_60 : fw 60 = w60 := fw_map 60 (by omega)
theorem fw_5 : fw 5 = [97, 98, 97, 97, 98] := by rw [fw_map 5 (by omega)]; decide +kernel
/-- 37 characters turned make 60, or 36 make 60: the loop's last round -/
theorem w60_len : w60.length = 60 := by rw [w60, List.length_map, List.length_range]
theorem w60_turned : ∃ n, n ≤ 60 ∧ (sbs (w60.take n)).length ≥ 60 ∧ (sbs (w60.take n)).take 60 = w60 ∧ ∀ k, k < n → (sbs (w60.take k)).length < 60 :=
  ⟨37, by decide +kernel⟩

end Go.Proofs.Ytkimojjhmllnfaa
