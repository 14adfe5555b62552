/- Gray codes: the model's codes, flips, counts, cycles and rings. -/
import Derived.Test.YtleadjkndciniaaDoorGrM
import Derived.Test.YtleadjkndciniaaDoorDgSpec
set_option linter.unusedVariables false
set_option linter.unusedSimpArgs false
set_option maxRecDepth 100000
namespace Go.Proofs.YtleadjkndciniaaDoor
open Go.ChangeShapes Go.WideShapes Go.ChangeAt Go.RowKit

theorem sGray_any (n : Nat) (w : World) (hn : n < 1099511627776) :
    Calls Tryd.prog 44 #[.int .i64 n] w fun e w' => e = .returned (.int .i64 (gc n : Nat)) ∧ w = w' := by
  have HX := Lib.hid (xor_i64 n (n / 2) (by omega) (by omega))
  have hx : bits .xor .i64 (n : Int) ((n : Int) / 2) = ((gc n : Nat) : Int) := by
    have := HX.out
    rwa [show ((n / 2 : Nat) : Int) = (n : Int) / 2 by omega] at this
  go_enter Tryd.func44, Tryd.ntmps44
  go_wp2
  go_ret
  exact ⟨rfl, rfl⟩

set_option maxHeartbeats 2000000 in
theorem sIndex_any (n : Nat) (w : World) (h0 : 0 < n) (hn : n < 1099511627776) :
    Calls Tryd.prog 43 #[.int .i64 n] w fun e w' => e = .returned (.int .i64 (loB n : Nat)) ∧ w = w' := by
  have HL := Lib.hid (fun (x : Nat) (h : 0 < x) (hx : x < 1099511627776) => show loB x ≤ 39 from loB_le h (by simpa using hx))
  go_enter Tryd.func43, Tryd.ntmps43
  go_wp2
  go_loop [0, 3] (fun nv kv => ∃ x k : Nat, nv = .int .i64 x ∧ kv = .int .i64 k ∧ 0 < x ∧ x ≤ n ∧ k + loB x = loB n) (fun nv _ => (intOf nv).toNat)
  case atStart => exact ⟨n, 0, rfl, rfl, h0, Nat.le_refl _, Nat.zero_add _⟩
  case round =>
    obtain ⟨x, k, rfl, rfl, hx0, hx, hk⟩ := hrel
    have hl := HL.out n h0 hn
    have hk9 : k ≤ 39 := by omega
    have hr : (x : Int).tmod 2 = ((x % 2 : Nat) : Int) := by rw [Int.tmod_eq_emod_of_nonneg (by omega)]; omega
    have hq : (x : Int).tdiv 2 = ((x / 2 : Nat) : Int) := by rw [Int.tdiv_eq_ediv_of_nonneg (by omega)]; omega
    rcases Nat.mod_two_eq_zero_or_one x with h | h
    · rw [loB_even (by omega) h] at hk
      rw [h] at hr
      have HK := Lib.hid (show (k + 1) + loB (x / 2) = loB n by omega)
      have HX := Lib.hid (And.intro hx (show 0 < x / 2 by omega))
      obtain ⟨y, hy⟩ : ∃ y, y = x / 2 := ⟨_, rfl⟩
      have HY := Lib.hid hy
      rw [← hy] at hq HK HX
      have hy9 : y < 1099511627776 := by omega
      clear hk hx hl h hy
      go_wp2
      go_round
      case rel => exact ⟨y, k + 1, rfl, by go_num, HX.out.2, by have := HX.out; have := HY.out; omega, HK.out⟩
      case measure => have := HY.out; simp [intOf]; omega
    · rw [loB_odd h, Nat.add_zero] at hk
      rw [h] at hr
      have HK := Lib.hid hk
      clear hk hx hl hq h
      go_wp2
      go_ret
      exact ⟨by rw [← HK.out]; rfl, rfl⟩

def rGrayOf0 (n : Int) : Int := if inB n 0 1000000000000 then ((gc n.toNat : Nat) : Int) else -1
def rFromGray0 (n : Int) : Int := if inB n 0 1000000000000 then ((ug n.toNat : Nat) : Int) else -1
def rFlipIndex0 (n : Int) : Int := if inB n 1 1000000000000 then ((loB n.toNat : Nat) : Int) else -1
theorem specFlipIndex_any (n : Int) (w : World) (hn : in64 n) :
    Calls Tryd.prog 19 #[.int .i64 n] w fun e w' => e = .returned (.int .i64 (rFlipIndex0 n)) ∧ Below w.heap.size w w' := by
  have HS := Lib.hid (fun W => sIn_any n 1 1000000000000 W)
  cases h : inB n 1 1000000000000
  · have E := Lib.hid (show rFlipIndex0 n = -1 by rw [rFlipIndex0, h]; rfl)
    rw [h] at HS
    clear h
    go_enter Tryd.func19, Tryd.ntmps19
    go_wp2_with fail
    refine (HS.out _).mono ?_
    rintro e w' ⟨rfl, rfl⟩
    go_wp2_with fail
    go_ret
    exact ⟨by rw [E.out]; rfl, Below.refl _ _⟩
  · obtain ⟨n0, n1⟩ := inB_yes h
    obtain ⟨k, rfl⟩ : ∃ k : Nat, n = k := ⟨n.toNat, by omega⟩
    have E := Lib.hid (show rFlipIndex0 k = (loB k : Nat) by rw [rFlipIndex0, h]; rfl)
    have HG := Lib.hid (fun W => sIndex_any k W (by omega) (by omega))
    rw [h] at HS
    clear h
    go_enter Tryd.func19, Tryd.ntmps19
    go_wp2_with fail
    refine (HS.out _).mono ?_
    rintro e w' ⟨rfl, rfl⟩
    go_wp2_with fail
    refine (HG.out _).mono ?_
    rintro e w' ⟨rfl, rfl⟩
    go_wp2_with fail
    go_ret
    exact ⟨by rw [E.out]; rfl, Below.refl _ _⟩

/-! ### how many differ -/
def rCountDifferent0 (a b : List Int) : Int := if a.length = b.length then ((cdf a b : Nat) : Int) else -1
end Go.Proofs.YtleadjkndciniaaDoor
