/- Gray codes, the program: how many bits of a word are 1 (the library's own text). -/
import Derived.Test.YtleadjkndciniaaDoorGrM
import Derived.Laws.Bits64b
set_option linter.unusedVariables false
set_option linter.unusedSimpArgs false
set_option maxRecDepth 100000
namespace Go.Proofs.YtleadjkndciniaaDoor
open Go.ChangeShapes Go.WideShapes Go.ChangeAt Go.RowKit

def oc1 (x : Nat) : Nat := (x / 2 &&& 6148914691236517205) + (x &&& 6148914691236517205)
def oc2 (x : Nat) : Nat := (x / 4 &&& 3689348814741910323) + (x &&& 3689348814741910323)
def oc3 (x : Nat) : Nat := (x / 16 + x) &&& 1085102592571150095
def oc4 (x : Nat) : Nat := x + x / 256
def oc5 (x : Nat) : Nat := x + x / 65536
def oc6 (x : Nat) : Nat := x + x / 4294967296
/-- how many bits are 1 -/
def oc (x : Nat) : Nat := oc6 (oc5 (oc4 (oc3 (oc2 (oc1 x))))) &&& 127
/-- below 64, one bit is 1 exactly for the powers of 2 -/
theorem oc_pw {x : Nat} (h : x < 64) : (oc x = 1) = (pw2 x = true) := by
  have hall : ∀ j : Fin 64, decide (oc j.val = 1) = pw2 j.val := by decide +kernel
  have := hall ⟨x, h⟩
  simp only at this
  rw [← this]; simp

set_option maxHeartbeats 2000000 in
theorem ones64_any (x : Nat) (w : World) (hx : x < 18446744073709551616) :
    Calls Tryd.prog 54 #[.int .u64 x] w fun e w' => e = .returned (.int .i64 (oc x : Nat)) ∧ w = w' := by
  have hA1 := bits_and_u64_nat (x / 2) 6148914691236517205 (by omega) (by omega)
  have hA2 := bits_and_u64_nat x 6148914691236517205 (by omega) (by omega)
  have lA1 : x / 2 &&& 6148914691236517205 ≤ 6148914691236517205 := Nat.and_le_right
  have lA2 : x &&& 6148914691236517205 ≤ 6148914691236517205 := Nat.and_le_right
  obtain ⟨S1, hS1⟩ : ∃ S, S = oc1 x := ⟨_, rfl⟩
  have eS1 := hS1
  rw [oc1] at eS1
  obtain ⟨A1, eA1⟩ : ∃ S, S = x / 2 &&& 6148914691236517205 := ⟨_, rfl⟩
  obtain ⟨A2, eA2⟩ : ∃ S, S = x &&& 6148914691236517205 := ⟨_, rfl⟩
  rw [← eA1] at hA1 lA1 eS1
  rw [← eA2] at hA2 lA2 eS1
  have iS1 : (A1 : Int) + A2 = S1 := by omega
  have hB1 := bits_and_u64_nat (S1 / 4) 3689348814741910323 (by omega) (by omega)
  have hB2 := bits_and_u64_nat S1 3689348814741910323 (by omega) (by omega)
  have lB1 : S1 / 4 &&& 3689348814741910323 ≤ 3689348814741910323 := Nat.and_le_right
  have lB2 : S1 &&& 3689348814741910323 ≤ 3689348814741910323 := Nat.and_le_right
  obtain ⟨S2, hS2⟩ : ∃ S, S = oc2 S1 := ⟨_, rfl⟩
  have eS2 := hS2
  rw [oc2] at eS2
  obtain ⟨B1, eB1⟩ : ∃ S, S = S1 / 4 &&& 3689348814741910323 := ⟨_, rfl⟩
  obtain ⟨B2, eB2⟩ : ∃ S, S = S1 &&& 3689348814741910323 := ⟨_, rfl⟩
  rw [← eB1] at hB1 lB1 eS2
  rw [← eB2] at hB2 lB2 eS2
  have iS2 : (B1 : Int) + B2 = S2 := by omega
  obtain ⟨T, eT⟩ : ∃ S, S = S2 / 16 + S2 := ⟨_, rfl⟩
  have iT : (S2 : Int) / 16 + S2 = T := by omega
  have hC := bits_and_u64_nat T 1085102592571150095 (by omega) (by omega)
  have lC : T &&& 1085102592571150095 ≤ 1085102592571150095 := Nat.and_le_right
  obtain ⟨S3, hS3⟩ : ∃ S, S = oc3 S2 := ⟨_, rfl⟩
  have eS3 := hS3
  rw [oc3, ← eT] at eS3
  rw [← eS3] at hC lC
  obtain ⟨S4, hS4⟩ : ∃ S, S = oc4 S3 := ⟨_, rfl⟩
  have iS4 : (S3 : Int) + (S3 : Int) / 256 = S4 := by rw [hS4, oc4]; omega
  have lS4 : S4 ≤ 1200000000000000000 := by omega
  obtain ⟨S5, hS5⟩ : ∃ S, S = oc5 S4 := ⟨_, rfl⟩
  have iS5 : (S4 : Int) + (S4 : Int) / 65536 = S5 := by rw [hS5, oc5]; omega
  have lS5 : S5 ≤ 1300000000000000000 := by omega
  obtain ⟨S6, hS6⟩ : ∃ S, S = oc6 S5 := ⟨_, rfl⟩
  have iS6 : (S5 : Int) + (S5 : Int) / 4294967296 = S6 := by rw [hS6, oc6]; omega
  have lS6 : S6 ≤ 1400000000000000000 := by omega
  have hR := and_i64 S6 127 (by omega) (by omega)
  have wS6 : IntKind.i64.wrap (S6 : Int) = S6 := by rw [IntKind.wrap_i64]; omega
  have HV := Lib.hid (show oc x = S6 &&& 127 by rw [oc, ← hS1, ← hS2, ← hS3, ← hS4, ← hS5, ← hS6])
  rw [show ((x / 2 : Nat) : Int) = (x : Int) / 2 by omega, show ((6148914691236517205 : Nat) : Int) = 6148914691236517205 from rfl] at hA1
  rw [show ((6148914691236517205 : Nat) : Int) = 6148914691236517205 from rfl] at hA2
  rw [show ((S1 / 4 : Nat) : Int) = (S1 : Int) / 4 by omega, show ((3689348814741910323 : Nat) : Int) = 3689348814741910323 from rfl] at hB1
  rw [show ((3689348814741910323 : Nat) : Int) = 3689348814741910323 from rfl] at hB2
  rw [show ((1085102592571150095 : Nat) : Int) = 1085102592571150095 from rfl] at hC
  rw [show ((127 : Nat) : Int) = 127 from rfl] at hR
  clear hS1 eS1 eA1 eA2 hS2 eS2 eB1 eB2 eT hS3 eS3 hS4 hS5 hS6
  obtain ⟨R, eR⟩ : ∃ R, R = S6 &&& 127 := ⟨_, rfl⟩
  rw [← eR] at hR HV
  clear eR
  go_enter Tryd.func54, Tryd.ntmps54
  go_wp2
  go_ret
  exact ⟨by rw [HV.out]; rfl, rfl⟩

theorem ones_any (x : Nat) (w : World) (hx : x < 18446744073709551616) :
    Calls Tryd.prog 41 #[.int .u64 x] w fun e w' => e = .returned (.int .i64 (oc x : Nat)) ∧ w = w' := by
  have HC := Lib.hid (ones64_any x w hx)
  go_enter Tryd.func41, Tryd.ntmps41
  go_wp2_with (go_at_call 54; refine HC.out.mono ?_; rintro e w' ⟨rfl, rfl⟩)
  go_ret
  exact ⟨rfl, rfl⟩

end Go.Proofs.YtleadjkndciniaaDoor
