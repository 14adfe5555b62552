/- Fibonacci places: the model's word. -/
import Derived.Test.YtkimojjhmllnfaaFbDig
set_option linter.unusedVariables false
set_option linter.unusedSimpArgs false
set_option maxRecDepth 100000
namespace Go.Proofs.Ytkimojjhmllnfaa
open Go.ChangeShapes Go.WideShapes Go.ChangeAt Go.RowKit


def fwc (k : Nat) : UInt8 := if at0 (sp k) 0 = 1 then 98 else 97
def fw : Nat → List UInt8
  | 0 => []
  | k + 1 => fw k ++ [fwc k]
theorem fw_len : ∀ k, (fw k).length = k
  | 0 => rfl
  | k + 1 => by rw [fw, List.length_append, fw_len k, List.length_singleton]
def rFibWord0 (k : Int) : ByteArray := if inB k 0 200 then bs (fw k.toNat) else bs []

set_option maxHeartbeats 1000000 in
theorem specFibWord_any (n : Int) (w : World) (hn : in64 n) :
    Calls Try.prog 46 #[.int .i64 n] w fun e w' => e = .returned (.string (rFibWord0 n)) ∧ Below w.heap.size w w' := by
  have HS := Lib.hid (fun W => sIn_any n 0 200 W)
  cases h : inB n 0 200
  · rw [h] at HS
    have E0 := Lib.hid (show rFibWord0 n = bs [] by rw [rFibWord0, h]; rfl)
    clear h
    go_enter Try.func46, Try.ntmps46
    go_wp2_with fail
    refine (HS.out _).mono ?_
    rintro e w' ⟨rfl, rfl⟩
    go_wp2_with fail
    go_ret
    exact ⟨by rw [E0.out]; rfl, Below.refl _ _⟩
  · rw [h] at HS
    obtain ⟨n0, n1⟩ := inB_yes h
    obtain ⟨N, rfl⟩ : ∃ N : Nat, n = N := ⟨n.toNat, by omega⟩
    have HP := Lib.hid (fun (k : Nat) (hk : k ≤ 200) W => specSp_any k W (by omega))
    have E0 := Lib.hid (show rFibWord0 N = bs (fw N) by rw [rFibWord0, h]; rfl)
    have hN : N ≤ 200 := by omega
    clear h n0 n1
    go_enter Try.func46, Try.ntmps46
    go_wp2_with fail
    refine (HS.out _).mono ?_
    rintro e w' ⟨rfl, rfl⟩
    go_wp2_with fail
    go_loopw [3, 4] (fun s i wr => ∃ k : Nat, k ≤ N ∧ i = .int .i64 k ∧ s = .string (bs (fw k)) ∧ Below w.heap.size w wr) (fun _ i _ => N - (intOf i).toNat)
    case atStart => exact ⟨0, Nat.zero_le _, rfl, rfl, Below.refl _ _⟩
    case round =>
      obtain ⟨k, hk, rfl, rfl, hB⟩ := hrel
      have hsz := hB.size
      have hts : (bs (fw k)).size ≤ 200 := by rw [bs_size, fw_len]; omega
      by_cases hlt : k < N
      · have HPK := Lib.hid (HP.out k (by omega))
        obtain ⟨c, hc⟩ : ∃ c, c = fwc k := ⟨_, rfl⟩
        have HT := Lib.hid (show fw (k + 1) = fw k ++ [c] by rw [fw, hc])
        have HL : (sp k).length ≤ 1048576 := by rw [sp, List.length_reverse]; have := trT_le (gs 58 k); rw [gs_len] at this; omega
        obtain ⟨L, hL⟩ : ∃ L, L = sp k := ⟨_, rfl⟩
        rw [fwc, ← hL] at hc
        rw [← hL] at HPK HL
        have HLE := Lib.hid HL
        have HC := Lib.hid hc
        clear hL hc HL
        go_wp2_with fail
        refine (HPK.out _).mono ?_
        rintro e w1 ⟨v1, rfl, hO, hB1⟩
        have hA := Lib.hid (specAt_any v1 L 0 w1 (RowAt.of_owns hO) HLE.out (by omega))
        obtain ⟨a3, c3, e3, _, _⟩ := owns_form hO
        obtain ⟨ln, hln⟩ : ∃ ln, ln = L.length := ⟨_, rfl⟩
        rw [← hln] at e3
        subst e3
        have HBB := Lib.hid (hB.trans (hB1.mono hsz))
        clear hO hln hB hB1
        go_wp2_with fail
        refine hA.out.mono ?_
        rintro e w2 ⟨rfl, rfl⟩
        obtain ⟨d, hd⟩ : ∃ d, d = at0 L 0 := ⟨_, rfl⟩
        rw [← hd] at HC ⊢
        clear hd
        by_cases h1 : d = 1
        · have HCC := Lib.hid (show c = 98 by rw [HC.out, if_pos h1])
          subst h1
          go_wp2
          exact ⟨⟨k + 1, hlt, by go_num, by rw [HT.out, HCC.out, bs_add], HBB.out⟩, by simp [intOf]; omega⟩
        · have HCC := Lib.hid (show c = 97 by rw [HC.out, if_neg h1])
          have hq : (d == 1) = false := by simpa using h1
          clear h1
          go_wp2
          exact ⟨⟨k + 1, hlt, by go_num, by rw [HT.out, HCC.out, bs_add], HBB.out⟩, by simp [intOf]; omega⟩
      · have hkl : k = N := by omega
        subst hkl
        go_wp2
        go_ret
        exact ⟨by rw [E0.out]; rfl, hB⟩

end Go.Proofs.Ytkimojjhmllnfaa
