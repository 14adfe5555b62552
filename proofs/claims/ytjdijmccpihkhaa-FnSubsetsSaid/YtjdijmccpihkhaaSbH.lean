/- The mask of the subset at a rank. -/
import Derived.Test.YtjdijmccpihkhaaSbImp
import Derived.Test.YtjdijmccpihkhaaCur
import Derived.Test.YtjdijmccpihkhaaNgM
import Derived.Deep.RegionHeld3
set_option linter.unusedVariables false
set_option linter.unusedSimpArgs false
set_option maxRecDepth 100000
namespace Go.Proofs.Ytjdijmccpihkhaa
open Go.ChangeShapes Go.WideShapes Go.ChangeAt Go.RowKit

/-- where the search for the mask stands: E numbers are left, k of them are to be taken -/
structure MkI (K N0 E k m s : Nat) : Prop where
  le : E ≤ 20
  kK : k ≤ K
  lt : m < bn E k
  mN : m ≤ N0
  eq : s + mkD (gr k m) = mkD (gr K N0)
theorem mkI_take {K N0 E k m s : Nat} (hk : 0 < k) (h : MkI K N0 (E + 1) k m s) (hle : bn E k ≤ m) : MkI K N0 E (k - 1) (m - bn E k) (s + 2 ^ E) := by
  obtain ⟨j, rfl⟩ : ∃ j, k = j + 1 := ⟨k - 1, by omega⟩
  have hE := h.le
  have hlt := h.lt
  have ht : tp (j + 1) m = E := tpD_eq (by omega) (by omega) hle hlt
  have he := h.eq
  rw [gr, ht, mkD, Int.toNat_natCast] at he
  rw [bn_s] at hlt
  refine ⟨by omega, by have := h.kK; omega, ?_, by have := h.mN; omega, ?_⟩
  · show m - bn E (j + 1) < bn E j
    omega
  · show s + 2 ^ E + mkD (gr j (m - bn E (j + 1))) = _
    omega
theorem mkI_pass {K N0 E k m s : Nat} (h : MkI K N0 (E + 1) k m s) (hlt : m < bn E k) : MkI K N0 E k m s :=
  ⟨by have := h.le; omega, h.kK, hlt, h.mN, h.eq⟩
theorem mkI_end {K N0 E m s : Nat} (h : MkI K N0 E 0 m s) : s = mk (gr K N0).reverse := by
  have := h.eq
  rw [gr, mkD, mkD_mk] at this
  omega
theorem mkI_none {K N0 k m s : Nat} (h : MkI K N0 0 k m s) : k = 0 := by
  rcases Nat.eq_zero_or_pos k with h0 | h0
  · exact h0
  · have := h.lt
    rw [bn_zero h0] at this; omega

set_option maxHeartbeats 4000000 in
theorem implMaskAt_any (N0 K : Nat) (w : World) (hK : K ≤ 8) (hN : N0 < bn 20 K) :
    Calls Try.prog 38 #[.int .i64 N0, .int .i64 K] w fun e w' => e = .returned (.int .i64 (mk (gr K N0).reverse)) ∧ w = w' := by
  have hN30 := bn_30 (n := 20) (k := K) (by omega)
  have HN := Lib.hid hN
  have HMK := Lib.hid (show mk (gr K N0).reverse < 1048576 from mk_small (desc_okS (m := 20) (Nat.le_refl _) (gr_desc (Nat.le_refl 20) hN).1))
  have HB := Lib.hid (fun (x k : Nat) (hx : x ≤ 30) (hk : k ≤ 30) W => implBn_any x k W hx hk)
  have hNb : N0 ≤ 1073741824 := by omega
  clear hN hN30
  go_enter Try.func38, Try.ntmps38
  go_wp2_with fail
  go_loopg [0, 1, 5, 6] 20 (fun g nv kv s el wr => ∃ (m k S : Nat) (i : Int), nv = .int .i64 m ∧ kv = .int .i64 k ∧ s = .int .i64 S ∧ el = .int .i64 i ∧ i = (g : Int) - 1 ∧ MkI K N0 g k m S ∧ wr = w)
  case atStart => exact ⟨N0, K, 0, 19, rfl, rfl, rfl, rfl, by omega, ⟨Nat.le_refl _, Nat.le_refl _, HN.out, Nat.le_refl _, by omega⟩, rfl⟩
  case round =>
    obtain ⟨m, k, S, i, rfl, rfl, rfl, rfl, hi, hM, rfl⟩ := hrel
    have hE := hM.le
    have hkK := hM.kK
    have hmN := hM.mN
    have hS : S < 1048576 := by
      have h1 := hM.eq
      rw [mkD_mk (gr K N0)] at h1
      have := HMK.out; omega
    by_cases h0 : gk = 0
    · subst h0
      have hk0 := mkI_none hM
      subst hk0
      have HE := Lib.hid (mkI_end hM)
      obtain rfl : i = -1 := by omega
      clear hM hi
      go_wp2_with fail
      go_ret
      exact ⟨by rw [← HE.out]; rfl, rfl⟩
    · obtain ⟨e, he⟩ : ∃ e, gk = e + 1 := ⟨gk - 1, by omega⟩
      subst he
      obtain rfl : i = e := by omega
      clear hi h0
      by_cases hk : 0 < k
      · have HM := Lib.hid hM
        have HBe := Lib.hid (fun W => HB.out e k (by omega) (by omega) W)
        have hbe := bn_30 (n := e) (k := k) (by omega)
        obtain ⟨p1, p2⟩ := pow_sm (x := e) (by omega)
        have hpc : ((2 ^ e : Nat) : Int) = (2 : Int) ^ e := Int.natCast_pow _ _
        clear hM
        by_cases hle : bn e k ≤ m
        · have HNX := mkI_take hk HM.out hle
          obtain ⟨B, hB⟩ : ∃ B, B = bn e k := ⟨_, rfl⟩
          rw [← hB] at HBe hbe hle HNX
          obtain ⟨P, hP⟩ : ∃ P, P = 2 ^ e := ⟨_, rfl⟩
          rw [← hP] at p1 p2 hpc HNX
          have s2 : IntKind.i64.wrap ((2 : Int) ^ e) = P := by rw [IntKind.wrap_i64, ← hpc]; omega
          have HX := Lib.hid HNX
          clear hB hP HNX hpc
          go_wp2_with fail
          refine (HBe.out _).mono ?_
          rintro e w' ⟨rfl, rfl⟩
          go_wp2_with fail
          go_roundg e
          case rel => exact ⟨m - B, k - 1, S + P, (e : Int) - 1, by go_num, by go_num, by go_num, by go_num, rfl, HX.out, rfl⟩
          case measure => omega
        · have HNX := mkI_pass HM.out (by omega)
          have HX := Lib.hid HNX
          obtain ⟨B, hB⟩ : ∃ B, B = bn e k := ⟨_, rfl⟩
          rw [← hB] at HBe hbe hle
          clear hB HNX hpc p1 p2
          go_wp2_with fail
          refine (HBe.out _).mono ?_
          rintro e w' ⟨rfl, rfl⟩
          go_wp2_with fail
          go_roundg e
          case rel => exact ⟨m, k, S, (e : Int) - 1, rfl, rfl, rfl, by go_num, rfl, HX.out, rfl⟩
          case measure => omega
      · obtain rfl : k = 0 := by omega
        have HE := Lib.hid (mkI_end hM)
        clear hM
        go_wp2_with fail
        go_ret
        exact ⟨by rw [← HE.out]; rfl, rfl⟩

end Go.Proofs.Ytjdijmccpihkhaa
