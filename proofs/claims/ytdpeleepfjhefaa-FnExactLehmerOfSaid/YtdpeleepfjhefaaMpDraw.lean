/- What the law on permutations draws: a permutation of up to six items. -/
import Derived.Test.YtdpeleepfjhefaaMpPerm
import Derived.Test.YtdpeleepfjhefaaDrawC
import Derived.Test.YtdpeleepfjhefaaLgDraw
set_option linter.unusedVariables false
set_option linter.unusedSimpArgs false
set_option maxRecDepth 100000
namespace Go.Proofs.Ytdpeleepfjhefaa
open Go.ChangeShapes Go.WideShapes Go.ChangeAt Go.RowKit

/-- what the law needs of the permutation that it draws -/
def MpL (k : Int) (m : Nat) : Prop := 1 ≤ m ∧ m ≤ 6 ∧ 0 ≤ k ∧ k < fct m

set_option maxHeartbeats 4000000 in
theorem l08Draw_any (g : Nat) (w : World) (hc : Cur w g) :
    Calls Try.prog 39 #[.pointer (some ⟨g, 0, none⟩)] w fun e w' => ∃ (k : Int) (m : Nat) (v : Value), MpL k m ∧ e = .returned v ∧ w'.ownsRow w.heap.size 3 1 v (rPermutationAt0 k m).length (intsOf (rPermutationAt0 k m)) ∧ Below g w w' := by
  have hgl := hc.lt
  go_enter Try.func39, Try.ntmps39
  go_wp2_with fail
  refine (below_any g 6 _ hc (by omega) (by omega)).mono ?_
  rintro e w1 ⟨x, ⟨hx0, hx1⟩, rfl, hc1, hg1⟩
  obtain ⟨x, rfl⟩ : ∃ m : Nat, x = m := ⟨x.toNat, by omega⟩
  have hB1 := below_drawn (Below.refl g w) hg1 (by omega)
  have hw1 : IntKind.i64.wrap ((1 : Int) + x) = ((x + 1 : Nat) : Int) := by rw [IntKind.wrap_i64]; omega
  have HF := Lib.hid (fun W => specFct_any (x + 1) W (by omega))
  have HFB := Lib.hid (fct_le (show x + 1 ≤ 12 by omega))
  have hx1' : ((x + 1 : Nat) : Int) = (x : Int) + 1 := rfl
  simp only [hx1'] at HF
  clear hg1 hc
  go_wp2_with fail
  refine (below_any g 256 _ hc1 (by omega) (by omega)).mono ?_
  rintro e w2 ⟨p, ⟨hp0, hp1⟩, rfl, hc2, hg2⟩
  have hB2 := below_drawn hB1 hg2 (by have := hB1.size; omega)
  clear hg2 hc1
  go_wp2_with fail
  refine (below_any g 256 _ hc2 (by omega) (by omega)).mono ?_
  rintro e w3 ⟨q, ⟨hq0, hq1⟩, rfl, hc3, hg3⟩
  have hB3 := below_drawn hB2 hg3 (by have := hB2.size; omega)
  clear hg3 hc2
  go_wp2_with fail
  refine (HF.out _).mono ?_
  rintro e w4 ⟨rfl, rfl⟩
  obtain ⟨f1, f2⟩ := HFB.out
  obtain ⟨F, hF⟩ : ∃ F, F = fct (x + 1) := ⟨_, rfl⟩
  rw [← hF] at f1 f2 ⊢
  have ht : (p * 256 + q).tmod F = (p * 256 + q) % F := Int.tmod_eq_emod_of_nonneg (by omega)
  have r0 : 0 ≤ (p * 256 + q) % F := Int.emod_nonneg _ (by omega)
  have r1 : (p * 256 + q) % F < F := Int.emod_lt_of_pos _ (by omega)
  have hFn : ¬ F = 0 := by omega
  obtain ⟨r, hr⟩ : ∃ r, r = (p * 256 + q) % F := ⟨_, rfl⟩
  rw [← hr] at ht r0 r1
  have HP := Lib.hid (fun W => specPermutationAt_any r ((x + 1 : Nat) : Int) W ⟨by omega, by omega⟩ ⟨by omega, by omega⟩)
  simp only [hx1'] at HP
  have HM := Lib.hid (show MpL r (x + 1) from ⟨by omega, by omega, r0, by rw [← hF]; exact r1⟩)
  clear hr hF
  go_wp2_with fail
  refine (HP.out _).mono ?_
  rintro e w5 ⟨v, rfl, hO, hB5⟩
  have hs3 := hB3.size
  have HO := Lib.hid (owns_mono hO hs3)
  have hB := hB3.trans (hB5.mono (by omega))
  clear hO
  go_wp2_with fail
  go_ret
  exact ⟨r, x + 1, v, HM.out, rfl, HO.out, hB⟩

set_option maxHeartbeats 2000000 in
theorem makePermutation_any (v : Value) (n : Nat) (w : World) (hv : BytesAt w v) (hn : n ≤ 1000) :
    Calls Try.prog 13 #[v, .int .i64 n] w fun e w' => ∃ (k : Int) (m : Nat) (v' : Value), MpL k m ∧ e = .returned v' ∧ RowAt w' v' (intsOf (rPermutationAt0 k m)) ∧ Below w.heap.size w w' := by
  have HV := Lib.hid hv
  obtain ⟨a, len, cap, zs, rfl, _⟩ := hv
  go_enter Try.func13, Try.ntmps13
  go_wp2_with fail
  refine (l31New_any _ n _ HV.out hn).mono ?_
  rintro e w1 ⟨g, rfl, hg0, hc1, hb1⟩
  have hs1 := hb1.size
  go_wp2_with fail
  refine (l08Draw_any g _ hc1).mono ?_
  rintro e w2 ⟨k, m, v', hS, rfl, ho, hb2⟩
  have HR := Lib.hid (RowAt.of_owns ho)
  have HS := Lib.hid hS
  have hB2 := hb1.trans (hb2.mono hg0)
  clear ho hb2 hb1 hc1 hS
  go_wp2_with fail
  go_ret
  exact ⟨k, m, v', HS.out, rfl, HR.out, hB2⟩

end Go.Proofs.Ytdpeleepfjhefaa
