/- Signed binary digits: what the program's functions answer at the digits of integers. -/
import Derived.Test.YtiemhhkoegkleaaDgCnt
import Derived.Test.YtiemhhkoegkleaaSgRwI
import Derived.Test.YtiemhhkoegkleaaSgImp
import Derived.Test.YtiemhhkoegkleaaLawFns
import Derived.Test.YtiemhhkoegkleaaSgDraw
set_option linter.unusedVariables false
set_option linter.unusedSimpArgs false
set_option maxRecDepth 100000
namespace Go.Proofs.Ytiemhhkoegkleaa
open Go.ChangeShapes Go.WideShapes Go.ChangeAt Go.RowKit

theorem wn_pos : ∀ n : Int, n ≠ 0 → 1 ≤ wn n := by
  refine spd_induct (fun h => absurd rfl h) (fun n hn ih _ => ?_)
  rw [wn_step hn]
  by_cases h : sdig n = 0
  · rw [if_pos h]
    have h1 := (sdig_facts n).1
    have := ih (by omega)
    omega
  · rw [if_neg h]; omega
theorem spd_pos {n : Int} (h : n ≠ 0) : 1 ≤ (spd n).length := by rw [spd_step h, List.length_cons]; omega
theorem wt_sum : ∀ {l : List Int}, (∀ d ∈ l, 0 ≤ d ∧ d ≤ 1) → (wt l : Int) = l.sum
  | [], _ => rfl
  | d :: l, h => by
    have hd := h d (by simp)
    have ih := wt_sum (l := l) (fun x hx => h x (by simp [hx]))
    rw [wt, List.sum_cons]
    split <;> omega
theorem wn_bits (N : Nat) : (wn N : Int) ≤ (dg 2 N).sum := by
  have hN := (nrm_dg (b := 2) (by omega) N).1
  have h1 : ∀ d ∈ dg 2 N, 0 ≤ d ∧ d ≤ 1 := fun d hd => by have := hN d hd; omega
  have h2 : sv (dg 2 N) = N := hv_dg (b := 2) (by omega) N N (Nat.le_refl _)
  have h3 := wn_least (l := dg 2 N) (fun d hd => by have := h1 d hd; omega)
  rw [h2] at h3
  have := wt_sum h1
  omega

section
variable {va vc : Value} {l : List Int} {n : Int} {w : World}

theorem sg_in64 {l : List Int} (hl : AllS l) : ∀ d ∈ l, in64 d := fun d hd => by
  have := hl d hd
  unfold in64; omega
theorem sgOk_sp (h1 : -1000000000000 ≤ n) (h2 : n ≤ 1000000000000) : SgOk (spd n) := by
  have := spd_len42 h1 h2
  exact ⟨nrmS_sp n, by omega, by rw [sv_sp]; exact h1, by rw [sv_sp]; exact h2⟩
theorem sgValueAt (hS : SgOk l) (hn : sv l = n) (hra : RowAt w va (intsOf l)) :
    Calls Try.prog 20 #[va] w fun e w' => e = .returned (.tuple #[.int .i64 n, .bool true]) ∧ Below w.heap.size w w' := by
  obtain ⟨hN, hl, g1, g2⟩ := hS
  have e1 : rSignedValue1 l = true := by rw [rSignedValue1, okS_mk hN hl, inN_mk g1 g2]; rfl
  have e0 : rSignedValue0 l = n := by rw [rSignedValue0, e1, if_pos rfl, hn]
  have := implSignedValue_any va l w hra (by omega) (sg_in64 hN.1)
  rwa [e0, e1] at this
theorem sgRewriteAt (hS : SgOk l) (hn : sv l = n) (hra : RowAt w va (intsOf l)) :
    Calls Try.prog 21 #[va] w (GotNT (spd n) w) := by
  obtain ⟨hN, hl, g1, g2⟩ := hS
  rw [hn] at g1 g2
  have h42 := spd_len42 g1 g2
  have e1 : rRewriteSigned1 l = true := by rw [rRewriteSigned1, okS_mk hN hl, hn]; simp [fits]; omega
  have e0 : rRewriteSigned0 l = spd n := by rw [rRewriteSigned0, e1, if_pos rfl, hn]
  have := implRewriteSigned_any va l w hra (by omega) (sg_in64 hN.1)
  rw [e0, e1] at this
  refine this.mono ?_
  rintro e w' ⟨v, rfl, ho, hb⟩
  obtain ⟨a, cap, rfl, l1, l2⟩ := owns_form ho
  exact ⟨a, cap, rfl, RowAt.of_owns ho, l1, l2, hb⟩
theorem sgOkAt (hS : SgOk l) (hra : RowAt w va (intsOf l)) :
    Calls Try.prog 22 #[va] w fun e w' => e = .returned (.bool true) ∧ Below w.heap.size w w' := by
  have hl := hS.2.1
  have e0 : rSignedOk0 l = true := okS_mk hS.1 hl
  have := implSignedOk_any va l w hra (by omega) (sg_in64 hS.1.1)
  rwa [e0] at this
theorem sgSparseAt (h1 : -1000000000000 ≤ n) (h2 : n ≤ 1000000000000) :
    Calls Try.prog 24 #[.int .i64 n] w (GotN (spd n) w) := by
  have e0 : rSparseDigits0 n = spd n := by rw [rSparseDigits0, inN_mk h1 h2]; rfl
  have := implSparseDigits_any n w (by unfold in64; omega)
  rw [e0] at this
  refine this.mono ?_
  rintro e w' ⟨v, rfl, ho, hb⟩
  obtain ⟨a, cap, rfl, l1, l2⟩ := owns_form ho
  exact ⟨a, cap, rfl, RowAt.of_owns ho, l1, l2, hb⟩
theorem sgIsSparseAt (h1 : -1000000000000 ≤ n) (h2 : n ≤ 1000000000000) (hra : RowAt w va (intsOf (spd n))) :
    Calls Try.prog 25 #[va] w fun e w' => e = .returned (.bool true) ∧ Below w.heap.size w w' := by
  have h42 := spd_len42 h1 h2
  have e0 : rIsSparse0 (spd n) = true := by rw [rIsSparse0, okS_mk (nrmS_sp n) (by omega), (sprB_iff _).2 (spr_sp n)]; rfl
  have := implIsSparse_any va (spd n) w hra (by omega) (sg_in64 (allS_sp n))
  rwa [e0] at this
theorem sgWeightAt (hS : SgOk l) (hra : RowAt w va (intsOf l)) :
    Calls Try.prog 26 #[va] w fun e w' => e = .returned (.int .i64 (wt l)) ∧ Below w.heap.size w w' := by
  have hl := hS.2.1
  have e0 : rWeightOf0 l = wt l := by rw [rWeightOf0, okS_mk hS.1 hl]; rfl
  have := implWeightOf_any va l w hra (by omega) (sg_in64 hS.1.1)
  rwa [e0] at this
theorem sgLeastAt (h1 : -1000000000000 ≤ n) (h2 : n ≤ 1000000000000) :
    Calls Try.prog 27 #[.int .i64 n] w fun e w' => e = .returned (.int .i64 (wn n)) ∧ Below w.heap.size w w' := by
  have e0 : rLeastWeight0 n = wn n := by rw [rLeastWeight0, inN_mk h1 h2]; rfl
  have := implLeastWeight_any n w (by unfold in64; omega)
  rwa [e0] at this
theorem sgCountAt {p u : Nat} (h1 : -5000 ≤ n) (h2 : n ≤ 5000) (hp : p ≤ 12) (hu : u ≤ 12) :
    Calls Try.prog 29 #[.int .i64 n, .int .i64 p, .int .i64 u] w fun e w' => e = .returned (.int .i64 (cnt n p u)) ∧ Below w.heap.size w w' := by
  have q1 : inB n (-5000) 5000 = true := by simp [inB]; omega
  have q2 : inB (p : Int) 0 12 = true := by simp [inB]; omega
  have q3 : inB (u : Int) 0 12 = true := by simp [inB]; omega
  have e0 : rCountSigned0 n p u = cnt n p u := by rw [rCountSigned0, q1, q2, q3, Int.toNat_natCast]; rfl
  have := implCountSigned_any n p u w (by unfold in64; omega) (by unfold in64; omega) (by unfold in64; omega)
  rwa [e0] at this
theorem sgStepsAt (h1 : 0 ≤ n) (h2 : n ≤ 1000000000000) :
    Calls Try.prog 30 #[.int .i64 n] w fun e w' => e = .returned (.int .i64 (if n = 0 then 0 else ((spd n).length : Int) + wn n - 2)) ∧ Below w.heap.size w w' := by
  have q1 : inB n 0 1000000000000 = true := by simp [inB]; omega
  have e0 : rStepsOf0 n = (if n = 0 then 0 else ((spd n).length : Int) + wn n - 2) := by rw [rStepsOf0, q1]; rfl
  have := implStepsOf_any n w (by unfold in64; omega)
  rwa [e0] at this
theorem bitsAt (h1 : 0 ≤ n) (h2 : n ≤ 1000000000000) :
    Calls Try.prog 17 #[.int .i64 n, .int .i64 2] w fun e w' => ∃ s : Int, (wn n : Int) ≤ s ∧ e = .returned (.int .i64 s) ∧ Below w.heap.size w w' := by
  obtain ⟨N, rfl⟩ : ∃ N : Nat, n = N := ⟨n.toNat, by omega⟩
  have e0 : rDigitSum0 N 2 = (dg 2 N).sum := by
    rw [rDigitSum0, show okN (N : Int) 2 = true by simp only [okN, okB, inB, Bool.and_eq_true, decide_eq_true_eq]; omega]
    simp
  have := implDigitSum_any N 2 w (by unfold in64; omega) (by unfold in64; omega)
  rw [e0] at this
  refine this.mono ?_
  rintro e w' ⟨rfl, hb⟩
  exact ⟨_, wn_bits N, rfl, hb⟩
end

end Go.Proofs.Ytiemhhkoegkleaa
