/- Signed binary digits: the program's kinds of lists: one digit more, and whether a kind can become the wanted one. -/
import Derived.Test.YtiemhhkoegkleaaLgCmp
import Derived.Test.YtiemhhkoegkleaaSgI1
import Derived.Test.YtiemhhkoegkleaaMapK
import Derived.StillTailTactics
set_option linter.unusedVariables false
set_option linter.unusedSimpArgs false
set_option maxRecDepth 100000
namespace Go.Proofs.Ytiemhhkoegkleaa
open Go.ChangeShapes Go.WideShapes Go.ChangeAt Go.RowKit

set_option maxHeartbeats 1000000 in
theorem withDigit_any (x y d : Int) (w : World) (hx1 : -1000000 ≤ x) (hx2 : x ≤ 1000000) (hy1 : 0 ≤ y) (hy2 : y ≤ 1000) (hd1 : -1 ≤ d) (hd2 : d ≤ 1) :
    Calls Try.prog 89 #[kv x y, .int .i64 d] w fun e w' => e = .returned (kv (2 * x + d) (y + dwt d)) ∧ Below w.heap.size w w' := by
  obtain ⟨u, hu⟩ : ∃ u, u = dwt d := ⟨_, rfl⟩
  have HQ := Lib.hid (fun W => show Calls Try.prog 64 #[.int .i64 d] W (fun e w' => e = .returned (.int .i64 (dwt d)) ∧ w' = W) from (dweight_any d W hd1 hd2).mono (by rintro e w' ⟨rfl, rfl⟩; exact ⟨rfl, rfl⟩))
  rw [← hu] at HQ ⊢
  have hu1 : u ≤ 1 := by rw [hu]; unfold dwt; split <;> omega
  clear hu
  have q1 : IntKind.i64.wrap (2 * x) = 2 * x := by rw [IntKind.wrap_i64]; omega
  have q2 : IntKind.i64.wrap (2 * x + d) = 2 * x + d := by rw [IntKind.wrap_i64]; omega
  have q3 : IntKind.i64.wrap (y + u) = y + u := by rw [IntKind.wrap_i64]; omega
  have c0 : ((w.alloc (.cells #[.int .i64 x, .int .i64 y] 79)).alloc (.cells #[.int .i64 0, .int .i64 0] 79)).cell? ⟨w.heap.size, 0, none⟩ = some (.int .i64 x) := by go_simp
  have c1 : ((w.alloc (.cells #[.int .i64 x, .int .i64 y] 79)).alloc (.cells #[.int .i64 0, .int .i64 0] 79)).cell? ⟨w.heap.size, 1, none⟩ = some (.int .i64 y) := by go_simp
  have e0 : ((w.alloc (.cells #[.int .i64 x, .int .i64 y] 79)).alloc (.cells #[.int .i64 0, .int .i64 0] 79)).cell? ⟨w.heap.size + 1, 0, none⟩ = some (.int .i64 0) := by go_simp
  have e1 : ((w.alloc (.cells #[.int .i64 x, .int .i64 y] 79)).alloc (.cells #[.int .i64 0, .int .i64 0] 79)).cell? ⟨w.heap.size + 1, 1, none⟩ = some (.int .i64 0) := by go_simp
  have f0 : ((w.alloc (.cells #[.int .i64 x, .int .i64 y] 79)).alloc (.cells #[.int .i64 0, .int .i64 0] 79)).frozen? ⟨w.heap.size + 1, 0, none⟩ = false := by go_simp
  have f1 : ((w.alloc (.cells #[.int .i64 x, .int .i64 y] 79)).alloc (.cells #[.int .i64 0, .int .i64 0] 79)).frozen? ⟨w.heap.size + 1, 1, none⟩ = false := by go_simp
  have hB : Below w.heap.size w ((w.alloc (.cells #[.int .i64 x, .int .i64 y] 79)).alloc (.cells #[.int .i64 0, .int .i64 0] 79)) := ((Below.refl _ w).alloc (Nat.le_refl _) _).alloc (by simp) _
  obtain ⟨W2, hW2⟩ : ∃ W2, ((w.alloc (.cells #[.int .i64 x, .int .i64 y] 79)).alloc (.cells #[.int .i64 0, .int .i64 0] 79)) = W2 := ⟨_, rfl⟩
  rw [hW2] at c0 c1 e0 e1 f0 f1 hB
  have HB := Lib.hid hB
  have HW2 := Lib.hid hW2
  clear hB hW2
  go_enter Try.func89, Try.ntmps89
  go_wp2
  rw [HW2.out]
  refine wp_region_still_tail 11 (by kernel_rfl) (by kernel_rfl) ?_
  simp only [List.take_succ_cons, List.take_zero, List.drop_succ_cons, List.drop_zero]
  change wpStill _ _ (World.drewN W2 1) _ _ _
  repeat (first | still_step | still_call (HQ.out _))
  refine wpStill_nil ?_
  change wpList _ _ _ _ _ (W2.drewN 1)
  go_wp2
  have r1 : (((W2.drewN 1).setCell ⟨w.heap.size + 1, 0, none⟩ (.int .i64 (2 * x + d))).setCell ⟨w.heap.size + 1, 1, none⟩ (.int .i64 (y + u))).cell? ⟨w.heap.size + 1, 0, none⟩ = some (.int .i64 (2 * x + d)) := by go_simp
  have r2 : (((W2.drewN 1).setCell ⟨w.heap.size + 1, 0, none⟩ (.int .i64 (2 * x + d))).setCell ⟨w.heap.size + 1, 1, none⟩ (.int .i64 (y + u))).cell? ⟨w.heap.size + 1, 1, none⟩ = some (.int .i64 (y + u)) := by go_simp
  refine bodyPost_ret (v := kv (2 * x + d) (y + u)) ?_ rfl ⟨rfl, ?_⟩
  · simp [results, Try.f89, go_sem, r1, r2]
  · exact ((below_drewN HB.out 1).setCell (p := ⟨w.heap.size + 1, 0, none⟩) (by simp) _).setCell (p := ⟨w.heap.size + 1, 1, none⟩) (by simp) _

/-- can a list of kind (x, y) become one of kind (n, u) by p digits more -/
def canBe (n u : Int) (p : Nat) (x y : Int) : Bool := decide ((n - x * 2 ^ p).natAbs < 2 ^ p) && decide (y ≤ u)

set_option maxHeartbeats 1000000 in
theorem canBecome_any (x y n u : Int) (p : Nat) (w : World) (hx1 : -1000000 ≤ x) (hx2 : x ≤ 1000000) (hn1 : -10000 ≤ n) (hn2 : n ≤ 10000) (hp : p ≤ 12) :
    Calls Try.prog 67 #[kv x y, kv n u, .int .i64 p] w fun e w' => e = .returned (.bool (canBe n u p x y)) ∧ Below w.heap.size w w' := by
  have hQ4 : (2 : Int) ^ p ≤ 4096 := by
    have h1 : 2 ^ p ≤ 2 ^ 12 := Nat.pow_le_pow_right (by omega) hp
    have h2 : ((2 ^ p : Nat) : Int) = (2 : Int) ^ p := Int.natCast_pow _ _
    omega
  have hQ1 : (1 : Int) ≤ 2 ^ p := by
    have h1 : 1 ≤ 2 ^ p := Nat.one_le_two_pow
    have h2 : ((2 ^ p : Nat) : Int) = (2 : Int) ^ p := Int.natCast_pow _ _
    omega
  obtain ⟨Q, hQ⟩ : ∃ Q, Q = (2 : Int) ^ p := ⟨_, rfl⟩
  obtain ⟨X, hX⟩ : ∃ X, X = x * 2 ^ p := ⟨_, rfl⟩
  have hXb : X.natAbs ≤ 4096000000 := by
    rw [hX, Int.natAbs_mul]
    have h1 : x.natAbs ≤ 1000000 := by omega
    have h2 : ((2 : Int) ^ p).natAbs ≤ 4096 := by omega
    exact Nat.le_trans (Nat.mul_le_mul h1 h2) (by decide)
  rw [← hQ] at hQ4 hQ1
  have HV := Lib.hid (show canBe n u p x y = (decide ((n - X).natAbs < Q.toNat) && decide (y ≤ u)) by
    rw [canBe, ← hX, hQ]
    have h2 : ((2 ^ p : Nat) : Int) = (2 : Int) ^ p := Int.natCast_pow _ _
    rw [← h2, Int.toNat_natCast])
  have s1 : IntKind.i64.wrap (x * 2 ^ p) = X := by rw [IntKind.wrap_i64, ← hX]; omega
  have s2 : IntKind.i64.wrap (2 ^ p) = Q := by rw [IntKind.wrap_i64, ← hQ]; omega
  obtain ⟨Y, hY⟩ : ∃ Y, Y = n - X := ⟨_, rfl⟩
  have hYb : Y.natAbs ≤ 4096010000 := by omega
  have s3 : IntKind.i64.wrap (n - X) = Y := by rw [IntKind.wrap_i64, ← hY]; omega
  rw [← hY] at HV
  have hp0 : (0 : Int) ≤ p := by omega
  have hp64 : (p : Int) ≤ 64 := by omega
  have c0 : ((w.alloc (.cells #[.int .i64 x, .int .i64 y] 79)).alloc (.cells #[.int .i64 n, .int .i64 u] 79)).cell? ⟨w.heap.size, 0, none⟩ = some (.int .i64 x) := by go_simp
  have c1 : ((w.alloc (.cells #[.int .i64 x, .int .i64 y] 79)).alloc (.cells #[.int .i64 n, .int .i64 u] 79)).cell? ⟨w.heap.size, 1, none⟩ = some (.int .i64 y) := by go_simp
  have e0 : ((w.alloc (.cells #[.int .i64 x, .int .i64 y] 79)).alloc (.cells #[.int .i64 n, .int .i64 u] 79)).cell? ⟨w.heap.size + 1, 0, none⟩ = some (.int .i64 n) := by go_simp
  have e1 : ((w.alloc (.cells #[.int .i64 x, .int .i64 y] 79)).alloc (.cells #[.int .i64 n, .int .i64 u] 79)).cell? ⟨w.heap.size + 1, 1, none⟩ = some (.int .i64 u) := by go_simp
  have hB : Below w.heap.size w ((w.alloc (.cells #[.int .i64 x, .int .i64 y] 79)).alloc (.cells #[.int .i64 n, .int .i64 u] 79)) := ((Below.refl _ w).alloc (Nat.le_refl _) _).alloc (by simp) _
  obtain ⟨W2, hW2⟩ : ∃ W2, ((w.alloc (.cells #[.int .i64 x, .int .i64 y] 79)).alloc (.cells #[.int .i64 n, .int .i64 u] 79)) = W2 := ⟨_, rfl⟩
  rw [hW2] at c0 c1 e0 e1 hB
  have HB := Lib.hid hB
  have HW2 := Lib.hid hW2
  clear hB hW2 hQ hX hXb hY
  have hcase : (Y < -Y ∧ ((-Y < Q ∧ y ≤ u ∧ canBe n u p x y = true) ∨ (-Y < Q ∧ ¬ y ≤ u ∧ canBe n u p x y = false) ∨ (¬ -Y < Q ∧ canBe n u p x y = false))) ∨ (¬ Y < -Y ∧ ((Y < Q ∧ y ≤ u ∧ canBe n u p x y = true) ∨ (Y < Q ∧ ¬ y ≤ u ∧ canBe n u p x y = false) ∨ (¬ Y < Q ∧ canBe n u p x y = false))) := by
    rw [HV.out]
    simp only [Bool.and_eq_true, Bool.and_eq_false_iff, decide_eq_true_eq, decide_eq_false_iff_not]
    omega
  clear HV
  have HV := Lib.hid (show canBe n u p x y = canBe n u p x y from rfl)
  obtain ⟨r, hr⟩ : ∃ r, r = canBe n u p x y := ⟨_, rfl⟩
  rw [← hr] at hcase ⊢
  clear hr HV
  have hY1 : -4096010000 ≤ Y := by omega
  have hY2 : Y ≤ 4096010000 := by omega
  clear hYb
  rcases hcase with ⟨g1, ⟨g2, g3, rfl⟩ | ⟨g2, g3, rfl⟩ | ⟨g2, rfl⟩⟩ | ⟨g1, ⟨g2, g3, rfl⟩ | ⟨g2, g3, rfl⟩ | ⟨g2, rfl⟩⟩
  all_goals
    go_enter Try.func67, Try.ntmps67
    go_wp2
    rw [HW2.out]
    go_quiet (fail)
    go_wp2
    go_ret
    refine ⟨ret_bool ?_, below_drewN HB.out _⟩
    first | rfl | exact decide_eq_false (Int.not_le.2 g3) | exact decide_eq_false g3 | exact decide_eq_true g3

end Go.Proofs.Ytiemhhkoegkleaa
