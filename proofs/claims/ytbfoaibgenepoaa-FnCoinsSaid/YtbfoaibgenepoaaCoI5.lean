/- Places of coins, the program: coins by a recurrence. -/
import Derived.Test.YtbfoaibgenepoaaCoI1
import Derived.Test.YtbfoaibgenepoaaRf
import Derived.Test.YtbfoaibgenepoaaLgCmp
import Derived.Test.YtbfoaibgenepoaaCoCnt
import Derived.Test.YtbfoaibgenepoaaCoRec
import Derived.Deep.RegionHeld3
import Derived.Lib.SliceRun
import Derived.RangeFuncCalls
import Derived.Sort.LoopGhostIn
import Derived.Sort.QuietIn
set_option linter.unusedVariables false
set_option linter.unusedSimpArgs false
set_option maxRecDepth 100000
namespace Go.Proofs.Ytbfoaibgenepoaa
open Go.ChangeShapes Go.WideShapes Go.ChangeAt Go.RowKit

theorem rc1_bd {a b : Int} (a1 : 1 ≤ a) (a2 : a ≤ 9) (b1 : 0 ≤ b) (b2 : b ≤ 9) : ∀ n : Nat, 0 ≤ rc1 a b n ∧ rc1 a b n ≤ ((10 * 18 ^ n : Nat) : Int)
  | 0 => by simp [rc1]
  | 1 => by simp [rc1]; omega
  | n + 2 => by
    have h1 := rc1_bd a1 a2 b1 b2 (n + 1)
    have h2 := rc1_bd a1 a2 b1 b2 n
    have e : rc1 a b (n + 2) = a * rc1 a b (n + 1) + b * rc1 a b n := rfl
    have m1 := Int.mul_nonneg (show 0 ≤ a by omega) h1.1
    have m2 := Int.mul_nonneg b1 h2.1
    have m3 := Int.mul_le_mul a2 h1.2 h1.1 (by decide)
    have m4 := Int.mul_le_mul b2 h2.2 h2.1 (by decide)
    have p1 : 10 * 18 ^ (n + 1) = 18 * (10 * 18 ^ n) := by rw [Nat.pow_succ]; omega
    have p2 : 10 * 18 ^ (n + 2) = 18 * (18 * (10 * 18 ^ n)) := by rw [Nat.pow_succ, Nat.pow_succ]; omega
    rw [p1] at m3
    rw [p2, e]
    omega
theorem rc1_ten {a b : Int} (a1 : 1 ≤ a) (a2 : a ≤ 9) (b1 : 0 ≤ b) (b2 : b ≤ 9) {n : Nat} (hn : n ≤ 9) : 0 ≤ rc1 a b n ∧ rc1 a b n ≤ 1983592903680 := by
  have h := rc1_bd a1 a2 b1 b2 n
  have h2 : 18 ^ n ≤ 18 ^ 9 := Nat.pow_le_pow_right (by decide) hn
  have h3 : (18 : Nat) ^ 9 = 198359290368 := by decide
  omega
/-- the first i ones -/
def rcF (a b : Int) (i y : Nat) : Int := if y < i then rc1 a b y else 0
theorem rcF_zero (a b : Int) (m : Nat) : List.replicate (m + 1) (0 : Int) = tblC m (rcF a b 0) := by
  unfold tblC; apply List.ext_getElem (by simp); intro i h1 h2; simp [rcF]
theorem rcF_next (a b : Int) (m i : Nat) : (tblC m (rcF a b i)).set i (rc1 a b i) = tblC m (rcF a b (i + 1)) := by
  rw [tblC_set]
  refine tblC_same (fun y _ => ?_)
  by_cases h : y = i
  · rw [if_pos h, rcF, if_pos (by omega), h]
  · rw [if_neg h, rcF, rcF]
    by_cases h2 : y < i
    · rw [if_pos h2, if_pos (by omega)]
    · rw [if_neg h2, if_neg (by omega)]
theorem rcF_end (a b : Int) (m : Nat) : tblC m (rcF a b (m + 1)) = rcT a b (m + 1) :=
  tblC_same (fun y hy => by rw [rcF, if_pos (by omega)])

set_option maxHeartbeats 8000000 in
theorem implRecurrentCoins_any (a b k : Int) (w : World) (ha : in64 a) (hb : in64 b) (hk : in64 k) :
    Calls Try.prog 23 #[.int .i64 a, .int .i64 b, .int .i64 k] w fun e w' => ∃ v', e = .returned (.tuple #[v', .bool (rRecurrentCoins1 a b k)]) ∧ w'.ownsRow w.heap.size 3 1 v' (rRecurrentCoins0 a b k).length (intsOf (rRecurrentCoins0 a b k)) ∧ Below w.heap.size w w' := by
  obtain ⟨i0, hi0, hz0, hz1, hz2⟩ := info_parts infoInt
  have HNO := Lib.hid (fun (h : okRec a b k = false) (W : World) (hB : Below w.heap.size w W) => rec_no hB h)
  by_cases a1 : a < 1
  · have HN := Lib.hid (HNO.out (by simp [okRec, inB]; omega))
    clear HNO
    go_enter Try.func23, Try.ntmps23
    go_wp2_with fail
    go_ret2
    exact HN.out _ (Below.refl _ _)
  by_cases a2 : 9 < a
  · have HN := Lib.hid (HNO.out (by simp [okRec, inB]; omega))
    clear HNO
    go_enter Try.func23, Try.ntmps23
    go_wp2_with fail
    go_ret2
    exact HN.out _ (Below.refl _ _)
  by_cases b1 : b < 0
  · have HN := Lib.hid (HNO.out (by simp [okRec, inB]; omega))
    clear HNO
    go_enter Try.func23, Try.ntmps23
    go_wp2_with fail
    go_ret2
    exact HN.out _ (Below.refl _ _)
  by_cases b2 : 9 < b
  · have HN := Lib.hid (HNO.out (by simp [okRec, inB]; omega))
    clear HNO
    go_enter Try.func23, Try.ntmps23
    go_wp2_with fail
    go_ret2
    exact HN.out _ (Below.refl _ _)
  by_cases k1 : k < 1
  · have HN := Lib.hid (HNO.out (by simp [okRec, inB]; omega))
    clear HNO
    go_enter Try.func23, Try.ntmps23
    go_wp2_with fail
    go_ret2
    exact HN.out _ (Below.refl _ _)
  by_cases k2 : 10 < k
  · have HN := Lib.hid (HNO.out (by simp [okRec, inB]; omega))
    clear HNO
    go_enter Try.func23, Try.ntmps23
    go_wp2_with fail
    go_ret2
    exact HN.out _ (Below.refl _ _)
  obtain ⟨m, rfl⟩ : ∃ m : Nat, k = ((m + 1 : Nat) : Int) := ⟨k.toNat - 1, by omega⟩
  have hm9 : m ≤ 9 := by omega
  have EOK := Lib.hid (show okRec a b ((m + 1 : Nat) : Int) = okC (rcT a b (m + 1)) by
    rw [okRec, show inB a 1 9 = true by simp [inB]; omega, show inB b 0 9 = true by simp [inB]; omega, show inB ((m + 1 : Nat) : Int) 1 10 = true by simp [inB]; omega]; rfl)
  have HYES := Lib.hid (fun (W : World) v' (hB : Below w.heap.size w W) (h : okC (rcT a b (m + 1)) = true) (ho : W.ownsRow w.heap.size 3 1 v' (m + 1) (intsOf (rcT a b (m + 1)))) => show ∃ v2, Ending.returned (.tuple #[v', .bool true]) = .returned (.tuple #[v2, .bool (rRecurrentCoins1 a b ((m + 1 : Nat) : Int))]) ∧ W.ownsRow w.heap.size 3 1 v2 (rRecurrentCoins0 a b ((m + 1 : Nat) : Int)).length (intsOf (rRecurrentCoins0 a b ((m + 1 : Nat) : Int))) ∧ Below w.heap.size w W from by
    have e : okRec a b ((m + 1 : Nat) : Int) = true := EOK.out.trans h
    refine ⟨v', by rw [rRecurrentCoins1, e], ?_, hB⟩
    rw [rRecurrentCoins0, e, if_pos rfl, Int.toNat_natCast, rcT_len]; exact ho)
  have HBD := Lib.hid (fun (n : Nat) (hn : n ≤ 9) => rc1_ten (show 1 ≤ a by omega) (show a ≤ 9 by omega) (show 0 ≤ b by omega) (show b ≤ 9 by omega) hn)
  have HCO := Lib.hid (fun W v (hr : RowAt W v (intsOf (rcT a b (m + 1)))) => implCo_any v (rcT a b (m + 1)) W hr (by rw [rcT_len]; omega))
  obtain ⟨K, hK⟩ : ∃ K, K = m + 1 := ⟨_, rfl⟩
  rw [← hK] at k1 k2 HNO HYES HCO EOK ⊢
  have HK := Lib.hid hK
  have hK10 : K ≤ 10 := by omega
  have hK1 : 1 ≤ K := by omega
  clear hK
  go_enter Try.func23, Try.ntmps23
  go_wp2_with (at_make; refine wpList_make_full _ rfl _ _ 23 rfl w.heap.size 3 i0 (.int .i64 0) 1 Try.underlying23 hi0 hz0 hz1 _ _ _ _ K rfl rfl rfl rfl ?c1 ?c2 ?c3 ?_)
  case c1 => omega
  case c2 => unfold maxLen; omega
  intro w1 hown hgrow
  have hB1 : Below w.heap.size w w1 := (Below.refl _ _).grown hgrow (Nat.le_refl _) (fun k hk => by cases hk)
  have HO1 := Lib.hid (show w1.ownsRow w.heap.size 3 1 (.slice (some ⟨w.heap.size, 0, none⟩) K K) K (intsOf (tblC m (rcF a b 0))) by
    rw [toList_madeCells_one] at hown; rw [← rcF_zero, ← HK.out, ← cw_zeros]; simpa using hown)
  clear hown hgrow
  go_wp2_with fail
  go_loopw [36] (fun i wr => ∃ j : Nat, j ≤ K ∧ i = .int .i64 j ∧ wr.ownsRow w.heap.size 3 1 (.slice (some ⟨w.heap.size, 0, none⟩) K K) K (intsOf (tblC m (rcF a b j))) ∧ Below w.heap.size w wr) (fun i _ => K - (intOf i).toNat)
  case atStart => exact ⟨0, Nat.zero_le _, rfl, HO1.out, hB1⟩
  case round =>
    obtain ⟨j, hj, rfl, hown, hB⟩ := hrel
    clear hB1 HO1
    by_cases hjl : j < K
    · have hst := (hown.stored j (.int .i64 (rc1 a b j))).1
      rw [cw_ints_set, rcF_next] at hst
      have hst1 := ((owns_drewN_c hown 1).stored j (.int .i64 (rc1 a b j))).1
      rw [cw_ints_set, rcF_next] at hst1
      have HST := Lib.hid hst
      have HST1 := Lib.hid hst1
      have HCE := Lib.hid (fun x (hx : x < j) => show wr.cell? ⟨w.heap.size, x, none⟩ = some (.int .i64 (rc1 a b x)) by
        have h1 := hown.cellAt x (by omega)
        rw [tblC_at (by have := HK.out; omega), rcF, if_pos hx] at h1
        simpa using h1)
      obtain ⟨y1, hcy⟩ : ∃ y1, wr.cell? ⟨w.heap.size, j, none⟩ = some (.int .i64 y1) := by
        have h1 := hown.cellAt j (by omega)
        rw [tblC_at (by have := HK.out; omega)] at h1
        exact ⟨_, by simpa using h1⟩
      have hfx : wr.frozen? ⟨w.heap.size, j, none⟩ = false := by have := hown.frozenAt j; simpa using this
      have hji : (j : Int) < K := by omega
      have HBB := Lib.hid hB
      clear hst hst1 hown hB
      rcases Nat.lt_or_ge j 2 with h2 | h2
      · rcases Nat.lt_or_ge j 1 with h1 | h1
        · obtain rfl : j = 0 := by omega
          go_wp2_with fail
          go_roundw
          case rel => exact ⟨1, by omega, by go_num, HST.out, HBB.out.setCell (p := ⟨w.heap.size, 0, none⟩) (Nat.le_refl _) _⟩
          case measure => simp [intOf]; omega
        · obtain rfl : j = 1 := by omega
          have HST' := Lib.hid (show (wr.setCell ⟨w.heap.size, 1, none⟩ (.int .i64 (a + 1))).ownsRow w.heap.size 3 1 (.slice (some ⟨w.heap.size, 0, none⟩) K K) K (intsOf (tblC m (rcF a b 2))) from HST.out)
          go_wp2_with fail
          go_roundw
          case rel => exact ⟨2, by omega, by go_num, HST'.out, HBB.out.setCell (p := ⟨w.heap.size, 1, none⟩) (Nat.le_refl _) _⟩
          case measure => simp [intOf]; omega
      · obtain ⟨i, hji2⟩ : ∃ i, j = i + 2 := ⟨j - 2, by omega⟩
        obtain ⟨p, hjp⟩ : ∃ p, j = p + 1 := ⟨j - 1, by omega⟩
        have hcp := HCE.out p (by omega)
        have hcq := HCE.out i (by omega)
        have hbp := HBD.out p (by omega)
        have hbq := HBD.out i (by omega)
        have hbx := HBD.out j (by omega)
        have hxe : rc1 a b j = a * rc1 a b p + b * rc1 a b i := by
          obtain rfl : p = i + 1 := by omega
          rw [hji2]; rfl
        obtain ⟨P, hP⟩ : ∃ P, P = rc1 a b p := ⟨_, rfl⟩
        obtain ⟨Q, hQ⟩ : ∃ Q, Q = rc1 a b i := ⟨_, rfl⟩
        rw [← hP] at hcp hbp hxe
        rw [← hQ] at hcq hbq hxe
        have hap := Int.mul_le_mul (show a ≤ 9 by omega) hbp.2 hbp.1 (by omega)
        have hbq2 := Int.mul_le_mul (show b ≤ 9 by omega) hbq.2 hbq.1 (by omega)
        have hap0 := Int.mul_nonneg (show 0 ≤ a by omega) hbp.1
        have hbq0 := Int.mul_nonneg (show 0 ≤ b by omega) hbq.1
        obtain ⟨AP, hAP⟩ : ∃ AP, a * P = AP := ⟨_, rfl⟩
        obtain ⟨BQ, hBQ⟩ : ∃ BQ, b * Q = BQ := ⟨_, rfl⟩
        rw [hAP] at hap hap0 hxe
        rw [hBQ] at hbq2 hbq0 hxe
        obtain ⟨X, hX⟩ : ∃ X, X = rc1 a b j := ⟨_, rfl⟩
        rw [← hX] at hxe hbx HST1
        have wAP : IntKind.i64.wrap AP = AP := by rw [IntKind.wrap_i64]; omega
        have wBQ : IntKind.i64.wrap BQ = BQ := by rw [IntKind.wrap_i64]; omega
        have wX : IntKind.i64.wrap (AP + BQ) = X := by rw [IntKind.wrap_i64]; omega
        have w1 : IntKind.i64.wrap ((j : Int) - 1) = (p : Int) := by rw [IntKind.wrap_i64]; omega
        have w2 : IntKind.i64.wrap ((j : Int) - 2) = (i : Int) := by rw [IntKind.wrap_i64]; omega
        have j0 : ¬ (j : Int) = 0 := by omega
        have j1 : ¬ (j : Int) = 1 := by omega
        have j0b : ((j : Int) == 0) = false := by simp; omega
        have j1b : ((j : Int) == 1) = false := by simp; omega
        have i1 : (p : Int) < K := by omega
        have i2 : (i : Int) < K := by omega
        have i3 : p < K := by omega
        have i4 : i < K := by omega
        clear hji2 hjp h2
        clear hxe hX hP hQ hap hap0 hbq2 hbq0 hbp hbq hbx
        go_wp2_with fail
        refine wp_region_still_tail 18 (by kernel_rfl) (by kernel_rfl) ?_
        simp only [List.take_succ_cons, List.take_zero, List.drop_succ_cons, List.drop_zero]
        change wpStill _ _ (World.drewN wr 1) _ _ _
        repeat still_step
        refine wpStill_nil ?_
        change wpList _ _ _ _ _ (wr.drewN 1)
        go_wp2_with fail
        go_roundw
        case rel => exact ⟨j + 1, hjl, by go_num, HST1.out, (below_drewN HBB.out 1).setCell (p := ⟨w.heap.size, j, none⟩) (Nat.le_refl _) _⟩
        case measure => simp [intOf]; omega
    · have hjk : j = K := by omega
      subst hjk
      have e : tblC m (rcF a b j) = rcT a b j := by rw [HK.out]; exact rcF_end a b m
      rw [e] at hown
      have hrow := RowAt.of_owns hown
      have HC := Lib.hid (HCO.out wr _ hrow)
      have HNB := Lib.hid (fun q (h : okC (rcT a b j) = false) => HNO.out (EOK.out.trans h) (wr.drewN q) (below_drewN hB q))
      have HYB := Lib.hid (fun q (h : okC (rcT a b j) = true) => HYES.out (wr.drewN q) (.slice (some ⟨w.heap.size, 0, none⟩) j j) (below_drewN hB q) h (owns_drewN_c hown q))
      have hn9 : ¬ (j : Int) < j := by omega
      clear hown hrow hB e
      cases hok : okC (rcT a b j)
      · rw [hok] at HC
        have HN := Lib.hid (fun q => HNB.out q hok)
        clear hok
        go_wp2_with fail
        refine HC.out.mono ?_
        rintro e w' ⟨rfl, q, rfl⟩
        go_wp2_with fail
        go_ret2
        exact HN.out q
      · rw [hok] at HC
        have HN := Lib.hid (fun q => HYB.out q hok)
        clear hok
        go_wp2_with fail
        refine HC.out.mono ?_
        rintro e w' ⟨rfl, q, rfl⟩
        go_wp2_with fail
        go_ret2
        exact HN.out q

end Go.Proofs.Ytbfoaibgenepoaa
