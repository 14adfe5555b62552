/- Places of coins, the program: the table of ways, the count. -/
import Derived.Test.YtbfoaibgenepoaaLgCmp
import Derived.Test.YtbfoaibgenepoaaRfB
import Derived.Test.YtbfoaibgenepoaaCoWt
import Derived.Lib.SliceRun
import Derived.Sort.LoopGhostIn
import Derived.Sort.QuietIn
set_option linter.unusedVariables false
set_option linter.unusedSimpArgs false
set_option maxRecDepth 100000
namespace Go.Proofs.Ytbfoaibgenepoaa
open Go.ChangeShapes Go.WideShapes Go.ChangeAt Go.RowKit

theorem wcg_any (x k : Int) (w : World) (h0 : 0 ≤ x) (h1 : x ≤ 4000000000000000000) :
    Calls Try.prog 55 #[.int .i64 x, .int .i64 k] w fun e w' => e = .returned (.int .i64 (x)) ∧ w' = w := by
  go_enter Try.func55, Try.ntmps55
  go_wp2
  go_ret
  exact ⟨rfl, rfl⟩
theorem wch_any (x y : Int) (w : World) (h0 : 0 ≤ x) (h1 : x ≤ 4400000000000000000) (h2 : 0 ≤ y) (h3 : y ≤ 4400000000000000000) :
    Calls Try.prog 56 #[.int .i64 x, .int .i64 y] w fun e w' => e = .returned (.int .i64 (x + y)) ∧ w' = w := by
  go_enter Try.func56, Try.ntmps56
  go_wp2
  all_goals (go_ret; exact ⟨rfl, rfl⟩)

set_option maxHeartbeats 8000000 in
theorem wcways_any (n : Nat) (v : Value) (l : List Int) (q : Nat) (w : World) (hr : RowAt w v (intsOf l)) (hco : Coins l) (hn : n ≤ 400) (hq : l.length = q + 1) :
    Calls Try.prog 57 #[.int .i64 n, v, .int .i64 1, .func (.func 55) #[] #[], .func (.func 56) #[] #[]] w fun e w' => ∃ v', e = .returned v' ∧ w'.ownsRow w.heap.size 3 1 v' (n + 1) (intsOf (tblC n (wCt l q))) ∧ Below w.heap.size w w' := by
  obtain ⟨i0, hi0, hz0, hz1, hz2⟩ := info_parts infoInt
  have hl10 := hco.len
  have HRow := Lib.hid (fun W (hb : Below w.heap.size w W) => hr.below hb)
  have HFIT := Lib.hid (fun j (hj : j < l.length) x (hx : x ≤ 400) => wCt_fits hco j hj x hx)
  have HLB := Lib.hid hco.bd
  have h0 : 0 < l.length := by omega
  obtain ⟨a, cap, rfl, q1, q2, q3⟩ := hr.ints
  obtain ⟨K, hK⟩ : ∃ K : Nat, (n : Int) + 1 = K := ⟨n + 1, by omega⟩
  have hw0 : IntKind.i64.wrap (K : Int) = K := by rw [IntKind.wrap_i64]; omega
  have HG := Lib.hid (fun x k W h0 h1 => wcg_any x k W h0 h1)
  have HH := Lib.hid (fun x y W h0 h1 h2 h3 => wch_any x y W h0 h1 h2 h3)
  clear hr q1 q2 q3 hco
  go_enter Try.func57, Try.ntmps57
  go_wp2_with (at_make; refine wpList_make_full _ rfl _ _ 23 rfl w.heap.size 3 i0 (.int .i64 0) 1 Try.underlying23 hi0 hz0 hz1 _ _ _ _ K rfl rfl rfl rfl ?c1 ?c2 ?c3 ?_)
  case c1 => rw [hz2]; omega
  case c2 => unfold maxLen; omega
  case c3 => exact Nat.le_refl _
  intro w1 hown hgrow
  have hB1 : Below w.heap.size w w1 := (Below.refl _ _).grown hgrow (Nat.le_refl _) (fun k hk => by cases hk)
  have hKk : K = n + 1 := by omega
  have HO1 := Lib.hid (show w1.ownsRow w.heap.size 3 1 (.slice (some ⟨w.heap.size, 0, none⟩) K K) K (intsOf (List.replicate K 0)) by
    rw [toList_madeCells_one] at hown; rw [← cw_zeros]; simpa using hown)
  have hc1 : w1.cell? ⟨w.heap.size, 0, none⟩ = some (.int .i64 0) := by
    have := HO1.out.cellAt 0 (by omega)
    rw [this, ← cw_zeros, List.getElem?_replicate, if_pos (by omega)]
  have hf1 : w1.frozen? ⟨w.heap.size, 0, none⟩ = false := HO1.out.frozenAt 0
  have hs1 := (HO1.out.stored 0 (.int .i64 1)).1
  rw [cw_ints_set, hKk, tblC_put, ← hKk] at hs1
  have HS1 := Lib.hid (show _ by rw [begT_zero (g := fun y : Int => y) (z := 1)] at hs1; exact hs1)
  have hK0 : (0 : Int) < K := by omega
  have hK1 : 0 < K := by omega
  have HKk := Lib.hid hKk
  clear hs1 hown hgrow hKk
  go_wp2_with fail
  go_loopw [23] (fun i wr => ∃ x : Nat, x ≤ n ∧ i = .int .i64 x ∧ wr.ownsRow w.heap.size 3 1 (.slice (some ⟨w.heap.size, 0, none⟩) K K) K (intsOf (tblC n (begT (fun y : Int => y) 1 x))) ∧ Below w.heap.size w wr) (fun i _ => n - (intOf i).toNat)
  case atStart => exact ⟨0, Nat.zero_le _, rfl, HS1.out, hB1.setCell (p := ⟨w.heap.size, 0, none⟩) (Nat.le_refl _) _⟩
  case round =>
    obtain ⟨x, hx, rfl, hown, hB⟩ := hrel
    clear hB1 hc1 hf1 HO1 HS1
    by_cases hxn : x < n
    · have hKk := HKk.out
      have hcx : wr.cell? ⟨w.heap.size, x, none⟩ = some (.int .i64 (w0 (fun y : Int => y) 1 x)) := by
        have h1 := hown.cellAt x (by omega)
        rw [tblC_at (by omega), begT, if_pos (Nat.le_refl _)] at h1
        simpa using h1
      obtain ⟨y1, hcy⟩ : ∃ y1, wr.cell? ⟨w.heap.size, x + 1, none⟩ = some (.int .i64 y1) := by
        have h1 := hown.cellAt (x + 1) (by omega)
        rw [tblC_at (by omega)] at h1
        exact ⟨_, by simpa using h1⟩
      have hfx : wr.frozen? ⟨w.heap.size, x + 1, none⟩ = false := by have := hown.frozenAt (x + 1); simpa using this
      have b1 := HFIT.out 0 h0 x (by omega)
      have hst := (hown.stored (x + 1) (.int .i64 (w0 (fun y : Int => y) 1 (x + 1)))).1
      rw [cw_ints_set, tblC_set, begT_next] at hst
      have b1' : 0 ≤ w0 (fun y : Int => y) 1 x ∧ w0 (fun y : Int => y) 1 x ≤ 4000000000000000000 := b1
      have HG1 := Lib.hid (show w0 (fun y : Int => y) 1 (x + 1) = w0 (fun y : Int => y) 1 x from rfl)
      obtain ⟨U, hU⟩ : ∃ U, U = w0 (fun y : Int => y) 1 x := ⟨_, rfl⟩
      obtain ⟨Y, hY⟩ : ∃ Y, Y = w0 (fun y : Int => y) 1 (x + 1) := ⟨_, rfl⟩
      rw [← hU] at hcx b1' HG1
      rw [← hY] at hst HG1
      have HST := Lib.hid hst
      have HGC := Lib.hid (show Calls Try.prog 55 #[.int .i64 U, .int .i64 0] wr (fun e w' => e = .returned (.int .i64 Y) ∧ w' = wr) from (HG.out U 0 wr b1'.1 b1'.2).mono (fun e w' h => ⟨h.1.trans (by rw [HG1.out]), h.2⟩))
      have k1 : (x : Int) < K := by omega
      have k2 : (x : Int) + 1 < K := by omega
      have k3 : x < K := by omega
      have k4 : x + 1 < K := by omega
      have k5 : ((x : Int) + 1).toNat = x + 1 := by omega
      clear hst hU hY b1 b1' hKk hown
      go_wp2_with (go_at_call 55; refine HGC.out.mono ?_; rintro e w' ⟨rfl, rfl⟩)
      go_roundw
      case rel => exact ⟨x + 1, hxn, by go_num, HST.out, hB.setCell (p := ⟨w.heap.size, x + 1, none⟩) (Nat.le_refl _) _⟩
      case measure => simp [intOf]; omega
    · have HO := Lib.hid (show wr.ownsRow w.heap.size 3 1 (.slice (some ⟨w.heap.size, 0, none⟩) K K) K (intsOf (tblC n (wCt l 0))) by
        have e : tblC n (begT (fun y : Int => y) 1 x) = tblC n (wCt l 0) := tblC_same (fun y hy => by rw [begT, if_pos (by omega)]; rfl)
        rw [← e]; exact hown)
      have hx9 : ¬ (x : Int) < n := by omega
      have HBB := Lib.hid hB
      clear hown hB
      go_wp2_with fail
      go_loopw [13] (fun i wr => ∃ j : Nat, j < l.length ∧ i = .int .i64 ((j : Int) + 1) ∧ wr.ownsRow w.heap.size 3 1 (.slice (some ⟨w.heap.size, 0, none⟩) K K) K (intsOf (tblC n (wCt l j))) ∧ Below w.heap.size w wr) (fun i _ => l.length - (intOf i).toNat)
      case atStart => exact ⟨0, h0, rfl, HO.out, HBB.out⟩
      case round =>
        obtain ⟨j, hj, rfl, hown, hB⟩ := hrel
        clear HO HBB
        by_cases hjl : j + 1 < l.length
        · have hrw := HRow.out _ hB
          obtain ⟨a3, cap3, e3, _, _, q3⟩ := hrw.ints
          injection e3 with e3 _ e4
          subst e3 e4
          obtain ⟨b', off, rfl, hbb, hcell⟩ := q3.resolve_left (fun e => by rw [e] at h0; simp at h0)
          have hc := hcell (j + 1) hjl
          have hcb := HLB.out _ (List.getElem_mem hjl)
          have HF0 := Lib.hid (fun x hx => HFIT.out j hj x hx)
          have HF1 := Lib.hid (fun x hx => HFIT.out (j + 1) hjl x hx)
          have HTT := Lib.hid (show wCt l (j + 1) = wU (fun y : Int => y) (fun a b : Int => a + b) (l.getD (j + 1) 0).toNat (wCt l j) from rfl)
          have hgd : l.getD (j + 1) 0 = l[j + 1] := by rw [List.getD_eq_getElem?_getD, List.getElem?_eq_getElem hjl]; rfl
          rw [hgd] at HTT
          obtain ⟨c, hce⟩ : ∃ c, c = l[j + 1].toNat := ⟨_, rfl⟩
          have hc9 : l[j + 1] = (c : Int) := by omega
          rw [← hce] at HTT
          rw [hc9] at hc hcb
          have hc0 : 0 < c := by omega
          have hc1 : c ≤ 1000 := by omega
          rw [HTT.out] at HF1
          obtain ⟨f, hf⟩ : ∃ f, f = wCt l j := ⟨_, rfl⟩
          rw [← hf] at HF0 HF1 HTT hown
          have HOW := Lib.hid (And.intro hown hB)
          have hj1 : (j : Int) + 1 < l.length := by omega
          have hj2 : ((j : Int) + 1).toNat = j + 1 := by omega
          have wKc : IntKind.i64.wrap ((n : Int) + 1 - c) = (n : Int) + 1 - c := by rw [IntKind.wrap_i64]; omega
          have wKc2 : IntKind.i64.wrap ((K : Int) - c) = (n : Int) + 1 - c := by rw [IntKind.wrap_i64]; omega
          clear hrw q3 hce hc9 hcb hf hown hB hgd
          have HCE := Lib.hid hcell
          clear hcell
          go_wp2_with fail
          go_loopw [50] (fun x wr => ∃ X : Nat, (X + c ≤ n + 1 ∨ X = 0) ∧ x = .int .i64 X ∧ wr.ownsRow w.heap.size 3 1 (.slice (some ⟨w.heap.size, 0, none⟩) K K) K (intsOf (tblC n (mixW (fun y : Int => y) (fun a b : Int => a + b) c f (X + c)))) ∧ Below w.heap.size w wr) (fun x _ => n + 1 - c - (intOf x).toNat)
          case atStart => exact ⟨0, .inr rfl, rfl, by rw [Nat.zero_add, mixW_start]; exact HOW.out.1, HOW.out.2⟩
          case round =>
            obtain ⟨D, hcX, rfl, hown, hB⟩ := hrel
            by_cases hx : D + c ≤ n
            · obtain ⟨X, hD⟩ : ∃ X : Nat, X = D + c := ⟨D + c, rfl⟩
              have hKk := HKk.out
              rw [← hD] at hown
              have hcx : wr.cell? ⟨w.heap.size, X, none⟩ = some (.int .i64 (f X)) := by
                have h1 := hown.cellAt X (by omega)
                rw [tblC_at (by omega), mixW, if_neg (by omega)] at h1
                simpa using h1
              have hcd : wr.cell? ⟨w.heap.size, D, none⟩ = some (.int .i64 (wU (fun y : Int => y) (fun a b : Int => a + b) c f D)) := by
                have h1 := hown.cellAt D (by omega)
                rw [tblC_at (show D ≤ n by omega), mixW, if_pos (by omega)] at h1
                simpa using h1
              have hfx : wr.frozen? ⟨w.heap.size, X, none⟩ = false := by have := hown.frozenAt X; simpa using this
              have hrw := HRow.out _ hB
              have hcc : wr.cell? ⟨b', off + (j + 1), none⟩ = some (.int .i64 c) := by
                obtain ⟨a5, cap5, e5, _, _, q5⟩ := hrw.ints
                injection e5 with e5 _ _
                subst e5
                obtain ⟨b6, o6, e6, _, h6⟩ := q5.resolve_left (fun e => by rw [e] at h0; simp at h0)
                injection e6 with e6
                injection e6 with e6 e7
                subst e6 e7
                rw [h6 (j + 1) hjl]
                exact congrArg (fun z => some (Value.int .i64 z)) (by have h7 := HCE.out (j + 1) hjl; rw [hc] at h7; injection h7 with h7; injection h7 with _ h7; exact h7.symm)
              have b0 := HF0.out X (by omega)
              have b1 := HF1.out X (by omega)
              have b2 := HF1.out D (by omega)
              have b3 := wU_more (g := fun y : Int => y) (h := (fun a b : Int => a + b)) (f := f) hc0 (show c ≤ X by omega)
              rw [show X - c = D by omega] at b3
              have hst := ((owns_drewN_c hown 1).stored X (.int .i64 (wU (fun y : Int => y) (fun a b : Int => a + b) c f X))).1
              rw [cw_ints_set, mixW_next] at hst
              obtain ⟨Y, hY⟩ : ∃ Y, Y = wU (fun y : Int => y) (fun a b : Int => a + b) c f X := ⟨_, rfl⟩
              obtain ⟨U, hU⟩ : ∃ U, U = f X := ⟨_, rfl⟩
              obtain ⟨V, hV⟩ : ∃ V, V = wU (fun y : Int => y) (fun a b : Int => a + b) c f D := ⟨_, rfl⟩
              rw [← hY] at hst b1 b3
              rw [← hU] at hcx b0 b3
              rw [← hV] at hcd b2 b3
              have HST := Lib.hid hst
              have HGC := Lib.hid (fun k W => HG.out V k W b2.1 b2.2)
              have HHC := Lib.hid (fun W => HH.out U (V) W b0.1 (by omega) (by omega) (by omega))
              rw [show (U + V) = Y from b3.symm] at HHC
              have w2 : IntKind.i64.wrap ((D : Int) + c) = X := by rw [IntKind.wrap_i64]; omega
              have w2' : (D : Int) + c = X := by omega
              have w3 : IntKind.i64.wrap ((D : Int) + 1) = (D : Int) + 1 := by rw [IntKind.wrap_i64]; omega
              have k1 : (X : Int) < K := by omega
              have k2 : (D : Int) < K := by omega
              have k3 : X < K := by omega
              have k4 : D < K := by omega
              have k5 : (D : Int) < (n : Int) + 1 - c := by omega
              have HDX := Lib.hid hD
              clear hst hY hU hV b0 b1 b2 b3 hKk hD hown hcX hrw hc
              go_wp2_with fail
              refine wp_region_still_tail 16 (by kernel_rfl) (by kernel_rfl) ?_
              simp only [List.take_succ_cons, List.take_zero, List.drop_succ_cons, List.drop_zero]
              change wpStill _ _ (World.drewN wr 1) _ _ _
              repeat (first | still_step | still_call (HGC.out _ _) | still_call (HHC.out _))
              refine wpStill_nil ?_
              change wpList _ _ _ _ _ (wr.drewN 1)
              go_wp2_with fail
              go_roundw
              case rel => exact ⟨D + 1, .inl (by omega), by go_num, by rw [show D + 1 + c = X + 1 by have := HDX.out; omega]; exact HST.out, (below_drewN hB 1).setCell (p := ⟨w.heap.size, X, none⟩) (Nat.le_refl _) _⟩
              case measure => simp [intOf]; omega
            · have HO := Lib.hid (show wr.ownsRow w.heap.size 3 1 (.slice (some ⟨w.heap.size, 0, none⟩) K K) K (intsOf (tblC n (wCt l (j + 1)))) by rw [HTT.out, ← mixW_end _ _ f (show n < D + c by omega)]; exact hown)
              have hx9 : ¬ (D : Int) < (n : Int) + 1 - c := by omega
              clear hown hcX
              go_wp2_with fail
              go_roundw
              case rel => exact ⟨j + 1, hjl, by go_num, HO.out, hB⟩
              case measure => simp [intOf]; omega
        · have hje : j = q := by omega
          subst hje
          have HO := Lib.hid (show ∃ v', Ending.returned (.slice (some ⟨w.heap.size, 0, none⟩) K K) = .returned v' ∧ wr.ownsRow w.heap.size 3 1 v' (n + 1) (intsOf (tblC n (wCt l j))) ∧ Below w.heap.size w wr from ⟨_, rfl, by rw [HKk.out] at hown ⊢; exact hown, hB⟩)
          have hj9 : ¬ (j : Int) + 1 < l.length := by omega
          clear hown hB
          go_wp2_with fail
          go_ret
          exact HO.out

end Go.Proofs.Ytbfoaibgenepoaa
