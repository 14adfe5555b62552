/- Balanced digits: the program negates digits and drops places. -/
import Derived.Test.YtdflpocnfodbhacInts
import Derived.Test.YtdflpocnfodbhacLgMul
import Derived.Test.YtdflpocnfodbhacLgDiv
import Derived.Test.YtdflpocnfodbhacBaI1b
import Derived.RangeFuncCalls
set_option linter.unusedVariables false
set_option linter.unusedSimpArgs false
set_option maxRecDepth 100000
namespace Go.Proofs.Ytdflpocnfodbhac
open Go.ChangeShapes Go.WideShapes Go.ChangeAt Go.RowKit

set_option maxHeartbeats 2000000 in
theorem implDropPlaces_any (v : Value) (l : List Int) (b k : Int) (w : World) (hr : RowAt w v (intsOf l)) (hl : l.length ≤ 1048576) (hin : ∀ n ∈ l, in64 n) (hb : in64 b) (hk : in64 k) :
    Calls Try.prog 24 #[v, .int .i64 b, .int .i64 k] w fun e w' => ∃ v', e = .returned (.tuple #[v', .bool (rDropPlaces1 l b k)]) ∧ w'.ownsRow w.heap.size 3 1 v' (rDropPlaces0 l b k).length (intsOf (rDropPlaces0 l b k)) ∧ Below w.heap.size w w' := by
  have H1 := Lib.hid (implBal_eq v l b w hr hl hin hb)
  obtain ⟨a, cap, rfl, h1, h2, h3⟩ := hr.ints
  unfold maxLen at h2
  obtain ⟨i0, hi, hz0, hz1, hz2⟩ := info_parts infoInt
  clear hin hr
  cases h : okW l b
  · rw [h] at H1
    have E1 := Lib.hid (show rDropPlaces1 l b k = false by rw [rDropPlaces1, h]; rfl)
    have E0 := Lib.hid (show rDropPlaces0 l b k = [] by rw [rDropPlaces0, E1.out]; rfl)
    clear h h3
    go_enter Try.func24, Try.ntmps24
    go_wp2_with (go_at_call 46; refine H1.out.mono ?_; rintro e w' ⟨rfl, rfl⟩)
    go_ret2
    exact ⟨_, by rw [E1.out]; rfl, by rw [E0.out]; exact World.ownsRow_nil _ _ _ _, Below.refl _ _⟩
  · rw [h] at H1
    cases hc : inB k 0 60
    · have E1 := Lib.hid (show rDropPlaces1 l b k = false by rw [rDropPlaces1, h, hc]; rfl)
      have E0 := Lib.hid (show rDropPlaces0 l b k = [] by rw [rDropPlaces0, E1.out]; rfl)
      have hcase : k < 0 ∨ (¬ k < 0 ∧ 60 < k) := by
        simp only [inB, Bool.and_eq_false_iff, decide_eq_false_iff_not] at hc
        omega
      clear h hc h3
      rcases hcase with hc | ⟨hc, hc'⟩
      all_goals
        go_enter Try.func24, Try.ntmps24
        go_wp2_with (go_at_call 46; refine H1.out.mono ?_; rintro e w' ⟨rfl, rfl⟩)
        go_ret2
        exact ⟨_, by rw [E1.out]; rfl, by rw [E0.out]; exact World.ownsRow_nil _ _ _ _, Below.refl _ _⟩
    · obtain ⟨k0, k60⟩ := inB_yes hc
      obtain ⟨m, rfl⟩ : ∃ m : Nat, k = m := ⟨k.toNat, by omega⟩
      have E1 := Lib.hid (show rDropPlaces1 l b m = true by rw [rDropPlaces1, h, hc]; rfl)
      have E0 := Lib.hid (show rDropPlaces0 l b m = l.drop m by rw [rDropPlaces0, E1.out]; rfl)
      clear h hc
      have hlit := World.ownsRow_lit (base := w.heap.size) (e := 3) (size := 1) w #[] 0 (Nat.le_refl _) (by decide) rfl
      have HLIT := Lib.hid hlit
      rcases Nat.lt_or_ge m l.length with hm2 | hm2
      · obtain ⟨b', off, rfl, hbb, hcell⟩ := h3.resolve_left (fun e => by rw [e] at hm2; simp at hm2)
        obtain ⟨D, hD⟩ : ∃ D, D = l.drop m := ⟨_, rfl⟩
        have hDl : D.length = l.length - m := by rw [hD, List.length_drop]
        have E2 := Lib.hid hD
        have HCL := Lib.hid (show ∀ (i : Nat) (u : Value), (intsOf D)[i]? = some u → (w.alloc (.cells #[] 3)).cell? ((⟨b', off + m, none⟩ : Addr).add i) = some u from fun i u hu => by
          have hil : i < D.length := by
            have := (List.getElem?_eq_some_iff.1 hu).1
            simpa [intsOf] using this
          rw [add_addrD, ((Below.refl _ w).alloc (Nat.le_refl _) (.cells #[] 3)).cell (p := ⟨b', off + m + i, none⟩) hbb, Nat.add_assoc, hcell (m + i) (by omega)]
          rw [intsOf_get hil] at hu
          rw [← hu]
          subst hD
          rw [List.getElem_drop])
        have hcm : ¬ cap = m := by omega
        have hmin : ¬ (l.length : Int) < (m : Int) := by omega
        have hmin2 : (m : Int) < (l.length : Int) := by omega
        have hsub : (l.length : Int) - m = ((l.length - m : Nat) : Int) := by omega
        clear hcell hD
        go_enter Try.func24, Try.ntmps24
        go_wp2_with (first
          | (go_at_call 46; refine H1.out.mono ?_; rintro e w' ⟨rfl, rfl⟩)
          | (at_builtin; refine wpList_append_own _ rfl _ _ 22 rfl w.heap.size 3 i0 (.int .i64 0) 1 8 Try.underlying22 hi hz0 hz1 hz2 rfl (by decide) _ _ _ rfl hlit ⟨b', off + m, none⟩ (l.length - m) (cap - m) (intsOf D) rfl ?e0 ?e1 ?e2 ?e3 ?e4 ?e5 ?_))
        case e0 => simp [intsOf, hDl]
        case e1 => exact HCL.out
        case e2 => exact intsOf_one _
        case e3 => unfold maxLen; omega
        case e4 => omega
        case e5 => first | omega | (simp; done) | (simp; omega)
        intro v' w1 hown' hgrow _
        have hB1 : Below w.heap.size w w1 := ((Below.refl w.heap.size w).alloc (Nat.le_refl _) (.cells #[] 3)).grown hgrow (by simp) (fun k hk => by simp [Value.ownBlock] at hk; omega)
        have HO := Lib.hid (show w1.ownsRow w.heap.size 3 1 v' D.length (intsOf D) by rw [hDl]; simpa [intsOf] using hown')
        clear hown' hgrow
        go_wp2_with fail
        go_ret2
        exact ⟨_, by rw [E1.out]; rfl, by rw [E0.out, ← E2.out]; exact HO.out, hB1⟩
      · have E2 := Lib.hid (show l.drop m = [] from List.drop_of_length_le (by omega))
        clear hlit
        have hcase : (l.length : Int) < (m : Int) ∨ (¬ (l.length : Int) < (m : Int) ∧ (m : Int) = (l.length : Int)) := by omega
        rcases hcase with hmin | ⟨hmin, hmm⟩
        · cases a with
          | none =>
              clear h3
              go_enter Try.func24, Try.ntmps24
              go_wp2_with (first | (go_at_call 46; refine H1.out.mono ?_; rintro e w' ⟨rfl, rfl⟩) | (at_builtin; fail))
              all_goals go_ret2
              all_goals exact ⟨_, by rw [E1.out]; rfl, by rw [E0.out, E2.out]; exact HLIT.out, (Below.refl _ _).alloc (Nat.le_refl _) _⟩
          | some x =>
              clear h3
              go_enter Try.func24, Try.ntmps24
              go_wp2_with (first | (go_at_call 46; refine H1.out.mono ?_; rintro e w' ⟨rfl, rfl⟩) | (at_builtin; fail))
              all_goals go_ret2
              all_goals exact ⟨_, by rw [E1.out]; rfl, by rw [E0.out, E2.out]; exact HLIT.out, (Below.refl _ _).alloc (Nat.le_refl _) _⟩
        · obtain rfl : m = l.length := by omega
          clear hmm hm2
          cases a with
          | none =>
              clear h3
              go_enter Try.func24, Try.ntmps24
              go_wp2_with (first | (go_at_call 46; refine H1.out.mono ?_; rintro e w' ⟨rfl, rfl⟩) | (at_builtin; fail))
              all_goals go_ret2
              all_goals exact ⟨_, by rw [E1.out]; rfl, by rw [E0.out, E2.out]; exact HLIT.out, (Below.refl _ _).alloc (Nat.le_refl _) _⟩
          | some x =>
              clear h3
              go_enter Try.func24, Try.ntmps24
              go_wp2_with (first | (go_at_call 46; refine H1.out.mono ?_; rintro e w' ⟨rfl, rfl⟩) | (at_builtin; fail))
              all_goals go_ret2
              all_goals exact ⟨_, by rw [E1.out]; rfl, by rw [E0.out, E2.out]; exact HLIT.out, (Below.refl _ _).alloc (Nat.le_refl _) _⟩

end Go.Proofs.Ytdflpocnfodbhac
