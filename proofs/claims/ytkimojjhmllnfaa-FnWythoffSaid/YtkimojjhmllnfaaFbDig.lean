/- Fibonacci places: the model's sparse and dense digits. -/
import Derived.Test.YtkimojjhmllnfaaLgSpec
import Derived.Test.YtkimojjhmllnfaaDgVal
import Derived.Test.YtkimojjhmllnfaaFbSpec
import Derived.Deep.LoopGhost
set_option linter.unusedVariables false
set_option linter.unusedSimpArgs false
set_option maxRecDepth 100000
namespace Go.Proofs.Ytkimojjhmllnfaa
open Go.ChangeShapes Go.WideShapes Go.ChangeAt Go.RowKit

/-! ### trimming -/
theorem trim_tr {l : List Int} {n : Nat} (hn : n ≤ l.length) (hz : ∀ j (hj : j < l.length), n ≤ j → l[j] = 0) (hla : ∀ (hj : n - 1 < l.length), n = 0 ∨ l[n - 1] ≠ 0) : l.take n = (trT l.reverse).reverse := by
  obtain ⟨k, hk⟩ := trT_pad l.reverse
  obtain ⟨T, hT⟩ : ∃ T, T = (trT l.reverse).reverse := ⟨_, rfl⟩
  have hl : l = T ++ List.replicate k 0 := by
    have := congrArg List.reverse hk
    rw [List.reverse_reverse, List.reverse_append, List.reverse_replicate] at this
    rw [hT]; exact this
  have htop := trT_top l.reverse
  rw [← hT]
  have hn' : n = T.length := by
    rcases Nat.lt_trichotomy n T.length with h | h | h
    · exfalso
      have h1 : T.length - 1 < l.length := by rw [hl, List.length_append]; omega
      have h2 := hz (T.length - 1) h1 (by omega)
      have hne : trT l.reverse ≠ [] := fun e => by rw [e] at hT; subst hT; simp at h
      cases e : trT l.reverse with
      | nil => exact hne e
      | cons d t =>
        refine htop d t e ?_
        have hTe : T = t.reverse ++ [d] := by rw [hT, e, List.reverse_cons]
        have : l[T.length - 1]'h1 = d := by
          have h3 : T.length - 1 = t.reverse.length := by rw [hTe]; simp
          simp only [hl, hTe]
          rw [List.getElem_append_left (by simp), List.getElem_append_right (by simp)]
          simp
        rw [← this]; exact h2
    · exact h
    · exfalso
      have h1 : n - 1 < l.length := by omega
      rcases hla h1 with h2 | h2
      · omega
      · apply h2
        simp only [hl]
        rw [List.getElem_append_right (by omega)]
        simp
  rw [hn', hl, List.take_left']
  rfl
theorem specTrimT_any (v : Value) (l : List Int) (base : Nat) (w : World) (hown : w.ownsRow base 3 1 v l.length (intsOf l)) (hl : l.length ≤ 1048576) :
    Calls Try.prog 61 #[v] w fun e w' => ∃ v', e = .returned v' ∧ w.ownsRow base 3 1 v' (trT l.reverse).reverse.length (intsOf (trT l.reverse).reverse) ∧ w = w' ∧ (v' = .slice none 0 0 → v = .slice none 0 0) := by
  obtain ⟨a, cap, rfl, h1, h2⟩ := owns_form hown
  refine (specTrim_any a cap l w (RowAt.of_owns hown) hl).mono ?_
  rintro e w' ⟨n, rfl, hn, hz, hlast, rfl⟩
  have e := trim_tr hn hz hlast
  have en : (trT l.reverse).reverse.length = n := by rw [← e, List.length_take, Nat.min_eq_left hn]
  refine ⟨_, rfl, ?_, rfl, fun e0 => ?_⟩
  · rw [en, ← e, ← intsOf_take]
    exact owns_take hown hn
  · rcases hown.2 with ⟨h0, _⟩ | ⟨g, c, cur, h0, _⟩
    · exact h0
    · injection h0 with h0
      rw [h0] at e0
      cases e0

theorem owns_no {w : World} {base : Nat} {e : TypeId} {v : Value} {n : Nat} {xs : List Value} (h : w.ownsRow base e 1 v n xs) (hn : n ≠ 0) : v ≠ .slice none 0 0 := by
  rcases h.2 with ⟨_, h0⟩ | ⟨g, cap, cur, rfl, _⟩
  · omega
  · intro e; cases e

/-! ### sparse digits -/
structure SpI (N g n : Nat) (P : List Int) : Prop where
  le : g ≤ 58
  eq : P ++ gs g n = gs 58 N
  len : P.length = 58 - g
  small : n ≤ N
theorem spI_start (N : Nat) : SpI N 58 N [] := ⟨Nat.le_refl _, rfl, rfl, Nat.le_refl _⟩
theorem spI_one {N j n : Nat} {P : List Int} (h : SpI N (j + 1) n P) (hf : fp j ≤ n) : SpI N j (n - fp j) (P ++ [1]) := by
  obtain ⟨h1, h2, h3, h4⟩ := h
  rw [gs, if_pos hf] at h2
  exact ⟨by omega, by rw [List.append_assoc]; exact h2, by rw [List.length_append, h3, List.length_singleton]; omega, by omega⟩
theorem spI_no {N j n : Nat} {P : List Int} (h : SpI N (j + 1) n P) (hf : ¬ fp j ≤ n) : SpI N j n (P ++ [0]) := by
  obtain ⟨h1, h2, h3, h4⟩ := h
  rw [gs, if_neg hf] at h2
  exact ⟨by omega, by rw [List.append_assoc]; exact h2, by rw [List.length_append, h3, List.length_singleton]; omega, h4⟩
theorem spI_end {N n : Nat} {P : List Int} (h : SpI N 0 n P) : (trT P).reverse = sp N := by
  have h2 := h.eq
  rw [show gs 0 n = [] from rfl, List.append_nil] at h2
  rw [h2]; rfl
theorem spI_small {N g n : Nat} {P : List Int} (h : SpI N g n P) : P.length ≤ 58 := by have := h.len; omega

set_option maxHeartbeats 4000000 in
theorem specSp2_any (N : Nat) (w : World) (hN : N ≤ 500000000000) :
    Calls Try.prog 60 #[.int .i64 N] w fun e w' => ∃ v', e = .returned v' ∧ w'.ownsRow w.heap.size 3 1 v' (sp N).length (intsOf (sp N)) ∧ Below w.heap.size w w' ∧ v' ≠ .slice none 0 0 := by
  obtain ⟨i0, hi, hz0, hz1, hz2⟩ := info_parts infoInt
  have HPL := Lib.hid (fun (j : Nat) (hj : j ≤ 57) W => specPlace_any j W (by omega))
  have HFB := Lib.hid (fun (j : Nat) (hj : j ≤ 60) => fp_60 hj)
  have HST := Lib.hid (spI_start N)
  go_enter Try.func60, Try.ntmps60
  go_wp2
  go_loopg [0, 3, 4] 58 (fun g nv v t wr => ∃ (n : Nat) (P : List Int), t = .int .i64 ((g : Int) - 1) ∧ nv = .int .i64 n ∧ SpI N g n P ∧ wr.ownsRow w.heap.size 3 1 v P.length (intsOf P) ∧ Below w.heap.size w wr)
  case atStart => exact ⟨N, [], rfl, rfl, HST.out, World.ownsRow_lit w #[] 0 (Nat.le_refl _) (by decide) rfl, (Below.refl _ _).alloc (Nat.le_refl _) _⟩
  case round =>
    obtain ⟨n, P, rfl, rfl, hsp, hown, hB⟩ := hrel
    have hsz := hB.size
    have hpl := spI_small hsp
    by_cases h0 : gk = 0
    · subst h0
      have HE := Lib.hid (spI_end hsp)
      have hsp0 := Lib.hid (hsp.len)
      have HT := Lib.hid (specTurn_any _ P wr (RowAt.of_owns hown) (by omega))
      obtain ⟨av, cv, e3, _, _⟩ := owns_form hown
      subst e3
      have hn9 : ¬ (0 : Int) ≤ ((0 : Nat) : Int) - 1 := by omega
      have HB := Lib.hid (And.intro hB hsz)
      clear hown hsp hB hsz
      go_wp2_with fail
      refine HT.out.mono ?_
      rintro e w2 ⟨v2, rfl, hO2, hB2⟩
      have HN2 := Lib.hid (owns_no hO2 (by rw [List.length_reverse, hsp0.out]; decide))
      have HTR := Lib.hid (specTrimT_any v2 P.reverse wr.heap.size w2 hO2 (by rw [List.length_reverse]; omega))
      obtain ⟨a2, c2, e3, _, _⟩ := owns_form hO2
      obtain ⟨ln, hln⟩ : ∃ ln, ln = P.reverse.length := ⟨_, rfl⟩
      rw [← hln] at e3
      subst e3
      clear hO2 hln
      go_wp2_with fail
      refine HTR.out.mono ?_
      rintro e w3 ⟨v3, rfl, hO3, rfl, hne⟩
      have HNE := Lib.hid (fun e => HN2.out (hne e))
      clear hne
      rw [List.reverse_reverse, HE.out] at hO3
      have HO3 := Lib.hid (owns_mono hO3 HB.out.2)
      have HB3 := Lib.hid (HB.out.1.trans (hB2.mono HB.out.2))
      obtain ⟨a3, c3, e3, _, _⟩ := owns_form hO3
      obtain ⟨ln3, hln3⟩ : ∃ ln, ln = (sp N).length := ⟨_, rfl⟩
      rw [← hln3] at e3
      subst e3
      clear hO3 hB2 hln3
      go_wp2_with fail
      go_ret
      exact ⟨_, rfl, HO3.out, HB3.out, HNE.out⟩
    · obtain ⟨j, rfl⟩ : ∃ j, gk = j + 1 := ⟨gk - 1, by omega⟩
      rw [show ((j + 1 : Nat) : Int) - 1 = (j : Int) by omega]
      have hj57 : j ≤ 57 := by have := hsp.le; omega
      have hn := hsp.small
      have HPJ := Lib.hid (fun W => HPL.out j hj57 W)
      have hfj := HFB.out j (by omega)
      by_cases hf : fp j ≤ n
      · have HN := Lib.hid (spI_one hsp hf)
        obtain ⟨F, hF⟩ : ∃ F, F = fp j := ⟨_, rfl⟩
        rw [← hF] at HPJ HN hf hfj
        have hmc : ((n - F : Nat) : Int) = (n : Int) - F := by omega
        clear hsp hF
        go_wp2_with (first
          | (go_at_call 32; refine (HPJ.out _).mono ?_; rintro e w' ⟨rfl, rfl⟩)
          | (at_builtin; refine wpList_append_own_at _ rfl _ _ 24 rfl w.heap.size 3 i0 (.int .i64 0) 1 8 Try.underlying24 hi hz0 hz1 hz2 rfl (by decide) _ _ _ rfl (hown.alloc _) ⟨wr.heap.size, 0, none⟩ 1 1 [.int .i64 1] rfl rfl (one_cell _ _ _) (by intro u hu; simp at hu; subst hu; rfl) (by unfold maxLen; omega) (by omega) (by simp; omega) ?_))
        intro v' w1 hown' hgrow _ _
        have hB1 := (hB.alloc hsz _).grown hgrow (by simp; omega) (fun j hj => (hown.lt j hj).1)
        have HO := Lib.hid (show w1.ownsRow w.heap.size 3 1 v' (P ++ [1]).length (intsOf (P ++ [1])) by simpa [intsOf] using hown')
        clear hown' hgrow hown hB
        go_wp2_with fail
        go_roundg j
        case rel => exact ⟨n - F, P ++ [1], by go_num, by rw [hmc], HN.out, HO.out, hB1⟩
        case measure => omega
      · have HN := Lib.hid (spI_no hsp hf)
        obtain ⟨F, hF⟩ : ∃ F, F = fp j := ⟨_, rfl⟩
        rw [← hF] at HPJ hf hfj
        clear hsp hF
        go_wp2_with (first
          | (go_at_call 32; refine (HPJ.out _).mono ?_; rintro e w' ⟨rfl, rfl⟩)
          | (at_builtin; refine wpList_append_own_at _ rfl _ _ 24 rfl w.heap.size 3 i0 (.int .i64 0) 1 8 Try.underlying24 hi hz0 hz1 hz2 rfl (by decide) _ _ _ rfl (hown.alloc _) ⟨wr.heap.size, 0, none⟩ 1 1 [.int .i64 0] rfl rfl (one_cell _ _ _) (by intro u hu; simp at hu; subst hu; rfl) (by unfold maxLen; omega) (by omega) (by simp; omega) ?_))
        intro v' w1 hown' hgrow _ _
        have hB1 := (hB.alloc hsz _).grown hgrow (by simp; omega) (fun j hj => (hown.lt j hj).1)
        have HO := Lib.hid (show w1.ownsRow w.heap.size 3 1 v' (P ++ [0]).length (intsOf (P ++ [0])) by simpa [intsOf] using hown')
        clear hown' hgrow hown hB
        go_wp2_with fail
        go_roundg j
        case rel => exact ⟨n, P ++ [0], by go_num, rfl, HN.out, HO.out, hB1⟩
        case measure => omega

theorem specSp_any (N : Nat) (w : World) (hN : N ≤ 500000000000) :
    Calls Try.prog 60 #[.int .i64 N] w fun e w' => ∃ v', e = .returned v' ∧ w'.ownsRow w.heap.size 3 1 v' (sp N).length (intsOf (sp N)) ∧ Below w.heap.size w w' :=
  (specSp2_any N w hN).mono fun _ _ ⟨v, h1, h2, h3, _⟩ => ⟨v, h1, h2, h3⟩

theorem specSparseFib_any (n : Int) (w : World) (hn : in64 n) :
    Calls Try.prog 37 #[.int .i64 n] w fun e w' => ∃ v', e = .returned v' ∧ w'.ownsRow w.heap.size 3 1 v' (rSparseFib0 n).length (intsOf (rSparseFib0 n)) ∧ Below w.heap.size w w' := by
  have HS := Lib.hid (fun W => sIn_any n 0 500000000000 W)
  cases h : inB n 0 500000000000
  · rw [h] at HS
    have HNO := Lib.hid (show ∃ v', Ending.returned (.slice none 0 0) = .returned v' ∧ w.ownsRow w.heap.size 3 1 v' (rSparseFib0 n).length (intsOf (rSparseFib0 n)) ∧ Below w.heap.size w w from by
      refine ⟨_, rfl, ?_, Below.refl _ _⟩
      rw [rSparseFib0, h]; exact World.ownsRow_nil _ _ _ _)
    clear h
    go_enter Try.func37, Try.ntmps37
    go_wp2_with fail
    refine (HS.out _).mono ?_
    rintro e w' ⟨rfl, rfl⟩
    go_wp2_with fail
    go_ret
    exact HNO.out
  · rw [h] at HS
    obtain ⟨n0, n1⟩ := inB_yes h
    obtain ⟨N, rfl⟩ : ∃ N : Nat, n = N := ⟨n.toNat, by omega⟩
    have HP := Lib.hid (specSp_any N w (by omega))
    rw [show rSparseFib0 N = sp N by rw [rSparseFib0, h]; rfl]
    obtain ⟨L, hL⟩ : ∃ L, L = sp N := ⟨_, rfl⟩
    rw [← hL] at HP ⊢
    clear h hL
    go_enter Try.func37, Try.ntmps37
    go_wp2_with fail
    refine (HS.out _).mono ?_
    rintro e w' ⟨rfl, rfl⟩
    go_wp2_with fail
    refine HP.out.mono ?_
    rintro e w2 ⟨v2, rfl, hO, hB⟩
    have HO := Lib.hid hO
    obtain ⟨a3, c3, e3, _, _⟩ := owns_form hO
    subst e3
    clear hO
    go_wp2_with fail
    go_ret
    exact ⟨_, rfl, HO.out, hB⟩

end Go.Proofs.Ytkimojjhmllnfaa
