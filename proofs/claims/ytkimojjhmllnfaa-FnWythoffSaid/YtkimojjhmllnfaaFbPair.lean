/- Fibonacci places: the model's tests on neighbours. -/
import Derived.Test.YtkimojjhmllnfaaFbSpec
set_option linter.unusedVariables false
set_option linter.unusedSimpArgs false
set_option maxRecDepth 100000
namespace Go.Proofs.Ytkimojjhmllnfaa
open Go.ChangeShapes Go.WideShapes Go.ChangeAt Go.RowKit

theorem prs_snoc (x y z : Int) : ∀ a : List Int, prs x (a ++ [y] ++ [z]) = (prs x (a ++ [y]) || (y == x && z == x))
  | [] => by simp [prs]
  | [b] => by simp [prs]
  | b :: c :: a => by
    have ih := prs_snoc x y z (c :: a)
    simp only [List.cons_append] at ih ⊢
    rw [prs, prs, ih, Bool.or_assoc]
theorem prs_more (x : Int) (b : List Int) : ∀ a : List Int, prs x a = true → prs x (a ++ b) = true
  | [], h => by simp [prs] at h
  | [_], h => by simp [prs] at h
  | c :: d :: a, h => by
    rw [prs] at h
    rw [List.cons_append, List.cons_append, prs]
    rcases Bool.or_eq_true _ _ ▸ h with h | h
    · rw [h]; rfl
    · rw [← List.cons_append, prs_more x b (d :: a) h, Bool.or_true]
theorem prs_noP (x : Int) : ∀ l : List Int, prs x l = false ↔ NoP x l
  | [] => by simp [prs, NoP]
  | [_] => by simp [prs, NoP]
  | a :: b :: l => by
    rw [prs, NoP, Bool.or_eq_false_iff, prs_noP x (b :: l)]
    simp
theorem prs_take {l : List Int} {x : Int} {j : Nat} (h : j + 1 < l.length) : prs x (l.take (j + 2)) = (prs x (l.take (j + 1)) || (l[j] == x && l[j + 1] == x)) := by
  rw [List.take_succ_eq_append_getElem h, List.take_succ_eq_append_getElem (show j < l.length by omega)]
  exact prs_snoc _ _ _ _

set_option maxHeartbeats 4000000 in
theorem specPairs_any (v : Value) (l : List Int) (x : Int) (w : World) (hr : RowAt w v (intsOf l)) (hl : l.length ≤ 1048577) :
    Calls Try.prog 63 #[v, .int .i64 x] w fun e w' => e = .returned (.bool (prs x l)) ∧ w = w' := by
  obtain ⟨a, cap, rfl, h1, h2, h3⟩ := hr.ints
  unfold maxLen at h2
  clear hr
  obtain ⟨RES, hRES⟩ : ∃ RES, RES = prs x l := ⟨_, rfl⟩
  rw [← hRES]
  have HR := Lib.hid hRES
  clear hRES
  go_enter Try.func63, Try.ntmps63
  go_wp2
  go_loop [9] (fun i => ∃ k : Nat, k ≤ l.length ∧ i = .int .i64 k ∧ prs x (l.take k) = false) (fun i => l.length - (intOf i).toNat)
  case atStart => exact ⟨0, Nat.zero_le _, rfl, rfl⟩
  case round =>
    obtain ⟨k, hk, rfl, hp⟩ := hrel
    have HP := Lib.hid hp
    clear hp
    by_cases hlt : k < l.length
    · obtain ⟨b', off, rfl, hbb, hcell⟩ := h3.resolve_left (fun e => by rw [e] at hlt; simp at hlt)
      have hc := hcell k hlt
      cases k with
      | zero =>
        have HN := Lib.hid (show prs x (l.take 1) = false by
          cases l with
          | nil => rfl
          | cons _ _ => simp [prs])
        obtain ⟨y, hy⟩ : ∃ y, y = l[0] := ⟨_, rfl⟩
        rw [← hy] at hc
        rw [Nat.add_zero] at hc
        clear h3 hcell hy
        go_wp2
        go_round
        case rel => exact ⟨1, by omega, by go_num, HN.out⟩
        case measure => simp [intOf]; omega
      | succ j =>
        have hc0 := hcell j (by omega)
        have hT := prs_take (x := x) hlt
        rw [HP.out, Bool.false_or] at hT
        have HM := Lib.hid (fun h => prs_more x (l.drop (j + 2)) (l.take (j + 2)) h)
        rw [List.take_append_drop] at HM
        obtain ⟨y, hy⟩ : ∃ y, y = l[j + 1] := ⟨_, rfl⟩
        obtain ⟨z, hz⟩ : ∃ z, z = l[j] := ⟨_, rfl⟩
        rw [← hy, ← hz] at hT
        rw [← hy] at hc
        rw [← hz] at hc0
        clear h3 hcell hy hz
        by_cases hyx : y = x
        · by_cases hzx : z = x
          · have HT := Lib.hid (show prs x l = true from HM.out (by rw [hT]; simp [hyx, hzx]))
            subst hyx
            subst hzx
            clear hT
            go_wp2
            go_ret
            exact ⟨by rw [HR.out, HT.out]; rfl, rfl⟩
          · have HN := Lib.hid (show prs x (l.take (j + 1 + 1)) = false by rw [hT]; simp [hzx])
            have hzb : (z == x) = false := by simpa using hzx
            subst hyx
            clear hT hzx
            go_wp2
            go_round
            case rel => exact ⟨j + 2, by omega, by go_num, HN.out⟩
            case measure => simp [intOf]; omega
        · have HN := Lib.hid (show prs x (l.take (j + 1 + 1)) = false by rw [hT]; simp [hyx])
          have hyb : (y == x) = false := by simpa using hyx
          clear hT hyx
          go_wp2
          go_round
          case rel => exact ⟨j + 2, by omega, by go_num, HN.out⟩
          case measure => simp [intOf]; omega
    · have hkl : k = l.length := by omega
      have HF := Lib.hid (show prs x l = false by have := HP.out; rwa [hkl, List.take_length] at this)
      have hn9 : ¬ (k : Int) < l.length := by omega
      clear h3
      go_wp2
      go_ret
      exact ⟨by rw [HR.out, HF.out]; rfl, rfl⟩

theorem specIsSparseFib_any (v : Value) (l : List Int) (w : World) (hr : RowAt w v (intsOf l)) (hl : l.length ≤ 1048576) (hi : ∀ n ∈ l, in64 n) :
    Calls Try.prog 41 #[v] w fun e w' => e = .returned (.bool (rIsSparseFib0 l)) ∧ Below w.heap.size w w' := by
  have HK := Lib.hid (specFb_any v l w hr (by omega) hi)
  have HP := Lib.hid (specPairs_any v l 1 w hr (by omega))
  obtain ⟨a, cap, rfl, h1, h2, h3⟩ := hr.ints
  clear h3 hr hi
  cases h : okF l
  · rw [h] at HK
    have E0 := Lib.hid (show rIsSparseFib0 l = false by rw [rIsSparseFib0, h]; rfl)
    clear h
    go_enter Try.func41, Try.ntmps41
    go_wp2_with fail
    refine HK.out.mono ?_
    rintro e w' ⟨rfl, rfl⟩
    go_wp2_with fail
    go_ret
    exact ⟨by rw [E0.out]; rfl, Below.refl _ _⟩
  · rw [h] at HK
    have E0 := Lib.hid (show rIsSparseFib0 l = !prs 1 l by rw [rIsSparseFib0, h]; rfl)
    obtain ⟨p, hp⟩ : ∃ p, p = prs 1 l := ⟨_, rfl⟩
    rw [← hp] at E0 HP
    clear h hp
    go_enter Try.func41, Try.ntmps41
    go_wp2_with fail
    refine HK.out.mono ?_
    rintro e w' ⟨rfl, rfl⟩
    go_wp2_with fail
    refine HP.out.mono ?_
    rintro e w' ⟨rfl, rfl⟩
    go_wp2_with fail
    go_ret
    exact ⟨by rw [E0.out]; rfl, Below.refl _ _⟩
theorem specIsDenseFib_any (v : Value) (l : List Int) (w : World) (hr : RowAt w v (intsOf l)) (hl : l.length ≤ 1048576) (hi : ∀ n ∈ l, in64 n) :
    Calls Try.prog 42 #[v] w fun e w' => e = .returned (.bool (rIsDenseFib0 l)) ∧ Below w.heap.size w w' := by
  have HK := Lib.hid (specFb_any v l w hr (by omega) hi)
  have HP := Lib.hid (specPairs_any v l 0 w hr (by omega))
  obtain ⟨a, cap, rfl, h1, h2, h3⟩ := hr.ints
  clear h3 hr hi
  cases h : okF l
  · rw [h] at HK
    have E0 := Lib.hid (show rIsDenseFib0 l = false by rw [rIsDenseFib0, h]; rfl)
    clear h
    go_enter Try.func42, Try.ntmps42
    go_wp2_with fail
    refine HK.out.mono ?_
    rintro e w' ⟨rfl, rfl⟩
    go_wp2_with fail
    go_ret
    exact ⟨by rw [E0.out]; rfl, Below.refl _ _⟩
  · rw [h] at HK
    have E0 := Lib.hid (show rIsDenseFib0 l = !prs 0 l by rw [rIsDenseFib0, h]; rfl)
    obtain ⟨p, hp⟩ : ∃ p, p = prs 0 l := ⟨_, rfl⟩
    rw [← hp] at E0 HP
    clear h hp
    go_enter Try.func42, Try.ntmps42
    go_wp2_with fail
    refine HK.out.mono ?_
    rintro e w' ⟨rfl, rfl⟩
    go_wp2_with fail
    refine HP.out.mono ?_
    rintro e w' ⟨rfl, rfl⟩
    go_wp2_with fail
    go_ret
    exact ⟨by rw [E0.out]; rfl, Below.refl _ _⟩

end Go.Proofs.Ytkimojjhmllnfaa
