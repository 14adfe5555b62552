/- The program's comparison of two lists at the greatest place where they differ. -/
import Derived.Test.YtdflpocnfodbhacLgL
set_option linter.unusedVariables false
set_option linter.unusedSimpArgs false
set_option maxRecDepth 100000
namespace Go.Proofs.Ytdflpocnfodbhac
open Go.ChangeShapes Go.WideShapes Go.ChangeAt Go.RowKit

/-- what lastDifference answers -/
def LastD (a c : List Int) (s : Int) (k : Nat) : Prop :=
  (s = 0 ∧ k = 0 ∧ ∀ j, at0 a j = at0 c j) ∨ (at0 a k ≠ at0 c k ∧ s = cmpZ (at0 a k) (at0 c k) ∧ ∀ j, k < j → at0 a j = at0 c j)

theorem drop_ext {f : List Int → Int} {m : Int} (hf : ∀ l k, f (l.drop k) = at0 l k + m * f (l.drop (k + 1))) (a c : List Int) : ∀ (t k : Nat), a.length ≤ k + t → c.length ≤ k + t → (∀ j, k ≤ j → at0 a j = at0 c j) → f (a.drop k) = f (c.drop k)
  | 0, k, h1, h2, _ => by rw [List.drop_of_length_le (by omega), List.drop_of_length_le (by omega)]
  | t + 1, k, h1, h2, h => by
    rw [hf a k, hf c k, h k (Nat.le_refl _), drop_ext hf a c t (k + 1) (by omega) (by omega) (fun j hj => h j (by omega))]

theorem cmpZ_pm {x y : Int} (h : x ≠ y) : cmpZ x y = 1 ∨ cmpZ x y = -1 := by
  unfold cmpZ; split
  · right; rfl
  · split
    · left; rfl
    · omega

set_option maxHeartbeats 2000000 in
theorem lastDiff_any (va : Value) (a : List Int) (vc : Value) (c : List Int) (w : World) (hra : RowAt w va (intsOf a)) (hl : a.length ≤ 60) (hrc : RowAt w vc (intsOf c)) (hl' : c.length ≤ 60) :
    Calls Try.prog 51 #[va, vc] w fun e w' => ∃ (s : Int) (k : Nat), e = .returned (.tuple #[.int .i64 s, .int .i64 k]) ∧ k ≤ 60 ∧ LastD a c s k ∧ w = w' := by
  have HRA := Lib.hid hra; have HRC := Lib.hid hrc
  obtain ⟨aa, cap, rfl, h1, h2, h3⟩ := hra.ints
  obtain ⟨ac, cap', rfl, h1', h2', h3'⟩ := hrc.ints
  unfold maxLen at h2 h2'
  clear h3 h3' hra hrc
  have HQA := Lib.hid (fun k (hk : k ≤ 2000000) => implAt_any _ a k w HRA.out (by omega) hk)
  have HQC := Lib.hid (fun k (hk : k ≤ 2000000) => implAt_any _ c k w HRC.out (by omega) hk)
  have HCM := Lib.hid (fun x y => cmpInt_any x y w)
  obtain ⟨M, hM⟩ : ∃ M, M = max a.length c.length := ⟨_, rfl⟩
  have hMa : a.length ≤ M := by omega
  have hMc : c.length ≤ M := by omega
  have hM9 : M ≤ 60 := by omega
  have hcase : (((a.length : Nat) : Int) < c.length ∧ (c.length : Int) = M) ∨ (¬ ((a.length : Nat) : Int) < c.length ∧ (a.length : Int) = M) := by omega
  clear hM
  rcases hcase with ⟨hlt, hn0⟩ | ⟨hlt, hn0⟩
  all_goals
    go_enter Try.func51, Try.ntmps51
    go_wp2_with fail
    go_loop [6] (fun i => ∃ k : Nat, k ≤ M ∧ i = .int .i64 ((k : Int) - 1) ∧ ∀ j, k ≤ j → at0 a j = at0 c j) (fun i => (intOf i + 1).toNat)
    case atStart => exact ⟨M, Nat.le_refl _, by first | rfl | (rw [hn0]) | (rw [← hn0]), fun j hj => by rw [at0_ge (by omega), at0_ge (by omega)]⟩
    case round =>
      obtain ⟨k, hk, rfl, heq⟩ := hrel
      have HEQ := Lib.hid heq
      clear heq
      cases k with
      | zero =>
        go_wp2_with fail
        go_ret2
        exact ⟨0, 0, rfl, by omega, .inl ⟨rfl, rfl, fun j => HEQ.out j (Nat.zero_le _)⟩, rfl⟩
      | succ j =>
        rw [show ((j + 1 : Nat) : Int) - 1 = (j : Int) by omega]
        have HA1 := Lib.hid (HQA.out j (by omega))
        have HC1 := Lib.hid (HQC.out j (by omega))
        obtain ⟨x, hx⟩ : ∃ x, x = at0 a j := ⟨_, rfl⟩
        obtain ⟨y, hy⟩ : ∃ y, y = at0 c j := ⟨_, rfl⟩
        rw [← hx] at HA1
        rw [← hy] at HC1
        by_cases hxy : x = y
        · subst hxy
          have HE := Lib.hid (show ∀ i, j ≤ i → at0 a i = at0 c i from fun i hi => by
            by_cases e : i = j
            · subst e; rw [← hx, ← hy]
            · exact HEQ.out i (by omega))
          have hq : (x != x) = false := by simp
          clear hx hy
          go_wp2_with fail
          refine HA1.out.mono ?_
          rintro e w' ⟨rfl, rfl⟩
          go_wp2_with fail
          refine HC1.out.mono ?_
          rintro e w' ⟨rfl, rfl⟩
          go_wp2_with fail
          go_round
          case rel => exact ⟨j, by omega, by go_num, HE.out⟩
          case measure => simp [intOf]
        · have HD := Lib.hid (show LastD a c (cmpZ x y) j from .inr ⟨by rw [← hx, ← hy]; exact hxy, by rw [← hx, ← hy], fun i hi => HEQ.out i (by omega)⟩)
          have hq : (x != y) = true := by simp [hxy]
          have HK := Lib.hid (HCM.out x y)
          clear hx hy hxy
          go_wp2_with fail
          refine HA1.out.mono ?_
          rintro e w' ⟨rfl, rfl⟩
          go_wp2_with fail
          refine HC1.out.mono ?_
          rintro e w' ⟨rfl, rfl⟩
          go_wp2_with fail
          refine HA1.out.mono ?_
          rintro e w' ⟨rfl, rfl⟩
          go_wp2_with fail
          refine HC1.out.mono ?_
          rintro e w' ⟨rfl, rfl⟩
          go_wp2_with fail
          refine HK.out.mono ?_
          rintro e w' ⟨rfl, rfl⟩
          go_wp2_with fail
          go_ret2
          exact ⟨_, j, rfl, by omega, HD.out, rfl⟩

end Go.Proofs.Ytdflpocnfodbhac
