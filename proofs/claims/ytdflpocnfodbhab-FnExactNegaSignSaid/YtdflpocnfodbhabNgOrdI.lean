/- Negative bases: the program's signs, ranges and comparisons. -/
import Derived.Test.YtdflpocnfodbhabRf
import Derived.Test.YtdflpocnfodbhabDgImp
import Derived.Test.YtdflpocnfodbhabLgR
import Derived.Test.YtdflpocnfodbhabNgM
import Derived.Deep.LoopGhost
import Derived.Deep.RegionHeld3
set_option linter.unusedVariables false
set_option linter.unusedSimpArgs false
set_option maxRecDepth 100000
namespace Go.Proofs.Ytdflpocnfodbhab
open Go.ChangeShapes Go.WideShapes Go.ChangeAt Go.RowKit

/-- the sign of a place -/
def psg (k : Nat) : Int := if k % 2 = 0 then 1 else -1

theorem place_any (k : Nat) (w : World) (hk : k ≤ 1000000) :
    Calls Try.prog 69 #[.int .i64 k] w fun e w' => e = .returned (.int .i64 (psg k)) ∧ w = w' := by
  have hm : ((k : Int).tmod 2) = ((k % 2 : Nat) : Int) := by rw [Int.tmod_eq_emod_of_nonneg (by omega)]; omega
  have hr : (k : Int) % 2 = ((k % 2 : Nat) : Int) := by omega
  rcases Nat.mod_two_eq_zero_or_one k with h | h
  · have HV := Lib.hid (show psg k = 1 by rw [psg, if_pos h])
    rw [h] at hm hr
    clear h
    go_enter Try.func69, Try.ntmps69
    go_wp2
    go_ret
    exact ⟨by rw [HV.out]; rfl, rfl⟩
  · have HV := Lib.hid (show psg k = -1 by rw [psg, if_neg (by omega)])
    rw [h] at hm hr
    clear h
    go_enter Try.func69, Try.ntmps69
    go_wp2
    go_ret
    exact ⟨by rw [HV.out]; rfl, rfl⟩

set_option maxHeartbeats 1000000 in
theorem implNegaSign_any (v : Value) (l : List Int) (b : Int) (w : World) (hr : RowAt w v (intsOf l)) (hl : l.length ≤ 1048576) (hi : ∀ n ∈ l, in64 n) (hb : in64 b) :
    Calls Try.prog 36 #[v, .int .i64 b] w fun e w' => e = .returned (.int .i64 (rNegaSign0 l b)) ∧ Below w.heap.size w w' := by
  have H1 := Lib.hid (implDigitsOk_any v l b w hr hl hi hb)
  obtain ⟨a, cap, rfl, h1, h2, h3⟩ := hr.ints
  unfold maxLen at h2
  clear h3 hr
  cases h : okD l b
  · rw [h] at H1
    have E0 := Lib.hid (show rNegaSign0 l b = -2 by rw [rNegaSign0, h]; rfl)
    clear h
    go_enter Try.func36, Try.ntmps36
    go_wp2_with (go_at_call 45; refine H1.out.mono ?_; rintro e w' ⟨rfl, rfl⟩)
    go_ret
    exact ⟨by rw [E0.out]; rfl, Below.refl _ _⟩
  · rw [h] at H1
    obtain ⟨b, rfl, hb2, hb16, hN, hla⟩ := nat_of_ok h
    have HE := Lib.hid (show rNegaSign0 l b = sgnZ (nv b l) by rw [rNegaSign0, h, nvI_nat]; rfl)
    obtain ⟨n, hn⟩ : ∃ n, n = l.length := ⟨_, rfl⟩
    have HK0 := Lib.hid (fun h0 : n = 0 => show rNegaSign0 l b = 0 by rw [HE.out, List.eq_nil_of_length_eq_zero (hn.symm.trans h0)]; rfl)
    have HKS := Lib.hid (fun (k : Nat) (hk : n = k + 1) => show rNegaSign0 l b = psg k by
      rw [HE.out, psg]
      split
      · exact sgnZ_odd hb2 hN (by omega)
      · exact sgnZ_even hb2 hN (fun e => by rw [e] at hn; simp at hn; omega) (by omega))
    rw [← hn] at H1 h1 hla ⊢
    clear h hN hi hb hn hl
    by_cases h0 : n = 0
    · subst h0
      have E0 := Lib.hid (HK0.out rfl)
      go_enter Try.func36, Try.ntmps36
      go_wp2_with (go_at_call 45; refine H1.out.mono ?_; rintro e w' ⟨rfl, rfl⟩)
      go_ret
      exact ⟨by rw [E0.out]; rfl, Below.refl _ _⟩
    · obtain ⟨k, hk⟩ : ∃ k, n = k + 1 := ⟨n - 1, by omega⟩
      have E0 := Lib.hid (HKS.out k hk)
      have HP := Lib.hid (place_any k w (by omega))
      have hq : ((n : Int) == 0) = false := by simp; omega
      have hs1 : (n : Int) - 1 = k := by omega
      have hn1 : ¬ (n : Int) = 0 := by omega
      have hn2 : (n : Int) ≤ 60 := by omega
      clear hk h0
      go_enter Try.func36, Try.ntmps36
      go_wp2_with (first
        | (go_at_call 45; refine H1.out.mono ?_; rintro e w' ⟨rfl, rfl⟩)
        | (go_at_call 69; refine HP.out.mono ?_; rintro e w' ⟨rfl, rfl⟩))
      go_ret
      exact ⟨by rw [E0.out]; rfl, Below.refl _ _⟩

end Go.Proofs.Ytdflpocnfodbhab
