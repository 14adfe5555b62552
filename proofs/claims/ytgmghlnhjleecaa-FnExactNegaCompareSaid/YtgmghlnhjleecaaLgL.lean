/- Long numbers: the program's small methods: a place, the zeros at the end, what is handed back; and the library's comparison of two integers. -/
import Derived.Test.YtgmghlnhjleecaaLgCmp
import Derived.Test.YtgmghlnhjleecaaRf
import Derived.Deep.LoopGhost
import Derived.Deep.RegionHeld3
set_option linter.unusedVariables false
set_option linter.unusedSimpArgs false
namespace Go.Proofs.Ytgmghlnhjleecaa
open Go.ChangeShapes Go.WideShapes Go.ChangeAt Go.RowKit

set_option maxHeartbeats 1000000 in
theorem implAt_any (v : Value) (l : List Int) (k : Nat) (w : World) (hr : RowAt w v (intsOf l)) (hl : l.length ≤ 1048576) (hk : k ≤ 2000000) :
    Calls Try.prog 84 #[v, .int .i64 k] w fun e w' => e = .returned (.int .i64 (at0 l k)) ∧ w = w' := by
  obtain ⟨a, cap, rfl, h1, h2, h3⟩ := hr.ints
  unfold maxLen at h2
  by_cases hlt : k < l.length
  · obtain ⟨b, off, rfl, hb, hcell⟩ := h3.resolve_left (fun e => by rw [e] at hlt; simp at hlt)
    have hc := hcell k hlt
    have HV := Lib.hid (at0_lt hlt)
    have hng : ¬ ((l.length : Int) ≤ k) := by omega
    clear h3 hcell
    go_enter Try.func84, Try.ntmps84
    go_wp2
    go_ret
    exact ⟨by rw [HV.out]; rfl, rfl⟩
  · have HV := Lib.hid (at0_ge (l := l) (k := k) (by omega))
    have hng : (l.length : Int) ≤ k := by omega
    clear h3 hlt
    go_enter Try.func84, Try.ntmps84
    go_wp2
    go_ret
    exact ⟨by rw [HV.out]; rfl, rfl⟩

theorem implAt_q (v : Value) (l : List Int) (k : Nat) (w : World) (n : Nat) (hr : RowAt w v (intsOf l)) (hl : l.length ≤ 1048576) (hk : k ≤ 2000000) :
    Calls Try.prog 84 #[v, .int .i64 k] (w.drewN n) fun e w' => e = .returned (.int .i64 (at0 l k)) ∧ w' = w.drewN n := by
  refine (implAt_any v l k (w.drewN n) (hr.drewN n) hl hk).mono ?_
  rintro e w' ⟨rfl, rfl⟩
  exact ⟨rfl, rfl⟩

theorem nan_any (x : Int) (w : World) : Calls Try.prog 89 #[.int .i64 x] w fun e w' => e = .returned (.bool false) ∧ w = w' := by
  have h : (x != x) = false := by simp
  go_enter Try.func89, Try.ntmps89
  go_wp2
  go_ret
  exact ⟨rfl, rfl⟩

/-- how two integers stand to each other -/
def cmpZ (x y : Int) : Int := if x < y then -1 else if y < x then 1 else 0

set_option maxHeartbeats 1000000 in
theorem cmpInt_any (x y : Int) (w : World) : Calls Try.prog 85 #[.int .i64 x, .int .i64 y] w fun e w' => e = .returned (.int .i64 (cmpZ x y)) ∧ w = w' := by
  have HN := Lib.hid (fun z W => nan_any z W)
  by_cases h1 : x < y
  · have HV := Lib.hid (show cmpZ x y = -1 by simp [cmpZ, h1])
    go_enter Try.func85, Try.ntmps85
    go_wp2_with (go_at_call 89; refine (HN.out _ _).mono ?_; rintro e w' ⟨rfl, rfl⟩)
    go_ret
    exact ⟨by rw [HV.out]; rfl, rfl⟩
  · by_cases h2 : y < x
    · have HV := Lib.hid (show cmpZ x y = 1 by simp [cmpZ, h1, h2])
      go_enter Try.func85, Try.ntmps85
      go_wp2_with (go_at_call 89; refine (HN.out _ _).mono ?_; rintro e w' ⟨rfl, rfl⟩)
      go_ret
      exact ⟨by rw [HV.out]; rfl, rfl⟩
    · have HV := Lib.hid (show cmpZ x y = 0 by simp [cmpZ, h1, h2])
      go_enter Try.func85, Try.ntmps85
      go_wp2_with (go_at_call 89; refine (HN.out _ _).mono ?_; rintro e w' ⟨rfl, rfl⟩)
      go_ret
      exact ⟨by rw [HV.out]; rfl, rfl⟩

end Go.Proofs.Ytgmghlnhjleecaa
