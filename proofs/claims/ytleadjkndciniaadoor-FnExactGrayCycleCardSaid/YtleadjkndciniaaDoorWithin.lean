/- Lists of digits between two bounds: what the program's test answers. -/
import Derived.Test.YtleadjkndciniaaDoorRow
import Derived.Maps.AppendAt
set_option linter.unusedVariables false
set_option linter.unusedSimpArgs false
set_option maxRecDepth 100000
namespace Go.Proofs.YtleadjkndciniaaDoor
open Go.ChangeShapes Go.WideShapes Go.ChangeAt Go.RowKit

/-- at most 60 digits, each between two bounds, the last one not 0 -/
def okIn (l : List Int) (lo hi : Int) : Bool := decide (l.length ≤ 60) && decide (∀ d ∈ l, lo ≤ d ∧ d ≤ hi) && decide (l = [] ∨ l.getLast? ≠ some 0)
theorem okIn_long {l : List Int} {lo hi : Int} (h : 60 < l.length) : okIn l lo hi = false := by
  have : ¬ l.length ≤ 60 := by omega
  simp [okIn, this]
theorem okIn_at {l : List Int} {lo hi : Int} {k : Nat} (hk : k < l.length) (h : l[k] < lo ∨ hi < l[k]) : okIn l lo hi = false := by
  have : ¬ (∀ d ∈ l, lo ≤ d ∧ d ≤ hi) := fun g => by
    have := g l[k] (List.getElem_mem hk)
    omega
  simp only [okIn, decide_eq_false this, Bool.and_false, Bool.false_and]
theorem okIn_end {l : List Int} {lo hi : Int} (h2 : l.length ≤ 60) (h3 : ∀ d ∈ l, lo ≤ d ∧ d ≤ hi) : okIn l lo hi = decide (l = [] ∨ l.getLast? ≠ some 0) := by
  simp only [okIn, decide_eq_true h2, decide_eq_true h3, Bool.true_and]

def allIn (l : List Int) (lo hi : Int) : Bool := decide (∀ d ∈ l, lo ≤ d ∧ d ≤ hi)
theorem allIn_yes {l : List Int} {lo hi : Int} (h : allIn l lo hi = true) : ∀ d ∈ l, lo ≤ d ∧ d ≤ hi := by simpa [allIn] using h
theorem allIn_at {l : List Int} {lo hi : Int} {k : Nat} (hk : k < l.length) (h : l[k] < lo ∨ hi < l[k]) : allIn l lo hi = false := by
  have : ¬ (∀ d ∈ l, lo ≤ d ∧ d ≤ hi) := fun g => by
    have := g l[k] (List.getElem_mem hk)
    omega
  simp only [allIn, decide_eq_false this]
theorem okIn_not {l : List Int} {lo hi : Int} (h : allIn l lo hi = false) : okIn l lo hi = false := by
  have : decide (∀ d ∈ l, lo ≤ d ∧ d ≤ hi) = false := h
  simp only [okIn, this, Bool.and_false, Bool.false_and]

set_option maxRecDepth 100000 in
set_option maxHeartbeats 1000000 in
theorem allIn_any (v : Value) (l : List Int) (lo hi : Int) (w : World) (hr : RowAt w v (intsOf l)) (hl : l.length ≤ 1048577) :
    Calls Tryd.prog 56 #[v, .int .i64 lo, .int .i64 hi] w fun e w' => e = .returned (.bool (allIn l lo hi)) ∧ w = w' := by
  obtain ⟨a, cap, rfl, h1, h2, h3⟩ := hr.ints
  unfold maxLen at h2
  go_enter Tryd.func56, Tryd.ntmps56
  go_wp2
  go_loop [11] (fun i => ∃ k : Nat, k ≤ l.length ∧ i = .int .i64 k ∧ ∀ j (hj : j < l.length), j < k → lo ≤ l[j] ∧ l[j] ≤ hi) (fun i => l.length - (intOf i).toNat)
  case atStart => exact ⟨0, Nat.zero_le _, rfl, fun j hj k => by omega⟩
  case round =>
    obtain ⟨k, hk, rfl, hall⟩ := hrel
    have HA := Lib.hid hall; clear hall
    by_cases hlt : k < l.length
    · obtain ⟨b', off, rfl, hbb, hcell⟩ := h3.resolve_left (fun e => by rw [e] at hlt; simp at hlt)
      have hc := hcell k hlt
      clear h3 hcell
      by_cases d1 : l[k] < lo
      · have HK := Lib.hid (allIn_at (hi := hi) hlt (.inl d1))
        obtain ⟨d, hd'⟩ : ∃ d, d = l[k] := ⟨_, rfl⟩
        rw [← hd'] at hc d1
        clear hd'
        go_wp2
        go_ret
        exact ⟨ret_bool HK.out.symm, rfl⟩
      · by_cases d2 : hi < l[k]
        · have HK := Lib.hid (allIn_at (lo := lo) hlt (.inr d2))
          obtain ⟨d, hd'⟩ : ∃ d, d = l[k] := ⟨_, rfl⟩
          rw [← hd'] at hc d1 d2
          clear hd'
          go_wp2
          go_ret
          exact ⟨ret_bool HK.out.symm, rfl⟩
        · have HD := Lib.hid (show lo ≤ l[k] ∧ l[k] ≤ hi by omega)
          obtain ⟨d, hd'⟩ : ∃ d, d = l[k] := ⟨_, rfl⟩
          rw [← hd'] at hc d1 d2 HD
          have HD' := Lib.hid hd'
          clear hd'
          go_wp2
          go_round
          case rel =>
            refine ⟨k + 1, hlt, by go_num, fun j hj' hj => ?_⟩
            by_cases e : j = k
            · subst e; have := HD.out; rw [HD'.out] at this; exact this
            · exact HA.out j hj' (by omega)
          case measure => simp [intOf]; omega
    · have HE := Lib.hid (show allIn l lo hi = true by
        simp only [allIn, decide_eq_true_eq]
        intro d hd
        obtain ⟨j, hj, rfl⟩ := List.getElem_of_mem hd
        exact HA.out j hj (by omega))
      clear h3
      go_wp2
      go_ret
      exact ⟨ret_bool HE.out.symm, rfl⟩

end Go.Proofs.YtleadjkndciniaaDoor
