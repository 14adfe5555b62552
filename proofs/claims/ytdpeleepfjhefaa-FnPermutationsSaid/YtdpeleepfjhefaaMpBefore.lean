/- The laws' test that a list is before another one. -/
import Derived.Test.YtdpeleepfjhefaaRow
import Derived.Test.YtdpeleepfjhefaaMpM2
set_option linter.unusedVariables false
set_option linter.unusedSimpArgs false
set_option maxRecDepth 100000
namespace Go.Proofs.Ytdpeleepfjhefaa
open Go.ChangeShapes Go.WideShapes Go.ChangeAt Go.RowKit

theorem lex_first : ∀ {a c : List Int}, lexLt a c → ∃ p, ∃ (h1 : p < a.length) (h2 : p < c.length), a[p] < c[p] ∧ ∀ k (h : k < p), a[k] = c[k]
  | [], _, h => by simp [lexLt] at h
  | x :: a, [], h => by simp [lexLt] at h
  | x :: a, y :: c, h => by
    rcases h with h | ⟨rfl, h⟩
    · exact ⟨0, by simp, by simp, h, fun k hk => by omega⟩
    · obtain ⟨p, h1, h2, h3, h4⟩ := lex_first h
      refine ⟨p + 1, by simp; omega, by simp; omega, by simpa using h3, fun k hk => ?_⟩
      cases k with
      | zero => rfl
      | succ k => simpa using h4 k (by omega)

set_option maxHeartbeats 2000000 in
theorem before_any (va vc : Value) (a c : List Int) (w : World) (hra : RowAt w va (intsOf a)) (hrc : RowAt w vc (intsOf c)) (hl : a.length ≤ 1048576) (hl' : c.length ≤ 1048576) (hlex : lexLt a c) :
    Calls Try.prog 25 #[va, vc] w fun e w' => e = .returned (.bool true) ∧ w = w' := by
  obtain ⟨p, p1, p2, p3, p4⟩ := lex_first hlex
  obtain ⟨aa, cap, rfl, h1, h2, h3⟩ := hra.ints
  obtain ⟨ac, cap', rfl, h1', h2', h3'⟩ := hrc.ints
  obtain ⟨b, off, rfl, hb, hcell⟩ := h3.resolve_left (fun e => by rw [e] at p1; simp at p1)
  obtain ⟨b', off', rfl, hb', hcell'⟩ := h3'.resolve_left (fun e => by rw [e] at p2; simp at p2)
  unfold maxLen at h2 h2'
  have HC := Lib.hid hcell
  have HC' := Lib.hid hcell'
  have HP3 := Lib.hid p3
  have HP4 := Lib.hid p4
  clear h3 h3' hcell hcell' hlex p3 p4
  go_enter Try.func25, Try.ntmps25
  go_wp2
  go_loop [9] (fun i => ∃ k : Nat, k ≤ p ∧ i = .int .i64 k) (fun i => a.length - (intOf i).toNat)
  case atStart => exact ⟨0, Nat.zero_le _, rfl⟩
  case round =>
    obtain ⟨k, hk, rfl⟩ := hrel
    have hka : k < a.length := by omega
    have hkc : k < c.length := by omega
    have hc := HC.out k hka
    have hc' := HC'.out k hkc
    have hi1 : (k : Int) < a.length := by omega
    have hi2 : ¬ (c.length : Int) ≤ k := by omega
    by_cases hlt : k < p
    · rw [← HP4.out k hlt] at hc'
      obtain ⟨x, hx⟩ : ∃ x, x = a[k] := ⟨_, rfl⟩
      rw [← hx] at hc hc'
      clear hx
      go_wp2
      go_round
      case rel => exact ⟨k + 1, by omega, by go_num⟩
      case measure => simp [intOf]; omega
    · have hkp : k = p := by omega
      have h3 := HP3.out
      subst hkp
      obtain ⟨x, hx⟩ : ∃ x, x = a[k] := ⟨_, rfl⟩
      obtain ⟨y, hy⟩ : ∃ y, y = c[k] := ⟨_, rfl⟩
      rw [← hx, ← hy] at h3
      rw [← hx] at hc
      rw [← hy] at hc'
      have hne : ¬ x = y := by omega
      clear hx hy HP4 HP3
      go_wp2
      go_ret
      exact ⟨by simp [h3], rfl⟩

end Go.Proofs.Ytdpeleepfjhefaa
