/- The law's test of two lists, whatever they are. -/
import Derived.Test.YtkimojjhmllnfaaRow
import Derived.Maps.AppendAt
set_option linter.unusedVariables false
set_option linter.unusedSimpArgs false
set_option maxRecDepth 100000
namespace Go.Proofs.Ytkimojjhmllnfaa
open Go.ChangeShapes Go.WideShapes Go.ChangeAt Go.RowKit

set_option maxHeartbeats 2000000 in
theorem same2_any (va vc : Value) (a c : List Int) (w : World) (hra : RowAt w va (intsOf a)) (hrc : RowAt w vc (intsOf c)) (hl : a.length ≤ 1048576) (hl' : c.length ≤ 1048576) :
    Calls Try.prog 23 #[va, vc] w fun e w' => e = .returned (.bool (decide (a = c))) ∧ w = w' := by
  obtain ⟨aa, cap, rfl, h1, h2, h3⟩ := hra.ints
  obtain ⟨ac, cap', rfl, h1', h2', h3'⟩ := hrc.ints
  unfold maxLen at h2 h2'
  by_cases hlen : a.length = c.length
  · have HLE := Lib.hid hlen
    obtain ⟨m, hm⟩ : ∃ m, m = c.length := ⟨_, rfl⟩
    rw [← hm] at hlen hl' h1' ⊢
    have HM := Lib.hid hm
    obtain ⟨n, hn⟩ : ∃ n, n = a.length := ⟨_, rfl⟩
    have HN := Lib.hid hn
    rw [← hn] at hlen hl h1 ⊢
    subst hlen
    clear hm hn
    go_enter Try.func23, Try.ntmps23
    go_wp2
    go_loop [14] (fun i => ∃ k : Nat, k ≤ n ∧ i = .int .i64 k ∧ ∀ j (ha : j < a.length) (hc : j < c.length), j < k → a[j] = c[j]) (fun i => n - (intOf i).toNat)
    case atStart => exact ⟨0, Nat.zero_le _, rfl, fun _ _ _ h => by omega⟩
    case round =>
      obtain ⟨k, hk, rfl, hall⟩ := hrel
      have HA := Lib.hid hall
      clear hall
      by_cases hlt : k < n
      · have ka : k < a.length := by rw [← HN.out]; exact hlt
        have kc : k < c.length := by rw [← HM.out]; exact hlt
        obtain ⟨b, off, rfl, hb, hcell⟩ := h3.resolve_left (fun e => by rw [e] at ka; simp at ka)
        obtain ⟨b', off', rfl, hb', hcell'⟩ := h3'.resolve_left (fun e => by rw [e] at kc; simp at kc)
        have hc := hcell k ka
        have hc' := hcell' k kc
        obtain ⟨x, hx⟩ : ∃ x, x = a[k] := ⟨_, rfl⟩
        obtain ⟨y, hy⟩ : ∃ y, y = c[k] := ⟨_, rfl⟩
        rw [← hx] at hc
        rw [← hy] at hc'
        have HX := Lib.hid hx
        have HY := Lib.hid hy
        clear h3 h3' hcell hcell' hx hy
        by_cases hxy : x = y
        · have HE := Lib.hid (show ∀ j (ha : j < a.length) (hc : j < c.length), j < k + 1 → a[j] = c[j] from fun j ha hc hj => by
            rcases Nat.lt_or_ge j k with h | h
            · exact HA.out j ha hc h
            · have : j = k := by omega
              subst this
              rw [← HX.out, ← HY.out, hxy])
          subst hxy
          go_wp2
          go_round
          case rel => exact ⟨k + 1, hlt, by go_num, HE.out⟩
          case measure => simp [intOf]; omega
        · have HV := Lib.hid (show decide (a = c) = false from decide_eq_false (fun e => hxy (by rw [HX.out, HY.out]; subst e; rfl)))
          have hq : (x == y) = false := by simp [hxy]
          clear hxy
          go_wp2
          go_ret
          exact ⟨by rw [HV.out]; rfl, rfl⟩
      · have HV := Lib.hid (show decide (a = c) = true from decide_eq_true (List.ext_getElem HLE.out (fun j ha hc => HA.out j ha hc (by have := HN.out; omega))))
        clear h3 h3'
        go_wp2
        go_ret
        exact ⟨by rw [HV.out]; rfl, rfl⟩
  · have HV := Lib.hid (show decide (a = c) = false from decide_eq_false (fun e => hlen (by rw [e])))
    have hlI : ((a.length : Int) == c.length) = false := by simp; omega
    have hlJ : ¬ (a.length : Int) = c.length := by omega
    clear h3 h3'
    go_enter Try.func23, Try.ntmps23
    go_wp2
    go_ret
    exact ⟨by rw [HV.out]; rfl, rfl⟩

end Go.Proofs.Ytkimojjhmllnfaa
