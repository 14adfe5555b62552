/- Long numbers: the model's helpers: trimming, one place, comparing. -/
import Derived.Test.YtkimojjhmllnfaaRow
import Derived.Test.YtkimojjhmllnfaaLgM
set_option linter.unusedVariables false
set_option linter.unusedSimpArgs false
set_option maxRecDepth 100000
namespace Go.Proofs.Ytkimojjhmllnfaa
open Go.ChangeShapes Go.WideShapes Go.ChangeAt Go.RowKit

/-- the first n of a row that is owned -/
theorem owns_take {w : World} {base : Nat} {e : TypeId} {a : Option Addr} {m cap n : Nat} {xs : List Value} (h : w.ownsRow base e 1 (.slice a m cap) m xs) (hn : n ≤ m) : w.ownsRow base e 1 (.slice a n cap) n (xs.take n) := by
  obtain ⟨hl, h2⟩ := h
  refine ⟨by rw [List.length_take]; omega, ?_⟩
  rcases h2 with ⟨hv, h0⟩ | ⟨g, c, cur, hv, hg, hh, h1, h2, h3, ht⟩
  · injection hv with e1 e2 e3
    subst e1 e3
    have : n = 0 := by omega
    subst this
    exact .inl ⟨rfl, rfl⟩
  · injection hv with e1 e2 e3
    subst e1 e3
    refine .inr ⟨g, cap, cur, rfl, hg, hh, by omega, h2, h3, ?_⟩
    rw [← ht, List.take_take]
    congr 1; omega

theorem intsOf_take (l : List Int) (n : Nat) : (intsOf l).take n = intsOf (l.take n) := by simp [intsOf, List.map_take]

/-- a slice value that is written out -/
theorem owns_form {w : World} {base : Nat} {e : TypeId} {v : Value} {n : Nat} {xs : List Value} (h : w.ownsRow base e 1 v n xs) : ∃ a cap, v = .slice a n cap ∧ n ≤ cap ∧ cap ≤ maxLen := by
  rcases h.2 with ⟨rfl, h0⟩ | ⟨g, cap, cur, rfl, _, _, h1, h2, _⟩
  · subst h0; exact ⟨none, 0, rfl, Nat.le_refl _, Nat.zero_le _⟩
  · exact ⟨_, cap, rfl, h1, h2⟩

set_option maxHeartbeats 2000000 in
theorem specTrim_any (a : Option Addr) (cap : Nat) (l : List Int) (w : World) (hr : RowAt w (.slice a l.length cap) (intsOf l)) (hl : l.length ≤ 1048576) :
    Calls Try.prog 61 #[.slice a l.length cap] w fun e w' => ∃ n, e = .returned (.slice a n cap) ∧ n ≤ l.length ∧ (∀ j (hj : j < l.length), n ≤ j → l[j] = 0) ∧ (∀ (h : n - 1 < l.length), n = 0 ∨ l[n - 1] ≠ 0) ∧ w = w' := by
  obtain ⟨a', cap', e', h1, h2, h3⟩ := hr.ints
  injection e' with e1 e2 e3
  subst e1 e3
  unfold maxLen at h2
  go_enter Try.func61, Try.ntmps61
  go_wp2
  go_loop [3] (fun i => ∃ n : Nat, n ≤ l.length ∧ i = .int .i64 n ∧ ∀ j (hj : j < l.length), n ≤ j → l[j] = 0) (fun i => (intOf i).toNat)
  case atStart => exact ⟨l.length, Nat.le_refl _, rfl, fun j hj h => by omega⟩
  case round =>
    obtain ⟨n, hn, rfl, hz⟩ := hrel
    have HZ := Lib.hid hz; clear hz
    cases n with
    | zero =>
      clear h3
      go_wp2
      go_ret
      exact ⟨0, rfl, Nat.zero_le _, HZ.out, fun _ => .inl rfl, rfl⟩
    | succ m =>
      have hml : m < l.length := by omega
      obtain ⟨b, off, rfl, hb, hcell⟩ := h3.resolve_left (fun e => by rw [e] at hml; simp at hml)
      have hc := hcell m hml
      have hix : ((m + 1 : Nat) : Int) - 1 = (m : Int) := by omega
      have hpos : (0 : Int) < ((m + 1 : Nat) : Int) := by omega
      clear h3 hcell
      by_cases h0 : l[m] = 0
      · have HZ2 := Lib.hid (show ∀ j (hj : j < l.length), m ≤ j → l[j] = 0 from fun j hj h => by
          by_cases e : j = m
          · subst e; exact h0
          · exact HZ.out j hj (by omega))
        rw [h0] at hc
        clear h0
        go_wp2
        go_round
        case rel => exact ⟨m, by omega, by go_num, HZ2.out⟩
        case measure => simp [intOf]
      · have hq : (l[m] == 0) = false := by simpa using h0
        have HN := Lib.hid h0
        clear h0
        go_wp2
        go_ret
        exact ⟨m + 1, rfl, hn, HZ.out, fun _ => .inr HN.out, rfl⟩

set_option maxHeartbeats 1000000 in
theorem specAt_any (v : Value) (l : List Int) (k : Nat) (w : World) (hr : RowAt w v (intsOf l)) (hl : l.length ≤ 1048576) (hk : k ≤ 2000000) :
    Calls Try.prog 66 #[v, .int .i64 k] w fun e w' => e = .returned (.int .i64 (at0 l k)) ∧ w = w' := by
  obtain ⟨a, cap, rfl, h1, h2, h3⟩ := hr.ints
  unfold maxLen at h2
  by_cases hlt : k < l.length
  · obtain ⟨b, off, rfl, hb, hcell⟩ := h3.resolve_left (fun e => by rw [e] at hlt; simp at hlt)
    have hc := hcell k hlt
    have HV := Lib.hid (at0_lt hlt)
    have hnn : ¬ ((k : Int) < 0) := by omega
    have hng : ¬ ((l.length : Int) ≤ k) := by omega
    clear h3 hcell
    go_enter Try.func66, Try.ntmps66
    go_wp2
    go_ret
    exact ⟨by rw [HV.out]; rfl, rfl⟩
  · have HV := Lib.hid (at0_ge (l := l) (k := k) (by omega))
    have hnn : ¬ ((k : Int) < 0) := by omega
    have hng : (l.length : Int) ≤ k := by omega
    clear h3 hlt
    go_enter Try.func66, Try.ntmps66
    go_wp2
    go_ret
    exact ⟨by rw [HV.out]; rfl, rfl⟩

/-- trimming a row of digits that is owned -/
theorem specTrim_at (a : Option Addr) (cap : Nat) (l : List Int) (b base : Nat) (w : World) (hb : 2 ≤ b) (hA : AllD b l) (hown : w.ownsRow base 3 1 (.slice a l.length cap) l.length (intsOf l)) (hl : l.length ≤ 1048576) :
    Calls Try.prog 61 #[.slice a l.length cap] w fun e w' => e = .returned (.slice a (dg b (vl b l)).length cap) ∧ w.ownsRow base 3 1 (.slice a (dg b (vl b l)).length cap) (dg b (vl b l)).length (intsOf (dg b (vl b l))) ∧ w = w' := by
  refine (specTrim_any a cap l w (RowAt.of_owns hown) hl).mono ?_
  rintro e w' ⟨n, rfl, hn, hz, hlast, rfl⟩
  have e := trim_eq hb hA hn hz hlast
  have en : (dg b (vl b l)).length = n := by rw [← e, List.length_take, Nat.min_eq_left hn]
  refine ⟨by rw [en], ?_, rfl⟩
  rw [en, ← e, ← intsOf_take]
  exact owns_take hown hn

theorem specTrim_own (v : Value) (l : List Int) (b base : Nat) (w : World) (hb : 2 ≤ b) (hA : AllD b l) (hown : w.ownsRow base 3 1 v l.length (intsOf l)) (hl : l.length ≤ 1048576) :
    Calls Try.prog 61 #[v] w fun e w' => ∃ v', e = .returned v' ∧ w.ownsRow base 3 1 v' (dg b (vl b l)).length (intsOf (dg b (vl b l))) ∧ w = w' := by
  obtain ⟨a, cap, rfl, h1, h2⟩ := owns_form hown
  refine (specTrim_at a cap l b base w hb hA hown hl).mono ?_
  rintro e w' ⟨rfl, ho, rfl⟩
  exact ⟨_, rfl, ho, rfl⟩

/-- a row that is owned and has a block -/
theorem owns_some {w : World} {base : Nat} {e : TypeId} {v : Value} {n : Nat} {xs : List Value} (h : w.ownsRow base e 1 v n xs) (hv : v ≠ .slice none 0 0) : ∃ g cap, v = .slice (some ⟨g, 0, none⟩) n cap := by
  rcases h.2 with ⟨h0, _⟩ | ⟨g, cap, cur, rfl, _⟩
  · exact absurd h0 hv
  · exact ⟨g, cap, rfl⟩

end Go.Proofs.Ytkimojjhmllnfaa
