/- Gray codes: the model's codes, flips, counts, cycles and rings. -/
import Derived.Test.YtleadjkndciniaaRow
import Derived.Test.YtleadjkndciniaaGrM
import Derived.Test.YtleadjkndciniaaDgSpec
set_option linter.unusedVariables false
set_option linter.unusedSimpArgs false
set_option maxRecDepth 100000
namespace Go.Proofs.Ytleadjkndciniaa
open Go.ChangeShapes Go.WideShapes Go.ChangeAt Go.RowKit

theorem sGray_any (n : Nat) (w : World) (hn : n < 1099511627776) :
    Calls Try.prog 29 #[.int .i64 n] w fun e w' => e = .returned (.int .i64 (gc n : Nat)) ∧ w = w' := by
  have HX := Lib.hid (xor_i64 n (n / 2) (by omega) (by omega))
  have hx : bits .xor .i64 (n : Int) ((n : Int) / 2) = ((gc n : Nat) : Int) := by
    have := HX.out
    rwa [show ((n / 2 : Nat) : Int) = (n : Int) / 2 by omega] at this
  go_enter Try.func29, Try.ntmps29
  go_wp2
  go_ret
  exact ⟨rfl, rfl⟩

set_option maxHeartbeats 2000000 in
theorem sFrom_any (g : Nat) (w : World) (hg : g < 1099511627776) :
    Calls Try.prog 31 #[.int .i64 g] w fun e w' => e = .returned (.int .i64 (ug g : Nat)) ∧ w = w' := by
  have HB := Lib.hid (fun (x : Nat) (hx : x < 1099511627776) => show ug x < 1099511627776 from ug_lt (k := 40) (by simpa using hx))
  go_enter Try.func31, Try.ntmps31
  go_wp2
  go_loop [0, 3] (fun gv nv => ∃ x y : Nat, gv = .int .i64 x ∧ nv = .int .i64 y ∧ x ≤ g ∧ y < 1099511627776 ∧ y ^^^ ug x = ug g) (fun gv _ => (intOf gv).toNat)
  case atStart => exact ⟨g, 0, rfl, rfl, Nat.le_refl _, by omega, Nat.zero_xor _⟩
  case round =>
    obtain ⟨x, y, rfl, rfl, hx, hy, hxy⟩ := hrel
    by_cases h0 : x = 0
    · subst h0
      rw [ug_zero, Nat.xor_zero] at hxy
      have HY := Lib.hid hxy
      clear hxy
      go_wp2
      go_ret
      exact ⟨by rw [← HY.out]; rfl, rfl⟩
    · have HN := Lib.hid (show (y ^^^ x) ^^^ ug (x / 2) = ug g by rw [Nat.xor_assoc, ← ug_step]; exact hxy)
      have HYB := Lib.hid (show y ^^^ x < 1099511627776 from Nat.xor_lt_two_pow (n := 40) (by simpa using hy) (by simp; omega))
      have hxx := xor_i64 y x (by omega) (by omega)
      have hpos : (0 : Int) < x := by omega
      obtain ⟨Z, hZ⟩ : ∃ Z, Z = y ^^^ x := ⟨_, rfl⟩
      rw [← hZ] at HN HYB hxx
      have HXL := Lib.hid hx
      clear hxy hZ hx
      go_wp2
      go_round
      case rel => exact ⟨x / 2, Z, by go_num, rfl, by have := HXL.out; omega, HYB.out, HN.out⟩
      case measure => simp [intOf]; omega

def rGrayOf0 (n : Int) : Int := if inB n 0 1000000000000 then ((gc n.toNat : Nat) : Int) else -1
def rFromGray0 (n : Int) : Int := if inB n 0 1000000000000 then ((ug n.toNat : Nat) : Int) else -1
def rFlipIndex0 (n : Int) : Int := if inB n 1 1000000000000 then ((loB n.toNat : Nat) : Int) else -1
theorem specGrayOf_any (n : Int) (w : World) (hn : in64 n) :
    Calls Try.prog 10 #[.int .i64 n] w fun e w' => e = .returned (.int .i64 (rGrayOf0 n)) ∧ Below w.heap.size w w' := by
  have HS := Lib.hid (fun W => sIn_any n 0 1000000000000 W)
  cases h : inB n 0 1000000000000
  · have E := Lib.hid (show rGrayOf0 n = -1 by rw [rGrayOf0, h]; rfl)
    rw [h] at HS
    clear h
    go_enter Try.func10, Try.ntmps10
    go_wp2_with fail
    refine (HS.out _).mono ?_
    rintro e w' ⟨rfl, rfl⟩
    go_wp2_with fail
    go_ret
    exact ⟨by rw [E.out]; rfl, Below.refl _ _⟩
  · obtain ⟨n0, n1⟩ := inB_yes h
    obtain ⟨k, rfl⟩ : ∃ k : Nat, n = k := ⟨n.toNat, by omega⟩
    have E := Lib.hid (show rGrayOf0 k = (gc k : Nat) by rw [rGrayOf0, h]; rfl)
    have HG := Lib.hid (fun W => sGray_any k W (by omega))
    rw [h] at HS
    clear h
    go_enter Try.func10, Try.ntmps10
    go_wp2_with fail
    refine (HS.out _).mono ?_
    rintro e w' ⟨rfl, rfl⟩
    go_wp2_with fail
    refine (HG.out _).mono ?_
    rintro e w' ⟨rfl, rfl⟩
    go_wp2_with fail
    go_ret
    exact ⟨by rw [E.out]; rfl, Below.refl _ _⟩
theorem specFromGray_any (n : Int) (w : World) (hn : in64 n) :
    Calls Try.prog 12 #[.int .i64 n] w fun e w' => e = .returned (.int .i64 (rFromGray0 n)) ∧ Below w.heap.size w w' := by
  have HS := Lib.hid (fun W => sIn_any n 0 1000000000000 W)
  cases h : inB n 0 1000000000000
  · have E := Lib.hid (show rFromGray0 n = -1 by rw [rFromGray0, h]; rfl)
    rw [h] at HS
    clear h
    go_enter Try.func12, Try.ntmps12
    go_wp2_with fail
    refine (HS.out _).mono ?_
    rintro e w' ⟨rfl, rfl⟩
    go_wp2_with fail
    go_ret
    exact ⟨by rw [E.out]; rfl, Below.refl _ _⟩
  · obtain ⟨n0, n1⟩ := inB_yes h
    obtain ⟨k, rfl⟩ : ∃ k : Nat, n = k := ⟨n.toNat, by omega⟩
    have E := Lib.hid (show rFromGray0 k = (ug k : Nat) by rw [rFromGray0, h]; rfl)
    have HG := Lib.hid (fun W => sFrom_any k W (by omega))
    rw [h] at HS
    clear h
    go_enter Try.func12, Try.ntmps12
    go_wp2_with fail
    refine (HS.out _).mono ?_
    rintro e w' ⟨rfl, rfl⟩
    go_wp2_with fail
    refine (HG.out _).mono ?_
    rintro e w' ⟨rfl, rfl⟩
    go_wp2_with fail
    go_ret
    exact ⟨by rw [E.out]; rfl, Below.refl _ _⟩
/-! ### how many differ -/
def rCountDifferent0 (a b : List Int) : Int := if a.length = b.length then ((cdf a b : Nat) : Int) else -1
set_option maxHeartbeats 2000000 in
theorem specCountDifferent_any (va : Value) (a : List Int) (vc : Value) (c : List Int) (w : World) (hra : RowAt w va (intsOf a)) (hl : a.length ≤ 1048576) (hia : ∀ n ∈ a, in64 n) (hrc : RowAt w vc (intsOf c)) (hl' : c.length ≤ 1048576) (hic : ∀ n ∈ c, in64 n) :
    Calls Try.prog 22 #[va, vc] w fun e w' => e = .returned (.int .i64 (rCountDifferent0 a c)) ∧ Below w.heap.size w w' := by
  obtain ⟨aa, cap, rfl, h1, h2, h3⟩ := hra.ints
  obtain ⟨ac, cap', rfl, h1', h2', h3'⟩ := hrc.ints
  unfold maxLen at h2 h2'
  clear hra hrc hia hic
  by_cases hlen : a.length = c.length
  · have E := Lib.hid (show rCountDifferent0 a c = (cdf a c : Nat) by rw [rCountDifferent0, if_pos hlen])
    have HCL := Lib.hid (fun k => cdf_le (a.take k) (c.take k))
    obtain ⟨m, hm⟩ : ∃ m, m = c.length := ⟨_, rfl⟩
    rw [← hm] at hlen hl' h1' ⊢
    have HM := Lib.hid hm
    obtain ⟨n, hn⟩ : ∃ n, n = a.length := ⟨_, rfl⟩
    have HN := Lib.hid hn
    rw [← hn] at hlen hl h1 ⊢
    subst hlen
    clear hm hn
    go_enter Try.func22, Try.ntmps22
    go_wp2
    go_loop [5, 15] (fun nv i => ∃ k : Nat, k ≤ n ∧ i = .int .i64 k ∧ nv = .int .i64 (cdf (a.take k) (c.take k) : Nat)) (fun _ i => n - (intOf i).toNat)
    case atStart => exact ⟨0, Nat.zero_le _, rfl, rfl⟩
    case round =>
      obtain ⟨k, hk, rfl, rfl⟩ := hrel
      have hcl := HCL.out k
      have hlk : (a.take k).length ≤ k := List.length_take_le _ _
      by_cases hlt : k < n
      · have ka : k < a.length := by rw [← HN.out]; exact hlt
        have kc : k < c.length := by rw [← HM.out]; exact hlt
        obtain ⟨b, off, rfl, hb, hcell⟩ := h3.resolve_left (fun e => by rw [e] at ka; simp at ka)
        obtain ⟨b', off', rfl, hb', hcell'⟩ := h3'.resolve_left (fun e => by rw [e] at kc; simp at kc)
        have hc := hcell k ka
        have hc' := hcell' k kc
        have ht := cdf_take ka kc
        obtain ⟨x, hx⟩ : ∃ x, x = a[k] := ⟨_, rfl⟩
        obtain ⟨y, hy⟩ : ∃ y, y = c[k] := ⟨_, rfl⟩
        obtain ⟨C, hC⟩ : ∃ C, C = cdf (a.take k) (c.take k) := ⟨_, rfl⟩
        rw [← hx] at hc ht
        rw [← hy] at hc' ht
        rw [← hC] at ht hcl ⊢
        have hC9 : C ≤ 1048576 := by omega
        have hki : (k : Int) < n := by omega
        clear h3 h3' hcell hcell' hx hy hC hcl hlk
        by_cases hxy : x = y
        · rw [if_pos hxy] at ht
          have HT := Lib.hid (ht.trans (Nat.add_zero C))
          subst hxy
          clear ht
          go_wp2
          go_round
          case rel => exact ⟨k + 1, hlt, by go_num, by rw [HT.out]⟩
          case measure => simp [intOf]; omega
        · rw [if_neg hxy] at ht
          have HT := Lib.hid ht
          have hxb : (x == y) = false := by simp [hxy]
          clear ht
          go_wp2
          go_round
          case rel => exact ⟨k + 1, hlt, by go_num, by rw [HT.out]; go_num⟩
          case measure => simp [intOf]; omega
      · have HE := Lib.hid (show cdf (a.take k) (c.take k) = cdf a c by rw [List.take_of_length_le (by have := HN.out; omega), List.take_of_length_le (by have := HM.out; omega)])
        rw [HE.out]
        have hn9 : ¬ (k : Int) < n := by omega
        clear h3 h3' hcl hlk
        go_wp2
        go_ret
        exact ⟨by rw [E.out]; rfl, Below.refl _ _⟩
  · have E := Lib.hid (show rCountDifferent0 a c = -1 by rw [rCountDifferent0, if_neg hlen])
    have hlI : ((a.length : Int) == c.length) = false := by simp; omega
    have hlJ : ¬ (a.length : Int) = c.length := by omega
    clear h3 h3' hlen
    go_enter Try.func22, Try.ntmps22
    go_wp2
    go_ret
    exact ⟨by rw [E.out]; rfl, Below.refl _ _⟩

end Go.Proofs.Ytleadjkndciniaa
