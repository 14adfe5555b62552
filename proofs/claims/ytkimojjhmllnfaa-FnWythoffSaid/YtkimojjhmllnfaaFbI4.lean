/- Fibonacci digits, the program: the number of lists, counted by two functions that call each other. -/
import Derived.Test.YtkimojjhmllnfaaLgCmp
import Derived.Test.YtkimojjhmllnfaaFbI2
import Derived.Laws.EntriesVeiled
import Derived.RangeFuncBox
import Derived.RangeFuncNested
set_option linter.unusedVariables false
set_option linter.unusedSimpArgs false
set_option maxRecDepth 100000
namespace Go.Proofs.Ytkimojjhmllnfaa
open Go.ChangeShapes Go.WideShapes Go.ChangeAt Go.RowKit

/-- the two functions, as values: bu, bo their boxes -/
def fnU (bu bo : Nat) : Value := .func (.func 53) #[] #[.pointer (some ⟨bo, 0, none⟩), .pointer (some ⟨bu, 0, none⟩)]
def fnO (bu : Nat) : Value := .func (.func 54) #[] #[.pointer (some ⟨bu, 0, none⟩)]
structure TwoFn (bu bo : Nat) (W : World) : Prop where
  u : Boxed W bu 44 (fnU bu bo)
  o : Boxed W bo 44 (fnO bu)
theorem TwoFn.drewN {bu bo : Nat} {W : World} (h : TwoFn bu bo W) (q : Nat) : TwoFn bu bo (W.drewN q) := ⟨h.u, h.o⟩
theorem TwoFn.cu {bu bo : Nat} {W : World} (h : TwoFn bu bo W) : W.cell? ⟨bu, 0, none⟩ = some (.func (.func 53) #[] #[.pointer (some ⟨bo, 0, none⟩), .pointer (some ⟨bu, 0, none⟩)]) := h.u.cell
theorem TwoFn.co {bu bo : Nat} {W : World} (h : TwoFn bu bo W) : W.cell? ⟨bo, 0, none⟩ = some (.func (.func 54) #[] #[.pointer (some ⟨bu, 0, none⟩)]) := h.o.cell

theorem cnt_none {k n : Nat} (h : ¬ fp k ≤ n) : cnt (k + 1) n = cnt k n := by rw [cnt, if_neg h]; omega
def cnt2 (k n : Nat) : Nat := if fp k ≤ n then cnt k (n - fp k) else 0

set_option maxHeartbeats 2000000 in
/-- lists with just k + 1 digits, where those with at most k are counted already -/
theorem listsOf_any (bu bo k n : Nat) (W : World) (hk : k ≤ 56) (hn : n ≤ 100000) (hW : TwoFn bu bo W)
    (ih : ∀ (m : Nat) (W' : World), m ≤ 100000 → TwoFn bu bo W' → Calls Try.prog 53 #[.int .i64 m, .int .i64 k, .pointer (some ⟨bo, 0, none⟩), .pointer (some ⟨bu, 0, none⟩)] W' fun e w' => e = .returned (.int .i64 (cnt k m)) ∧ ∃ q, w' = W'.drewN q) :
    Calls Try.prog 54 #[.int .i64 n, .int .i64 ((k : Int) + 1), .pointer (some ⟨bu, 0, none⟩)] W fun e w' => e = .returned (.int .i64 (cnt2 k n)) ∧ ∃ q, w' = W.drewN q := by
  have HP := Lib.hid (implPlace_any k W (by omega))
  have hb := fp_60 (show k ≤ 60 by omega)
  have c0 := hW.cu
  by_cases hf : fp k ≤ n
  · have E := Lib.hid (show cnt2 k n = cnt k (n - fp k) by rw [cnt2, if_pos hf])
    obtain ⟨F, hF⟩ : ∃ F, F = fp k := ⟨_, rfl⟩
    rw [← hF] at HP hf hb E
    have HI := Lib.hid (ih (n - F) W (by omega) hW)
    rw [show ((n - F : Nat) : Int) = (n : Int) - F by omega] at HI
    clear hF ih hW
    go_enter Try.func54, Try.ntmps54
    go_wp2_with fail
    refine HP.out.mono ?_
    rintro e w' ⟨rfl, rfl⟩
    go_wp2_with fail
    refine HI.out.mono ?_
    rintro e w' ⟨rfl, q, rfl⟩
    go_wp2_with fail
    go_ret
    exact ⟨by rw [E.out]; rfl, q, rfl⟩
  · have E := Lib.hid (show cnt2 k n = 0 by rw [cnt2, if_neg hf])
    obtain ⟨F, hF⟩ : ∃ F, F = fp k := ⟨_, rfl⟩
    rw [← hF] at HP hf hb
    clear hF ih hW
    go_enter Try.func54, Try.ntmps54
    go_wp2_with fail
    refine HP.out.mono ?_
    rintro e w' ⟨rfl, rfl⟩
    go_wp2_with fail
    go_ret
    exact ⟨by rw [E.out]; rfl, 0, rfl⟩

theorem cnt_50 {k : Nat} (hk : k ≤ 50) (n : Nat) : cnt k n ≤ 1125899906842624 := by
  have h1 := cnt_le k n
  have h2 : 2 ^ k ≤ 2 ^ 50 := Nat.pow_le_pow_right (by decide) hk
  have h3 : 2 ^ 50 = 1125899906842624 := by decide
  omega

set_option maxHeartbeats 2000000 in
/-- lists with at most k digits -/
theorem upTo_any (bu bo : Nat) : ∀ (k n : Nat) (W : World), k ≤ 50 → n ≤ 100000 → TwoFn bu bo W →
    Calls Try.prog 53 #[.int .i64 n, .int .i64 k, .pointer (some ⟨bo, 0, none⟩), .pointer (some ⟨bu, 0, none⟩)] W fun e w' => e = .returned (.int .i64 (cnt k n)) ∧ ∃ q, w' = W.drewN q := by
  intro k
  induction k with
  | zero =>
    intro n W hk hn hW
    by_cases h : n = 0
    · subst h
      go_enter Try.func53, Try.ntmps53
      go_wp2_with fail
      go_ret
      exact ⟨rfl, 0, rfl⟩
    · have E := Lib.hid (show cnt 0 n = 0 by rw [cnt, if_neg h])
      have HF := Lib.hid (full_any 0 W (by omega))
      rw [show ((fp (0 + 1) : Nat) : Int) - 2 = 0 from rfl] at HF
      have hz : ((n : Int) == 0) = false := by simp [h]
      have hp : (0 : Int) < n := by omega
      clear h
      go_enter Try.func53, Try.ntmps53
      go_wp2_with fail
      refine HF.out.mono ?_
      rintro e w' ⟨rfl, rfl⟩
      go_wp2_with fail
      go_ret
      exact ⟨by rw [E.out]; rfl, 0, rfl⟩
  | succ j ih =>
    intro n W hk hn hW
    by_cases h : n = 0
    · subst h
      have E := Lib.hid (cnt_zero (j + 1))
      clear ih
      go_enter Try.func53, Try.ntmps53
      go_wp2_with fail
      go_ret
      exact ⟨by rw [E.out]; rfl, 0, rfl⟩
    · have HF := Lib.hid (full_any (j + 1) W (by omega))
      have HBG := Lib.hid (cnt_big (j + 1) n)
      have hz : ((n : Int) == 0) = false := by simp [h]
      have hg9 := fp_60 (show j + 1 + 1 ≤ 60 by omega)
      have hg0 := fp_pos (j + 1 + 1)
      have hj1 : ((j + 1 : Nat) : Int) = (j : Int) + 1 := by omega
      rw [hj1] at HF ⊢
      obtain ⟨G, hG⟩ : ∃ G, G = fp (j + 1 + 1) := ⟨_, rfl⟩
      rw [← hG] at HF HBG hg9 hg0
      have c0 := hW.cu
      have c1 := hW.co
      by_cases hc : (G : Int) - 2 < n
      · have E := Lib.hid (show cnt (j + 1) n = 0 from HBG.out (by omega))
        clear ih hG h
        go_enter Try.func53, Try.ntmps53
        go_wp2_with fail
        refine HF.out.mono ?_
        rintro e w' ⟨rfl, rfl⟩
        go_wp2_with fail
        go_ret
        exact ⟨by rw [E.out]; rfl, 0, rfl⟩
      · have HO := Lib.hid (fun q => listsOf_any bu bo j n (W.drewN q) (by omega) hn (hW.drewN q) (fun (m : Nat) W' h1 h2 => ih m W' (by omega) h1 h2))
        have HI := Lib.hid (fun q => ih n (W.drewN q) (by omega) hn (hW.drewN q))
        have E := Lib.hid (show cnt (j + 1) n = cnt2 j n + cnt j n from rfl)
        have b1 : cnt2 j n ≤ 1125899906842624 := by
          have := cnt_50 (show j ≤ 50 by omega) (n - fp j)
          unfold cnt2; split <;> omega
        have b2 := cnt_50 (show j ≤ 50 by omega) n
        obtain ⟨C1, hC1⟩ : ∃ C, C = cnt2 j n := ⟨_, rfl⟩
        obtain ⟨C2, hC2⟩ : ∃ C, C = cnt j n := ⟨_, rfl⟩
        rw [← hC1] at HO b1 E
        rw [← hC2] at HI b2 E
        have hw1 : IntKind.i64.wrap ((C1 : Int) + C2) = (C1 : Int) + C2 := by rw [IntKind.wrap_i64]; omega
        have hw2 : IntKind.i64.wrap ((j : Int) + 1 - 1) = (j : Int) := by rw [IntKind.wrap_i64]; omega
        have hj2 : (j : Int) + 1 - 1 = (j : Int) := by omega
        clear ih hG h hC1 hC2
        go_enter Try.func53, Try.ntmps53
        go_wp2_with fail
        refine HF.out.mono ?_
        rintro e w' ⟨rfl, rfl⟩
        go_wp2_with fail
        go_quiet (first
          | (go_at_call 54; exact Calls.quiet_of (HO.out _))
          | (go_at_call 53; exact Calls.quiet_of (HI.out _)))
        go_wp2_with fail
        go_ret
        exact ⟨by rw [E.out]; rfl, _, rfl⟩

/-- what the last statement of CountFib meets: the two functions in their boxes -/
structure CtS (n : Nat) (w X : World) : Prop where
  b : Below n w X
  two : TwoFn n (n + 1) X
  sz : n + 2 ≤ X.heap.size
theorem CtS.below {n : Nat} {w X Y : World} (h : CtS n w X) (hb : Below X.heap.size X Y) : CtS n w Y := by
  have h3 := h.sz
  have h4 := hb.size
  exact ⟨h.b.trans (hb.mono (by omega)), ⟨(hb.block n (by omega)).trans h.two.u, (hb.block (n + 1) (by omega)).trans h.two.o⟩, by omega⟩
theorem CtS.drewN {n : Nat} {w X : World} (h : CtS n w X) (q : Nat) : CtS n w (X.drewN q) := ⟨⟨h.b.os, h.b.tape, h.b.output, h.b.size, h.b.block⟩, h.two.drewN q, h.sz⟩

abbrev CtK (w X : World) : Prop := X.cell? ⟨w.heap.size, 0, none⟩ = some (.func (.func 53) #[] #[.pointer (some ⟨w.heap.size + 1, 0, none⟩), .pointer (some ⟨w.heap.size, 0, none⟩)]) ∧ CtS w.heap.size w X
theorem ctS_first {w X : World} (h : CtS w.heap.size w X) : CtK w X.drew := ⟨h.two.cu, ⟨⟨h.b.os, h.b.tape, h.b.output, h.b.size, h.b.block⟩, ⟨h.two.u, h.two.o⟩, h.sz⟩⟩
theorem ctS_keep {w X Y : World} (h : CtK w X) (hb : Below X.heap.size X Y) : CtK w Y := ⟨(h.2.below hb).two.cu, h.2.below hb⟩
theorem ctS_drew {w X : World} (h : CtK w X) (q : Nat) : CtK w (X.drewN q) := ⟨h.1, h.2.drewN q⟩
theorem ctS_two {w X : World} (h : CtK w X) : TwoFn w.heap.size (w.heap.size + 1) X := h.2.two

set_option maxHeartbeats 4000000 in
theorem count_any (N : Nat) (w : World) (hN : N ≤ 100000) :
    Calls Try.prog 20 #[.int .i64 N] w fun e w' => e = .returned (.int .i64 (cnt (sp N).length N)) ∧ Below w.heap.size w w' := by
  have HP := Lib.hid (fun W => sparse_any N W (by omega))
  have hl := sp_few (show N ≤ 100000000 by omega)
  obtain ⟨L, hL⟩ : ∃ L, L = sp N := ⟨_, rfl⟩
  rw [← hL] at HP hl ⊢
  obtain ⟨ln, hln⟩ : ∃ ln, ln = L.length := ⟨_, rfl⟩
  rw [← hln] at HP hl ⊢
  have HU := Lib.hid (fun W (h : TwoFn w.heap.size (w.heap.size + 1) W) => upTo_any w.heap.size (w.heap.size + 1) ln N W hl hN h)
  obtain ⟨C, hC⟩ : ∃ C, C = cnt ln N := ⟨_, rfl⟩
  rw [← hC] at HU ⊢
  have hn0 : ¬ (N : Int) < 0 := by omega
  have hn1 : ¬ (100000 : Int) < N := by omega
  obtain ⟨W0, hW0⟩ : ∃ W0, (w.alloc (.cells #[.nilFunc] 44)).alloc (.cells #[.nilFunc] 44) = W0 := ⟨_, rfl⟩
  have bu0 : Boxed W0 w.heap.size 44 .nilFunc := by rw [← hW0]; exact (Boxed.new w _ _).alloc _
  have bo0 : Boxed W0 (w.heap.size + 1) 44 .nilFunc := by
    rw [← hW0]
    have := Boxed.new (w.alloc (.cells #[.nilFunc] 44)) 44 .nilFunc
    simpa using this
  have hs0 : W0.heap.size = w.heap.size + 2 := by rw [← hW0]; simp
  have hb0 : Below w.heap.size w W0 := by
    rw [← hW0]
    exact ((Below.refl _ w).alloc (Nat.le_refl _) _).alloc (by simp) _
  obtain ⟨W1, hW1⟩ : ∃ W1, W0.setCell ⟨w.heap.size, 0, none⟩ (.func (.func 53) #[] #[.pointer (some ⟨w.heap.size + 1, 0, none⟩), .pointer (some ⟨w.heap.size, 0, none⟩)]) = W1 := ⟨_, rfl⟩
  have bu1 : Boxed W1 w.heap.size 44 (fnU w.heap.size (w.heap.size + 1)) := by rw [← hW1]; exact bu0.set _
  have bo1 : Boxed W1 (w.heap.size + 1) 44 .nilFunc := by rw [← hW1]; exact bo0.other (by omega) _
  obtain ⟨W2, hW2⟩ : ∃ W2, W1.setCell ⟨w.heap.size + 1, 0, none⟩ (.func (.func 54) #[] #[.pointer (some ⟨w.heap.size, 0, none⟩)]) = W2 := ⟨_, rfl⟩
  have HCT := Lib.hid (show CtS w.heap.size w W2 by
    refine ⟨?_, ⟨?_, ?_⟩, ?_⟩
    · rw [← hW2, ← hW1]
      exact (hb0.setCell (p := ⟨w.heap.size, 0, none⟩) (Nat.le_refl _) _).setCell (p := ⟨w.heap.size + 1, 0, none⟩) (by simp) _
    · rw [← hW2]; exact bu1.other (by omega) _
    · rw [← hW2]; exact bo1.set _
    · rw [← hW2, ← hW1]; simp; omega)
  have c0 := bu0.cell
  have f0 := bu0.frozen
  have c1 := bo1.cell
  have f1 := bo1.frozen
  clear hL hln hC bu0 bo0 hs0 hb0 bu1 bo1
  go_enter Try.func20, Try.ntmps20
  go_wp2_with fail
  go_region_held3 (fun X => X.cell? ⟨w.heap.size, 0, none⟩ = some (.func (.func 53) #[] #[.pointer (some ⟨w.heap.size + 1, 0, none⟩), .pointer (some ⟨w.heap.size, 0, none⟩)]) ∧ CtS w.heap.size w X)
    (first
      | exact ctS_first HCT.out
      | assumption
      | exact ctS_keep (by assumption) hb1
      | exact ctS_drew (by assumption) _)
    (first
      | (go_at_call 17; refine (HP.out _).mono ?_; rintro e w1 ⟨v1, rfl, hO, hb1⟩; obtain ⟨a3, c3, e3, _, _⟩ := owns_form hO; subst e3; clear hO)
      | (go_at_call 53; refine (HU.out _ (ctS_two (by assumption))).mono ?_; rintro e w' ⟨rfl, q, rfl⟩))
  rename_i hH
  have hB := hH.2.b
  go_wp2_with fail
  go_ret
  exact ⟨rfl, hB⟩

theorem implCountFib_any (n : Int) (w : World) (hn : in64 n) :
    Calls Try.prog 20 #[.int .i64 n] w fun e w' => e = .returned (.int .i64 (rCountFib0 n)) ∧ Below w.heap.size w w' := by
  cases h : inB n 0 100000
  · have E0 := Lib.hid (show rCountFib0 n = -1 by rw [rCountFib0, h]; rfl)
    by_cases h0 : n < 0
    · clear h
      go_enter Try.func20, Try.ntmps20
      go_wp2
      go_ret
      exact ⟨by rw [E0.out]; rfl, Below.refl _ _⟩
    · have h58 : 100000 < n := by simp [inB] at h; omega
      clear h
      go_enter Try.func20, Try.ntmps20
      go_wp2
      go_ret
      exact ⟨by rw [E0.out]; rfl, Below.refl _ _⟩
  · obtain ⟨n0, n1⟩ := inB_yes h
    obtain ⟨N, rfl⟩ : ∃ N : Nat, n = N := ⟨n.toNat, by omega⟩
    refine (count_any N w (by omega)).mono ?_
    rintro e w' ⟨rfl, hB⟩
    exact ⟨by rw [show rCountFib0 N = cnt (sp N).length N by rw [rCountFib0, h]; rfl], hB⟩

end Go.Proofs.Ytkimojjhmllnfaa
