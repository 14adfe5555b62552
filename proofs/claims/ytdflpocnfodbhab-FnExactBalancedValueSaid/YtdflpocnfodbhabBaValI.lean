/- Balanced digits: the program's value of digits. -/
import Derived.Test.YtdflpocnfodbhabBaI1b
import Derived.Test.YtdflpocnfodbhabIntOf
set_option linter.unusedVariables false
set_option linter.unusedSimpArgs false
set_option maxRecDepth 100000
namespace Go.Proofs.Ytdflpocnfodbhab
open Go.ChangeShapes Go.WideShapes Go.ChangeAt Go.RowKit

attribute [local go_sem] Oper.semAt_some wide_fn wide_depth

/-- the value of digits that come the greatest place first -/
def fb {g : Nat} (pre : List (Sig g)) : Int := bv g (pre.map Subtype.val).reverse
theorem fb_nil (g : Nat) : fb (g := g) [] = 0 := rfl
theorem fb_snoc {g : Nat} (pre : List (Sig g)) (x : Sig g) : fb (pre ++ [x]) = fb pre * (2 * g + 1) + x.1 := by
  simp only [fb, List.map_append, List.map_cons, List.map_nil, List.reverse_append, List.reverse_cons, List.reverse_nil, List.nil_append, List.singleton_append, bv_cons]
  rw [Int.mul_comm]; omega
/-- beyond the bounds, it stays so -/
theorem bv_out {h : Nat} (hh : 1 ≤ h) (hh7 : h ≤ 7) {l : List Int} (hl : AllB h l) : ∀ k, inN (bv h (l.drop k)) = false → inN (bv h l) = false
  | 0, hf => by simpa using hf
  | k + 1, hf => by
    refine bv_out hh hh7 hl k ?_
    have r := at0_rangeB hl k
    rw [bv_at]
    obtain ⟨v, hv⟩ : ∃ v, v = bv h (l.drop (k + 1)) := ⟨_, rfl⟩
    rw [← hv] at hf ⊢
    simp only [inN, inB, Bool.and_eq_false_iff, decide_eq_false_iff_not] at hf ⊢
    rcases hf with hf | hf
    · left
      have h5 : (2 * (h : Int) + 1) * v ≤ 3 * v := by
        have : (2 * (h : Int) + 1) * (-v) ≥ 3 * (-v) := Int.mul_le_mul_of_nonneg_right (by omega) (by omega)
        rw [Int.mul_neg] at this; omega
      omega
    · right
      have h5 : 3 * v ≤ (2 * (h : Int) + 1) * v := Int.mul_le_mul_of_nonneg_right (by omega) (by omega)
      omega
theorem fb_out {g : Nat} (hh : 1 ≤ g) (hh7 : g ≤ 7) {l : List Int} (hl : AllB g l) {pre : List (Sig g)} (hp : pre.map Subtype.val <+: l.reverse) (hf : inN (fb pre) = false) : inN (bv g l) = false := by
  obtain ⟨q, hq⟩ := hp
  have e : l = q.reverse ++ (pre.map Subtype.val).reverse := by
    rw [← List.reverse_append, hq, List.reverse_reverse]
  refine bv_out hh hh7 hl q.length ?_
  rw [e, List.drop_left' (by simp)]
  exact hf

/-- at a function's return, where the block for the rounds' deferred calls is shut -/
theorem cell_shutB {W : World} {D : Nat} {p : Addr} {v : Value} (h : W.cell? p = some v) (hK : W.heap[D]? = some (.deferred (some []))) : (W.putObj D (.deferred none)).cell? p = some v :=
  cell_kept h (grownBy_putObj' _ D (.deferred none)) (fun r e => by cases e; exact ⟨_, hK, rfl⟩)

set_option maxHeartbeats 1000000 in
theorem implBalancedValue_any (v : Value) (l : List Int) (b : Int) (w : World) (hr : RowAt w v (intsOf l)) (hl : l.length ≤ 1048576) (hi : ∀ n ∈ l, in64 n) (hb : in64 b) :
    Calls Try.prog 42 #[v, .int .i64 b] w fun e w' => e = .returned (.tuple #[.int .i64 (rBalancedValue0 l b), .bool (rBalancedValue1 l b)]) ∧ Below w.heap.size w w' := by
  have HD := Lib.hid (implBal_eq v l b w hr hl hi hb)
  have HR := Lib.hid hr
  obtain ⟨aa, cap, rfl, h1, h2, h3⟩ := hr.ints
  clear h3 hr hi hb
  cases h : okW l b
  · rw [h] at HD
    have E1 := Lib.hid (show rBalancedValue1 l b = false by rw [rBalancedValue1, h]; rfl)
    have E0 := Lib.hid (show rBalancedValue0 l b = 0 by rw [rBalancedValue0, E1.out]; rfl)
    clear h
    go_enter Try.func42, Try.ntmps42
    go_wp2_with fail
    refine HD.out.mono ?_
    rintro e w' ⟨rfl, rfl⟩
    go_wp2_with fail
    go_ret2
    exact ⟨by rw [E0.out, E1.out]; rfl, Below.refl _ _⟩
  · rw [h] at HD
    obtain ⟨g, hbe, hg1, hg7, hN, hla⟩ := okW_yes h
    have HC := Lib.hid (integerOf_any _ l b w HR.out hla (by omega) (by omega) (fun d hx => by have := hN.1 d hx; omega))
    have hvc : bv (hOf b) l = hv b l := by rw [hbe, hOf_eq, bv]
    have HE1 := Lib.hid (show rBalancedValue1 l b = inN (hv b l) by rw [rBalancedValue1, h, hvc]; rfl)
    have HE0 := Lib.hid (show rBalancedValue0 l b = if inN (hv b l) then hv b l else 0 by rw [rBalancedValue0, HE1.out, hvc])
    rw [← HE0.out, ← HE1.out] at HC
    clear h hN hvc hbe
    go_enter Try.func42, Try.ntmps42
    go_wp2_with fail
    refine HD.out.mono ?_
    rintro e w' ⟨rfl, rfl⟩
    go_wp2_with fail
    refine HC.out.mono ?_
    rintro e w' ⟨rfl, hB⟩
    go_wp2_with fail
    go_ret2
    exact ⟨rfl, hB⟩

end Go.Proofs.Ytdflpocnfodbhab
