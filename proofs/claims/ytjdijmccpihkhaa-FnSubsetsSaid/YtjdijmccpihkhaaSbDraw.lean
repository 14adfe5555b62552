/- What the law on subsets draws: a subset of at most five numbers. -/
import Derived.Test.YtjdijmccpihkhaaInts
import Derived.Test.YtjdijmccpihkhaaLgSpec
import Derived.Test.YtjdijmccpihkhaaSbM
import Derived.Test.YtjdijmccpihkhaaDrawC
import Derived.Test.YtjdijmccpihkhaaLgDraw
set_option linter.unusedVariables false
set_option linter.unusedSimpArgs false
set_option maxRecDepth 100000
namespace Go.Proofs.Ytjdijmccpihkhaa
open Go.ChangeShapes Go.WideShapes Go.ChangeAt Go.RowKit

/-- what the law needs of the subset that it draws -/
def SbL (l : List Int) : Prop := okS l 20 = true ∧ l.length ≤ 5

set_option maxHeartbeats 4000000 in
theorem l09Draw_any (g : Nat) (w : World) (hc : Cur w g) :
    Calls Try.prog 36 #[.pointer (some ⟨g, 0, none⟩)] w fun e w' => ∃ l v, SbL l ∧ e = .returned v ∧ w'.ownsRow w.heap.size 3 1 v l.length (intsOf l) ∧ Below g w w' := by
  have hgl := hc.lt
  obtain ⟨i0, hi, hz0, hz1, hz2⟩ := info_parts infoInt
  have HL := Lib.hid (World.ownsRow_lit (base := w.heap.size) (e := 3) (size := 1) w #[] 0 (Nat.le_refl _) (by decide) rfl)
  have hc2 := hc.below1 ((Below.refl (g + 1) w).alloc (by omega) (.cells #[] 3))
  have hB2 := (Below.refl g w).alloc (by omega) (.cells #[] 3)
  clear hc
  go_enter Try.func36, Try.ntmps36
  go_wp2_with fail
  refine (below_any g 4 _ hc2 (by omega) (by omega)).mono ?_
  rintro e w2 ⟨x, ⟨hx0, hx1⟩, rfl, hc3, hg3⟩
  have HO1 := Lib.hid (owns_drawn HL.out hg3 hgl)
  have hB3 := below_drawn hB2 hg3 (by simp; omega)
  have hs3 : w.heap.size ≤ w2.heap.size := hB3.size
  clear hg3 hB2 hc2 HL
  go_wp2_with fail
  refine (below_any g 6 _ hc3 (by omega) (by omega)).mono ?_
  rintro e w3 ⟨n, ⟨hn0, hn1⟩, rfl, hc4, hg4⟩
  obtain ⟨n, rfl⟩ : ∃ m : Nat, n = m := ⟨n.toNat, by omega⟩
  have HO2 := Lib.hid (owns_drawn HO1.out hg4 hgl)
  have hB4 := below_drawn hB3 hg4 (by omega)
  clear hg4 hB3 hc3 HO1 hs3
  go_wp2_with fail
  go_loopw [3, 4, 5] (fun v x i wr => ∃ (k : Nat) (l : List Int) (y : Int), i = .int .i64 k ∧ x = .int .i64 y ∧ k + l.length ≤ 5 ∧ 0 ≤ y ∧ y ≤ 3 + 3 * l.length ∧ Asc l ∧ (∀ d ∈ l, 0 ≤ d ∧ d < y) ∧ wr.ownsRow w.heap.size 3 1 v l.length (intsOf l) ∧ Cur wr g ∧ Below g w wr) (fun _ _ i _ => (intOf i).toNat)
  case atStart => exact ⟨n, [], x, rfl, rfl, by simp; omega, hx0, by simp; omega, by simp [Asc], by simp, HO2.out, hc4, hB4⟩
  case round =>
    obtain ⟨k, l, y, rfl, rfl, hkl, hy0, hy1, hasc, hA, hown, hc, hB⟩ := hrel
    have hsz := hB.size
    clear hB4 hc4 HO2
    cases k with
    | zero =>
      have HO := Lib.hid hown
      have HR := Lib.hid (show SbL l from ⟨okS_of (by omega) (by omega) (fun d hd => by have := hA d hd; omega) hasc, by omega⟩)
      obtain ⟨av, cap, rfl, hcp1, hcp2⟩ := owns_form hown
      clear hown hA hc hasc
      go_wp2_with fail
      go_ret
      exact ⟨l, _, HR.out, rfl, HO.out, hB⟩
    | succ k =>
      have hpos : (0 : Int) < ((k + 1 : Nat) : Int) := by omega
      have HAN := Lib.hid (show Asc (l ++ [y]) ∧ ∀ d ∈ l ++ [y], 0 ≤ d ∧ d < y + 1 from ⟨asc_snoc.2 ⟨hasc, fun d hd => (hA d hd).2⟩, fun d hd => by
        rcases List.mem_append.1 hd with h | h
        · have := hA d h; omega
        · simp at h; subst h; omega⟩)
      clear hA hasc
      go_wp2_with (at_builtin; refine wpList_append_own _ rfl _ _ 23 rfl w.heap.size 3 i0 (.int .i64 0) 1 8 Try.underlying23 hi hz0 hz1 hz2 rfl (by decide) _ _ _ rfl (hown.alloc _) ⟨wr.heap.size, 0, none⟩ 1 1 [.int .i64 y] rfl rfl ?c1 ?c2 ?c3 ?c4 ?c5 ?_)
      case c1 => exact one_cell _ _ _
      case c2 => intro u hu; simp at hu; subst hu; rfl
      case c3 => unfold maxLen; omega
      case c4 => omega
      case c5 => simp; omega
      intro v' w4 hown' hgrow _
      have hb3 : Below (g + 1) wr w4 := ((Below.refl (g + 1) wr).alloc (by omega) (.cells #[.int .i64 y] 3)).grown hgrow (by simp; omega) (fun j hj => by have := (hown.lt j hj).1; omega)
      have HOW := Lib.hid (show w4.ownsRow w.heap.size 3 1 v' (l ++ [y]).length (intsOf (l ++ [y])) by simpa [intsOf] using hown')
      have hc3 := hc.below1 hb3
      have hB3 := hB.trans (hb3.mono (by omega))
      have hsz3 := hB3.size
      clear hown' hgrow hown hc hB hb3
      go_wp2_with fail
      refine (below_any g 3 _ hc3 (by omega) (by omega)).mono ?_
      rintro e w5 ⟨z, ⟨hz0', hz1'⟩, rfl, hc5, hg5⟩
      have HO5 := Lib.hid (owns_drawn HOW.out hg5 hgl)
      have hB5 := below_drawn hB3 hg5 (by omega)
      clear hg5 hB3 hc3 HOW
      go_wp2_with fail
      go_roundw
      case rel => exact ⟨k, l ++ [y], y + 1 + z, by go_num, by go_num, by simp; omega, by omega, by simp; omega, HAN.out.1, fun d hd => by have := HAN.out.2 d hd; omega, HO5.out, hc5, hB5⟩
      case measure => simp [intOf]

set_option maxHeartbeats 2000000 in
theorem makeSubset_any (v : Value) (n : Nat) (w : World) (hv : BytesAt w v) (hn : n ≤ 1000) :
    Calls Try.prog 12 #[v, .int .i64 n] w fun e w' => ∃ l v', SbL l ∧ e = .returned v' ∧ RowAt w' v' (intsOf l) ∧ Below w.heap.size w w' := by
  have HV := Lib.hid hv
  obtain ⟨a, len, cap, zs, rfl, _⟩ := hv
  go_enter Try.func12, Try.ntmps12
  go_wp2_with fail
  refine (l31New_any _ n _ HV.out hn).mono ?_
  rintro e w1 ⟨g, rfl, hg0, hc1, hb1⟩
  have hs1 := hb1.size
  go_wp2_with fail
  refine (l09Draw_any g _ hc1).mono ?_
  rintro e w2 ⟨l, v', hS, rfl, ho, hb2⟩
  have HR := Lib.hid (RowAt.of_owns ho)
  have HS := Lib.hid hS
  have hB2 := hb1.trans (hb2.mono hg0)
  clear ho hb2 hb1 hc1 hS
  go_wp2_with fail
  go_ret
  exact ⟨l, v', HS.out, rfl, HR.out, hB2⟩

end Go.Proofs.Ytjdijmccpihkhaa
