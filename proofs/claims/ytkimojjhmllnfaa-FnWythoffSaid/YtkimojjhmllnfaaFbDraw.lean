/- What the law on Fibonacci digits draws: at most 13 digits. -/
import Derived.Test.YtkimojjhmllnfaaFbDig
import Derived.Test.YtkimojjhmllnfaaDrawC
import Derived.Test.YtkimojjhmllnfaaLgDraw
set_option linter.unusedVariables false
set_option linter.unusedSimpArgs false
set_option maxRecDepth 100000
namespace Go.Proofs.Ytkimojjhmllnfaa
open Go.ChangeShapes Go.WideShapes Go.ChangeAt Go.RowKit

/-- what the law needs of the digits that it draws -/
def FbL (l : List Int) : Prop := okF l = true ∧ l.length ≤ 13
theorem fbL_of {l : List Int} (h : B01 l) (hl : l.length ≤ 13) : FbL (trT l.reverse).reverse := by
  have hb : B01 (trT l.reverse) := trT_b01 (fun d hd => h d (List.mem_reverse.1 hd))
  have hn := trT_le l.reverse
  rw [List.length_reverse] at hn
  refine ⟨?_, by rw [List.length_reverse]; omega⟩
  simp only [okF, Bool.and_eq_true, decide_eq_true_eq]
  refine ⟨by rw [List.length_reverse]; omega, fun d hd => ?_, ?_⟩
  · have := hb d (List.mem_reverse.1 hd); omega
  · cases e : trT l.reverse with
    | nil => left; rfl
    | cons x t =>
      right
      have := trT_top l.reverse x t e
      rw [List.getLast?_reverse, List.head?_cons]
      simpa using this

set_option maxHeartbeats 4000000 in
theorem l10Draw_any (g : Nat) (w : World) (hc : Cur w g) :
    Calls Try.prog 56 #[.pointer (some ⟨g, 0, none⟩)] w fun e w' => ∃ l v, FbL l ∧ e = .returned v ∧ w'.ownsRow w.heap.size 3 1 v l.length (intsOf l) ∧ Below g w w' := by
  have hgl := hc.lt
  obtain ⟨i0, hi, hz0, hz1, hz2⟩ := info_parts infoInt
  have HL := Lib.hid (World.ownsRow_lit (base := w.heap.size) (e := 3) (size := 1) w #[] 0 (Nat.le_refl _) (by decide) rfl)
  have hc2 := hc.below1 ((Below.refl (g + 1) w).alloc (by omega) (.cells #[] 3))
  have hB2 := (Below.refl g w).alloc (by omega) (.cells #[] 3)
  clear hc
  go_enter Try.func56, Try.ntmps56
  go_wp2_with fail
  refine (below_any g 14 _ hc2 (by omega) (by omega)).mono ?_
  rintro e w2 ⟨n, ⟨hn0, hn1⟩, rfl, hc3, hg3⟩
  obtain ⟨n, rfl⟩ : ∃ m : Nat, n = m := ⟨n.toNat, by omega⟩
  have HO1 := Lib.hid (owns_drawn HL.out hg3 hgl)
  have hB3 := below_drawn hB2 hg3 (by simp; omega)
  clear hg3 hB2 hc2 HL
  go_wp2_with fail
  go_loopw [3, 4] (fun v i wr => ∃ (k : Nat) (l : List Int), i = .int .i64 k ∧ k + l.length ≤ 13 ∧ B01 l ∧ wr.ownsRow w.heap.size 3 1 v l.length (intsOf l) ∧ Cur wr g ∧ Below g w wr) (fun _ i _ => (intOf i).toNat)
  case atStart => exact ⟨n, [], rfl, by simp; omega, fun d hd => by simp at hd, HO1.out, hc3, hB3⟩
  case round =>
    obtain ⟨k, l, rfl, hkl, hA, hown, hc, hB⟩ := hrel
    have hsz := hB.size
    clear hB3 hc3 HO1
    cases k with
    | zero =>
      have HR := Lib.hid (fbL_of hA (by omega))
      have HT := Lib.hid (specTrimT_any _ l w.heap.size wr hown (by omega))
      obtain ⟨av, cap, e3, hcp1, hcp2⟩ := owns_form hown
      obtain ⟨ln, hln⟩ : ∃ ln, ln = l.length := ⟨_, rfl⟩
      rw [← hln] at e3
      subst e3
      clear hown hA hc hln hkl hcp1
      go_wp2_with fail
      refine HT.out.mono ?_
      rintro e w3 ⟨v3, rfl, hO3, rfl, _⟩
      have HO := Lib.hid hO3
      obtain ⟨a4, c4, e4, _, _⟩ := owns_form hO3
      obtain ⟨ln4, hln4⟩ : ∃ ln, ln = (trT l.reverse).reverse.length := ⟨_, rfl⟩
      rw [← hln4] at e4
      subst e4
      clear hO3 hln4
      go_wp2_with fail
      go_ret
      exact ⟨_, _, HR.out, rfl, HO.out, hB⟩
    | succ k =>
      have hpos : (0 : Int) < ((k + 1 : Nat) : Int) := by omega
      have HO0 := Lib.hid hown
      clear hown
      go_wp2_with fail
      refine (below_any g 2 _ hc (by omega) (by omega)).mono ?_
      rintro e w5 ⟨d, ⟨hd0, hd1⟩, rfl, hc5, hg5⟩
      have hown := owns_drawn HO0.out hg5 hgl
      have hB5 := below_drawn hB hg5 (by omega)
      have hs5 := hB5.size
      have HAN := Lib.hid (show B01 (l ++ [d]) from fun x hx => by
        rcases List.mem_append.1 hx with h | h
        · exact hA x h
        · simp at h; omega)
      clear hA hg5 hB hc HO0
      go_wp2_with (at_builtin; refine wpList_append_own _ rfl _ _ 24 rfl w.heap.size 3 i0 (.int .i64 0) 1 8 Try.underlying24 hi hz0 hz1 hz2 rfl (by decide) _ _ _ rfl (hown.alloc _) ⟨w5.heap.size, 0, none⟩ 1 1 [.int .i64 d] rfl rfl ?c1 ?c2 ?c3 ?c4 ?c5 ?_)
      case c1 => exact one_cell _ _ _
      case c2 => intro u hu; simp at hu; subst hu; rfl
      case c3 => unfold maxLen; omega
      case c4 => omega
      case c5 => simp; omega
      intro v' w4 hown' hgrow _
      have hb3 : Below (g + 1) w5 w4 := ((Below.refl (g + 1) w5).alloc (by omega) (.cells #[.int .i64 d] 3)).grown hgrow (by simp; omega) (fun j hj => by have := (hown.lt j hj).1; omega)
      have HOW := Lib.hid (show w4.ownsRow w.heap.size 3 1 v' (l ++ [d]).length (intsOf (l ++ [d])) by simpa [intsOf] using hown')
      have hc3 := hc5.below1 hb3
      have hB3 := hB5.trans (hb3.mono (by omega))
      clear hown' hgrow hown hc5 hB5 hb3
      go_wp2_with fail
      go_roundw
      case rel => exact ⟨k, l ++ [d], by go_num, by simp; omega, HAN.out, HOW.out, hc3, hB3⟩
      case measure => simp [intOf]

set_option maxHeartbeats 2000000 in
theorem makeFib_any (v : Value) (n : Nat) (w : World) (hv : BytesAt w v) (hn : n ≤ 1000) :
    Calls Try.prog 24 #[v, .int .i64 n] w fun e w' => ∃ l v', FbL l ∧ e = .returned v' ∧ RowAt w' v' (intsOf l) ∧ Below w.heap.size w w' := by
  have HV := Lib.hid hv
  obtain ⟨a, len, cap, zs, rfl, _⟩ := hv
  go_enter Try.func24, Try.ntmps24
  go_wp2_with fail
  refine (l31New_any _ n _ HV.out hn).mono ?_
  rintro e w1 ⟨g, rfl, hg0, hc1, hb1⟩
  have hs1 := hb1.size
  go_wp2_with fail
  refine (l10Draw_any g _ hc1).mono ?_
  rintro e w2 ⟨l, v', hS, rfl, ho, hb2⟩
  have HR := Lib.hid (RowAt.of_owns ho)
  have HS := Lib.hid hS
  have hB2 := hb1.trans (hb2.mono hg0)
  clear ho hb2 hb1 hc1 hS
  go_wp2_with fail
  go_ret
  exact ⟨l, v', HS.out, rfl, HR.out, hB2⟩

end Go.Proofs.Ytkimojjhmllnfaa
