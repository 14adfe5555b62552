/- What the law on mixed places draws: radices. -/
import Derived.Test.YtleadjkndciniaaDoorInts
import Derived.Test.YtleadjkndciniaaDoorLgSpec
import Derived.Test.YtleadjkndciniaaDoorMxM
import Derived.Test.YtleadjkndciniaaDoorDrawC
import Derived.Test.YtleadjkndciniaaDoorLgDraw
import Derived.OwnWalk
set_option linter.unusedVariables false
set_option linter.unusedSimpArgs false
set_option maxRecDepth 100000
namespace Go.Proofs.YtleadjkndciniaaDoor
open Go.ChangeShapes Go.WideShapes Go.ChangeAt Go.RowKit

/-- what the law needs of the radices that it draws -/
def MxR (r : List Int) : Prop := 1 ≤ r.length ∧ r.length ≤ 4 ∧ (∀ x ∈ r, 2 ≤ x ∧ x ≤ 12)
theorem MxR.all {r : List Int} (h : MxR r) : AllR r := fun x hx => by have := h.2.2 x hx; omega
theorem rp_le12 : ∀ {r : List Int}, (∀ x ∈ r, 2 ≤ x ∧ x ≤ 12) → 2 ^ r.length ≤ rp r ∧ rp r ≤ 12 ^ r.length
  | [], _ => by simp [rp]
  | x :: r, h => by
    have hx := h x (by simp)
    obtain ⟨i1, i2⟩ := rp_le12 (r := r) (fun y hy => h y (by simp [hy]))
    have p : (0 : Int) < 2 ^ r.length := Int.pow_pos (by omega)
    have e1 : 2 * 2 ^ r.length ≤ x * rp r := Int.mul_le_mul hx.1 i1 (by omega) (by omega)
    have e2 : x * rp r ≤ 12 * 12 ^ r.length := Int.mul_le_mul hx.2 i2 (by omega) (by omega)
    rw [rp, List.length_cons, Int.pow_succ, Int.pow_succ]; omega
theorem MxR.range {r : List Int} (h : MxR r) : 2 ≤ rp r ∧ rp r ≤ 20736 := by
  obtain ⟨h1, h2⟩ := rp_le12 h.2.2
  have hl : r.length = 1 ∨ r.length = 2 ∨ r.length = 3 ∨ r.length = 4 := by have := h.1; have := h.2.1; omega
  rcases hl with e | e | e | e <;> rw [e] at h1 h2 <;> omega
theorem MxR.ok {r : List Int} (h : MxR r) : okR r = true := okR_mk h.1 (by have := h.2.1; omega) h.all (by have := h.range; omega)

set_option maxHeartbeats 4000000 in
theorem l07Draw_any (g : Nat) (w : World) (hc : Cur w g) :
    Calls Tryd.prog 29 #[.pointer (some ⟨g, 0, none⟩)] w fun e w' => ∃ l v, MxR l ∧ e = .returned v ∧ w'.ownsRow w.heap.size 3 1 v l.length (intsOf l) ∧ Below g w w' := by
  have hgl := hc.lt
  obtain ⟨i0, hi, hz0, hz1, hz2⟩ := info_parts infoInt
  have HL := Lib.hid (World.ownsRow_lit (base := w.heap.size) (e := 3) (size := 1) w #[] 0 (Nat.le_refl _) (by decide) rfl)
  have hc2 := hc.below1 ((Below.refl (g + 1) w).alloc (by omega) (.cells #[] 3))
  have hB2 := (Below.refl g w).alloc (by omega) (.cells #[] 3)
  clear hc
  go_enter Tryd.func29, Tryd.ntmps29
  go_wp2_with fail
  refine (below_any g 4 _ hc2 (by omega) (by omega)).mono ?_
  rintro e w2 ⟨x, ⟨hx0, hx1⟩, rfl, hc3, hg3⟩
  obtain ⟨x, rfl⟩ : ∃ m : Nat, x = m := ⟨x.toNat, by omega⟩
  have HO1 := Lib.hid (owns_drawn HL.out hg3 hgl)
  have hB3 := below_drawn hB2 hg3 (by simp; omega)
  have hs3 : w.heap.size ≤ w2.heap.size := hB3.size
  have hx1' : (1 : Int) + x = ((x + 1 : Nat) : Int) := by omega
  clear hg3 hB2 hc2 HL
  go_wp2_with fail
  go_loopw [3, 4] (fun v i wr => ∃ (k : Nat) (l : List Int), i = .int .i64 k ∧ k + l.length ≤ 4 ∧ 1 ≤ k + l.length ∧ (∀ d ∈ l, 2 ≤ d ∧ d ≤ 12) ∧ wr.ownsRow w.heap.size 3 1 v l.length (intsOf l) ∧ Cur wr g ∧ Below g w wr) (fun _ i _ => (intOf i).toNat)
  case atStart => exact ⟨x + 1, [], by first | rfl | rw [hx1'] | (congr 1; omega), by simp; omega, by simp, fun d hd => by simp at hd, HO1.out, hc3, hB3⟩
  case round =>
    obtain ⟨k, l, rfl, hkl, hkl1, hA, hown, hc, hB⟩ := hrel
    have hsz := hB.size
    clear hB3 hc3 HO1 hs3 hx1'
    cases k with
    | zero =>
      have HO := Lib.hid hown
      have HR := Lib.hid (show MxR l from ⟨by omega, by omega, hA⟩)
      obtain ⟨av, cap, rfl, hcp1, hcp2⟩ := owns_form hown
      clear hown hA hc
      go_wp2_with fail
      go_ret
      exact ⟨l, _, HR.out, rfl, HO.out, hB⟩
    | succ k =>
      have hpos : (0 : Int) < ((k + 1 : Nat) : Int) := by omega
      have HOW := Lib.hid hown; have HA := Lib.hid hA
      clear hown hA
      go_wp2_with fail
      refine (below_any g 11 _ hc (by omega) (by omega)).mono ?_
      rintro e w3 ⟨y, ⟨hy0, hy1⟩, rfl, hc2, hg2⟩
      have ho2 := owns_drawn HOW.out hg2 hgl
      have hB2 := below_drawn hB hg2 (by omega)
      have hsz2 := hB2.size
      clear hg2 hB hc HOW
      go_wp2_with (at_builtin; refine wpList_append_own _ rfl _ _ 25 rfl w.heap.size 3 i0 (.int .i64 0) 1 8 Tryd.underlying25 hi hz0 hz1 hz2 rfl (by decide) _ _ _ rfl (ho2.alloc _) ⟨w3.heap.size, 0, none⟩ 1 1 [.int .i64 (2 + y)] rfl rfl ?c1 ?c2 ?c3 ?c4 ?c5 ?_)
      case c1 => exact one_cell _ _ _
      case c2 => intro u hu; simp at hu; subst hu; rfl
      case c3 => unfold maxLen; omega
      case c4 => omega
      case c5 => simp; omega
      intro v' w4 hown' hgrow _
      have hb3 : Below (g + 1) w3 w4 := ((Below.refl (g + 1) w3).alloc (by omega) (.cells #[.int .i64 (2 + y)] 3)).grown hgrow (by simp; omega) (fun j hj => by have := (ho2.lt j hj).1; omega)
      have HO' := Lib.hid (show w4.ownsRow w.heap.size 3 1 v' (l ++ [2 + y]).length (intsOf (l ++ [2 + y])) by simpa [intsOf] using hown')
      have hc3 := hc2.below1 hb3
      have hB3 := hB2.trans (hb3.mono (by omega))
      have HAN := Lib.hid (show ∀ d ∈ l ++ [2 + y], 2 ≤ d ∧ d ≤ 12 from fun d hd => by
        rcases List.mem_append.1 hd with h | h
        · exact HA.out d h
        · simp at h; subst h; omega)
      clear hown' hgrow ho2 hc2 hB2 hb3
      go_wp2_with fail
      go_roundw
      case rel => exact ⟨k, l ++ [2 + y], by go_num, by simp; omega, by simp; omega, HAN.out, HO'.out, hc3, hB3⟩
      case measure => simp [intOf]

set_option maxHeartbeats 2000000 in
theorem makeRadices_any (v : Value) (n : Nat) (w : World) (hv : BytesAt w v) (hn : n ≤ 1000) :
    Calls Tryd.prog 10 #[v, .int .i64 n] w fun e w' => ∃ l v', MxR l ∧ e = .returned v' ∧ RowAt w' v' (intsOf l) ∧ Below w.heap.size w w' := by
  have HV := Lib.hid hv
  obtain ⟨a, len, cap, zs, rfl, _⟩ := hv
  go_enter Tryd.func10, Tryd.ntmps10
  go_wp2_with fail
  refine (l31New_any _ n _ HV.out hn).mono ?_
  rintro e w1 ⟨g, rfl, hg0, hc1, hb1⟩
  have hs1 := hb1.size
  go_wp2_with fail
  refine (l07Draw_any g _ hc1).mono ?_
  rintro e w2 ⟨l, v', hS, rfl, ho, hb2⟩
  have HR := Lib.hid (RowAt.of_owns ho)
  have HS := Lib.hid hS
  have hB2 := hb1.trans (hb2.mono hg0)
  clear ho hb2 hb1 hc1 hS
  go_wp2_with fail
  go_ret
  exact ⟨l, v', HS.out, rfl, HR.out, hB2⟩

end Go.Proofs.YtleadjkndciniaaDoor
