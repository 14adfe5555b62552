/- What the law on signed digits draws: a number without bounds, and signed digits. -/
import Derived.Test.YtiemhhkoegkleaaDrawC
import Derived.Test.YtiemhhkoegkleaaSgSpec
import Derived.Test.YtiemhhkoegkleaaSgCnt
import Derived.Test.YtiemhhkoegkleaaSgRw
import Derived.Test.YtiemhhkoegkleaaLgDraw
set_option linter.unusedVariables false
set_option linter.unusedSimpArgs false
set_option maxRecDepth 100000
namespace Go.Proofs.Ytiemhhkoegkleaa
open Go.ChangeShapes Go.WideShapes Go.ChangeAt Go.RowKit

set_option maxHeartbeats 2000000 in
theorem pick_any (g base : Nat) (v : Value) (l : List Int) (w : World) (hc : Cur w g) (hg : g < base) (ho : w.ownsRow base 3 1 v l.length (intsOf l)) (h0 : 1 ≤ l.length) (h1 : l.length ≤ 1000) (hin : ∀ d ∈ l, in64 d) :
    Calls Try.prog 101 #[.pointer (some ⟨g, 0, none⟩), v] w (Drawn in64 g w) := by
  have HB := Lib.hid (below_any g l.length w hc h0 (by omega))
  have HO := Lib.hid ho
  have HI := Lib.hid hin
  obtain ⟨a, cap, rfl, hc1, hc2⟩ := owns_form ho
  unfold maxLen at hc2
  clear ho hin hc
  go_enter Try.func101, Try.ntmps101
  go_wp2_with fail
  refine HB.out.mono ?_
  rintro e w1 ⟨x, ⟨hx0, hx1⟩, rfl, hcu, hg1⟩
  obtain ⟨x, rfl⟩ : ∃ m : Nat, x = m := ⟨x.toNat, by omega⟩
  have hlt : x < l.length := by omega
  obtain ⟨_, _, e, _, _, h3⟩ := (RowAt.of_owns (owns_drawn HO.out hg1 hg)).ints
  injection e with e1 e2 e3
  subst e1
  obtain ⟨b', off, rfl, hbb, hcell⟩ := h3.resolve_left (fun e => by rw [e] at hlt; simp at hlt)
  have hcx := hcell x hlt
  have hy := HI.out _ (List.getElem_mem hlt)
  obtain ⟨y, hye⟩ : ∃ y, y = l[x] := ⟨_, rfl⟩
  rw [← hye] at hcx hy
  have HY := Lib.hid hy
  clear h3 hcell hye hy e2 e3
  go_wp2_with fail
  go_ret
  exact ⟨y, HY.out, rfl, hcu, hg1⟩

set_option maxHeartbeats 4000000 in
theorem near_any (g : Nat) (lo hi : Int) (w : World) (hc : Cur w g) (h0 : -10000000000000 ≤ lo) (h1 : hi ≤ 10000000000000) (h2 : 60000 < hi - lo) :
    Calls Try.prog 100 #[.pointer (some ⟨g, 0, none⟩), .int .i64 lo, .int .i64 hi] w (Drawn in64 g w) := by
  have hgl := hc.lt
  have HB := Lib.hid (below_any g 12 w hc (by omega) (by omega))
  have hd1 : hi - lo ≤ 20000000000000 := by omega
  have hlo2 : lo ≤ 10000000000000 := by omega
  have hhi2 : -10000000000000 ≤ hi := by omega
  clear hc
  go_enter Try.func100, Try.ntmps100
  go_wp2_with fail
  refine HB.out.mono ?_
  rintro e w1 ⟨k, ⟨hk0, hk1⟩, rfl, hc1, hg1⟩
  rcases (show k = 0 ∨ k = 1 ∨ k = 2 ∨ k = 3 ∨ k = 4 ∨ 4 < k by omega) with rfl | rfl | rfl | rfl | rfl | hk
  · go_wp2_with fail
    go_ret
    exact ⟨lo, by unfold in64; omega, rfl, hc1, hg1⟩
  · go_wp2_with fail
    go_ret
    exact ⟨hi, by unfold in64; omega, rfl, hc1, hg1⟩
  · go_wp2_with fail
    go_ret
    exact ⟨lo - 1, by unfold in64; omega, rfl, hc1, hg1⟩
  · go_wp2_with fail
    go_ret
    exact ⟨hi + 1, by unfold in64; omega, rfl, hc1, hg1⟩
  · have hs1 := hg1.size
    have ho := World.ownsRow_lit (base := w1.heap.size) (e := 3) (size := 1) w1 #[.int .i64 9223372036854775807, .int .i64 (-9223372036854775808), .int .i64 (-1), .int .i64 0, .int .i64 1000000000] 5 (Nat.le_refl _) (by decide) rfl
    have HO := Lib.hid ho
    have hc2 : Cur (w1.alloc (.cells #[.int .i64 9223372036854775807, .int .i64 (-9223372036854775808), .int .i64 (-1), .int .i64 0, .int .i64 1000000000] 3)) g := hc1.below ((Below.refl _ w1).alloc (Nat.le_refl _) _)
    have HP := Lib.hid (pick_any g w1.heap.size (.slice (some ⟨w1.heap.size, 0, none⟩) 5 5) [9223372036854775807, -9223372036854775808, -1, 0, 1000000000] _ hc2 (by omega) HO.out (by decide) (by decide) (fun d hd => by
      have : d = 9223372036854775807 ∨ d = -9223372036854775808 ∨ d = -1 ∨ d = 0 ∨ d = 1000000000 := by simpa using hd
      unfold in64; omega))
    clear ho HO
    go_wp2_with fail
    refine HP.out.mono ?_
    rintro e w2 ⟨y, hy, rfl, hc3, hg3⟩
    have HY := Lib.hid hy
    clear hy
    go_wp2_with fail
    go_ret
    exact ⟨y, HY.out, rfl, hc3, (hg1.trans (World.grownBy_alloc w1 _ (some g))).trans hg3⟩
  · have q0 : (k == 0) = false := by simp; omega
    have q1 : (k == 1) = false := by simp; omega
    have q2 : (k == 2) = false := by simp; omega
    have q3 : (k == 3) = false := by simp; omega
    have q4 : (k == 4) = false := by simp; omega
    have HB2 := Lib.hid (below_any g 60000 w1 hc1 (by omega) (by omega))
    clear hc1
    go_wp2_with fail
    refine HB2.out.mono ?_
    rintro e w2 ⟨y, ⟨hy0, hy1⟩, rfl, hc2, hg2⟩
    go_wp2_with fail
    go_ret
    exact ⟨lo + y, by unfold in64; omega, rfl, hc2, hg1.trans hg2⟩

set_option maxHeartbeats 4000000 in
theorem number2_any (g : Nat) (w : World) (hc : Cur w g) :
    Calls Try.prog 98 #[.pointer (some ⟨g, 0, none⟩)] w (Drawn in64 g w) := by
  go_enter Try.func98, Try.ntmps98
  go_wp2_with fail
  refine (below_any g 100 _ hc (by omega) (by omega)).mono ?_
  rintro e w1 ⟨x, ⟨hx0, hx1⟩, rfl, hc1, hg1⟩
  go_wp2_with fail
  refine (below_any g 5 _ hc1 (by omega) (by omega)).mono ?_
  rintro e w2 ⟨k, ⟨hk0, hk1⟩, rfl, hc2, hg2⟩
  have hg2' := hg1.trans hg2
  clear hc hc1 hg1 hg2
  have fin : ∀ (n : Int) (W : World), in64 n → Cur W g → w.grownBy W (some g) → True := fun _ _ _ _ _ => trivial
  rcases (show k = 0 ∨ k = 1 ∨ 1 < k by omega) with rfl | rfl | hk
  · go_wp2_with fail
    refine (below_any g 1000 _ hc2 (by omega) (by omega)).mono ?_
    rintro e w3 ⟨z, ⟨hz0, hz1⟩, rfl, hc3, hg3⟩
    have hg3' := hg2'.trans hg3
    clear hc2 hg2' hg3
    go_wp2_with fail
    refine (once_any g 12 _ hc3 (by omega) (by omega)).mono ?_
    rintro e w4 ⟨q, rfl, hc4, hg4⟩
    have hg4' := hg3'.trans hg4
    clear hc3 hg3' hg4
    cases q
    · go_wp2_with fail
      go_ret
      exact ⟨x * 1000 + z, by unfold in64; omega, rfl, hc4, hg4'⟩
    · go_wp2_with fail
      refine (near_any g 0 1000000000000 _ hc4 (by omega) (by omega) (by omega)).mono ?_
      rintro e w5 ⟨y, hy, rfl, hc5, hg5⟩
      have HY := Lib.hid hy
      clear hy
      go_wp2_with fail
      go_ret
      exact ⟨y, HY.out, rfl, hc5, hg4'.trans hg5⟩
  · go_wp2_with fail
    refine (below_any g 1000 _ hc2 (by omega) (by omega)).mono ?_
    rintro e w3 ⟨z, ⟨hz0, hz1⟩, rfl, hc3, hg3⟩
    have hg3' := hg2'.trans hg3
    clear hc2 hg2' hg3
    go_wp2_with fail
    refine (below_any g 100000 _ hc3 (by omega) (by omega)).mono ?_
    rintro e w3' ⟨t, ⟨ht0, ht1⟩, rfl, hc3', hg3b⟩
    have hg3'' := hg3'.trans hg3b
    clear hc3 hg3' hg3b
    go_wp2_with fail
    refine (once_any g 12 _ hc3' (by omega) (by omega)).mono ?_
    rintro e w4 ⟨q, rfl, hc4, hg4⟩
    have hg4' := hg3''.trans hg4
    clear hc3' hg3'' hg4
    cases q
    · go_wp2_with fail
      go_ret
      exact ⟨(x * 1000 + z) * 100000 + t, by unfold in64; omega, rfl, hc4, hg4'⟩
    · go_wp2_with fail
      refine (near_any g 0 1000000000000 _ hc4 (by omega) (by omega) (by omega)).mono ?_
      rintro e w5 ⟨y, hy, rfl, hc5, hg5⟩
      have HY := Lib.hid hy
      clear hy
      go_wp2_with fail
      go_ret
      exact ⟨y, HY.out, rfl, hc5, hg4'.trans hg5⟩
  · have q0 : (k == 0) = false := by simp; omega
    have q1 : (k == 1) = false := by simp; omega
    go_wp2_with fail
    refine (once_any g 12 _ hc2 (by omega) (by omega)).mono ?_
    rintro e w4 ⟨q, rfl, hc4, hg4⟩
    have hg4' := hg2'.trans hg4
    clear hc2 hg2' hg4
    cases q
    · go_wp2_with fail
      go_ret
      exact ⟨x, by unfold in64; omega, rfl, hc4, hg4'⟩
    · go_wp2_with fail
      refine (near_any g 0 1000000000000 _ hc4 (by omega) (by omega) (by omega)).mono ?_
      rintro e w5 ⟨y, hy, rfl, hc5, hg5⟩
      have HY := Lib.hid hy
      clear hy
      go_wp2_with fail
      go_ret
      exact ⟨y, HY.out, rfl, hc5, hg4'.trans hg5⟩

set_option maxHeartbeats 2000000 in
theorem number4_any (g : Nat) (w : World) (hc : Cur w g) :
    Calls Try.prog 87 #[.pointer (some ⟨g, 0, none⟩)] w (Drawn in64 g w) := by
  go_enter Try.func87, Try.ntmps87
  go_wp2_with fail
  refine (number2_any g _ hc).mono ?_
  rintro e w1 ⟨x, ⟨hx0, hx1⟩, rfl, hc1, hg1⟩
  go_wp2_with fail
  refine (once_any g 2 _ hc1 (by omega) (by omega)).mono ?_
  rintro e w2 ⟨q, rfl, hc2, hg2⟩
  have hg2' := hg1.trans hg2
  clear hc hc1 hg1 hg2
  cases q
  · go_wp2_with fail
    go_ret
    exact ⟨x, ⟨hx0, hx1⟩, rfl, hc2, hg2'⟩
  · by_cases h : -2000000000000 < x
    · go_wp2_with fail
      go_ret
      exact ⟨-x, by unfold in64; omega, rfl, hc2, hg2'⟩
    · go_wp2_with fail
      go_ret
      exact ⟨x, ⟨hx0, hx1⟩, rfl, hc2, hg2'⟩

/-- what the law needs of the digits that it draws -/
def SgOk (l : List Int) : Prop := NrmS l ∧ l.length ≤ 60 ∧ -1000000000000 ≤ sv l ∧ sv l ≤ 1000000000000
theorem sgOk_sparse (n : Int) : SgOk (rSparseDigits0 n) := by
  unfold rSparseDigits0
  split
  · rename_i h
    obtain ⟨h1, h2⟩ := inN_yes h
    have := spd_len42 h1 h2
    exact ⟨nrmS_sp n, by omega, by rw [sv_sp]; exact h1, by rw [sv_sp]; exact h2⟩
  · exact ⟨⟨fun d hd => by simp at hd, .inl rfl⟩, by simp, by decide, by decide⟩
theorem sgOk_trim {l : List Int} (hl : AllS l) (h11 : l.length ≤ 11) {n : Nat} (hn : n ≤ l.length) (hla : ∀ (hj : n - 1 < l.length), n = 0 ∨ l[n - 1] ≠ 0) : SgOk (l.take n) := by
  have hA : AllS (l.take n) := fun d hd => hl d (List.mem_of_mem_take hd)
  have hb := sv_bound hA 11 0 (by rw [List.length_take]; omega)
  rw [List.drop_zero] at hb
  have e : (2 : Int) ^ 11 = 2048 := by decide
  refine ⟨⟨hA, ?_⟩, by rw [List.length_take]; omega, by omega, by omega⟩
  by_cases h0 : n = 0
  · left; subst h0; simp
  · by_cases h1 : n - 1 < l.length
    · right
      have := (hla h1).resolve_left h0
      rw [List.getLast?_eq_getElem?, List.length_take, Nat.min_eq_left hn, List.getElem?_take, if_pos (by omega), List.getElem?_eq_getElem h1]
      simpa using this
    · left
      have : l.length = 0 := by omega
      rw [List.eq_nil_of_length_eq_zero this]; simp

set_option maxHeartbeats 4000000 in
theorem l06Draw_any (g : Nat) (w : World) (hc : Cur w g) :
    Calls Try.prog 57 #[.pointer (some ⟨g, 0, none⟩)] w fun e w' => ∃ l v, SgOk l ∧ e = .returned v ∧ w'.ownsRow w.heap.size 3 1 v l.length (intsOf l) ∧ Below g w w' := by
  have hgl := hc.lt
  obtain ⟨i0, hi, hz0, hz1, hz2⟩ := info_parts infoInt
  go_enter Try.func57, Try.ntmps57
  go_wp2_with fail
  refine (once_any g 3 _ hc (by omega) (by omega)).mono ?_
  rintro e w1 ⟨q, rfl, hc1, hg1⟩
  have hB1 := below_drawn (Below.refl g w) hg1 (by omega)
  have hs1 := hB1.size
  clear hc hg1
  cases q
  · have HL := Lib.hid (World.ownsRow_lit (base := w.heap.size) (e := 3) (size := 1) w1 #[] 0 hs1 (by decide) rfl)
    have hc2 := hc1.below1 ((Below.refl (g + 1) w1).alloc (by omega) (.cells #[] 3))
    have hB2 := hB1.trans ((Below.refl g w1).alloc (by omega) (.cells #[] 3))
    clear hc1 hB1
    go_wp2_with fail
    refine (below_any g 12 _ hc2 (by omega) (by omega)).mono ?_
    rintro e w2 ⟨x, ⟨hx0, hx1⟩, rfl, hc3, hg3⟩
    obtain ⟨x, rfl⟩ : ∃ m : Nat, x = m := ⟨x.toNat, by omega⟩
    have HO1 := Lib.hid (owns_drawn HL.out hg3 hgl)
    have hB3 := below_drawn hB2 hg3 (by simp; omega)
    have hs3 : w.heap.size ≤ w2.heap.size := hB3.size
    clear hg3 hB2 hc2 HL
    go_wp2_with fail
    go_loopw [3, 4] (fun v i wr => ∃ (k : Nat) (l : List Int), i = .int .i64 k ∧ k + l.length ≤ 11 ∧ AllS l ∧ wr.ownsRow w.heap.size 3 1 v l.length (intsOf l) ∧ Cur wr g ∧ Below g w wr) (fun _ i _ => (intOf i).toNat)
    case atStart => exact ⟨x, [], rfl, by simp; omega, fun d hd => by simp at hd, HO1.out, hc3, hB3⟩
    case round =>
      obtain ⟨k, l, rfl, hkl, hA, hown, hc, hB⟩ := hrel
      have hsz := hB.size
      clear hB3 hc3 HO1 hs3
      cases k with
      | zero =>
        obtain ⟨av, cap, rfl, hcp1, hcp2⟩ := owns_form hown
        unfold maxLen at hcp2
        have HT := Lib.hid (specTrim_any av cap l wr (RowAt.of_owns hown) (by omega))
        have HW := Lib.hid (fun n (hn : n ≤ l.length) => owns_take hown hn)
        have HSG := Lib.hid (fun n hn hla => sgOk_trim hA (by omega) (n := n) hn hla)
        clear hown hA hc
        go_wp2_with fail
        refine HT.out.mono ?_
        rintro e w' ⟨n, rfl, hn, _, hlast, rfl⟩
        have HR := Lib.hid (HSG.out n hn hlast)
        have HO := Lib.hid (show wr.ownsRow w.heap.size 3 1 (.slice av n cap) (l.take n).length (intsOf (l.take n)) by
          rw [List.length_take, Nat.min_eq_left hn, ← intsOf_take]; exact HW.out n hn)
        clear hlast HT HW HSG
        go_wp2_with fail
        go_ret
        exact ⟨l.take n, _, HR.out, rfl, HO.out, hB⟩
      | succ k =>
        have hpos : (0 : Int) < ((k + 1 : Nat) : Int) := by omega
        have HOW := Lib.hid hown; have HA := Lib.hid hA
        clear hown hA
        go_wp2_with fail
        refine (below_any g 3 _ hc (by omega) (by omega)).mono ?_
        rintro e w3 ⟨y, ⟨hy0, hy1⟩, rfl, hc2, hg2⟩
        have ho2 := owns_drawn HOW.out hg2 hgl
        have hB2 := below_drawn hB hg2 (by omega)
        have hsz2 := hB2.size
        clear hg2 hB hc HOW
        go_wp2_with (at_builtin; refine wpList_append_own _ rfl _ _ 24 rfl w.heap.size 3 i0 (.int .i64 0) 1 8 Try.underlying24 hi hz0 hz1 hz2 rfl (by decide) _ _ _ rfl (ho2.alloc _) ⟨w3.heap.size, 0, none⟩ 1 1 [.int .i64 (y - 1)] rfl rfl ?c1 ?c2 ?c3 ?c4 ?c5 ?_)
        case c1 => exact one_cell _ _ _
        case c2 => intro u hu; simp at hu; subst hu; rfl
        case c3 => unfold maxLen; omega
        case c4 => omega
        case c5 => simp; omega
        intro v' w4 hown' hgrow _
        have hb3 : Below (g + 1) w3 w4 := ((Below.refl (g + 1) w3).alloc (by omega) (.cells #[.int .i64 (y - 1)] 3)).grown hgrow (by simp; omega) (fun j hj => by have := (ho2.lt j hj).1; omega)
        have HO' := Lib.hid (show w4.ownsRow w.heap.size 3 1 v' (l ++ [y - 1]).length (intsOf (l ++ [y - 1])) by simpa [intsOf] using hown')
        have hc3 := hc2.below1 hb3
        have hB3 := hB2.trans (hb3.mono (by omega))
        have HAN := Lib.hid (allS_snoc HA.out (show -1 ≤ y - 1 by omega) (show y - 1 ≤ 1 by omega))
        clear hown' hgrow ho2 hc2 hB2 hb3
        go_wp2_with fail
        go_roundw
        case rel => exact ⟨k, l ++ [y - 1], by go_num, by simp; omega, HAN.out, HO'.out, hc3, hB3⟩
        case measure => simp [intOf]
  · go_wp2_with fail
    refine (number4_any g _ hc1).mono ?_
    rintro e w2 ⟨x, hx, rfl, hc2, hg2⟩
    have hB2 := below_drawn hB1 hg2 (by omega)
    have hs2 := hB2.size
    have HS := Lib.hid (specSparseDigits_any x w2 hx)
    have HSG := Lib.hid (sgOk_sparse x)
    clear hx hc1 hB1 hg2 hc2
    go_wp2_with fail
    refine HS.out.mono ?_
    rintro e w3 ⟨v, rfl, ho, hb⟩
    have HO := Lib.hid (owns_mono ho hs2)
    clear ho
    go_wp2_with fail
    go_ret
    exact ⟨_, _, HSG.out, rfl, HO.out, hB2.trans (hb.mono (by omega))⟩

set_option maxHeartbeats 2000000 in
theorem makeSigned_any (v : Value) (n : Nat) (w : World) (hv : BytesAt w v) (hn : n ≤ 1000) :
    Calls Try.prog 19 #[v, .int .i64 n] w fun e w' => ∃ l v', SgOk l ∧ e = .returned v' ∧ RowAt w' v' (intsOf l) ∧ Below w.heap.size w w' := by
  have HV := Lib.hid hv
  obtain ⟨a, len, cap, zs, rfl, _⟩ := hv
  go_enter Try.func19, Try.ntmps19
  go_wp2_with fail
  refine (l31New_any _ n _ HV.out hn).mono ?_
  rintro e w1 ⟨g, rfl, hg0, hc1, hb1⟩
  have hs1 := hb1.size
  go_wp2_with fail
  refine (l06Draw_any g _ hc1).mono ?_
  rintro e w2 ⟨l, v', hS, rfl, ho, hb2⟩
  have HR := Lib.hid (RowAt.of_owns ho)
  have HS := Lib.hid hS
  have hB2 := hb1.trans (hb2.mono hg0)
  clear ho hb2 hb1 hc1 hS
  go_wp2_with fail
  go_ret
  exact ⟨l, v', HS.out, rfl, HR.out, hB2⟩

end Go.Proofs.Ytiemhhkoegkleaa
