/- Long numbers: what the law draws, and its test of equal lists. -/
import Derived.Test.YtdflpocnfodbhaaLgRoot
import Derived.Test.YtdflpocnfodbhaaDrawC
set_option linter.unusedVariables false
set_option linter.unusedSimpArgs false
set_option maxRecDepth 100000
namespace Go.Proofs.Ytdflpocnfodbhaa
open Go.ChangeShapes Go.WideShapes Go.ChangeAt Go.RowKit

theorem Cur.below1 {w w' : World} {g : Nat} (h : Cur w g) (hb : Below (g + 1) w w') : Cur w' g := by
  obtain ⟨a, n, cap, i, h, zs, hh, h1, h2, hi, hz, hrow⟩ := h
  refine ⟨a, n, cap, i, h, zs, by rw [hb.block g (by omega)]; exact hh, h1, h2, hi, hz, ?_⟩
  rcases hrow with h0 | ⟨b, off, ha, hbg, hc⟩
  · exact .inl h0
  · exact .inr ⟨b, off, ha, hbg, fun k hk => by rw [hb.cell (p := ⟨b, off + k, none⟩) (by simp; omega)]; exact hc k hk⟩
/-- what is owned above a cursor stays so where the cursor moves -/
theorem owns_drawn {w w' : World} {base g : Nat} {e : TypeId} {size : Nat} {v : Value} {n : Nat} {xs : List Value} (h : w.ownsRow base e size v n xs) (hb : w.grownBy w' (some g)) (hg : g < base) : w'.ownsRow base e size v n xs := by
  obtain ⟨hl, h2⟩ := h
  refine ⟨hl, ?_⟩
  rcases h2 with h2 | ⟨g', cap, cur, hv, hg', hh, r⟩
  · exact .inl h2
  · exact .inr ⟨g', cap, cur, hv, hg', by rw [hb.block g' (heap_lt_of_some hh) (by simp; omega)]; exact hh, r⟩
theorem below_drawn {w0 w w' : World} {g : Nat} (h : Below g w0 w) (hg : w.grownBy w' (some g)) (h0 : g ≤ w.heap.size) : Below g w0 w' :=
  h.grown hg h0 (fun k hk => by cases hk; exact Nat.le_refl _)

set_option maxHeartbeats 4000000 in
theorem l03Draw_any (g b : Nat) (w : World) (hc : Cur w g) (hb : 2 ≤ b) (hb16 : b ≤ 16) :
    Calls Try.prog 88 #[.pointer (some ⟨g, 0, none⟩), .int .i64 b] w fun e w' => ∃ N v, (dg b N).length ≤ 7 ∧ e = .returned v ∧ w'.ownsRow w.heap.size 3 1 v (dg b N).length (intsOf (dg b N)) ∧ Below g w w' := by
  have hgl := hc.lt
  obtain ⟨i0, hi, hz0, hz1, hz2⟩ := info_parts infoInt
  have hlit := World.ownsRow_lit (base := w.heap.size) (e := 3) (size := 1) w #[] 0 (Nat.le_refl _) (by decide) rfl
  have HL := Lib.hid hlit
  have hc0 := hc.below1 (((Below.refl (g + 1) w).alloc (by omega) (.cells #[] 3)))
  have hB0 := (Below.refl g w).alloc (by omega) (.cells #[] 3)
  clear hlit hc
  go_enter Try.func88, Try.ntmps88
  go_wp2_with fail
  refine (below_any g 8 _ hc0 (by omega) (by omega)).mono ?_
  rintro e w1 ⟨x, ⟨hx0, hx1⟩, rfl, hc1, hg1⟩
  obtain ⟨x, rfl⟩ : ∃ m : Nat, x = m := ⟨x.toNat, by omega⟩
  have HO1 := Lib.hid (owns_drawn HL.out hg1 hgl)
  have hB1 := below_drawn hB0 hg1 (by simp; omega)
  have hs1 : w.heap.size ≤ w1.heap.size := hB1.size
  clear hg1 hB0 hc0 HL
  go_wp2_with fail
  go_loopw [5, 6] (fun v i wr => ∃ (k : Nat) (l : List Int), i = .int .i64 k ∧ k + l.length ≤ 7 ∧ AllD b l ∧ wr.ownsRow w.heap.size 3 1 v l.length (intsOf l) ∧ Cur wr g ∧ Below g w wr) (fun _ i _ => (intOf i).toNat)
  case atStart => exact ⟨x, [], rfl, by simp; omega, fun d hd => by simp at hd, HO1.out, hc1, hB1⟩
  case round =>
    obtain ⟨k, l, rfl, hkl, hA, hown, hc, hB⟩ := hrel
    have hsz := hB.size
    clear hB1 hc1 HO1 hs1
    cases k with
    | zero =>
      have HT := Lib.hid (specTrim_own _ l b w.heap.size wr hb hA hown (by omega))
      have HLN := Lib.hid (conv_len_set hA hb)
      clear hown hA hc
      go_wp2_with fail
      refine HT.out.mono ?_
      rintro e w' ⟨v', rfl, ho, rfl⟩
      have HO := Lib.hid ho
      clear ho
      go_wp2_with fail
      go_ret
      exact ⟨vl b l, _, by have := HLN.out; omega, rfl, HO.out, hB⟩
    | succ k =>
      have hpos : (0 : Int) < ((k + 1 : Nat) : Int) := by omega
      have HOW := Lib.hid hown; have HA := Lib.hid hA
      clear hown hA
      go_wp2_with fail
      refine (below_any g b _ hc (by omega) (by omega)).mono ?_
      rintro e w2 ⟨y, ⟨hy0, hy1⟩, rfl, hc2, hg2⟩
      have ho2 := owns_drawn HOW.out hg2 hgl
      have hB2 := below_drawn hB hg2 (by omega)
      have hsz2 := hB2.size
      clear hg2 hB hc HOW
      go_wp2_with (at_builtin; refine wpList_append_own _ rfl _ _ 24 rfl w.heap.size 3 i0 (.int .i64 0) 1 8 Try.underlying24 hi hz0 hz1 hz2 rfl (by decide) _ _ _ rfl (ho2.alloc _) ⟨w2.heap.size, 0, none⟩ 1 1 [.int .i64 y] rfl rfl ?c1 ?c2 ?c3 ?c4 ?c5 ?_)
      case c1 => exact one_cell _ _ _
      case c2 => intro u hu; simp at hu; subst hu; rfl
      case c3 => unfold maxLen; omega
      case c4 => omega
      case c5 => simp; omega
      intro v' w3 hown' hgrow _
      have hb3 : Below (g + 1) w2 w3 := ((Below.refl (g + 1) w2).alloc (by omega) (.cells #[.int .i64 y] 3)).grown hgrow (by simp; omega) (fun j hj => by have := (ho2.lt j hj).1; omega)
      have hO : w3.ownsRow w.heap.size 3 1 v' (l ++ [y]).length (intsOf (l ++ [y])) := by
        simpa [intsOf] using hown'
      have HO' := Lib.hid hO
      have hc3 := hc2.below1 hb3
      have hB3 := hB2.trans (hb3.mono (by omega))
      have HAN := Lib.hid (show AllD b (l ++ [y]) from fun d hd => by
        rcases List.mem_append.1 hd with h | h
        · exact HA.out d h
        · simp at h; subst h; exact ⟨hy0, by omega⟩)
      clear hown' hgrow hO ho2 hc2 hB2 hb3
      go_wp2_with fail
      go_roundw
      case rel => exact ⟨k, l ++ [y], by go_num, by simp; omega, HAN.out, HO'.out, hc3, hB3⟩
      case measure => simp [intOf]

set_option maxHeartbeats 2000000 in
theorem makeLong_any (v : Value) (n b : Nat) (w : World) (hv : BytesAt w v) (hn : n ≤ 1000) (hb : 2 ≤ b) (hb16 : b ≤ 16) :
    Calls Try.prog 26 #[v, .int .i64 n, .int .i64 b] w fun e w' => ∃ N v', (dg b N).length ≤ 7 ∧ e = .returned v' ∧ RowAt w' v' (intsOf (dg b N)) ∧ Below w.heap.size w w' := by
  have HV := Lib.hid hv
  obtain ⟨a, len, cap, zs, rfl, _⟩ := hv
  go_enter Try.func26, Try.ntmps26
  go_wp2_with fail
  refine (l31New_any _ n _ HV.out hn).mono ?_
  rintro e w1 ⟨g, rfl, hg0, hc1, hb1⟩
  have hs1 := hb1.size
  go_wp2_with fail
  refine (l03Draw_any g b _ hc1 hb hb16).mono ?_
  rintro e w2 ⟨N, v', hN, rfl, ho, hb2⟩
  have HR := Lib.hid (RowAt.of_owns ho)
  have hB2 := hb1.trans (hb2.mono hg0)
  clear ho hb2 hb1 hc1
  go_wp2_with fail
  go_ret
  exact ⟨N, _, hN, rfl, HR.out, hB2⟩

end Go.Proofs.Ytdflpocnfodbhaa
