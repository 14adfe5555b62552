/- What the law on places of coins draws: coins. -/
import Derived.Test.YtbfoaibgenepoaaInts
import Derived.Test.YtbfoaibgenepoaaCoM
import Derived.Test.YtbfoaibgenepoaaLgSpec
import Derived.Test.YtbfoaibgenepoaaDrawC
import Derived.Test.YtbfoaibgenepoaaLgDraw
import Derived.Test.YtbfoaibgenepoaaStepPut
set_option linter.unusedVariables false
set_option linter.unusedSimpArgs false
set_option maxRecDepth 100000
namespace Go.Proofs.Ytbfoaibgenepoaa
open Go.ChangeShapes Go.WideShapes Go.ChangeAt Go.RowKit

/-- a call of a Go function, as one step of a region that draws -/
theorem step_calls {P : Program} (w : World) {ops : Array Oper} {o : Oper} {a : Act} {K : Act → World → Prop} {Q : Exit → Act → World → Prop} {E : Prop} (hgd : o.guard = none) (f : FuncId) (args : Array Value)
    (hrun : (execOp a.eval o).run P w = .ok (.enter f args) w) (post : Ending → World → Prop) (hc : Calls P f args w post)
    (h : ∀ e w', post e w' → ∃ v, e = .returned v ∧ K (a.put o.dst v) w') :
    if Region.wanted o (yielded ops a.tmps) = true then Oper.wp P o a w K Q else E := by
  have hw : Region.wanted o (yielded ops a.tmps) = true := by simp [Region.wanted, hgd]
  rw [if_pos hw]
  unfold Oper.wp
  rw [hrun, Oper.upon_enter]
  refine hc.mono ?_
  intro e w' hp
  obtain ⟨v, rfl, hk⟩ := h e w' hp
  exact hk

/-- what the law needs of the coins that it draws -/
structure CoD (l : List Int) : Prop where
  co : Coins l
  len : l.length ≤ 5
  le : ∀ x ∈ l, x ≤ 9 * (l.length : Int) - 8
theorem CoD.one : CoD [1] := ⟨⟨by simp, ⟨[], rfl⟩, by simp, rfl⟩, by simp, by simp⟩
theorem ascB_end {l : List Int} {q : Nat} {y z : Int} (h : ascB l = true) (hq : l.length = q + 1) (hy : l[q]'(by omega) = y) (hz : y < z) : ascB (l ++ [z]) = true := by
  have e : l = l.take q ++ [y] := by
    rw [← hy, ← List.take_succ_eq_append_getElem (by omega), List.take_of_length_le (by omega)]
  rw [e, ascB_snoc, ← e, h, decide_eq_true hz]; rfl
theorem CoD.more {l : List Int} {q : Nat} {y z : Int} (h : CoD l) (hq : l.length = q + 1) (hl : l.length ≤ 4) (hy : l[q]'(by omega) = y) (h1 : y < z) (h2 : z ≤ y + 9) : CoD (l ++ [z]) := by
  have hy2 := h.le _ (List.getElem_mem (show q < l.length by omega))
  have hy1 := h.co.bd _ (List.getElem_mem (show q < l.length by omega))
  rw [hy] at hy1 hy2
  refine ⟨⟨by simp; omega, ?_, fun x hx => ?_, ascB_end h.co.asc hq hy h1⟩, by simp; omega, fun x hx => ?_⟩
  · obtain ⟨t, ht⟩ := h.co.one
    exact ⟨t ++ [z], by rw [ht]; rfl⟩
  · rcases List.mem_append.1 hx with hx | hx
    · exact h.co.bd x hx
    · simp at hx; subst hx; omega
  · rw [List.length_append, List.length_singleton]
    rcases List.mem_append.1 hx with hx | hx
    · have := h.le x hx; omega
    · simp at hx; subst hx; omega

set_option maxHeartbeats 4000000 in
theorem l11Draw_any (g : Nat) (w : World) (hc : Cur w g) :
    Calls Try.prog 39 #[.pointer (some ⟨g, 0, none⟩)] w fun e w' => ∃ l v, CoD l ∧ e = .returned v ∧ w'.ownsRow w.heap.size 3 1 v l.length (intsOf l) ∧ Below g w w' := by
  have hgl := hc.lt
  obtain ⟨i0, hi, hz0, hz1, hz2⟩ := info_parts infoInt
  have HL := Lib.hid (World.ownsRow_lit (base := w.heap.size) (e := 3) (size := 1) w #[.int .i64 1] 1 (Nat.le_refl _) (by decide) rfl)
  have hc2 := hc.below1 ((Below.refl (g + 1) w).alloc (by omega) (.cells #[.int .i64 1] 3))
  have hB2 := (Below.refl g w).alloc (by omega) (.cells #[.int .i64 1] 3)
  clear hc
  go_enter Try.func39, Try.ntmps39
  go_wp2_with fail
  refine (below_any g 5 _ hc2 (by omega) (by omega)).mono ?_
  rintro e w2 ⟨x, ⟨hx0, hx1⟩, rfl, hc3, hg3⟩
  obtain ⟨x, rfl⟩ : ∃ m : Nat, x = m := ⟨x.toNat, by omega⟩
  have HO1 := Lib.hid (owns_drawn HL.out hg3 hgl)
  have hB3 := below_drawn hB2 hg3 (by simp; omega)
  have hs3 : w.heap.size ≤ w2.heap.size := hB3.size
  clear hg3 hB2 hc2 HL
  go_wp2_with fail
  go_loopw [3, 4] (fun v i wr => ∃ (k : Nat) (l : List Int), i = .int .i64 k ∧ k + l.length ≤ 5 ∧ CoD l ∧ wr.ownsRow w.heap.size 3 1 v l.length (intsOf l) ∧ Cur wr g ∧ Below g w wr) (fun _ i _ => (intOf i).toNat)
  case atStart => exact ⟨x, [1], rfl, by simp; omega, CoD.one, HO1.out, hc3, hB3⟩
  case round =>
    obtain ⟨k, l, rfl, hkl, hcd, hown, hc, hB⟩ := hrel
    have hsz := hB.size
    clear hB3 hc3 HO1 hs3
    cases k with
    | zero =>
      have HO := Lib.hid hown
      obtain ⟨av, cap, rfl, hcp1, hcp2⟩ := owns_form hown
      have HCD := Lib.hid hcd
      clear hown hc hcd
      go_wp2_with fail
      go_ret
      exact ⟨l, _, HCD.out, rfl, HO.out, hB⟩
    | succ k =>
      have hpos : (0 : Int) < ((k + 1 : Nat) : Int) := by omega
      obtain ⟨q, hq⟩ : ∃ q, l.length = q + 1 := by obtain ⟨t, ht⟩ := hcd.co.one; exact ⟨t.length, by rw [ht]; rfl⟩
      have hql : q < l.length := by omega
      obtain ⟨y, hy⟩ : ∃ y, l[q] = y := ⟨_, rfl⟩
      have hyb := hcd.le _ (List.getElem_mem hql)
      have hyb1 := hcd.co.bd _ (List.getElem_mem hql)
      rw [hy] at hyb hyb1
      have HMORE := Lib.hid (fun z => hcd.more (z := z) hq (by omega) hy)
      obtain ⟨a3, c3, e3, q1, q2, q3⟩ := (RowAt.of_owns hown).ints
      subst e3
      unfold maxLen at q2
      obtain ⟨bl, ol, rfl, hbl, hcell⟩ := q3.resolve_left (fun e => by rw [e] at hq; simp at hq)
      have hcl := hcell q hql
      rw [hy] at hcl
      have hbl0 := (hown.lt bl (by simp [Value.ownBlock])).1
      have hcl1 : wr.drew.cell? ⟨bl, ol + q, none⟩ = some (.int .i64 y) := hcl
      have HKEEP := Lib.hid (fun (w3 : World) (h : wr.drew.grownBy w3 (some g)) => show w3.cell? ⟨bl, ol + q, none⟩ = some (.int .i64 y) from (h.cell (a := ⟨bl, ol + q, none⟩) hcl1 (by simp; omega)))
      have HOW := Lib.hid (show wr.drew.ownsRow w.heap.size 3 1 (.slice (some ⟨bl, ol, none⟩) l.length c3) l.length (intsOf l) from hown)
      have hcd1 : Cur wr.drew g := hc.below ((Below.refl _ wr).drew)
      have HBD := Lib.hid (show Below g w wr.drew from hB.drew)
      obtain ⟨ln, hln⟩ : ∃ m, m = l.length := ⟨_, rfl⟩
      rw [← hln] at hkl q1 HOW hq hql hyb ⊢
      have HLN := Lib.hid hln
      have wq : IntKind.i64.wrap ((ln : Int) - 1) = (q : Int) := by rw [IntKind.wrap_i64]; omega
      have wy : IntKind.i64.wrap (y + 1) = y + 1 := by rw [IntKind.wrap_i64]; omega
      have kq : (q : Int) < ln := by omega
      have hlt : ln ≤ 4 := by omega
      have hsd : w.heap.size ≤ wr.drew.heap.size := hsz
      clear hown hc hcell q3 hcd hy hcl hq hln hB
      go_wp2_with fail
      trace_state
      go_region_law? (first
        | (refine step_calls _ (by rfl) 64 #[.pointer (some ⟨g, 0, none⟩), .int .i64 9] (by go_simp) _ (below_any g 9 wr.drew hcd1 (by omega) (by omega)) ?_; rintro e w3 ⟨x, ⟨hx0, hx1⟩, rfl, hc3, hg3⟩; refine ⟨_, rfl, ?_⟩; have hcl3 := HKEEP.out w3 hg3; have wx : IntKind.i64.wrap (y + 1 + x) = y + 1 + x := (by rw [IntKind.wrap_i64]; omega); have ho3 := owns_drawn HOW.out hg3 (show g < w.heap.size by omega))
        | (refine step_put2 _ (by rfl) _ _ 23 (by rfl) w.heap.size 3 i0 (.int .i64 0) 8 Try.underlying23 hi hz0 hz1 hz2 rfl _ _ _ (by rfl) (ho3.alloc _) ⟨w3.heap.size, 0, none⟩ 1 1 [.int .i64 (y + 1 + x)] (by rfl) rfl (one_cell _ _ _) (by intro u hu; simp at hu; subst hu; rfl) (by unfold maxLen; omega) (by omega) (by have := hg3.size; simp at this ⊢; omega) ?_; intro v' w4 hown' hgrow hat; obtain ⟨a5, c5, e5, _, _⟩ := owns_form hown'; subst e5))
      all_goals
        have hs3 := hg3.size
        have hs4 := hgrow.size
        have hB4 : Below g w w4 := ((below_drawn HBD.out hg3 (by omega)).alloc (by omega) (.cells #[.int .i64 (y + 1 + x)] 3)).grown hgrow (by simp; omega) (fun j hj => by simp [Value.ownBlock] at hj; omega)
        have hc4 : Cur w4 g := hc3.below1 (((Below.refl (g + 1) w3).alloc (by omega) (.cells #[.int .i64 (y + 1 + x)] 3)).grown hgrow (by simp; omega) (fun j hj => by simp [Value.ownBlock] at hj; omega))
        have HO4 := Lib.hid (show w4.ownsRow w.heap.size 3 1 (.slice a5 (ln + 1) c5) (l ++ [y + 1 + x]).length (intsOf (l ++ [y + 1 + x])) by
          have h := hown'
          have e := HLN.out
          subst e
          simpa [intsOf] using h)
        have HCD := Lib.hid (HMORE.out (y + 1 + x) (by omega) (by omega))
        have HLL := Lib.hid (show (l ++ [y + 1 + x]).length = ln + 1 by rw [List.length_append, ← HLN.out]; rfl)
        clear hown' hgrow hat ho3 hg3 hc3 hcl3
        go_wp2_with fail
        go_roundw
        case rel => exact ⟨k, l ++ [y + 1 + x], by go_num, by have := HLL.out; omega, HCD.out, HO4.out, hc4, hB4⟩
        case measure => simp [intOf]

set_option maxHeartbeats 2000000 in
theorem makeCoins_any (v : Value) (n : Nat) (w : World) (hv : BytesAt w v) (hn : n ≤ 1000) :
    Calls Try.prog 13 #[v, .int .i64 n] w fun e w' => ∃ l v', CoD l ∧ e = .returned v' ∧ RowAt w' v' (intsOf l) ∧ Below w.heap.size w w' := by
  have HV := Lib.hid hv
  obtain ⟨a, len, cap, zs, rfl, _⟩ := hv
  go_enter Try.func13, Try.ntmps13
  go_wp2_with fail
  refine (l31New_any _ n _ HV.out hn).mono ?_
  rintro e w1 ⟨g, rfl, hg0, hc1, hb1⟩
  have hs1 := hb1.size
  go_wp2_with fail
  refine (l11Draw_any g _ hc1).mono ?_
  rintro e w2 ⟨l, v', hS, rfl, ho, hb2⟩
  have HR := Lib.hid (RowAt.of_owns ho)
  have HS := Lib.hid hS
  have hB2 := hb1.trans (hb2.mono hg0)
  clear ho hb2 hb1 hc1 hS
  go_wp2_with fail
  go_ret
  exact ⟨l, v', HS.out, rfl, HR.out, hB2⟩

end Go.Proofs.Ytbfoaibgenepoaa
