/- Mixed places: the program's sums and carries. -/
import Derived.Test.YtiemhhkoegkleaaSumOf
import Derived.Test.YtiemhhkoegkleaaMxAdd
import Derived.Test.YtiemhhkoegkleaaLgMul
import Derived.Test.YtiemhhkoegkleaaMxI3
set_option linter.unusedVariables false
set_option linter.unusedSimpArgs false
set_option maxRecDepth 100000
namespace Go.Proofs.Ytiemhhkoegkleaa
open Go.ChangeShapes Go.WideShapes Go.ChangeAt Go.RowKit

def sumOk (a c r : List Int) : Bool := okM a r && okM c r
def sumD (a c r : List Int) : List Int := if okM a r && okM c r then adD 0 a c r else []
def sumL (a c r : List Int) : List Int := if okM a r && okM c r then adL 0 a c r else []

set_option maxHeartbeats 8000000 in
theorem sum7_any (va : Value) (a : List Int) (vc : Value) (c : List Int) (vr : Value) (r : List Int) (w : World) (hra : RowAt w va (intsOf a)) (hrc : RowAt w vc (intsOf c)) (hrr : RowAt w vr (intsOf r)) (hlr : r.length ≤ 1048576) :
    Calls Try.prog 71 #[va, vc, vr] w fun e w' => ∃ v0 v1, e = .returned (.tuple #[v0, v1, .bool (sumOk a c r)]) ∧ w'.ownsRow w.heap.size 3 1 v0 (sumD a c r).length (intsOf (sumD a c r)) ∧ w'.ownsRow w.heap.size 3 1 v1 (sumL a c r).length (intsOf (sumL a c r)) ∧ Below w.heap.size w w' := by
  have HS := Lib.hid (sysOf_any vr r w hrr hlr)
  have HRA := Lib.hid (fun W hW => hra.below (w' := W) hW)
  have HRC := Lib.hid (fun W hW => hrc.below (w' := W) hW)
  obtain ⟨i0, hi, hz0, hz1, hz2⟩ := info_parts infoInt
  obtain ⟨aa, capa, rfl, h1, h2, h3⟩ := hra.ints
  obtain ⟨ac, capc, rfl, h1', h2', h3'⟩ := hrc.ints
  unfold maxLen at h2 h2'
  have HNO := Lib.hid (fun w' (hB : Below w.heap.size w w') (h : (okM a r && okM c r) = false) => show ∃ v0 v1, Ending.returned (.tuple #[.slice none 0 0, .slice none 0 0, .bool false]) = .returned (.tuple #[v0, v1, .bool (sumOk a c r)]) ∧ w'.ownsRow w.heap.size 3 1 v0 (sumD a c r).length (intsOf (sumD a c r)) ∧ w'.ownsRow w.heap.size 3 1 v1 (sumL a c r).length (intsOf (sumL a c r)) ∧ Below w.heap.size w w' from by
      refine ⟨_, _, by rw [sumOk, h], ?_, ?_, hB⟩
      · rw [sumD, h]; exact World.ownsRow_nil _ _ _ _
      · rw [sumL, h]; exact World.ownsRow_nil _ _ _ _)
  clear hra hrc hrr
  cases h : okR r
  · rw [h] at HS
    have E0 := Lib.hid (show (okM a r && okM c r) = false by rw [okM_base h]; rfl)
    clear h h3 h3'
    go_enter Try.func71, Try.ntmps71
    go_wp2_with fail
    refine HS.out.mono ?_
    rintro e w1 ⟨cs, hS, rfl, hB1⟩
    have HV := Lib.hid hS
    clear hS
    go_wp2_with (first
      | (refine wpS_alloc rfl rfl ?_; intro w2 g hg hgs hB2)
      | (refine wpS_store rfl _ _ rfl g cs sysZ hg rfl HV.out.size HV.out.one w.heap.size w (hB1.trans (hB2.mono hB1.size)) (by have := hgs.out.1; have := hB1.size; omega) rfl rfl ?_; intro w3 hg3 hk3 hs3 hB3))
    go_ret3
    exact HNO.out _ hB3 E0.out
  · rw [h] at HS
    obtain ⟨o1, o2, o3, o4⟩ := okR_yes h
    have HALL := Lib.hid o3
    have HOK := Lib.hid h
    have EA := Lib.hid (show okM a r = fitB a r by rw [okM_eq, h, Bool.true_and])
    have EC := Lib.hid (show okM c r = fitB c r by rw [okM_eq, h, Bool.true_and])
    clear h o3
    have HAA := Lib.hid (fun cs hS W hW => allows7_any cs (.slice aa a.length capa) a r W hS HALL.out o2 (HRA.out W hW))
    have HAC := Lib.hid (fun cs hS W hW => allows7_any cs (.slice ac c.length capc) c r W hS HALL.out o2 (HRC.out W hW))
    cases hfa : fitB a r
    · rw [hfa] at HAA
      have E0 := Lib.hid (show (okM a r && okM c r) = false by rw [EA.out, hfa]; rfl)
      clear hfa h3 h3'
      go_enter Try.func71, Try.ntmps71
      go_wp2_with fail
      refine HS.out.mono ?_
      rintro e w1 ⟨cs, hS, rfl, hB1⟩
      have HV := Lib.hid hS
      have HK := Lib.hid (hS.yes HOK.out)
      clear hS
      go_wp2_with (first
        | (refine wpS_alloc rfl rfl ?_; intro w2 g hg hgs hB2)
        | (refine wpS_store rfl _ _ rfl g cs sysZ hg rfl HV.out.size HV.out.one w.heap.size w (hB1.trans (hB2.mono hB1.size)) (by have := hgs.out.1; have := hB1.size; omega) rfl rfl ?_; intro w3 hg3 hk3 hs3 hB3)
        | (refine wpS_load rfl _ rfl g cs hg3 HV.out.size rfl ?_)
        | (go_at_call 72; refine (HAA.out cs HK.out _ hB3).mono ?_; rintro e w4 ⟨rfl, hB4⟩))
      go_ret3
      exact HNO.out _ (hB3.trans (hB4.mono hB3.size)) E0.out
    · rw [hfa] at HAA
      cases hfc : fitB c r
      · rw [hfc] at HAC
        have E0 := Lib.hid (show (okM a r && okM c r) = false by rw [EC.out, hfc, Bool.and_false])
        clear hfa hfc h3 h3'
        go_enter Try.func71, Try.ntmps71
        go_wp2_with fail
        refine HS.out.mono ?_
        rintro e w1 ⟨cs, hS, rfl, hB1⟩
        have HV := Lib.hid hS
        have HK := Lib.hid (hS.yes HOK.out)
        clear hS
        go_wp2_with (first
          | (refine wpS_alloc rfl rfl ?_; intro w2 g hg hgs hB2)
          | (refine wpS_store rfl _ _ rfl g cs sysZ hg rfl HV.out.size HV.out.one w.heap.size w (hB1.trans (hB2.mono hB1.size)) (by have := hgs.out.1; have := hB1.size; omega) rfl rfl ?_; intro w3 hg3 hk3 hs3 hB3)
          | (refine wpS_load rfl _ rfl g cs hg3 HV.out.size rfl ?_))
        refine (HAA.out cs HK.out _ hB3).mono ?_
        rintro e w4 ⟨rfl, hB4⟩
        have hg4 := sys_below hg3 hB4
        have hB34 := hB3.trans (hB4.mono hB3.size)
        clear hg3
        go_wp2_with (refine wpS_load rfl _ rfl g cs hg4 HV.out.size rfl ?_)
        refine (HAC.out cs HK.out _ hB34).mono ?_
        rintro e w5 ⟨rfl, hB5⟩
        go_wp2_with fail
        go_ret3
        exact HNO.out _ (hB34.trans (hB5.mono hB34.size)) E0.out
      · rw [hfc] at HAC
        have hoa : okM a r = true := by rw [EA.out, hfa]
        have hoc : okM c r = true := by rw [EC.out, hfc]
        have EO := Lib.hid (show sumOk a c r = true by rw [sumOk, hoa, hoc]; rfl)
        have ED := Lib.hid (show sumD a c r = adD 0 a c r by rw [sumD, hoa, hoc]; rfl)
        have EL := Lib.hid (show sumL a c r = adL 0 a c r by rw [sumL, hoa, hoc]; rfl)
        obtain ⟨hR, hFa⟩ := okM_yes hoa
        obtain ⟨_, hFc⟩ := okM_yes hoc
        have HLA := Lib.hid (fitM_len hFa)
        have HLC := Lib.hid (fitM_len hFc)
        have HFA := Lib.hid (fitM_at hFa)
        have HFC := Lib.hid (fitM_at hFc)
        have HCY := Lib.hid (fun k => (ad_val (l := a.take k) (m := c.take k) (r := r.take k) 0 (by omega) (by omega) (allR_take HALL.out k) (fitM_take hFa k) (fitM_take hFc k)))
        clear hfa hfc hoa hoc hR hFa hFc
        go_enter Try.func71, Try.ntmps71
        go_wp2_with fail
        refine HS.out.mono ?_
        rintro e w1 ⟨cs, hS, rfl, hB1⟩
        have HV := Lib.hid hS
        have HK := Lib.hid (hS.yes HOK.out)
        clear hS
        go_wp2_with (first
          | (refine wpS_alloc rfl rfl ?_; intro w2 g hg hgs hB2)
          | (refine wpS_store rfl _ _ rfl g cs sysZ hg rfl HV.out.size HV.out.one w.heap.size w (hB1.trans (hB2.mono hB1.size)) (by have := hgs.out.1; have := hB1.size; omega) rfl rfl ?_; intro w3 hg3 hk3 hs3 hB3)
          | (refine wpS_load rfl _ rfl g cs hg3 HV.out.size rfl ?_))
        refine (HAA.out cs HK.out _ hB3).mono ?_
        rintro e w4 ⟨rfl, hB4⟩
        have hg4 := sys_below hg3 hB4
        have hB34 := hB3.trans (hB4.mono hB3.size)
        have hgw : w.heap.size ≤ g := by have := hgs.out.1; have := hB1.size; omega
        clear hg3 hg hB3 hB4 hB2 hB1 hk3 hs3 hgs
        go_wp2_with (refine wpS_load rfl _ rfl g cs hg4 HV.out.size rfl ?_)
        refine (HAC.out cs HK.out _ hB34).mono ?_
        rintro e w5 ⟨rfl, hB5⟩
        have hg5 := sys_below hg4 hB5
        have hB35 := hB34.trans (hB5.mono hB34.size)
        have hgl5 := sys_lt hg5
        have c0 := sys_cell hg5 HK.out.count
        have hs35 := hB35.size
        clear hg4 hB34 hB5
        go_wp2_with (at_make; refine wpList_make_full _ rfl _ _ 24 rfl w.heap.size 3 i0 (.int .i64 0) 1 Try.underlying24 hi hz0 hz1 _ _ _ _ r.length rfl rfl rfl rfl ?c1 ?c2 ?c3 ?_)
        case c1 => rw [hz2]; omega
        case c2 => unfold maxLen; omega
        case c3 => exact hs35
        intro w6 hown hgrow
        obtain ⟨gd, hgd⟩ : ∃ gd, gd = w5.heap.size := ⟨_, rfl⟩
        rw [← hgd] at hown ⊢
        have hoD : w6.ownsRow w.heap.size 3 1 (.slice (some ⟨gd, 0, none⟩) r.length r.length) r.length (intsOf (List.replicate r.length 0)) := by
          rw [toList_madeCells_one] at hown; rw [intsOf_zeros]; simpa using hown
        have hB56 : Below w5.heap.size w5 w6 := (Below.refl _ _).grown hgrow (Nat.le_refl _) (fun k hk => by cases hk)
        have hg6 := sys_below hg5 hB56
        have hB36 := hB35.trans (hB56.mono hs35)
        have hs36 := hB36.size
        have c0 := sys_cell hg6 HK.out.count
        have hgd1 : g < gd := by omega
        have hgd2 : w.heap.size ≤ gd := by omega
        have hgd3 := (hoD.lt gd rfl).2
        have HOD := Lib.hid hoD
        clear hown hgrow hB56 hg5 hB35 hgd hoD hs35 hgl5
        go_wp2_with (at_make; refine wpList_make_full _ rfl _ _ 24 rfl w.heap.size 3 i0 (.int .i64 0) 1 Try.underlying24 hi hz0 hz1 _ _ _ _ r.length rfl rfl rfl rfl ?e1 ?e2 ?e3 ?_)
        case e1 => rw [hz2]; omega
        case e2 => unfold maxLen; omega
        case e3 => exact hs36
        intro w7 hown hgrow
        obtain ⟨gc, hgc⟩ : ∃ gc, gc = w6.heap.size := ⟨_, rfl⟩
        rw [← hgc] at hown ⊢
        have HOC := Lib.hid (show w7.ownsRow w.heap.size 3 1 (.slice (some ⟨gc, 0, none⟩) r.length r.length) r.length (intsOf (List.replicate r.length 0)) by
          rw [toList_madeCells_one] at hown; rw [intsOf_zeros]; simpa using hown)
        have hB67 : Below w6.heap.size w6 w7 := (Below.refl _ _).grown hgrow (Nat.le_refl _) (fun k hk => by cases hk)
        have hg7 := sys_below hg6 hB67
        have HOD7 := Lib.hid (owns_below HOD.out hB67)
        have hB7 := hB36.trans (hB67.mono hs36)
        have c0 := sys_cell hg7 HK.out.count
        have hgc1 : gd < gc := by omega
        have hgc2 : w.heap.size ≤ gc := by omega
        clear hown hgrow hB67 hg6 hB36 hgc HOD hs36 hgd3
        go_wp2_with fail
        clear c0
        go_loopw [13, 43] (fun cy i wr => ∃ (k : Nat) (D L : List Int), D.length = k ∧ L.length = k ∧ k ≤ r.length ∧ i = .int .i64 k ∧ cy = .int .i64 (adC 0 (a.take k) (c.take k) (r.take k)) ∧ D = adD 0 (a.take k) (c.take k) (r.take k) ∧ L = adL 0 (a.take k) (c.take k) (r.take k) ∧ wr.ownsRow w.heap.size 3 1 (.slice (some ⟨gd, 0, none⟩) r.length r.length) r.length (intsOf (D ++ List.replicate (r.length - D.length) 0)) ∧ wr.ownsRow w.heap.size 3 1 (.slice (some ⟨gc, 0, none⟩) r.length r.length) r.length (intsOf (L ++ List.replicate (r.length - L.length) 0)) ∧ Hid (wr.heap[g]? = some (.cells cs 86 (0, 0))) ∧ Below w.heap.size w wr) (fun _ i _ => r.length - (intOf i).toNat)
        case atStart => exact ⟨0, [], [], rfl, rfl, Nat.zero_le _, rfl, rfl, by simp [adD], by simp [adL], by simpa using HOD7.out, by simpa using HOC.out, hg7, hB7⟩
        case round =>
          obtain ⟨k, D, L, hDk, hLk, hk, rfl, rfl, hD, hL, hown, hownc, hg, hB⟩ := hrel
          have hsz := hB.size
          obtain ⟨_, _, cy0, cy1, _, _⟩ := HCY.out k
          clear hB7 hg7
          by_cases hlt : k < r.length
          · have hla : k < a.length := by have := HLA.out; omega
            have hlc : k < c.length := by have := HLC.out; omega
            obtain ⟨b1, off1, rfl, hbb1, hcell1⟩ := h3.resolve_left (fun e => by rw [e] at hla; simp at hla)
            obtain ⟨b2, off2, rfl, hbb2, hcell2⟩ := h3'.resolve_left (fun e => by rw [e] at hlc; simp at hlc)
            have hc1 : wr.cell? ⟨b1, off1 + k, none⟩ = some (.int .i64 a[k]) := by rw [hB.cell (p := ⟨b1, off1 + k, none⟩) hbb1]; exact hcell1 k hla
            have hc2 : wr.cell? ⟨b2, off2 + k, none⟩ = some (.int .i64 c[k]) := by rw [hB.cell (p := ⟨b2, off2 + k, none⟩) hbb2]; exact hcell2 k hlc
            have hc3 := sys_cell hg (HK.out.rad k hlt)
            obtain ⟨x2, x60⟩ := HALL.out _ (List.getElem_mem hlt)
            obtain ⟨p0, p1⟩ := HFA.out k hla hlt
            obtain ⟨q0, q1⟩ := HFC.out k hlc hlt
            obtain ⟨e1, e2, _⟩ := ad_step hla hlc hlt
            have e3 := adL_step hla hlc hlt
            have hac := ad_carry cy0 cy1 ⟨p0, p1⟩ ⟨q0, q1⟩ x2
            obtain ⟨cy, hcy⟩ : ∃ cy, cy = adC 0 (a.take k) (c.take k) (r.take k) := ⟨_, rfl⟩
            obtain ⟨p, hp⟩ : ∃ p, p = a[k] := ⟨_, rfl⟩
            obtain ⟨q, hq⟩ : ∃ q, q = c[k] := ⟨_, rfl⟩
            obtain ⟨x, hx⟩ : ∃ x, x = r[k] := ⟨_, rfl⟩
            rw [← hD, ← hcy, ← hp, ← hq, ← hx] at e1
            rw [← hcy, ← hp, ← hq, ← hx] at e2
            rw [← hL, ← hcy, ← hp, ← hq, ← hx] at e3
            rw [← hcy, ← hp, ← hq, ← hx] at hac
            rw [← hcy] at cy0 cy1 ⊢
            rw [← hp] at hc1 p0 p1
            rw [← hq] at hc2 q0 q1
            rw [← hx] at hc3 x2 x60 p1 q1
            have p59 : p ≤ 59 := by omega
            have q59 : q ≤ 59 := by omega
            obtain ⟨k1, k2, k3⟩ := hac
            have ht1 : (p + q + cy).tdiv x = (p + q + cy) / x := Int.tdiv_eq_ediv_of_nonneg k3
            have ht2 : (p + q + cy).tmod x = (p + q + cy) % x := Int.tmod_eq_emod_of_nonneg k3
            have g0 : 0 ≤ (p + q + cy) % x := Int.emod_nonneg _ (by omega)
            have g1 : (p + q + cy) % x < x := Int.emod_lt_of_pos _ (by omega)
            obtain ⟨Z, hZ⟩ : ∃ Z, Z = (p + q + cy) % x := ⟨_, rfl⟩
            obtain ⟨Y, hY⟩ : ∃ Y, Y = (p + q + cy) / x := ⟨_, rfl⟩
            rw [← hZ] at e1 ht2 g0 g1
            rw [← hY] at e2 e3 ht1 k1 k2
            have E1 := Lib.hid e1; have E2 := Lib.hid e2; have E3 := Lib.hid e3
            have hka : (k : Int) < a.length := by omega
            have hkc : (k : Int) < c.length := by omega
            have hkr : (k : Int) < r.length := by omega
            have hk10 : k < 10 := by omega
            have hxn : (x == 0) = false := by simp; omega
            subst hDk
            have hcd : wr.cell? ⟨gd, D.length, none⟩ = some (.int .i64 0) := by
              rw [hown.cellAt D.length (by omega)]
              have := fill_getM D hlt
              simp only [intsOf, List.getElem?_map, this]; rfl
            have hfd : wr.frozen? ⟨gd, D.length, none⟩ = false := hown.frozenAt D.length
            have hcc : wr.cell? ⟨gc, D.length, none⟩ = some (.int .i64 0) := by
              rw [hownc.cellAt D.length (by omega)]
              have := fill_getM L (show L.length < r.length by omega)
              rw [hLk] at this
              simp only [intsOf, List.getElem?_map, hLk, this]; rfl
            have hfc : wr.frozen? ⟨gc, D.length, none⟩ = false := hownc.frozenAt D.length
            have HSD := Lib.hid (fun nq => show (((wr.drewN nq).setCell ⟨gd, D.length, none⟩ (.int .i64 Z)).setCell ⟨gc, D.length, none⟩ (.int .i64 Y)).ownsRow w.heap.size 3 1 (.slice (some ⟨gd, 0, none⟩) r.length r.length) r.length (intsOf ((D ++ [Z]) ++ List.replicate (r.length - (D ++ [Z]).length) 0)) by
              have hs := ((show (wr.drewN nq).ownsRow w.heap.size 3 1 (.slice (some ⟨gd, 0, none⟩) r.length r.length) r.length (intsOf (D ++ List.replicate (r.length - D.length) 0)) from hown).stored D.length (.int .i64 Z)).1
              rw [intsOf_set, fill_stepM D _ hlt] at hs
              exact owns_setOffM hs ⟨gc, D.length, none⟩ (.int .i64 Y) (by simp [Value.ownBlock]; omega))
            have HSC := Lib.hid (fun nq => show (((wr.drewN nq).setCell ⟨gd, D.length, none⟩ (.int .i64 Z)).setCell ⟨gc, D.length, none⟩ (.int .i64 Y)).ownsRow w.heap.size 3 1 (.slice (some ⟨gc, 0, none⟩) r.length r.length) r.length (intsOf ((L ++ [Y]) ++ List.replicate (r.length - (L ++ [Y]).length) 0)) by
              have hs0 := owns_setOffM (show (wr.drewN nq).ownsRow w.heap.size 3 1 (.slice (some ⟨gc, 0, none⟩) r.length r.length) r.length (intsOf (L ++ List.replicate (r.length - L.length) 0)) from hownc) ⟨gd, D.length, none⟩ (.int .i64 Z) (by simp [Value.ownBlock]; omega)
              have hs := (hs0.stored L.length (.int .i64 Y)).1
              rw [intsOf_set, fill_stepM L _ (show L.length < r.length by omega)] at hs
              rw [hLk] at hs
              simpa [hLk] using hs)
            clear h3 h3' hcell1 hcell2 e1 e2 e3 hD hL hcy hp hq hx hZ hY p1 q1 hown hownc
            go_wp2_with fail
            go_quiet (fail)
            go_wp2_with fail
            go_roundw
            case rel =>
              refine ⟨D.length + 1, D ++ [Z], L ++ [Y], by simp, by simp [hLk], hlt, by go_num, by rw [E2.out], E1.out.symm, E3.out.symm, HSD.out _, HSC.out _, ?_, ((below_drewN hB _).setCell (p := ⟨gd, D.length, none⟩) hgd2 _).setCell (p := ⟨gc, D.length, none⟩) hgc2 _⟩
              show _ = _
              rw [heap_setCell_other _ _ _ _ (show g ≠ gc by omega), heap_setCell_other _ _ _ _ (show g ≠ gd by omega)]; exact hg.out
            case measure => simp [intOf]; omega
          · have hkn : k = r.length := by omega
            have ea : a.take r.length = a := by rw [← HLA.out, List.take_length]
            have ec : c.take r.length = c := by rw [← HLC.out, List.take_length]
            rw [hkn, ea, ec, List.take_length] at hD hL
            have HO := Lib.hid (show wr.ownsRow w.heap.size 3 1 (.slice (some ⟨gd, 0, none⟩) r.length r.length) (sumD a c r).length (intsOf (sumD a c r)) by
              rw [ED.out, adD_len _ _ _ _ HLA.out HLC.out, ← hD]; simpa [hDk, hkn] using hown)
            have HOL := Lib.hid (show wr.ownsRow w.heap.size 3 1 (.slice (some ⟨gc, 0, none⟩) r.length r.length) (sumL a c r).length (intsOf (sumL a c r)) by
              rw [EL.out, adL_len _ _ _ _ HLA.out HLC.out, ← hL]; simpa [hLk, hkn] using hownc)
            have hn9 : ¬ (k : Int) < r.length := by omega
            clear hown hownc hD hL h3 h3' ea ec hkn hDk hLk
            go_wp2_with fail
            go_ret3
            exact ⟨_, _, by rw [EO.out]; rfl, HO.out, HOL.out, hB⟩

set_option maxHeartbeats 2000000 in
theorem implMixedAdd_any (va : Value) (a : List Int) (vc : Value) (c : List Int) (vr : Value) (r : List Int) (w : World) (hra : RowAt w va (intsOf a)) (hl : a.length ≤ 1048576) (hia : ∀ n ∈ a, in64 n) (hrc : RowAt w vc (intsOf c)) (hl' : c.length ≤ 1048576) (hic : ∀ n ∈ c, in64 n) (hrr : RowAt w vr (intsOf r)) (hlr : r.length ≤ 1048576) (hir : ∀ n ∈ r, in64 n) :
    Calls Try.prog 36 #[va, vc, vr] w fun e w' => ∃ v, e = .returned (.tuple #[v, .int .i64 (rMixedAdd1 a c r)]) ∧ w'.ownsRow w.heap.size 3 1 v (rMixedAdd0 a c r).length (intsOf (rMixedAdd0 a c r)) ∧ Below w.heap.size w w' := by
  have HS := Lib.hid (sum7_any va a vc c vr r w hra hrc hrr hlr)
  clear hra hrc hrr hia hic hir
  cases h : (okM a r && okM c r)
  · rw [show sumOk a c r = false from h] at HS
    have E1 := Lib.hid (show rMixedAdd1 a c r = -1 by rw [rMixedAdd1, h]; rfl)
    have E0 := Lib.hid (show rMixedAdd0 a c r = [] by rw [rMixedAdd0, h]; rfl)
    clear h
    go_enter Try.func36, Try.ntmps36
    go_wp2_with fail
    refine HS.out.mono ?_
    rintro e w1 ⟨v0, v1, rfl, hO0, hO1, hB1⟩
    clear hO0 hO1
    go_wp2_with fail
    go_ret2
    exact ⟨_, by rw [E1.out]; rfl, by rw [E0.out]; exact World.ownsRow_nil _ _ _ _, hB1⟩
  · rw [show sumOk a c r = true from h] at HS
    have E1 := Lib.hid (show rMixedAdd1 a c r = adC 0 a c r by rw [rMixedAdd1, h]; rfl)
    have E0 := Lib.hid (show rMixedAdd0 a c r = sumD a c r by rw [rMixedAdd0, sumD])
    have EL := Lib.hid (show sumL a c r = adL 0 a c r by rw [sumL, h]; rfl)
    have h' := h
    simp only [Bool.and_eq_true] at h'
    obtain ⟨hR, hFa⟩ := okM_yes h'.1
    obtain ⟨_, hFc⟩ := okM_yes h'.2
    obtain ⟨o1, o2, o3, o4⟩ := okR_yes hR
    have hll := adL_len a c r 0 (fitM_len hFa) (fitM_len hFc)
    have HLAST := Lib.hid (adL_last a c r 0 (fitM_len hFa) (fitM_len hFc) (by omega))
    obtain ⟨_, _, cy0, cy1, _, _⟩ := ad_val (l := a) (m := c) (r := r) 0 (by omega) (by omega) o3 hFa hFc
    obtain ⟨Q, hQ⟩ : ∃ Q, Q = adL 0 a c r := ⟨_, rfl⟩
    have HQ := Lib.hid (show sumL a c r = Q by rw [EL.out, hQ])
    rw [← hQ] at hll
    have HLQ := Lib.hid (show ∀ (g : r.length - 1 < Q.length), Q[r.length - 1] = adC 0 a c r from fun g => by subst hQ; exact HLAST.out g)
    clear h h' hR hFa hFc o3 o4 HLAST hQ EL
    go_enter Try.func36, Try.ntmps36
    go_wp2_with fail
    refine HS.out.mono ?_
    rintro e w1 ⟨v0, v1, rfl, hO0, hO1, hB1⟩
    rw [HQ.out] at hO1
    obtain ⟨ac, capc, rfl, hq1, hq2, hq3⟩ := (RowAt.of_owns hO1).ints
    unfold maxLen at hq2
    obtain ⟨m, hm⟩ : ∃ m, r.length = m + 1 := ⟨r.length - 1, by omega⟩
    have hmQ : m < Q.length := by omega
    obtain ⟨b1, off1, rfl, hbb1, hcell1⟩ := hq3.resolve_left (fun e => by rw [e] at hmQ; simp at hmQ)
    have hc1 := hcell1 m hmQ
    rw [show Q[m] = adC 0 a c r by have := HLQ.out (by omega); simpa [hm] using this] at hc1
    obtain ⟨cy, hcy⟩ : ∃ cy, cy = adC 0 a c r := ⟨_, rfl⟩
    have E2 := Lib.hid (show rMixedAdd1 a c r = cy by rw [E1.out, hcy])
    rw [← hcy] at hc1 cy0 cy1
    have HO := Lib.hid (show w1.ownsRow w.heap.size 3 1 v0 (rMixedAdd0 a c r).length (intsOf (rMixedAdd0 a c r)) by rw [E0.out]; exact hO0)
    obtain ⟨nQ, hnQ⟩ : ∃ nQ, nQ = Q.length := ⟨_, rfl⟩
    rw [← hnQ] at hll hq1
    rw [← hnQ]
    have hix : ((nQ : Int) - 1).toNat = m := by omega
    have hnm : nQ = m + 1 := by omega
    have hpos : (1 : Int) ≤ nQ := by omega
    clear hO0 hO1 hq3 hcell1 hm hmQ hcy hnQ hll
    go_wp2_with fail
    go_quiet (fail)
    go_wp2_with fail
    go_ret2
    exact ⟨_, by rw [E2.out]; rfl, HO.out, below_drewN hB1 _⟩

set_option maxHeartbeats 2000000 in
theorem implMixedCarries_any (va : Value) (a : List Int) (vc : Value) (c : List Int) (vr : Value) (r : List Int) (w : World) (hra : RowAt w va (intsOf a)) (hl : a.length ≤ 1048576) (hia : ∀ n ∈ a, in64 n) (hrc : RowAt w vc (intsOf c)) (hl' : c.length ≤ 1048576) (hic : ∀ n ∈ c, in64 n) (hrr : RowAt w vr (intsOf r)) (hlr : r.length ≤ 1048576) (hir : ∀ n ∈ r, in64 n) :
    Calls Try.prog 40 #[va, vc, vr] w fun e w' => e = .returned (.int .i64 (rMixedCarries0 a c r)) ∧ Below w.heap.size w w' := by
  have HS := Lib.hid (sum7_any va a vc c vr r w hra hrc hrr hlr)
  clear hra hrc hrr hia hic hir
  cases h : (okM a r && okM c r)
  · rw [show sumOk a c r = false from h] at HS
    have E1 := Lib.hid (show rMixedCarries0 a c r = -1 by rw [rMixedCarries0, h]; rfl)
    clear h
    go_enter Try.func40, Try.ntmps40
    go_wp2_with fail
    refine HS.out.mono ?_
    rintro e w1 ⟨v0, v1, rfl, hO0, hO1, hB1⟩
    clear hO0 hO1
    go_wp2_with fail
    go_ret
    exact ⟨by rw [E1.out]; rfl, hB1⟩
  · rw [show sumOk a c r = true from h] at HS
    have E1 := Lib.hid (show rMixedCarries0 a c r = (adL 0 a c r).sum by rw [rMixedCarries0, h, adL_sum]; rfl)
    have EL := Lib.hid (show sumL a c r = adL 0 a c r by rw [sumL, h]; rfl)
    have h' := h
    simp only [Bool.and_eq_true] at h'
    obtain ⟨hR, hFa⟩ := okM_yes h'.1
    obtain ⟨_, hFc⟩ := okM_yes h'.2
    obtain ⟨o1, o2, o3, o4⟩ := okR_yes hR
    have hll := adL_len a c r 0 (fitM_len hFa) (fitM_len hFc)
    have HBIT := Lib.hid (adL_bits (l := a) (m := c) (r := r) 0 (by omega) (by omega) o3 hFa hFc)
    obtain ⟨Q, hQ⟩ : ∃ Q, Q = adL 0 a c r := ⟨_, rfl⟩
    rw [← hQ] at hll HBIT E1 EL
    have hQ10 : Q.length ≤ 10 := by omega
    clear h h' hR hFa hFc o3 o4 hQ hll
    go_enter Try.func40, Try.ntmps40
    go_wp2_with fail
    refine HS.out.mono ?_
    rintro e w1 ⟨v0, v1, rfl, hO0, hO1, hB1⟩
    rw [EL.out] at hO1
    have HV := Lib.hid (values_any v1 Q w1 w1 (by omega) (fun d hd => by have := HBIT.out d hd; omega) (RowAt.of_owns hO1) (Below.refl _ _))
    obtain ⟨ac, capc, rfl, hq1, hq2, hq3⟩ := (RowAt.of_owns hO1).ints
    clear hO0 hO1 hq3
    go_wp2_with fail
    refine HV.out.mono ?_
    rintro e w2 ⟨rfl, hB2, hs2, hseq⟩
    have HSU := Lib.hid (sumVals_any _ _ Q w2 w1 (by omega) (by omega) hseq)
    have HS2 := Lib.hid hs2
    clear hseq hs2
    go_wp2_with fail
    refine HSU.out.mono ?_
    rintro e w3 ⟨rfl, hB3⟩
    go_wp2_with fail
    go_ret
    exact ⟨by rw [E1.out]; rfl, hB1.trans ((hB2.mono hB1.size).trans (hB3.mono (by have := hB1.size; have := hB2.size; omega)))⟩

end Go.Proofs.Ytiemhhkoegkleaa
