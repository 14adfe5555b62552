/- Long numbers: the program subtracts one number from another one. -/
import Derived.Test.YtdflpocnfodbhabLgMul
import Derived.Test.YtdflpocnfodbhabLgDiv
import Derived.Test.YtdflpocnfodbhabLgL
import Derived.Test.YtdflpocnfodbhabRfB
import Derived.Lib.SliceRun
import Derived.StillTailTactics
set_option linter.unusedVariables false
set_option linter.unusedSimpArgs false
set_option maxRecDepth 100000
namespace Go.Proofs.Ytdflpocnfodbhab
open Go.ChangeShapes Go.WideShapes Go.ChangeAt Go.RowKit

theorem add_addr (b off j : Nat) : (⟨b, off, none⟩ : Addr).add j = ⟨b, off + j, none⟩ := by
  unfold Addr.add; split <;> simp_all

set_option maxHeartbeats 2000000 in
theorem clone_any (v : Value) (l : List Int) (w : World) (hr : RowAt w v (intsOf l)) (hl : l.length ≤ 100000) :
    Calls Try.prog 88 #[v] w fun e w' => ∃ v', e = .returned v' ∧ w'.ownsRow w.heap.size 3 1 v' l.length (intsOf l) ∧ Below w.heap.size w w' := by
  obtain ⟨a, cap, rfl, h1, h2, h3⟩ := hr.ints
  unfold maxLen at h2
  obtain ⟨i0, hi, hz0, hz1, hz2⟩ := info_parts infoInt
  cases a with
  | none =>
    have hnil : l = [] := h3.resolve_right (fun ⟨_, _, e, _⟩ => by cases e)
    subst hnil
    have q1 := Lib.run_eql_slice_nil (P := Try.prog) w 39 3 none 0 cap 0 0 Try.underlying39
    clear h3 hr
    go_enter Try.func88, Try.ntmps88
    go_wp2_with fail
    go_ret
    exact ⟨_, rfl, World.ownsRow_nil _ _ _ _, Below.refl _ _⟩
  | some x =>
    have hlit := World.ownsRow_lit (base := w.heap.size) (e := 3) (size := 1) w #[] 0 (Nat.le_refl _) (by decide) rfl
    have HCL := Lib.hid (show ∀ (i : Nat) (u : Value), (intsOf l)[i]? = some u → (w.alloc (.cells #[] 3)).cell? (x.add i) = some u from fun i u hu => by
      have hil : i < l.length := by
        have := (List.getElem?_eq_some_iff.1 hu).1
        simpa [intsOf] using this
      obtain ⟨b, off, e, hb, hcell⟩ := h3.resolve_left (fun e => by rw [e] at hil; simp at hil)
      injection e with e
      subst e
      rw [add_addr, ((Below.refl _ w).alloc (Nat.le_refl _) (.cells #[] 3)).cell (p := ⟨b, off + i, none⟩) hb, hcell i hil]
      rw [intsOf_get hil] at hu
      exact hu)
    have q1 := Lib.run_eql_slice_nil (P := Try.prog) w 39 3 (some x) l.length cap 0 0 Try.underlying39
    clear h3 hr
    go_enter Try.func88, Try.ntmps88
    go_wp2_with (at_builtin; refine wpList_append_own _ rfl _ _ 39 rfl w.heap.size 3 i0 (.int .i64 0) 1 8 Try.underlying39 hi hz0 hz1 hz2 rfl (by decide) _ _ _ rfl hlit x l.length cap (intsOf l) rfl ?e0 ?e1 ?e2 ?e3 ?e4 ?e5 ?_)
    case e0 => simp [intsOf]
    case e1 => exact HCL.out
    case e2 => exact intsOf_one _
    case e3 => unfold maxLen; omega
    case e4 => omega
    intro v' w1 hown' hgrow _
    have hB1 : Below w.heap.size w w1 := ((Below.refl w.heap.size w).alloc (Nat.le_refl _) (.cells #[] 3)).grown hgrow (by simp) (fun k hk => by simp [Value.ownBlock] at hk; omega)
    have HO := Lib.hid (show w1.ownsRow w.heap.size 3 1 v' l.length (intsOf l) by simpa [intsOf] using hown')
    clear hown' hgrow
    go_wp2_with fail
    go_ret
    exact ⟨_, rfl, HO.out, hB1⟩

theorem sub_fill (o a : List Int) (x : Int) (h : o.length < a.length) : (o ++ a.drop o.length).set o.length x = (o ++ [x]) ++ a.drop (o ++ [x]).length := by
  rw [List.set_append_right _ _ (Nat.le_refl _), Nat.sub_self, List.drop_eq_getElem_cons h, List.set_cons_zero, List.length_append, List.length_singleton]
  simp
theorem sub_get (o a : List Int) (h : o.length < a.length) : (o ++ a.drop o.length)[o.length]? = some (at0 a o.length) := by
  rw [List.getElem?_append_right (Nat.le_refl _), Nat.sub_self, List.drop_eq_getElem_cons h, at0_lt h]; rfl

set_option maxRecDepth 100000 in
set_option maxHeartbeats 4000000 in
theorem implMinus_any (va vc : Value) (a c : List Int) (b : Nat) (w : World) (hb : 2 ≤ b) (hb16 : b ≤ 16) (ha : Nrm b a) (hc : Nrm b c) (hle : vl b c ≤ vl b a) (hra : RowAt w va (intsOf a)) (hrc : RowAt w vc (intsOf c)) (hl : a.length ≤ 100000) :
    Calls Try.prog 80 #[va, vc, .int .i64 b] w fun e w' => ∃ v, e = .returned v ∧ w'.ownsRow w.heap.size 3 1 v (dg b (vl b a - vl b c)).length (intsOf (dg b (vl b a - vl b c))) ∧ Below w.heap.size w w' := by
  have hlen : c.length ≤ a.length := by
    rcases Nat.lt_or_ge a.length c.length with h | h
    · have := lt_of_len hb ha hc h; omega
    · exact h
  have HRC := Lib.hid hrc
  have HCL := Lib.hid (clone_any va a w hra hl)
  obtain ⟨aa, cap, rfl, h1, h2, h3⟩ := hra.ints
  obtain ⟨ac, cap', rfl, h1', h2', h3'⟩ := hrc.ints
  obtain ⟨S, hS⟩ : ∃ S : Int, S = hv b a - hv b c := ⟨_, rfl⟩
  have hSv : S.toNat = vl b a - vl b c ∧ 0 ≤ S := by
    have e1 := vl_cast ha.1; have e2 := vl_cast hc.1; omega
  have HSV := Lib.hid hSv
  have HS := Lib.hid hS
  have HA := Lib.hid ha; have HC := Lib.hid hc
  obtain ⟨n, hn⟩ : ∃ n, n = a.length := ⟨_, rfl⟩
  have HN := Lib.hid hn
  clear h3 h3' hra hrc hS hSv ha hc
  unfold maxLen at h2 h2'
  have hbp : (0 : Int) < b := by omega
  go_enter Try.func80, Try.ntmps80
  go_wp2_with fail
  refine HCL.out.mono ?_
  rintro e w1 ⟨v1, rfl, ho1, hB1⟩
  obtain ⟨ar, capr, rfl, hr1, hr2⟩ := owns_form ho1
  rw [← hn] at ho1 hr1 ⊢
  rw [← hn] at hl
  clear hn
  unfold maxLen at hr2
  have HO1 := Lib.hid ho1
  clear ho1 hle
  go_wp2_with fail
  go_loopw [8, 14] (fun cy i wr => ∃ (k : Nat) (o : List Int) (y : Int), o.length = k ∧ k ≤ n ∧ i = .int .i64 k ∧ cy = .int .i64 y ∧ 0 ≤ y ∧ y ≤ 1 ∧ AllD b o ∧ S = hv b o + (b : Int) ^ k * (hv b (a.drop k) - hv b (c.drop k) - y) ∧ wr.ownsRow w.heap.size 3 1 (.slice ar n capr) n (intsOf (o ++ a.drop o.length)) ∧ Below w.heap.size w wr)
    (fun _ i _ => n - (intOf i).toNat)
  case atStart =>
    refine ⟨0, [], 0, rfl, Nat.zero_le _, rfl, rfl, by omega, by omega, fun d hd => by simp at hd, ?_, by simpa using HO1.out, hB1⟩
    rw [HS.out]; simp [hv_nil]
  case round =>
    obtain ⟨k, o, y, hok, hk, rfl, rfl, hy0, hy1, hA, hE, hown, hB⟩ := hrel
    subst hok
    have hsz := hB.size
    clear hB1 HO1
    by_cases hlt : o.length < n
    · have hla : o.length < a.length := by have := HN.out; omega
      obtain ⟨g, cg, e⟩ := owns_some hown (fun e => by injection e with _ e; omega)
      injection e with e1 e2 e3
      subst e1
      subst e3
      have ra := at0_range hb HA.out.1 o.length
      have rc := at0_range hb HC.out.1 o.length
      obtain ⟨p, hp⟩ : ∃ p, p = at0 a o.length := ⟨_, rfl⟩
      obtain ⟨q, hq⟩ : ∃ q, q = at0 c o.length := ⟨_, rfl⟩
      have hgb : w.heap.size ≤ g := (hown.lt g rfl).1
      have hcp : wr.cell? ⟨g, o.length, none⟩ = some (.int .i64 p) := by
        rw [hown.cellAt o.length (by omega)]
        have := sub_get o a hla
        rw [← hp] at this
        simp only [intsOf, List.getElem?_map, this]; rfl
      have hfp : wr.frozen? ⟨g, o.length, none⟩ = false := hown.frozenAt o.length
      rw [← hp] at ra
      rw [← hq] at rc
      have hpa := hv_at b a o.length
      have hqc := hv_at b c o.length
      rw [← hp] at hpa
      rw [← hq] at hqc
      have HQC := Lib.hid (fun n => implAt_q (.slice ac c.length cap') c o.length wr n (HRC.out.below hB) (by have := HN.out; omega) (by omega))
      rw [← hq] at HQC
      have hlt' : (o.length : Int) < n := by omega
      clear hp hq
      by_cases hneg : p - (q + y) < 0
      · have hstep := sub_step (b := b) hE hpa hqc (show p - (q + y) + b = p - q - y + b * 1 by omega)
        have HST := Lib.hid (show S = hv b (o ++ [p - (q + y) + b]) + (b : Int) ^ (o.length + 1) * (hv b (a.drop (o.length + 1)) - hv b (c.drop (o.length + 1)) - 1) by rw [hv_snoc]; exact hstep)
        have HAD := Lib.hid (allD_snoc hA (show 0 ≤ p - (q + y) + b by omega) (by omega))
        have hs1 := (hown.stored o.length (.int .i64 (p - (q + y)))).1
        have hs2 := (hs1.stored o.length (.int .i64 (p - (q + y) + b))).1
        rw [intsOf_set, intsOf_set, List.set_set, sub_fill o a _ hla] at hs2
        have HS2 := Lib.hid hs2
        clear hstep hE hA hpa hqc hs1 hs2 hown
        go_wp2_with fail
        refine wp_region_still_tail 11 (by kernel_rfl) (by kernel_rfl) ?_
        simp only [List.take_succ_cons, List.take_zero, List.drop_succ_cons, List.drop_zero]
        repeat (first | still_step | still_call (HQC.out 1))
        refine wpStill_nil ?_
        change wpList _ _ _ _ _ (wr.drewN 1)
        go_wp2_with fail
        go_roundw
        case rel => exact ⟨o.length + 1, o ++ [p - (q + y) + b], 1, by simp, by omega, by go_num, rfl, by omega, by omega, HAD.out, HST.out, HS2.out, ((below_drewN hB 1).setCell (p := ⟨g, o.length, none⟩) hgb _).setCell (p := ⟨g, o.length, none⟩) hgb _⟩
        case measure => simp [intOf]; omega
      · have hstep := sub_step (b := b) (bw' := 0) hE hpa hqc (show p - (q + y) = p - q - y + b * 0 by omega)
        have HST := Lib.hid (show S = hv b (o ++ [p - (q + y)]) + (b : Int) ^ (o.length + 1) * (hv b (a.drop (o.length + 1)) - hv b (c.drop (o.length + 1)) - 0) by rw [hv_snoc]; exact hstep)
        have HAD := Lib.hid (allD_snoc hA (show 0 ≤ p - (q + y) by omega) (by omega))
        have hs1 := (hown.stored o.length (.int .i64 (p - (q + y)))).1
        rw [intsOf_set, sub_fill o a _ hla] at hs1
        have HS1 := Lib.hid hs1
        clear hstep hE hA hpa hqc hs1 hown
        go_wp2_with fail
        refine wp_region_still_tail 11 (by kernel_rfl) (by kernel_rfl) ?_
        simp only [List.take_succ_cons, List.take_zero, List.drop_succ_cons, List.drop_zero]
        repeat (first | still_step | still_call (HQC.out 1))
        refine wpStill_nil ?_
        change wpList _ _ _ _ _ (wr.drewN 1)
        go_wp2_with fail
        go_roundw
        case rel => exact ⟨o.length + 1, o ++ [p - (q + y)], 0, by simp, by omega, by go_num, rfl, by omega, by omega, HAD.out, HST.out, HS1.out, (below_drewN hB 1).setCell (p := ⟨g, o.length, none⟩) hgb _⟩
        case measure => simp [intOf]; omega
    · have hka : o.length = n := by omega
      have hkl : a.length ≤ o.length := by have := HN.out; omega
      rw [List.drop_of_length_le hkl, List.drop_of_length_le (by omega), hv_nil] at hE
      have hy : y = 0 := by
        by_cases h0 : y = 0
        · exact h0
        · have e1 : y = 1 := by omega
          have h1 := hv_lt hb hA
          have h2 := HSV.out.2
          subst e1
          rw [show (0 : Int) - 0 - 1 = -1 by omega, Int.mul_neg, Int.mul_one] at hE
          omega
      subst hy
      have hV : vl b o = vl b a - vl b c := by
        rw [← HSV.out.1, hE]; unfold vl; simp
      rw [List.drop_of_length_le hkl, List.append_nil] at hown
      have HC2 := Lib.hid (implTrim_own _ o b w.heap.size wr hb hA (by rw [hka]; exact hown) (by omega))
      rw [hV] at HC2
      clear hV hE hA hown hkl
      go_wp2_with fail
      refine HC2.out.mono ?_
      rintro e w' ⟨v', rfl, ho, rfl⟩
      have HO := Lib.hid ho
      clear ho
      go_wp2_with fail
      go_ret
      exact ⟨_, rfl, HO.out, hB⟩

end Go.Proofs.Ytdflpocnfodbhab
