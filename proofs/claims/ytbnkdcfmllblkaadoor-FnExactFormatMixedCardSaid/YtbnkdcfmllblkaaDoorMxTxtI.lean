/- Mixed places: the program's texts. -/
import Derived.Test.YtbnkdcfmllblkaaDoorInts
import Derived.Test.YtbnkdcfmllblkaaDoorLgSpec
import Derived.Test.YtbnkdcfmllblkaaDoorLgMul
import Derived.Test.YtbnkdcfmllblkaaDoorMxTxt
import Derived.Test.YtbnkdcfmllblkaaDoorJoinI
import Derived.Test.YtbnkdcfmllblkaaDoorParse
import Derived.Test.YtbnkdcfmllblkaaDoorMxBack
import Derived.Test.YtbnkdcfmllblkaaDoorSplit2
import Derived.Stop.RegionWithIn
set_option linter.unusedVariables false
set_option linter.unusedSimpArgs false
namespace Go.Proofs.YtbnkdcfmllblkaaDoor
open Go.ChangeShapes Go.WideShapes Go.ChangeAt Go.RowKit

attribute [local go_sem] Oper.semAt_some wide_fn wide_depth

/-- a list of texts that grows, in a variable's own box; it lies in block b or above R -/
def PartsV (R b : Nat) (v : Value) (xs : List ByteArray) (w : World) : Prop :=
  b + 1 < R ∧ w.heap[b + 1]? = some (.cells #[v] 32 (0, 0)) ∧ w.ownsRow b 9 1 v xs.length (strsOf xs) ∧ ∀ k, v.ownBlock = some k → k = b ∨ R ≤ k
def PartsR (R b : Nat) (xs : List ByteArray) (w : World) : Prop := ∃ v, PartsV R b v xs w
theorem PartsV.below {R b : Nat} {v : Value} {xs : List ByteArray} {w w' : World} (h : PartsV R b v xs w) (hb : Below w.heap.size w w') : PartsV R b v xs w' := by
  obtain ⟨h1, h2, h3, h4⟩ := h
  exact ⟨h1, by rw [hb.block _ (heap_lt_of_some h2)]; exact h2, owns_below h3 hb, h4⟩
theorem PartsR.kept {R b : Nat} {xs : List ByteArray} {w w' : World} {row : Option Nat} (h : PartsR R b xs w) (hg : w.grownBy w' row) (hr : ∀ r, row = some r → ∃ o : Obj, w.heap[r]? = some o ∧ o.isCells = false) : PartsR R b xs w' := by
  obtain ⟨v, h1, h2, h3, h4⟩ := h
  refine ⟨v, h1, (grownBy_keeps_cells hg hr h2 rfl).trans h2, h3.kept hg ?_, h4⟩
  rcases h3.2 with ⟨rfl, _⟩ | ⟨g, cap, cur, rfl, _, hgb, _⟩
  · exact .inl rfl
  · refine .inr fun e' => ?_
    obtain ⟨o, ho, hc⟩ := hr g (by simpa [Value.ownBlock] using e'.symm)
    rw [hgb] at ho; cases ho; cases hc
/-- one text more -/
theorem parts_step {R b : Nat} {v : Value} {xs : List ByteArray} {w : World} (h : PartsV R b v xs w) (hR : R ≤ w.heap.size) (hn : xs.length ≤ 1000) (X : ByteArray) :
    ∃ v' w4, (Builtin.append_ #[32, 32] 32 #[v, .slice (some ⟨w.heap.size, 0, none⟩) 1 1]).run Tryd.prog (w.alloc (.cells #[.string X] 9)) = .ok v' w4 ∧
      w4.cell? ⟨b + 1, 0, none⟩ = some v ∧ w4.frozen? ⟨b + 1, 0, none⟩ = false ∧ PartsV R b v' (xs ++ [X]) (w4.setCell ⟨b + 1, 0, none⟩ v') ∧ Below b w (w4.setCell ⟨b + 1, 0, none⟩ v') ∧ ∀ A m, b + 1 < A → A + m ≤ R → Area A m w (w4.setCell ⟨b + 1, 0, none⟩ v') := by
  obtain ⟨i0, hi, hz0, hz1, hz2⟩ := info_parts infoStr
  obtain ⟨h1, h2, h3, h4⟩ := h
  have hbl := heap_lt_of_some h2
  obtain ⟨v', w4, hrun, ho, hg, _, hat⟩ := run_append_own_at (P := Tryd.prog) _ b 32 32 9 i0 (.string ⟨#[]⟩) 1 16 Tryd.underlying32 hi hz0 hz1 hz2 rfl (by decide) v xs.length (strsOf xs) (h3.alloc (.cells #[.string X] 9)) ⟨w.heap.size, 0, none⟩ 1 1 [.string X] rfl (one_cell _ _ _) (by intro u hu; simp at hu; subst hu; rfl) (by unfold maxLen; omega) (by omega) (by simp; omega)
  have hsz := hg.size
  rw [World.size_alloc] at hsz
  have hne : some (b + 1) ≠ v.ownBlock := fun e => by rcases h4 _ e.symm with h | h <;> omega
  have hbox : w4.heap[b + 1]? = some (.cells #[v] 32 (0, 0)) := by
    rw [hg.block (b + 1) (by simp; omega) hne, Below.heap_alloc w _ (b + 1) (by omega)]; exact h2
  have hv' : ∀ k, v'.ownBlock = some k → k = b ∨ R ≤ k := fun k hk => by
    rcases hat with e | e
    · rw [e] at hk; exact h4 k hk
    · rw [e] at hk; right; simp at hk; omega
  have hset : ∀ k, k ≠ b + 1 → (w4.setCell ⟨b + 1, 0, none⟩ v').heap[k]? = w4.heap[k]? := fun k hk => heap_setCell_other _ _ _ _ hk
  have hblk : ∀ k, k < w.heap.size → k ≠ b + 1 → some k ≠ v.ownBlock → (w4.setCell ⟨b + 1, 0, none⟩ v').heap[k]? = w.heap[k]? := fun k hk h5 h6 => by
    rw [hset k h5, hg.block k (by simp; omega) h6, Below.heap_alloc w _ k (by omega)]
  refine ⟨v', w4, hrun, ?_, ?_, ⟨h1, ?_, ?_, hv'⟩, ⟨?_, ?_, ?_, ?_, ?_⟩, ?_⟩
  · rw [cell_of_row w4 (b + 1) 0 _ _ _ hbox]; rfl
  · simp [World.frozen?, hbox]
  · rw [heap_setCell_same w4 (b + 1) 0 _ _ _ hbox]; rfl
  · have ho' : w4.ownsRow b 9 1 v' (xs ++ [X]).length (strsOf (xs ++ [X])) := by simpa [strsOf] using ho
    refine owns_setOffM ho' ⟨b + 1, 0, none⟩ v' (fun e => ?_)
    have e' : v'.ownBlock = some (b + 1) := e
    rcases hv' _ e' with h | h <;> omega
  · exact hg.os
  · exact hg.tape
  · exact hg.output
  · simp; omega
  · intro k hk
    refine hblk k (by omega) (by omega) (fun e => ?_)
    rcases h4 _ e.symm with h | h <;> omega
  · intro A m hA hm k hk1 hk2
    refine hblk k (by omega) (by omega) (fun e => ?_)
    rcases h4 _ e.symm with h | h <;> omega

/-- an append that comes up in a region that draws its order, by its run -/
theorem ready_append {F : Fence} {n : Nat} {P : Program} {ops : Array Oper} {o : Oper} {a : Act} {w w' : World} {K : Act → World → Prop} {Q : Exit → Act → World → Prop} {X : Prop} (hw : Region.wanted o (yielded ops a.tmps) = true) (sl x : Operand) (t : TypeId)
    (ho : o.op = .call { callee := .builtin .append, args := #[sl, x], argTypes := #[t, t] }) (v u v' : Value) (hs : a.eval sl = v) (hx : a.eval x = u) (hrun : (Builtin.append_ #[t, t] o.type #[v, u]).run P w = .ok v' w') (h : K (a.put o.dst v') w') :
    if Region.wanted o (yielded ops a.tmps) then o.wpIn F n P a w K Q else X := by
  rw [if_pos hw]
  unfold Oper.wpIn
  refine ⟨by simp [Oper.about, ho, resolve, Target.leads, Sem.run_pure], ?_⟩
  rw [Oper.semAt_plain F _ _ (by rw [ho]; intro c hc'; cases hc')]
  simp [execOp, ho, resolve, invoke, builtin, hs, hx, hrun, Result.andThen]
  exact h

def txM (pre : List DigM) : List ByteArray := pre.map fun x => itoaB x.1
theorem txM_snoc (pre : List DigM) (x : DigM) : txM (pre ++ [x]) = txM pre ++ [itoaB x.1] := by
  simp only [txM, List.map_append, List.map_cons, List.map_nil]
theorem txM_all {ys : List DigM} {l : List Int} (h : ys.map Subtype.val = l.reverse) : txM ys = fmtL l := by
  rw [fmtL, ← h, List.map_map]; rfl
theorem last_entersM : ∀ args w, (callFunc 26 args).run Tryd.prog w = .ok (.enter 26 args) w :=
  enters_of Tryd.func26 (by kernel_rfl) rfl

set_option maxRecDepth 100000 in
set_option maxHeartbeats 4000000 in
theorem implFormatMixed_any (v : Value) (l : List Int) (w : World) (hr : RowAt w v (intsOf l)) (hl : l.length ≤ 1048577) (ht : Tab w) :
    Calls Tryd.prog 7 #[v] w fun e w' => e = .returned (.string (rFormatMixed0 l)) ∧ Below w.heap.size w w' := by
  have HC := Lib.hid (listWithin_any v l 0 59 w hr hl)
  have HR := Lib.hid hr
  obtain ⟨a, cap, rfl, h1, h2, h3⟩ := hr.ints
  clear h3 hr
  cases h : lwIn l 0 59
  · rw [h] at HC
    have HX := Lib.hid (show rFormatMixed0 l = bs [] by rw [rFormatMixed0, h]; rfl)
    clear h
    go_enter Tryd.func7, Tryd.ntmps7
    go_wp2_with (go_at_call 17; refine HC.out.mono ?_; rintro e w1 ⟨rfl, rfl⟩)
    go_ret
    exact ⟨by rw [HX.out]; rfl, Below.refl _ _⟩
  · rw [h] at HC
    obtain ⟨n1, n10, hd⟩ := lwIn_yes h
    have HX := Lib.hid (show rFormatMixed0 l = bs (jn colon (fmtL l) (fmtL l).length) by rw [rFormatMixed0, h]; rfl)
    have HD := Lib.hid hd
    have HSM := Lib.hid (fmtL_small hd)
    have HTB := Lib.hid ht
    clear h hd ht
    have hBA : Below w.heap.size w ((w.alloc (.cells #[] 9)).alloc (.cells #[.slice (some ⟨w.heap.size, 0, none⟩) 0 0] 32)) := ((Below.refl _ _).alloc (Nat.le_refl _) _).alloc (by simp) _
    have HBA := Lib.hid hBA
    clear hBA
    refine (callsIn_wide (n := 0)).1 ?_
    refine callsIn_of_wp_marks Tryd.func7 rfl trivial ?_ rfl
    simp only [Tryd.ntmps7, List.size_toArray, List.length_cons, List.length_nil, Nat.reduceAdd, Nat.reduceSub, Array.replicate_succ, Array.replicate_zero, List.push_toArray, List.append_toArray, List.nil_append, List.cons_append]
    gi_wp2_with (first | (gi_at_call 17; refine (callsIn_wide.2 HC.out).mono ?_; rintro e w1 ⟨rfl, rfl⟩) | (gi_at_call 18; refine (callsIn_wide.2 (last_anyM _ l _ w (by omega) HD.out HR.out HBA.out)).mono ?_; rintro e w1 ⟨rfl, hB1, hs1, hseq⟩; have HS1 := Lib.hid hs1; have HQ := Lib.hid hseq; clear hs1 hseq))
    have hs1 := HS1.out
    rw [World.size_alloc, World.size_alloc] at hs1
    have hw1 : w.heap.size + 3 = w1.heap.size := by omega
    have HW1 := Lib.hid hw1
    have hB0 : Below w.heap.size w w1 := HBA.out.trans (hB1.mono (by simp; omega))
    have hI0 : PartsR (w1.heap.size + 6) w.heap.size [] w1 := by
      refine ⟨.slice (some ⟨w.heap.size, 0, none⟩) 0 0, by omega, ?_, ?_, fun k hk => .inl (by simpa [Value.ownBlock] using hk.symm)⟩
      · rw [hB1.block _ (by simp)]
        have := World.alloc_heap_new (w.alloc (.cells #[] 9)) (.cells #[.slice (some ⟨w.heap.size, 0, none⟩) 0 0] 32)
        rwa [World.size_alloc] at this
      · have := World.ownsRow_lit (base := w.heap.size) (e := 9) (size := 1) w #[] 0 (Nat.le_refl _) (by decide) rfl
        have h2 := owns_below (this.alloc (.cells #[.slice (some ⟨w.heap.size, 0, none⟩) 0 0] 32)) hB1
        exact h2
    have hq := HQ.out
    rw [World.size_alloc, World.size_alloc] at hq
    clear hs1 hB1
    refine rangeW (gf := 26) (lb := #[.pointer (some ⟨w.heap.size + 1 + 1, 0, none⟩)]) rfl last_entersM hq Below.trans (below_kb (by omega)) (Below.refl _ _) (fun _ => rfl)
      (fun pre W => PartsR (w1.heap.size + 6) w.heap.size (txM pre) W ∧ Below w.heap.size w W) (fun _ _ _ => False)
      (OwnFrom.and (Own.from (fun s A C row hs hg hr => hs.kept hg hr) _) (ownFrom_below (Nat.le_refl _) (by omega))) (fun _ _ _ _ _ hs _ _ => hs) ⟨hI0, hB0⟩
      (fun x => { tmps := #[.slice a l.length cap, undef, .string ⟨#[]⟩, .pointer (some ⟨w.heap.size + 1, 0, none⟩), .int .i64 x.1, .slice a l.length cap, .bool true, .bool false, .slice (some ⟨w.heap.size, 0, none⟩) 0 0, .slice a l.length cap, .func (.func 26) #[] #[.pointer (some ⟨w.heap.size + 1 + 1, 0, none⟩)], .int .i64 x.1, undef, undef, undef, undef, undef, undef, undef], defers := [] }) ?assign ?body ?done ?stop
    case assign =>
      intro q x W K hK
      gi_wp2
      exact hK
    case body =>
      rintro q pre x W ⟨⟨v, hP⟩, hB⟩ hlen hsz hbk
      have hx := x.2
      have HS := Lib.hid (txM_snoc pre x)
      have hpl : (txM pre).length ≤ 1000 := by simp only [txM, List.length_map]; omega
      have HF := Lib.hid (fun W' (hW : Below W.heap.size W W') => implFormat_any x.1 W' (by omega) (by omega) (HTB.out.below (hB.trans (hW.mono hB.size))))
      obtain ⟨d, hde⟩ : ∃ d, d = x.1 := ⟨_, rfl⟩
      obtain ⟨X, hX⟩ : ∃ X, X = itoaB d := ⟨_, rfl⟩
      rw [← hde] at HF HS ⊢
      rw [show bs (Lib.itoa d) = X from hX.symm] at HF
      rw [← hX] at HS
      have HP := Lib.hid hP
      have c0 : W.cell? ⟨w.heap.size + 1, 0, none⟩ = some v := by rw [cell_of_row W _ 0 _ _ _ hP.2.1]; rfl
      have HSZ := Lib.hid hsz
      have HB := Lib.hid hB
      clear hP hx hde hX hB
      gi_wp2_with fail
      have FIN := fun (v' : Value) (w4 W3 : World) (HB3 : Below W.heap.size W W3) (H4 : PartsV (w1.heap.size + 6) w.heap.size v' (txM pre ++ [X]) (w4.setCell ⟨w.heap.size + 1, 0, none⟩ v') ∧ Below w.heap.size W3 (w4.setCell ⟨w.heap.size + 1, 0, none⟩ v') ∧ ∀ A m, w.heap.size + 1 < A → A + m ≤ w1.heap.size + 6 → Area A m W3 (w4.setCell ⟨w.heap.size + 1, 0, none⟩ v')) => show Area w1.heap.size 6 W (w4.setCell ⟨w.heap.size + 1, 0, none⟩ v') ∧ Below w.heap.size W (w4.setCell ⟨w.heap.size + 1, 0, none⟩ v') ∧ PartsR (w1.heap.size + 6) w.heap.size (txM (pre ++ [x])) (w4.setCell ⟨w.heap.size + 1, 0, none⟩ v') ∧ Below w.heap.size w (w4.setCell ⟨w.heap.size + 1, 0, none⟩ v') by
        obtain ⟨hP4, hB4, hA4⟩ := H4
        refine ⟨?_, (HB3.mono (by have := HSZ.out; omega)).trans hB4, ⟨_, by rw [HS.out]; exact hP4⟩, HB.out.trans ((HB3.mono HB.out.size).trans hB4)⟩
        intro k hk1 hk2
        rw [hA4 w1.heap.size 6 (by omega) (by omega) k (by omega) (by omega)]
        exact HB3.block k (by have := HSZ.out; omega)
      have FIN := Lib.hid FIN
      refine wpIn_region_any (by kernel_rfl) ?_
      change wpAnyIn _ _ _ _ _ _ _ _ _ (World.drew _)
      refine wpAnyIn_ready (rs := [0, 1]) (by kernel_rfl) (by simp) ?_
      refine AllReadyIn.cons rfl (fun K hK => ?_) (AllReadyIn.cons rfl (fun K hK => ?_) AllReadyIn.nil)
      · go_simp
        refine hK _ _ ?_
        clear hK K
        refine wpAnyIn_ready (rs := [1]) (by kernel_rfl) (by simp) ?_
        refine AllReadyIn.cons rfl (fun K hK => ?_) AllReadyIn.nil
        go_simp
        refine hK _ _ ?_
        clear hK K
        refine wpAnyIn_ready (rs := [2]) (by kernel_rfl) (by simp) ?_
        refine AllReadyIn.cons rfl (fun K hK => ?_) AllReadyIn.nil
        go_simp
        gi_wp2_with (gi_at_call 19; refine (CallsIn.inRound q (callsIn_wide.2 (HF.out _ (below_drewN (Below.refl _ _) 1)))).mono ?_; rintro e W3 ⟨rfl, hb3⟩; (have hb3' : Below W.heap.size W W3 := ⟨hb3.os, hb3.tape, hb3.output, hb3.size, hb3.block⟩); (have HP3 := Lib.hid (HP.out.below hb3')); (have c3 : W3.cell? ⟨w.heap.size + 1, 0, none⟩ = some v := by rw [cell_of_row W3 _ 0 _ _ _ HP3.out.2.1]; rfl); obtain ⟨v', w4, hrun, c4, f4, hP4, hB4, hA4⟩ := parts_step HP3.out (by have := HSZ.out; have := hb3'.size; omega) hpl X; obtain ⟨av, cv, ev, _, _⟩ := owns_form hP4.2.2.1; obtain ⟨ln, hln⟩ : ∃ ln, ln = (txM pre ++ [X]).length := ⟨_, rfl⟩; rw [← hln] at ev; subst ev; clear hln; (have c5 : (W3.alloc (.cells #[.string X] 9)).cell? ⟨w.heap.size + 1, 0, none⟩ = some v := by rw [((Below.refl _ W3).alloc (Nat.le_refl _) (.cells #[.string X] 9)).cell (p := ⟨w.heap.size + 1, 0, none⟩) (heap_lt_of_some HP3.out.2.1)]; exact c3); have H4 := Lib.hid (And.intro hP4 (And.intro hB4 hA4)); have HB3 := Lib.hid hb3'; have HRUN := Lib.hid hrun; clear hP4 hB4 hA4 hb3 hb3' hrun)
        refine wpAnyIn_ready (rs := [3]) (by kernel_rfl) (by simp) ?_
        refine AllReadyIn.cons rfl (fun K hK => ?_) AllReadyIn.nil
        go_simp
        refine hK _ _ ?_
        clear hK K
        refine wpAnyIn_ready (rs := [4]) (by kernel_rfl) (by simp) ?_
        refine AllReadyIn.cons rfl (fun K hK => ?_) AllReadyIn.nil
        refine ready_append rfl _ _ 32 rfl _ _ _ rfl rfl HRUN.out ?_
        refine hK _ _ ?_
        clear hK K
        refine wpAnyIn_ready (rs := [5]) (by kernel_rfl) (by simp) ?_
        refine AllReadyIn.cons rfl (fun K hK => ?_) AllReadyIn.nil
        go_simp
        refine hK _ _ ?_
        clear hK K
        refine wpAnyIn_done (by kernel_rfl) ?_ _
        exact FIN.out _ w4 W3 HB3.out H4.out
      · go_simp
        refine hK _ _ ?_
        clear hK K
        refine wpAnyIn_ready (rs := [0, 2]) (by kernel_rfl) (by simp) ?_
        refine AllReadyIn.cons rfl (fun K hK => ?_) (AllReadyIn.cons rfl (fun K hK => ?_) AllReadyIn.nil)
        · go_simp
          refine hK _ _ ?_
          clear hK K
          refine wpAnyIn_ready (rs := [2]) (by kernel_rfl) (by simp) ?_
          refine AllReadyIn.cons rfl (fun K hK => ?_) AllReadyIn.nil
          go_simp
          gi_wp2_with (gi_at_call 19; refine (CallsIn.inRound q (callsIn_wide.2 (HF.out _ (below_drewN (Below.refl _ _) 1)))).mono ?_; rintro e W3 ⟨rfl, hb3⟩; (have hb3' : Below W.heap.size W W3 := ⟨hb3.os, hb3.tape, hb3.output, hb3.size, hb3.block⟩); (have HP3 := Lib.hid (HP.out.below hb3')); (have c3 : W3.cell? ⟨w.heap.size + 1, 0, none⟩ = some v := by rw [cell_of_row W3 _ 0 _ _ _ HP3.out.2.1]; rfl); obtain ⟨v', w4, hrun, c4, f4, hP4, hB4, hA4⟩ := parts_step HP3.out (by have := HSZ.out; have := hb3'.size; omega) hpl X; obtain ⟨av, cv, ev, _, _⟩ := owns_form hP4.2.2.1; obtain ⟨ln, hln⟩ : ∃ ln, ln = (txM pre ++ [X]).length := ⟨_, rfl⟩; rw [← hln] at ev; subst ev; clear hln; (have c5 : (W3.alloc (.cells #[.string X] 9)).cell? ⟨w.heap.size + 1, 0, none⟩ = some v := by rw [((Below.refl _ W3).alloc (Nat.le_refl _) (.cells #[.string X] 9)).cell (p := ⟨w.heap.size + 1, 0, none⟩) (heap_lt_of_some HP3.out.2.1)]; exact c3); have H4 := Lib.hid (And.intro hP4 (And.intro hB4 hA4)); have HB3 := Lib.hid hb3'; have HRUN := Lib.hid hrun; clear hP4 hB4 hA4 hb3 hb3' hrun)
          refine wpAnyIn_ready (rs := [3]) (by kernel_rfl) (by simp) ?_
          refine AllReadyIn.cons rfl (fun K hK => ?_) AllReadyIn.nil
          go_simp
          refine hK _ _ ?_
          clear hK K
          refine wpAnyIn_ready (rs := [4]) (by kernel_rfl) (by simp) ?_
          refine AllReadyIn.cons rfl (fun K hK => ?_) AllReadyIn.nil
          refine ready_append rfl _ _ 32 rfl _ _ _ rfl rfl HRUN.out ?_
          refine hK _ _ ?_
          clear hK K
          refine wpAnyIn_ready (rs := [5]) (by kernel_rfl) (by simp) ?_
          refine AllReadyIn.cons rfl (fun K hK => ?_) AllReadyIn.nil
          go_simp
          refine hK _ _ ?_
          clear hK K
          refine wpAnyIn_done (by kernel_rfl) ?_ _
          exact FIN.out _ w4 W3 HB3.out H4.out
        · go_simp
          gi_wp2_with (gi_at_call 19; refine (CallsIn.inRound q (callsIn_wide.2 (HF.out _ (below_drewN (Below.refl _ _) 1)))).mono ?_; rintro e W3 ⟨rfl, hb3⟩; (have hb3' : Below W.heap.size W W3 := ⟨hb3.os, hb3.tape, hb3.output, hb3.size, hb3.block⟩); (have HP3 := Lib.hid (HP.out.below hb3')); (have c3 : W3.cell? ⟨w.heap.size + 1, 0, none⟩ = some v := by rw [cell_of_row W3 _ 0 _ _ _ HP3.out.2.1]; rfl); obtain ⟨v', w4, hrun, c4, f4, hP4, hB4, hA4⟩ := parts_step HP3.out (by have := HSZ.out; have := hb3'.size; omega) hpl X; obtain ⟨av, cv, ev, _, _⟩ := owns_form hP4.2.2.1; obtain ⟨ln, hln⟩ : ∃ ln, ln = (txM pre ++ [X]).length := ⟨_, rfl⟩; rw [← hln] at ev; subst ev; clear hln; (have c5 : (W3.alloc (.cells #[.string X] 9)).cell? ⟨w.heap.size + 1, 0, none⟩ = some v := by rw [((Below.refl _ W3).alloc (Nat.le_refl _) (.cells #[.string X] 9)).cell (p := ⟨w.heap.size + 1, 0, none⟩) (heap_lt_of_some HP3.out.2.1)]; exact c3); have H4 := Lib.hid (And.intro hP4 (And.intro hB4 hA4)); have HB3 := Lib.hid hb3'; have HRUN := Lib.hid hrun; clear hP4 hB4 hA4 hb3 hb3' hrun)
          refine wpAnyIn_ready (rs := [0, 3]) (by kernel_rfl) (by simp) ?_
          refine AllReadyIn.cons rfl (fun K hK => ?_) (AllReadyIn.cons rfl (fun K hK => ?_) AllReadyIn.nil)
          · go_simp
            refine hK _ _ ?_
            clear hK K
            refine wpAnyIn_ready (rs := [3]) (by kernel_rfl) (by simp) ?_
            refine AllReadyIn.cons rfl (fun K hK => ?_) AllReadyIn.nil
            go_simp
            refine hK _ _ ?_
            clear hK K
            refine wpAnyIn_ready (rs := [4]) (by kernel_rfl) (by simp) ?_
            refine AllReadyIn.cons rfl (fun K hK => ?_) AllReadyIn.nil
            refine ready_append rfl _ _ 32 rfl _ _ _ rfl rfl HRUN.out ?_
            refine hK _ _ ?_
            clear hK K
            refine wpAnyIn_ready (rs := [5]) (by kernel_rfl) (by simp) ?_
            refine AllReadyIn.cons rfl (fun K hK => ?_) AllReadyIn.nil
            go_simp
            refine hK _ _ ?_
            clear hK K
            refine wpAnyIn_done (by kernel_rfl) ?_ _
            exact FIN.out _ w4 W3 HB3.out H4.out
          · go_simp
            refine hK _ _ ?_
            clear hK K
            refine wpAnyIn_ready (rs := [0]) (by kernel_rfl) (by simp) ?_
            refine AllReadyIn.cons rfl (fun K hK => ?_) AllReadyIn.nil
            go_simp
            refine hK _ _ ?_
            clear hK K
            refine wpAnyIn_ready (rs := [4]) (by kernel_rfl) (by simp) ?_
            refine AllReadyIn.cons rfl (fun K hK => ?_) AllReadyIn.nil
            refine ready_append rfl _ _ 32 rfl _ _ _ rfl rfl HRUN.out ?_
            refine hK _ _ ?_
            clear hK K
            refine wpAnyIn_ready (rs := [5]) (by kernel_rfl) (by simp) ?_
            refine AllReadyIn.cons rfl (fun K hK => ?_) AllReadyIn.nil
            go_simp
            refine hK _ _ ?_
            clear hK K
            refine wpAnyIn_done (by kernel_rfl) ?_ _
            exact FIN.out _ w4 W3 HB3.out H4.out
    case done =>
      rintro D ys W hD hys ⟨⟨v, hP⟩, hB⟩ hK
      have HT := Lib.hid (txM_all hys)
      have hsz := hB.size
      have hlen : (fmtL l).length = l.length := fmtL_len l
      have hjl := jn_small (fmtL l) (fmtL l).length (Nat.le_refl _) HSM.out
      have HO := Lib.hid (RowAt.of_owns (e := 9) hP.2.2.1)
      have c0 : W.cell? ⟨w.heap.size + 1, 0, none⟩ = some v := by rw [cell_of_row W _ 0 _ _ _ hP.2.1]; rfl
      rw [HT.out] at HO
      obtain ⟨L, hL⟩ : ∃ L, L = fmtL l := ⟨_, rfl⟩
      rw [← hL] at hlen hjl HO HX
      have HJ := Lib.hid (implJoin_any colon v L W HO.out (by omega))
      clear hP hL
      gi_wp2_with fail
      refine (callsIn_wide.2 HJ.out).mono ?_
      rintro e W1 ⟨rfl, hb1⟩
      have hK1 : W1.heap[D]? = some (.deferred (some [])) := by rw [hb1.block D (heap_lt_of_some hK)]; exact hK
      gi_wp2_with fail
      refine ⟨by simp, .inl ⟨_, _, rfl, run_takeDeferred hK1, ?_⟩⟩
      refine ⟨_, results_tmp rfl _ _ _, ?_, (hB.trans (hb1.mono hsz)).trans (below_putObj _ (by omega) (by have := heap_lt_of_some hK1; omega))⟩
      rw [HX.out, hlen]; rfl
    case stop =>
      rintro D c pre W _ _ h _
      exact h.elim

/-! ### reading -/
theorem fill_rev (o : List Int) (x : Int) {n k : Nat} (hk : k < n) (ho : o.length = k) : (List.replicate (n - k) 0 ++ o.reverse).set (n - 1 - k) x = List.replicate (n - (k + 1)) 0 ++ (o ++ [x]).reverse := by
  obtain ⟨m, hm⟩ : ∃ m, n - k = m + 1 := ⟨n - k - 1, by omega⟩
  rw [hm, show n - 1 - k = m by omega, show n - (k + 1) = m by omega, List.set_append_left _ _ (by simp), List.reverse_append]
  have : (List.replicate (m + 1) (0 : Int)).set m x = List.replicate m 0 ++ [x] := by
    rw [List.replicate_succ', List.set_append_right _ _ (by simp)]
    simp
  rw [this]; simp
theorem fill_zero (o : List Int) {n k : Nat} (hk : k < n) : (List.replicate (n - k) (0 : Int) ++ o.reverse)[n - 1 - k]? = some 0 := by
  rw [List.getElem?_append_left (by simp; omega), List.getElem?_replicate, if_pos (by omega)]

set_option maxHeartbeats 4000000 in
theorem implParseMixed_any (s : ByteArray) (w : World) (hs : s.size ≤ 1048576) (ht : Tab w) (he : Errs w) :
    Calls Tryd.prog 10 #[.string s] w fun e w' => ∃ v, e = .returned (.tuple #[v, .bool (rParseMixed1 s)]) ∧ w'.ownsRow w.heap.size 3 1 v (rParseMixed0 s).length (intsOf (rParseMixed0 s)) ∧ Below w.heap.size w w' := by
  obtain ⟨i0, hi, hz0, hz1, hz2⟩ := info_parts infoInt
  have HSP := Lib.hid (implSplitAny_any s colon w hs (by decide))
  have HPS := Lib.hid (pieces_size s colon)
  have hpl := pieces_len s colon
  have HNO := Lib.hid (fun w' (hB : Below w.heap.size w w') (h : pmOk s = false) => show ∃ v, Ending.returned (.tuple #[.slice none 0 0, .bool false]) = .returned (.tuple #[v, .bool (rParseMixed1 s)]) ∧ w'.ownsRow w.heap.size 3 1 v (rParseMixed0 s).length (intsOf (rParseMixed0 s)) ∧ Below w.heap.size w w' from by
      refine ⟨_, by rw [rParseMixed1, h], ?_, hB⟩
      rw [rParseMixed0, h]; exact World.ownsRow_nil _ _ _ _)
  have HPM := Lib.hid (show pmOk s = (allNum (pieces s colon) && lwIn (numsOf (pieces s colon)).reverse 0 59) from rfl)
  have HR0 := Lib.hid (show pmOk s = true → rParseMixed0 s = (numsOf (pieces s colon)).reverse from fun h => by rw [rParseMixed0, h]; rfl)
  have HTE := Lib.hid (And.intro ht he)
  obtain ⟨ps, hps⟩ : ∃ ps, ps = pieces s colon := ⟨_, rfl⟩
  rw [← hps] at HSP HPS hpl HPM HR0
  clear hps ht he
  go_enter Tryd.func10, Tryd.ntmps10
  go_wp2_with fail
  refine HSP.out.mono ?_
  rintro e w1 ⟨vR, rfl, hoR, hB1⟩
  obtain ⟨aR, capR, rfl, hr1, hr2, hr3⟩ := (RowAt.of_owns hoR).strs
  unfold maxLen at hr2
  have hs1 := hB1.size
  clear hoR
  go_wp2_with (at_make; refine wpList_make_full _ rfl _ _ 22 rfl w1.heap.size 3 i0 (.int .i64 0) 1 Tryd.underlying22 hi hz0 hz1 _ _ _ _ ps.length rfl rfl rfl rfl ?c1 ?c2 ?c3 ?_)
  case c1 => rw [hz2]; omega
  case c2 => unfold maxLen; omega
  case c3 => exact Nat.le_refl _
  intro w2 hown hgrow
  obtain ⟨gd, hgd⟩ : ∃ gd, gd = w1.heap.size := ⟨_, rfl⟩
  have HO1 := Lib.hid (show w2.ownsRow gd 3 1 (.slice (some ⟨gd, 0, none⟩) ps.length ps.length) ps.length (intsOf (List.replicate ps.length 0)) by
    rw [toList_madeCells_one] at hown; rw [intsOf_zeros, hgd]; simpa using hown)
  have HB2 := Lib.hid (show Below gd w1 w2 by rw [hgd]; exact (Below.refl _ _).grown hgrow (Nat.le_refl _) (fun k hk => by cases hk))
  rw [← hgd] at hs1 hr3 ⊢
  have HGD := Lib.hid hgd
  clear hown hgrow hgd
  go_wp2_with fail
  go_loopw [17] (fun i wr => ∃ (k : Nat) (o : List Int), o.length = k ∧ k ≤ ps.length ∧ i = .int .i64 k ∧ o = numsOf (ps.take k) ∧ allNum (ps.take k) = true ∧ wr.ownsRow gd 3 1 (.slice (some ⟨gd, 0, none⟩) ps.length ps.length) ps.length (intsOf (List.replicate (ps.length - k) 0 ++ o.reverse)) ∧ Below gd w1 wr) (fun i _ => ps.length - (intOf i).toNat)
  case atStart => exact ⟨0, [], rfl, Nat.zero_le _, rfl, rfl, rfl, by simpa using HO1.out, HB2.out⟩
  case round =>
    obtain ⟨k, o, hok, hk, rfl, ho, hall, hown, hB⟩ := hrel
    have HALL := Lib.hid hall; clear hall HO1 HB2
    have hBw : Below w.heap.size w wr := hB1.trans (hB.mono hs1)
    have hszw := hBw.size
    by_cases hlt : k < ps.length
    · obtain ⟨b', off, rfl, hbb, hcell⟩ := hr3.resolve_left (fun e => by rw [e] at hlt; simp at hlt)
      have hc : wr.cell? ⟨b', off + k, none⟩ = some (.string ps[k]) := by
        rw [hB.cell (p := ⟨b', off + k, none⟩) hbb]; exact hcell k hlt
      have hpm := List.getElem_mem hlt
      have hpz := HPS.out _ hpm
      have HPR := Lib.hid (implParse_any ps[k] wr (by omega) (HTE.out.1.below hBw) (HTE.out.2.below hBw))
      cases hd : (pRes ps[k].data.toList).2
      · rw [hd] at HPR
        have HF := Lib.hid (show pmOk s = false by
          rw [HPM.out]
          have : allNum ps = false := by
            cases e : allNum ps
            · rfl
            · have := (List.all_eq_true.1 e) _ hpm
              rw [hd] at this; cases this
          rw [this]; rfl)
        obtain ⟨p, hpe⟩ : ∃ p, p = ps[k] := ⟨_, rfl⟩
        rw [← hpe] at hc HPR
        obtain ⟨n, hn⟩ : ∃ n, n = (pRes p.data.toList).1 := ⟨_, rfl⟩
        rw [← hn] at HPR
        clear hr3 hcell hd hpe hown hpm hpz hn ho
        go_wp2_with fail
        refine HPR.out.mono ?_
        rintro e w3 ⟨rfl, hb3⟩
        go_wp2_with fail
        go_ret2
        exact HNO.out _ (hBw.trans (hb3.mono hBw.size)) HF.out
      · rw [hd] at HPR
        have HTK := Lib.hid (show numsOf (ps.take (k + 1)) = numsOf (ps.take k) ++ [(pRes ps[k].data.toList).1] by unfold numsOf; rw [List.take_succ_eq_append_getElem hlt, List.map_append]; rfl)
        have HNX := Lib.hid (show allNum (ps.take (k + 1)) = true by
          rw [List.take_succ_eq_append_getElem hlt]
          have h := HALL.out
          unfold allNum at h ⊢
          rw [List.all_append, h]
          simp [hd])
        obtain ⟨p, hpe⟩ : ∃ p, p = ps[k] := ⟨_, rfl⟩
        rw [← hpe] at hc HPR HTK
        obtain ⟨n, hn⟩ : ∃ n, n = (pRes p.data.toList).1 := ⟨_, rfl⟩
        rw [← hn] at HPR HTK
        rw [← ho] at HTK
        have q1 : IntKind.i64.wrap ((ps.length : Int) - 1) = (ps.length : Int) - 1 := by rw [IntKind.wrap_i64]; omega
        have q2 : ((ps.length : Int) - 1 - k) = ((ps.length - 1 - k : Nat) : Int) := by omega
        obtain ⟨j, hj⟩ : ∃ j, j = ps.length - 1 - k := ⟨_, rfl⟩
        rw [← hj] at q2
        have hjl : j < ps.length := by omega
        have hjl' : (j : Int) < ps.length := by omega
        have HK := Lib.hid hc
        clear hr3 hcell hd hpe hpm hpz hn
        go_wp2_with fail
        refine HPR.out.mono ?_
        rintro e w3 ⟨rfl, hb3⟩
        have hown3 := owns_below hown hb3
        have hB3 : Below gd w1 w3 := hB.trans (hb3.mono (by have := hB.size; have := HGD.out; omega))
        have hcp : w3.cell? ⟨gd, j, none⟩ = some (.int .i64 0) := by
          rw [hown3.cellAt j (by omega)]
          have := fill_zero o hlt
          rw [← hj] at this
          simp only [intsOf, List.getElem?_map, this]; rfl
        have hfp : w3.frozen? ⟨gd, j, none⟩ = false := hown3.frozenAt j
        have hsd := (hown3.stored j (.int .i64 n)).1
        rw [intsOf_set, hj, fill_rev o n hlt hok, ← hj] at hsd
        have HSD := Lib.hid hsd
        clear hsd hown hown3 hB hBw hj hok
        go_wp2_with fail
        go_roundw
        case rel => exact ⟨k + 1, o ++ [n], by rw [← HTK.out, numsOf_len, List.length_take]; omega, hlt, by go_num, HTK.out.symm, HNX.out, HSD.out, hB3.setCell (p := ⟨gd, j, none⟩) (Nat.le_refl _) _⟩
        case measure => simp [intOf]; omega
    · have hkl : k = ps.length := by omega
      have HA := Lib.hid (show allNum ps = true by have := HALL.out; rwa [hkl, List.take_length] at this)
      rw [hkl, List.take_length] at ho
      have hown' : wr.ownsRow gd 3 1 (.slice (some ⟨gd, 0, none⟩) ps.length ps.length) ps.length (intsOf (numsOf ps).reverse) := by
        rw [hkl, Nat.sub_self, ho] at hown; simpa using hown
      obtain ⟨R, hR⟩ : ∃ R, R = (numsOf ps).reverse := ⟨_, rfl⟩
      have hRl : R.length = ps.length := by rw [hR, List.length_reverse, numsOf_len]
      rw [← hR] at hown' HR0 HPM
      have HC := Lib.hid (listWithin_any _ R 0 59 wr (RowAt.of_owns hown') (by omega))
      have HOW := Lib.hid (owns_mono hown' hs1)
      have hn9 : ¬ (k : Int) < ps.length := by omega
      clear hr3 hown hown' ho hR hkl hok
      cases hq : lwIn R 0 59
      · have HP := Lib.hid (show pmOk s = false by rw [HPM.out, hq, Bool.and_false])
        rw [hq] at HC
        clear hq
        go_wp2_with fail
        refine HC.out.mono ?_
        rintro e w' ⟨rfl, rfl⟩
        go_wp2_with fail
        go_ret2
        exact HNO.out _ hBw HP.out
      · have HP := Lib.hid (show pmOk s = true by rw [HPM.out, hq, HA.out]; rfl)
        rw [hq] at HC
        clear hq
        go_wp2_with fail
        refine HC.out.mono ?_
        rintro e w' ⟨rfl, rfl⟩
        go_wp2_with fail
        go_ret2
        refine ⟨_, by rw [show rParseMixed1 s = true from HP.out]; rfl, ?_, hBw⟩
        rw [HR0.out HP.out, hRl]; exact HOW.out

end Go.Proofs.YtbnkdcfmllblkaaDoor
