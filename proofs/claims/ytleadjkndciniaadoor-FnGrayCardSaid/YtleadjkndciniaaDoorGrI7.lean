/- Gray codes, the program: flips in a channel; the cycle that is made of them. -/
import Derived.Test.YtleadjkndciniaaDoorInts
import Derived.Test.YtleadjkndciniaaDoorGrI6
import Derived.Test.YtleadjkndciniaaDoorLoneC
import Derived.Conc.SmallLaws
set_option linter.unusedVariables false
set_option linter.unusedSimpArgs false
set_option maxRecDepth 100000
namespace Go.Proofs.YtleadjkndciniaaDoor
open Go.ChangeShapes Go.WideShapes Go.ChangeAt Go.RowKit Go.Conc

/-! ### plain -/
def flL (n : Nat) : List Int := (List.range n).map fun j => ((loB (j + 1) : Nat) : Int)
theorem flL_len (n : Nat) : (flL n).length = n := by simp [flL]
theorem flL_succ (n : Nat) : flL (n + 1) = flL n ++ [((loB (n + 1) : Nat) : Int)] := by simp [flL, List.range_succ]
theorem flL_drop {n k : Nat} (h : k < n) : (flL n).drop k = ((loB (k + 1) : Nat) : Int) :: (flL n).drop (k + 1) := by
  rw [List.drop_eq_getElem_cons (by rw [flL_len]; exact h)]
  simp [flL]

/-! ### an open channel that holds numbers -/
def ChanG (w : World) (c cap : Nat) (l : List Int) : Prop := ∃ s r, w.heap[c]? = some (.chan cap (intsOf l).toArray false s r false)
theorem ChanG.lt {w : World} {c cap : Nat} {l : List Int} (h : ChanG w c cap l) : c < w.heap.size := by
  obtain ⟨s, r, h⟩ := h; exact heap_lt_of_some h
theorem owns_chanG {w : World} {base : Nat} {e : TypeId} {v : Value} {n : Nat} {xs : List Value} (h : w.ownsRow base e 1 v n xs) {c cap0 : Nat} {l0 : List Int} (hc : ChanG w c cap0 l0) (cap : Nat) (buf : Array Value) (cl : Bool) (s r : Nat) (tm : Bool) : (w.setChan c cap buf cl s r tm).ownsRow base e 1 v n xs := by
  obtain ⟨hl, h2⟩ := h
  refine ⟨hl, ?_⟩
  rcases h2 with h2 | ⟨g, cp, cur, hv, hg, hh, q⟩
  · exact .inl h2
  · refine .inr ⟨g, cp, cur, hv, hg, ?_, q⟩
    obtain ⟨s0, r0, hc⟩ := hc
    have hne : c ≠ g := fun e => by subst e; rw [hh] at hc; cases hc
    simp only [World.setChan]
    rw [Array.getElem?_setIfInBounds_ne hne]; exact hh
theorem ChanG.grown {w w' : World} {c cap : Nat} {l : List Int} (h : ChanG w c cap l) {base : Nat} {e : TypeId} {v : Value} {n : Nat} {xs : List Value} (hown : w.ownsRow base e 1 v n xs) (hg : w.grownBy w' v.ownBlock) : ChanG w' c cap l := by
  obtain ⟨s, r, hc⟩ := h
  refine ⟨s, r, (hg.block c (heap_lt_of_some hc) (fun e => ?_)).trans hc⟩
  rcases hown.2 with ⟨rfl, _⟩ | ⟨g, cp, cur, rfl, _, hh, _⟩
  · cases e
  · have e' : c = g := by simpa [Value.ownBlock] using e
    subst e'
    rw [hh] at hc; cases hc

/-! ### the next flip -/
theorem nextFlip_yes (c cap : Nat) (x : Int) (t : List Int) (w : World) (hx : in64 x) (hc : ChanG w c cap (x :: t)) :
    Calls Tryd.prog 40 #[.chan (some c)] w fun e w' => e = .returned (.tuple #[.int .i64 x, .bool true]) ∧ ∃ s r, w' = w.setChan c cap (intsOf t).toArray false s r false := by
  obtain ⟨s, r, hc⟩ := hc
  refine calls_of_wn Tryd.func40 rfl (fun _ ⟨h, _⟩ => by cases h) ?_
  simp only [Tryd.ntmps40, List.size_toArray, List.length_cons, List.length_nil, Nat.reduceAdd, Nat.reduceSub, Array.replicate_succ, Array.replicate_zero, List.push_toArray, List.append_toArray, List.nil_append, List.cons_append]
  refine wn_first ?_
  go_wp2
  refine wn_first ?_
  go_wp2
  refine wn_seq ?_
  refine wn_region ?_
  show Rn _ _ _ [0, 1, 2] _ _
  refine rn_select (c := c) (z := .int .i64 0) rfl rfl (by simp [go_sem, rcase]) hc (by simp [intsOf]) ?_
  rw [show (intsOf (x :: t)).toArray.getD 0 undef = .int .i64 x by simp [intsOf], show (intsOf (x :: t)).toArray.extract 1 (intsOf (x :: t)).toArray.size = (intsOf t).toArray by simp [intsOf]; exact List.take_of_length_le (by simp)]
  obtain ⟨w4, hw4⟩ : ∃ w4, w4 = w.setChan c cap (intsOf t).toArray false s (r + 1) false := ⟨_, rfl⟩
  rw [← hw4]
  have HW := Lib.hid hw4
  clear hw4 hc
  refine rn_op rfl rfl (fun K hK => ?_)
  go_simp
  refine hK _ _ ?_
  clear hK K
  refine rn_op rfl rfl (fun K hK => ?_)
  go_simp
  refine hK _ _ ?_
  clear hK K
  refine rn_nil ?_
  refine .of ?_
  go_wp2
  go_ret2
  exact ⟨rfl, _, _, HW.out⟩
theorem nextFlip_no (c cap : Nat) (w : World) (hc : ChanG w c cap []) :
    Calls Tryd.prog 40 #[.chan (some c)] w fun e w' => e = .returned (.tuple #[.int .i64 0, .bool false]) ∧ w = w' := by
  obtain ⟨s, r, hc⟩ := hc
  refine calls_of_wn Tryd.func40 rfl (fun _ ⟨h, _⟩ => by cases h) ?_
  simp only [Tryd.ntmps40, List.size_toArray, List.length_cons, List.length_nil, Nat.reduceAdd, Nat.reduceSub, Array.replicate_succ, Array.replicate_zero, List.push_toArray, List.append_toArray, List.nil_append, List.cons_append]
  refine wn_first ?_
  go_wp2
  refine wn_first ?_
  go_wp2
  refine wn_seq ?_
  refine wn_region ?_
  show Rn _ _ _ [0, 1, 2] _ _
  refine rn_select_none (c := c) (z := .int .i64 0) rfl rfl (by simp [go_sem, rcase]) (show w.heap[c]? = some (.chan cap #[] false s r false) by simpa [intsOf] using hc) ?_
  clear hc
  refine rn_op rfl rfl (fun K hK => ?_)
  go_simp
  refine hK _ _ ?_
  clear hK K
  refine rn_op rfl rfl (fun K hK => ?_)
  go_simp
  refine hK _ _ ?_
  clear hK K
  refine rn_nil ?_
  refine .of ?_
  go_wp2
  go_ret2
  exact ⟨rfl, rfl⟩

/-! ### all flips into a channel -/
/-- where the sending loop stands -/
def SendG (L c : Nat) (w : World) (n : Nat) (a : Act) (wr : World) : Prop := ∃ (j : Nat) (u4 u9 u10 u11 u12 u13 u14 u15 : Value), n = L - j ∧ j ≤ L ∧ ChanG wr c L (flL j) ∧ Below w.heap.size w wr ∧ a = { tmps := #[.int .i64 L, undef, .chan none, .chan (some c), u4, .int .i64 L, .chan (some c), .int .i64 L, .int .i64 j, u9, u10, u11, u12, u13, u14, u15, undef], defers := [] }
set_option maxHeartbeats 2000000 in
theorem flips_any (L : Nat) (w : World) (hL : L ≤ 100) (ht : Tab w) :
    Calls Tryd.prog 39 #[.int .i64 L] w fun e w' => ∃ c, e = .returned (.chan (some c)) ∧ w.heap.size ≤ c ∧ ChanG w' c L (flL L) ∧ Below w.heap.size w w' := by
  obtain ⟨i0, hif, hz0, hz1, hz2⟩ := info_parts infoInt
  have HF := Lib.hid (fun (j : Nat) W (hb : Below w.heap.size w W) (hj : j < L) => show Calls Tryd.prog 8 #[.int .i64 ((j : Int) + 1)] W fun e w' => e = .returned (.int .i64 (loB (j + 1) : Nat)) ∧ W = w' by
    have h := flipIx_any ((j : Int) + 1) W (by unfold in64; omega) (ht.below hb)
    rwa [show rFlipIndex0 ((j : Int) + 1) = ((loB (j + 1) : Nat) : Int) by
      rw [rFlipIndex0, show inB ((j : Int) + 1) 1 1000000000000 = true by simp [inB]; omega]
      rw [show ((j : Int) + 1).toNat = j + 1 by omega]; rfl] at h)
  clear ht
  refine calls_of_wn Tryd.func39 rfl (fun _ ⟨_, h, _⟩ => by cases h) ?_
  simp only [Tryd.ntmps39, List.size_toArray, List.length_cons, List.length_nil, Nat.reduceAdd, Nat.reduceSub, Array.replicate_succ, Array.replicate_zero, List.push_toArray, List.append_toArray, List.nil_append, List.cons_append]
  refine wn_first ?_
  go_wp2
  refine wn_first ?_
  have hmk : (Instr.makeChan 72 (.int .i64 L)).run Tryd.prog w = .ok (.chan (some w.heap.size)) (w.alloc (.chan L #[] false 0 0 false)) :=
    run_makeChan (P := Tryd.prog) (w := w) Tryd.underlying72 hif .i64 L (by omega) (by rw [hz2]; omega)
  go_wp2
  have hch : ChanG (w.alloc (.chan L #[] false 0 0 false)) w.heap.size L (flL 0) := ⟨0, 0, heap_alloc_new w _⟩
  have hB : Below w.heap.size w (w.alloc (.chan L #[] false 0 0 false)) := (Below.refl _ _).alloc (Nat.le_refl _) _
  obtain ⟨c, hc⟩ : ∃ c, c = w.heap.size := ⟨_, rfl⟩
  obtain ⟨w1, hw1⟩ : ∃ w1, w1 = w.alloc (.chan L #[] false 0 0 false) := ⟨_, rfl⟩
  rw [← hw1, ← hc] at hch
  rw [← hw1] at hB ⊢
  rw [← hc]
  have hcw : w.heap.size ≤ c := by omega
  have HCE := Lib.hid hc
  clear hc hw1 hmk
  refine wn_seq ?_
  refine wn_first ?_
  go_wp2
  refine wn_block ?_
  refine wn_loop (SendG L c w) L ⟨0, _, _, _, _, _, _, _, _, rfl, Nat.zero_le _, hch, hB, rfl⟩ ?_
  clear hch hB
  rintro n a wr ⟨j, u4, u9, u10, u11, u12, u13, u14, u15, rfl, hj, hch, hB, rfl⟩
  refine wn_first ?_
  by_cases hlt : j < L
  · have hltI : (j : Int) < L := by omega
    have HCC := Lib.hid (HF.out j wr hB hlt)
    have HCH := Lib.hid hch
    clear hch
    go_wp2
    refine wn_first ?_
    go_wp2
    refine wn_seq ?_
    refine wn_block ?_
    refine wn_first ?_
    go_wp2
    refine wn_region ?_
    show Rn _ _ _ [0, 1, 2, 3, 4] _ _
    refine rn_op rfl rfl (fun K hK => ?_)
    go_simp
    refine hK _ _ ?_
    clear hK K
    refine rn_op rfl rfl (fun K hK => ?_)
    go_simp
    refine hK _ _ ?_
    clear hK K
    have hw1 : IntKind.i64.wrap ((j : Int) + 1) = (j : Int) + 1 := by rw [IntKind.wrap_i64]; omega
    refine rn_op rfl rfl (fun K hK => ?_)
    go_simp
    refine hK _ _ ?_
    clear hK K
    refine rn_fn rfl rfl rfl Tryd.func8 rfl rfl (by simp only [List.map_toArray, List.map_cons, List.map_nil]; exact HCC.out.mono (fun e w' h => ⟨_, h.1, by
      obtain ⟨h1, h2⟩ := h
      subst h2
      obtain ⟨s, r, hch⟩ := HCH.out
      refine rn_send (c := c) (v := .int .i64 ((loB (j + 1) : Nat) : Int)) (z := .tuple #[]) rfl rfl (by simp [execOp, scase, Act.eval, Act.put]) hch (by simp [intsOf, flL_len]; omega) (rn_nil ?_)
      refine .of ?_
      have hSC : ChanG (wr.setChan c L ((intsOf (flL j)).toArray.push (.int .i64 ((loB (j + 1) : Nat) : Int))) false (s + 1) r false) c L (flL (j + 1)) := ⟨s + 1, r, by rw [flL_succ, heap_setChan _ _ _ _ _ _ _ _ (heap_lt_of_some hch)]; simp [intsOf]⟩
      have hSB : Below w.heap.size w (wr.setChan c L ((intsOf (flL j)).toArray.push (.int .i64 ((loB (j + 1) : Nat) : Int))) false (s + 1) r false) := below_setChan hB hcw _ _ _ _ _ _
      obtain ⟨w5, hw5⟩ : ∃ w5, w5 = wr.setChan c L ((intsOf (flL j)).toArray.push (.int .i64 ((loB (j + 1) : Nat) : Int))) false (s + 1) r false := ⟨_, rfl⟩
      rw [← hw5] at hSC hSB ⊢
      have HSC := Lib.hid hSC
      have HSB := Lib.hid hSB
      obtain ⟨F, hF⟩ : ∃ F, F = loB (j + 1) := ⟨_, rfl⟩
      rw [← hF]
      clear hSC hSB hw5 hch hF
      go_wp2
      exact ⟨L - (j + 1), by omega, j + 1, _, _, _, _, _, _, _, _, rfl, by omega, HSC.out, HSB.out, rfl⟩⟩))
  · have hjn : j = L := by omega
    subst hjn
    have HCH := Lib.hid hch
    have HB := Lib.hid hB
    have hn9 : ¬ (j : Int) < j := by omega
    clear hch hB
    go_wp2
    refine wn_first ?_
    go_wp2
    refine .of ?_
    go_wp2
    go_ret
    exact ⟨c, rfl, Nat.le_refl _, HCH.out, by rw [HCE.out]; exact HB.out⟩

end Go.Proofs.YtleadjkndciniaaDoor
