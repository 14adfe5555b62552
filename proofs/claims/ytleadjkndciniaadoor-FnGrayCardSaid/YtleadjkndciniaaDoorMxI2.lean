/- Mixed places: the program checks radices and counts their places. -/
import Derived.Test.YtleadjkndciniaaDoorLgCmp
import Derived.Test.YtleadjkndciniaaDoorMxI1
set_option linter.unusedVariables false
set_option linter.unusedSimpArgs false
set_option maxRecDepth 100000
namespace Go.Proofs.YtleadjkndciniaaDoor
open Go.ChangeShapes Go.WideShapes Go.ChangeAt Go.RowKit

theorem splice_get {cur X : List Value} {off i : Nat} (h : off + X.length ≤ cur.length) :
    (splice cur off X)[i]? = if i < off then cur[i]? else if i < off + X.length then X[i - off]? else cur[i]? := by
  have ht : (cur.take off).length = off := by simp; omega
  unfold splice
  split
  · rename_i h1
    rw [List.getElem?_append_left (by omega), List.getElem?_take, if_pos h1]
  · rename_i h1
    rw [List.getElem?_append_right (by omega), ht]
    split
    · rename_i h2
      rw [List.getElem?_append_left (by omega)]
    · rename_i h2
      rw [List.getElem?_append_right (by omega), List.getElem?_drop]
      congr 1; omega
theorem splice_one {cur X : List Value} {off : Nat} (h1 : ∀ v ∈ cur, v.oneCell' = true) (h2 : ∀ v ∈ X, v.oneCell' = true) : ∀ v ∈ splice cur off X, v.oneCell' = true := by
  intro v hv
  unfold splice at hv
  rcases List.mem_append.1 hv with h | h
  · exact h1 v (List.mem_of_mem_take h)
  · rcases List.mem_append.1 h with h | h
    · exact h2 v h
    · exact h1 v (List.mem_of_mem_drop h)

/-- the radices lie copied, nothing is counted yet -/
structure SysC (r : List Int) (cs : Array Value) : Prop where
  size : cs.size = 22
  one : cs.all (·.oneCell') = true
  count : cs[0]? = some (.int .i64 r.length)
  rad : ∀ j (h : j < r.length), cs[1 + j]? = some (.int .i64 r[j])
  pla : cs[11]? = some (.int .i64 0)
theorem sysC_mk {r : List Int} {X : List Value} (hl : r.length ≤ 10) (hX : X = intsOf r) : SysC r (splice (sysZ.setIfInBounds 0 (.int .i64 r.length)).toList 1 X).toArray := by
  have hXl : X.length = r.length := by rw [hX, intsOf_length]
  have hcl : (sysZ.setIfInBounds 0 (.int .i64 r.length)).toList.length = 22 := by simp [sysZ]
  have hg : ∀ i, (splice (sysZ.setIfInBounds 0 (.int .i64 r.length)).toList 1 X).toArray[i]? = if i < 1 then (sysZ.setIfInBounds 0 (.int .i64 r.length))[i]? else if i < 1 + X.length then X[i - 1]? else (sysZ.setIfInBounds 0 (.int .i64 r.length))[i]? := fun i => by
    rw [List.getElem?_toArray, splice_get (by omega), Array.getElem?_toList]
  refine ⟨?_, ?_, ?_, fun j hj => ?_, ?_⟩
  · rw [List.size_toArray, length_splice _ _ _ (by omega)]; exact hcl
  · rw [Array.all_eq_true_iff_forall_mem]
    intro v hv
    refine splice_one (fun u hu => ?_) (fun u hu => ?_) v (by simpa using hv)
    · exact (Array.all_eq_true_iff_forall_mem.1 (oneCell_set (v := .int .i64 r.length) sysZ_one 0 rfl)) u (Array.mem_toList_iff.1 hu)
    · rw [hX] at hu
      simp only [intsOf, List.mem_map] at hu
      obtain ⟨n, _, rfl⟩ := hu
      rfl
  · rw [hg, if_pos (by omega), Array.getElem?_setIfInBounds_self_of_lt (by rw [sysZ_size]; omega)]
  · rw [hg, if_neg (by omega), if_pos (by omega), hX, show 1 + j - 1 = j by omega]
    simp [intsOf, hj]
  · rw [hg, if_neg (by omega), if_neg (by omega), Array.getElem?_setIfInBounds_ne (by omega), sysZ_at (by omega)]
theorem SysC.start {r : List Int} {cs : Array Value} (h : SysC r cs) (hl : r.length ≤ 10) : SysK r 0 (cs.setIfInBounds 11 (.int .i64 1)) := by
  have hs := h.size
  refine ⟨by simp [hs], oneCell_set h.one _ rfl, ?_, fun j hj => ?_, fun j hj => ?_⟩
  · rw [Array.getElem?_setIfInBounds_ne (by omega)]; exact h.count
  · rw [Array.getElem?_setIfInBounds_ne (by omega)]; exact h.rad j hj
  · have : j = 0 := by omega
    subst this
    rw [Array.getElem?_setIfInBounds_self_of_lt (by omega)]; simp [rp]
theorem sysV_yes {r : List Int} {cs : Array Value} (h : SysK r r.length cs) (ho : okR r = true) : SysV r cs :=
  ⟨h.size, h.one, fun _ => h, fun e => by rw [ho] at e; cases e⟩
theorem sizeInt : (Tryd.prog.info? 3).map (·.size) = some 1 := by kernel_rfl

theorem sysRes {fn : Func} {p q : Tmp} (h : fn.results = #[.cell p 66, .tmp q]) (tmps : Array Value) (w : World) (g : Nat) (cs : Array Value) (b : Value) (hp : tmps.getD p undef = .pointer (some ⟨g, 0, none⟩)) (hq : tmps.getD q undef = b)
    (hg : Hid (w.heap[g]? = some (.cells cs 66 (0, 0)))) (hcs : cs.size = 22) : (results fn tmps).run Tryd.prog w = .ok (.tuple #[.agg cs, b]) w := by
  have hp' : tmps[p]?.getD undef = .pointer (some ⟨g, 0, none⟩) := by simpa using hp
  have hq' : tmps[q]?.getD undef = b := by simpa using hq
  have hL := run_loadVar_row (P := Tryd.prog) w g _ 66 cs (0, 0) _ hg.out Tryd.underlying66 rfl (by rw [hcs]; exact sizeSys)
  simp [results, h, hp', hq', asAddr, hL]

set_option maxHeartbeats 8000000 in
theorem sysOf_any (v : Value) (r : List Int) (w : World) (hr : RowAt w v (intsOf r)) (hl : r.length ≤ 1048576) :
    Calls Tryd.prog 48 #[v] w fun e w' => ∃ cs, SysV r cs ∧ e = .returned (.tuple #[.agg cs, .bool (okR r)]) ∧ Below w.heap.size w w' := by
  have HW := Lib.hid (fun W hW => listWithin_any v r 2 60 W (hr.below hW) (by omega))
  obtain ⟨ad, cap, rfl, h1, h2, h3⟩ := hr.ints
  unfold maxLen at h2
  clear hr
  cases hw : lwIn r 2 60
  · have HOK := Lib.hid (show okR r = false by rw [okR_lw, hw]; rfl)
    rw [hw] at HW
    clear hw h3
    go_enter Tryd.func48, Tryd.ntmps48
    go_wp2_with (refine wpS_alloc rfl rfl ?_; intro w1 g hg hgs hB1)
    refine (HW.out _ hB1).mono ?_
    rintro e w' ⟨rfl, rfl⟩
    go_wp2_with (first
      | (refine wpS_zero rfl rfl ?_)
      | (refine wpS_store rfl _ _ rfl g sysZ sysZ hg rfl rfl sysZ_one w.heap.size w hB1 (by have := hgs.out.1; omega) rfl rfl ?_; intro w3 hg3 hk3 hs3 hB3))
    (try simp only [Exit.inBlock, Exit.then])
    refine bodyPost_ret (sysRes rfl _ _ g sysZ _ rfl rfl hg3 rfl) rfl ?_
    exact ⟨sysZ, sysV_zero HOK.out, by rw [HOK.out]; rfl, hB3⟩
  · obtain ⟨n1, n10, hA⟩ := lwIn_yes hw
    have HOK := Lib.hid (show okR r = decide (rp r ≤ 1000000000000) by rw [okR_lw, hw]; rfl)
    have HALL := Lib.hid (show AllR r from hA)
    rw [hw] at HW
    obtain ⟨b', off, rfl, hbb, hcell⟩ := h3.resolve_left (fun e => by rw [e] at n1; simp at n1)
    obtain ⟨X, hX⟩ : ∃ X, X = intsOf r := ⟨_, rfl⟩
    have HXL := Lib.hid (show X.length = Nat.min r.length 10 by rw [hX, intsOf_length]; exact (Nat.min_eq_left n10).symm)
    have HXL' := Lib.hid (show X.length = r.length by rw [hX, intsOf_length])
    have HX1 := Lib.hid (show ∀ u ∈ X, u.oneCell' = true by
      intro u hu
      rw [hX] at hu
      simp only [intsOf, List.mem_map] at hu
      obtain ⟨n, _, rfl⟩ := hu
      rfl)
    have HXC := Lib.hid (show ∀ (W : World), Below w.heap.size w W → ∀ j u, X[j]? = some u → W.cell? ((⟨b', off, none⟩ : Addr).add j) = some u from fun W hW j u hu => by
      have hj : j < r.length := by
        have := (List.getElem?_eq_some_iff.1 hu).1
        rw [hX, intsOf_length] at this; exact this
      rw [show (⟨b', off, none⟩ : Addr).add j = ⟨b', off + j, none⟩ by unfold Addr.add; split <;> simp_all, hW.cell (p := ⟨b', off + j, none⟩) hbb, hcell j hj, ← hu, hX]
      simp [intsOf, hj])
    obtain ⟨c0, hc0⟩ : ∃ c0, c0 = sysZ.setIfInBounds 0 (.int .i64 r.length) := ⟨_, rfl⟩
    obtain ⟨c1, hc1⟩ : ∃ c1, c1 = (splice c0.toList 1 X).toArray := ⟨_, rfl⟩
    have HC1 := Lib.hid (show SysC r c1 by rw [hc1, hc0]; exact sysC_mk n10 hX)
    have HC0 := Lib.hid hc0
    have HC01 := Lib.hid (And.intro (show c0.size = 22 by rw [hc0]; simp [sysZ]) (show c0.all (·.oneCell') = true by rw [hc0]; exact oneCell_set sysZ_one 0 rfl))
    have HC1E := Lib.hid hc1
    clear hw hA hX hc0 hc1 hcell
    go_enter Tryd.func48, Tryd.ntmps48
    go_wp2_with (refine wpS_alloc rfl rfl ?_; intro w1 g hg hgs hB1)
    refine (HW.out _ hB1).mono ?_
    rintro e w' ⟨rfl, rfl⟩
    go_wp2_with (first
      | (refine wpS_count rfl _ rfl _ rfl ?_; rw [← HC0.out])
      | (refine wpS_alloc rfl rfl ?_; intro w2 g4 hg4 hgs4 hB2)
      | (refine wpS_store rfl _ _ rfl g4 c0 sysZ hg4 rfl HC01.out.1 HC01.out.2 g4 w2 (Below.refl _ _) (Nat.le_refl _) rfl rfl ?_; intro w3 hg3 hk3 hs3 hB3)
      | (refine wpList_copy_splice rfl _ _ 25 25 rfl 3 Tryd.underlying25 sizeInt _ _ _ _ _ _ rfl rfl g4 1 c0.toList 66 (by simpa using hg3.out) X HXL.out (fun _ => ⟨rfl, _, rfl, HXC.out _ ((hB1.trans (hB2.mono hB1.size)).trans (hB3.mono (by have := hgs4.out.1; have := hB1.size; omega)))⟩) (by have := HXL'.out; have := HC01.out.1; simp; omega) HX1.out g4 w3 (Below.refl _ _) (Nat.le_refl _) ?_; intro w4 hg4' hB4; rw [← HC1E.out] at hg4'; have e11 := sys_cell hg4' HC1.out.pla; have f11 := sys_frozen hg4' 11; have e00 := sys_cell hg4' HC1.out.count))
    have hg1 : g < g4 := by have := hgs.out; have := hgs4.out; omega
    have hgw : w.heap.size ≤ g := by have := hgs.out.1; omega
    have HG := Lib.hid (show w4.heap[g]? = some (.cells sysZ 66 (0, 0)) by
      rw [hB4.block g hg1, hk3.out g (by omega), hB2.block g (by have := hgs.out; omega)]; exact hg.out)
    have HB4 := Lib.hid (show Below w.heap.size w w4 from ((hB1.trans (hB2.mono hB1.size)).trans (hB3.mono (by omega))).trans (hB4.mono (by omega)))
    have HG4 := hg4'
    clear hg hg4 hg3 hk3 hs3 hB1 hB2 hB3 hB4 hg4' e11 f11 e00 hgs hgs4 w1 w2 w3
    go_loopw [21] (fun i wr => ∃ (k : Nat) (cs : Array Value), k ≤ r.length ∧ i = .int .i64 k ∧ SysK r k cs ∧ Hid (wr.heap[g4]? = some (.cells cs 66 (0, 0))) ∧ Hid (wr.heap[g]? = some (.cells sysZ 66 (0, 0))) ∧ Below w.heap.size w wr) (fun i _ => r.length - (intOf i).toNat)
    case atStart =>
      refine ⟨0, c1.setIfInBounds 11 (.int .i64 1), Nat.zero_le _, rfl, HC1.out.start n10, heap_setCell_same w4 g4 11 c1 _ _ HG4.out, ?_, HB4.out.setCell (p := ⟨g4, 11, none⟩) (by show w.heap.size ≤ g4; omega) _⟩
      show _ = _
      rw [heap_setCell_other _ _ _ _ (show g ≠ g4 by omega)]; exact HG.out
    case round =>
      obtain ⟨k, cs, hk, rfl, hK, hg4, hg, hB⟩ := hrel
      have HK := Lib.hid hK
      have hPl := (rp_le10 HALL.out n10 k)
      by_cases hlt : k < r.length
      · have hc2 := sys_cell hg4 (hK.rad k hlt)
        have hc3 := sys_cell hg4 (hK.pla k (Nat.le_refl _))
        have hp4 : ∃ y, wr.cell? ⟨g4, 11 + (k + 1), none⟩ = some y := by
          have hs := hK.size
          exact ⟨_, sys_cell hg4 (Array.getElem?_eq_getElem (by omega))⟩
        obtain ⟨y, hc4⟩ := hp4
        have hf4 := sys_frozen hg4 (11 + (k + 1))
        have hx := HALL.out _ (List.getElem_mem hlt)
        have hn := rp_le10 HALL.out n10 (k + 1)
        have HT := Lib.hid (rp_take hlt)
        rw [HT.out] at hn
        obtain ⟨P, hP⟩ : ∃ P, P = rp (r.take k) := ⟨_, rfl⟩
        obtain ⟨x, hxe⟩ : ∃ x, x = r[k] := ⟨_, rfl⟩
        rw [← hP] at hc3 hPl hn HT
        rw [← hxe] at hc2 hx hn HT
        have hn1 := hn.1; have hn2 := hn.2
        obtain ⟨Y, hY⟩ : ∃ Y, Y = P * x := ⟨_, rfl⟩
        have hwr : IntKind.i64.wrap (P * x) = Y := by rw [IntKind.wrap_i64, ← hY]; omega
        have hk10 : k < 10 := by omega
        have q1 : (k : Int) < 11 := by omega
        have q2 : (k : Int) < 10 := by omega
        have q3 : (k : Int) + 1 < 11 := by omega
        have q4 : IntKind.i64.wrap ((k : Int) + 1) = (k : Int) + 1 := by rw [IntKind.wrap_i64]; omega
        have q5 : ((k : Int) + 1).toNat = k + 1 := by omega
        have q6 : (0 : Int) ≤ (k : Int) + 1 := by omega
        have HY := Lib.hid hY
        clear hK hP hxe hn hY
        go_wp2_with fail
        refine wp_region_still_tail 13 (by kernel_rfl) (by kernel_rfl) ?_
        simp only [List.take_succ_cons, List.take_zero, List.drop_succ_cons, List.drop_zero]
        repeat still_step
        refine wpStill_nil ?_
        change wpList _ _ _ _ _ (wr.drewN 1)
        go_wp2_with fail
        go_roundw
        case rel =>
          refine ⟨k + 1, _, hlt, by go_num, HK.out.next hlt n10 (i := 11 + (k + 1)) (by omega) (v := Y) (by rw [HT.out, HY.out]), heap_setCell_same (wr.drewN 1) g4 _ cs _ _ hg4.out, ?_, (below_drewN hB 1).setCell (p := ⟨g4, _, none⟩) (by show w.heap.size ≤ g4; omega) _⟩
          show _ = _
          rw [heap_setCell_other _ _ _ _ (show g ≠ g4 by omega)]; exact hg.out
        case measure => simp [intOf]; omega
      · have hkl : k = r.length := by omega
        subst hkl
        have hR1 := (rp_le10 HALL.out n10 r.length)
        rw [List.take_length] at hR1
        obtain ⟨R, hR⟩ : ∃ R, R = rp r := ⟨_, rfl⟩
        have HSZ := Lib.hid (fun W => size7_any cs r.length R W hK.size hK.count n10 (by have := hK.pla r.length (Nat.le_refl _); rw [List.take_length, ← hR] at this; exact this))
        rw [← hR] at hR1 HOK
        have hc0 := sys_cell hg4 hK.count
        clear hK hR
        by_cases hbig : 1000000000000 < R
        · have HNO := Lib.hid (show okR r = false by rw [HOK.out]; simp; omega)
          go_wp2_with (refine wpS_load rfl _ rfl g4 cs hg4 HK.out.size rfl ?_)
          refine (HSZ.out _).mono ?_
          rintro e w5 ⟨rfl, hB5⟩
          have hg5 := sys_below hg hB5
          have hB6 := hB.trans (hB5.mono hB.size)
          go_wp2_with (first
            | (refine wpS_zero rfl rfl ?_)
            | (refine wpS_store rfl _ _ rfl g sysZ sysZ hg5 rfl rfl sysZ_one w.heap.size w hB6 hgw rfl rfl ?_; intro w7 hg7 hk7 hs7 hB7))
          (try simp only [Exit.inBlock, Exit.then])
          refine bodyPost_ret (sysRes rfl _ _ g sysZ _ rfl rfl hg7 rfl) rfl ?_
          exact ⟨sysZ, sysV_zero HNO.out, by rw [HNO.out]; rfl, hB7⟩
        · have HYES := Lib.hid (show okR r = true by rw [HOK.out]; simp; omega)
          go_wp2_with (refine wpS_load rfl _ rfl g4 cs hg4 HK.out.size rfl ?_)
          refine (HSZ.out _).mono ?_
          rintro e w5 ⟨rfl, hB5⟩
          have hg5 := sys_below hg hB5
          have hg45 := sys_below hg4 hB5
          have hB6 := hB.trans (hB5.mono hB.size)
          go_wp2_with (first
            | (refine wpS_load rfl _ rfl g4 cs hg45 HK.out.size rfl ?_)
            | (refine wpS_store rfl _ _ rfl g cs sysZ hg5 rfl HK.out.size HK.out.one w.heap.size w hB6 hgw rfl rfl ?_; intro w7 hg7 hk7 hs7 hB7))
          (try simp only [Exit.inBlock, Exit.then])
          refine bodyPost_ret (sysRes rfl _ _ g cs _ rfl rfl hg7 HK.out.size) rfl ?_
          exact ⟨cs, sysV_yes HK.out HYES.out, by rw [HYES.out]; rfl, hB7⟩

end Go.Proofs.YtleadjkndciniaaDoor
