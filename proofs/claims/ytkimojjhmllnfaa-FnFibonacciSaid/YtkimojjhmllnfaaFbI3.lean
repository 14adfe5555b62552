/- Fibonacci digits, the program: a row of ones, and dense digits. -/
import Derived.Test.YtkimojjhmllnfaaFbI2
import Derived.Laws.CopyOwn
set_option linter.unusedVariables false
set_option linter.unusedSimpArgs false
set_option maxRecDepth 100000
namespace Go.Proofs.Ytkimojjhmllnfaa
open Go.ChangeShapes Go.WideShapes Go.ChangeAt Go.RowKit

/-! ### a small product -/
theorem mask32 (k : Nat) (hk : k ≤ 60) : bits .and .u64 (k : Int) 4294967295 = k := by
  have h3 : (BitVec.ofInt 64 4294967295).toNat = 2 ^ 32 - 1 := by decide
  have key : (BitVec.ofInt 64 (k : Int) &&& BitVec.ofInt 64 4294967295).toNat = ((k : Int) % ((2 ^ 64 : Nat) : Int)).toNat % 2 ^ 32 := by
    rw [BitVec.toNat_and, BitVec.toNat_ofInt, h3, Nat.and_two_pow_sub_one_eq_mod]
  show IntKind.u64.wrap ((BitVec.ofInt 64 (k : Int) &&& BitVec.ofInt 64 4294967295).toNat : Nat) = k
  rw [key, IntKind.wrap_u64]
  omega
theorem mul64_any (k : Nat) (w : World) (hk : k ≤ 60) :
    Calls Try.prog 72 #[.int .u64 1, .int .u64 k] w fun e w' => e = .returned (.tuple #[.int .u64 0, .int .u64 k]) ∧ w = w' := by
  have m1 := mask32 k hk
  have m2 : bits .and .u64 (1 : Int) 4294967295 = 1 := mask32 1 (by omega)
  have m3 : bits .and .u64 (0 : Int) 4294967295 = 0 := mask32 0 (by omega)
  have d1 : (k : Int) / 4294967296 = 0 := by omega
  go_enter Try.func72, Try.ntmps72
  go_wp2
  go_ret2
  exact ⟨rfl, rfl⟩
theorem mul_any (k : Nat) (w : World) (hk : k ≤ 60) :
    Calls Try.prog 68 #[.int .u64 1, .int .u64 k] w fun e w' => e = .returned (.tuple #[.int .u64 0, .int .u64 k]) ∧ w = w' := by
  have HM := Lib.hid (fun W => mul64_any k W hk)
  go_enter Try.func68, Try.ntmps68
  go_wp2_with fail
  refine (HM.out _).mono ?_
  rintro e w' ⟨rfl, rfl⟩
  go_wp2_with fail
  go_ret2
  exact ⟨rfl, rfl⟩

/-! ### a row of ones -/
theorem sizeIntF : (Try.prog.info? 3).map (·.size) = some 1 := by kernel_rfl
def onesR (m k : Nat) : List Value := List.replicate m (Value.int .i64 1) ++ List.replicate (k - m) (Value.int .i64 0)
theorem onesR_len {m k : Nat} (h : m ≤ k) : (onesR m k).length = k := by rw [onesR, List.length_append, List.length_replicate, List.length_replicate]; omega
theorem onesR_get {m k j : Nat} (h : j < m) : (onesR m k)[j]? = some (.int .i64 1) := by
  rw [onesR, List.getElem?_append_left (by rw [List.length_replicate]; exact h), List.getElem?_replicate, if_pos h]
theorem onesR_splice {m c k : Nat} (h : m + c ≤ k) : splice (onesR m k) m (List.replicate c (.int .i64 1)) = onesR (m + c) k := by
  unfold splice onesR
  rw [List.length_replicate, List.take_left' List.length_replicate, List.drop_append, List.length_replicate, List.drop_replicate, List.drop_replicate, show m - (m + c) = 0 by omega, show k - m - (m + c - m) = k - (m + c) by omega, List.replicate_zero, List.nil_append, ← List.append_assoc, List.replicate_append_replicate]
theorem onesR_full (k : Nat) : onesR k k = intsOf (List.replicate k 1) := by
  unfold onesR intsOf
  rw [Nat.sub_self, List.replicate_zero, List.append_nil, List.map_replicate]
theorem onesR_cell {w : World} {g m k : Nat} (h : w.heap[g]? = some (.cells (onesR m k).toArray 3 (0, 0))) {j : Nat} (hj : j < m) : w.cell? ((⟨g, 0, none⟩ : Addr).add j) = some (.int .i64 1) := by
  rw [cell_zero, cell_of_row w g j _ 3 (0, 0) h]
  have := onesR_get (k := k) hj
  simpa using this
theorem ones_one (c : Nat) : ∀ v ∈ List.replicate c (Value.int .i64 1), v.oneCell' = true := fun v hv => by
  rw [List.eq_of_mem_replicate hv]; rfl

theorem row_heap {w : World} {base : Nat} {e : TypeId} {g n : Nat} {xs : List Value} (h : w.ownsRow base e 1 (.slice (some ⟨g, 0, none⟩) n n) n xs) : w.heap[g]? = some (.cells xs.toArray e (0, 0)) := by
  have hl := h.1
  rcases h.2 with ⟨h', _⟩ | ⟨g', cap', cur, h', hb, hg, hnc, hcm, hcs, htake⟩
  · simp at h'
  · simp only [Value.slice.injEq, Option.some.injEq, Addr.mk.injEq, and_true, true_and] at h'
    obtain ⟨rfl, rfl⟩ := h'
    have e1 : cur.toList = xs := by
      rw [← htake, List.take_of_length_le]
      rw [Array.length_toList, hcs]; exact Nat.le_refl _
    rw [hg, ← e1]
theorem row_of_heap {w : World} {base : Nat} {e : TypeId} {g n : Nat} {xs : List Value} (h : w.heap[g]? = some (.cells xs.toArray e (0, 0))) (hb : base ≤ g) (hl : xs.length = n) (hn : n ≤ maxLen) : w.ownsRow base e 1 (.slice (some ⟨g, 0, none⟩) n n) n xs :=
  ⟨by omega, .inr ⟨g, n, xs.toArray, rfl, hb, h, Nat.le_refl _, hn, by simp; omega, by rw [List.take_of_length_le (by simp; omega)]⟩⟩
/-- how many are copied at once -/
theorem onesR_zero (k : Nat) : onesR 0 k = List.replicate k (Value.int .i64 0) := rfl

set_option maxHeartbeats 4000000 in
theorem repeat_any (v : Value) (k : Nat) (w : World) (hr : RowAt w v (intsOf [1])) (hk : k ≤ 60) :
    Calls Try.prog 51 #[v, .int .i64 k] w fun e w' => e = .returned (.slice (some ⟨w.heap.size, 0, none⟩) k k) ∧ w'.ownsRow w.heap.size 3 1 (.slice (some ⟨w.heap.size, 0, none⟩) k k) k (intsOf (List.replicate k 1)) ∧ Below w.heap.size w w' := by
  obtain ⟨i0, hi, hz0, hz1, hz2⟩ := info_parts infoInt
  have HM := Lib.hid (fun W => mul_any k W hk)
  have HR := Lib.hid hr
  obtain ⟨a, cap, rfl, q1, q2, q3⟩ := hr.ints
  obtain ⟨b', off, rfl, hbb, hcell⟩ := q3.resolve_left (by simp)
  have hc0 := hcell 0 (by simp)
  rw [Nat.add_zero, List.getElem_cons_zero] at hc0
  have hkn : ¬ (k : Int) < 0 := by omega
  have hkw : IntKind.u64.wrap (k : Int) = k := by rw [IntKind.wrap_u64]; omega
  have hkw2 : IntKind.i64.wrap (k : Int) = k := by rw [IntKind.wrap_i64]; omega
  clear hr q1 q2 q3 hcell
  go_enter Try.func51, Try.ntmps51
  go_wp2_with fail
  refine (HM.out _).mono ?_
  rintro e w' ⟨rfl, rfl⟩
  go_wp2_with (at_make; refine wpList_make_full _ rfl _ _ 24 rfl w.heap.size 3 i0 (.int .i64 0) 1 Try.underlying24 hi hz0 hz1 _ _ _ _ k rfl rfl rfl rfl ?c1 ?c2 ?c3 ?_)
  case c1 => rw [hz2]; omega
  case c2 => unfold maxLen; omega
  case c3 => exact Nat.le_refl _
  intro w1 hown hgrow
  have HG1 := Lib.hid (show w1.heap[w.heap.size]? = some (.cells (onesR 0 k).toArray 3 (0, 0)) by
    rw [toList_madeCells_one] at hown
    have := row_heap hown
    rw [onesR_zero]; simpa using this)
  have hB1 : Below w.heap.size w w1 := (Below.refl _ _).grown hgrow (Nat.le_refl _) (fun k hk => by cases hk)
  have hcx := (hB1.cell (p := ⟨b', off, none⟩) hbb).trans hc0
  clear hown hgrow
  obtain ⟨c, hc⟩ : ∃ c, c = Nat.min 1 k := ⟨_, rfl⟩
  have hc1 : c ≤ 1 := by rw [hc]; exact Nat.min_le_left _ _
  have hck : c ≤ k := by rw [hc]; exact Nat.min_le_right _ _
  have hcp : k = 0 ∨ 1 ≤ c := by
    rw [hc]
    rcases Nat.eq_zero_or_pos k with h | h
    · exact .inl h
    · exact .inr (Nat.le_min.2 ⟨Nat.le_refl _, h⟩)
  have HCL := Lib.hid (show (List.replicate c (Value.int .i64 1)).length = Nat.min 1 k by rw [List.length_replicate, hc])
  have HCX := Lib.hid (fun j (x : Value) (hj : (List.replicate c (Value.int .i64 1))[j]? = some x) => show w1.cell? ((⟨b', off, none⟩ : Addr).add j) = some x by
    rw [List.getElem?_replicate] at hj
    split at hj
    · rename_i hlt
      have : j = 0 := by omega
      subst this
      injection hj with hj
      rw [← hj, show (⟨b', off, none⟩ : Addr).add 0 = ⟨b', off, none⟩ by simp [Addr.add]]; exact hcx
    · cases hj)
  clear hc
  go_wp2_with (refine wpList_copy_splice rfl _ _ 24 24 rfl 3 Try.underlying24 sizeIntF _ _ _ _ _ _ rfl rfl w.heap.size 0 (onesR 0 k) 3 HG1.out (List.replicate c (.int .i64 1)) HCL.out (fun _ => ⟨rfl, _, rfl, HCX.out⟩) (by rw [List.length_replicate, onesR_len (Nat.zero_le _)]; omega) (ones_one c) w.heap.size w1 (Below.refl _ _) (Nat.le_refl _) ?_)
  intro w2 hg2 hb2
  have HG2 := Lib.hid (show w2.heap[w.heap.size]? = some (.cells (onesR c k).toArray 3 (0, 0)) by
    have h := hg2
    rw [onesR_splice (by omega), Nat.zero_add] at h
    exact h)
  have HB2 := Lib.hid (hB1.trans hb2)
  clear hg2 hb2 hB1 HCX HCL hcx
  go_wp2_with fail
  go_loopw [8] (fun n wr => ∃ m : Nat, m ≤ k ∧ (k = 0 ∨ 1 ≤ m) ∧ n = .int .i64 m ∧ wr.heap[w.heap.size]? = some (.cells (onesR m k).toArray 3 (0, 0)) ∧ Below w.heap.size w wr) (fun n _ => k - (intOf n).toNat)
  case atStart => exact ⟨c, hck, hcp, by simp, HG2.out, HB2.out⟩
  case round =>
    obtain ⟨m, hm, hm1, rfl, hg, hB⟩ := hrel
    have HG := Lib.hid hg
    have HB := Lib.hid hB
    clear hg hB HB2 HG2 HG1
    by_cases hlt : m < k
    · have hm1' : 1 ≤ m := by omega
      obtain ⟨d, hd⟩ : ∃ d, d = Nat.min m (k - m) := ⟨_, rfl⟩
      have hd1 : d ≤ m := by rw [hd]; exact Nat.min_le_left _ _
      have hd2' : d ≤ k - m := by rw [hd]; exact Nat.min_le_right _ _
      have hd2 : m + d ≤ k := by omega
      have hd3 : 1 ≤ d := by rw [hd]; exact Nat.le_min.2 ⟨hm1', by omega⟩
      have HDL := Lib.hid (show (List.replicate d (Value.int .i64 1)).length = Nat.min m (k - m) by rw [List.length_replicate, hd])
      have HDX := Lib.hid (fun (W : World) (h : W.heap[w.heap.size]? = some (.cells (onesR m k).toArray 3 (0, 0))) j (x : Value) (hj : (List.replicate d (Value.int .i64 1))[j]? = some x) => show W.cell? ((⟨w.heap.size, 0, none⟩ : Addr).add j) = some x by
        rw [List.getElem?_replicate] at hj
        split at hj
        · injection hj with hj
          rw [← hj]; exact onesR_cell h (by omega)
        · cases hj)
      have hmw : IntKind.i64.wrap ((m : Int) + d) = (m : Int) + d := by rw [IntKind.wrap_i64]; omega
      have hkm : ¬ k = m := by omega
      have HGD := Lib.hid (show wr.drew.heap[w.heap.size]? = some (.cells (onesR m k).toArray 3 (0, 0)) from HG.out)
      clear hd
      go_wp2_with fail
      go_region_law (refine step_copy_splice (by rfl) (.tmp 41) (.tmp 44) 24 24 (by rfl) 3 Try.underlying24 sizeIntF (some ⟨w.heap.size, m, none⟩) (some ⟨w.heap.size, 0, none⟩) (k - m) (k - m) m k (by go_simp) (by go_simp) w.heap.size m (onesR m k) 3 HGD.out (List.replicate d (.int .i64 1)) HDL.out (fun _ => ⟨rfl, _, rfl, HDX.out _ HGD.out⟩) (by rw [List.length_replicate, onesR_len hm]; omega) (ones_one d) w.heap.size wr.drew (Below.refl _ _) (Nat.le_refl _) ?_; intro w3 hg3 hb3)
      have HG3 := Lib.hid (show w3.heap[w.heap.size]? = some (.cells (onesR (m + d) k).toArray 3 (0, 0)) by
        have h := hg3
        rw [onesR_splice hd2] at h
        exact h)
      have HB3 := Lib.hid (HB.out.trans (show Below w.heap.size wr w3 from ⟨hb3.os, hb3.tape, hb3.output, hb3.size, hb3.block⟩))
      clear hg3 hb3
      go_simp
      go_roundw
      case rel =>
        repeat apply Exists.intro
        refine ⟨⟨m + d, hd2, .inr (by omega), ?_, HG3.out, HB3.out⟩, rfl⟩
        go_num
      case measure => simp [intOf]; omega
    · have hkm : m = k := by omega
      subst hkm
      have HO := Lib.hid (show wr.ownsRow w.heap.size 3 1 (.slice (some ⟨w.heap.size, 0, none⟩) m m) m (intsOf (List.replicate m 1)) by
        rw [← onesR_full]
        exact row_of_heap HG.out (Nat.le_refl _) (onesR_len (Nat.le_refl _)) (by unfold maxLen; omega))
      go_wp2_with fail
      go_ret
      exact ⟨rfl, HO.out, HB.out⟩

/-! ### dense digits -/
theorem dense_small {N k : Nat} (hA : DnA N k) (h2 : N + 2 ≤ fp (k + 1)) (hN : N ≤ 500000000000) : fp (k + 1) - 2 - N ≤ 500000000000 := by
  have h1 := dense_rest hA h2
  rcases hA.lo with h0 | h0
  · subst h0
    have e2 : fp 0 = 1 := rfl
    omega
  · omega

set_option maxHeartbeats 4000000 in
theorem dense_any (N : Nat) (w : World) (hN : N ≤ 500000000000) :
    Calls Try.prog 18 #[.int .i64 N] w fun e w' => ∃ v', e = .returned v' ∧ w'.ownsRow w.heap.size 3 1 v' (dn N).length (intsOf (dn N)) ∧ Below w.heap.size w w' := by
  have HF := Lib.hid (fun W => fits_any N W)
  rw [inB_of (by omega) (by omega)] at HF
  have HFU := Lib.hid (fun (j : Nat) (hj : j ≤ 57) W => full_any j W hj)
  have HFB := Lib.hid (fun (j : Nat) (hj : j ≤ 60) => fp_60 hj)
  have HFP := Lib.hid fp_pos
  have HA0 := Lib.hid (dnA_start N)
  have HNX := Lib.hid (fun (k : Nat) (h : DnA N k) (hl : fp (k + 1) < N + 2) => dnA_next h hN hl)
  go_enter Try.func18, Try.ntmps18
  go_wp2_with fail
  refine (HF.out _).mono ?_
  rintro e w' ⟨rfl, rfl⟩
  go_wp2_with fail
  go_loop [3] (fun i => ∃ k : Nat, DnA N k ∧ i = .int .i64 k) (fun i => 60 - (intOf i).toNat)
  case atStart => exact ⟨0, HA0.out, rfl⟩
  case round =>
    obtain ⟨k, hA, rfl⟩ := hrel
    have hk56 := hA.small
    have HFK := Lib.hid (fun W => HFU.out k (by omega) W)
    have hf2 := HFB.out (k + 1) (by omega)
    have hp2 := HFP.out (k + 1)
    by_cases hlt : fp (k + 1) < N + 2
    · have HN2 := Lib.hid (HNX.out k hA hlt)
      obtain ⟨B, hB⟩ : ∃ B, B = fp (k + 1) := ⟨_, rfl⟩
      rw [← hB] at HFK hf2 hp2 hlt
      have hltI : (B : Int) - 2 < N := by omega
      clear hB hA
      go_wp2_with (go_at_call 50; refine (HFK.out _).mono ?_; rintro e w' ⟨rfl, rfl⟩)
      go_round
      case rel => exact ⟨k + 1, HN2.out, by go_num⟩
      case measure => simp [intOf]; omega
    · have hNK : N + 2 ≤ fp (k + 1) := by omega
      have hSB := sp_b01 (fp (k + 1) - 2 - N)
      have hSL := dense_len_le hA hNK
      have hST := dense_take hA hNK
      have HSP := Lib.hid (fun W => sparse_any (fp (k + 1) - 2 - N) W (dense_small hA hNK hN))
      obtain ⟨S, hS⟩ : ∃ S, S = sp (fp (k + 1) - 2 - N) := ⟨_, rfl⟩
      rw [← hS] at hSB hSL hST HSP
      obtain ⟨B, hB⟩ : ∃ B, B = fp (k + 1) := ⟨_, rfl⟩
      rw [← hB] at HFK hf2 hp2 hlt hNK HSP
      rw [show ((B - 2 - N : Nat) : Int) = (B : Int) - 2 - N by omega] at HSP
      have hltI : ¬ (B : Int) - 2 < N := by omega
      have HRE := Lib.hid (fun v W hr => repeat_any v k W hr (by omega))
      have HT := Lib.hid hST
      have HSB := Lib.hid hSB
      have HSLL := Lib.hid hSL
      have hlit := Lib.hid (World.ownsRow_lit (base := w.heap.size) (e := 3) (size := 1) w #[.int .i64 1] 1 (Nat.le_refl _) (by decide) rfl)
      have hrr := HRE.out _ _ (RowAt.of_owns (cs := intsOf [1]) (by simpa [intsOf] using hlit.out))
      rw [show (w.alloc (.cells #[.int .i64 1] 3)).heap.size = w.heap.size + 1 by simp] at hrr
      have HRR := Lib.hid hrr
      clear hrr
      have HBA := Lib.hid ((Below.refl w.heap.size w).alloc (Nat.le_refl _) (.cells #[.int .i64 1] 3))
      clear hB hA hS hST hSB hSL
      go_wp2_with (first
        | (go_at_call 50; refine (HFK.out _).mono ?_; rintro e w' ⟨rfl, rfl⟩)
        | (go_at_call 51; refine HRR.out.mono ?_; rintro e w1 ⟨rfl, hO1, hB1⟩; have HO1 := Lib.hid hO1; have HB1 := Lib.hid hB1; clear hO1 hB1)
        | (go_at_call 17; refine (HSP.out _).mono ?_; rintro e w2 ⟨v2, rfl, hO2, hB2⟩; have HO2 := Lib.hid hO2; have HB2 := Lib.hid hB2; obtain ⟨a2, c2, e3, _, _⟩ := owns_form hO2; subst e3; clear hO2 hB2))
      have hs1 := (HO1.out.lt (w.heap.size + 1) rfl).2
      have HB1' := Lib.hid (HBA.out.trans (HB1.out.mono (Nat.le_succ _)))
      have HB2' := Lib.hid (HB1'.out.trans (HB2.out.mono HB1'.out.size))
      have HOA := Lib.hid (show w2.ownsRow w.heap.size 3 1 (.slice (some ⟨w.heap.size + 1, 0, none⟩) k k) k (intsOf (takenD S k 0)) by
        rw [takenD_zero]; exact owns_mono (owns_below HO1.out HB2.out) (by omega))
      have HOS := Lib.hid (owns_mono HO2.out (show w.heap.size + 2 ≤ w1.heap.size by omega))
      clear HO1 HO2 HB1 HB2 HB1' HRR HRE hlit HBA
      go_loopw [25] (fun i wr => ∃ j : Nat, j ≤ S.length ∧ i = .int .i64 j ∧ wr.ownsRow w.heap.size 3 1 (.slice (some ⟨w.heap.size + 1, 0, none⟩) k k) k (intsOf (takenD S k j)) ∧ wr.ownsRow (w.heap.size + 2) 3 1 (.slice a2 S.length c2) S.length (intsOf S) ∧ Below w.heap.size w wr) (fun i _ => S.length - (intOf i).toNat)
      case atStart => exact ⟨0, Nat.zero_le _, rfl, HOA.out, HOS.out, HB2'.out⟩
      case round =>
        obtain ⟨j, hj, rfl, hown, hos, hB⟩ := hrel
        clear HOA HOS HB2' hs1
        by_cases hjl : j < S.length
        · have hjk : j < k := by have := HSLL.out; omega
          have hd := HSB.out _ (List.getElem_mem hjl)
          have hc2 : wr.cell? ⟨w.heap.size + 1, j, none⟩ = some (.int .i64 1) := by
            rw [hown.cellAt j (by omega)]; exact ints_get (takenD_get hjl HSLL.out)
          have hf2 : wr.frozen? ⟨w.heap.size + 1, j, none⟩ = false := hown.frozenAt j
          have hst := (hown.stored j (.int .i64 (1 - S[j]))).1
          rw [ints_set, takenD_set hjl HSLL.out] at hst
          have hsoff := owns_off hos ⟨w.heap.size + 1, j, none⟩ (.int .i64 (1 - S[j])) (by simp)
          obtain ⟨a3, cap3, e3, q1, q2, q3⟩ := (RowAt.of_owns hos).ints
          injection e3 with e3 _ e4
          subst e3 e4
          obtain ⟨b', off, rfl, hbb, hcell⟩ := q3.resolve_left (fun e => by rw [e] at hjl; simp at hjl)
          have hcs := hcell j hjl
          obtain ⟨d, hde⟩ : ∃ d, d = S[j] := ⟨_, rfl⟩
          rw [← hde] at hd hst hsoff hcs
          have HST := Lib.hid hst
          have HSO := Lib.hid hsoff
          have hd0 : 0 ≤ d := by omega
          have hd1 : d ≤ 1 := by omega
          have hSl : S.length ≤ 58 := by have := HSLL.out; omega
          clear hde hst hsoff hown hos q1 q2 q3 hcell hd
          go_wp2_with fail
          go_roundw
          case rel => exact ⟨j + 1, hjl, by go_num, HST.out, HSO.out, hB.setCell (p := ⟨w.heap.size + 1, j, none⟩) (by simp) _⟩
          case measure => simp [intOf]; omega
        · have hjS : j = S.length := by omega
          have HR := Lib.hid (show wr.ownsRow w.heap.size 3 1 (.slice (some ⟨w.heap.size + 1, 0, none⟩) k k) (dn N).length (intsOf (dn N)) by
            have e1 := takenD_len (S := S) (k := k) (Nat.le_refl _) HSLL.out
            rw [HT.out] at e1
            rw [hjS, HT.out] at hown
            rw [e1]; exact hown)
          have hSl : S.length ≤ 58 := by have := HSLL.out; omega
          clear hown hos
          go_wp2_with fail
          go_ret
          exact ⟨_, rfl, HR.out, hB⟩

theorem implDenseFib_any (n : Int) (w : World) (hn : in64 n) :
    Calls Try.prog 18 #[.int .i64 n] w fun e w' => ∃ v', e = .returned v' ∧ w'.ownsRow w.heap.size 3 1 v' (rDenseFib0 n).length (intsOf (rDenseFib0 n)) ∧ Below w.heap.size w w' := by
  have HS := Lib.hid (fun W => fits_any n W)
  cases h : inB n 0 500000000000
  · rw [h] at HS
    have HNO := Lib.hid (show ∃ v', Ending.returned (.slice none 0 0) = .returned v' ∧ w.ownsRow w.heap.size 3 1 v' (rDenseFib0 n).length (intsOf (rDenseFib0 n)) ∧ Below w.heap.size w w from by
      refine ⟨_, rfl, ?_, Below.refl _ _⟩
      rw [rDenseFib0, h]; exact World.ownsRow_nil _ _ _ _)
    clear h
    go_enter Try.func18, Try.ntmps18
    go_wp2_with fail
    refine (HS.out _).mono ?_
    rintro e w' ⟨rfl, rfl⟩
    go_wp2_with fail
    go_ret
    exact HNO.out
  · obtain ⟨n0, n1⟩ := inB_yes h
    obtain ⟨N, rfl⟩ : ∃ N : Nat, n = N := ⟨n.toNat, by omega⟩
    rw [show rDenseFib0 N = dn N by rw [rDenseFib0, h]; rfl]
    exact dense_any N w (by omega)

end Go.Proofs.Ytkimojjhmllnfaa
