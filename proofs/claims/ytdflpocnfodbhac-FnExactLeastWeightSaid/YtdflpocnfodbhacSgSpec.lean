/- Signed binary digits: the model's tests, digits, values and weights. -/
import Derived.Test.YtdflpocnfodbhacInts
import Derived.Test.YtdflpocnfodbhacDgSpec
import Derived.Test.YtdflpocnfodbhacLgSpec
import Derived.Test.YtdflpocnfodbhacNgSpec
import Derived.Test.YtdflpocnfodbhacSgM
set_option linter.unusedVariables false
set_option linter.unusedSimpArgs false
set_option maxRecDepth 100000
namespace Go.Proofs.Ytdflpocnfodbhac
open Go.ChangeShapes Go.WideShapes Go.ChangeAt Go.RowKit

set_option maxHeartbeats 2000000 in
theorem specSg_eq (v : Value) (l : List Int) (w : World) (hr : RowAt w v (intsOf l)) (hl : l.length ≤ 1048576) (hi : ∀ n ∈ l, in64 n) :
    Calls Try.prog 29 #[v] w fun e w' => e = .returned (.bool (okS l)) ∧ w = w' := by
  obtain ⟨a, cap, rfl, h1, h2, h3⟩ := hr.ints
  unfold maxLen at h2
  have HI := Lib.hid hi
  clear hi
  by_cases h60 : 60 < l.length
  · have HK := Lib.hid (okS_long h60)
    go_enter Try.func29, Try.ntmps29
    go_wp2_with fail
    go_ret
    exact ⟨ret_bool HK.out.symm, rfl⟩
  · have h60' : l.length ≤ 60 := by omega
    go_enter Try.func29, Try.ntmps29
    go_wp2_with fail
    go_loop [10] (fun i => ∃ k : Nat, k ≤ l.length ∧ i = .int .i64 k ∧ ∀ j (hj : j < l.length), j < k → -1 ≤ l[j] ∧ l[j] ≤ 1) (fun i => l.length - (intOf i).toNat)
    case atStart => exact ⟨0, Nat.zero_le _, rfl, fun j hj k => by omega⟩
    case round =>
      obtain ⟨k, hk, rfl, hall⟩ := hrel
      have HA := Lib.hid hall; clear hall
      by_cases hlt : k < l.length
      · obtain ⟨b', off, rfl, hbb, hcell⟩ := h3.resolve_left (fun e => by rw [e] at hlt; simp at hlt)
        have hc := hcell k hlt
        have hin := HI.out _ (List.getElem_mem hlt)
        clear h3 hcell
        cases hd : inB l[k] (-1) 1
        · have HK := Lib.hid (okS_at hlt hd)
          have HS := Lib.hid (fun W => sIn_any l[k] (-1) 1 W)
          rw [hd] at HS
          clear hd
          go_wp2_with (go_at_call 52; refine (HS.out _).mono ?_; rintro e w' ⟨rfl, rfl⟩)
          go_ret
          exact ⟨ret_bool HK.out.symm, rfl⟩
        · have HD := Lib.hid (inB_yes hd)
          have HS := Lib.hid (fun W => sIn_any l[k] (-1) 1 W)
          rw [hd] at HS
          clear hd
          go_wp2_with (go_at_call 52; refine (HS.out _).mono ?_; rintro e w' ⟨rfl, rfl⟩)
          go_round
          case rel =>
            refine ⟨k + 1, hlt, by go_num, fun j hj' hj => ?_⟩
            by_cases e : j = k
            · subst e; exact HD.out
            · exact HA.out j hj' (by omega)
          case measure => simp [intOf]; omega
      · have HE := Lib.hid (okS_end (l := l) h60' (fun d hd => by
          obtain ⟨j, hj, rfl⟩ := List.getElem_of_mem hd
          exact HA.out j hj (by omega)))
        by_cases h0 : l.length = 0
        · have hnil : l = [] := List.eq_nil_of_length_eq_zero h0
          have HF := Lib.hid (show okS l = true by rw [HE.out]; simp [hnil])
          have hz : ((l.length : Int) == 0) = true := by simp [hnil]
          clear h3 hnil h0
          go_wp2
          go_ret
          exact ⟨ret_bool HF.out.symm, rfl⟩
        · obtain ⟨m, hm⟩ : ∃ m, l.length = m + 1 := ⟨l.length - 1, by omega⟩
          obtain ⟨b', off, rfl, hbb, hcell⟩ := h3.resolve_left (fun e => by rw [e] at h0; simp at h0)
          have hml : m < l.length := by omega
          have hc := hcell m hml
          have HF := Lib.hid (show okS l = (l[m] != 0) by
            rw [HE.out]; exact last_test hm hml)
          have hz : ((m : Int) + 1 == 0) = false := beq_false_of_ne (by omega)
          have hpos : (1 : Int) ≤ l.length := by omega
          have hix : ((l.length : Int) - 1).toNat = m := by omega
          clear h3 hcell
          go_wp2
          go_ret
          exact ⟨ret_bool HF.out.symm, rfl⟩

theorem specSignedOk_any (v : Value) (l : List Int) (w : World) (hr : RowAt w v (intsOf l)) (hl : l.length ≤ 1048576) (hi : ∀ n ∈ l, in64 n) :
    Calls Try.prog 29 #[v] w fun e w' => e = .returned (.bool (rSignedOk0 l)) ∧ Below w.heap.size w w' := by
  refine (specSg_eq v l w hr hl hi).mono ?_
  rintro e w' ⟨rfl, rfl⟩
  exact ⟨rfl, Below.refl _ _⟩

/-- the digit as Go takes it -/
theorem sdig_go (n : Int) : ((n.tmod 2 != 0) = false ∧ sdig n = 0) ∨ ((n.tmod 2 != 0) = true ∧ (n.tmod 4 == 3) = true ∧ sdig n = -1) ∨ ((n.tmod 2 != 0) = true ∧ (n.tmod 4 == 3) = false ∧ (n.tmod 4 == -1) = true ∧ sdig n = -1) ∨ ((n.tmod 2 != 0) = true ∧ (n.tmod 4 == 3) = false ∧ (n.tmod 4 == -1) = false ∧ sdig n = 1) := by
  simp only [bne_eq_false_iff_eq, bne_iff_ne, beq_iff_eq, beq_eq_false_iff_ne]
  obtain ⟨a1, a2, a3, a4⟩ := tmod_fix (b := 2) (by omega) n
  obtain ⟨b1, b2, b3, b4⟩ := tmod_fix (b := 4) (by omega) n
  rw [show ((2 : Nat) : Int) = 2 from rfl] at a1 a2 a3 a4
  rw [show ((4 : Nat) : Int) = 4 from rfl] at b1 b2 b3 b4
  obtain ⟨r, hr⟩ : ∃ r, r = n.tmod 2 := ⟨_, rfl⟩
  obtain ⟨s, hs⟩ : ∃ s, s = n.tmod 4 := ⟨_, rfl⟩
  rw [← hr] at a1 a2 a3 a4 ⊢
  rw [← hs] at b1 b2 b3 b4 ⊢
  unfold sdig
  by_cases h : n % 2 = 0
  · rw [if_pos h]; left; omega
  · rw [if_neg h]
    by_cases h' : n % 4 = 1
    · rw [if_pos h']; omega
    · rw [if_neg h']; omega
theorem shalf_go (n : Int) : (n - sdig n).tdiv 2 = (n - sdig n) / 2 := by
  obtain ⟨d1, _, _⟩ := sdig_facts n
  obtain ⟨p, hp⟩ : ∃ p, p = (n - sdig n) / 2 := ⟨_, rfl⟩
  rw [← hp] at d1 ⊢
  rw [show n - sdig n = 2 * p by omega]
  exact Int.mul_tdiv_cancel_left _ (by omega)

set_option maxHeartbeats 4000000 in
theorem specSp_any (n : Int) (w : World) (hn1 : -1000000000000 ≤ n) (hn2 : n ≤ 1000000000000) :
    Calls Try.prog 61 #[.int .i64 n] w fun e w' => ∃ v, e = .returned v ∧ w'.ownsRow w.heap.size 3 1 v (spd n).length (intsOf (spd n)) ∧ Below w.heap.size w w' := by
  obtain ⟨i0, hi, hz0, hz1, hz2⟩ := info_parts infoInt
  have HLN := Lib.hid (spd_len42 hn1 hn2)
  obtain ⟨L, hL⟩ : ∃ L, L = spd n := ⟨_, rfl⟩
  rw [← hL] at HLN
  have HL := Lib.hid hL
  go_enter Try.func61, Try.ntmps61
  go_wp2
  go_loopw [0, 3] (fun i v wr => ∃ (x : Int) (o : List Int), i = .int .i64 x ∧ -1000000000000 ≤ x ∧ x ≤ 1000000000000 ∧ o ++ spd x = L ∧ wr.ownsRow w.heap.size 3 1 v o.length (intsOf o) ∧ Below w.heap.size w wr) (fun i _ _ => (intOf i).natAbs)
  case atStart => exact ⟨n, [], rfl, hn1, hn2, by rw [HL.out]; rfl, World.ownsRow_lit w #[] 0 (Nat.le_refl _) (by decide) rfl, (Below.refl _ _).alloc (Nat.le_refl _) _⟩
  case round =>
    obtain ⟨x, o, rfl, hx1, hx2, he, hown, hB⟩ := hrel
    have hsz := hB.size
    by_cases h0 : x = 0
    · subst h0
      rw [spd_zero, List.append_nil] at he
      have HE := Lib.hid (show o = spd n by rw [he, HL.out])
      have HO := Lib.hid hown
      clear he hown hL
      go_wp2
      go_ret
      exact ⟨_, rfl, by rw [← HE.out]; exact HO.out, hB⟩
    · have hq : (x != 0) = true := by simp [h0]
      rw [spd_step h0] at he
      have hmu := sdig_lt h0
      have hgo := sdig_go x
      have hqe := shalf_go x
      obtain ⟨d1, d2, d3, _⟩ := sdig_facts x
      have hqb := sdig_half x
      have hol : o.length ≤ 42 := by have := HLN.out; rw [← he] at this; simp at this; omega
      have HST := Lib.hid (show (o ++ [sdig x]) ++ spd ((x - sdig x) / 2) = L by rw [← he]; simp)
      have HMU := Lib.hid hmu
      obtain ⟨d, hd⟩ : ∃ d, d = sdig x := ⟨_, rfl⟩
      rw [← hd] at d1 d2 d3 hqe hqb hgo HST HMU
      obtain ⟨p, hp⟩ : ∃ p, p = (x - d) / 2 := ⟨_, rfl⟩
      rw [← hp] at hqe hqb HST HMU d1
      have hp1 : -1000000000000 ≤ p := by omega
      have hp2 : p ≤ 1000000000000 := by omega
      clear hmu he hL d1 hd hp hqb
      rcases hgo with ⟨g1, rfl⟩ | ⟨g1, g2, rfl⟩ | ⟨g1, g2, g3, rfl⟩ | ⟨g1, g2, g3, rfl⟩
      all_goals
        try simp only [Int.sub_zero, Int.sub_neg] at hqe
        go_wp2_with (at_builtin; refine wpList_append_own_at _ rfl _ _ 22 rfl w.heap.size 3 i0 (.int .i64 0) 1 8 Try.underlying22 hi hz0 hz1 hz2 rfl (by decide) _ _ _ rfl (hown.alloc _) ⟨wr.heap.size, 0, none⟩ 1 1 [.int .i64 _] rfl rfl (one_cell _ _ _) (by intro u hu; simp at hu; subst hu; rfl) (by unfold maxLen; omega) (by omega) (by simp; omega) ?_)
        intro v' w1 hown' hgrow _ _
        have hB1 := (hB.alloc hsz _).grown hgrow (by simp; omega) (fun j hj => (hown.lt j hj).1)
        have HO := Lib.hid hown'
        clear hown' hgrow
        go_wp2_with fail
        go_roundw
        case rel => exact ⟨p, o ++ [_], rfl, hp1, hp2, HST.out, by simpa [intsOf] using HO.out, hB1⟩
        case measure => simpa [intOf] using HMU.out

theorem wt_take {l : List Int} {k : Nat} (h : k < l.length) : wt (l.take (k + 1)) = wt (l.take k) + (if l[k] = 0 then 0 else 1) := by
  rw [List.take_succ_eq_append_getElem h, wt_snoc]

set_option maxHeartbeats 1000000 in
theorem specWt_any (v : Value) (l : List Int) (w : World) (hr : RowAt w v (intsOf l)) (hl : l.length ≤ 1048576) :
    Calls Try.prog 59 #[v] w fun e w' => e = .returned (.int .i64 (wt l)) ∧ w = w' := by
  obtain ⟨a, cap, rfl, h1, h2, h3⟩ := hr.ints
  unfold maxLen at h2
  go_enter Try.func59, Try.ntmps59
  go_wp2
  go_loop [3, 8] (fun x i => ∃ k : Nat, k ≤ l.length ∧ i = .int .i64 k ∧ x = .int .i64 (wt (l.take k))) (fun _ i => l.length - (intOf i).toNat)
  case atStart => exact ⟨0, Nat.zero_le _, rfl, rfl⟩
  case round =>
    obtain ⟨k, hk, rfl, rfl⟩ := hrel
    by_cases hlt : k < l.length
    · obtain ⟨b', off, rfl, hbb, hcell⟩ := h3.resolve_left (fun e => by rw [e] at hlt; simp at hlt)
      have hc := hcell k hlt
      have HX := Lib.hid (wt_take hlt)
      have hwl : wt (l.take k) ≤ 1048576 := by have := wt_le (l.take k); rw [List.length_take] at this; omega
      obtain ⟨q, hq⟩ : ∃ q, q = wt (l.take k) := ⟨_, rfl⟩
      obtain ⟨y, hy⟩ : ∃ y, y = l[k] := ⟨_, rfl⟩
      rw [← hq] at HX hwl ⊢
      rw [← hy] at HX hc
      clear h3 hcell hq hy
      by_cases h0 : y = 0
      · have hb : (y != 0) = false := by simp [h0]
        have HV := Lib.hid (show wt (l.take (k + 1)) = q by rw [HX.out, if_pos h0, Nat.add_zero])
        clear h0
        go_wp2_with fail
        go_round
        case rel => exact ⟨k + 1, by omega, by go_num, by rw [HV.out]⟩
        case measure => simp [intOf]; omega
      · have hb : (y != 0) = true := by simp [h0]
        have HV := Lib.hid (show wt (l.take (k + 1)) = q + 1 by rw [HX.out, if_neg h0])
        clear h0
        go_wp2_with fail
        go_round
        case rel => exact ⟨k + 1, by omega, by go_num, by rw [HV.out]; go_num⟩
        case measure => simp [intOf]; omega
    · have hkl : k = l.length := by omega
      subst hkl
      have HV := Lib.hid (show wt (l.take l.length) = wt l by rw [List.take_length])
      clear h3
      go_wp2
      go_ret
      exact ⟨by rw [← HV.out]; rfl, rfl⟩

set_option maxHeartbeats 1000000 in
theorem specWeightOf_any (v : Value) (l : List Int) (w : World) (hr : RowAt w v (intsOf l)) (hl : l.length ≤ 1048576) (hi : ∀ n ∈ l, in64 n) :
    Calls Try.prog 35 #[v] w fun e w' => e = .returned (.int .i64 (rWeightOf0 l)) ∧ Below w.heap.size w w' := by
  have H1 := Lib.hid (specSg_eq v l w hr hl hi)
  have H2 := Lib.hid (specWt_any v l w hr hl)
  clear hr hi
  cases h : okS l
  · rw [h] at H1
    have E0 := Lib.hid (show rWeightOf0 l = -1 by rw [rWeightOf0, h]; rfl)
    clear h
    go_enter Try.func35, Try.ntmps35
    go_wp2_with fail
    refine H1.out.mono ?_
    rintro e w' ⟨rfl, rfl⟩
    go_wp2_with fail
    go_ret
    exact ⟨by rw [E0.out]; rfl, Below.refl _ _⟩
  · rw [h] at H1
    have E0 := Lib.hid (show rWeightOf0 l = wt l by rw [rWeightOf0, h]; rfl)
    clear h
    go_enter Try.func35, Try.ntmps35
    go_wp2_with fail
    refine H1.out.mono ?_
    rintro e w' ⟨rfl, rfl⟩
    go_wp2_with fail
    refine H2.out.mono ?_
    rintro e w' ⟨rfl, rfl⟩
    go_wp2_with fail
    go_ret
    exact ⟨by rw [E0.out]; rfl, Below.refl _ _⟩

set_option maxHeartbeats 1000000 in
theorem specLeastWeight_any (n : Int) (w : World) (hn : in64 n) :
    Calls Try.prog 37 #[.int .i64 n] w fun e w' => e = .returned (.int .i64 (rLeastWeight0 n)) ∧ Below w.heap.size w w' := by
  have H2 := Lib.hid (sIn_any n (-1000000000000) 1000000000000 w)
  clear hn
  cases h2 : inB n (-1000000000000) 1000000000000
  · rw [h2] at H2
    have E0 := Lib.hid (show rLeastWeight0 n = -1 by rw [rLeastWeight0, inN, h2]; rfl)
    clear h2
    go_enter Try.func37, Try.ntmps37
    go_wp2_with fail
    refine H2.out.mono ?_
    rintro e w' ⟨rfl, rfl⟩
    go_wp2_with fail
    go_ret
    exact ⟨by rw [E0.out]; rfl, Below.refl _ _⟩
  · rw [h2] at H2
    obtain ⟨hn1, hn2⟩ := inB_yes h2
    have E0 := Lib.hid (show rLeastWeight0 n = wt (spd n) by rw [rLeastWeight0, inN, h2]; rfl)
    have HD := Lib.hid (specSp_any n w hn1 hn2)
    have HLN := Lib.hid (spd_len42 hn1 hn2)
    obtain ⟨L, hL⟩ : ∃ L, L = spd n := ⟨_, rfl⟩
    rw [← hL] at E0 HD HLN
    clear h2 hL
    go_enter Try.func37, Try.ntmps37
    go_wp2_with fail
    refine H2.out.mono ?_
    rintro e w' ⟨rfl, rfl⟩
    go_wp2_with fail
    refine HD.out.mono ?_
    rintro e w1 ⟨v, rfl, ho, hB⟩
    have HW := Lib.hid (specWt_any v L w1 (RowAt.of_owns ho) (by have := HLN.out; omega))
    obtain ⟨av, cv, e2, _, _⟩ := owns_form ho
    clear ho
    subst e2
    go_wp2_with fail
    refine HW.out.mono ?_
    rintro e w2 ⟨rfl, rfl⟩
    go_wp2_with fail
    go_ret
    exact ⟨by rw [E0.out]; rfl, hB⟩

set_option maxHeartbeats 1000000 in
theorem specStepsOf_any (n : Int) (w : World) (hn : in64 n) :
    Calls Try.prog 39 #[.int .i64 n] w fun e w' => e = .returned (.int .i64 (rStepsOf0 n)) ∧ Below w.heap.size w w' := by
  have H2 := Lib.hid (sIn_any n 0 1000000000000 w)
  clear hn
  cases h2 : inB n 0 1000000000000
  · rw [h2] at H2
    have E0 := Lib.hid (show rStepsOf0 n = -1 by rw [rStepsOf0, h2]; rfl)
    clear h2
    go_enter Try.func39, Try.ntmps39
    go_wp2_with fail
    refine H2.out.mono ?_
    rintro e w' ⟨rfl, rfl⟩
    go_wp2_with fail
    go_ret
    exact ⟨by rw [E0.out]; rfl, Below.refl _ _⟩
  · rw [h2] at H2
    obtain ⟨hn1, hn2⟩ := inB_yes h2
    have HD := Lib.hid (specSp_any n w (by omega) hn2)
    have HLN := Lib.hid (spd_len42 (show -1000000000000 ≤ n by omega) hn2)
    have HZ := Lib.hid (fun h : (spd n).length = 0 => show rStepsOf0 n = 0 by
      have e : n = 0 := by have := sv_sp n; rw [List.eq_nil_of_length_eq_zero h] at this; exact this.symm
      rw [rStepsOf0, h2, if_pos rfl, if_pos e])
    have HY := Lib.hid (fun h : (spd n).length ≠ 0 => show rStepsOf0 n = ((spd n).length : Int) + wt (spd n) - 2 by
      have e : n ≠ 0 := fun e => by rw [e, spd_zero] at h; simp at h
      rw [rStepsOf0, h2, if_pos rfl, if_neg e]; rfl)
    obtain ⟨L, hL⟩ : ∃ L, L = spd n := ⟨_, rfl⟩
    rw [← hL] at HZ HY HD HLN
    clear h2 hL
    go_enter Try.func39, Try.ntmps39
    go_wp2_with fail
    refine H2.out.mono ?_
    rintro e w' ⟨rfl, rfl⟩
    go_wp2_with fail
    refine HD.out.mono ?_
    rintro e w1 ⟨v, rfl, ho, hB⟩
    have HW := Lib.hid (specWt_any v L w1 (RowAt.of_owns ho) (by have := HLN.out; omega))
    obtain ⟨av, cv, e2, hc1, hc2⟩ := owns_form ho
    clear ho
    subst e2
    unfold maxLen at hc2
    have hLl := HLN.out
    have hwl := wt_le L
    obtain ⟨k, hk⟩ : ∃ k, k = L.length := ⟨_, rfl⟩
    obtain ⟨q, hq⟩ : ∃ q, q = wt L := ⟨_, rfl⟩
    rw [← hk] at HZ HY HW hLl hc1 hwl ⊢
    rw [← hq] at HW HY hwl
    clear hk hq HLN
    by_cases h0 : k = 0
    · have E0 := Lib.hid (HZ.out h0)
      have hb : ((k : Int) == 0) = true := by simp [h0]
      clear h0 HZ HY
      go_wp2_with fail
      go_ret
      exact ⟨by rw [E0.out]; rfl, hB⟩
    · have E0 := Lib.hid (HY.out h0)
      have hb : ((k : Int) == 0) = false := by simp [h0]
      clear h0 HZ HY
      go_wp2_with fail
      refine HW.out.mono ?_
      rintro e w2 ⟨rfl, rfl⟩
      go_wp2_with fail
      go_ret
      exact ⟨by rw [E0.out]; go_num, hB⟩

end Go.Proofs.Ytdflpocnfodbhac
