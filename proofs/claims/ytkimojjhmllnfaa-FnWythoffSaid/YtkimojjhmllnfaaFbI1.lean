/- Fibonacci digits, the program: places, full numbers, sums, neighbours, tests and values. -/
import Derived.Test.YtkimojjhmllnfaaFbPair
import Derived.Test.YtkimojjhmllnfaaFbI0
set_option linter.unusedVariables false
set_option linter.unusedSimpArgs false
set_option maxRecDepth 100000
namespace Go.Proofs.Ytkimojjhmllnfaa
open Go.ChangeShapes Go.WideShapes Go.ChangeAt Go.RowKit

theorem fits_any (n : Int) (w : World) :
    Calls Try.prog 49 #[.int .i64 n] w fun e w' => e = .returned (.bool (inB n 0 500000000000)) ∧ w = w' := by
  by_cases h : 0 ≤ n
  · have HK := Lib.hid (show inB n 0 500000000000 = decide (n ≤ 500000000000) by simp [inB, h])
    go_enter Try.func49, Try.ntmps49
    go_wp2
    all_goals (go_ret; exact ⟨ret_bool HK.out.symm, rfl⟩)
  · have h' : n < 0 := by omega
    have HK := Lib.hid (show inB n 0 500000000000 = false by simp [inB, h])
    go_enter Try.func49, Try.ntmps49
    go_wp2
    all_goals (go_ret; exact ⟨ret_bool HK.out.symm, rfl⟩)

set_option maxHeartbeats 1000000 in
theorem implPlace_any (k : Nat) (w : World) (hk : k ≤ 58) :
    Calls Try.prog 27 #[.int .i64 k] w fun e w' => e = .returned (.int .i64 (fp k)) ∧ w = w' := by
  have HB := Lib.hid (fun (j : Nat) (hj : j ≤ 60) => fp_60 hj)
  have hk0 : ¬ (k : Int) < 0 := by omega
  have hk1 : ¬ (58 : Int) < k := by omega
  go_enter Try.func27, Try.ntmps27
  go_wp2
  go_loop [3, 4, 12] (fun a b i => ∃ j : Nat, j ≤ k ∧ i = .int .i64 j ∧ a = .int .i64 (fp j) ∧ b = .int .i64 (fp (j + 1))) (fun _ _ i => k - (intOf i).toNat)
  case atStart => exact ⟨0, Nat.zero_le _, rfl, rfl, rfl⟩
  case round =>
    obtain ⟨j, hj, rfl, rfl, rfl⟩ := hrel
    have b1 := HB.out j (by omega)
    have b2 := HB.out (j + 1) (by omega)
    by_cases hlt : j < k
    · have HN := Lib.hid (fp_s j)
      obtain ⟨A, hA⟩ : ∃ A, A = fp j := ⟨_, rfl⟩
      obtain ⟨B, hB⟩ : ∃ B, B = fp (j + 1) := ⟨_, rfl⟩
      rw [← hA, ← hB] at HN
      rw [← hA] at b1
      rw [← hB] at b2
      rw [← hA, ← hB]
      have HBB := Lib.hid hB
      clear hA hB
      go_wp2
      go_round
      case rel => exact ⟨j + 1, hlt, by go_num, by rw [HBB.out], by rw [HN.out]; go_num⟩
      case measure => simp [intOf]; omega
    · have hjk : j = k := by omega
      subst hjk
      obtain ⟨A, hA⟩ : ∃ A, A = fp j := ⟨_, rfl⟩
      rw [← hA] at b1 ⊢
      have hn9 : ¬ (j : Int) < j := by omega
      have HAE := Lib.hid hA
      clear hA
      go_wp2
      go_ret
      exact ⟨by rw [← HAE.out]; rfl, rfl⟩

theorem implFibPlace_any (k : Int) (w : World) (hk : in64 k) :
    Calls Try.prog 27 #[.int .i64 k] w fun e w' => e = .returned (.int .i64 (rFibPlace0 k)) ∧ Below w.heap.size w w' := by
  cases h : inB k 0 58
  · have E0 := Lib.hid (show rFibPlace0 k = 0 by rw [rFibPlace0, h]; rfl)
    by_cases h0 : k < 0
    · clear h
      go_enter Try.func27, Try.ntmps27
      go_wp2
      go_ret
      exact ⟨by rw [E0.out]; rfl, Below.refl _ _⟩
    · have h58 : 58 < k := by simp [inB] at h; omega
      clear h
      go_enter Try.func27, Try.ntmps27
      go_wp2
      go_ret
      exact ⟨by rw [E0.out]; rfl, Below.refl _ _⟩
  · obtain ⟨k0, k1⟩ := inB_yes h
    obtain ⟨j, rfl⟩ : ∃ j : Nat, k = j := ⟨k.toNat, by omega⟩
    refine (implPlace_any j w (by omega)).mono ?_
    rintro e w' ⟨rfl, rfl⟩
    exact ⟨by rw [show rFibPlace0 j = fp j by rw [rFibPlace0, h]; rfl], Below.refl _ _⟩

theorem full_any (k : Nat) (w : World) (hk : k ≤ 57) :
    Calls Try.prog 50 #[.int .i64 k] w fun e w' => e = .returned (.int .i64 ((fp (k + 1) : Int) - 2)) ∧ w = w' := by
  have HP := Lib.hid (implPlace_any (k + 1) w (by omega))
  have hb := fp_60 (show k + 1 ≤ 60 by omega)
  obtain ⟨A, hA⟩ : ∃ A, A = fp (k + 1) := ⟨_, rfl⟩
  rw [← hA] at HP hb ⊢
  rw [show ((k + 1 : Nat) : Int) = (k : Int) + 1 by omega] at HP
  clear hA
  go_enter Try.func50, Try.ntmps50
  go_wp2_with fail
  refine HP.out.mono ?_
  rintro e w' ⟨rfl, rfl⟩
  go_wp2_with fail
  go_ret
  exact ⟨rfl, rfl⟩

set_option maxHeartbeats 2000000 in
theorem sumFrom_any (v : Value) (l : List Int) (g : Nat) (w : World) (hr : RowAt w v (intsOf l)) (hl : g + l.length ≤ 59) (hb : B01 l) :
    Calls Try.prog 52 #[v, .int .i64 g] w fun e w' => e = .returned (.int .i64 (vL g l)) ∧ w = w' := by
  obtain ⟨a, cap, rfl, h1, h2, h3⟩ := hr.ints
  unfold maxLen at h2
  have HB := Lib.hid (fun (j : Nat) (hj : j ≤ 60) => fp_60 hj)
  have HV := Lib.hid (fun k => vL_bd g hb hl k)
  have H01 := Lib.hid hb
  have HP := Lib.hid (fun j (hj : j ≤ 58) W => implPlace_any j W hj)
  clear hr hb
  go_enter Try.func52, Try.ntmps52
  go_wp2
  go_loop [5, 10] (fun n i => ∃ k : Nat, k ≤ l.length ∧ i = .int .i64 k ∧ n = .int .i64 (vL g (l.take k))) (fun _ i => l.length - (intOf i).toNat)
  case atStart => exact ⟨0, Nat.zero_le _, rfl, rfl⟩
  case round =>
    obtain ⟨k, hk, rfl, rfl⟩ := hrel
    have v1 := HV.out k
    by_cases hlt : k < l.length
    · obtain ⟨b', off, rfl, hbb, hcell⟩ := h3.resolve_left (fun e => by rw [e] at hlt; simp at hlt)
      have hc := hcell k hlt
      have hd := H01.out _ (List.getElem_mem hlt)
      have b1 := HB.out (g + k) (by omega)
      have v2 := HV.out (k + 1)
      have hvt := vL_takeG g hlt
      rw [hvt] at v2
      have HPK := Lib.hid (HP.out (g + k) (by omega))
      have HT := Lib.hid hvt
      obtain ⟨d, hde⟩ : ∃ d, d = l[k] := ⟨_, rfl⟩
      obtain ⟨A, hA⟩ : ∃ A, A = fp (g + k) := ⟨_, rfl⟩
      obtain ⟨N, hN⟩ : ∃ N, N = vL g (l.take k) := ⟨_, rfl⟩
      rw [← hde] at hc hd v2 HT
      rw [← hA] at b1 v2 HPK HT
      rw [← hN] at v1 v2 HT ⊢
      rw [show ((g + k : Nat) : Int) = (g : Int) + k by omega] at HPK
      have hgk : (g : Int) + k ≤ 1000 := by omega
      clear h3 hcell hvt hde hA hN
      rcases hd with rfl | rfl
      · have HT2 := Lib.hid (show vL g (l.take (k + 1)) = N by rw [HT.out]; simp)
        clear v2
        go_wp2_with (go_at_call 27; refine (HPK.out _).mono ?_; rintro e w' ⟨rfl, rfl⟩)
        go_round
        case rel => exact ⟨k + 1, hlt, by go_num, by rw [HT2.out]⟩
        case measure => simp [intOf]; omega
      · have HT2 := Lib.hid (show ((vL g (l.take (k + 1)) : Nat) : Int) = (N : Int) + A by rw [HT.out]; simp)
        have v3 : (N : Int) + A ≤ 4052739537881 := by simp at v2; omega
        clear v2
        go_wp2_with (go_at_call 27; refine (HPK.out _).mono ?_; rintro e w' ⟨rfl, rfl⟩)
        go_round
        case rel => exact ⟨k + 1, hlt, by go_num, by rw [HT2.out]⟩
        case measure => simp [intOf]; omega
    · have hkl : k = l.length := by omega
      have HE := Lib.hid (show vL g (l.take k) = vL g l by rw [hkl, List.take_length])
      obtain ⟨N, hNe⟩ : ∃ N, N = vL g (l.take k) := ⟨_, rfl⟩
      rw [← hNe] at HE v1 ⊢
      have hn9 : ¬ (k : Int) < l.length := by omega
      clear h3 hNe
      go_wp2
      go_ret
      exact ⟨by rw [← HE.out]; rfl, rfl⟩

set_option maxHeartbeats 4000000 in
theorem hasPair_any (v : Value) (l : List Int) (x : Int) (w : World) (hr : RowAt w v (intsOf l)) (hl : l.length ≤ 1048577) :
    Calls Try.prog 55 #[v, .int .i64 x] w fun e w' => e = .returned (.bool (prs x l)) ∧ w = w' := by
  obtain ⟨a, cap, rfl, h1, h2, h3⟩ := hr.ints
  unfold maxLen at h2
  clear hr
  obtain ⟨RES, hRES⟩ : ∃ RES, RES = prs x l := ⟨_, rfl⟩
  rw [← hRES]
  have HR := Lib.hid hRES
  clear hRES
  go_enter Try.func55, Try.ntmps55
  go_wp2
  go_loop [5] (fun i => ∃ k : Nat, (k ≤ l.length ∨ k = 1) ∧ 1 ≤ k ∧ i = .int .i64 k ∧ prs x (l.take k) = false) (fun i => l.length - (intOf i).toNat)
  case atStart => exact ⟨1, .inr rfl, Nat.le_refl _, rfl, by cases l <;> simp [prs]⟩
  case round =>
    obtain ⟨k, hk, hk1, rfl, hp⟩ := hrel
    have HP := Lib.hid hp
    clear hp
    by_cases hlt : k < l.length
    · obtain ⟨b', off, rfl, hbb, hcell⟩ := h3.resolve_left (fun e => by rw [e] at hlt; simp at hlt)
      obtain ⟨j, rfl⟩ : ∃ j, k = j + 1 := ⟨k - 1, by omega⟩
      have hc := hcell (j + 1) hlt
      have hc0 := hcell j (by omega)
      have hT := prs_take (x := x) hlt
      rw [HP.out, Bool.false_or] at hT
      have HM := Lib.hid (fun h => prs_more x (l.drop (j + 2)) (l.take (j + 2)) h)
      rw [List.take_append_drop] at HM
      obtain ⟨y, hy⟩ : ∃ y, y = l[j + 1] := ⟨_, rfl⟩
      obtain ⟨z, hz⟩ : ∃ z, z = l[j] := ⟨_, rfl⟩
      rw [← hy, ← hz] at hT
      rw [← hy] at hc
      rw [← hz] at hc0
      clear h3 hcell hy hz hk
      by_cases hzx : z = x
      · by_cases hyx : y = x
        · have HT := Lib.hid (show prs x l = true from HM.out (by rw [hT]; simp [hyx, hzx]))
          subst hyx
          subst hzx
          clear hT
          go_wp2
          go_ret
          exact ⟨by rw [HR.out, HT.out]; rfl, rfl⟩
        · have HN := Lib.hid (show prs x (l.take (j + 1 + 1)) = false by rw [hT]; simp [hyx])
          have hyb : (y == x) = false := by simpa using hyx
          subst hzx
          clear hT hyx
          go_wp2
          go_round
          case rel => exact ⟨j + 2, .inl (by omega), by omega, by go_num, HN.out⟩
          case measure => simp [intOf]; omega
      · have HN := Lib.hid (show prs x (l.take (j + 1 + 1)) = false by rw [hT]; simp [hzx])
        have hzb : (z == x) = false := by simpa using hzx
        clear hT hzx
        go_wp2
        go_round
        case rel => exact ⟨j + 2, .inl (by omega), by omega, by go_num, HN.out⟩
        case measure => simp [intOf]; omega
    · have HF := Lib.hid (show prs x l = false by have := HP.out; rwa [List.take_of_length_le (by omega)] at this)
      have hn9 : ¬ (k : Int) < l.length := by omega
      clear h3 hk
      go_wp2
      go_ret
      exact ⟨by rw [HR.out, HF.out]; rfl, rfl⟩

theorem fb2_any (v : Value) (l : List Int) (w : World) (hr : RowAt w v (intsOf l)) (hl : l.length ≤ 1048576) :
    Calls Try.prog 25 #[v] w fun e w' => e = .returned (.bool (okF l)) ∧ w = w' := by
  have HW := Lib.hid (withinR_any v l 0 1 w hr hl)
  obtain ⟨a, cap, rfl, h1, h2, h3⟩ := hr.ints
  unfold maxLen at h2
  clear h3 hr
  by_cases h58 : 58 < l.length
  · have HK := Lib.hid (okF_long h58)
    have hle : ¬ (l.length : Int) ≤ 58 := by omega
    go_enter Try.func25, Try.ntmps25
    go_wp2_with fail
    go_ret
    exact ⟨ret_bool HK.out.symm, rfl⟩
  · have HK := Lib.hid (okF_in l (by omega))
    have hle : (l.length : Int) ≤ 58 := by omega
    obtain ⟨R, hR⟩ : ∃ R, R = okIn l 0 1 := ⟨_, rfl⟩
    rw [← hR] at HW HK
    clear hR
    go_enter Try.func25, Try.ntmps25
    go_wp2_with fail
    refine HW.out.mono ?_
    rintro e w' ⟨rfl, rfl⟩
    go_wp2_with fail
    go_ret
    exact ⟨by rw [← HK.out]; rfl, rfl⟩

theorem implFibOk_any (v : Value) (l : List Int) (w : World) (hr : RowAt w v (intsOf l)) (hl : l.length ≤ 1048576) (hi : ∀ n ∈ l, in64 n) :
    Calls Try.prog 25 #[v] w fun e w' => e = .returned (.bool (rFibOk0 l)) ∧ Below w.heap.size w w' := by
  refine (fb2_any v l w hr hl).mono ?_
  rintro e w' ⟨rfl, rfl⟩
  exact ⟨rfl, Below.refl _ _⟩

theorem implFibValue_any (v : Value) (l : List Int) (w : World) (hr : RowAt w v (intsOf l)) (hl : l.length ≤ 1048576) (hi : ∀ n ∈ l, in64 n) :
    Calls Try.prog 19 #[v] w fun e w' => e = .returned (.tuple #[.int .i64 (rFibValue0 l), .bool (rFibValue1 l)]) ∧ Below w.heap.size w w' := by
  have HK := Lib.hid (fb2_any v l w hr hl)
  have HV := Lib.hid (fun h1 h2 => sumFrom_any v l 0 w hr h1 h2)
  obtain ⟨a, cap, rfl, h1, h2, h3⟩ := hr.ints
  clear h3 hr hi
  cases h : okF l
  · rw [h] at HK
    have E0 := Lib.hid (show rFibValue0 l = 0 ∧ rFibValue1 l = false by rw [rFibValue0, rFibValue1, fvOk, h]; exact ⟨rfl, rfl⟩)
    clear h
    go_enter Try.func19, Try.ntmps19
    go_wp2_with fail
    refine HK.out.mono ?_
    rintro e w' ⟨rfl, rfl⟩
    go_wp2_with fail
    go_ret2
    exact ⟨by rw [E0.out.1, E0.out.2]; rfl, Below.refl _ _⟩
  · rw [h] at HK
    obtain ⟨k1, k2, _⟩ := okF_yes h
    have HVV := Lib.hid (HV.out (by omega) k2)
    have hvl : vL 0 l ≤ 4052739537881 := by
      have h' := vL_le (l := l) 0 k2
      have := fp_60 (show 0 + l.length + 1 ≤ 60 by omega)
      omega
    by_cases hb : vL 0 l ≤ 1000000000000
    · have E0 := Lib.hid (show rFibValue0 l = vL 0 l ∧ rFibValue1 l = true by rw [rFibValue0, rFibValue1, fvOk, h, decide_eq_true hb]; exact ⟨rfl, rfl⟩)
      obtain ⟨N, hNe⟩ : ∃ N, N = vL 0 l := ⟨_, rfl⟩
      rw [← hNe] at E0 HVV hb hvl
      have hbI : ¬ (1000000000000 : Int) < N := by omega
      clear h hNe
      go_enter Try.func19, Try.ntmps19
      go_wp2_with fail
      refine HK.out.mono ?_
      rintro e w' ⟨rfl, rfl⟩
      go_wp2_with fail
      refine HVV.out.mono ?_
      rintro e w' ⟨rfl, rfl⟩
      go_wp2_with fail
      go_ret2
      exact ⟨by rw [E0.out.1, E0.out.2]; rfl, Below.refl _ _⟩
    · have E0 := Lib.hid (show rFibValue0 l = 0 ∧ rFibValue1 l = false by rw [rFibValue0, rFibValue1, fvOk, h, decide_eq_false hb]; exact ⟨rfl, rfl⟩)
      obtain ⟨N, hNe⟩ : ∃ N, N = vL 0 l := ⟨_, rfl⟩
      rw [← hNe] at HVV hb hvl
      have hbI : (1000000000000 : Int) < N := by omega
      clear h hNe
      go_enter Try.func19, Try.ntmps19
      go_wp2_with fail
      refine HK.out.mono ?_
      rintro e w' ⟨rfl, rfl⟩
      go_wp2_with fail
      refine HVV.out.mono ?_
      rintro e w' ⟨rfl, rfl⟩
      go_wp2_with fail
      go_ret2
      exact ⟨by rw [E0.out.1, E0.out.2]; rfl, Below.refl _ _⟩

theorem implIsSparseFib_any (v : Value) (l : List Int) (w : World) (hr : RowAt w v (intsOf l)) (hl : l.length ≤ 1048576) (hi : ∀ n ∈ l, in64 n) :
    Calls Try.prog 21 #[v] w fun e w' => e = .returned (.bool (rIsSparseFib0 l)) ∧ Below w.heap.size w w' := by
  have HK := Lib.hid (fb2_any v l w hr (by omega))
  have HP := Lib.hid (hasPair_any v l 1 w hr (by omega))
  obtain ⟨a, cap, rfl, h1, h2, h3⟩ := hr.ints
  clear h3 hr hi
  cases h : okF l
  · rw [h] at HK
    have E0 := Lib.hid (show rIsSparseFib0 l = false by rw [rIsSparseFib0, h]; rfl)
    clear h
    go_enter Try.func21, Try.ntmps21
    go_wp2_with fail
    refine HK.out.mono ?_
    rintro e w' ⟨rfl, rfl⟩
    go_wp2_with fail
    go_ret
    exact ⟨by rw [E0.out]; rfl, Below.refl _ _⟩
  · rw [h] at HK
    have E0 := Lib.hid (show rIsSparseFib0 l = !prs 1 l by rw [rIsSparseFib0, h]; rfl)
    obtain ⟨p, hp⟩ : ∃ p, p = prs 1 l := ⟨_, rfl⟩
    rw [← hp] at E0 HP
    clear h hp
    go_enter Try.func21, Try.ntmps21
    go_wp2_with fail
    refine HK.out.mono ?_
    rintro e w' ⟨rfl, rfl⟩
    go_wp2_with fail
    refine HP.out.mono ?_
    rintro e w' ⟨rfl, rfl⟩
    go_wp2_with fail
    go_ret
    exact ⟨by rw [E0.out]; rfl, Below.refl _ _⟩

theorem implIsDenseFib_any (v : Value) (l : List Int) (w : World) (hr : RowAt w v (intsOf l)) (hl : l.length ≤ 1048576) (hi : ∀ n ∈ l, in64 n) :
    Calls Try.prog 22 #[v] w fun e w' => e = .returned (.bool (rIsDenseFib0 l)) ∧ Below w.heap.size w w' := by
  have HK := Lib.hid (fb2_any v l w hr (by omega))
  have HP := Lib.hid (hasPair_any v l 0 w hr (by omega))
  obtain ⟨a, cap, rfl, h1, h2, h3⟩ := hr.ints
  clear h3 hr hi
  cases h : okF l
  · rw [h] at HK
    have E0 := Lib.hid (show rIsDenseFib0 l = false by rw [rIsDenseFib0, h]; rfl)
    clear h
    go_enter Try.func22, Try.ntmps22
    go_wp2_with fail
    refine HK.out.mono ?_
    rintro e w' ⟨rfl, rfl⟩
    go_wp2_with fail
    go_ret
    exact ⟨by rw [E0.out]; rfl, Below.refl _ _⟩
  · rw [h] at HK
    have E0 := Lib.hid (show rIsDenseFib0 l = !prs 0 l by rw [rIsDenseFib0, h]; rfl)
    obtain ⟨p, hp⟩ : ∃ p, p = prs 0 l := ⟨_, rfl⟩
    rw [← hp] at E0 HP
    clear h hp
    go_enter Try.func22, Try.ntmps22
    go_wp2_with fail
    refine HK.out.mono ?_
    rintro e w' ⟨rfl, rfl⟩
    go_wp2_with fail
    refine HP.out.mono ?_
    rintro e w' ⟨rfl, rfl⟩
    go_wp2_with fail
    go_ret
    exact ⟨by rw [E0.out]; rfl, Below.refl _ _⟩

end Go.Proofs.Ytkimojjhmllnfaa
