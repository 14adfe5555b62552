/- Fibonacci digits, the program: sparse digits, shifted numbers, pairs. -/
import Derived.Test.YtkimojjhmllnfaaFbRoot
import Derived.Test.YtkimojjhmllnfaaFbPyt
import Derived.Test.YtkimojjhmllnfaaFbI1
set_option linter.unusedVariables false
set_option linter.unusedSimpArgs false
set_option maxRecDepth 100000
namespace Go.Proofs.Ytkimojjhmllnfaa
open Go.ChangeShapes Go.WideShapes Go.ChangeAt Go.RowKit

theorem ints_set (l : List Int) (j : Nat) (d : Int) : (intsOf l).set j (.int .i64 d) = intsOf (l.set j d) := by
  unfold intsOf; rw [List.map_set]
theorem ints_get {l : List Int} {j : Nat} {x : Int} (h : l[j]? = some x) : (intsOf l)[j]? = some (.int .i64 x) := by
  unfold intsOf; rw [List.getElem?_map, h]; rfl
theorem owns_off {w : World} {base : Nat} {e : TypeId} {v : Value} {n : Nat} {xs : List Value} (h : w.ownsRow base e 1 v n xs) (p : Addr) (u : Value) (hp : p.block < base) : (w.setCell p u).ownsRow base e 1 v n xs := by
  obtain ⟨hl, h2⟩ := h
  refine ⟨hl, ?_⟩
  rcases h2 with h2 | ⟨g, cap, cur, hv, hg, hh, r⟩
  · exact .inl h2
  · exact .inr ⟨g, cap, cur, hv, hg, by rw [Below.heap_setCell w p u g (by omega)]; exact hh, r⟩

set_option maxHeartbeats 4000000 in
theorem sparse_any (N : Nat) (w : World) (hN : N ≤ 500000000000) :
    Calls Try.prog 17 #[.int .i64 N] w fun e w' => ∃ v', e = .returned v' ∧ w'.ownsRow w.heap.size 3 1 v' (sp N).length (intsOf (sp N)) ∧ Below w.heap.size w w' := by
  obtain ⟨i0, hi, hz0, hz1, hz2⟩ := info_parts infoInt
  have HF := Lib.hid (fun W => fits_any N W)
  rw [inB_of (by omega) (by omega)] at HF
  have HPL := Lib.hid (fun (j : Nat) (hj : j ≤ 57) W => implPlace_any j W (by omega))
  have HFB := Lib.hid (fun (j : Nat) (hj : j ≤ 60) => fp_60 hj)
  have HA0 := Lib.hid (ctA_start N)
  have HNX := Lib.hid (fun (k : Nat) (h : CtA N k) (hl : fp k ≤ N) => ctA_next h hN hl)
  have HEND := Lib.hid (fun (k : Nat) (h : CtA N k) (hl : ¬ fp k ≤ N) => ctA_end h hl)
  go_enter Try.func17, Try.ntmps17
  go_wp2_with fail
  refine (HF.out _).mono ?_
  rintro e w' ⟨rfl, rfl⟩
  go_wp2_with fail
  go_loop [3] (fun i => ∃ k : Nat, CtA N k ∧ i = .int .i64 k) (fun i => 60 - (intOf i).toNat)
  case atStart => exact ⟨0, HA0.out, rfl⟩
  case round =>
    obtain ⟨k, hA, rfl⟩ := hrel
    have hk56 := hA.small
    have HPK := Lib.hid (fun W => HPL.out k (by omega) W)
    have hfk := HFB.out k (by omega)
    by_cases hlt : fp k ≤ N
    · have HN2 := Lib.hid (HNX.out k hA hlt)
      obtain ⟨A, hAe⟩ : ∃ A, A = fp k := ⟨_, rfl⟩
      rw [← hAe] at HPK hfk hlt
      clear hAe hA
      go_wp2_with (go_at_call 27; refine (HPK.out _).mono ?_; rintro e w' ⟨rfl, rfl⟩)
      go_round
      case rel => exact ⟨k + 1, HN2.out, by go_num⟩
      case measure => simp [intOf]; omega
    · have HE := Lib.hid (HEND.out k hA hlt)
      have HS0 := Lib.hid (spC_start N k)
      obtain ⟨A, hAe⟩ : ∃ A, A = fp k := ⟨_, rfl⟩
      rw [← hAe] at HPK hfk hlt
      clear hAe hA
      go_wp2_with (first
        | (go_at_call 27; refine (HPK.out _).mono ?_; rintro e w' ⟨rfl, rfl⟩)
        | (at_make; refine wpList_make_full _ rfl _ _ 24 rfl w.heap.size 3 i0 (.int .i64 0) 1 Try.underlying24 hi hz0 hz1 _ _ _ _ k rfl rfl rfl rfl ?c1 ?c2 ?c3 ?_))
      case c1 => rw [hz2]; omega
      case c2 => unfold maxLen; omega
      case c3 => exact Nat.le_refl _
      intro w1 hown hgrow
      have HO1 := Lib.hid (show w1.ownsRow w.heap.size 3 1 (.slice (some ⟨w.heap.size, 0, none⟩) k k) k (intsOf (fillT k [])) by
        rw [toList_madeCells_one] at hown; simpa [intsOf, fillT] using hown)
      have hB1 : Below w.heap.size w w1 := (Below.refl _ _).grown hgrow (Nat.le_refl _) (fun k hk => by cases hk)
      clear hown hgrow
      go_wp2_with fail
      go_loopg [5, 6] k (fun g lv iv wr => ∃ (n : Nat) (P : List Int), iv = .int .i64 ((g : Int) - 1) ∧ lv = .int .i64 n ∧ SpC N k g n P ∧ wr.ownsRow w.heap.size 3 1 (.slice (some ⟨w.heap.size, 0, none⟩) k k) k (intsOf (fillT g P)) ∧ Below w.heap.size w wr)
      case atStart => exact ⟨N, [], by first | rfl | go_num, rfl, HS0.out, HO1.out, hB1⟩
      case round =>
        obtain ⟨n, P, rfl, rfl, hsp, hown, hB⟩ := hrel
        have hn := hsp.small
        have hgl := hsp.le
        have hpl := hsp.len
        by_cases h0 : gk = 0
        · subst h0
          have HR := Lib.hid (show wr.ownsRow w.heap.size 3 1 (.slice (some ⟨w.heap.size, 0, none⟩) k k) (sp N).length (intsOf (sp N)) by
            have e1 := spC_end hsp
            rw [fillT_zero, e1, ← HE.out] at hown
            have e2 : (sp N).length = k := by rw [HE.out, List.length_reverse, gs_len]
            rw [e2]; exact hown)
          have hn9 : ¬ (0 : Int) ≤ ((0 : Nat) : Int) - 1 := by omega
          clear hown hsp
          go_wp2_with fail
          go_ret
          exact ⟨_, rfl, HR.out, hB⟩
        · obtain ⟨j, rfl⟩ : ∃ j, gk = j + 1 := ⟨gk - 1, by omega⟩
          rw [show ((j + 1 : Nat) : Int) - 1 = (j : Int) by omega]
          have hjk : j < k := by omega
          have HPJ := Lib.hid (fun W => HPL.out j (by omega) W)
          have hfj := HFB.out j (by omega)
          by_cases hf : fp j ≤ n
          · have HN := Lib.hid (spC_one hsp hf)
            have hc2 : ∃ u, wr.cell? ⟨w.heap.size, j, none⟩ = some u := by
              rw [hown.cellAt j (by omega)]
              have : j < (intsOf (fillT (j + 1) P)).length := by rw [intsOf_length, fillT_len]; omega
              exact ⟨_, List.getElem?_eq_getElem this⟩
            obtain ⟨u, hc2⟩ := hc2
            have hf2 : wr.frozen? ⟨w.heap.size, j, none⟩ = false := hown.frozenAt j
            have hst := (hown.stored j (.int .i64 1)).1
            rw [ints_set, fillT_set] at hst
            have HST := Lib.hid hst
            obtain ⟨F, hF⟩ : ∃ F, F = fp j := ⟨_, rfl⟩
            rw [← hF] at HPJ HN hf hfj
            have hmc : ((n - F : Nat) : Int) = (n : Int) - F := by omega
            clear hsp hF hown hst
            go_wp2_with (go_at_call 27; refine (HPJ.out _).mono ?_; rintro e w' ⟨rfl, rfl⟩)
            go_roundg j
            case rel => exact ⟨n - F, P ++ [1], by go_num, by rw [hmc], HN.out, HST.out, hB.setCell (p := ⟨w.heap.size, j, none⟩) (Nat.le_refl _) _⟩
            case measure => omega
          · have HN := Lib.hid (spC_no hsp hf)
            have HST := Lib.hid (show wr.ownsRow w.heap.size 3 1 (.slice (some ⟨w.heap.size, 0, none⟩) k k) k (intsOf (fillT j (P ++ [0]))) by rw [← fillT_no]; exact hown)
            obtain ⟨F, hF⟩ : ∃ F, F = fp j := ⟨_, rfl⟩
            rw [← hF] at HPJ hf hfj
            clear hsp hF hown
            go_wp2_with (go_at_call 27; refine (HPJ.out _).mono ?_; rintro e w' ⟨rfl, rfl⟩)
            go_roundg j
            case rel => exact ⟨n, P ++ [0], by go_num, rfl, HN.out, HST.out, hB⟩
            case measure => omega

theorem implSparseFib_any (n : Int) (w : World) (hn : in64 n) :
    Calls Try.prog 17 #[.int .i64 n] w fun e w' => ∃ v', e = .returned v' ∧ w'.ownsRow w.heap.size 3 1 v' (rSparseFib0 n).length (intsOf (rSparseFib0 n)) ∧ Below w.heap.size w w' := by
  have HS := Lib.hid (fun W => fits_any n W)
  cases h : inB n 0 500000000000
  · rw [h] at HS
    have HNO := Lib.hid (show ∃ v', Ending.returned (.slice none 0 0) = .returned v' ∧ w.ownsRow w.heap.size 3 1 v' (rSparseFib0 n).length (intsOf (rSparseFib0 n)) ∧ Below w.heap.size w w from by
      refine ⟨_, rfl, ?_, Below.refl _ _⟩
      rw [rSparseFib0, h]; exact World.ownsRow_nil _ _ _ _)
    clear h
    go_enter Try.func17, Try.ntmps17
    go_wp2_with fail
    refine (HS.out _).mono ?_
    rintro e w' ⟨rfl, rfl⟩
    go_wp2_with fail
    go_ret
    exact HNO.out
  · obtain ⟨n0, n1⟩ := inB_yes h
    obtain ⟨N, rfl⟩ : ∃ N : Nat, n = N := ⟨n.toNat, by omega⟩
    rw [show rSparseFib0 N = sp N by rw [rSparseFib0, h]; rfl]
    exact sparse_any N w (by omega)

/-! ### shifted numbers -/
theorem shift_any (N : Nat) (w : World) (hN : N ≤ 100000000) :
    Calls Try.prog 28 #[.int .i64 N] w fun e w' => e = .returned (.int .i64 (vL 1 (sp N))) ∧ Below w.heap.size w w' := by
  have HP := Lib.hid (sparse_any N w (by omega))
  have hl := sp_few hN
  have HBB := Lib.hid (sp_b01 N)
  obtain ⟨L, hL⟩ : ∃ L, L = sp N := ⟨_, rfl⟩
  rw [← hL] at HP hl HBB ⊢
  have HV := Lib.hid (fun v W hr => sumFrom_any v L 1 W hr (by omega) HBB.out)
  have hn0 : ¬ (N : Int) < 0 := by omega
  have hn1 : ¬ (100000000 : Int) < N := by omega
  clear hL
  go_enter Try.func28, Try.ntmps28
  go_wp2_with fail
  refine HP.out.mono ?_
  rintro e w1 ⟨v1, rfl, hO, hB⟩
  have HVV := Lib.hid (HV.out v1 w1 (RowAt.of_owns hO))
  obtain ⟨a3, c3, e3, _, _⟩ := owns_form hO
  obtain ⟨ln3, hln3⟩ : ∃ ln, ln = L.length := ⟨_, rfl⟩
  rw [← hln3] at e3
  subst e3
  clear hO hln3
  go_wp2_with fail
  refine HVV.out.mono ?_
  rintro e w2 ⟨rfl, rfl⟩
  go_wp2_with fail
  go_ret
  exact ⟨rfl, hB⟩

theorem implShiftFib_any (n : Int) (w : World) (hn : in64 n) :
    Calls Try.prog 28 #[.int .i64 n] w fun e w' => e = .returned (.int .i64 (rShiftFib0 n)) ∧ Below w.heap.size w w' := by
  cases h : inB n 0 100000000
  · have E0 := Lib.hid (show rShiftFib0 n = -1 by rw [rShiftFib0, h]; rfl)
    by_cases h0 : n < 0
    · clear h
      go_enter Try.func28, Try.ntmps28
      go_wp2
      go_ret
      exact ⟨by rw [E0.out]; rfl, Below.refl _ _⟩
    · have h58 : 100000000 < n := by simp [inB] at h; omega
      clear h
      go_enter Try.func28, Try.ntmps28
      go_wp2
      go_ret
      exact ⟨by rw [E0.out]; rfl, Below.refl _ _⟩
  · obtain ⟨n0, n1⟩ := inB_yes h
    obtain ⟨N, rfl⟩ : ∃ N : Nat, n = N := ⟨n.toNat, by omega⟩
    refine (shift_any N w (by omega)).mono ?_
    rintro e w' ⟨rfl, hB⟩
    exact ⟨by rw [show rShiftFib0 N = vL 1 (sp N) by rw [rShiftFib0, h]; rfl], hB⟩

theorem implWythoffPair_any (n : Int) (w : World) (hn : in64 n) :
    Calls Try.prog 29 #[.int .i64 n] w fun e w' => e = .returned (.tuple #[.int .i64 (rWythoffPair0 n), .int .i64 (rWythoffPair1 n)]) ∧ Below w.heap.size w w' := by
  cases h : inB n 1 1000000
  · have E0 := Lib.hid (show rWythoffPair0 n = 0 ∧ rWythoffPair1 n = 0 by rw [rWythoffPair0, rWythoffPair1, h]; exact ⟨rfl, rfl⟩)
    by_cases h0 : n < 1
    · clear h
      go_enter Try.func29, Try.ntmps29
      go_wp2
      go_ret2
      exact ⟨by rw [E0.out.1, E0.out.2]; rfl, Below.refl _ _⟩
    · have h58 : 1000000 < n := by simp [inB] at h; omega
      clear h
      go_enter Try.func29, Try.ntmps29
      go_wp2
      go_ret2
      exact ⟨by rw [E0.out.1, E0.out.2]; rfl, Below.refl _ _⟩
  · obtain ⟨n0, n1⟩ := inB_yes h
    obtain ⟨k, rfl⟩ : ∃ k : Nat, n = k := ⟨n.toNat, by omega⟩
    have hk1 : 1 ≤ k := by omega
    have h0 : rWythoffPair0 k = wyA k := by rw [rWythoffPair0, h]; rfl
    have h1 : rWythoffPair1 k = (wyA k : Int) + k := by rw [rWythoffPair1, h, ← h0]; rfl
    have hs := wy_shift hk1 (by omega)
    have HP := Lib.hid (shift_any (k - 1) w (by omega))
    have hle := (wyA_le hk1).2
    obtain ⟨A, hA⟩ : ∃ A, A = wyA k := ⟨_, rfl⟩
    obtain ⟨V, hV⟩ : ∃ V, V = vL 1 (sp (k - 1)) := ⟨_, rfl⟩
    rw [← hA] at h0 h1 hs hle
    rw [← hV] at hs HP
    rw [show ((k - 1 : Nat) : Int) = (k : Int) - 1 by omega] at HP
    have E0 := Lib.hid (show rWythoffPair0 k = (V : Int) + 1 ∧ rWythoffPair1 k = (V : Int) + 1 + k from ⟨by omega, by omega⟩)
    have hv9 : V ≤ 2000000 := by omega
    have hk9 : k ≤ 1000000 := by omega
    have hk0 : ¬ (k : Int) < 1 := by omega
    have hk8 : ¬ (1000000 : Int) < k := by omega
    clear h h0 h1 hs hA hV hle
    go_enter Try.func29, Try.ntmps29
    go_wp2_with fail
    refine HP.out.mono ?_
    rintro e w1 ⟨rfl, hB⟩
    go_wp2_with fail
    go_ret2
    exact ⟨by rw [E0.out.1, E0.out.2]; rfl, hB⟩

end Go.Proofs.Ytkimojjhmllnfaa
