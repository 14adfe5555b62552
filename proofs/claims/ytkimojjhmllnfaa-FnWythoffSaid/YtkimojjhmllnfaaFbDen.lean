/- Fibonacci places: the model's dense digits, and shifted numbers. -/
import Derived.Test.YtkimojjhmllnfaaFbDig
set_option linter.unusedVariables false
set_option linter.unusedSimpArgs false
set_option maxRecDepth 100000
namespace Go.Proofs.Ytkimojjhmllnfaa
open Go.ChangeShapes Go.WideShapes Go.ChangeAt Go.RowKit

theorem gd_pad : ∀ (m k n : Nat), k ≤ m → n + 2 ≤ fp (k + 1) → ∃ z, gd m n = List.replicate z 0 ++ gd k n
  | 0, k, n, h, _ => ⟨0, by rw [show k = 0 by omega]; rfl⟩
  | m + 1, k, n, h, hn => by
    rcases Nat.lt_or_ge m k with h' | h'
    · exact ⟨0, by rw [show k = m + 1 by omega]; rfl⟩
    · obtain ⟨z, hz⟩ := gd_pad m k n h' hn
      have : ¬ fp (m + 1) ≤ n + 1 := by have := fp_mono (show k + 1 ≤ m + 1 by omega); omega
      exact ⟨z + 1, by rw [gd, if_neg this, hz, List.replicate_succ, List.cons_append]⟩
theorem trT_zeros (l : List Int) : ∀ z, trT (List.replicate z 0 ++ l) = trT l
  | 0 => rfl
  | z + 1 => by rw [List.replicate_succ, List.cons_append, trT, if_pos rfl, trT_zeros l z]
theorem dn_at {k n : Nat} (hk : k ≤ 58) (hn : n + 2 ≤ fp (k + 1)) : (trT (gd k n)).reverse = dn n := by
  obtain ⟨z, hz⟩ := gd_pad 58 k n hk hn
  unfold dn
  rw [hz, trT_zeros]

/-- the first loop: k places make less than n -/
structure DnA (N k : Nat) : Prop where
  lo : k = 0 ∨ fp k ≤ N + 1
  small : k ≤ 56
theorem dnA_start (N : Nat) : DnA N 0 := ⟨.inl rfl, by omega⟩
theorem dnA_next {N k : Nat} (h : DnA N k) (hN : N ≤ 500000000000) (hlt : fp (k + 1) < N + 2) : DnA N (k + 1) := by
  refine ⟨.inr (by omega), ?_⟩
  rcases Nat.lt_or_ge k 56 with h' | h'
  · omega
  · have := fp_mono (show 56 ≤ k + 1 by omega)
    rw [fp_56] at this
    omega
/-- the second loop -/
structure DnB (N K g n : Nat) (P : List Int) : Prop where
  le : g ≤ K
  eq : P ++ gd g n = gd K N
  len : P.length = K - g
  small : n ≤ N
theorem dnB_start (N K : Nat) : DnB N K K N [] := ⟨Nat.le_refl _, rfl, by simp, Nat.le_refl _⟩
theorem dnB_one {N K j n : Nat} {P : List Int} (h : DnB N K (j + 1) n P) (hf : fp (j + 1) ≤ n + 1) : DnB N K j (n - fp j) (P ++ [1]) := by
  obtain ⟨h1, h2, h3, h4⟩ := h
  rw [gd, if_pos hf] at h2
  exact ⟨by omega, by rw [List.append_assoc]; exact h2, by rw [List.length_append, h3, List.length_singleton]; omega, by omega⟩
theorem dnB_no {N K j n : Nat} {P : List Int} (h : DnB N K (j + 1) n P) (hf : ¬ fp (j + 1) ≤ n + 1) : DnB N K j n (P ++ [0]) := by
  obtain ⟨h1, h2, h3, h4⟩ := h
  rw [gd, if_neg hf] at h2
  exact ⟨by omega, by rw [List.append_assoc]; exact h2, by rw [List.length_append, h3, List.length_singleton]; omega, h4⟩
theorem dnB_end {N K n : Nat} {P : List Int} (h : DnB N K 0 n P) (hK : K ≤ 58) (hN : N + 2 ≤ fp (K + 1)) : (trT P).reverse = dn N := by
  have h2 := h.eq
  rw [show gd 0 n = [] from rfl, List.append_nil] at h2
  rw [h2, dn_at hK hN]

set_option maxHeartbeats 4000000 in
theorem specDenseFib_any (n : Int) (w : World) (hn : in64 n) :
    Calls Try.prog 40 #[.int .i64 n] w fun e w' => ∃ v', e = .returned v' ∧ w'.ownsRow w.heap.size 3 1 v' (rDenseFib0 n).length (intsOf (rDenseFib0 n)) ∧ Below w.heap.size w w' := by
  obtain ⟨i0, hi, hz0, hz1, hz2⟩ := info_parts infoInt
  have HS := Lib.hid (fun W => sIn_any n 0 500000000000 W)
  cases h : inB n 0 500000000000
  · rw [h] at HS
    have HNO := Lib.hid (show ∃ v', Ending.returned (.slice none 0 0) = .returned v' ∧ w.ownsRow w.heap.size 3 1 v' (rDenseFib0 n).length (intsOf (rDenseFib0 n)) ∧ Below w.heap.size w w from by
      refine ⟨_, rfl, ?_, Below.refl _ _⟩
      rw [rDenseFib0, h]; exact World.ownsRow_nil _ _ _ _)
    clear h
    go_enter Try.func40, Try.ntmps40
    go_wp2_with fail
    refine (HS.out _).mono ?_
    rintro e w' ⟨rfl, rfl⟩
    go_wp2_with fail
    go_ret
    exact HNO.out
  · rw [h] at HS
    obtain ⟨n0, n1⟩ := inB_yes h
    obtain ⟨N, rfl⟩ : ∃ N : Nat, n = N := ⟨n.toNat, by omega⟩
    have hN : N ≤ 500000000000 := by omega
    have HPL := Lib.hid (fun (j : Nat) (hj : j ≤ 57) W => specPlace_any j W (by omega))
    have HFB := Lib.hid (fun (j : Nat) (hj : j ≤ 60) => fp_60 hj)
    have HFP := Lib.hid fp_pos
    have HFL := Lib.hid fp_lt
    have HFS := Lib.hid fp_s
    have HA0 := Lib.hid (dnA_start N)
    have HNX := Lib.hid (fun (k : Nat) (h : DnA N k) (hl : fp (k + 1) < N + 2) => dnA_next h hN hl)
    have HE := Lib.hid (show rDenseFib0 N = dn N by rw [rDenseFib0, h]; rfl)
    clear h hn n0 n1
    go_enter Try.func40, Try.ntmps40
    go_wp2_with fail
    refine (HS.out _).mono ?_
    rintro e w' ⟨rfl, rfl⟩
    go_wp2_with fail
    go_loop [3, 4] (fun s i => ∃ k : Nat, DnA N k ∧ i = .int .i64 k ∧ s = .int .i64 ((fp (k + 1) : Int) - 2)) (fun _ i => 60 - (intOf i).toNat)
    case atStart => exact ⟨0, HA0.out, rfl, rfl⟩
    case round =>
      obtain ⟨k, hA, rfl, rfl⟩ := hrel
      have hk56 := hA.small
      have hf2 := HFB.out (k + 1) (by omega)
      have hp2 := HFP.out (k + 1)
      by_cases hlt : fp (k + 1) < N + 2
      · have HN2 := Lib.hid (HNX.out k hA hlt)
        have HPK := Lib.hid (fun W => HPL.out k (by omega) W)
        have hf1 := HFB.out k (by omega)
        have HSS := Lib.hid (HFS.out k)
        obtain ⟨A, hAe⟩ : ∃ A, A = fp k := ⟨_, rfl⟩
        obtain ⟨B, hB⟩ : ∃ B, B = fp (k + 1) := ⟨_, rfl⟩
        rw [← hAe] at HPK hf1 HSS
        rw [← hB] at hf2 hp2 hlt HSS ⊢
        have hltI : (B : Int) - 2 < N := by omega
        clear hAe hB hA
        go_wp2_with (go_at_call 32; refine (HPK.out _).mono ?_; rintro e w' ⟨rfl, rfl⟩)
        go_round
        case rel => exact ⟨k + 1, HN2.out, by go_num, by rw [HSS.out]; go_num⟩
        case measure => simp [intOf]; omega
      · have hNK : N + 2 ≤ fp (k + 1) := by omega
        have HEND := Lib.hid (fun m P (h : DnB N k 0 m P) => dnB_end h (by omega) hNK)
        have HB0 := Lib.hid (dnB_start N k)
        have HKK := Lib.hid hA
        obtain ⟨B, hB⟩ : ∃ B, B = fp (k + 1) := ⟨_, rfl⟩
        rw [← hB] at hf2 hp2 hlt ⊢
        have hltI : ¬ (B : Int) - 2 < N := by omega
        have HBE := Lib.hid hB
        clear hB hNK hA
        go_wp2_with fail
        go_loopg [0, 3, 4, 5] k (fun g nv s t v wr => ∃ (m : Nat) (P : List Int), t = .int .i64 ((g : Int) - 1) ∧ nv = .int .i64 m ∧ s = .int .i64 ((fp (g + 1) : Int) - 2) ∧ DnB N k g m P ∧ wr.ownsRow w.heap.size 3 1 v P.length (intsOf P) ∧ Below w.heap.size w wr)
        case atStart => exact ⟨N, [], by first | rfl | go_num, rfl, by rw [HBE.out], HB0.out, World.ownsRow_lit w #[] 0 (Nat.le_refl _) (by decide) rfl, (Below.refl _ _).alloc (Nat.le_refl _) _⟩
        case round =>
          obtain ⟨m, P, rfl, rfl, rfl, hdb, hown, hBl⟩ := hrel
          have hsz := hBl.size
          have hpl := hdb.len
          have hmN := hdb.small
          have hgk := hdb.le
          have hP58 : P.length ≤ 58 := by omega
          clear hpl
          by_cases h0 : gk = 0
          · subst h0
            have HEE := Lib.hid ((HEND.out m P hdb).trans HE.out.symm)
            have HT := Lib.hid (specTurn_any _ P wr (RowAt.of_owns hown) (by omega))
            obtain ⟨av, cv, e3, _, _⟩ := owns_form hown
            subst e3
            have hn9 : ¬ (0 : Int) ≤ ((0 : Nat) : Int) - 1 := by omega
            have HBL := Lib.hid (And.intro hBl hsz)
            clear hown hdb hBl hsz
            go_wp2_with fail
            refine HT.out.mono ?_
            rintro e w2 ⟨v2, rfl, hO2, hB2⟩
            have HTR := Lib.hid (specTrimT_any v2 P.reverse wr.heap.size w2 hO2 (by rw [List.length_reverse]; omega))
            obtain ⟨a2, c2, e3, _, _⟩ := owns_form hO2
            obtain ⟨ln, hln⟩ : ∃ ln, ln = P.reverse.length := ⟨_, rfl⟩
            rw [← hln] at e3
            subst e3
            clear hO2 hln
            go_wp2_with fail
            refine HTR.out.mono ?_
            rintro e w3 ⟨v3, rfl, hO3, rfl, _⟩
            rw [List.reverse_reverse, HEE.out] at hO3
            have HO3 := Lib.hid (owns_mono hO3 HBL.out.2)
            have HB3 := Lib.hid (HBL.out.1.trans (hB2.mono HBL.out.2))
            obtain ⟨a3, c3, e3, _, _⟩ := owns_form hO3
            obtain ⟨ln3, hln3⟩ : ∃ ln, ln = (rDenseFib0 N).length := ⟨_, rfl⟩
            rw [← hln3] at e3
            subst e3
            clear hO3 hB2 hln3
            go_wp2_with fail
            go_ret
            exact ⟨_, rfl, HO3.out, HB3.out⟩
          · obtain ⟨j, rfl⟩ : ∃ j, gk = j + 1 := ⟨gk - 1, by omega⟩
            rw [show ((j + 1 : Nat) : Int) - 1 = (j : Int) by omega]
            have HPJ := Lib.hid (fun W => HPL.out j (by omega) W)
            have hfj := HFB.out j (by omega)
            have hfj1 := HFB.out (j + 1) (by omega)
            have hpj1 := HFP.out (j + 1)
            have hss := HFS.out j
            have hlj := HFL.out j
            by_cases hf : fp (j + 1) ≤ m + 1
            · have HN := Lib.hid (dnB_one hdb hf)
              obtain ⟨F, hF⟩ : ∃ F, F = fp j := ⟨_, rfl⟩
              obtain ⟨G, hG⟩ : ∃ G, G = fp (j + 1) := ⟨_, rfl⟩
              obtain ⟨H, hH⟩ : ∃ H, H = fp (j + 1 + 1) := ⟨_, rfl⟩
              rw [show fp (j + 2) = H from hH.symm, ← hF, ← hG] at hss
              rw [← hF] at HPJ HN hfj hlj
              rw [← hG] at hfj1 hpj1 hf hlj
              rw [← hH]
              have hmc : ((m - F : Nat) : Int) = (m : Int) - F := by omega
              have hHI : (H : Int) - 2 - F = (G : Int) - 2 := by omega
              have hfI : (G : Int) - 2 < m := by omega
              have hH0 : (H : Int) ≤ 9000000000000 := by omega
              have HGE := Lib.hid hG
              clear hdb hF hG hH hss
              go_wp2_with (first
                | (go_at_call 32; refine (HPJ.out _).mono ?_; rintro e w' ⟨rfl, rfl⟩)
                | (at_builtin; refine wpList_append_own_at _ rfl _ _ 24 rfl w.heap.size 3 i0 (.int .i64 0) 1 8 Try.underlying24 hi hz0 hz1 hz2 rfl (by decide) _ _ _ rfl (hown.alloc _) ⟨wr.heap.size, 0, none⟩ 1 1 [.int .i64 1] rfl rfl (one_cell _ _ _) (by intro u hu; simp at hu; subst hu; rfl) (by unfold maxLen; omega) (by omega) (by simp; omega) ?_))
              intro v' w1 hown' hgrow _ _
              have hB1 := (hBl.alloc hsz _).grown hgrow (by simp; omega) (fun j hj => (hown.lt j hj).1)
              have HO := Lib.hid (show w1.ownsRow w.heap.size 3 1 v' (P ++ [1]).length (intsOf (P ++ [1])) by simpa [intsOf] using hown')
              clear hown' hgrow hown hBl
              go_wp2_with fail
              go_roundg j
              case rel => exact ⟨m - F, P ++ [1], by go_num, by rw [hmc], by rw [← HGE.out], HN.out, HO.out, hB1⟩
              case measure => omega
            · have HN := Lib.hid (dnB_no hdb hf)
              obtain ⟨F, hF⟩ : ∃ F, F = fp j := ⟨_, rfl⟩
              obtain ⟨G, hG⟩ : ∃ G, G = fp (j + 1) := ⟨_, rfl⟩
              obtain ⟨H, hH⟩ : ∃ H, H = fp (j + 1 + 1) := ⟨_, rfl⟩
              rw [show fp (j + 2) = H from hH.symm, ← hF, ← hG] at hss
              rw [← hF] at HPJ hfj hlj
              rw [← hG] at hfj1 hpj1 hf hlj
              rw [← hH]
              have hHI : (H : Int) - 2 - F = (G : Int) - 2 := by omega
              have hfI : ¬ (G : Int) - 2 < m := by omega
              have hH0 : (H : Int) ≤ 9000000000000 := by omega
              have HGE := Lib.hid hG
              clear hdb hF hG hH hss
              go_wp2_with (first
                | (go_at_call 32; refine (HPJ.out _).mono ?_; rintro e w' ⟨rfl, rfl⟩)
                | (at_builtin; refine wpList_append_own_at _ rfl _ _ 24 rfl w.heap.size 3 i0 (.int .i64 0) 1 8 Try.underlying24 hi hz0 hz1 hz2 rfl (by decide) _ _ _ rfl (hown.alloc _) ⟨wr.heap.size, 0, none⟩ 1 1 [.int .i64 0] rfl rfl (one_cell _ _ _) (by intro u hu; simp at hu; subst hu; rfl) (by unfold maxLen; omega) (by omega) (by simp; omega) ?_))
              intro v' w1 hown' hgrow _ _
              have hB1 := (hBl.alloc hsz _).grown hgrow (by simp; omega) (fun j hj => (hown.lt j hj).1)
              have HO := Lib.hid (show w1.ownsRow w.heap.size 3 1 v' (P ++ [0]).length (intsOf (P ++ [0])) by simpa [intsOf] using hown')
              clear hown' hgrow hown hBl
              go_wp2_with fail
              go_roundg j
              case rel => exact ⟨m, P ++ [0], by go_num, rfl, by rw [← HGE.out], HN.out, HO.out, hB1⟩
              case measure => omega

end Go.Proofs.Ytkimojjhmllnfaa
