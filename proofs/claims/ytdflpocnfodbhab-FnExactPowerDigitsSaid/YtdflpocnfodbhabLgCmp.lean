/- Long numbers: the model compares, adds and subtracts. -/
import Derived.Test.YtdflpocnfodbhabInts
import Derived.Test.YtdflpocnfodbhabLgSpec
set_option linter.unusedVariables false
set_option linter.unusedSimpArgs false
set_option maxRecDepth 100000
namespace Go.Proofs.Ytdflpocnfodbhab
open Go.ChangeShapes Go.WideShapes Go.ChangeAt Go.RowKit

theorem RowAt.drewN {w : World} {v : Value} {cs : List Value} (h : RowAt w v cs) (q : Nat) : RowAt (w.drewN q) v cs := h.below (below_drewN (Below.refl _ _) q)

theorem cmp_lt {n m : Nat} (h : n < m) : cmpN n m = -1 := by simp [cmpN, h]
theorem cmp_gt {n m : Nat} (h : m < n) : cmpN n m = 1 := by
  have : ¬ n < m := by omega
  simp [cmpN, h, this]
theorem cmp_eq (n : Nat) : cmpN n n = 0 := by simp [cmpN]

theorem drop_same {a c : List Int} {k : Nat} (h1 : k < a.length) (h2 : k < c.length) (ht : a.drop (k + 1) = c.drop (k + 1)) (h : a[k] = c[k]) : a.drop k = c.drop k := by
  rw [List.drop_eq_getElem_cons h1, List.drop_eq_getElem_cons h2, ht, h]

set_option maxHeartbeats 4000000 in
theorem specCompare_any (va vc : Value) (a c : List Int) (b : Nat) (w : World) (hb : 2 ≤ b) (ha : Nrm b a) (hc : Nrm b c) (hra : RowAt w va (intsOf a)) (hrc : RowAt w vc (intsOf c)) (hl : a.length ≤ 1048576) (hl' : c.length ≤ 1048576) :
    Calls Try.prog 44 #[va, vc] w fun e w' => e = .returned (.int .i64 (cmpN (vl b a) (vl b c))) ∧ Below w.heap.size w w' := by
  obtain ⟨aa, cap, rfl, h1, h2, h3⟩ := hra.ints
  obtain ⟨ac, cap', rfl, h1', h2', h3'⟩ := hrc.ints
  unfold maxLen at h2 h2'
  by_cases hlt : a.length < c.length
  · have HV := Lib.hid (cmp_lt (lt_of_len hb ha hc hlt))
    have hi : (a.length : Int) < c.length := by omega
    clear h3 h3'
    go_enter Try.func44, Try.ntmps44
    go_wp2
    go_ret
    exact ⟨by rw [HV.out]; rfl, Below.refl _ _⟩
  · by_cases hgt : c.length < a.length
    · have HV := Lib.hid (cmp_gt (lt_of_len hb hc ha hgt))
      have hi : ¬ (a.length : Int) < c.length := by omega
      have hi2 : (c.length : Int) < a.length := by omega
      clear h3 h3'
      go_enter Try.func44, Try.ntmps44
      go_wp2
      go_ret
      exact ⟨by rw [HV.out]; rfl, Below.refl _ _⟩
    · obtain ⟨n, hn⟩ : ∃ n, n = a.length := ⟨_, rfl⟩
      have hm : c.length = n := by omega
      have HN := Lib.hid hn; have HM := Lib.hid hm
      rw [← hn] at h1 ⊢
      rw [hm] at h1' ⊢
      have hn9 : n ≤ 1048576 := by omega
      clear hn hm hlt hgt
      go_enter Try.func44, Try.ntmps44
      go_wp2
      go_loopw [5] (fun i wr => ∃ k : Nat, k ≤ n ∧ i = .int .i64 ((k : Int) - 1) ∧ a.drop k = c.drop k ∧ Below w.heap.size w wr) (fun i _ => (intOf i + 1).toNat)
      case atStart => exact ⟨n, Nat.le_refl _, rfl, by rw [List.drop_of_length_le (by have := HN.out; omega), List.drop_of_length_le (by have := HM.out; omega)], Below.refl _ _⟩
      case round =>
        obtain ⟨k, hk, rfl, htl, hB⟩ := hrel
        cases k with
        | zero =>
          rw [List.drop_zero, List.drop_zero] at htl
          have HV := Lib.hid (show cmpN (vl b a) (vl b c) = 0 by rw [htl]; exact cmp_eq _)
          clear h3 h3' htl
          go_wp2
          go_ret
          exact ⟨by rw [HV.out]; rfl, hB⟩
        | succ j =>
          rw [show ((j + 1 : Nat) : Int) - 1 = (j : Int) by omega]
          have hja : j < a.length := by have := HN.out; omega
          have hjc : j < c.length := by have := HM.out; omega
          obtain ⟨ba, oa, rfl, hba, hcell⟩ := h3.resolve_left (fun e => by rw [e] at hja; simp at hja)
          obtain ⟨bc, oc, rfl, hbc, hcell'⟩ := h3'.resolve_left (fun e => by rw [e] at hjc; simp at hjc)
          have q1 : wr.cell? ⟨ba, oa + j, none⟩ = some (.int .i64 a[j]) := by rw [hB.cell (p := ⟨ba, oa + j, none⟩) hba]; exact hcell j hja
          have q2 : wr.cell? ⟨bc, oc + j, none⟩ = some (.int .i64 c[j]) := by rw [hB.cell (p := ⟨bc, oc + j, none⟩) hbc]; exact hcell' j hjc
          have hj9 : (j : Int) < n := by omega
          obtain ⟨x, hx⟩ : ∃ x, x = a[j] := ⟨_, rfl⟩
          obtain ⟨y, hy⟩ : ∃ y, y = c[j] := ⟨_, rfl⟩
          rw [← hx] at q1
          rw [← hy] at q2
          have HX := Lib.hid hx; have HY := Lib.hid hy
          have HT := Lib.hid htl
          clear h3 h3' hcell hcell' hx hy htl
          have q1' := fun q : Nat => show (wr.drewN q).cell? ⟨ba, oa + j, none⟩ = some (.int .i64 x) from q1
          by_cases h1 : x < y
          · have HV := Lib.hid (cmp_lt (lt_of_place hb ha.1 hc.1 hja hjc HT.out (by rw [← HX.out, ← HY.out]; exact h1)))
            go_wp2
            go_quiet (fail)
            go_wp2
            go_ret
            exact ⟨by rw [HV.out]; rfl, by first | exact below_drewN hB _ | exact below_drewN (below_drewN hB _) _⟩
          · by_cases h2 : y < x
            · have HV := Lib.hid (cmp_gt (lt_of_place hb hc.1 ha.1 hjc hja HT.out.symm (by rw [← HX.out, ← HY.out]; exact h2)))
              go_wp2
              go_quiet (fail)
              go_wp2
              go_quiet (fail)
              go_wp2
              go_ret
              exact ⟨by rw [HV.out]; rfl, by first | exact below_drewN hB _ | exact below_drewN (below_drewN hB _) _⟩
            · have HE := Lib.hid (drop_same hja hjc HT.out (by rw [← HX.out, ← HY.out]; omega))
              have h3 : ¬ x < y := h1
              go_wp2
              go_quiet (fail)
              go_wp2
              go_quiet (fail)
              go_wp2
              go_roundw
              case rel => exact ⟨j, by omega, by go_num, HE.out, by first | exact below_drewN hB _ | exact below_drewN (below_drewN hB _) _⟩
              case measure => simp [intOf]

theorem allD_snoc {b : Nat} {l : List Int} {d : Int} (h : AllD b l) (h0 : 0 ≤ d) (h1 : d ≤ (b : Int) - 1) : AllD b (l ++ [d]) := fun x hx => by
  rcases List.mem_append.1 hx with hx | hx
  · exact h x hx
  · simp at hx; subst hx; exact ⟨h0, h1⟩

set_option maxHeartbeats 4000000 in
theorem specAdd_any (va vc : Value) (a c : List Int) (b : Nat) (w : World) (hb : 2 ≤ b) (hb16 : b ≤ 16) (ha : AllD b a) (hc : AllD b c) (hra : RowAt w va (intsOf a)) (hrc : RowAt w vc (intsOf c)) (hl : a.length ≤ 100000) (hl' : c.length ≤ 100000) :
    Calls Try.prog 57 #[va, vc, .int .i64 b] w fun e w' => ∃ v, e = .returned v ∧ w'.ownsRow w.heap.size 3 1 v (dg b (vl b a + vl b c)).length (intsOf (dg b (vl b a + vl b c))) ∧ Below w.heap.size w w' := by
  have HRA := Lib.hid hra; have HRC := Lib.hid hrc
  obtain ⟨aa, cap, rfl, h1, h2, h3⟩ := hra.ints
  obtain ⟨ac, cap', rfl, h1', h2', h3'⟩ := hrc.ints
  obtain ⟨S, hS⟩ : ∃ S : Int, S = hv b a + hv b c := ⟨_, rfl⟩
  obtain ⟨M, hM⟩ : ∃ M, M = max a.length c.length := ⟨_, rfl⟩
  have hMa : a.length ≤ M := by omega
  have hMc : c.length ≤ M := by omega
  have hM9 : M ≤ 100000 := by omega
  have hMx : ∀ k : Nat, ¬ k < a.length → ¬ k < c.length → M ≤ k := fun k _ _ => by omega
  have HM := Lib.hid hMx
  have hSv : S.toNat = vl b a + vl b c := by
    have e1 := vl_cast ha; have e2 := vl_cast hc; omega
  have HSV := Lib.hid hSv
  have HS := Lib.hid hS
  clear h3 h3' hra hrc hS hSv hMx hM
  unfold maxLen at h2 h2'
  obtain ⟨i0, hi, hz0, hz1, hz2⟩ := info_parts infoInt
  have hbp : (0 : Int) < b := by omega
  go_enter Try.func57, Try.ntmps57
  go_wp2
  go_loopw [7, 8, 9] (fun v cy i wr => ∃ (k : Nat) (o : List Int) (y : Int), o.length = k ∧ (k ≤ M ∨ k = M + 1 ∧ y = 0) ∧ i = .int .i64 k ∧ cy = .int .i64 y ∧ 0 ≤ y ∧ y ≤ 1 ∧ AllD b o ∧ S = hv b o + (b : Int) ^ k * (y + hv b (a.drop k) + hv b (c.drop k)) ∧ wr.ownsRow w.heap.size 3 1 v o.length (intsOf o) ∧ Below w.heap.size w wr)
    (fun _ cy i _ => (M - (intOf i).toNat) * 2 + (intOf cy).toNat)
  case atStart =>
    refine ⟨0, [], 0, rfl, .inl (Nat.zero_le _), rfl, rfl, by omega, by omega, fun d hd => by simp at hd, ?_, World.ownsRow_lit w #[] 0 (Nat.le_refl _) (by decide) rfl, (Below.refl _ _).alloc (Nat.le_refl _) _⟩
    rw [HS.out]; simp [hv_nil]
  case round =>
    obtain ⟨k, o, y, hok, hk, rfl, rfl, hy0, hy1, hA, hE, hown, hB⟩ := hrel
    subst hok
    have hsz := hB.size
    by_cases hgo : o.length < a.length ∨ o.length < c.length ∨ 0 < y
    · have ra := at0_range hb ha o.length
      have rc := at0_range hb hc o.length
      obtain ⟨p, hp⟩ : ∃ p, p = at0 a o.length := ⟨_, rfl⟩
      obtain ⟨q, hq⟩ : ∃ q, q = at0 c o.length := ⟨_, rfl⟩
      rw [← hp] at ra
      rw [← hq] at rc
      have hstep := add_step hb hE (by rw [hp]; exact hv_at b a o.length) (by rw [hq]; exact hv_at b c o.length) (rfl : p + q + y = p + q + y)
      have hx0 : 0 ≤ p + q + y := by omega
      have hm0 : 0 ≤ (p + q + y) % b := Int.emod_nonneg _ (by omega)
      have hm1 : (p + q + y) % b < b := Int.emod_lt_of_pos _ hbp
      have hd0 : 0 ≤ (p + q + y) / b := Int.ediv_nonneg hx0 (by omega)
      have hd1 : (p + q + y) / b ≤ 1 := by
        have : (p + q + y) / b < 2 := Int.ediv_lt_of_lt_mul hbp (by omega)
        omega
      have hy' : ¬ o.length < a.length → ¬ o.length < c.length → (p + q + y) / b = 0 := fun n1 n2 => by
        have e1 : p = 0 := by rw [hp]; exact at0_ge (by omega)
        have e2 : q = 0 := by rw [hq]; exact at0_ge (by omega)
        rw [e1, e2]; exact Int.ediv_eq_zero_of_lt (by omega) (by omega)
      have HNX := Lib.hid (show (o.length + 1 ≤ M ∨ o.length + 1 = M + 1 ∧ (p + q + y) / b = 0) ∧ ((M - (o.length + 1)) * 2 + ((p + q + y) / b).toNat < (M - o.length) * 2 + y.toNat) by
        by_cases hlt : o.length < a.length ∨ o.length < c.length
        · exact ⟨.inl (by omega), by omega⟩
        · have n1 : ¬ o.length < a.length := fun h => hlt (.inl h)
          have n2 : ¬ o.length < c.length := fun h => hlt (.inr h)
          have e := hy' n1 n2
          have := HM.out _ n1 n2
          rw [e]
          have hyy : 0 < y := by omega
          exact ⟨.inr ⟨by omega, rfl⟩, by simp; omega⟩)
      have HST := Lib.hid (show S = hv b (o ++ [(p + q + y) % b]) + (b : Int) ^ (o.length + 1) * ((p + q + y) / b + hv b (a.drop (o.length + 1)) + hv b (c.drop (o.length + 1))) by rw [hv_snoc]; exact hstep)
      have HAD := Lib.hid (allD_snoc hA hm0 (show (p + q + y) % b ≤ (b : Int) - 1 by omega))
      have hk9 : o.length ≤ 100001 := by omega
      have HQA := Lib.hid (fun W hW => specAt_any (.slice aa a.length cap) a o.length W (HRA.out.below hW) (by omega) (by omega))
      have HQC := Lib.hid (fun W hW => specAt_any (.slice ac c.length cap') c o.length W (HRC.out.below hW) (by omega) (by omega))
      rw [← hp] at HQA
      rw [← hq] at HQC
      clear hp hq hstep hE hA hy'
      have go3 : (o.length : Int) < a.length ∨ (¬ (o.length : Int) < a.length ∧ (o.length : Int) < c.length) ∨ (¬ (o.length : Int) < a.length ∧ ¬ (o.length : Int) < c.length ∧ 0 < y) := by omega
      clear hgo
      rcases go3 with g1 | ⟨g1, g2⟩ | ⟨g1, g2, g3⟩
      all_goals
        go_wp2_with fail
        refine (HQA.out _ hB).mono ?_
        rintro e w' ⟨rfl, rfl⟩
        go_wp2_with fail
        refine (HQC.out _ hB).mono ?_
        rintro e w' ⟨rfl, rfl⟩
        go_wp2_with (at_builtin; refine wpList_append_own _ rfl _ _ 22 rfl w.heap.size 3 i0 (.int .i64 0) 1 8 Try.underlying22 hi hz0 hz1 hz2 rfl (by decide) _ _ _ rfl (hown.alloc _) ⟨wr.heap.size, 0, none⟩ 1 1 [.int .i64 ((p + q + y) % b)] rfl rfl ?c1 ?c2 ?c3 ?c4 ?c5 ?_)
        case c1 => exact one_cell _ _ _
        case c2 => intro u hu; simp at hu; subst hu; rfl
        case c3 => unfold maxLen; omega
        case c4 => omega
        case c5 => simp; omega
        intro v' w1 hown' hgrow _
        have hB1 := (hB.alloc hsz (.cells #[.int .i64 ((p + q + y) % b)] 3)).grown hgrow (by simp; omega) (fun j hj => (hown.lt j hj).1)
        have HO := Lib.hid (show w1.ownsRow w.heap.size 3 1 v' (o ++ [(p + q + y) % b]).length (intsOf (o ++ [(p + q + y) % b])) by simpa [intsOf] using hown')
        clear hown' hgrow
        go_wp2_with fail
        go_roundw
        case rel => exact ⟨o.length + 1, o ++ [(p + q + y) % b], (p + q + y) / b, by simp, HNX.out.1, by go_num, rfl, hd0, hd1, HAD.out, HST.out, HO.out, hB1⟩
        case measure => have := HNX.out.2; simpa [intOf] using this
    · have n1 : ¬ (o.length : Int) < a.length := by omega
      have n2 : ¬ (o.length : Int) < c.length := by omega
      have hy : y = 0 := by omega
      subst hy
      rw [List.drop_of_length_le (by omega), List.drop_of_length_le (by omega), hv_nil] at hE
      have hV : vl b o = vl b a + vl b c := by
        rw [← HSV.out, hE]; unfold vl; simp
      have HC := Lib.hid (specTrim_own _ o b w.heap.size wr hb hA hown (by omega))
      rw [hV] at HC
      obtain ⟨av, capv, rfl, _, _⟩ := owns_form hown
      clear hV hE hA hown hgo
      go_wp2_with fail
      refine HC.out.mono ?_
      rintro e w' ⟨v', rfl, ho, rfl⟩
      have HO := Lib.hid ho
      clear ho
      go_wp2_with fail
      go_ret
      exact ⟨_, rfl, HO.out, hB⟩

end Go.Proofs.Ytdflpocnfodbhab
