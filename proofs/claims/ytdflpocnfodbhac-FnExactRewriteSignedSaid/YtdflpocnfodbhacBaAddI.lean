/- Balanced digits: the program adds two lists. -/
import Derived.Test.YtdflpocnfodbhacLgMul
import Derived.Test.YtdflpocnfodbhacBaAdd
import Derived.Test.YtdflpocnfodbhacLgL
import Derived.Test.YtdflpocnfodbhacBaI1b
import Derived.Test.YtdflpocnfodbhacRfB
import Derived.Test.YtdflpocnfodbhacLgA
set_option linter.unusedVariables false
set_option linter.unusedSimpArgs false
set_option maxRecDepth 100000
namespace Go.Proofs.Ytdflpocnfodbhac
open Go.ChangeShapes Go.WideShapes Go.ChangeAt Go.RowKit

set_option maxHeartbeats 1000000 in
/-- what result hands back of a row -/
theorem implRes_row (v : Value) (L : List Int) (base : Nat) (w : World) (hown : w.ownsRow base 3 1 v L.length (intsOf L)) :
    Calls Try.prog 50 #[v] w fun e w' => ∃ v', e = .returned (.tuple #[v', .bool (fits L)]) ∧ w.ownsRow base 3 1 v' (if fits L then L else []).length (intsOf (if fits L then L else [])) ∧ w = w' := by
  obtain ⟨a, cap, rfl, h1, h2⟩ := owns_form hown
  unfold maxLen at h2
  by_cases hf : L.length ≤ 60
  · have HF := Lib.hid (show fits L = true by simpa [fits] using hf)
    have HO := Lib.hid hown
    rw [HF.out]
    clear hown
    go_enter Try.func50, Try.ntmps50
    go_wp2
    go_ret2
    exact ⟨_, rfl, HO.out, rfl⟩
  · have HF := Lib.hid (show fits L = false by simpa [fits] using hf)
    rw [HF.out]
    clear hown
    go_enter Try.func50, Try.ntmps50
    go_wp2
    go_ret2
    exact ⟨_, rfl, World.ownsRow_nil _ _ _ _, rfl⟩

/-- trimming a row of balanced digits that is owned -/
theorem implTrimB_own (v : Value) (l : List Int) (h base : Nat) (w : World) (hh : 1 ≤ h) (hA : AllB h l) (hown : w.ownsRow base 3 1 v l.length (intsOf l)) (hl : l.length ≤ 1048576) :
    Calls Try.prog 49 #[v] w fun e w' => ∃ v', e = .returned v' ∧ w.ownsRow base 3 1 v' (bd h (bv h l)).length (intsOf (bd h (bv h l))) ∧ w = w' := by
  obtain ⟨a, cap, rfl, h1, h2⟩ := owns_form hown
  refine (implTrim_any a cap l w (RowAt.of_owns hown) hl).mono ?_
  rintro e w' ⟨n, rfl, hn, hz, hlast, rfl⟩
  have e := trim_eqB hh hA hn hz hlast
  have en : (bd h (bv h l)).length = n := by rw [← e, List.length_take, Nat.min_eq_left hn]
  refine ⟨_, rfl, ?_, rfl⟩
  rw [en, ← e, ← intsOf_take]
  exact owns_take hown hn

set_option maxHeartbeats 4000000 in
theorem implBalancedAdd_any (va : Value) (a : List Int) (vc : Value) (c : List Int) (b : Int) (w : World) (hra : RowAt w va (intsOf a)) (hl : a.length ≤ 1048576) (hia : ∀ n ∈ a, in64 n) (hrc : RowAt w vc (intsOf c)) (hl' : c.length ≤ 1048576) (hic : ∀ n ∈ c, in64 n) (hb : in64 b) :
    Calls Try.prog 17 #[va, vc, .int .i64 b] w fun e w' => ∃ v, e = .returned (.tuple #[v, .bool (rBalancedAdd1 a c b)]) ∧ w'.ownsRow w.heap.size 3 1 v (rBalancedAdd0 a c b).length (intsOf (rBalancedAdd0 a c b)) ∧ Below w.heap.size w w' := by
  have H1 := Lib.hid (implBal_eq va a b w hra hl hia hb)
  have H2 := Lib.hid (implBal_eq vc c b w hrc hl' hic hb)
  have HRA := Lib.hid hra; have HRC := Lib.hid hrc
  obtain ⟨aa, cap, rfl, h1, h2, h3⟩ := hra.ints
  obtain ⟨ac, cap', rfl, h1', h2', h3'⟩ := hrc.ints
  unfold maxLen at h2 h2'
  obtain ⟨i0, hi, hz0, hz1, hz2⟩ := info_parts infoInt
  clear h3 h3' hra hrc
  cases h : okW a b
  · rw [h] at H1
    have E1 := Lib.hid (show rBalancedAdd1 a c b = false by rw [rBalancedAdd1, h]; rfl)
    have E0 := Lib.hid (show rBalancedAdd0 a c b = [] by rw [rBalancedAdd0, E1.out]; rfl)
    clear h
    go_enter Try.func17, Try.ntmps17
    go_wp2_with (go_at_call 46; refine H1.out.mono ?_; rintro e w' ⟨rfl, rfl⟩)
    go_ret2
    exact ⟨_, by rw [E1.out]; rfl, by rw [E0.out]; exact World.ownsRow_nil _ _ _ _, Below.refl _ _⟩
  · rw [h] at H1
    cases hc : okW c b
    · rw [hc] at H2
      have E1 := Lib.hid (show rBalancedAdd1 a c b = false by rw [rBalancedAdd1, h, hc]; rfl)
      have E0 := Lib.hid (show rBalancedAdd0 a c b = [] by rw [rBalancedAdd0, E1.out]; rfl)
      clear h hc
      go_enter Try.func17, Try.ntmps17
      go_wp2_with fail
      refine H1.out.mono ?_
      rintro e w' ⟨rfl, rfl⟩
      go_wp2_with fail
      refine H2.out.mono ?_
      rintro e w' ⟨rfl, rfl⟩
      go_wp2_with fail
      go_ret2
      exact ⟨_, by rw [E1.out]; rfl, by rw [E0.out]; exact World.ownsRow_nil _ _ _ _, Below.refl _ _⟩
    · rw [hc] at H2
      obtain ⟨g, hbe, hn1, hn7, hNa, hla⟩ := okW_yes h
      obtain ⟨g', hbe', _, _, hNc, hlc⟩ := okW_yes hc
      obtain rfl : g = g' := by omega
      obtain ⟨S, hS⟩ : ∃ S : Int, S = bv g a + bv g c := ⟨_, rfl⟩
      have HE1 := Lib.hid (show rBalancedAdd1 a c b = fits (bd g S) by rw [rBalancedAdd1, h, hc, hbe, hOf_eq, ← hS]; rfl)
      have HE0 := Lib.hid (show rBalancedAdd0 a c b = if fits (bd g S) then bd g S else [] by rw [rBalancedAdd0, HE1.out, hbe, hOf_eq, ← hS])
      have HNA := Lib.hid hNa; have HNC := Lib.hid hNc
      have HS := Lib.hid hS
      have HPL := Lib.hid (fun s W hs1 hs2 => placeB_any s g b W hn1 hn7 hbe hs1 hs2)
      obtain ⟨M, hM⟩ : ∃ M, M = max a.length c.length := ⟨_, rfl⟩
      have hMa : a.length ≤ M := by omega
      have hMc : c.length ≤ M := by omega
      have hM9 : M ≤ 60 := by omega
      obtain ⟨n, hn⟩ : ∃ n, n = M + 1 := ⟨_, rfl⟩
      have hcase : (a.length < c.length ∧ (c.length : Int) + 1 = (n : Int)) ∨ (¬ a.length < c.length ∧ (a.length : Int) + 1 = (n : Int)) := by omega
      have HN := Lib.hid hn
      have hn9 : n ≤ 61 := by omega
      clear h hc hNa hNc hia hic hM hb hbe hbe' hS hn
      rcases hcase with ⟨hlt, hn2⟩ | ⟨hlt, hn2⟩
      all_goals
        go_enter Try.func17, Try.ntmps17
        go_wp2_with fail
        refine H1.out.mono ?_
        rintro e w' ⟨rfl, rfl⟩
        go_wp2_with fail
        refine H2.out.mono ?_
        rintro e w' ⟨rfl, rfl⟩
        go_wp2_with (at_make; refine wpList_make_full _ rfl _ _ 43 rfl w.heap.size 3 i0 (.int .i64 0) 1 Try.underlying43 hi hz0 hz1 _ _ _ _ n rfl rfl rfl rfl ?c1 ?c2 ?c3 ?_)
        case c1 => rw [hz2]; omega
        case c2 => unfold maxLen; omega
        case c3 => exact Nat.le_refl _
        intro w1 hown hgrow
        have hown1 : w1.ownsRow w.heap.size 3 1 (.slice (some ⟨w.heap.size, 0, none⟩) n n) n (intsOf (List.replicate n 0)) := by
          rw [toList_madeCells_one] at hown; rw [intsOf_zeros]; simpa using hown
        have hB1 : Below w.heap.size w w1 := (Below.refl _ _).grown hgrow (Nat.le_refl _) (fun k hk => by cases hk)
        have HO1 := Lib.hid hown1
        clear hown hgrow hown1
        go_wp2
        go_loopw [9, 30] (fun cy i wr => ∃ (k : Nat) (o : List Int) (y : Int), o.length = k ∧ k ≤ n ∧ (k = n → y = 0) ∧ i = .int .i64 k ∧ cy = .int .i64 y ∧ -1 ≤ y ∧ y ≤ 1 ∧ AllB g o ∧ S = bv g o + (2 * (g : Int) + 1) ^ k * (y + bv g (a.drop k) + bv g (c.drop k)) ∧ wr.ownsRow w.heap.size 3 1 (.slice (some ⟨w.heap.size, 0, none⟩) n n) n (intsOf (o ++ List.replicate (n - o.length) 0)) ∧ Below w.heap.size w wr)
          (fun _ i _ => n - (intOf i).toNat)
        case atStart =>
          refine ⟨0, [], 0, rfl, Nat.zero_le _, fun _ => rfl, rfl, rfl, by omega, by omega, fun d hd => by simp at hd, ?_, by simpa using HO1.out, hB1⟩
          rw [HS.out]; simp [bv_nil]
        case round =>
          obtain ⟨k, o, y, hok, hk, hk0, rfl, rfl, hy0, hy1, hA, hE, hown, hB⟩ := hrel
          subst hok
          have hsz := hB.size
          clear hB1 HO1
          by_cases hgo : o.length < n
          · have ra := at0_rangeB HNA.out.1 o.length
            have rc := at0_rangeB HNC.out.1 o.length
            obtain ⟨p, hp⟩ : ∃ p, p = at0 a o.length := ⟨_, rfl⟩
            obtain ⟨q, hq⟩ : ∃ q, q = at0 c o.length := ⟨_, rfl⟩
            rw [← hp] at ra
            rw [← hq] at rc
            have hpa := bv_at g a o.length
            have hqc := bv_at g c o.length
            rw [← hp] at hpa
            rw [← hq] at hqc
            have hdz := pd_facts hn1 (p + q + y)
            obtain ⟨d, hd⟩ : ∃ d, d = pdg g (p + q + y) := ⟨_, rfl⟩
            obtain ⟨z, hz⟩ : ∃ z, z = pqo g (p + q + y) := ⟨_, rfl⟩
            have HC := Lib.hid (fun W => HPL.out (p + q + y) W (by omega) (by omega))
            rw [← hd, ← hz] at hdz HC
            obtain ⟨hdz, hd1, hd2⟩ := hdz
            have hz1' : -1 ≤ z := by
              rcases Int.lt_or_le z (-1) with hx | hx
              · exfalso
                have : (2 * (g : Int) + 1) * z ≤ (2 * (g : Int) + 1) * (-2) := Int.mul_le_mul_of_nonneg_left (by omega) (by omega)
                omega
              · exact hx
            have hz2' : z ≤ 1 := by
              rcases Int.lt_or_le 1 z with hx | hx
              · exfalso
                have : (2 * (g : Int) + 1) * 2 ≤ (2 * (g : Int) + 1) * z := Int.mul_le_mul_of_nonneg_left (by omega) (by omega)
                omega
              · exact hx
            have hst := bal_step hE hpa hqc hdz
            have HST := Lib.hid (show S = bv g (o ++ [d]) + (2 * (g : Int) + 1) ^ (o.length + 1) * (z + bv g (a.drop (o.length + 1)) + bv g (c.drop (o.length + 1))) by rw [bv_snoc]; exact hst)
            have HAD := Lib.hid (allB_snoc hA hd1 hd2)
            have HZ := Lib.hid (show o.length + 1 = n → z = 0 from fun hx => by
              have := HN.out
              have e1 : p = 0 := by rw [hp]; exact at0_ge (by omega)
              have e2 : q = 0 := by rw [hq]; exact at0_ge (by omega)
              have e3 := (pd_uniq hn1 (s := p + q + y) (d := y) (q := 0) (by omega) (by omega) (by omega)).2
              rw [hz]; exact e3)
            have HQA := Lib.hid (fun W hW => implAt_any (.slice aa a.length cap) a o.length W (HRA.out.below hW) hl (by omega))
            have HQC := Lib.hid (fun W hW => implAt_any (.slice ac c.length cap') c o.length W (HRC.out.below hW) hl' (by omega))
            rw [← hp] at HQA
            rw [← hq] at HQC
            have hcp : wr.cell? ⟨w.heap.size, o.length, none⟩ = some (.int .i64 0) := by
              rw [hown.cellAt o.length (by omega)]
              have := fill_get o hgo
              simp only [intsOf, List.getElem?_map, this]; rfl
            have hfp : wr.frozen? ⟨w.heap.size, o.length, none⟩ = false := hown.frozenAt o.length
            have hsd := (hown.stored o.length (.int .i64 d)).1
            rw [intsOf_set, fill_step o _ hgo] at hsd
            have HSD := Lib.hid hsd
            have hgo' : (o.length : Int) < n := by omega
            clear hp hq hd hz hst hE hA hpa hqc hdz hsd hown hk0
            go_wp2_with fail
            refine (HQA.out _ hB).mono ?_
            rintro e w' ⟨rfl, rfl⟩
            go_wp2_with fail
            refine (HQC.out _ hB).mono ?_
            rintro e w' ⟨rfl, rfl⟩
            go_wp2_with fail
            refine (HC.out _).mono ?_
            rintro e w' ⟨rfl, nq, rfl⟩
            go_wp2_with fail
            go_roundw
            case rel => exact ⟨o.length + 1, o ++ [d], z, by simp, by omega, HZ.out, by go_num, rfl, hz1', hz2', HAD.out, HST.out, HSD.out, (below_drewN hB nq).setCell (p := ⟨w.heap.size, o.length, none⟩) (Nat.le_refl _) _⟩
            case measure => simp [intOf]; omega
          · have hkn : o.length = n := by omega
            have hy := hk0 hkn
            subst hy
            rw [List.drop_of_length_le (by have := HN.out; omega), List.drop_of_length_le (by have := HN.out; omega), bv_nil] at hE
            have hV : S = bv g o := by rw [hE]; simp
            rw [hkn, Nat.sub_self, List.replicate_zero, List.append_nil] at hown
            have HC2 := Lib.hid (implTrimB_own _ o g w.heap.size wr hn1 hA (by rw [hkn]; exact hown) (by omega))
            rw [← hV] at HC2
            obtain ⟨L, hL⟩ : ∃ L, L = bd g S := ⟨_, rfl⟩
            rw [← hL] at HC2 HE1 HE0
            clear hV hE hA hown hgo hL
            go_wp2_with fail
            refine HC2.out.mono ?_
            rintro e w' ⟨v', rfl, ho, rfl⟩
            have HRS := Lib.hid (implRes_row v' L w.heap.size wr ho)
            clear ho
            obtain ⟨fl, hfl⟩ : ∃ fl, fl = fits L := ⟨_, rfl⟩
            obtain ⟨R, hR⟩ : ∃ R, R = (if fits L then L else []) := ⟨_, rfl⟩
            rw [← hR, ← hfl] at HRS
            have F0 := Lib.hid (show rBalancedAdd0 a c b = R by rw [HE0.out, hR])
            have F1 := Lib.hid (show rBalancedAdd1 a c b = fl by rw [HE1.out, hfl])
            clear hfl hR
            go_wp2_with fail
            refine HRS.out.mono ?_
            rintro e w' ⟨v'', rfl, ho2, rfl⟩
            have HO := Lib.hid ho2
            clear ho2
            go_wp2_with fail
            go_ret2
            exact ⟨_, by rw [F1.out]; rfl, by rw [F0.out]; exact HO.out, hB⟩

end Go.Proofs.Ytdflpocnfodbhac
