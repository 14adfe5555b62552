/- Long numbers: the program adds two numbers. -/
import Derived.Test.YtdflpocnfodbhaaLgPub
import Derived.Test.YtdflpocnfodbhaaLgL
import Derived.Test.YtdflpocnfodbhaaRfB
set_option linter.unusedVariables false
set_option linter.unusedSimpArgs false
set_option maxRecDepth 100000
namespace Go.Proofs.Ytdflpocnfodbhaa
open Go.ChangeShapes Go.WideShapes Go.ChangeAt Go.RowKit

theorem intsOf_append (l m : List Int) : intsOf (l ++ m) = intsOf l ++ intsOf m := by simp [intsOf]
/-- the next of the cells that are still 0 -/
theorem fill_step (o : List Int) (x : Int) {n : Nat} (h : o.length < n) : (o ++ List.replicate (n - o.length) 0).set o.length x = (o ++ [x]) ++ List.replicate (n - (o ++ [x]).length) 0 := by
  obtain ⟨m, hm⟩ : ∃ m, n - o.length = m + 1 := ⟨n - o.length - 1, by omega⟩
  rw [hm, List.set_append_right _ _ (Nat.le_refl _), show n - (o ++ [x]).length = m by simp; omega]
  simp [List.replicate_succ]
theorem fill_len (o : List Int) {n : Nat} (h : o.length ≤ n) : (o ++ List.replicate (n - o.length) 0).length = n := by simp; omega
theorem fill_get (o : List Int) {n : Nat} (h : o.length < n) : (o ++ List.replicate (n - o.length) (0 : Int))[o.length]? = some 0 := by
  rw [List.getElem?_append_right (Nat.le_refl _), Nat.sub_self, List.getElem?_replicate, if_pos (by omega)]

/-- a sum's last carry is 0 -/
theorem no_carry {b : Nat} (hb : 2 ≤ b) {a c o : List Int} (ha : AllD b a) (hc : AllD b c) (hA : AllD b o) {M : Nat} (h1 : a.length ≤ M) (h2 : c.length ≤ M) {y : Int} (hy : 0 ≤ y) (ho : o.length = M + 1) (h : hv b a + hv b c = hv b o + (b : Int) ^ (M + 1) * y) : y = 0 := by
  rcases Int.lt_or_eq_of_le hy with h0 | h0
  · exfalso
    have e1 := vl_lt_pow hb ha
    have e2 := vl_lt_pow hb hc
    have e3 := Nat.pow_le_pow_right (show 0 < b by omega) h1
    have e4 := Nat.pow_le_pow_right (show 0 < b by omega) h2
    have e5 := pow_two_le hb M
    have c1 := vl_cast ha; have c2 := vl_cast hc
    have p := hv_nonneg' hA
    have q : (b : Int) ^ (M + 1) * 1 ≤ (b : Int) ^ (M + 1) * y := Int.mul_le_mul_of_nonneg_left (by omega) (Int.le_of_lt (pow_pos' hb _))
    have e6 : ((b ^ (M + 1) : Nat) : Int) = (b : Int) ^ (M + 1) := Int.natCast_pow _ _
    omega
  · exact h0.symm

set_option maxHeartbeats 4000000 in
theorem implPlus_any (va vc : Value) (a c : List Int) (b : Nat) (w : World) (hb : 2 ≤ b) (hb16 : b ≤ 16) (ha : AllD b a) (hc : AllD b c) (hra : RowAt w va (intsOf a)) (hrc : RowAt w vc (intsOf c)) (hl : a.length ≤ 100000) (hl' : c.length ≤ 100000) :
    Calls Try.prog 89 #[va, vc, .int .i64 b] w fun e w' => ∃ v, e = .returned v ∧ w'.ownsRow w.heap.size 3 1 v (dg b (vl b a + vl b c)).length (intsOf (dg b (vl b a + vl b c))) ∧ Below w.heap.size w w' := by
  have HRA := Lib.hid hra; have HRC := Lib.hid hrc
  obtain ⟨aa, cap, rfl, h1, h2, h3⟩ := hra.ints
  obtain ⟨ac, cap', rfl, h1', h2', h3'⟩ := hrc.ints
  obtain ⟨S, hS⟩ : ∃ S : Int, S = hv b a + hv b c := ⟨_, rfl⟩
  obtain ⟨M, hM⟩ : ∃ M, M = max a.length c.length := ⟨_, rfl⟩
  have hMa : a.length ≤ M := by omega
  have hMc : c.length ≤ M := by omega
  have hM9 : M ≤ 100000 := by omega
  have hSv : S.toNat = vl b a + vl b c := by
    have e1 := vl_cast ha; have e2 := vl_cast hc; omega
  have HSV := Lib.hid hSv
  have HS := Lib.hid hS
  have HA := Lib.hid ha; have HC := Lib.hid hc
  obtain ⟨n, hn⟩ : ∃ n, n = M + 1 := ⟨_, rfl⟩
  have hcase : (a.length < c.length ∧ (c.length : Int) + 1 = (n : Int)) ∨ (¬ a.length < c.length ∧ (a.length : Int) + 1 = (n : Int)) := by omega
  have HN := Lib.hid hn
  clear h3 h3' hra hrc hS hSv hM ha hc hn
  unfold maxLen at h2 h2'
  obtain ⟨i0, hi, hz0, hz1, hz2⟩ := info_parts infoInt
  have hbp : (0 : Int) < b := by omega
  have hn9 : n ≤ 100001 := by have := HN.out; omega
  rcases hcase with ⟨hlt, hn2⟩ | ⟨hlt, hn2⟩
  all_goals
    go_enter Try.func89, Try.ntmps89
    go_wp2_with (at_make; refine wpList_make_full _ rfl _ _ 81 rfl w.heap.size 3 i0 (.int .i64 0) 1 Try.underlying81 hi hz0 hz1 _ _ _ _ n rfl rfl rfl rfl ?c1 ?c2 ?c3 ?_)
    case c1 => rw [hz2]; omega
    case c2 => unfold maxLen; omega
    case c3 => exact Nat.le_refl _
    intro w1 hown hgrow
    have hown1 : w1.ownsRow w.heap.size 3 1 (.slice (some ⟨w.heap.size, 0, none⟩) n n) n (intsOf (List.replicate n 0)) := by
      rw [toList_madeCells_one] at hown; rw [intsOf_zeros]; simpa using hown
    have hB1 : Below w.heap.size w w1 := (Below.refl _ _).grown hgrow (Nat.le_refl _) (fun k hk => by cases hk)
    have HO1 := Lib.hid hown1
    clear hown hgrow hown1
    go_wp2
    go_loopw [8, 19] (fun cy i wr => ∃ (k : Nat) (o : List Int) (y : Int), o.length = k ∧ k ≤ n ∧ i = .int .i64 k ∧ cy = .int .i64 y ∧ 0 ≤ y ∧ y ≤ 1 ∧ AllD b o ∧ S = hv b o + (b : Int) ^ k * (y + hv b (a.drop k) + hv b (c.drop k)) ∧ wr.ownsRow w.heap.size 3 1 (.slice (some ⟨w.heap.size, 0, none⟩) n n) n (intsOf (o ++ List.replicate (n - o.length) 0)) ∧ Below w.heap.size w wr)
      (fun _ i _ => n - (intOf i).toNat)
    case atStart =>
      refine ⟨0, [], 0, rfl, Nat.zero_le _, rfl, rfl, by omega, by omega, fun d hd => by simp at hd, ?_, by simpa using HO1.out, hB1⟩
      rw [HS.out]; simp [hv_nil]
    case round =>
      obtain ⟨k, o, y, hok, hk, rfl, rfl, hy0, hy1, hA, hE, hown, hB⟩ := hrel
      subst hok
      have hsz := hB.size
      clear hB1 HO1
      by_cases hgo : o.length < n
      · have ra := at0_range hb HA.out o.length
        have rc := at0_range hb HC.out o.length
        obtain ⟨p, hp⟩ : ∃ p, p = at0 a o.length := ⟨_, rfl⟩
        obtain ⟨q, hq⟩ : ∃ q, q = at0 c o.length := ⟨_, rfl⟩
        rw [← hp] at ra
        rw [← hq] at rc
        have hstep := add_step hb hE (by rw [hp]; exact hv_at b a o.length) (by rw [hq]; exact hv_at b c o.length) (show y + (p + q) = p + q + y by omega)
        have hx0 : 0 ≤ y + (p + q) := by omega
        have hm0 : 0 ≤ (y + (p + q)) % b := Int.emod_nonneg _ (by omega)
        have hm1 : (y + (p + q)) % b < b := Int.emod_lt_of_pos _ hbp
        have hd0 : 0 ≤ (y + (p + q)) / b := Int.ediv_nonneg hx0 (by omega)
        have hd1 : (y + (p + q)) / b ≤ 1 := by
          have : (y + (p + q)) / b < 2 := Int.ediv_lt_of_lt_mul hbp (by omega)
          omega
        have HST := Lib.hid (show S = hv b (o ++ [(y + (p + q)) % b]) + (b : Int) ^ (o.length + 1) * ((y + (p + q)) / b + hv b (a.drop (o.length + 1)) + hv b (c.drop (o.length + 1))) by rw [hv_snoc]; exact hstep)
        have HAD := Lib.hid (allD_snoc hA hm0 (show (y + (p + q)) % b ≤ (b : Int) - 1 by omega))
        have HQA := Lib.hid (fun W hW => implAt_any (.slice aa a.length cap) a o.length W (HRA.out.below hW) (by omega) (by omega))
        have HQC := Lib.hid (fun W hW => implAt_any (.slice ac c.length cap') c o.length W (HRC.out.below hW) (by omega) (by omega))
        rw [← hp] at HQA
        rw [← hq] at HQC
        have hfl := fill_len o hk
        have hcp : wr.cell? ⟨w.heap.size, o.length, none⟩ = some (.int .i64 0) := by
          rw [hown.cellAt o.length (by omega)]
          have := fill_get o hgo
          simp only [intsOf, List.getElem?_map, this]; rfl
        have hfp : wr.frozen? ⟨w.heap.size, o.length, none⟩ = false := hown.frozenAt o.length
        have hsd := (hown.stored o.length (.int .i64 ((y + (p + q)) % b))).1
        rw [intsOf_set, fill_step o _ hgo] at hsd
        have HSD := Lib.hid hsd
        have hgo' : (o.length : Int) < n := by omega
        clear hp hq hstep hE hA hsd hown hfl
        go_wp2_with fail
        refine (HQA.out _ hB).mono ?_
        rintro e w' ⟨rfl, rfl⟩
        go_wp2_with fail
        refine (HQC.out _ hB).mono ?_
        rintro e w' ⟨rfl, rfl⟩
        go_wp2_with fail
        go_roundw
        case rel => exact ⟨o.length + 1, o ++ [(y + (p + q)) % b], (y + (p + q)) / b, by simp, by omega, by go_num, rfl, hd0, hd1, HAD.out, HST.out, HSD.out, hB.setCell (p := ⟨w.heap.size, o.length, none⟩) (Nat.le_refl _) _⟩
        case measure => simp [intOf]; omega
      · have hkn : o.length = n := by omega
        rw [List.drop_of_length_le (by have := HN.out; omega), List.drop_of_length_le (by have := HN.out; omega), hv_nil] at hE
        have hy : y = 0 := no_carry hb HA.out HC.out hA hMa hMc hy0 (by have := HN.out; omega) (by rw [← HS.out, hE, hkn, HN.out]; simp)
        subst hy
        have hV : vl b o = vl b a + vl b c := by
          rw [← HSV.out, hE]; unfold vl; simp
        rw [hkn, Nat.sub_self, List.replicate_zero, List.append_nil] at hown
        have HC2 := Lib.hid (implTrim_own _ o b w.heap.size wr hb hA (by rw [hkn]; exact hown) (by omega))
        rw [hV] at HC2
        clear hV hE hA hown hgo
        go_wp2_with fail
        refine HC2.out.mono ?_
        rintro e w' ⟨v', rfl, ho, rfl⟩
        have HO := Lib.hid ho
        clear ho
        go_wp2_with fail
        go_ret
        exact ⟨_, rfl, HO.out, hB⟩

end Go.Proofs.Ytdflpocnfodbhaa
