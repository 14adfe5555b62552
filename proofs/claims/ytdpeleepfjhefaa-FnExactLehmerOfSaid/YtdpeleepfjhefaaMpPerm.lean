/- Permutations: the model's permutation at a number. -/
import Derived.Test.YtdpeleepfjhefaaMpM2
import Derived.Test.YtdpeleepfjhefaaMpSpec
import Derived.Deep.CutBlock
import Derived.Deep.CutRange
import Derived.Deep.DeepCutAuto
import Derived.Deep.RegionLaw
import Derived.OwnWalk
set_option linter.unusedVariables false
set_option linter.unusedSimpArgs false
set_option maxRecDepth 100000
namespace Go.Proofs.Ytdpeleepfjhefaa
open Go.ChangeShapes Go.WideShapes Go.ChangeAt Go.RowKit

/-- an append to an owned row, as one step of a region that draws; nothing may be appended too -/
theorem step_put {P : Program} (w : World) {ops : Array Oper} {o : Oper} {a : Act} {K : Act → World → Prop} {Q : Exit → Act → World → Prop} {E : Prop} (hgd : o.guard = none) (s x : Operand) (t : TypeId)
    (ho : o.op = .call { callee := .builtin .append, args := #[s, x], argTypes := #[t, t] })
    (base : Nat) (e : TypeId) (i : TypeInfo) (z : Value) (bytes : Nat) (ht : P.underlying t = some (.slice e)) (hi : P.info? e = some i) (hz : i.zero = some z)
    (hsize : i.size = 1) (hby : i.bytes = bytes) (hzs : z.cells.size = 1)
    (v : Value) (n : Nat) (xs : List Value) (hs : a.eval s = v) (hown : w.ownsRow base e 1 v n xs)
    (ad : Addr) (m c : Nat) (news : List Value) (hx : a.eval x = .slice (some ad) m c) (hl : news.length = m) (hnews : ∀ j u, news[j]? = some u → w.cell? (ad.add j) = some u) (h1 : ∀ u ∈ news, u.oneCell' = true)
    (h63 : n + m ≤ maxLen) (hbytes : (n + m) * bytes ≤ 140737488355328) (hbase : base ≤ w.heap.size)
    (h : ∀ v' w', w'.ownsRow base e 1 v' (n + m) (xs ++ news) → w.grownBy w' v.ownBlock → (v'.ownBlock = v.ownBlock ∨ v'.ownBlock = some w.heap.size) → K (a.put o.dst v') w') :
    if Region.wanted o (yielded ops a.tmps) = true then Oper.wp P o a w K Q else E := by
  have hw : Region.wanted o (yielded ops a.tmps) = true := by simp [Region.wanted, hgd]
  rw [if_pos hw]
  obtain ⟨v', w', hr, h2, h3, _, h5⟩ := run_append_own_at (P := P) w base t o.type e i z 1 bytes ht hi hz hsize hby hzs (by decide) v n xs hown ad m c news (by omega) hnews h1 h63 hbytes hbase
  unfold Oper.wp execOp
  simp only [ho, resolve, invoke, builtin, Sem.run_bind, Sem.run_pure, Result.andThen_ok, List.map_toArray, List.map_cons, List.map_nil, hs, hx, hr]
  exact h v' w' h2 h3 h5

theorem iot_len (m : Nat) : (iot m).length = m := by simp [iot]
theorem iot_succ (m : Nat) : iot (m + 1) = iot m ++ [(m : Int)] := by simp [iot, List.range_succ]
theorem take_rev {D : List Int} {j : Nat} (h : j < D.length) : (D.take (j + 1)).reverse = D[j] :: (D.take j).reverse := by
  rw [List.take_succ_eq_append_getElem h, List.reverse_append]; rfl

set_option maxHeartbeats 4000000 in
theorem specPermutationAt_any (n m : Int) (w : World) (hn : in64 n) (hm : in64 m) :
    Calls Try.prog 36 #[.int .i64 n, .int .i64 m] w fun e w' => ∃ v', e = .returned v' ∧ w'.ownsRow w.heap.size 3 1 v' (rPermutationAt0 n m).length (intsOf (rPermutationAt0 n m)) ∧ Below w.heap.size w w' := by
  obtain ⟨i0, hi, hz0, hz1, hz2⟩ := info_parts infoInt
  have HD := Lib.hid (fun W => specFactorialDigits_any n m W hn hm)
  cases h : (inB m 1 8 && inB n 0 (fct m.toNat - 1))
  · have E0 := Lib.hid (show rPermutationAt0 n m = [] by rw [rPermutationAt0, h]; rfl)
    have E1 : rFactorialDigits0 n m = [] := by rw [rFactorialDigits0, h]; rfl
    rw [E1] at HD
    clear h E1
    go_enter Try.func36, Try.ntmps36
    go_wp2_with fail
    refine (HD.out _).mono ?_
    rintro e w1 ⟨dv, rfl, hO, hB⟩
    obtain ⟨av, cv, e3, _, _⟩ := owns_form hO
    subst e3
    rw [show ([] : List Int).length = 0 from rfl]
    clear hO
    go_wp2_with fail
    go_ret
    exact ⟨_, rfl, by rw [E0.out]; exact World.ownsRow_nil _ _ _ _, hB⟩
  · have hmB : inB m 1 8 = true := by rw [Bool.and_eq_true] at h; exact h.1
    obtain ⟨m1, m8⟩ := inB_yes hmB
    obtain ⟨k, rfl⟩ : ∃ k : Nat, m = k := ⟨m.toNat, by omega⟩
    rw [Int.toNat_natCast] at h
    have E0 : rPermutationAt0 n k = pat (md n (fr k)).reverse (iot k) := by rw [rPermutationAt0, Int.toNat_natCast, h]; rfl
    have E1 : rFactorialDigits0 n k = md n (fr k) := by rw [rFactorialDigits0, Int.toNat_natCast, h]; rfl
    have hF := (fit_rev k (md n (fr k)) (fit_mdP (allP_fr k) n)).1
    obtain ⟨D, hDe⟩ : ∃ D, D = md n (fr k) := ⟨_, rfl⟩
    have hDl : D.length = k := by rw [hDe, md_len, fr_len]
    rw [← hDe] at E0 E1 hF
    rw [E1] at HD
    have hPl : (rPermutationAt0 n k).length = k := by rw [E0, pat_len, List.length_reverse, hDl]
    obtain ⟨P, hP⟩ : ∃ P, P = rPermutationAt0 n k := ⟨_, rfl⟩
    rw [← hP] at E0 hPl ⊢
    have HE := Lib.hid E0
    have HDL := Lib.hid hDl
    have HPL := Lib.hid hPl
    have HF := Lib.hid hF
    clear h hDe E0 E1 hP hmB hF hPl
    rw [hDl] at HD
    go_enter Try.func36, Try.ntmps36
    go_wp2_with fail
    refine (HD.out _).mono ?_
    rintro e w1 ⟨dv, rfl, hOD, hB1⟩
    have hRD := RowAt.of_owns hOD
    obtain ⟨a, cap, rfl, h1, h2, h3⟩ := hRD.ints
    obtain ⟨bD, oD, rfl, hbD, hcD⟩ := h3.resolve_left (fun e => by rw [e] at hDl; simp at hDl; omega)
    have HCD := Lib.hid hcD
    rw [hDl] at h1 ⊢
    unfold maxLen at h2
    have hk0 : ¬ (k : Int) = 0 := by omega
    clear hOD hRD h3 hcD hDl
    go_wp2_with fail
    rw [show ((k : Int) == 0) = false by simp; omega]
    go_loopw [6, 7] (fun v i wr => ∃ j : Nat, j ≤ k ∧ i = .int .i64 j ∧ wr.ownsRow w1.heap.size 3 1 v j (intsOf (iot j)) ∧ Below w1.heap.size w1 wr) (fun _ i _ => k - (intOf i).toNat)
    case atStart => exact ⟨0, by omega, rfl, World.ownsRow_lit w1 #[] 0 (Nat.le_refl _) (by decide) rfl, (Below.refl _ _).alloc (Nat.le_refl _) _⟩
    case round =>
      obtain ⟨j, hjk, rfl, hown, hB⟩ := hrel
      have hsz := hB.size
      by_cases hlt : j < k
      · have HI := Lib.hid (iot_succ j)
        obtain ⟨I, hI⟩ : ∃ I, I = iot j := ⟨_, rfl⟩
        rw [← hI] at hown HI
        clear hI
        go_wp2_with (at_builtin; refine wpList_append_own_at _ rfl _ _ 23 rfl w1.heap.size 3 i0 (.int .i64 0) 1 8 Try.underlying23 hi hz0 hz1 hz2 rfl (by decide) _ _ _ rfl (hown.alloc _) ⟨wr.heap.size, 0, none⟩ 1 1 [.int .i64 j] rfl rfl (one_cell _ _ _) (by intro u hu; simp at hu; subst hu; rfl) (by unfold maxLen; omega) (by omega) (by simp; omega) ?_)
        intro v' w2 hown' hgrow _ _
        have hB2 := (hB.alloc hsz _).grown hgrow (by simp; omega) (fun j hj => (hown.lt j hj).1)
        have HO := Lib.hid (show w2.ownsRow w1.heap.size 3 1 v' (j + 1) (intsOf (iot (j + 1))) by rw [HI.out]; simpa [intsOf] using hown')
        clear hown' hgrow hown
        go_wp2_with fail
        go_roundw
        case rel => exact ⟨j + 1, hlt, by go_num, HO.out, hB2⟩
        case measure => simp [intOf]; omega
      · have hjl : j = k := by omega
        subst hjl
        go_wp2_with fail
        go_loopg [6, 8, 9] j (fun g l o i wx => ∃ (L O : List Int), g ≤ j ∧ i = .int .i64 ((g : Int) - 1) ∧ L.length = g ∧ FitD (D.take g).reverse g ∧ O ++ pat (D.take g).reverse L = P ∧
          wx.ownsRow w1.heap.size 3 1 l g (intsOf L) ∧ wx.ownsRow w1.heap.size 3 1 o (j - g) (intsOf O) ∧ (∀ b, l.ownBlock = some b → o.ownBlock ≠ some b) ∧ Below w1.heap.size w1 wx)
        case atStart =>
          refine ⟨iot j, [], Nat.le_refl _, rfl, iot_len j, ?_, ?_, hown.alloc _, ?_, ?_, hB.alloc hsz _⟩
          · rw [List.take_of_length_le (Nat.le_of_eq HDL.out)]; exact HF.out
          · rw [List.take_of_length_le (Nat.le_of_eq HDL.out), HE.out]; rfl
          · rw [Nat.sub_self]; exact World.ownsRow_lit wr #[] 0 hsz (by decide) rfl
          · intro b hb
            have := (hown.lt b hb).2
            simp [Value.ownBlock]; omega
        case round =>
          obtain ⟨L, O, hgj, rfl, hLl, hFD, hPP, hoL, hoO, hne, hBx⟩ := hrel
          have hsx := hBx.size
          by_cases h0 : gk = 0
          · subst h0
            have hO : O = P := by simpa [pat] using hPP
            have HO := Lib.hid (show wr.ownsRow w.heap.size 3 1 _ P.length (intsOf P) by
              rw [HPL.out, ← hO]; exact owns_mono (by simpa using hoO) hB1.size)
            obtain ⟨av, cv, e3, _, _⟩ := owns_form hoO
            subst e3
            have hn9 : ¬ (0 : Int) ≤ ((0 : Nat) : Int) - 1 := by omega
            clear hoO hoL hO hPP hne
            go_wp2
            go_ret
            exact ⟨_, rfl, HO.out, hB1.trans (hBx.mono hB1.size)⟩
          · obtain ⟨i, rfl⟩ : ∃ i, gk = i + 1 := ⟨gk - 1, by omega⟩
            rw [show ((i + 1 : Nat) : Int) - 1 = (i : Int) by omega]
            have hij : i < D.length := by rw [HDL.out]; omega
            rw [take_rev hij] at hFD hPP
            obtain ⟨⟨d0, d1⟩, hFD2⟩ := hFD
            have hcd : wr.cell? ⟨bD, oD + i, none⟩ = some (.int .i64 D[i]) := by
              rw [hBx.cell (p := ⟨bD, oD + i, none⟩) hbD]; exact HCD.out i hij
            obtain ⟨q, hq⟩ : ∃ q : Nat, D[i] = (q : Int) := ⟨D[i].toNat, by omega⟩
            rw [hq] at hcd d1 hPP
            rw [pat, Int.toNat_natCast] at hPP
            have hqi : q ≤ i := by omega
            have hqL : q < L.length := by omega
            rw [List.getD_eq_getElem?_getD, List.getElem?_eq_getElem hqL, Option.getD_some] at hPP
            obtain ⟨a', cap', rfl, l1, l2, l3⟩ := (RowAt.of_owns hoL).ints
            obtain ⟨bL, oL, rfl, hbL, hcL⟩ := l3.resolve_left (fun e => by rw [e] at hLl; simp at hLl)
            unfold maxLen at l2
            have hcx := hcL q hqL
            obtain ⟨y, hy⟩ : ∃ y, y = L[q] := ⟨_, rfl⟩
            rw [← hy] at hcx hPP
            have hbo := hne bL rfl
            have hbL2 := (hoL.lt bL rfl).1
            have HPP := Lib.hid hPP
            have HFD := Lib.hid hFD2
            have HCL := Lib.hid hcL
            have HER := Lib.hid (List.eraseIdx_eq_take_drop_succ L q)
            have HLL := Lib.hid hLl
            clear hne hFD2 d0 hq l3 hcL hoL hPP hy hij
            have hql : (q : Int) < ((i + 1 : Nat) : Int) := by omega
            have hik : (i : Int) < j := by omega
            go_wp2_with (at_builtin; refine wpList_append_own_at _ rfl _ _ 23 rfl w1.heap.size 3 i0 (.int .i64 0) 1 8 Try.underlying23 hi hz0 hz1 hz2 rfl (by decide) _ _ _ rfl (hoO.alloc _) ⟨wr.heap.size, 0, none⟩ 1 1 [.int .i64 y] rfl rfl (one_cell _ _ _) (by intro u hu; simp at hu; subst hu; rfl) (by unfold maxLen; omega) (by omega) (by simp; omega) ?_)
            intro vo w2 hoO' hgrow _ hbk
            have hB2 := (hBx.alloc hsx _).grown hgrow (by simp; omega) (fun j hj => (hoO.lt j hj).1)
            have hs2 : wr.heap.size < w2.heap.size := by have := hgrow.size; simp at this; omega
            have hc2 : ∀ z (h : z < L.length), w2.cell? ⟨bL, oL + z, none⟩ = some (.int .i64 L[z]) := fun z hz =>
              hgrow.cell (a := ⟨bL, oL + z, none⟩) (by rw [((Below.refl wr.heap.size wr).alloc (Nat.le_refl _) _).cell (p := ⟨bL, oL + z, none⟩) hbL]; exact HCL.out z hz) (Ne.symm hbo)
            have hvo := hoO'.lt
            have HVO := Lib.hid (show ∀ b, vo.ownBlock = some b → b < w2.heap.size from fun b hb => (hoO'.lt b hb).2)
            obtain ⟨oA, hA, hcA⟩ : ∃ oA, (if cap' = q + 1 then some ⟨bL, oL, none⟩ else some ⟨bL, oL + (q + 1), none⟩ : Option Addr) = some ⟨bL, oA, none⟩ ∧ ∀ z (h : q + 1 + z < L.length), oA = oL + (q + 1) ∨ False := by
              by_cases e : cap' = q + 1
              · exact ⟨oL, by rw [if_pos e], fun z h => by omega⟩
              · exact ⟨oL + (q + 1), by rw [if_neg e], fun z h => .inl rfl⟩
            have HA1 := Lib.hid (show ∀ W, Below w2.heap.size w2 W → ∀ z u, (intsOf (L.take q))[z]? = some u → W.cell? ((⟨bL, oL, none⟩ : Addr).add z) = some u from fun W hW z u hu => by
              have hz : z < q := by
                have := (List.getElem?_eq_some_iff.1 hu).1
                simp [intsOf] at this; omega
              have hzL : z < L.length := by omega
              rw [show (⟨bL, oL, none⟩ : Addr).add z = ⟨bL, oL + z, none⟩ by unfold Addr.add; split <;> simp_all]
              rw [hW.cell (p := ⟨bL, oL + z, none⟩) (show bL < w2.heap.size by omega), hc2 z hzL, ← hu]
              simp [intsOf, List.getElem?_take, hz, hzL])
            have HA2 := Lib.hid (show ∀ W, Below w2.heap.size w2 W → ∀ z u, (intsOf (L.drop (q + 1)))[z]? = some u → W.cell? ((⟨bL, oA, none⟩ : Addr).add z) = some u from fun W hW z u hu => by
              have hz : q + 1 + z < L.length := by
                have := (List.getElem?_eq_some_iff.1 hu).1
                simp [intsOf] at this; omega
              rcases hcA z hz with rfl | hh
              · rw [show (⟨bL, oL + (q + 1), none⟩ : Addr).add z = ⟨bL, oL + (q + 1 + z), none⟩ by unfold Addr.add; split <;> simp_all [Nat.add_assoc]]
                rw [hW.cell (p := ⟨bL, oL + (q + 1 + z), none⟩) (show bL < w2.heap.size by omega), hc2 _ hz, ← hu]
                simp [intsOf, List.getElem?_drop, hz]
              · exact hh.elim)
            have HN1 := Lib.hid (show (intsOf (L.take q)).length = q by simp [intsOf]; omega)
            have HN2 := Lib.hid (show (intsOf (L.drop (q + 1))).length = i - q by simp [intsOf]; omega)
            have hone : ∀ l : List Int, ∀ u ∈ intsOf l, u.oneCell' = true := fun l u hu => by
              simp [intsOf] at hu; obtain ⟨x, _, rfl⟩ := hu; rfl
            have HONE := Lib.hid hone
            have HOO := Lib.hid hoO'
            have HSX := Lib.hid hsx
            have hqw : IntKind.i64.wrap ((q : Int) + 1) = (q : Int) + 1 := by rw [IntKind.wrap_i64]; omega
            have hqc : q ≤ cap' := by omega
            have hqn : (0 : Int) ≤ (q : Int) + 1 := by omega
            have hq1 : q + 1 ≤ i + 1 := by omega
            clear hoO hoO' hgrow hc2 hcA hone hvo hcx hcd hbo
            go_wp2_with fail
            go_region_law (first
              | (refine step_put _ (by rfl) _ _ 23 (by rfl) w1.heap.size 3 i0 (.int .i64 0) 8 Try.underlying23 hi hz0 hz1 hz2 rfl _ 0 [] (by rfl) (World.ownsRow_lit w2.drew #[] 0 (by simp; omega) (by decide) rfl) ⟨bL, oL, none⟩ q _ (intsOf (L.take q)) (by rfl) HN1.out (HA1.out _ ((Below.refl _ _).drew.alloc (by simp) _)) (HONE.out _) (by unfold maxLen; omega) (by omega) (by simp; omega) ?_; intro v1 w3 ho1 hg1 hk1)
              | (refine step_put _ (by rfl) _ _ 23 (by rfl) w1.heap.size 3 i0 (.int .i64 0) 8 Try.underlying23 hi hz0 hz1 hz2 rfl _ _ _ (by rfl) ho1 ⟨bL, oA, none⟩ (i - q) _ (intsOf (L.drop (q + 1))) (by rfl) HN2.out (HA2.out _ (((Below.refl _ _).drew.alloc (by simp) _).grown hg1 (by simp) (fun b hb => by simp [Value.ownBlock] at hb; omega))) (HONE.out _) (by unfold maxLen; omega) (by omega) (by have := hg1.size; simp at this; omega) ?_; intro v2 w4 ho2 hg2 hk2))
            have hs3 := hg1.size
            have hs4 := hg2.size
            have hv1 : ∀ b, v1.ownBlock = some b → w2.heap.size ≤ b := fun b hb => by
              rcases hk1 with e | e <;> rw [hb] at e <;> simp [Value.ownBlock] at e <;> omega
            have HO2 := Lib.hid (show w4.ownsRow w1.heap.size 3 1 vo (j - i) (intsOf (O ++ [y])) by
              have h := ((show w2.drew.ownsRow w1.heap.size 3 1 vo _ _ from HOO.out).alloc (.cells #[] 3)).kept hg1 (.inr (fun e => by have := HVO.out _ e; simp [Value.ownBlock] at this))
              have h' := h.kept hg2 (by
                cases hvo : vo.ownBlock with
                | none => exact .inl rfl
                | some b => exact .inr (fun e => by have h1 := hv1 b e.symm; have h2 := HVO.out b hvo; omega))
              rw [show j - i = j - (i + 1) + 1 by omega]
              simpa [intsOf] using h')
            have HL2 := Lib.hid (show w4.ownsRow w1.heap.size 3 1 v2 i (intsOf (L.eraseIdx q)) by
              rw [HER.out]
              have e : 0 + q + (i - q) = i := by omega
              rw [e] at ho2
              simpa [intsOf] using ho2)
            have HNE := Lib.hid (show ∀ b, v2.ownBlock = some b → vo.ownBlock ≠ some b from fun b hb e => by
              have h2 := HVO.out b e
              simp at hs3
              rcases hk2 with e2 | e2
              · have h1 := hv1 b (by rw [← e2, hb]); omega
              · rw [hb] at e2; simp at e2; omega)
            have HB4 := Lib.hid (show Below w1.heap.size w1 w4 from ((hB2.drew.alloc (by simp; omega) _).grown hg1 (by simp; omega) (fun b hb => by simp [Value.ownBlock] at hb; omega)).grown hg2 (by simp at hs3; omega) (fun b hb => by have := hv1 b hb; omega))
            have HLE := Lib.hid (show (L.eraseIdx q).length = i by rw [List.length_eraseIdx_of_lt hqL]; omega)
            have HPP2 := Lib.hid (show (O ++ [y]) ++ pat (D.take i).reverse (L.eraseIdx q) = P by rw [List.append_assoc]; exact HPP.out)
            clear ho1 hg1 hk1 ho2 hg2 hk2 hs3 hs4 hv1 hB2
            go_wp2_with fail
            go_roundg i
            case rel => exact ⟨L.eraseIdx q, O ++ [y], by omega, by go_num, HLE.out, HFD.out, HPP2.out, HL2.out, HO2.out, HNE.out, HB4.out⟩
            case measure => omega

end Go.Proofs.Ytdpeleepfjhefaa
