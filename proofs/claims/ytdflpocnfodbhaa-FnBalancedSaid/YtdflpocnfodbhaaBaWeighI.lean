/- Balanced digits: the program's weighings. -/
import Derived.Test.YtdflpocnfodbhaaLgDiv
import Derived.Test.YtdflpocnfodbhaaBaWeigh
import Derived.Test.YtdflpocnfodbhaaBaI1b
set_option linter.unusedVariables false
set_option linter.unusedSimpArgs false
set_option maxRecDepth 100000
namespace Go.Proofs.Ytdflpocnfodbhaa
open Go.ChangeShapes Go.WideShapes Go.ChangeAt Go.RowKit

set_option maxHeartbeats 4000000 in
theorem implWeighingOf_any (n : Int) (w : World) (hn : in64 n) :
    Calls Try.prog 52 #[.int .i64 n] w fun e w' => ∃ v1 v2, e = .returned (.tuple #[v1, v2]) ∧ w'.ownsRow w.heap.size 3 1 v1 (rWeighingOf0 n).length (intsOf (rWeighingOf0 n)) ∧ w'.ownsRow w.heap.size 3 1 v2 (rWeighingOf1 n).length (intsOf (rWeighingOf1 n)) ∧ Apart v1 v2 ∧ Below w.heap.size w w' := by
  obtain ⟨i0, hi, hz0, hz1, hz2⟩ := info_parts infoInt
  by_cases hn0 : n < 0
  · have hc : inB n 0 1000000000000 = false := by simp [inB]; omega
    have E0 := Lib.hid (show rWeighingOf0 n = [] by rw [rWeighingOf0, hc]; rfl)
    have E1 := Lib.hid (show rWeighingOf1 n = [] by rw [rWeighingOf1, hc]; rfl)
    clear hc
    go_enter Try.func52, Try.ntmps52
    go_wp2_with fail
    go_ret2
    exact ⟨_, _, rfl, by rw [E0.out]; exact World.ownsRow_nil _ _ _ _, by rw [E1.out]; exact World.ownsRow_nil _ _ _ _, (fun k h _ => by simp [Value.ownBlock] at h), Below.refl _ _⟩
  · obtain ⟨L, hL⟩ : ∃ L, L = rBalancedDigits0 n 3 := ⟨_, rfl⟩
    have hLL : rWeighingOf0 n = wpow 1 1 L ∧ rWeighingOf1 n = wpow (-1) 1 L ∧ L.length ≤ 27 := by
      cases hc : inB n 0 1000000000000
      · have hL0 : L = [] := by
          rw [hL, rBalancedDigits0, show inN n = false by simp only [inB, Bool.and_eq_false_iff, decide_eq_false_iff_not] at hc; simp [inN, inB]; omega, Bool.and_false]; rfl
        rw [rWeighingOf0, rWeighingOf1, hc, hL0]
        exact ⟨rfl, rfl, by simp⟩
      · obtain ⟨hn1, hn2⟩ := inB_yes hc
        have hL0 : L = bd 1 n := by
          rw [hL, rBalancedDigits0, show inN n = true by simp [inN, inB]; omega, show okE 3 = true by decide]; rfl
        rw [rWeighingOf0, rWeighingOf1, hc, hL0]
        exact ⟨rfl, rfl, bd_len27 hn1 hn2⟩
    have E0 := Lib.hid hLL.1
    have E1 := Lib.hid hLL.2.1
    have hL27 := hLL.2.2
    have HD := Lib.hid (fun W => implBalancedDigits_any n 3 W hn (by unfold in64; omega))
    rw [← hL] at HD
    clear hL hLL
    have ha0 : ((w.alloc (.cells #[] 3)).alloc (.cells #[] 3)).ownsRow w.heap.size 3 1 (.slice (some ⟨w.heap.size, 0, none⟩) 0 0) 0 (intsOf []) := (World.ownsRow_lit w #[] 0 (Nat.le_refl _) (by decide) rfl).alloc _
    have hb0 : ((w.alloc (.cells #[] 3)).alloc (.cells #[] 3)).ownsRow w.heap.size 3 1 (.slice (some ⟨w.heap.size + 1, 0, none⟩) 0 0) 0 (intsOf []) := by
      have := World.ownsRow_lit (base := w.heap.size) (e := 3) (size := 1) (w.alloc (.cells #[] 3)) #[] 0 (by simp) (by decide) rfl
      simpa [intsOf] using this
    have hBB : Below w.heap.size w ((w.alloc (.cells #[] 3)).alloc (.cells #[] 3)) := ((Below.refl _ _).alloc (Nat.le_refl _) _).alloc (by simp) _
    have HA0 := Lib.hid ha0; have HB0 := Lib.hid hb0; have HBB := Lib.hid hBB
    clear ha0 hb0 hBB
    go_enter Try.func52, Try.ntmps52
    go_wp2_with fail
    refine (HD.out _).mono ?_
    rintro e w3 ⟨vD, rfl, hoD, hB3⟩
    obtain ⟨aD, capD, rfl, hD1, hD2⟩ := owns_form hoD
    unfold maxLen at hD2
    have HA1 := Lib.hid (owns_below HA0.out hB3)
    have HB1 := Lib.hid (owns_below HB0.out hB3)
    have HB3 := Lib.hid (HBB.out.trans (hB3.mono (by simp; omega)))
    have hs2 : ((w.alloc (.cells #[] 3)).alloc (.cells #[] 3)).heap.size = w.heap.size + 2 := by simp
    have HDB := Lib.hid (show w3.ownsRow w.heap.size 3 1 (.slice aD L.length capD) L.length (intsOf L) from owns_weak hoD (by omega))
    have HNE := Lib.hid (show ∀ k, (Value.slice aD L.length capD).ownBlock = some k → w.heap.size + 2 ≤ k from fun k hk => by have := (hoD.lt k hk).1; omega)
    clear hoD hB3 hs2 HA0 HB0 HBB
    go_wp2_with fail
    go_loopw [4, 5, 6, 16] (fun v1 v2 p i wr => ∃ (k : Nat) (o1 o2 : List Int) (x : Int), k ≤ L.length ∧ i = .int .i64 k ∧ p = .int .i64 x ∧ x = 3 ^ k ∧ o1 = wpow 1 1 (L.take k) ∧ o2 = wpow (-1) 1 (L.take k) ∧ wr.ownsRow w.heap.size 3 1 v1 o1.length (intsOf o1) ∧ wr.ownsRow w.heap.size 3 1 v2 o2.length (intsOf o2) ∧ wr.ownsRow w.heap.size 3 1 (.slice aD L.length capD) L.length (intsOf L) ∧ v1.ownBlock ≠ v2.ownBlock ∧ (Value.slice aD L.length capD).ownBlock ≠ v1.ownBlock ∧ (Value.slice aD L.length capD).ownBlock ≠ v2.ownBlock ∧ Below w.heap.size w wr)
      (fun _ _ _ i _ => L.length - (intOf i).toNat)
    case atStart =>
      refine ⟨0, [], [], 1, Nat.zero_le _, rfl, rfl, rfl, rfl, rfl, HA1.out, HB1.out, HDB.out, ?_, fun e => ?_, fun e => ?_, HB3.out⟩
      · simp [Value.ownBlock]
      · have := HNE.out w.heap.size (e.trans rfl); omega
      · have := HNE.out (w.heap.size + 1) (e.trans rfl); omega
    case round =>
      obtain ⟨k, o1, o2, x, hk, rfl, rfl, hx, ho1, ho2, h1o, h2o, hDo, h12, hD1n, hD2n, hB⟩ := hrel
      have hsz := hB.size
      have HX := Lib.hid hx; have HO1 := Lib.hid ho1; have HO2 := Lib.hid ho2
      have hl1 : o1.length ≤ 27 := by
        have e1 := wpow_len 1 (L.take k) 1
        rw [← ho1, List.length_take] at e1; omega
      have hl2 : o2.length ≤ 27 := by
        have e1 := wpow_len (-1) (L.take k) 1
        rw [← ho2, List.length_take] at e1; omega
      clear HA1 HB1 HDB HB3
      by_cases hlt : k < L.length
      · have hx12 := pow3_le (k := k) (by omega)
        rw [← hx] at hx12
        obtain ⟨hx1, hx2⟩ := hx12
        obtain ⟨aa, cc, e, _, _, h3⟩ := (RowAt.of_owns hDo).ints
        injection e with e1 _ e3
        subst e1 e3
        obtain ⟨b', off, rfl, hbb, hcell⟩ := h3.resolve_left (fun e => by rw [e] at hlt; simp at hlt)
        have hc : wr.cell? ⟨b', off + k, none⟩ = some (.int .i64 L[k]) := hcell k hlt
        have HT1 := Lib.hid (wpow_take 1 hlt)
        have HT2 := Lib.hid (wpow_take (-1) hlt)
        obtain ⟨d, hd⟩ : ∃ d, d = L[k] := ⟨_, rfl⟩
        rw [← hd] at hc HT1 HT2
        clear h3 hcell hd hx ho1 ho2 HNE
        by_cases d1 : d = 1
        · rw [d1] at hc HT1 HT2
          rw [if_pos rfl] at HT1
          rw [if_neg (by omega)] at HT2
          clear d1
          go_wp2_with (at_builtin; refine wpList_append_own_at _ rfl _ _ 24 rfl w.heap.size 3 i0 (.int .i64 0) 1 8 Try.underlying24 hi hz0 hz1 hz2 rfl (by decide) _ _ _ rfl (h1o.alloc _) ⟨wr.heap.size, 0, none⟩ 1 1 [.int .i64 x] rfl rfl ?a1 ?a2 ?a3 ?a4 ?a5 ?_)
          case a2 => first | rfl | (intro u hu; simp at hu; subst hu; rfl)
          case a3 => unfold maxLen; omega
          case a4 => omega
          case a5 => first | omega | (simp; omega)
          intro v' w1 hown' hgrow _ hat
          have hB1 := (hB.alloc hsz (.cells #[.int .i64 x] 3)).grown hgrow (by simp; omega) (fun j hj => (h1o.lt j hj).1)
          have HOth := Lib.hid ((h2o.alloc (.cells #[.int .i64 x] 3)).kept hgrow (.inr (Ne.symm h12)))
          have HDn := Lib.hid ((hDo.alloc (.cells #[.int .i64 x] 3)).kept hgrow (.inr hD1n))
          have HO := Lib.hid (show w1.ownsRow w.heap.size 3 1 v' (o1 ++ [x]).length (intsOf (o1 ++ [x])) by simpa [intsOf] using hown')
          have hlt1 := fun (k : Nat) hk => Nat.lt_succ_of_lt (h2o.lt k hk).2
          have hlt2 := fun (k : Nat) hk => Nat.lt_succ_of_lt (hDo.lt k hk).2
          have HNn := Lib.hid (And.intro (ne_at hat h12 hlt1) (ne_at hat (Ne.symm hD1n) hlt2))
          have HKeep := Lib.hid (And.intro h12 (And.intro hD1n hD2n))
          clear hown' hgrow hat hlt1 hlt2 h1o h2o hDo h12 hD1n hD2n hB hc
          go_wp2_with fail
          go_roundw
          case rel =>
            exact ⟨k + 1, o1 ++ [x], o2, x * 3, hlt, by go_num, by go_num, by rw [HX.out, Int.pow_succ], by rw [HT1.out, ← HO1.out, ← HX.out], by rw [HT2.out, ← HO2.out]; simp, HO.out, HOth.out, HDn.out, HNn.out.1, Ne.symm HNn.out.2, HKeep.out.2.2, hB1⟩
          case measure => simp [intOf]; omega
        · by_cases d2 : d = -1
          · rw [d2] at hc HT1 HT2
            rw [if_neg (by omega)] at HT1
            rw [if_pos rfl] at HT2
            clear d1 d2
            go_wp2_with (at_builtin; refine wpList_append_own_at _ rfl _ _ 24 rfl w.heap.size 3 i0 (.int .i64 0) 1 8 Try.underlying24 hi hz0 hz1 hz2 rfl (by decide) _ _ _ rfl (h2o.alloc _) ⟨wr.heap.size, 0, none⟩ 1 1 [.int .i64 x] rfl rfl ?b1 ?b2 ?b3 ?b4 ?b5 ?_)
            case b2 => first | rfl | (intro u hu; simp at hu; subst hu; rfl)
            case b3 => unfold maxLen; omega
            case b4 => omega
            case b5 => first | omega | (simp; omega)
            intro v' w1 hown' hgrow _ hat
            have hB1 := (hB.alloc hsz (.cells #[.int .i64 x] 3)).grown hgrow (by simp; omega) (fun j hj => (h2o.lt j hj).1)
            have HOth := Lib.hid ((h1o.alloc (.cells #[.int .i64 x] 3)).kept hgrow (.inr h12))
            have HDn := Lib.hid ((hDo.alloc (.cells #[.int .i64 x] 3)).kept hgrow (.inr hD2n))
            have HO := Lib.hid (show w1.ownsRow w.heap.size 3 1 v' (o2 ++ [x]).length (intsOf (o2 ++ [x])) by simpa [intsOf] using hown')
            have hlt1 := fun (k : Nat) hk => Nat.lt_succ_of_lt (h1o.lt k hk).2
            have hlt2 := fun (k : Nat) hk => Nat.lt_succ_of_lt (hDo.lt k hk).2
            have HNn := Lib.hid (And.intro (ne_at hat (Ne.symm h12) hlt1) (ne_at hat (Ne.symm hD2n) hlt2))
            have HKeep := Lib.hid (And.intro h12 (And.intro hD1n hD2n))
            clear hown' hgrow hat hlt1 hlt2 h1o h2o hDo h12 hD1n hD2n hB hc
            go_wp2_with fail
            go_roundw
            case rel =>
              exact ⟨k + 1, o1, o2 ++ [x], x * 3, hlt, by go_num, by go_num, by rw [HX.out, Int.pow_succ], by rw [HT1.out, ← HO1.out]; simp, by rw [HT2.out, ← HO2.out, ← HX.out], HOth.out, HO.out, HDn.out, Ne.symm HNn.out.1, HKeep.out.2.1, Ne.symm HNn.out.2, hB1⟩
            case measure => simp [intOf]; omega
          · rw [if_neg d1] at HT1
            rw [if_neg d2] at HT2
            go_wp2_with fail
            go_roundw
            case rel =>
              exact ⟨k + 1, o1, o2, x * 3, hlt, by go_num, by go_num, by rw [HX.out, Int.pow_succ], by rw [HT1.out, ← HO1.out]; simp, by rw [HT2.out, ← HO2.out]; simp, h1o, h2o, hDo, h12, hD1n, hD2n, hB⟩
            case measure => simp [intOf]; omega
      · have hkl : k = L.length := by omega
        subst hkl
        have F0 := Lib.hid (show o1 = rWeighingOf0 n by rw [ho1, List.take_length, E0.out])
        have F1 := Lib.hid (show o2 = rWeighingOf1 n by rw [ho2, List.take_length, E1.out])
        have HR := Lib.hid (And.intro h1o h2o)
        have hap := h12
        clear hx ho1 ho2 HNE h1o h2o hDo
        go_wp2_with fail
        go_ret2
        exact ⟨_, _, rfl, by rw [← F0.out]; exact HR.out.1, by rw [← F1.out]; exact HR.out.2, (fun k h h' => hap (h.trans h'.symm)), hB⟩

end Go.Proofs.Ytdflpocnfodbhaa
