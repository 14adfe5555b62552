/- Balanced digits: the model's weighings. -/
import Derived.Test.YtckkiffajkhakaaLgSpec
import Derived.Test.YtckkiffajkhakaaLgDiv
import Derived.Test.YtckkiffajkhakaaBaSpec
set_option linter.unusedVariables false
set_option linter.unusedSimpArgs false
namespace Go.Proofs.Ytckkiffajkhakaa
open Go.ChangeShapes Go.WideShapes Go.ChangeAt Go.RowKit

theorem bd_len3 : ∀ (f : Nat) (n : Int), 2 * n.natAbs ≤ 3 ^ f + 1 → (bd 1 n).length ≤ f + 1
  | 0, n, h => by
    by_cases h0 : n = 0
    · subst h0; rw [bd_zero]; simp
    · have hq := bd_quo (h := 1) (by omega) n
      rw [bd_step (by omega) h0]
      rw [Nat.pow_zero] at h
      have : (n + (1 : Nat)) / (2 * ((1 : Nat) : Int) + 1) = 0 := by omega
      rw [this, bd_zero]; simp
  | f + 1, n, h => by
    by_cases h0 : n = 0
    · subst h0; rw [bd_zero]; simp
    · have hq := bd_quo (h := 1) (by omega) n
      rw [bd_step (by omega) h0, List.length_cons]
      rw [Nat.pow_succ] at h
      have := bd_len3 f ((n + (1 : Nat)) / (2 * ((1 : Nat) : Int) + 1)) (by omega)
      omega
theorem bd_len27 {n : Int} (h1 : 0 ≤ n) (h2 : n ≤ 1000000000000) : (bd 1 n).length ≤ 27 := by
  have e : (3 : Nat) ^ 26 = 2541865828329 := by decide
  exact bd_len3 26 n (by omega)
theorem pow3_le {k : Nat} (h : k ≤ 26) : 1 ≤ (3 : Int) ^ k ∧ (3 : Int) ^ k ≤ 2541865828329 := by
  have e : (3 : Nat) ^ 26 = 2541865828329 := by decide
  have h1 := Nat.pow_le_pow_right (n := 3) (by omega) h
  have h2 : 0 < 3 ^ k := Nat.pow_pos (by omega)
  have h3 : ((3 ^ k : Nat) : Int) = (3 : Int) ^ k := by push_cast; rfl
  omega
theorem wpow_take (s : Int) {L : List Int} {k : Nat} (h : k < L.length) : wpow s 1 (L.take (k + 1)) = wpow s 1 (L.take k) ++ (if L[k] = s then [3 ^ k] else []) := by
  rw [List.take_succ_eq_append_getElem h, wpow_append, List.length_take, Nat.min_eq_left (by omega), Int.one_mul]
  congr 1
theorem ne_at {v' v u : Value} {N : Nat} (hat : v'.ownBlock = v.ownBlock ∨ v'.ownBlock = some N) (hne : v.ownBlock ≠ u.ownBlock) (hlt : ∀ k, u.ownBlock = some k → k < N) : v'.ownBlock ≠ u.ownBlock := by
  rcases hat with e | e
  · rw [e]; exact hne
  · rw [e]; intro e2
    have := hlt N e2.symm
    omega

theorem owns_weak {w : World} {B B' : Nat} {e : TypeId} {v : Value} {n : Nat} {xs : List Value} (h : w.ownsRow B e 1 v n xs) (hb : B' ≤ B) : w.ownsRow B' e 1 v n xs :=
  ⟨h.1, h.2.imp id (fun ⟨g, cap, cur, a, b, r⟩ => ⟨g, cap, cur, a, Nat.le_trans hb b, r⟩)⟩

set_option maxHeartbeats 4000000 in
theorem specWeighingOf_any (n : Int) (w : World) (hn : in64 n) :
    Calls Try.prog 52 #[.int .i64 n] w fun e w' => ∃ v1 v2, e = .returned (.tuple #[v1, v2]) ∧ w'.ownsRow w.heap.size 3 1 v1 (rWeighingOf0 n).length (intsOf (rWeighingOf0 n)) ∧ w'.ownsRow w.heap.size 3 1 v2 (rWeighingOf1 n).length (intsOf (rWeighingOf1 n)) ∧ Apart v1 v2 ∧ Below w.heap.size w w' := by
  have H2 := Lib.hid (sIn_any n 0 1000000000000 w)
  obtain ⟨i0, hi, hz0, hz1, hz2⟩ := info_parts infoInt
  clear hn
  cases hc : inB n 0 1000000000000
  · rw [hc] at H2
    have E0 := Lib.hid (show rWeighingOf0 n = [] by rw [rWeighingOf0, hc]; rfl)
    have E1 := Lib.hid (show rWeighingOf1 n = [] by rw [rWeighingOf1, hc]; rfl)
    clear hc
    go_enter Try.func52, Try.ntmps52
    go_wp2_with fail
    refine H2.out.mono ?_
    rintro e w' ⟨rfl, rfl⟩
    go_wp2_with fail
    go_ret2
    exact ⟨_, _, rfl, by rw [E0.out]; exact World.ownsRow_nil _ _ _ _, by rw [E1.out]; exact World.ownsRow_nil _ _ _ _, (fun k h _ => by simp [Value.ownBlock] at h), Below.refl _ _⟩
  · rw [hc] at H2
    obtain ⟨hn1, hn2⟩ := inB_yes hc
    obtain ⟨L, hL⟩ : ∃ L, L = bd 1 n := ⟨_, rfl⟩
    have E0 := Lib.hid (show rWeighingOf0 n = wpow 1 1 L by rw [rWeighingOf0, hc, hL]; rfl)
    have E1 := Lib.hid (show rWeighingOf1 n = wpow (-1) 1 L by rw [rWeighingOf1, hc, hL]; rfl)
    have hL27 : L.length ≤ 27 := by rw [hL]; exact bd_len27 hn1 hn2
    have HD := Lib.hid (fun W => spec5Digits_any n 1 3 W (by omega) (by omega) (by omega) (by omega) hn2)
    rw [← hL] at HD
    clear hc hL
    have ha0 : ((w.alloc (.cells #[] 3)).alloc (.cells #[] 3)).ownsRow w.heap.size 3 1 (.slice (some ⟨w.heap.size, 0, none⟩) 0 0) 0 (intsOf []) := (World.ownsRow_lit w #[] 0 (Nat.le_refl _) (by decide) rfl).alloc _
    have hb0 : ((w.alloc (.cells #[] 3)).alloc (.cells #[] 3)).ownsRow w.heap.size 3 1 (.slice (some ⟨w.heap.size + 1, 0, none⟩) 0 0) 0 (intsOf []) := by
      have := World.ownsRow_lit (base := w.heap.size) (e := 3) (size := 1) (w.alloc (.cells #[] 3)) #[] 0 (by simp) (by decide) rfl
      simpa [intsOf] using this
    have hBB : Below w.heap.size w ((w.alloc (.cells #[] 3)).alloc (.cells #[] 3)) := ((Below.refl _ _).alloc (Nat.le_refl _) _).alloc (by simp) _
    have HA0 := Lib.hid ha0; have HB0 := Lib.hid hb0; have HBB := Lib.hid hBB
    clear ha0 hb0 hBB
    go_enter Try.func52, Try.ntmps52
    go_wp2_with fail
    refine H2.out.mono ?_
    rintro e w' ⟨rfl, rfl⟩
    go_wp2_with fail
    refine (HD.out _).mono ?_
    rintro e w3 ⟨vD, rfl, hoD, hB3⟩
    obtain ⟨aD, capD, rfl, hD1, hD2⟩ := owns_form hoD
    unfold maxLen at hD2
    have HA1 := Lib.hid (owns_below HA0.out hB3)
    have HB1 := Lib.hid (owns_below HB0.out hB3)
    have HB3 := Lib.hid (HBB.out.trans (hB3.mono (by simp; omega)))
    have hs2 : ((w.alloc (.cells #[] 3)).alloc (.cells #[] 3)).heap.size = w.heap.size + 2 := by simp
    have HDB := Lib.hid (show w3.ownsRow w.heap.size 3 1 (.slice aD L.length capD) L.length (intsOf L) from owns_weak hoD (by omega))
    have HNE := Lib.hid (show ∀ k, (Value.slice aD L.length capD).ownBlock = some k → w.heap.size + 2 ≤ k from fun k hk => by have := (hoD.lt k hk).1; omega)
    clear hoD hB3 hs2 HA0 HB0 HBB
    go_wp2_with fail
    go_loopw [4, 5, 6, 17] (fun v1 v2 p i wr => ∃ (k : Nat) (o1 o2 : List Int) (x : Int), k ≤ L.length ∧ i = .int .i64 k ∧ p = .int .i64 x ∧ x = 3 ^ k ∧ o1 = wpow 1 1 (L.take k) ∧ o2 = wpow (-1) 1 (L.take k) ∧ wr.ownsRow w.heap.size 3 1 v1 o1.length (intsOf o1) ∧ wr.ownsRow w.heap.size 3 1 v2 o2.length (intsOf o2) ∧ wr.ownsRow w.heap.size 3 1 (.slice aD L.length capD) L.length (intsOf L) ∧ v1.ownBlock ≠ v2.ownBlock ∧ (Value.slice aD L.length capD).ownBlock ≠ v1.ownBlock ∧ (Value.slice aD L.length capD).ownBlock ≠ v2.ownBlock ∧ Below w.heap.size w wr)
      (fun _ _ _ i _ => L.length - (intOf i).toNat)
    case atStart =>
      refine ⟨0, [], [], 1, Nat.zero_le _, rfl, rfl, rfl, rfl, rfl, HA1.out, HB1.out, HDB.out, ?_, fun e => ?_, fun e => ?_, HB3.out⟩
      · simp [Value.ownBlock]
      · have := HNE.out w.heap.size (e.trans rfl); omega
      · have := HNE.out (w.heap.size + 1) (e.trans rfl); omega
    case round =>
      obtain ⟨k, o1, o2, x, hk, rfl, rfl, hx, ho1, ho2, h1o, h2o, hDo, h12, hD1n, hD2n, hB⟩ := hrel
      have hsz := hB.size
      have HX := Lib.hid hx; have HO1 := Lib.hid ho1; have HO2 := Lib.hid ho2
      have hl1 : o1.length ≤ 27 := by
        have e1 := wpow_len 1 (L.take k) 1
        rw [← ho1, List.length_take] at e1; omega
      have hl2 : o2.length ≤ 27 := by
        have e1 := wpow_len (-1) (L.take k) 1
        rw [← ho2, List.length_take] at e1; omega
      clear HA1 HB1 HDB HB3
      by_cases hlt : k < L.length
      · have hx12 := pow3_le (k := k) (by omega)
        rw [← hx] at hx12
        obtain ⟨hx1, hx2⟩ := hx12
        obtain ⟨aa, cc, e, _, _, h3⟩ := (RowAt.of_owns hDo).ints
        injection e with e1 _ e3
        subst e1 e3
        obtain ⟨b', off, rfl, hbb, hcell⟩ := h3.resolve_left (fun e => by rw [e] at hlt; simp at hlt)
        have hc : wr.cell? ⟨b', off + k, none⟩ = some (.int .i64 L[k]) := hcell k hlt
        have HT1 := Lib.hid (wpow_take 1 hlt)
        have HT2 := Lib.hid (wpow_take (-1) hlt)
        obtain ⟨d, hd⟩ : ∃ d, d = L[k] := ⟨_, rfl⟩
        rw [← hd] at hc HT1 HT2
        clear h3 hcell hd hx ho1 ho2 HNE
        by_cases d1 : d = 1
        · rw [d1] at hc HT1 HT2
          rw [if_pos rfl] at HT1
          rw [if_neg (by omega)] at HT2
          clear d1
          go_wp2_with (at_builtin; refine wpList_append_own_at _ rfl _ _ 24 rfl w.heap.size 3 i0 (.int .i64 0) 1 8 Try.underlying24 hi hz0 hz1 hz2 rfl (by decide) _ _ _ rfl (h1o.alloc _) ⟨wr.heap.size, 0, none⟩ 1 1 [.int .i64 x] rfl rfl ?a1 ?a2 ?a3 ?a4 ?a5 ?_)
          case a2 => first | rfl | (intro u hu; simp at hu; subst hu; rfl)
          case a3 => unfold maxLen; omega
          case a4 => omega
          case a5 => first | omega | (simp; omega)
          intro v' w1 hown' hgrow _ hat
          have hB1 := (hB.alloc hsz (.cells #[.int .i64 x] 3)).grown hgrow (by simp; omega) (fun j hj => (h1o.lt j hj).1)
          have HOth := Lib.hid ((h2o.alloc (.cells #[.int .i64 x] 3)).kept hgrow (.inr (Ne.symm h12)))
          have HDn := Lib.hid ((hDo.alloc (.cells #[.int .i64 x] 3)).kept hgrow (.inr hD1n))
          have HO := Lib.hid (show w1.ownsRow w.heap.size 3 1 v' (o1 ++ [x]).length (intsOf (o1 ++ [x])) by simpa [intsOf] using hown')
          have hlt1 := fun (k : Nat) hk => Nat.lt_succ_of_lt (h2o.lt k hk).2
          have hlt2 := fun (k : Nat) hk => Nat.lt_succ_of_lt (hDo.lt k hk).2
          have HNn := Lib.hid (And.intro (ne_at hat h12 hlt1) (ne_at hat (Ne.symm hD1n) hlt2))
          have HKeep := Lib.hid (And.intro h12 (And.intro hD1n hD2n))
          clear hown' hgrow hat hlt1 hlt2 h1o h2o hDo h12 hD1n hD2n hB hc
          go_wp2_with fail
          go_roundw
          case rel =>
            exact ⟨k + 1, o1 ++ [x], o2, x * 3, hlt, by go_num, by go_num, by rw [HX.out, Int.pow_succ], by rw [HT1.out, ← HO1.out, ← HX.out], by rw [HT2.out, ← HO2.out]; simp, HO.out, HOth.out, HDn.out, HNn.out.1, Ne.symm HNn.out.2, HKeep.out.2.2, hB1⟩
          case measure => simp [intOf]; omega
        · by_cases d2 : d = -1
          · rw [d2] at hc HT1 HT2
            rw [if_neg (by omega)] at HT1
            rw [if_pos rfl] at HT2
            clear d1 d2
            go_wp2_with (at_builtin; refine wpList_append_own_at _ rfl _ _ 24 rfl w.heap.size 3 i0 (.int .i64 0) 1 8 Try.underlying24 hi hz0 hz1 hz2 rfl (by decide) _ _ _ rfl (h2o.alloc _) ⟨wr.heap.size, 0, none⟩ 1 1 [.int .i64 x] rfl rfl ?b1 ?b2 ?b3 ?b4 ?b5 ?_)
            case b2 => first | rfl | (intro u hu; simp at hu; subst hu; rfl)
            case b3 => unfold maxLen; omega
            case b4 => omega
            case b5 => first | omega | (simp; omega)
            intro v' w1 hown' hgrow _ hat
            have hB1 := (hB.alloc hsz (.cells #[.int .i64 x] 3)).grown hgrow (by simp; omega) (fun j hj => (h2o.lt j hj).1)
            have HOth := Lib.hid ((h1o.alloc (.cells #[.int .i64 x] 3)).kept hgrow (.inr h12))
            have HDn := Lib.hid ((hDo.alloc (.cells #[.int .i64 x] 3)).kept hgrow (.inr hD2n))
            have HO := Lib.hid (show w1.ownsRow w.heap.size 3 1 v' (o2 ++ [x]).length (intsOf (o2 ++ [x])) by simpa [intsOf] using hown')
            have hlt1 := fun (k : Nat) hk => Nat.lt_succ_of_lt (h1o.lt k hk).2
            have hlt2 := fun (k : Nat) hk => Nat.lt_succ_of_lt (hDo.lt k hk).2
            have HNn := Lib.hid (And.intro (ne_at hat (Ne.symm h12) hlt1) (ne_at hat (Ne.symm hD2n) hlt2))
            have HKeep := Lib.hid (And.intro h12 (And.intro hD1n hD2n))
            clear hown' hgrow hat hlt1 hlt2 h1o h2o hDo h12 hD1n hD2n hB hc
            go_wp2_with fail
            go_roundw
            case rel =>
              exact ⟨k + 1, o1, o2 ++ [x], x * 3, hlt, by go_num, by go_num, by rw [HX.out, Int.pow_succ], by rw [HT1.out, ← HO1.out]; simp, by rw [HT2.out, ← HO2.out, ← HX.out], HOth.out, HO.out, HDn.out, Ne.symm HNn.out.1, HKeep.out.2.1, Ne.symm HNn.out.2, hB1⟩
            case measure => simp [intOf]; omega
          · rw [if_neg d1] at HT1
            rw [if_neg d2] at HT2
            go_wp2_with fail
            go_roundw
            case rel =>
              exact ⟨k + 1, o1, o2, x * 3, hlt, by go_num, by go_num, by rw [HX.out, Int.pow_succ], by rw [HT1.out, ← HO1.out]; simp, by rw [HT2.out, ← HO2.out]; simp, h1o, h2o, hDo, h12, hD1n, hD2n, hB⟩
            case measure => simp [intOf]; omega
      · have hkl : k = L.length := by omega
        subst hkl
        have F0 := Lib.hid (show o1 = rWeighingOf0 n by rw [ho1, List.take_length, E0.out])
        have F1 := Lib.hid (show o2 = rWeighingOf1 n by rw [ho2, List.take_length, E1.out])
        have HR := Lib.hid (And.intro h1o h2o)
        have hap := h12
        clear hx ho1 ho2 HNE h1o h2o hDo
        go_wp2_with fail
        go_ret2
        exact ⟨_, _, rfl, by rw [← F0.out]; exact HR.out.1, by rw [← F1.out]; exact HR.out.2, (fun k h h' => hap (h.trans h'.symm)), hB⟩

end Go.Proofs.Ytckkiffajkhakaa
