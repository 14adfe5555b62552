/- Mixed places: the model's texts. -/
import Derived.Test.YtbnkdcfmllblkaaDoorInts
import Derived.Test.YtbnkdcfmllblkaaDoorDgSpec
import Derived.Test.YtbnkdcfmllblkaaDoorLgSpec
import Derived.Test.YtbnkdcfmllblkaaDoorMxTxt
import Derived.Test.YtbnkdcfmllblkaaDoorJoinLaw
import Derived.Test.YtbnkdcfmllblkaaDoorSplit
import Derived.Test.YtbnkdcfmllblkaaDoorParseSpec
set_option linter.unusedVariables false
set_option linter.unusedSimpArgs false
namespace Go.Proofs.YtbnkdcfmllblkaaDoor
open Go.ChangeShapes Go.WideShapes Go.ChangeAt Go.RowKit

theorem lwIn_len {l : List Int} (h : inB (l.length : Int) 1 10 = false) : lwIn l 0 59 = false := by
  cases e : lwIn l 0 59
  · rfl
  · obtain ⟨h1, h2, _⟩ := lwIn_yes e
    rw [show inB (l.length : Int) 1 10 = true by simp [inB]; omega] at h; simp at h
theorem lwIn_not {l : List Int} {d : Int} (hd : d ∈ l) (h : inB d 0 59 = false) : lwIn l 0 59 = false := by
  cases e : lwIn l 0 59
  · rfl
  · have := (lwIn_yes e).2.2 d hd
    rw [show inB d 0 59 = true by simp [inB]; omega] at h; simp at h
theorem lwIn_mk {l : List Int} (h : inB (l.length : Int) 1 10 = true) (h2 : ∀ d ∈ l, 0 ≤ d ∧ d ≤ 59) : lwIn l 0 59 = true := by
  obtain ⟨g1, g2⟩ := inB_yes h
  simp only [lwIn, allIn, Bool.and_eq_true, decide_eq_true_eq]
  exact ⟨by omega, by omega, h2⟩

set_option maxHeartbeats 2000000 in
/-- the model turns a list -/
theorem specTurnL_any (v : Value) (l : List Int) (w : World) (hr : RowAt w v (intsOf l)) (hl : l.length ≤ 1048577) :
    Calls Tryd.prog 14 #[v] w fun e w' => ∃ v, e = .returned v ∧ w'.ownsRow w.heap.size 3 1 v l.reverse.length (intsOf l.reverse) ∧ Below w.heap.size w w' := by
  obtain ⟨a, cap, rfl, h1, h2, h3⟩ := hr.ints
  unfold maxLen at h2
  go_enter Tryd.func14, Tryd.ntmps14
  go_wp2
  go_loopw [3, 4] (fun v i wr => ∃ k : Nat, k ≤ l.length ∧ i = .int .i64 ((k : Int) - 1) ∧ wr.ownsRow w.heap.size 3 1 v (l.drop k).reverse.length (intsOf (l.drop k).reverse) ∧ Below w.heap.size w wr) (fun _ i _ => (intOf i + 1).toNat)
  case atStart =>
    refine ⟨l.length, Nat.le_refl _, rfl, ?_, (Below.refl _ _).alloc (Nat.le_refl _) _⟩
    rw [List.drop_length]
    exact World.ownsRow_lit w #[] 0 (Nat.le_refl _) (by decide) rfl
  case round =>
    obtain ⟨k, hk, rfl, hown, hB⟩ := hrel
    obtain ⟨i0, hi, hz0, hz1, hz2⟩ := info_parts infoInt
    have hsz := hB.size
    cases k with
    | zero =>
      have HO := Lib.hid hown; clear hown h3
      go_wp2
      go_ret
      exact ⟨_, rfl, HO.out, hB⟩
    | succ j =>
      rw [show ((j + 1 : Nat) : Int) - 1 = (j : Int) by omega]
      have hjl : j < l.length := by omega
      obtain ⟨b', off, rfl, hbb, hcell⟩ := h3.resolve_left (fun e => by rw [e] at hjl; simp at hjl)
      have hc : wr.cell? ⟨b', off + j, none⟩ = some (.int .i64 l[j]) := by rw [hB.cell (p := ⟨b', off + j, none⟩) hbb]; exact hcell j hjl
      have hrv : (l.drop j).reverse = (l.drop (j + 1)).reverse ++ [l[j]] := by
        rw [List.drop_eq_getElem_cons hjl, List.reverse_cons]
      obtain ⟨L, hL⟩ : ∃ L, L = (l.drop (j + 1)).reverse := ⟨_, rfl⟩
      have hLl : L.length ≤ 1048577 := by rw [hL]; simp; omega
      rw [← hL] at hrv hown
      have HRV := Lib.hid hrv
      clear h3 hcell hrv hL
      go_wp2_with (at_builtin; refine wpList_append_own _ rfl _ _ 22 rfl w.heap.size 3 i0 (.int .i64 0) 1 8 Tryd.underlying22 hi hz0 hz1 hz2 rfl (by decide) _ _ _ rfl (hown.alloc _) ⟨wr.heap.size, 0, none⟩ 1 1 [.int .i64 l[j]] rfl rfl ?c1 ?c2 ?c3 ?c4 ?c5 ?_)
      case c1 => exact one_cell _ _ _
      case c2 => intro u hu; simp at hu; subst hu; rfl
      case c3 => unfold maxLen; omega
      case c4 => omega
      case c5 => simp; omega
      intro v' w1 hown' hgrow _
      have hB1 := (hB.alloc hsz (.cells #[.int .i64 l[j]] 3)).grown hgrow (by simp; omega) (fun j hj => (hown.lt j hj).1)
      have hO : w1.ownsRow w.heap.size 3 1 v' (L ++ [l[j]]).length (intsOf (L ++ [l[j]])) := by
        simpa [intsOf] using hown'
      have HO' := Lib.hid hO
      clear hown' hgrow hown hB hO
      go_wp2
      go_roundw
      case rel => exact ⟨j, by omega, by go_num, by rw [HRV.out]; exact HO'.out, hB1⟩
      case measure => simp [intOf]

set_option maxHeartbeats 4000000 in
theorem specFormatMixed_any (v : Value) (l : List Int) (w : World) (hr : RowAt w v (intsOf l)) (hl : l.length ≤ 1048577) :
    Calls Tryd.prog 5 #[v] w fun e w' => e = .returned (.string (rFormatMixed0 l)) ∧ Below w.heap.size w w' := by
  obtain ⟨i0, hi, hz0, hz1, hz2⟩ := info_parts infoStr
  have HL := Lib.hid (fun W => sIn_any (l.length : Int) 1 10 W)
  have HT := Lib.hid (fun W hW => specTurnL_any v l W (hr.below (w' := W) hW) hl)
  obtain ⟨a, cap, rfl, h1, h2, h3⟩ := hr.ints
  unfold maxLen at h2
  clear h3 hr
  cases hln : inB (l.length : Int) 1 10
  · have HR := Lib.hid (show rFormatMixed0 l = bs [] by rw [rFormatMixed0, lwIn_len hln]; rfl)
    rw [hln] at HL
    clear hln
    go_enter Tryd.func5, Tryd.ntmps5
    go_wp2_with fail
    refine (HL.out _).mono ?_
    rintro e w' ⟨rfl, rfl⟩
    go_wp2_with fail
    go_ret
    exact ⟨by rw [HR.out]; rfl, Below.refl _ _⟩
  · rw [hln] at HL
    obtain ⟨n1, n10⟩ := inB_yes hln
    have HLN := Lib.hid hln
    clear hln
    go_enter Tryd.func5, Tryd.ntmps5
    go_wp2_with fail
    refine (HL.out _).mono ?_
    rintro e w' ⟨rfl, rfl⟩
    have ho0 := World.ownsRow_lit (base := w.heap.size) (e := 9) (size := 1) w #[] 0 (Nat.le_refl _) (by decide) rfl
    have hB0 : Below w.heap.size w (w.alloc (.cells #[] 9)) := (Below.refl _ _).alloc (Nat.le_refl _) _
    obtain ⟨w0, hw0⟩ : ∃ w0, w0 = w.alloc (.cells #[] 9) := ⟨_, rfl⟩
    have hs0 : w0.heap.size = w.heap.size + 1 := by rw [hw0]; simp
    rw [← hw0] at ho0 hB0
    have HW0 := Lib.hid hw0
    clear hw0
    go_wp2_with fail
    rw [← HW0.out]
    refine (HT.out _ hB0).mono ?_
    rintro e w1 ⟨vR, rfl, hoR, hb1⟩
    have ho1 := owns_below ho0 hb1
    have hB1 := hB0.trans (hb1.mono hB0.size)
    have hs1 := hb1.size
    rw [hs0] at hs1 hoR
    have HLT := Lib.hid hoR.lt
    obtain ⟨aR, capR, rfl, hr1, hr2, hr3⟩ := (RowAt.of_owns hoR).ints
    unfold maxLen at hr2
    obtain ⟨R, hRe⟩ : ∃ R, R = l.reverse := ⟨_, rfl⟩
    have hRl : R.length = l.length := by rw [hRe, List.length_reverse]
    have HMEM := Lib.hid (show ∀ d ∈ R, d ∈ l from fun d hd => by rw [hRe] at hd; simpa using hd)
    have HMEM2 := Lib.hid (show ∀ d ∈ l, d ∈ R from fun d hd => by rw [hRe]; simpa using hd)
    have HFM := Lib.hid (show fmtL l = R.map itoaB by rw [fmtL, ← hRe])
    rw [← hRe] at hr1 hr3 ⊢
    have hRn : R.length ≤ 10 := by omega
    have HLL := Lib.hid hRl
    clear hoR ho0 hB0 hb1 hs0 HT hRe hRl
    go_wp2_with fail
    go_loopw [3, 14] (fun v i wr => ∃ k : Nat, k ≤ R.length ∧ i = .int .i64 k ∧ (∀ d ∈ R.take k, 0 ≤ d ∧ d ≤ 59) ∧ wr.ownsRow w.heap.size 9 1 v k (strsOf ((R.take k).map itoaB)) ∧ (∀ j, v.ownBlock = some j → j = w.heap.size ∨ w1.heap.size ≤ j) ∧ (∀ j, j < w1.heap.size → j ≠ w.heap.size → wr.heap[j]? = w1.heap[j]?) ∧ w1.heap.size ≤ wr.heap.size ∧ Below w.heap.size w wr) (fun _ i _ => R.length - (intOf i).toNat)
    case atStart => exact ⟨0, Nat.zero_le _, rfl, fun d hd => by simp at hd, ho1, fun j hj => by left; simpa [Value.ownBlock] using hj.symm, fun j _ _ => rfl, Nat.le_refl _, hB1⟩
    case round =>
      obtain ⟨k, hk, rfl, hall, hown, hvb, hkeep, hszw, hB⟩ := hrel
      have HALL := Lib.hid hall; clear hall ho1 hB1
      by_cases hlt : k < R.length
      · obtain ⟨b', off, rfl, hbb, hcell⟩ := hr3.resolve_left (fun e => by rw [e] at hlt; simp at hlt)
        have hbne := (HLT.out b' rfl).1
        have hc : wr.cell? ⟨b', off + k, none⟩ = some (.int .i64 R[k]) := by
          rw [World.cell?_of_block (w := w1) (a := ⟨b', off + k, none⟩) (hkeep b' hbb (by omega))]; exact hcell k hlt
        have hdm := HMEM.out _ (List.getElem_mem hlt)
        have HS := Lib.hid (fun W => sIn_any R[k] 0 59 W)
        cases hd : inB R[k] 0 59
        · rw [hd] at HS
          have HR := Lib.hid (show rFormatMixed0 l = bs [] by rw [rFormatMixed0, lwIn_not hdm hd]; rfl)
          obtain ⟨d, hde⟩ : ∃ d, d = R[k] := ⟨_, rfl⟩
          rw [← hde] at hc HS
          clear hr3 hcell hd hde hown hvb hkeep
          go_wp2_with fail
          refine (HS.out _).mono ?_
          rintro e w' ⟨rfl, rfl⟩
          go_wp2_with fail
          go_ret
          exact ⟨by rw [HR.out]; rfl, hB⟩
        · rw [hd] at HS
          obtain ⟨d0, d59⟩ := inB_yes hd
          have HTK := Lib.hid (show (R.take (k + 1)).map itoaB = (R.take k).map itoaB ++ [itoaB R[k]] by rw [List.take_succ_eq_append_getElem hlt, List.map_append]; rfl)
          have HNX := Lib.hid (show ∀ d ∈ R.take (k + 1), 0 ≤ d ∧ d ≤ 59 from fun d hdd => by
            rw [List.take_succ_eq_append_getElem hlt] at hdd
            rcases List.mem_append.1 hdd with h | h
            · exact HALL.out d h
            · have : d = R[k] := by simpa using h
              subst this; exact ⟨d0, d59⟩)
          obtain ⟨d, hde⟩ : ∃ d, d = R[k] := ⟨_, rfl⟩
          rw [← hde] at hc HS d0 d59 HTK
          have HF := Lib.hid (fun W => specFormat_any d W (by omega) (by omega))
          obtain ⟨X, hX⟩ : ∃ X, X = itoaB d := ⟨_, rfl⟩
          rw [← hX] at HTK
          rw [show bs (Lib.itoa d) = X from hX.symm] at HF
          obtain ⟨L, hL⟩ : ∃ L, L = (R.take k).map itoaB := ⟨_, rfl⟩
          rw [← hL] at hown HTK
          have HC := Lib.hid hc
          clear hr3 hcell hd hde hX hL hdm
          go_wp2_with fail
          refine (HS.out _).mono ?_
          rintro e w' ⟨rfl, rfl⟩
          go_wp2_with fail
          refine (HF.out _).mono ?_
          rintro e w3 ⟨rfl, hb3⟩
          have hown3 := owns_below hown hb3
          have hB3 := hB.trans (hb3.mono hB.size)
          have hsz3 := hB3.size
          have hsw3 := hb3.size
          go_wp2_with (at_builtin; refine wpList_append_own_at _ rfl _ _ 32 rfl w.heap.size 9 i0 (.string ⟨#[]⟩) 1 16 Tryd.underlying32 hi hz0 hz1 hz2 rfl (by decide) _ _ _ rfl (hown3.alloc _) ⟨w3.heap.size, 0, none⟩ 1 1 [.string X] rfl rfl (one_cell _ _ _) (by intro u hu; simp at hu; subst hu; rfl) (by unfold maxLen; omega) (by omega) (by simp; omega) ?_)
          intro v' w4 hown' hgrow _ hat
          have hB4 := (hB3.alloc hsz3 (.cells #[.string X] 9)).grown hgrow (by simp; omega) (fun j hj => (hown3.lt j hj).1)
          have HO := Lib.hid (show w4.ownsRow w.heap.size 9 1 v' (k + 1) (strsOf (L ++ [X])) by simpa [strsOf] using hown')
          have HVB := Lib.hid (show ∀ j, v'.ownBlock = some j → j = w.heap.size ∨ w1.heap.size ≤ j from fun j hj => by
            rcases hat with e | e
            · rw [e] at hj; exact hvb j hj
            · rw [e] at hj; right; simp at hj; omega)
          have HKP := Lib.hid (show ∀ j, j < w1.heap.size → j ≠ w.heap.size → w4.heap[j]? = w1.heap[j]? from fun j hj hne => by
            rw [hgrow.block j (by simp; omega) (fun e => by rcases hvb j e.symm with h | h <;> omega)]
            rw [Below.heap_alloc w3 _ j (by omega), hb3.block j (by omega)]
            exact hkeep j hj hne)
          have hsz4 : w1.heap.size ≤ w4.heap.size := by have := hgrow.size; simp at this; omega
          clear hown' hgrow hown hown3 hat hvb hkeep hB3 hB hb3
          go_wp2_with fail
          go_roundw
          case rel => exact ⟨k + 1, hlt, by go_num, HNX.out, by rw [HTK.out]; exact HO.out, HVB.out, HKP.out, hsz4, hB4⟩
          case measure => simp [intOf]; omega
      · have hkl : k = R.length := by omega
        subst hkl
        rw [List.take_length] at hown
        have HA2 := Lib.hid (show ∀ d ∈ l, 0 ≤ d ∧ d ≤ 59 from fun d hd => HALL.out d (by rw [List.take_length]; exact HMEM2.out d hd))
        have HSM := Lib.hid (fmtL_small HA2.out)
        have HR := Lib.hid (show rFormatMixed0 l = bs (jn colon (R.map itoaB) (R.map itoaB).length) by rw [rFormatMixed0, lwIn_mk HLN.out HA2.out, ← HFM.out]; rfl)
        rw [HFM.out] at HSM
        have hll : (R.map itoaB).length = R.length := by simp
        have hjl := jn_small (R.map itoaB) (R.map itoaB).length (Nat.le_refl _) HSM.out
        obtain ⟨L, hL⟩ : ∃ L, L = R.map itoaB := ⟨_, rfl⟩
        rw [← hL] at hown hll hjl HR
        have HJ := Lib.hid (fun v (h : RowAt wr v (strsOf L)) => specJoin_any colon v L wr h (by omega))
        have HRW := Lib.hid (RowAt.of_owns hown)
        obtain ⟨av, cv, e3, _, _⟩ := owns_form hown
        subst e3
        clear hr3 hown hL hll hjl hvb hkeep
        go_wp2_with fail
        refine (HJ.out _ HRW.out).mono ?_
        rintro e w' ⟨rfl, rfl⟩
        go_wp2_with fail
        go_ret
        exact ⟨by rw [HR.out]; rfl, hB⟩

set_option maxHeartbeats 4000000 in
theorem specParseMixed_any (s : ByteArray) (w : World) (hs : s.size ≤ 1048576) :
    Calls Tryd.prog 9 #[.string s] w fun e w' => ∃ v, e = .returned (.tuple #[v, .bool (rParseMixed1 s)]) ∧ w'.ownsRow w.heap.size 3 1 v (rParseMixed0 s).length (intsOf (rParseMixed0 s)) ∧ Below w.heap.size w w' := by
  obtain ⟨i0, hi, hz0, hz1, hz2⟩ := info_parts infoInt
  have HSP := Lib.hid (fun W => specSplitAny_any s colon W hs (by decide))
  have HPS := Lib.hid (pieces_size s colon)
  have hpl := pieces_len s colon
  have HNO := Lib.hid (fun w' (hB : Below w.heap.size w w') (h : pmOk s = false) => show ∃ v, Ending.returned (.tuple #[.slice none 0 0, .bool false]) = .returned (.tuple #[v, .bool (rParseMixed1 s)]) ∧ w'.ownsRow w.heap.size 3 1 v (rParseMixed0 s).length (intsOf (rParseMixed0 s)) ∧ Below w.heap.size w w' from by
      refine ⟨_, by rw [rParseMixed1, h], ?_, hB⟩
      rw [rParseMixed0, h]; exact World.ownsRow_nil _ _ _ _)
  have HPM := Lib.hid (show pmOk s = (allNum (pieces s colon) && lwIn (numsOf (pieces s colon)).reverse 0 59) from rfl)
  have HR0 := Lib.hid (show pmOk s = true → rParseMixed0 s = (numsOf (pieces s colon)).reverse from fun h => by rw [rParseMixed0, h]; rfl)
  have HAG := Lib.hid (fun h => fmt_again (s := s) h)
  have HNE := Lib.hid (fun h => pm_not_empty (s := s) h)
  obtain ⟨ps, hps⟩ : ∃ ps, ps = pieces s colon := ⟨_, rfl⟩
  rw [← hps] at HSP HPS hpl HPM HR0 HAG HNE
  clear hps
  have ho0 := World.ownsRow_lit (base := w.heap.size) (e := 3) (size := 1) w #[] 0 (Nat.le_refl _) (by decide) rfl
  have hB0 : Below w.heap.size w (w.alloc (.cells #[] 3)) := (Below.refl _ _).alloc (Nat.le_refl _) _
  obtain ⟨w0, hw0⟩ : ∃ w0, w0 = w.alloc (.cells #[] 3) := ⟨_, rfl⟩
  have hs0 : w0.heap.size = w.heap.size + 1 := by rw [hw0]; simp
  rw [← hw0] at ho0 hB0
  have HW0 := Lib.hid hw0
  clear hw0
  go_enter Tryd.func9, Tryd.ntmps9
  go_wp2_with fail
  rw [← HW0.out]
  refine (HSP.out _).mono ?_
  rintro e w1 ⟨vR, rfl, hoR, hb1⟩
  have ho1 := owns_below ho0 hb1
  have hB1 := hB0.trans (hb1.mono hB0.size)
  have hs1 := hb1.size
  rw [hs0] at hs1 hoR
  have HLT := Lib.hid hoR.lt
  obtain ⟨aR, capR, rfl, hr1, hr2, hr3⟩ := (RowAt.of_owns hoR).strs
  unfold maxLen at hr2
  clear hoR ho0 hB0 hb1 hs0
  go_wp2_with fail
  go_loopw [4, 13] (fun v i wr => ∃ k : Nat, k ≤ ps.length ∧ i = .int .i64 k ∧ allNum (ps.take k) = true ∧ wr.ownsRow w.heap.size 3 1 v k (intsOf (numsOf (ps.take k))) ∧ (∀ j, v.ownBlock = some j → j = w.heap.size ∨ w1.heap.size ≤ j) ∧ (∀ j, j < w1.heap.size → j ≠ w.heap.size → wr.heap[j]? = w1.heap[j]?) ∧ w1.heap.size ≤ wr.heap.size ∧ Below w.heap.size w wr) (fun _ i _ => ps.length - (intOf i).toNat)
  case atStart => exact ⟨0, Nat.zero_le _, rfl, rfl, ho1, fun j hj => by left; simpa [Value.ownBlock] using hj.symm, fun j _ _ => rfl, Nat.le_refl _, hB1⟩
  case round =>
    obtain ⟨k, hk, rfl, hall, hown, hvb, hkeep, hszw, hB⟩ := hrel
    have HALL := Lib.hid hall; clear hall ho1 hB1
    by_cases hlt : k < ps.length
    · obtain ⟨b', off, rfl, hbb, hcell⟩ := hr3.resolve_left (fun e => by rw [e] at hlt; simp at hlt)
      have hbne := (HLT.out b' rfl).1
      have hc : wr.cell? ⟨b', off + k, none⟩ = some (.string ps[k]) := by
        rw [World.cell?_of_block (w := w1) (a := ⟨b', off + k, none⟩) (hkeep b' hbb (by omega))]; exact hcell k hlt
      have hpm := List.getElem_mem hlt
      have hpz := HPS.out _ hpm
      have HPR := Lib.hid (fun W => specParse_any ps[k] W (by omega))
      cases hd : (pRes ps[k].data.toList).2
      · rw [hd] at HPR
        have HF := Lib.hid (show pmOk s = false by
          rw [HPM.out]
          have : allNum ps = false := by
            cases e : allNum ps
            · rfl
            · have := (List.all_eq_true.1 e) _ hpm
              rw [hd] at this; cases this
          rw [this]; rfl)
        obtain ⟨p, hpe⟩ : ∃ p, p = ps[k] := ⟨_, rfl⟩
        rw [← hpe] at hc HPR
        obtain ⟨n, hn⟩ : ∃ n, n = (pRes p.data.toList).1 := ⟨_, rfl⟩
        rw [← hn] at HPR
        clear hr3 hcell hd hpe hown hvb hkeep hpm hpz hn
        go_wp2_with fail
        refine (HPR.out _).mono ?_
        rintro e w3 ⟨rfl, hb3⟩
        go_wp2_with fail
        go_ret2
        exact HNO.out _ (hB.trans (hb3.mono hB.size)) HF.out
      · rw [hd] at HPR
        have HTK := Lib.hid (show numsOf (ps.take (k + 1)) = numsOf (ps.take k) ++ [(pRes ps[k].data.toList).1] by unfold numsOf; rw [List.take_succ_eq_append_getElem hlt, List.map_append]; rfl)
        have HNX := Lib.hid (show allNum (ps.take (k + 1)) = true by
          rw [List.take_succ_eq_append_getElem hlt]
          have h := HALL.out
          unfold allNum at h ⊢
          rw [List.all_append, h]
          simp [hd])
        obtain ⟨p, hpe⟩ : ∃ p, p = ps[k] := ⟨_, rfl⟩
        rw [← hpe] at hc HPR HTK
        obtain ⟨n, hn⟩ : ∃ n, n = (pRes p.data.toList).1 := ⟨_, rfl⟩
        rw [← hn] at HPR HTK
        obtain ⟨L, hL⟩ : ∃ L, L = numsOf (ps.take k) := ⟨_, rfl⟩
        rw [← hL] at hown HTK
        clear hr3 hcell hd hpe hpm hpz hn hL
        go_wp2_with fail
        refine (HPR.out _).mono ?_
        rintro e w3 ⟨rfl, hb3⟩
        have hown3 := owns_below hown hb3
        have hB3 := hB.trans (hb3.mono hB.size)
        have hsz3 := hB3.size
        have hsw3 := hb3.size
        go_wp2_with (at_builtin; refine wpList_append_own_at _ rfl _ _ 22 rfl w.heap.size 3 i0 (.int .i64 0) 1 8 Tryd.underlying22 hi hz0 hz1 hz2 rfl (by decide) _ _ _ rfl (hown3.alloc _) ⟨w3.heap.size, 0, none⟩ 1 1 [.int .i64 n] rfl rfl (one_cell _ _ _) (by intro u hu; simp at hu; subst hu; rfl) (by unfold maxLen; omega) (by omega) (by simp; omega) ?_)
        intro v' w4 hown' hgrow _ hat
        have hB4 := (hB3.alloc hsz3 (.cells #[.int .i64 n] 3)).grown hgrow (by simp; omega) (fun j hj => (hown3.lt j hj).1)
        have HO := Lib.hid (show w4.ownsRow w.heap.size 3 1 v' (k + 1) (intsOf (L ++ [n])) by simpa [intsOf] using hown')
        have HVB := Lib.hid (show ∀ j, v'.ownBlock = some j → j = w.heap.size ∨ w1.heap.size ≤ j from fun j hj => by
          rcases hat with e | e
          · rw [e] at hj; exact hvb j hj
          · rw [e] at hj; right; simp at hj; omega)
        have HKP := Lib.hid (show ∀ j, j < w1.heap.size → j ≠ w.heap.size → w4.heap[j]? = w1.heap[j]? from fun j hj hne => by
          rw [hgrow.block j (by simp; omega) (fun e => by rcases hvb j e.symm with h | h <;> omega)]
          rw [Below.heap_alloc w3 _ j (by omega), hb3.block j (by omega)]
          exact hkeep j hj hne)
        have hsz4 : w1.heap.size ≤ w4.heap.size := by have := hgrow.size; simp at this; omega
        clear hown' hgrow hown hown3 hat hvb hkeep hB3 hB hb3
        go_wp2_with fail
        go_roundw
        case rel => exact ⟨k + 1, hlt, by go_num, HNX.out, by rw [HTK.out]; exact HO.out, HVB.out, HKP.out, hsz4, hB4⟩
        case measure => simp [intOf]; omega
    · have hkl : k = ps.length := by omega
      subst hkl
      have HA := Lib.hid (show allNum ps = true by have := HALL.out; rwa [List.take_length] at this)
      rw [List.take_length] at hown
      have hnl := numsOf_len ps
      have HF := Lib.hid (fun v W h => specFormatMixed_any v (numsOf ps).reverse W h (by rw [List.length_reverse, hnl]; omega))
      have HT := Lib.hid (specTurnL_any _ (numsOf ps) wr (RowAt.of_owns (n := ps.length) hown) (by omega))
      rw [HAG.out HA.out] at HF
      have HN := HNE.out HA.out
      obtain ⟨av, cv, e3, _, _⟩ := owns_form hown
      subst e3
      obtain ⟨R, hR⟩ : ∃ R, R = (numsOf ps).reverse := ⟨_, rfl⟩
      rw [← hR] at HF HT HR0 HPM
      clear hr3 hown hvb hkeep
      cases hq : lwIn R 0 59
      · have HP := Lib.hid (show pmOk s = false by rw [HPM.out, hq, Bool.and_false])
        rw [hq, if_neg (by decide)] at HF
        have hne : ((bs []).toList == s.toList) = false := str_beq_no (fun e => HN e.symm)
        clear hq hR
        go_wp2_with fail
        refine HT.out.mono ?_
        rintro e w5 ⟨v5, rfl, ho5, hb5⟩
        have hB5 := hB.trans (hb5.mono hB.size)
        have HR5 := Lib.hid (RowAt.of_owns ho5)
        clear ho5
        go_wp2_with fail
        refine (HF.out _ _ HR5.out).mono ?_
        rintro e w6 ⟨rfl, hb6⟩
        go_wp2_with fail
        go_ret2
        exact HNO.out _ (hB5.trans (hb6.mono hB5.size)) HP.out
      · have HP := Lib.hid (show pmOk s = true by rw [HPM.out, hq, HA.out]; rfl)
        rw [hq, if_pos rfl] at HF
        clear hq hR
        go_wp2_with fail
        refine HT.out.mono ?_
        rintro e w5 ⟨v5, rfl, ho5, hb5⟩
        have hB5 := hB.trans (hb5.mono hB.size)
        have HR5 := Lib.hid (RowAt.of_owns ho5)
        have HO5 := Lib.hid (owns_mono ho5 hB.size)
        clear ho5
        go_wp2_with fail
        refine (HF.out _ _ HR5.out).mono ?_
        rintro e w6 ⟨rfl, hb6⟩
        have HO6 := Lib.hid (owns_below HO5.out hb6)
        clear HO5 HR5
        go_wp2_with fail
        go_ret2
        refine ⟨v5, by rw [show rParseMixed1 s = true from HP.out]; rfl, ?_, hB5.trans (hb6.mono hB5.size)⟩
        rw [HR0.out HP.out]; exact HO6.out

end Go.Proofs.YtbnkdcfmllblkaaDoor
