/- Balanced digits: the model's reading of a text. -/
import Derived.Test.YtdflpocnfodbhacInts
import Derived.Test.YtdflpocnfodbhacBaFmt
set_option linter.unusedVariables false
set_option linter.unusedSimpArgs false
set_option maxRecDepth 100000
namespace Go.Proofs.Ytdflpocnfodbhac
open Go.ChangeShapes Go.WideShapes Go.ChangeAt Go.RowKit

/-- the digit of a character -/
def rdcB (c : Int) : Int := if c = 43 then 1 else if c = 45 then -1 else 0
/-- the digits of the characters from the last down to the k-th -/
def rdlB (s : ByteArray) (k : Nat) : List Int := ((s.data.toList.drop k).map fun c => rdcB c.toNat).reverse
theorem rdlB_succ {s : ByteArray} {j : Nat} (h : j < s.size) : rdlB s j = rdlB s (j + 1) ++ [rdcB s[j].toNat] := by
  have h' : j < s.data.toList.length := by rw [Array.length_toList]; exact h
  show ((s.data.toList.drop j).map fun c => rdcB c.toNat).reverse = ((s.data.toList.drop (j + 1)).map fun c => rdcB c.toNat).reverse ++ [rdcB s[j].toNat]
  rw [List.drop_eq_getElem_cons h', List.map_cons, List.reverse_cons]
  congr 2
theorem rdlB_length (s : ByteArray) (k : Nat) : (rdlB s k).length = s.size - k := by
  simp only [rdlB, List.length_reverse, List.length_map, List.length_drop, Array.length_toList]; rfl
theorem rdlB_in {s : ByteArray} {k : Nat} : ∀ d ∈ rdlB s k, in64 d := by
  intro d hd
  simp only [rdlB, List.mem_reverse, List.mem_map] at hd
  obtain ⟨c, _, rfl⟩ := hd
  unfold rdcB in64
  split
  · omega
  · split <;> omega

def pdlB (s : ByteArray) : List Int := if s = bs [48] then [] else rdlB s 0
def rParseBalanced1 (s : ByteArray) : Bool := decide (s ≠ bs []) && decide (rFormatBalanced0 (pdlB s) = s)
def rParseBalanced0 (s : ByteArray) : List Int := if rParseBalanced1 s then pdlB s else []

theorem rParseBalanced0_len (s : ByteArray) : (rParseBalanced0 s).length ≤ 1048577 := by
  unfold rParseBalanced0
  split
  · rename_i h
    simp only [rParseBalanced1, Bool.and_eq_true, decide_eq_true_eq] at h
    cases hk : okW (pdlB s) 3
    · exact absurd (by rw [← h.2, rFormatBalanced0, hk]; rfl) h.1
    · obtain ⟨_, _, _, _, _, h6⟩ := okW_yes hk; omega
  · simp

set_option maxHeartbeats 2000000 in
theorem specParseBalanced_any (s : ByteArray) (w : World) (hs : s.size ≤ 1048576) :
    Calls Try.prog 27 #[.string s] w fun e w' => ∃ v, e = .returned (.tuple #[v, .bool (rParseBalanced1 s)]) ∧ w'.ownsRow w.heap.size 3 1 v (rParseBalanced0 s).length (intsOf (rParseBalanced0 s)) ∧ Below w.heap.size w w' := by
  go_enter Try.func27, Try.ntmps27
  go_wp2
  go_loopw [4, 5] (fun v i wr => ∃ k : Nat, k ≤ s.size ∧ i = .int .i64 ((k : Int) - 1) ∧ wr.ownsRow w.heap.size 3 1 v (rdlB s k).length (intsOf (rdlB s k)) ∧ Below w.heap.size w wr) (fun _ i _ => (intOf i + 1).toNat)
  case atStart =>
    refine ⟨s.size, Nat.le_refl _, rfl, ?_, (Below.refl _ _).alloc (Nat.le_refl _) _⟩
    rw [show rdlB s s.size = [] from List.eq_nil_of_length_eq_zero (by rw [rdlB_length]; omega)]
    exact World.ownsRow_lit w #[] 0 (Nat.le_refl _) (by decide) rfl
  case round =>
    obtain ⟨k, hk, rfl, hown, hB⟩ := hrel
    obtain ⟨i0, hi, hz0, hz1, hz2⟩ := info_parts infoInt
    have hsz := hB.size
    cases k with
    | zero =>
      have HO := Lib.hid hown; clear hown
      clear hi hz0 hz1 hz2
      by_cases he : s = bs []
      · have hE : s.toList = [] := by rw [he, ByteArray.toList_eq, data_bs]
        have HA := Lib.hid (show rParseBalanced1 s = false by rw [rParseBalanced1, decide_eq_false (fun h => h he), Bool.false_and])
        have HB := Lib.hid (show rParseBalanced0 s = [] by rw [rParseBalanced0, HA.out]; rfl)
        clear he
        go_wp2
        all_goals go_ret2
        all_goals exact ⟨_, by rw [HA.out]; rfl, by rw [HB.out]; exact World.ownsRow_nil _ _ _ _, hB⟩
      · have hnE : s.toList.isEmpty = false := by
          rw [ByteArray.toList_eq]
          cases e : s.data.toList with
          | nil => exact absurd (by rw [← bs_data s, e]) he
          | cons => rfl
        have HA := Lib.hid (show rParseBalanced1 s = decide (rFormatBalanced0 (pdlB s) = s) by rw [rParseBalanced1, decide_eq_true he, Bool.true_and])
        have HZ := Lib.hid (show rParseBalanced0 s = if rParseBalanced1 s then pdlB s else [] from rfl)
        clear he
        by_cases h4 : s = bs [48]
        · have h48 : (s.toList == [48]) = true := by rw [h4, ByteArray.toList_eq, data_bs]; rfl
          have HP := Lib.hid (show pdlB s = [] by rw [pdlB, if_pos h4])
          clear h4
          rw [HP.out] at HA HZ
          have hL : (wr.alloc (.cells #[] 3)).ownsRow w.heap.size 3 1 (.slice (some ⟨wr.heap.size, 0, none⟩) 0 0) 0 (intsOf []) := World.ownsRow_lit wr #[] 0 hsz (by decide) rfl
          have HL := Lib.hid hL; clear hL
          go_wp2_with fail
          refine (specFormatBalanced_any _ [] _ (RowAt.of_owns HL.out) (by simp) (fun n h => by simp at h)).mono ?_
          rintro e w1 ⟨rfl, hB1⟩
          have hBB := (hB.alloc hsz (.cells #[] 3)).trans (hB1.mono (by simp; omega))
          by_cases hf : rFormatBalanced0 [] = s
          · have hq : (rFormatBalanced0 []).toList = s.toList := by rw [hf]
            have H1 := Lib.hid (show rParseBalanced1 s = true by rw [HA.out, decide_eq_true hf])
            have H0 := Lib.hid (show rParseBalanced0 s = [] by rw [HZ.out, H1.out, if_pos rfl])
            have HOO := Lib.hid (owns_below HL.out hB1)
            clear hf
            go_wp2
            go_ret2
            exact ⟨_, by rw [H1.out]; rfl, by rw [H0.out]; exact HOO.out, hBB⟩
          · have hq : ((rFormatBalanced0 []).toList == s.toList) = false := str_beq_no hf
            have hq2 : ((rFormatBalanced0 []).toList != s.toList) = true := by rw [bne, hq]; rfl
            have H1 := Lib.hid (show rParseBalanced1 s = false by rw [HA.out, decide_eq_false hf])
            have H0 := Lib.hid (show rParseBalanced0 s = [] by rw [HZ.out, H1.out]; rfl)
            clear hf
            go_wp2
            go_ret2
            exact ⟨_, by rw [H1.out]; rfl, by rw [H0.out]; exact World.ownsRow_nil _ _ _ _, hBB⟩
        · have h48 : (s.toList == [48]) = false := by
            have e := str_beq_no h4
            rwa [show (bs [48]).toList = [48] by rw [ByteArray.toList_eq, data_bs]] at e
          have HP := Lib.hid (show pdlB s = rdlB s 0 by rw [pdlB, if_neg h4])
          clear h4
          rw [HP.out] at HA HZ
          go_wp2_with fail
          refine (specFormatBalanced_any _ (rdlB s 0) _ (RowAt.of_owns HO.out) (by rw [rdlB_length]; omega) rdlB_in).mono ?_
          rintro e w1 ⟨rfl, hB1⟩
          have hBB := hB.trans (hB1.mono hsz)
          by_cases hf : rFormatBalanced0 (rdlB s 0) = s
          · have hq : (rFormatBalanced0 (rdlB s 0)).toList = s.toList := by rw [hf]
            have H1 := Lib.hid (show rParseBalanced1 s = true by rw [HA.out, decide_eq_true hf])
            have H0 := Lib.hid (show rParseBalanced0 s = (rdlB s 0) by rw [HZ.out, H1.out, if_pos rfl])
            have HOO := Lib.hid (owns_below HO.out hB1)
            clear hf
            go_wp2
            go_ret2
            exact ⟨_, by rw [H1.out]; rfl, by rw [H0.out]; exact HOO.out, hBB⟩
          · have hq : ((rFormatBalanced0 (rdlB s 0)).toList == s.toList) = false := str_beq_no hf
            have hq2 : ((rFormatBalanced0 (rdlB s 0)).toList != s.toList) = true := by rw [bne, hq]; rfl
            have H1 := Lib.hid (show rParseBalanced1 s = false by rw [HA.out, decide_eq_false hf])
            have H0 := Lib.hid (show rParseBalanced0 s = [] by rw [HZ.out, H1.out]; rfl)
            clear hf
            go_wp2
            go_ret2
            exact ⟨_, by rw [H1.out]; rfl, by rw [H0.out]; exact World.ownsRow_nil _ _ _ _, hBB⟩
    | succ j =>
      rw [show ((j + 1 : Nat) : Int) - 1 = (j : Int) by omega]
      have hjl : j < s.size := by omega
      have hrv := rdlB_succ hjl
      obtain ⟨L, hL⟩ : ∃ L, L = rdlB s (j + 1) := ⟨_, rfl⟩
      have hLl : L.length ≤ 1048576 := by rw [hL, rdlB_length]; omega
      rw [← hL] at hrv hown
      have HRV := Lib.hid hrv
      have hcb := s[j].toNat_lt
      clear hrv hL
      by_cases k1 : (s[j].toNat : Int) = 43
      · have HG := Lib.hid (show rdcB (s[j].toNat : Int) = 1 by rw [rdcB, if_pos k1])
        go_wp2_with (at_builtin; refine wpList_append_own _ rfl _ _ 22 rfl w.heap.size 3 i0 (.int .i64 0) 1 8 Try.underlying22 hi hz0 hz1 hz2 rfl (by decide) _ _ _ rfl (hown.alloc _) ⟨wr.heap.size, 0, none⟩ 1 1 [.int .i64 1] rfl rfl ?a1 ?a2 ?a3 ?a4 ?a5 ?_)
        case a1 => exact one_cell _ _ _
        case a2 => intro u hu; simp at hu; subst hu; rfl
        case a3 => unfold maxLen; omega
        case a4 => omega
        case a5 => simp; omega
        intro v' w1 hown' hgrow _
        have hB1 := (hB.alloc hsz (.cells #[.int .i64 1] 3)).grown hgrow (by simp; omega) (fun j hj => (hown.lt j hj).1)
        have hO : w1.ownsRow w.heap.size 3 1 v' (L ++ [1]).length (intsOf (L ++ [1])) := by
          simpa [intsOf] using hown'
        have HO' := Lib.hid hO
        clear hown' hgrow hown hB hO
        go_wp2
        go_roundw
        case rel => exact ⟨j, by omega, by go_num, by rw [HRV.out, HG.out]; exact HO'.out, hB1⟩
        case measure => simp [intOf]
      · by_cases k2 : (s[j].toNat : Int) = 45
        · have HG := Lib.hid (show rdcB (s[j].toNat : Int) = -1 by rw [rdcB, if_neg k1, if_pos k2])
          go_wp2_with (at_builtin; refine wpList_append_own _ rfl _ _ 22 rfl w.heap.size 3 i0 (.int .i64 0) 1 8 Try.underlying22 hi hz0 hz1 hz2 rfl (by decide) _ _ _ rfl (hown.alloc _) ⟨wr.heap.size, 0, none⟩ 1 1 [.int .i64 (-1)] rfl rfl ?b1 ?b2 ?b3 ?b4 ?b5 ?_)
          case b1 => exact one_cell _ _ _
          case b2 => intro u hu; simp at hu; subst hu; rfl
          case b3 => unfold maxLen; omega
          case b4 => omega
          case b5 => simp; omega
          intro v' w1 hown' hgrow _
          have hB1 := (hB.alloc hsz (.cells #[.int .i64 (-1)] 3)).grown hgrow (by simp; omega) (fun j hj => (hown.lt j hj).1)
          have hO : w1.ownsRow w.heap.size 3 1 v' (L ++ [(-1)]).length (intsOf (L ++ [(-1)])) := by
            simpa [intsOf] using hown'
          have HO' := Lib.hid hO
          clear hown' hgrow hown hB hO
          go_wp2
          go_roundw
          case rel => exact ⟨j, by omega, by go_num, by rw [HRV.out, HG.out]; exact HO'.out, hB1⟩
          case measure => simp [intOf]
        · have HG := Lib.hid (show rdcB (s[j].toNat : Int) = 0 by rw [rdcB, if_neg k1, if_neg k2])
          go_wp2_with (at_builtin; refine wpList_append_own _ rfl _ _ 22 rfl w.heap.size 3 i0 (.int .i64 0) 1 8 Try.underlying22 hi hz0 hz1 hz2 rfl (by decide) _ _ _ rfl (hown.alloc _) ⟨wr.heap.size, 0, none⟩ 1 1 [.int .i64 0] rfl rfl ?c1 ?c2 ?c3 ?c4 ?c5 ?_)
          case c1 => exact one_cell _ _ _
          case c2 => intro u hu; simp at hu; subst hu; rfl
          case c3 => unfold maxLen; omega
          case c4 => omega
          case c5 => simp; omega
          intro v' w1 hown' hgrow _
          have hB1 := (hB.alloc hsz (.cells #[.int .i64 0] 3)).grown hgrow (by simp; omega) (fun j hj => (hown.lt j hj).1)
          have hO : w1.ownsRow w.heap.size 3 1 v' (L ++ [0]).length (intsOf (L ++ [0])) := by
            simpa [intsOf] using hown'
          have HO' := Lib.hid hO
          clear hown' hgrow hown hB hO
          go_wp2
          go_roundw
          case rel => exact ⟨j, by omega, by go_num, by rw [HRV.out, HG.out]; exact HO'.out, hB1⟩
          case measure => simp [intOf]

end Go.Proofs.Ytdflpocnfodbhac
