/- Digits: the model's reading of a text. -/
import Derived.Test.YtdflpocnfodbhaaInts
import Derived.Test.YtdflpocnfodbhaaDgFmt
set_option linter.unusedVariables false
set_option linter.unusedSimpArgs false
set_option maxRecDepth 100000
namespace Go.Proofs.Ytdflpocnfodbhaa
open Go.ChangeShapes Go.WideShapes Go.ChangeAt Go.RowKit

/-- the digit of a character, or 16 -/
def rdc (c : Int) : Int := if 48 ≤ c ∧ c ≤ 57 then c - 48 else if 97 ≤ c ∧ c ≤ 102 then c - 97 + 10 else 16

set_option maxHeartbeats 2000000 in
theorem specRead_any (c : Int) (w : World) (h0 : 0 ≤ c) (h1 : c ≤ 255) :
    Calls Try.prog 119 #[.int .i64 c] w fun e w' => e = .returned (.int .i64 (rdc c)) ∧ w = w' := by
  by_cases ha : 48 ≤ c
  · by_cases hb : c ≤ 57
    · have HX := Lib.hid (show rdc c = c - 48 by rw [rdc, if_pos ⟨ha, hb⟩])
      go_enter Try.func119, Try.ntmps119
      go_wp2
      go_ret
      exact ⟨by rw [HX.out]; rfl, rfl⟩
    · by_cases hc : 97 ≤ c
      · by_cases hd : c ≤ 102
        · have HX := Lib.hid (show rdc c = c - 97 + 10 by rw [rdc, if_neg (by omega), if_pos ⟨hc, hd⟩])
          go_enter Try.func119, Try.ntmps119
          go_wp2
          go_ret
          exact ⟨by rw [HX.out]; rfl, rfl⟩
        · have HX := Lib.hid (show rdc c = 16 by rw [rdc, if_neg (by omega), if_neg (by omega)])
          go_enter Try.func119, Try.ntmps119
          go_wp2
          go_ret
          exact ⟨by rw [HX.out]; rfl, rfl⟩
      · have HX := Lib.hid (show rdc c = 16 by rw [rdc, if_neg (by omega), if_neg (by omega)])
        go_enter Try.func119, Try.ntmps119
        go_wp2
        go_ret
        exact ⟨by rw [HX.out]; rfl, rfl⟩
  · have HX := Lib.hid (show rdc c = 16 by rw [rdc, if_neg (by omega), if_neg (by omega)])
    go_enter Try.func119, Try.ntmps119
    go_wp2
    go_ret
    exact ⟨by rw [HX.out]; rfl, rfl⟩

/-- the digits of the characters from the last down to the k-th -/
def rdl (s : ByteArray) (k : Nat) : List Int := ((s.data.toList.drop k).map fun c => rdc c.toNat).reverse
theorem rdl_succ {s : ByteArray} {j : Nat} (h : j < s.size) : rdl s j = rdl s (j + 1) ++ [rdc s[j].toNat] := by
  have h' : j < s.data.toList.length := by rw [Array.length_toList]; exact h
  show ((s.data.toList.drop j).map fun c => rdc c.toNat).reverse = ((s.data.toList.drop (j + 1)).map fun c => rdc c.toNat).reverse ++ [rdc s[j].toNat]
  rw [List.drop_eq_getElem_cons h', List.map_cons, List.reverse_cons]
  congr 2
theorem rdl_length (s : ByteArray) (k : Nat) : (rdl s k).length = s.size - k := by
  simp only [rdl, List.length_reverse, List.length_map, List.length_drop, Array.length_toList]; rfl
theorem rdl_in {s : ByteArray} {k : Nat} : ∀ d ∈ rdl s k, in64 d := by
  intro d hd
  simp only [rdl, List.mem_reverse, List.mem_map] at hd
  obtain ⟨c, _, rfl⟩ := hd
  have := c.toNat_lt
  unfold rdc in64
  split
  · omega
  · split <;> omega

def pdl (s : ByteArray) : List Int := if s = bs [48] then [] else rdl s 0
def rParseDigits1 (s : ByteArray) (b : Int) : Bool := decide (s ≠ bs []) && decide (rFormatDigits0 (pdl s) b = s)
def rParseDigits0 (s : ByteArray) (b : Int) : List Int := if rParseDigits1 s b then pdl s else []

theorem rParseDigits0_len (s : ByteArray) (b : Int) : (rParseDigits0 s b).length ≤ 1048577 := by
  unfold rParseDigits0
  split
  · rename_i h
    simp only [rParseDigits1, Bool.and_eq_true, decide_eq_true_eq] at h
    cases hk : okD (pdl s) b
    · exact absurd (by rw [← h.2, rFormatDigits0, hk]; rfl) h.1
    · have := (okD_yes hk).2.1; omega
  · simp

/-! ### with what the laws ask -/
theorem specBaseOk_law (b : Int) (w : World) (hb : in64 b) :
    Calls Try.prog 115 #[.int .i64 b] w fun e w' => e = .returned (.bool (rBaseOk0 b)) ∧ Below w.heap.size w w' := by
  refine (specBaseOk_any b w hb).mono ?_
  rintro e w' ⟨rfl, rfl⟩
  exact ⟨rfl, Below.refl _ _⟩
theorem specDigitsOk_law (v : Value) (l : List Int) (b : Int) (w : World) (hr : RowAt w v (intsOf l)) (hl : l.length ≤ 1048576) (hi : ∀ n ∈ l, in64 n) (hb : in64 b) :
    Calls Try.prog 66 #[v, .int .i64 b] w fun e w' => e = .returned (.bool (rDigitsOk0 l b)) ∧ Below w.heap.size w w' := by
  refine (specDigitsOk_any v l b w hr hl hi hb).mono ?_
  rintro e w' ⟨rfl, rfl⟩
  exact ⟨rfl, Below.refl _ _⟩

set_option maxHeartbeats 2000000 in
theorem specParseDigits_any (s : ByteArray) (b : Int) (w : World) (hs : s.size ≤ 1048576) (hb : in64 b) :
    Calls Try.prog 71 #[.string s, .int .i64 b] w fun e w' => ∃ v, e = .returned (.tuple #[v, .bool (rParseDigits1 s b)]) ∧ w'.ownsRow w.heap.size 3 1 v (rParseDigits0 s b).length (intsOf (rParseDigits0 s b)) ∧ Below w.heap.size w w' := by
  have HB := Lib.hid hb; clear hb
  go_enter Try.func71, Try.ntmps71
  go_wp2
  go_loopw [6, 7] (fun v i wr => ∃ k : Nat, k ≤ s.size ∧ i = .int .i64 ((k : Int) - 1) ∧ wr.ownsRow w.heap.size 3 1 v (rdl s k).length (intsOf (rdl s k)) ∧ Below w.heap.size w wr) (fun _ i _ => (intOf i + 1).toNat)
  case atStart =>
    refine ⟨s.size, Nat.le_refl _, rfl, ?_, (Below.refl _ _).alloc (Nat.le_refl _) _⟩
    rw [show rdl s s.size = [] from List.eq_nil_of_length_eq_zero (by rw [rdl_length]; omega)]
    exact World.ownsRow_lit w #[] 0 (Nat.le_refl _) (by decide) rfl
  case round =>
    obtain ⟨k, hk, rfl, hown, hB⟩ := hrel
    obtain ⟨i0, hi, hz0, hz1, hz2⟩ := info_parts infoInt
    have hsz := hB.size
    cases k with
    | zero =>
      have HO := Lib.hid hown; clear hown
      clear hi hz0 hz1 hz2
      by_cases he : s = bs []
      · have hE : s.toList = [] := by rw [he, ByteArray.toList_eq, data_bs]
        have HA := Lib.hid (show rParseDigits1 s b = false by rw [rParseDigits1, decide_eq_false (fun h => h he), Bool.false_and])
        have HB := Lib.hid (show rParseDigits0 s b = [] by rw [rParseDigits0, HA.out]; rfl)
        clear he
        go_wp2
        all_goals go_ret2
        all_goals exact ⟨_, by rw [HA.out]; rfl, by rw [HB.out]; exact World.ownsRow_nil _ _ _ _, hB⟩
      · have hnE : s.toList.isEmpty = false := by
          rw [ByteArray.toList_eq]
          cases e : s.data.toList with
          | nil => exact absurd (by rw [← bs_data s, e]) he
          | cons => rfl
        have HA := Lib.hid (show rParseDigits1 s b = decide (rFormatDigits0 (pdl s) b = s) by rw [rParseDigits1, decide_eq_true he, Bool.true_and])
        have HZ := Lib.hid (show rParseDigits0 s b = if rParseDigits1 s b then pdl s else [] from rfl)
        clear he
        by_cases h4 : s = bs [48]
        · have h48 : (s.toList == [48]) = true := by rw [h4, ByteArray.toList_eq, data_bs]; rfl
          have HP := Lib.hid (show pdl s = [] by rw [pdl, if_pos h4])
          clear h4
          rw [HP.out] at HA HZ
          have hL : (wr.alloc (.cells #[] 3)).ownsRow w.heap.size 3 1 (.slice (some ⟨wr.heap.size, 0, none⟩) 0 0) 0 (intsOf []) := World.ownsRow_lit wr #[] 0 hsz (by decide) rfl
          have HL := Lib.hid hL; clear hL
          go_wp2_with fail
          refine (specFormatDigits_any _ [] b _ (RowAt.of_owns HL.out) (by simp) (fun n h => by simp at h) HB.out).mono ?_
          rintro e w1 ⟨rfl, hB1⟩
          have hBB := (hB.alloc hsz (.cells #[] 3)).trans (hB1.mono (by simp; omega))
          by_cases hf : rFormatDigits0 [] b = s
          · have hq : (rFormatDigits0 [] b).toList = s.toList := by rw [hf]
            have H1 := Lib.hid (show rParseDigits1 s b = true by rw [HA.out, decide_eq_true hf])
            have H0 := Lib.hid (show rParseDigits0 s b = [] by rw [HZ.out, H1.out, if_pos rfl])
            have HOO := Lib.hid (owns_below HL.out hB1)
            clear hf
            go_wp2
            go_ret2
            exact ⟨_, by rw [H1.out]; rfl, by rw [H0.out]; exact HOO.out, hBB⟩
          · have hq : ((rFormatDigits0 [] b).toList == s.toList) = false := str_beq_no hf
            have hq2 : ((rFormatDigits0 [] b).toList != s.toList) = true := by rw [bne, hq]; rfl
            have H1 := Lib.hid (show rParseDigits1 s b = false by rw [HA.out, decide_eq_false hf])
            have H0 := Lib.hid (show rParseDigits0 s b = [] by rw [HZ.out, H1.out]; rfl)
            clear hf
            go_wp2
            go_ret2
            exact ⟨_, by rw [H1.out]; rfl, by rw [H0.out]; exact World.ownsRow_nil _ _ _ _, hBB⟩
        · have h48 : (s.toList == [48]) = false := by
            have e := str_beq_no h4
            rwa [show (bs [48]).toList = [48] by rw [ByteArray.toList_eq, data_bs]] at e
          have HP := Lib.hid (show pdl s = rdl s 0 by rw [pdl, if_neg h4])
          clear h4
          rw [HP.out] at HA HZ
          go_wp2_with fail
          refine (specFormatDigits_any _ (rdl s 0) b _ (RowAt.of_owns HO.out) (by rw [rdl_length]; omega) rdl_in HB.out).mono ?_
          rintro e w1 ⟨rfl, hB1⟩
          have hBB := hB.trans (hB1.mono hsz)
          by_cases hf : rFormatDigits0 (rdl s 0) b = s
          · have hq : (rFormatDigits0 (rdl s 0) b).toList = s.toList := by rw [hf]
            have H1 := Lib.hid (show rParseDigits1 s b = true by rw [HA.out, decide_eq_true hf])
            have H0 := Lib.hid (show rParseDigits0 s b = (rdl s 0) by rw [HZ.out, H1.out, if_pos rfl])
            have HOO := Lib.hid (owns_below HO.out hB1)
            clear hf
            go_wp2
            go_ret2
            exact ⟨_, by rw [H1.out]; rfl, by rw [H0.out]; exact HOO.out, hBB⟩
          · have hq : ((rFormatDigits0 (rdl s 0) b).toList == s.toList) = false := str_beq_no hf
            have hq2 : ((rFormatDigits0 (rdl s 0) b).toList != s.toList) = true := by rw [bne, hq]; rfl
            have H1 := Lib.hid (show rParseDigits1 s b = false by rw [HA.out, decide_eq_false hf])
            have H0 := Lib.hid (show rParseDigits0 s b = [] by rw [HZ.out, H1.out]; rfl)
            clear hf
            go_wp2
            go_ret2
            exact ⟨_, by rw [H1.out]; rfl, by rw [H0.out]; exact World.ownsRow_nil _ _ _ _, hBB⟩
    | succ j =>
      rw [show ((j + 1 : Nat) : Int) - 1 = (j : Int) by omega]
      have hjl : j < s.size := by omega
      have hrv := rdl_succ hjl
      obtain ⟨L, hL⟩ : ∃ L, L = rdl s (j + 1) := ⟨_, rfl⟩
      have hLl : L.length ≤ 1048576 := by rw [hL, rdl_length]; omega
      rw [← hL] at hrv hown
      have HRV := Lib.hid hrv
      have hcb := s[j].toNat_lt
      obtain ⟨c, hc⟩ : ∃ c : Int, c = rdc (s[j].toNat : Int) := ⟨_, rfl⟩
      have HS := Lib.hid (fun W => specRead_any (s[j].toNat : Int) W (by omega) (by omega))
      rw [← hc] at HS HRV
      clear hrv hL hc
      go_wp2_with fail
      refine (HS.out _).mono ?_
      rintro e w' ⟨rfl, rfl⟩
      go_wp2_with (at_builtin; refine wpList_append_own _ rfl _ _ 24 rfl w.heap.size 3 i0 (.int .i64 0) 1 8 Try.underlying24 hi hz0 hz1 hz2 rfl (by decide) _ _ _ rfl (hown.alloc _) ⟨wr.heap.size, 0, none⟩ 1 1 [.int .i64 c] rfl rfl ?c1 ?c2 ?c3 ?c4 ?c5 ?_)
      case c1 => exact one_cell _ _ _
      case c2 => intro u hu; simp at hu; subst hu; rfl
      case c3 => unfold maxLen; omega
      case c4 => omega
      case c5 => simp; omega
      intro v' w1 hown' hgrow _
      have hB1 := (hB.alloc hsz (.cells #[.int .i64 c] 3)).grown hgrow (by simp; omega) (fun j hj => (hown.lt j hj).1)
      have hO : w1.ownsRow w.heap.size 3 1 v' (L ++ [c]).length (intsOf (L ++ [c])) := by
        simpa [intsOf] using hown'
      have HO' := Lib.hid hO
      clear hown' hgrow hown hB hO
      go_wp2
      go_roundw
      case rel => exact ⟨j, by omega, by go_num, by rw [HRV.out]; exact HO'.out, hB1⟩
      case measure => simp [intOf]

end Go.Proofs.Ytdflpocnfodbhaa
