/- ParseInt: the model: the integer whose numeral the text is. -/
import Derived.Test.YtbnkdcfmllblkaaDoorFmt
import Derived.Test.YtbnkdcfmllblkaaDoorParse
import Derived.Test.YtbnkdcfmllblkaaDoorDigSpec
set_option linter.unusedVariables false
set_option linter.unusedSimpArgs false
namespace Go.Proofs.YtbnkdcfmllblkaaDoor
open Go.ChangeShapes Go.WideShapes Go.ChangeAt Go.RowKit

theorem isDig_iff (t : ByteArray) : isDig t = true ↔ t.data.toList ≠ [] ∧ ∀ c ∈ t.data.toList, isD c := by
  simp only [isDig, decide_eq_true_eq]
  have e : ∀ i (h : i < t.size), t.data.toList[i]'(by rw [size_data]; exact h) = t[i] := fun i h => by simp only [Array.getElem_toList]; rfl
  constructor
  · rintro ⟨h0, h⟩
    refine ⟨fun e0 => by rw [← size_data, e0] at h0; simp at h0, fun c hc => ?_⟩
    obtain ⟨i, hi, rfl⟩ := List.getElem_of_mem hc
    have hi' : i < t.size := by rw [← size_data]; exact hi
    have := digB_yes (h i hi')
    rw [e i hi', isD]; omega
  · rintro ⟨h0, h⟩
    refine ⟨by rw [← size_data]; exact List.length_pos_iff.2 h0, fun i hi => ?_⟩
    have := h _ (List.getElem_mem (show i < t.data.toList.length by rw [size_data]; exact hi))
    rw [e i hi, isD] at this
    exact digB_mk (by omega)

theorem head_split {s : ByteArray} (h0 : 0 < s.size) (h : s[0] = 45) : s.data.toList = sgn true (s.extract 1 s.size).data.toList := by
  have hl : 0 < s.data.toList.length := by rw [size_data]; exact h0
  have e0 : s.data.toList[0] = 45 := by rw [← h]; simp only [Array.getElem_toList]; rfl
  have e1 : (s.extract 1 s.size).data.toList = s.data.toList.drop 1 := by
    rw [Lib.extract_data, List.take_of_length_le (by rw [List.length_drop, size_data]; exact Nat.le_refl _)]
  rw [e1, sgn, if_pos rfl, ← e0]
  exact (List.drop_eq_getElem_cons hl)


theorem dig_at {t : ByteArray} (h : t.data.toList ≠ [] ∧ ∀ c ∈ t.data.toList, isD c) {k : Nat} (hk : k < t.size) : 48 ≤ t[k].toNat ∧ t[k].toNat ≤ 57 := by
  have := h.2 _ (List.getElem_mem (show k < t.data.toList.length by rw [size_data]; exact hk))
  rwa [show t.data.toList[k]'(by rw [size_data]; exact hk) = t[k] by simp only [Array.getElem_toList]; rfl] at this
theorem step_at {t : ByteArray} {l : List UInt8} (hl : l = t.data.toList) {V k : Nat} (hV : V = valF 0 (l.take k)) (hk : k < t.size) : valF 0 (l.take (k + 1)) = V * 10 + (t[k].toNat - 48) := by
  subst hl
  rw [val_step (by rw [size_data]; exact hk), ← hV, show t.data.toList[k]'(by rw [size_data]; exact hk) = t[k] by simp only [Array.getElem_toList]; rfl]
theorem toNat_ne45 {a : UInt8} (h : a ≠ 45) : ((a.toNat : Int) == 45) = false := by
  simp only [beq_eq_false_iff_ne, ne_eq]
  intro e
  exact h (UInt8.toNat_inj.1 (by show a.toNat = 45; omega))
theorem quo_big (d : Nat) (h : d ≤ 9) : (-9223372036854775808 + (d : Int)).tdiv 10 = -(((9223372036854775808 - d) / 10 : Nat) : Int) := by
  rw [show (-9223372036854775808 + (d : Int)) = -((9223372036854775808 - d : Nat) : Int) by omega, neg_quo]

set_option maxHeartbeats 2000000 in
theorem specParse_neg (s : ByteArray) (w : World) (hs : s.size ≤ 1048576) (h0 : 0 < s.size) (h45 : s[0] = 45) :
    Calls Tryd.prog 22 #[.string s] w fun e w' => e = .returned (.tuple #[.int .i64 (pRes s.data.toList).1, .bool (pRes s.data.toList).2]) ∧ Below w.heap.size w w' := by
  obtain ⟨t, ht⟩ : ∃ t, t = s.extract 1 s.size := ⟨_, rfl⟩
  obtain ⟨l, hl⟩ : ∃ l, l = t.data.toList := ⟨_, rfl⟩
  have hsl : s.data.toList = sgn true l := by rw [hl, ht]; exact head_split h0 h45
  have hts : t.size ≤ 1048576 := by rw [ht]; simp; omega
  have htm : t.size ≤ maxLen := by unfold maxLen; omega
  have hlt : l = t.data.toList ∧ l.length = t.size := ⟨hl, by rw [hl, size_data]⟩
  have hhead : true = false → ∀ r, l ≠ 45 :: r := fun h => by cases h
  have h45' : ((s[0].toNat : Int) == 45) = true := by rw [h45]; rfl
  have h0' : (0 : Int) < s.size := by omega
  have HT := Lib.hid ht
  clear ht hl h45
  have HD := Lib.hid (fun W => specIsDigits_any t W htm)
  have HSF := Lib.hid (fun n W a b => specFormat_any n W a b)
  have no_of : (∀ m, inI m → Lib.itoa m = sgn true l → False) → pRes s.data.toList = (0, false) := fun h => pRes_false (fun n hn e => h n hn (e.trans hsl))
  have NO := Lib.hid no_of; clear no_of
  have RB := Lib.hid (fun (m : Int) (hm : inI m) (e : Lib.itoa m = sgn true l) => read_back hhead hm e)
  have HSL := Lib.hid hsl; have HLT := Lib.hid hlt
  clear hsl hhead hlt
  by_cases hdg : isDig t = true
  · by_cases h19 : 19 < t.size
    · have HP := Lib.hid (NO.out fun m hm e => by have := (RB.out m hm e).2.2.2.1; have := HLT.out.2; omega)
      rw [HP.out]
      go_enter Tryd.func22, Tryd.ntmps22
      go_wp2_with fail
      rw [← HT.out]; refine (HD.out _).mono ?_
      rintro e w' ⟨rfl, rfl⟩
      go_wp2
      go_ret2
      exact ⟨rfl, Below.refl _ _⟩
    · have h19' : t.size ≤ 19 := by omega
      have hall := (isDig_iff t).1 hdg
      go_enter Tryd.func22, Tryd.ntmps22
      go_wp2_with fail
      rw [← HT.out]; refine (HD.out _).mono ?_
      rintro e w' ⟨rfl, rfl⟩
      go_wp2
      go_loop [6, 7] (fun n i => ∃ k : Nat, k ≤ t.size ∧ i = .int .i64 k ∧ n = .int .i64 (-(valF 0 (l.take k) : Int)) ∧ valF 0 (l.take k) ≤ 9223372036854775808) (fun _ i => t.size - (intOf i).toNat)
      case atStart => exact ⟨0, Nat.zero_le _, rfl, by simp [valF_nil], by simp [valF_nil]⟩
      case round =>
        obtain ⟨k, hk, rfl, rfl, hV⟩ := hrel
        obtain ⟨V, hVe⟩ : ∃ V, V = valF 0 (l.take k) := ⟨_, rfl⟩
        rw [← hVe] at hV ⊢
        have HV := Lib.hid hVe; clear hVe
        by_cases hlt : k < t.size
        · have hd := dig_at hall hlt
          have hst := Lib.hid (step_at HLT.out.1 HV.out hlt)
          obtain ⟨d, hde⟩ : ∃ d : Nat, d = t[k].toNat - 48 := ⟨_, rfl⟩
          have hd9 : d ≤ 9 := by omega
          have hq := quo_big d hd9
          have hdx : (t[k].toNat : Int) = (d : Int) + 48 := by omega
          have HST := Lib.hid (show valF 0 (l.take (k + 1)) = V * 10 + d by rw [hst.out, hde])
          clear hde hd hst
          by_cases hov : 9223372036854775808 < V * 10 + d
          · have hlt2 : -(V : Int) < -(((9223372036854775808 - d) / 10 : Nat) : Int) := by omega
            have HP := Lib.hid (NO.out fun m hm e => by
              have h1 := (RB.out m hm e).2.2.2.2.1
              have h2 := val_take_le l (k + 1)
              have h3 := HST.out
              omega)
            go_wp2
            go_ret2
            exact ⟨by rw [HP.out]; rfl, Below.refl _ _⟩
          · have hlt2 : ¬ (-(V : Int) < -(((9223372036854775808 - d) / 10 : Nat) : Int)) := by omega
            have hb1 : (V : Int) * 10 + d ≤ 9223372036854775808 := by omega
            go_wp2
            go_round
            case rel => exact ⟨k + 1, by omega, by go_num, by rw [HST.out]; go_num, by rw [HST.out]; omega⟩
            case measure => simp [intOf]; omega
        · have hkt : k = t.size := by omega
          have hVl : V = valF 0 l := by rw [HV.out, hkt, ← HLT.out.2, List.take_length]
          have HVL := Lib.hid hVl; clear hVl
          have hI : inI (-(V : Int)) := ⟨by omega, by omega⟩
          have HM := Lib.hid (fun m hm e => show m = -(V : Int) by
            have h1 : m = -(valF 0 l : Int) := by simpa using (RB.out m hm e).1
            rw [HVL.out]; exact h1)
          by_cases hq : Lib.itoa (-(V : Int)) = sgn true l
          · have HP := Lib.hid (pRes_true hI (hq.trans HSL.out.symm))
            have hq2 := bs_eq_yes (hq.trans HSL.out.symm)
            have HF := Lib.hid (fun W => HSF.out (-(V : Int)) W hI.1 hI.2)
            clear hq hI
            go_wp2_with (go_at_call 15; refine (HF.out _).mono ?_; rintro e w' ⟨rfl, hb⟩)
            go_ret2
            exact ⟨by rw [HP.out]; rfl, hb⟩
          · have HP := Lib.hid (NO.out fun m hm e => hq (by rw [← HM.out m hm e]; exact e))
            have hq2 := str_beq_no (show bs (Lib.itoa (-(V : Int))) ≠ s from fun e => hq (by rw [← HSL.out, ← e, data_bs]))
            have HF := Lib.hid (fun W => HSF.out (-(V : Int)) W hI.1 hI.2)
            clear hq hI
            go_wp2_with (go_at_call 15; refine (HF.out _).mono ?_; rintro e w' ⟨rfl, hb⟩)
            go_ret2
            exact ⟨by rw [HP.out]; rfl, hb⟩
  · have hdg' : isDig t = false := by simpa using hdg
    have HP := Lib.hid (NO.out fun m hm e => by
      obtain ⟨_, h2, h3, _⟩ := RB.out m hm e
      have := (isDig_iff t).2 (by rw [← HLT.out.1]; exact ⟨h3, h2⟩)
      rw [this] at hdg'; cases hdg')
    rw [HP.out]
    clear hdg
    go_enter Tryd.func22, Tryd.ntmps22
    go_wp2_with fail
    rw [← HT.out]; refine (HD.out _).mono ?_
    rintro e w' ⟨rfl, rfl⟩
    go_wp2
    go_ret2
    exact ⟨rfl, Below.refl _ _⟩


set_option maxHeartbeats 2000000 in
theorem specParse_pos (s : ByteArray) (w : World) (hs : s.size ≤ 1048576) (h0 : 0 < s.size) (h45 : s[0] ≠ 45) :
    Calls Tryd.prog 22 #[.string s] w fun e w' => e = .returned (.tuple #[.int .i64 (pRes s.data.toList).1, .bool (pRes s.data.toList).2]) ∧ Below w.heap.size w w' := by
  obtain ⟨l, hl⟩ : ∃ l, l = s.data.toList := ⟨_, rfl⟩
  have hsl : s.data.toList = sgn false l := by rw [hl]; rfl
  have hts : s.size ≤ 1048576 := hs
  have htm : s.size ≤ maxLen := by unfold maxLen; omega
  have hlt : l = s.data.toList ∧ l.length = s.size := ⟨hl, by rw [hl, size_data]⟩
  have hhead : false = false → ∀ r, l ≠ 45 :: r := fun _ r e => by
    have hx : s.data.toList = 45 :: r := by rw [← hl]; exact e
    have hy : s.data.toList[0]'(by rw [hx]; simp) = 45 := by simp only [hx, List.getElem_cons_zero]
    exact h45 (by rw [← hy]; simp only [Array.getElem_toList]; rfl)
  have h45' : ((s[0].toNat : Int) == 45) = false := toNat_ne45 h45
  have h0' : (0 : Int) < s.size := by omega
  clear hl h45
  have HD := Lib.hid (fun W => specIsDigits_any s W htm)
  have HSF := Lib.hid (fun n W a b => specFormat_any n W a b)
  have no_of : (∀ m, inI m → Lib.itoa m = sgn false l → False) → pRes s.data.toList = (0, false) := fun h => pRes_false (fun n hn e => h n hn (e.trans hsl))
  have NO := Lib.hid no_of; clear no_of
  have RB := Lib.hid (fun (m : Int) (hm : inI m) (e : Lib.itoa m = sgn false l) => read_back hhead hm e)
  have HSL := Lib.hid hsl; have HLT := Lib.hid hlt
  clear hsl hhead hlt
  by_cases hdg : isDig s = true
  · by_cases h19 : 19 < s.size
    · have HP := Lib.hid (NO.out fun m hm e => by have := (RB.out m hm e).2.2.2.1; have := HLT.out.2; omega)
      rw [HP.out]
      go_enter Tryd.func22, Tryd.ntmps22
      go_wp2_with fail
      refine (HD.out _).mono ?_
      rintro e w' ⟨rfl, rfl⟩
      go_wp2
      go_ret2
      exact ⟨rfl, Below.refl _ _⟩
    · have h19' : s.size ≤ 19 := by omega
      have hall := (isDig_iff s).1 hdg
      go_enter Tryd.func22, Tryd.ntmps22
      go_wp2_with fail
      refine (HD.out _).mono ?_
      rintro e w' ⟨rfl, rfl⟩
      go_wp2
      go_loop [6, 7] (fun n i => ∃ k : Nat, k ≤ s.size ∧ i = .int .i64 k ∧ n = .int .i64 (-(valF 0 (l.take k) : Int)) ∧ valF 0 (l.take k) ≤ 9223372036854775808) (fun _ i => s.size - (intOf i).toNat)
      case atStart => exact ⟨0, Nat.zero_le _, rfl, by simp [valF_nil], by simp [valF_nil]⟩
      case round =>
        obtain ⟨k, hk, rfl, rfl, hV⟩ := hrel
        obtain ⟨V, hVe⟩ : ∃ V, V = valF 0 (l.take k) := ⟨_, rfl⟩
        rw [← hVe] at hV ⊢
        have HV := Lib.hid hVe; clear hVe
        by_cases hlt : k < s.size
        · have hd := dig_at hall hlt
          have hst := Lib.hid (step_at HLT.out.1 HV.out hlt)
          obtain ⟨d, hde⟩ : ∃ d : Nat, d = s[k].toNat - 48 := ⟨_, rfl⟩
          have hd9 : d ≤ 9 := by omega
          have hq := quo_big d hd9
          have hdx : (s[k].toNat : Int) = (d : Int) + 48 := by omega
          have HST := Lib.hid (show valF 0 (l.take (k + 1)) = V * 10 + d by rw [hst.out, hde])
          clear hde hd hst
          by_cases hov : 9223372036854775808 < V * 10 + d
          · have hlt2 : -(V : Int) < -(((9223372036854775808 - d) / 10 : Nat) : Int) := by omega
            have HP := Lib.hid (NO.out fun m hm e => by
              have h1 := (RB.out m hm e).2.2.2.2.1
              have h2 := val_take_le l (k + 1)
              have h3 := HST.out
              omega)
            go_wp2
            go_ret2
            exact ⟨by rw [HP.out]; rfl, Below.refl _ _⟩
          · have hlt2 : ¬ (-(V : Int) < -(((9223372036854775808 - d) / 10 : Nat) : Int)) := by omega
            have hb1 : (V : Int) * 10 + d ≤ 9223372036854775808 := by omega
            go_wp2
            go_round
            case rel => exact ⟨k + 1, by omega, by go_num, by rw [HST.out]; go_num, by rw [HST.out]; omega⟩
            case measure => simp [intOf]; omega
        · have hkt : k = s.size := by omega
          have hVl : V = valF 0 l := by rw [HV.out, hkt, ← HLT.out.2, List.take_length]
          have HVL := Lib.hid hVl; clear hVl
          by_cases hmin : V = 9223372036854775808
          · have HP := Lib.hid (NO.out fun m hm e => by
              have := (RB.out m hm e).2.2.2.2.2
              have h2 : valF 0 l ≤ 9223372036854775807 := by simpa using this
              rw [← HVL.out] at h2; omega)
            have hq : (-(V : Int) == -9223372036854775808) = true := by rw [hmin]; rfl
            clear hmin
            go_wp2
            go_ret2
            exact ⟨by rw [HP.out]; rfl, Below.refl _ _⟩
          · have hV2 : (V : Int) ≤ 9223372036854775807 := by omega
            have hI : inI (V : Int) := ⟨by omega, by omega⟩
            have hq0 : (-(V : Int) == -9223372036854775808) = false := by simp; omega
            have HM := Lib.hid (fun m hm e => show m = (V : Int) by
              have h1 : m = (valF 0 l : Int) := by simpa using (RB.out m hm e).1
              rw [HVL.out]; exact h1)
            clear hmin
            by_cases hq : Lib.itoa (V : Int) = sgn false l
            · have HP := Lib.hid (pRes_true hI (hq.trans HSL.out.symm))
              have hq2 := bs_eq_yes (hq.trans HSL.out.symm)
              have HF := Lib.hid (fun W => HSF.out (V : Int) W hI.1 hI.2)
              clear hq hI
              go_wp2_with (go_at_call 15; refine (HF.out _).mono ?_; rintro e w' ⟨rfl, hb⟩)
              go_ret2
              exact ⟨by rw [HP.out]; rfl, hb⟩
            · have HP := Lib.hid (NO.out fun m hm e => hq (by rw [← HM.out m hm e]; exact e))
              have hq2 := str_beq_no (show bs (Lib.itoa (V : Int)) ≠ s from fun e => hq (by rw [← HSL.out, ← e, data_bs]))
              have HF := Lib.hid (fun W => HSF.out (V : Int) W hI.1 hI.2)
              clear hq hI
              go_wp2_with (go_at_call 15; refine (HF.out _).mono ?_; rintro e w' ⟨rfl, hb⟩)
              go_ret2
              exact ⟨by rw [HP.out]; rfl, hb⟩
  · have hdg' : isDig s = false := by simpa using hdg
    have HP := Lib.hid (NO.out fun m hm e => by
      obtain ⟨_, h2, h3, _⟩ := RB.out m hm e
      have := (isDig_iff s).2 (by rw [← HLT.out.1]; exact ⟨h3, h2⟩)
      rw [this] at hdg'; cases hdg')
    rw [HP.out]
    clear hdg
    go_enter Tryd.func22, Tryd.ntmps22
    go_wp2_with fail
    refine (HD.out _).mono ?_
    rintro e w' ⟨rfl, rfl⟩
    go_wp2
    go_ret2
    exact ⟨rfl, Below.refl _ _⟩


set_option maxHeartbeats 1000000 in
theorem specParse_empty (s : ByteArray) (w : World) (h0 : s.size = 0) :
    Calls Tryd.prog 22 #[.string s] w fun e w' => e = .returned (.tuple #[.int .i64 (pRes s.data.toList).1, .bool (pRes s.data.toList).2]) ∧ Below w.heap.size w w' := by
  have hd : isDig s = false := by simp only [isDig, decide_eq_false_iff_not]; intro ⟨h, _⟩; omega
  have HD := Lib.hid (fun W => specIsDigits_any s W (by unfold maxLen; omega))
  have hnil : s.data.toList = [] := List.eq_nil_of_length_eq_zero (by rw [size_data]; exact h0)
  have HP := Lib.hid (show pRes s.data.toList = (0, false) by rw [hnil]; rfl)
  have hz : (s.size : Int) = 0 := by omega
  rw [HP.out]
  clear hnil h0
  go_enter Tryd.func22, Tryd.ntmps22
  go_wp2_with (go_at_call 30; refine (HD.out _).mono ?_; rintro e w' ⟨rfl, rfl⟩)
  go_ret2
  exact ⟨rfl, Below.refl _ _⟩

theorem specParse_any (s : ByteArray) (w : World) (hs : s.size ≤ 1048576) :
    Calls Tryd.prog 22 #[.string s] w fun e w' => e = .returned (.tuple #[.int .i64 (pRes s.data.toList).1, .bool (pRes s.data.toList).2]) ∧ Below w.heap.size w w' := by
  by_cases h0 : s.size = 0
  · exact specParse_empty s w h0
  · by_cases h45 : s[0]'(by omega) = 45
    · exact specParse_neg s w hs (by omega) h45
    · exact specParse_pos s w hs (by omega) h45

end Go.Proofs.YtbnkdcfmllblkaaDoor
