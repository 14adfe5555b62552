/- IsName: the model and the law. -/
import Derived.Test.YtdknojpkkbdkiaaName
set_option linter.unusedVariables false
namespace Go.Proofs.Ytdknojpkkbdkiaa
open Go.ChangeShapes Go.WideShapes Go.ChangeAt Go.RowKit

theorem l01In_any (n lo hi : Int) (w : World) :
    Calls Try.prog 27 #[.int .i64 n, .int .i64 lo, .int .i64 hi] w fun e w' => e = .returned (.bool (decide (lo ≤ n) && decide (n ≤ hi))) ∧ w = w' := by
  by_cases h : lo ≤ n
  · go_enter Try.func27, Try.ntmps27
    go_wp2
    all_goals (go_ret; exact ⟨ret_bool (by simp [h]), rfl⟩)
  · have h' : n < lo := by omega
    go_enter Try.func27, Try.ntmps27
    go_wp2
    all_goals (go_ret; exact ⟨ret_bool (by simp; omega), rfl⟩)

set_option maxHeartbeats 800000 in
theorem specIsName_any (s : ByteArray) (w : World) (hs : s.size ≤ maxLen) :
    Calls Try.prog 11 #[.string s] w fun e w' => e = .returned (.bool (isNam s)) ∧ w = w' := by
  unfold maxLen at hs
  go_enter Try.func11, Try.ntmps11
  go_wp2
  go_loop [3] (fun i => ∃ k : Nat, k ≤ s.size ∧ i = .int .i64 k ∧ ∀ i (h : i < s.size), i < k → okAt i (s[i].toNat) = true) (fun i => s.size - (intOf i).toNat)
  case atStart => exact ⟨0, by omega, rfl, fun i h k => by omega⟩
  case round =>
    obtain ⟨k, hle, rfl, hall⟩ := hrel
    have HA := Lib.hid hall; clear hall
    by_cases hp : k < s.size
    · have step : okAt k (s[k].toNat) = true → ∀ i (h : i < s.size), i < k + 1 → okAt i (s[i].toNat) = true := fun ho i h j => by
        by_cases e : i = k
        · subst e; exact ho
        · exact HA.out i h (by omega)
      have ST := Lib.hid step; clear step HA
      cases hl : letB (s[k].toNat)
      · have hl' := letB_no hl
        have HL := Lib.hid hl; clear hl
        by_cases hz : k = 0
        · subst hz
          have HF := Lib.hid (isNam_at hp (okAt_zero HL.out)); clear ST
          by_cases h9 : (s[0].toNat : Int) < 97
          · clear hl'
            go_wp2
            go_ret
            exact ⟨ret_bool HF.out.symm, rfl⟩
          · have h9' : decide ((s[0].toNat : Int) ≤ 122) = false := by simp; omega
            clear hl'
            go_wp2
            go_ret
            exact ⟨ret_bool HF.out.symm, rfl⟩
        · have hz' : ((k : Int) == 0) = false := by simp; omega
          have hpos : 0 < k := by omega
          clear hz
          cases hd : digB (s[k].toNat)
          · have hd' := digB_no (by rw [hd]; simp)
            have HF := Lib.hid (isNam_at hp (okAt_no HL.out hd)); clear hd ST
            by_cases h9 : (s[k].toNat : Int) < 97
            · clear hl'
              by_cases h8 : (s[k].toNat : Int) < 48
              · clear hd'
                go_wp2
                go_ret
                exact ⟨ret_bool HF.out.symm, rfl⟩
              · have h8' : 57 < (s[k].toNat : Int) := by omega
                clear hd'
                go_wp2
                go_ret
                exact ⟨ret_bool HF.out.symm, rfl⟩
            · have h9' : decide ((s[k].toNat : Int) ≤ 122) = false := by simp; omega
              clear hl'
              go_wp2
              go_ret
              exact ⟨ret_bool HF.out.symm, rfl⟩
          · obtain ⟨d1, d2⟩ := digB_yes hd
            have HO := Lib.hid (ST.out (okAt_dig hpos hd)); clear hd hl'
            go_wp2
            go_round
            case rel => exact ⟨k + 1, by omega, by go_num, HO.out⟩
            case measure => simp [intOf]; omega
      · obtain ⟨l1, l2⟩ := letB_yes hl
        have HO := Lib.hid (ST.out (okAt_let hl)); clear hl
        go_wp2
        go_round
        case rel => exact ⟨k + 1, by omega, by go_num, HO.out⟩
        case measure => simp [intOf]; omega
    · have HP := Lib.hid hp
      have HT := Lib.hid (show isNam s = (decide (1 ≤ (s.size : Int)) && decide ((s.size : Int) ≤ 8)) by
        by_cases h1 : 1 ≤ s.size
        · by_cases h2 : s.size ≤ 8
          · rw [isNam_yes h1 h2 fun i h => HA.out i h (by omega)]; symm; simp; omega
          · rw [isNam_short (by omega)]; symm; simp; omega
        · rw [isNam_short (by omega)]; symm; simp; omega)
      go_wp2_with (go_at_call 27; refine (l01In_any _ _ _ _).mono ?_; rintro e w' ⟨rfl, rfl⟩)
      go_ret
      exact ⟨ret_bool HT.out.symm, rfl⟩

set_option maxHeartbeats 400000 in
theorem lawIsName (s : ByteArray) (w : World) (hs : s.size ≤ maxLen) :
    Calls Try.prog 4 #[.string s] w fun e w' => e = .returned (.bool true) ∧ Below w.heap.size w w' := by
  have hs' := hs
  unfold maxLen at hs'
  go_enter Try.func4, Try.ntmps4
  go_wp2_with (first | (go_at_call 11; refine (specIsName_any _ _ hs).mono ?_; rintro e w' ⟨rfl, rfl⟩) | (go_at_call 12; refine (implIsName_any _ _ hs).mono ?_; rintro e w' ⟨rfl, hb⟩))
  · go_ret; exact ⟨rfl, Below.refl _ _⟩
  · go_ret; exact ⟨rfl, hb⟩

end Go.Proofs.Ytdknojpkkbdkiaa
