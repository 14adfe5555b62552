/- Digits: the program's tests, and the two functions that make its iterators. -/
import Derived.Test.YtckkiffajkhakaaDgSpec
import Derived.LoopIn
import Derived.LoopNIn
import Derived.OwnWalkIn
import Derived.RangeFuncBound
import Derived.RangeFuncLeaves
import Derived.RangeFuncNested
import Derived.Shelf.Abstract
import Derived.TacticsInMore
set_option linter.unusedVariables false
set_option linter.unusedSimpArgs false
namespace Go.Proofs.Ytckkiffajkhakaa
open Go.ChangeShapes Go.WideShapes Go.ChangeAt Go.RowKit

theorem implBaseOk_any (b : Int) (w : World) (hb : in64 b) :
    Calls Try.prog 60 #[.int .i64 b] w fun e w' => e = .returned (.bool (okB b)) ∧ w = w' := by
  obtain ⟨hb0, hb1⟩ := hb
  by_cases h : 2 ≤ b
  · have HK := Lib.hid (show okB b = decide (b ≤ 16) by simp [okB, h])
    go_enter Try.func60, Try.ntmps60
    go_wp2
    all_goals (go_ret; exact ⟨ret_bool HK.out.symm, rfl⟩)
  · have h' : b < 2 := by omega
    have HK := Lib.hid (show okB b = false by simp [okB, h])
    go_enter Try.func60, Try.ntmps60
    go_wp2
    all_goals (go_ret; exact ⟨ret_bool HK.out.symm, rfl⟩)

set_option maxHeartbeats 2000000 in
theorem implDigitsOk_any (v : Value) (l : List Int) (b : Int) (w : World) (hr : RowAt w v (intsOf l)) (hl : l.length ≤ 1048576) (hi : ∀ n ∈ l, in64 n) (hb : in64 b) :
    Calls Try.prog 23 #[v, .int .i64 b] w fun e w' => e = .returned (.bool (okD l b)) ∧ w = w' := by
  obtain ⟨a, cap, rfl, h1, h2, h3⟩ := hr.ints
  unfold maxLen at h2
  have HI := Lib.hid hi
  have HB := Lib.hid hb
  clear hi hb
  cases hok : okB b
  · have HK := Lib.hid (okD_base (l := l) hok)
    have HC := Lib.hid (fun W => implBaseOk_any b W HB.out)
    rw [hok] at HC
    clear hok
    go_enter Try.func23, Try.ntmps23
    go_wp2_with (go_at_call 60; refine (HC.out _).mono ?_; rintro e w' ⟨rfl, rfl⟩)
    go_ret
    exact ⟨ret_bool HK.out.symm, rfl⟩
  · obtain ⟨hb2, hb16⟩ := okB_yes hok
    have HC := Lib.hid (fun W => implBaseOk_any b W HB.out)
    rw [hok] at HC
    have HOK := Lib.hid hok
    clear hok
    by_cases h60 : 60 < l.length
    · have HK := Lib.hid (okD_long (b := b) h60)
      go_enter Try.func23, Try.ntmps23
      go_wp2_with (go_at_call 60; refine (HC.out _).mono ?_; rintro e w' ⟨rfl, rfl⟩)
      go_ret
      exact ⟨ret_bool HK.out.symm, rfl⟩
    · have h60' : l.length ≤ 60 := by omega
      go_enter Try.func23, Try.ntmps23
      go_wp2_with (go_at_call 60; refine (HC.out _).mono ?_; rintro e w' ⟨rfl, rfl⟩)
      go_loop [17] (fun i => ∃ k : Nat, k ≤ l.length ∧ i = .int .i64 k ∧ ∀ j (h : j < l.length), j < k → 0 ≤ l[j] ∧ l[j] ≤ b - 1) (fun i => l.length - (intOf i).toNat)
      case atStart => exact ⟨0, Nat.zero_le _, rfl, fun j h k => by omega⟩
      case round =>
        obtain ⟨k, hk, rfl, hall⟩ := hrel
        have HA := Lib.hid hall; clear hall
        by_cases hlt : k < l.length
        · obtain ⟨b', off, rfl, hbb, hcell⟩ := h3.resolve_left (fun e => by rw [e] at hlt; simp at hlt)
          have hc := hcell k hlt
          have hin := HI.out _ (List.getElem_mem hlt)
          clear h3 hcell
          by_cases hneg : l[k] < 0
          · have HK := Lib.hid (okD_at (b := b) hlt (by simp [inB]; omega))
            go_wp2
            go_ret
            exact ⟨ret_bool HK.out.symm, rfl⟩
          · by_cases hbig : b ≤ l[k]
            · have HK := Lib.hid (okD_at (b := b) hlt (by simp [inB]; omega))
              go_wp2
              go_ret
              exact ⟨ret_bool HK.out.symm, rfl⟩
            · go_wp2
              go_round
              case rel =>
                refine ⟨k + 1, hlt, by go_num, fun j h hj => ?_⟩
                by_cases e : j = k
                · subst e; omega
                · exact HA.out j h (by omega)
              case measure => simp [intOf]; omega
        · have HE := Lib.hid (okD_end (l := l) HOK.out h60' (fun d hd => by
            obtain ⟨j, hj, rfl⟩ := List.getElem_of_mem hd
            exact HA.out j hj (by omega)))
          by_cases h0 : l.length = 0
          · have hnil : l = [] := List.eq_nil_of_length_eq_zero h0
            have HF := Lib.hid (show okD l b = true by rw [HE.out]; simp [hnil])
            have hz : ((l.length : Int) == 0) = true := by simp [hnil]
            clear h3 hnil h0
            go_wp2
            go_ret
            exact ⟨ret_bool HF.out.symm, rfl⟩
          · obtain ⟨m, hm⟩ : ∃ m, l.length = m + 1 := ⟨l.length - 1, by omega⟩
            obtain ⟨b', off, rfl, hbb, hcell⟩ := h3.resolve_left (fun e => by rw [e] at h0; simp at h0)
            have hml : m < l.length := by omega
            have hc := hcell m hml
            have HF := Lib.hid (show okD l b = (l[m] != 0) by
              rw [HE.out]; exact last_test hm hml)
            have hz : ((m : Int) + 1 == 0) = false := beq_false_of_ne (by omega)
            have hpos : (1 : Int) ≤ l.length := by omega
            have hix : ((l.length : Int) - 1).toNat = m := by omega
            clear h3 hcell
            go_wp2
            go_ret
            exact ⟨ret_bool HF.out.symm, rfl⟩

end Go.Proofs.Ytckkiffajkhakaa
