/- Digits: the program's tests, and the two functions that make its iterators. -/
import Derived.Test.YtdflpocnfodbhabWithin
import Derived.LoopIn
import Derived.LoopNIn
import Derived.OwnWalkIn
import Derived.RangeFuncBound
import Derived.RangeFuncLeaves
import Derived.RangeFuncNested
import Derived.Shelf.Abstract
import Derived.TacticsInMore
set_option linter.unusedVariables false
set_option linter.unusedSimpArgs false
set_option maxRecDepth 100000
namespace Go.Proofs.Ytdflpocnfodbhab
open Go.ChangeShapes Go.WideShapes Go.ChangeAt Go.RowKit

theorem implBaseOk_any (b : Int) (w : World) (hb : in64 b) :
    Calls Try.prog 60 #[.int .i64 b] w fun e w' => e = .returned (.bool (okB b)) ∧ w = w' := by
  obtain ⟨hb0, hb1⟩ := hb
  by_cases h : 2 ≤ b
  · have HK := Lib.hid (show okB b = decide (b ≤ 16) by simp [okB, h])
    go_enter Try.func60, Try.ntmps60
    go_wp2
    all_goals (go_ret; exact ⟨ret_bool HK.out.symm, rfl⟩)
  · have h' : b < 2 := by omega
    have HK := Lib.hid (show okB b = false by simp [okB, h])
    go_enter Try.func60, Try.ntmps60
    go_wp2
    all_goals (go_ret; exact ⟨ret_bool HK.out.symm, rfl⟩)

theorem okD_okR {l : List Int} {b : Int} (h : okB b = true) : okD l b = okIn l 0 (b - 1) := by simp only [okD, okIn, h, Bool.true_and]

set_option maxHeartbeats 1000000 in
theorem implDigitsOk_any (v : Value) (l : List Int) (b : Int) (w : World) (hr : RowAt w v (intsOf l)) (hl : l.length ≤ 1048576) (hi : ∀ n ∈ l, in64 n) (hb : in64 b) :
    Calls Try.prog 45 #[v, .int .i64 b] w fun e w' => e = .returned (.bool (okD l b)) ∧ w = w' := by
  have HC := Lib.hid (fun W => implBaseOk_any b W hb)
  have HW := Lib.hid (withinR_any v l 0 (b - 1) w hr hl)
  obtain ⟨a, cap, rfl, h1, h2, h3⟩ := hr.ints
  clear h3 hr hi hb
  cases hok : okB b
  · have HK := Lib.hid (okD_base (l := l) hok)
    rw [hok] at HC
    clear hok
    go_enter Try.func45, Try.ntmps45
    go_wp2_with fail
    refine (HC.out _).mono ?_
    rintro e w' ⟨rfl, rfl⟩
    go_wp2_with fail
    go_ret
    exact ⟨ret_bool HK.out.symm, rfl⟩
  · have HK := Lib.hid (okD_okR (l := l) hok)
    obtain ⟨hb2, hb16⟩ := okB_yes hok
    rw [hok] at HC
    clear hok
    go_enter Try.func45, Try.ntmps45
    go_wp2_with fail
    refine (HC.out _).mono ?_
    rintro e w' ⟨rfl, rfl⟩
    go_wp2_with fail
    refine HW.out.mono ?_
    rintro e w' ⟨rfl, rfl⟩
    go_wp2_with fail
    go_ret
    exact ⟨ret_bool HK.out.symm, rfl⟩

end Go.Proofs.Ytdflpocnfodbhab
