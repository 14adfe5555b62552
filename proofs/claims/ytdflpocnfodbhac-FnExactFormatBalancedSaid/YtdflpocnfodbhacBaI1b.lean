/- Balanced digits: the program's test of digits, and the digits of an integer. -/
import Derived.Test.YtdflpocnfodbhacWithin
import Derived.Test.YtdflpocnfodbhacBaI1
set_option linter.unusedVariables false
set_option linter.unusedSimpArgs false
set_option maxRecDepth 100000
namespace Go.Proofs.Ytdflpocnfodbhac
open Go.ChangeShapes Go.WideShapes Go.ChangeAt Go.RowKit

theorem greatest_some (b : Int) (w : World) :
    Calls Try.prog 67 #[.int .i64 b] w fun e w' => ∃ h, e = .returned (.int .i64 h) ∧ w' = w := by
  go_enter Try.func67, Try.ntmps67
  go_wp2
  go_ret
  exact ⟨_, rfl, rfl⟩
theorem okW_okR {l : List Int} {b : Int} {h : Nat} (hok : okE b = true) (hb : b = 2 * (h : Int) + 1) : okW l b = okIn l (-(h : Int)) h := by
  subst hb
  simp only [okW, okIn, hok, Bool.true_and, half_eq]

set_option maxHeartbeats 1000000 in
theorem implBal_eq (v : Value) (l : List Int) (b : Int) (w : World) (hr : RowAt w v (intsOf l)) (hl : l.length ≤ 1048576) (hi : ∀ n ∈ l, in64 n) (hb : in64 b) :
    Calls Try.prog 46 #[v, .int .i64 b] w fun e w' => e = .returned (.bool (okW l b)) ∧ w = w' := by
  have HC := Lib.hid (fun W => baseB_any b W hb)
  have HWI := Lib.hid (fun h : Nat => withinR_any v l (-(h : Int)) h w hr hl)
  obtain ⟨a, cap, rfl, h1, h2, h3⟩ := hr.ints
  clear h3 hr hi hb
  cases hok : okE b
  · have HK := Lib.hid (okW_base (l := l) hok)
    have HG := Lib.hid (fun W => greatest_some b W)
    rw [hok] at HC
    clear hok
    go_enter Try.func46, Try.ntmps46
    go_wp2_with fail
    refine (HG.out _).mono ?_
    rintro e w' ⟨g, rfl, rfl⟩
    go_wp2_with fail
    refine (HC.out _).mono ?_
    rintro e w' ⟨rfl, rfl⟩
    go_wp2_with fail
    go_ret
    exact ⟨ret_bool HK.out.symm, rfl⟩
  · obtain ⟨h, hbe, hh1, hh7⟩ := okE_yes hok
    have HK := Lib.hid (okW_okR (l := l) hok hbe)
    have HG := Lib.hid (fun W => greatest_any h b W hbe hh7)
    have HW := Lib.hid (HWI.out h)
    rw [hok] at HC
    clear hok hbe
    go_enter Try.func46, Try.ntmps46
    go_wp2_with fail
    refine (HG.out _).mono ?_
    rintro e w' ⟨rfl, rfl⟩
    go_wp2_with fail
    refine (HC.out _).mono ?_
    rintro e w' ⟨rfl, rfl⟩
    go_wp2_with fail
    refine HW.out.mono ?_
    rintro e w' ⟨rfl, rfl⟩
    go_wp2_with fail
    go_ret
    exact ⟨ret_bool HK.out.symm, rfl⟩

theorem implBalancedOk_any (v : Value) (l : List Int) (b : Int) (w : World) (hr : RowAt w v (intsOf l)) (hl : l.length ≤ 1048576) (hi : ∀ n ∈ l, in64 n) (hb : in64 b) :
    Calls Try.prog 46 #[v, .int .i64 b] w fun e w' => e = .returned (.bool (rBalancedOk0 l b)) ∧ Below w.heap.size w w' := by
  refine (implBal_eq v l b w hr hl hi hb).mono ?_
  rintro e w' ⟨rfl, rfl⟩
  exact ⟨rfl, Below.refl _ _⟩

end Go.Proofs.Ytdflpocnfodbhac
