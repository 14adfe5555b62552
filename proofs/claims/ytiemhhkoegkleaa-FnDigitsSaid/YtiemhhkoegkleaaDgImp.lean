/- Digits: the program's tests, and the two functions that make its iterators. -/
import Derived.Test.YtiemhhkoegkleaaDgIt
import Derived.Test.YtiemhhkoegkleaaWithin
set_option linter.unusedVariables false
set_option linter.unusedSimpArgs false
set_option maxRecDepth 100000
namespace Go.Proofs.Ytiemhhkoegkleaa
open Go.ChangeShapes Go.WideShapes Go.ChangeAt Go.RowKit

theorem implBaseOk_any (b : Int) (w : World) (hb : in64 b) :
    Calls Try.prog 14 #[.int .i64 b] w fun e w' => e = .returned (.bool (okB b)) ∧ w = w' := by
  obtain ⟨hb0, hb1⟩ := hb
  by_cases h : 2 ≤ b
  · have HK := Lib.hid (show okB b = decide (b ≤ 16) by simp [okB, h])
    go_enter Try.func14, Try.ntmps14
    go_wp2
    all_goals (go_ret; exact ⟨ret_bool HK.out.symm, rfl⟩)
  · have h' : b < 2 := by omega
    have HK := Lib.hid (show okB b = false by simp [okB, h])
    go_enter Try.func14, Try.ntmps14
    go_wp2
    all_goals (go_ret; exact ⟨ret_bool HK.out.symm, rfl⟩)

theorem okD_okR {l : List Int} {b : Int} (h : okB b = true) : okD l b = okIn l 0 (b - 1) := by simp only [okD, okIn, h, Bool.true_and]

set_option maxHeartbeats 1000000 in
theorem implDigitsOk_any (v : Value) (l : List Int) (b : Int) (w : World) (hr : RowAt w v (intsOf l)) (hl : l.length ≤ 1048576) (hi : ∀ n ∈ l, in64 n) (hb : in64 b) :
    Calls Try.prog 13 #[v, .int .i64 b] w fun e w' => e = .returned (.bool (okD l b)) ∧ w = w' := by
  have HC := Lib.hid (fun W => implBaseOk_any b W hb)
  have HW := Lib.hid (withinR_any v l 0 (b - 1) w hr hl)
  obtain ⟨a, cap, rfl, h1, h2, h3⟩ := hr.ints
  clear h3 hr hi hb
  cases hok : okB b
  · have HK := Lib.hid (okD_base (l := l) hok)
    rw [hok] at HC
    clear hok
    go_enter Try.func13, Try.ntmps13
    go_wp2_with fail
    refine (HC.out _).mono ?_
    rintro e w' ⟨rfl, rfl⟩
    go_wp2_with fail
    go_ret
    exact ⟨ret_bool HK.out.symm, rfl⟩
  · have HK := Lib.hid (okD_okR (l := l) hok)
    obtain ⟨hb2, hb16⟩ := okB_yes hok
    rw [hok] at HC
    clear hok
    go_enter Try.func13, Try.ntmps13
    go_wp2_with fail
    refine (HC.out _).mono ?_
    rintro e w' ⟨rfl, rfl⟩
    go_wp2_with fail
    refine HW.out.mono ?_
    rintro e w' ⟨rfl, rfl⟩
    go_wp2_with fail
    go_ret
    exact ⟨ret_bool HK.out.symm, rfl⟩

/-- what eachDigit hands back where base and number are valid -/
def eachFn (B : Nat) : Value := .func (.func 80) #[] #[.pointer (some ⟨B, 0, none⟩), .pointer (some ⟨B + 1, 0, none⟩)]

set_option maxHeartbeats 2000000 in
theorem each_no (n b : Int) (w : World) (hn : in64 n) (hb : in64 b) (h : okN n b = false) :
    Calls Try.prog 49 #[.int .i64 n, .int .i64 b] w fun e w' => e = .returned (.tuple #[.nilFunc, .bool false]) ∧ Below w.heap.size w w' := by
  obtain ⟨hn0, hn1⟩ := hn
  have HB := Lib.hid hb
  clear hb
  have hbb : Below w.heap.size w ((w.alloc (.cells #[.int .i64 n] 3)).alloc (.cells #[.int .i64 b] 3)) := ((Below.refl _ _).alloc (Nat.le_refl _) _).alloc (by simp) _
  have HBB := Lib.hid hbb; clear hbb
  have HC := Lib.hid (fun W => implBaseOk_any b W HB.out)
  cases hok : okB b
  · rw [hok] at HC
    clear hok h
    go_enter Try.func49, Try.ntmps49
    go_wp2_with (go_at_call 14; refine (HC.out _).mono ?_; rintro e w' ⟨rfl, rfl⟩)
    go_ret2
    exact ⟨rfl, HBB.out⟩
  · rw [hok] at HC
    have hin : inB n 0 1000000000000 = false := by simpa [okN, hok] using h
    clear hok h
    by_cases hneg : n < 0
    · go_enter Try.func49, Try.ntmps49
      go_wp2_with (go_at_call 14; refine (HC.out _).mono ?_; rintro e w' ⟨rfl, rfl⟩)
      go_ret2
      exact ⟨rfl, HBB.out⟩
    · have hbig : 1000000000000 < n := by simp [inB] at hin; omega
      clear hin
      go_enter Try.func49, Try.ntmps49
      go_wp2_with (go_at_call 14; refine (HC.out _).mono ?_; rintro e w' ⟨rfl, rfl⟩)
      go_ret2
      exact ⟨rfl, HBB.out⟩

/-- the digits of a number, as an iterator's value made in w -/
abbrev EachSeq (n b B n₀ : Nat) (w : World) : Prop :=
  SeqW Try.prog 80 #[.pointer (some ⟨B, 0, none⟩), .pointer (some ⟨B + 1, 0, none⟩)] (fun x : Dig => #[Value.int .i64 x.1]) (Below n₀) 0
      (fun ys => ys.map Subtype.val = dg b n) (fun pre => pre.map Subtype.val <+: dg b n) (dg b n).length w

set_option maxHeartbeats 2000000 in
theorem each_yes (n b : Nat) (w : World) (hb2 : 2 ≤ b) (hb16 : b ≤ 16) (hn : n ≤ 1000000000000) :
    Calls Try.prog 49 #[.int .i64 n, .int .i64 b] w fun e w' => e = .returned (.tuple #[eachFn w.heap.size, .bool true]) ∧ Below w.heap.size w w' ∧ w'.heap.size = w.heap.size + 2 ∧ EachSeq n b w.heap.size (w.heap.size + 2) w' := by
  have HC := Lib.hid (fun W => implBaseOk_any b W (by unfold in64; omega))
  rw [show okB (b : Int) = true by simp [okB]; omega] at HC
  obtain ⟨w2, hw2⟩ : ∃ w2, w2 = (w.alloc (.cells #[.int .i64 n] 3)).alloc (.cells #[.int .i64 b] 3) := ⟨_, rfl⟩
  have b0 := Boxed.new w 3 (.int .i64 n)
  have b1 := Boxed.new (w.alloc (.cells #[.int .i64 n] 3)) 3 (.int .i64 b)
  rw [World.size_alloc] at b1
  have HS := Lib.hid (show Below w.heap.size w w2 ∧ w2.heap.size = w.heap.size + 2 ∧ EachSeq n b w.heap.size (w.heap.size + 2) w2 from by
    subst hw2
    exact ⟨((Below.refl _ _).alloc (Nat.le_refl _) _).alloc (by simp) _, by simp,
      each1_seq n b w.heap.size (w.heap.size + 1) (w.heap.size + 2) _ hb2 hb16 hn (by omega) (by omega) (by simp) (b0.alloc _).cell b1.cell⟩)
  have HW := Lib.hid hw2
  clear hw2 b0 b1
  go_enter Try.func49, Try.ntmps49
  go_wp2_with (go_at_call 14; refine (HC.out _).mono ?_; rintro e w' ⟨rfl, rfl⟩)
  go_ret2
  rw [← HW.out]
  exact ⟨rfl, HS.out⟩

end Go.Proofs.Ytiemhhkoegkleaa
