/- ParseInt: the program: what the library's Atoi reads, if its numeral is the text. -/
import Derived.Test.YtbnkdcfmllblkaaDoorNum
import Derived.Test.YtbnkdcfmllblkaaDoorFmtLaw
set_option linter.unusedVariables false
set_option linter.unusedSimpArgs false
namespace Go.Proofs.YtbnkdcfmllblkaaDoor
open Go.ChangeShapes Go.WideShapes Go.ChangeAt Go.RowKit

/-- the two error variables hold interface values -/
def Errs (w : World) : Prop := (∃ tp p, w.var? Tryd.prog "strconv.ErrSyntax" = some #[.iface tp p]) ∧ (∃ tp p, w.var? Tryd.prog "strconv.ErrRange" = some #[.iface tp p])

theorem Errs.below {w w' : World} (h : Errs w) (hb : Below w.heap.size w w') : Errs w' := by
  obtain ⟨⟨tp, p, h1⟩, tp', p', h2⟩ := h
  exact ⟨⟨tp, p, var_below h1 hb⟩, tp', p', var_below h2 hb⟩

/-- Atoi where it fails: an error that is no nil -/
def AtoiBad (w : World) (e : Ending) (w' : World) : Prop := ∃ (n : Int) (t : TypeId) (a : Addr), e = .returned (.tuple #[.int .i64 n, .iface t (.pointer (some a))]) ∧ Below w.heap.size w w'

theorem atoi_bad (s : ByteArray) (hs : s.size ≤ 1048576) (w : World) (he : Errs w) (x : Lib.NumEnd Int) (hx : Lib.atoiAll s.data.toList = x) (hno : ∀ v, x ≠ .ok v) :
    Calls Tryd.prog 31 #[.string s] w (AtoiBad w) := by
  obtain ⟨⟨tp, p, h1⟩, tp', p', h2⟩ := he
  cases x with
  | ok v => exact absurd rfl (hno v)
  | range =>
    refine (Any.strconv_Atoi_range_var Tryd.laysC172 s (by omega) hx tp' p' w h2).mono ?_
    rintro e w' ⟨N, rfl, _, _, hb⟩
    exact ⟨_, _, _, rfl, hb⟩
  | _ =>
    refine (Any.strconv_Atoi_syntax_var Tryd.laysC172 s (by omega) hx tp p w h1).mono ?_
    rintro e w' ⟨N, rfl, _, _, hb⟩
    exact ⟨_, _, _, rfl, hb⟩

theorem below_bytes (w : World) (e : TypeId) (s : ByteArray) : Below w.heap.size w (Lib.bytesWorld w e s) :=
  Lib.below_freeze (((Below.refl _ w).drew).alloc (Nat.le_refl _) _) (Nat.le_refl _) _

def AtoiOk (v : Int) (w : World) (e : Ending) (w' : World) : Prop := e = .returned (.tuple #[.int .i64 v, .nilIface]) ∧ Below w.heap.size w w'
theorem atoi_ok (s : ByteArray) (hs : s.size ≤ 1048576) (v : Int) (hx : Lib.atoiAll s.data.toList = .ok v) (w : World) :
    Calls Tryd.prog 31 #[.string s] w (AtoiOk v w) := by
  refine (Tryd.strconv_Atoi_ok s (by omega) v hx w).mono ?_
  rintro e w' ⟨rfl, h⟩
  rcases h with rfl | ⟨t, rfl⟩
  · exact ⟨rfl, Below.refl _ _⟩
  · exact ⟨rfl, below_bytes _ _ _⟩

theorem bs_eq_yes {l : List UInt8} {s : ByteArray} (h : l = s.data.toList) : (bs l).toList = s.toList := by
  rw [ByteArray.toList_eq, ByteArray.toList_eq, data_bs, h]

set_option maxHeartbeats 1000000 in
theorem implParse_any (s : ByteArray) (w : World) (hs : s.size ≤ 1048576) (ht : Tab w) (he : Errs w) :
    Calls Tryd.prog 24 #[.string s] w fun e w' => e = .returned (.tuple #[.int .i64 (pRes s.data.toList).1, .bool (pRes s.data.toList).2]) ∧ Below w.heap.size w w' := by
  cases hx : Lib.atoiAll s.data.toList with
  | ok v =>
    obtain ⟨b0, b1⟩ := Lib.atoiAll_bounds hx
    have HC := Lib.hid (fun W => atoi_ok s hs v hx W)
    have HF := Lib.hid (fun W hT => implFormat_any v W b0 b1 hT)
    have HP := Lib.hid (show pRes s.data.toList = if Lib.itoa v = s.data.toList then (v, true) else (0, false) by unfold pRes; rw [hx])
    rw [HP.out]
    clear hx b0 b1
    by_cases hq : Lib.itoa v = s.data.toList
    · rw [if_pos hq]
      have hq2 := bs_eq_yes hq
      clear hq
      go_enter Tryd.func24, Tryd.ntmps24
      go_wp2_with (first | (go_at_call 31; refine (HC.out _).mono ?_; rintro e w1 ⟨rfl, hb⟩; have ht1 := ht.below hb) | (go_at_call 19; refine (HF.out _ ht1).mono ?_; rintro e w2 ⟨rfl, hb2⟩))
      all_goals (go_ret2; exact ⟨rfl, hb.trans (hb2.mono hb.size)⟩)
    · rw [if_neg hq]
      have hq2 := str_beq_no (show bs (Lib.itoa v) ≠ s from fun e => hq (by rw [← e, data_bs]))
      clear hq
      go_enter Tryd.func24, Tryd.ntmps24
      go_wp2_with (first | (go_at_call 31; refine (HC.out _).mono ?_; rintro e w1 ⟨rfl, hb⟩; have ht1 := ht.below hb) | (go_at_call 19; refine (HF.out _ ht1).mono ?_; rintro e w2 ⟨rfl, hb2⟩))
      all_goals (go_ret2; exact ⟨rfl, hb.trans (hb2.mono hb.size)⟩)
  | _ =>
    have HP := Lib.hid (show pRes s.data.toList = (0, false) by unfold pRes; rw [hx])
    rw [HP.out]
    have HC := Lib.hid (fun W hE => atoi_bad s hs W hE _ hx (by intro v h; cases h))
    clear hx
    go_enter Tryd.func24, Tryd.ntmps24
    go_wp2_with (go_at_call 31; refine (HC.out _ he).mono ?_; rintro e w' ⟨n, t, a, rfl, hb⟩)
    all_goals (go_ret2; exact ⟨rfl, hb⟩)

end Go.Proofs.YtbnkdcfmllblkaaDoor
