/- The law on ParseInt. -/
import Derived.Test.YtdknojpkkbdkiaaDoorParseSpec
set_option linter.unusedVariables false
namespace Go.Proofs.YtdknojpkkbdkiaaDoor
open Go.ChangeShapes Go.WideShapes Go.ChangeAt Go.RowKit

set_option maxHeartbeats 1000000 in
theorem lawParseInt (s : ByteArray) (hsm : s.size ≤ maxLen) (w : World) (ht : Tab w) (he : Errs w) :
    Calls Tryd.prog 5 #[.string s] w fun e w' => e = .returned (.bool true) ∧ Below w.heap.size w w' := by
  unfold maxLen at hsm
  by_cases hbig : 1048576 < s.size
  · go_enter Tryd.func5, Tryd.ntmps5
    go_wp2
    go_ret
    exact ⟨rfl, Below.refl _ _⟩
  have hs : s.size ≤ 1048576 := by omega
  have HS := Lib.hid (fun W => specParse_any s W hs)
  have HI := Lib.hid (fun W a b => implParse_any s W hs a b)
  obtain ⟨⟨n, b⟩, hr⟩ : ∃ r, pRes s.data.toList = r := ⟨_, rfl⟩
  rw [hr] at HS HI
  clear hr
  simp only at HS HI
  go_enter Tryd.func5, Tryd.ntmps5
  go_wp2_with (first | (go_at_call 15; refine (HS.out _).mono ?_; rintro e w1 ⟨rfl, hb1⟩; have ht1 := ht.below hb1; have he1 := he.below hb1) | (go_at_call 7; refine (HI.out _ ht1 he1).mono ?_; rintro e w2 ⟨rfl, hb2⟩))
  go_ret
  exact ⟨rfl, hb1.trans (hb2.mono hb1.size)⟩

end Go.Proofs.YtdknojpkkbdkiaaDoor
