/- The laws on SplitAny and SplitLines: the program cuts as the model does, into a list of its own. -/
import Derived.Test.YtdknojpkkbdkiaaSplit
import Derived.Test.YtdknojpkkbdkiaaSplit2
import Derived.Test.YtdknojpkkbdkiaaStrs
set_option linter.unusedVariables false
namespace Go.Proofs.Ytdknojpkkbdkiaa
open Go.ChangeShapes Go.WideShapes Go.ChangeAt Go.RowKit

theorem below_marked {B : Nat} {a w w' : World} {v : Value} {e : TypeId} {n base : Nat} {xs : List Value} (h : Below B a w) (hg : w.grownBy w' v.ownBlock) (hown : w.ownsRow base e 1 v n xs) (hB : B ≤ w.heap.size) (hb : B ≤ base) : Below B a w' :=
  h.grown hg hB (fun k hk => by have := (hown.lt k hk).1; omega)

/-- a row that lay before another one was made stands while that one is written -/
theorem owns_apart {w w' : World} {v v' : Value} {e e' : TypeId} {n n' base base' : Nat} {xs xs' : List Value} {W : World} (h : w.ownsRow base e 1 v n xs) (h0 : W.ownsRow base e 1 v n xs) (h' : w.ownsRow base' e' 1 v' n' xs') (hb : W.heap.size ≤ base') (hg : w.grownBy w' v'.ownBlock) : w'.ownsRow base e 1 v n xs := by
  refine h.kept hg ?_
  cases hv : v.ownBlock with
  | none => exact .inl rfl
  | some k =>
    right
    intro e
    have h1 := (h0.lt k hv).2
    have h2 := (h'.lt k e.symm).1
    omega

set_option maxHeartbeats 2000000 in
theorem lawSplitAny (s : ByteArray) (hsm : s.size ≤ maxLen) (b : ByteArray) (hbm : b.size ≤ maxLen) (W : World) :
    Calls Try.prog 5 #[.string s, .string b] W fun e w' => e = .returned (.bool true) ∧ Below W.heap.size W w' := by
  unfold maxLen at hsm hbm
  by_cases hbig : 1048576 < s.size
  · go_enter Try.func5, Try.ntmps5
    go_wp2
    go_ret
    exact ⟨rfl, Below.refl _ _⟩
  by_cases hbig2 : 1048576 < b.size
  · go_enter Try.func5, Try.ntmps5
    go_wp2
    go_ret
    exact ⟨rfl, Below.refl _ _⟩
  have hs : s.size ≤ 1048576 := by omega
  have hb : b.size ≤ 1048576 := by omega
  have hn := pieces_len s b
  have hn' : (pieces s b).length ≤ 1048577 := by omega
  clear hn
  go_enter Try.func5, Try.ntmps5
  go_wp2_with (go_at_call 13; refine (specSplitAny_any s b _ hs hb).mono ?_)
  rintro e w1 ⟨v0, rfl, o0, b1⟩
  go_wp2_with (go_at_call 14; refine (implSplitAny_any s b _ hs hb).mono ?_)
  rintro e w2 ⟨v1, rfl, o1, b2⟩
  have b12 := b1.trans (b2.mono b1.size)
  have o02 := owns_below o0 b2
  go_wp2_with (go_at_call 15; refine (eqStringS_any _ _ (pieces s b) (pieces s b) _ (RowAt.of_owns o1) (RowAt.of_owns o02)).mono ?_; rintro e w3 ⟨rfl, b3⟩)
  have b13 := b12.trans (b3.mono b12.size)
  have o13 := owns_below o1 b3
  have o03 := owns_below o02 b3
  refine (markStringS_any _ _ _ _ _ o13 hn').mono ?_
  rintro e w4 ⟨rfl, o14, g4⟩
  have o04 := owns_apart o03 o0 o13 (Nat.le_refl _) g4
  have b14 := below_marked b13 g4 o13 b13.size b1.size
  go_wp2_with (go_at_call 17; refine (heldStringS_any _ _ _ (RowAt.of_owns o14) hn').mono ?_; rintro e w5 ⟨rfl, b5⟩)
  have b15 := b14.trans (b5.mono b14.size)
  have o05 := owns_below o04 b5
  have o15 := owns_below o14 b5
  refine (implSplitAny_any s b _ hs hb).mono ?_
  rintro e w6 ⟨v2, rfl, o2, b6⟩
  have b16 := b15.trans (b6.mono b15.size)
  have o06 := owns_below o05 b6
  have o16 := owns_below o15 b6
  go_wp2_with (go_at_call 15; refine (eqStringS_any _ _ (pieces s b) (pieces s b) _ (RowAt.of_owns o2) (RowAt.of_owns o06)).mono ?_; rintro e w7 ⟨rfl, b7⟩)
  have b17 := b16.trans (b7.mono b16.size)
  have o17 := owns_below o16 b7
  refine (heldStringS_any _ _ _ (RowAt.of_owns o17) hn').mono ?_
  rintro e w8 ⟨rfl, b8⟩
  have b18 := b17.trans (b8.mono b17.size)
  go_wp2
  go_ret
  exact ⟨rfl, b18⟩

end Go.Proofs.Ytdknojpkkbdkiaa
