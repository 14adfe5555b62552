/- SplitLines: the pieces between the newlines, without a last empty one. -/
import Derived.Test.YtdknojpkkbdkiaaSplitS
set_option linter.unusedVariables false
namespace Go.Proofs.Ytdknojpkkbdkiaa
open Go.ChangeShapes Go.WideShapes Go.ChangeAt Go.RowKit

def nl : ByteArray := ⟨#[10]⟩
def lines (s : ByteArray) : List ByteArray := if (s.extract (sp s nl s.size).2 s.size).size = 0 then (sp s nl s.size).1 else pieces s nl

theorem owns_cut {w : World} {base : Nat} {e : TypeId} {g m cap : Nat} {xs : List Value} {y : Value} (h : w.ownsRow base e 1 (.slice (some ⟨g, 0, none⟩) (m + 1) cap) (m + 1) (xs ++ [y])) : w.ownsRow base e 1 (.slice (some ⟨g, 0, none⟩) m cap) m xs := by
  obtain ⟨hl, h2⟩ := h
  have hm : xs.length = m := by simp at hl; omega
  refine ⟨by omega, ?_⟩
  rcases h2 with ⟨hv, _⟩ | ⟨g', cap', cur, hv, hg, hh, hc1, hc2, hs, ht⟩
  · cases hv
  · simp only [Value.slice.injEq, Option.some.injEq, Addr.mk.injEq, and_true, true_and] at hv
    obtain ⟨rfl, rfl⟩ := hv
    refine .inr ⟨g, cap, cur, rfl, hg, hh, by omega, hc2, hs, ?_⟩
    rw [Nat.mul_one] at ht ⊢
    have : (cur.toList.take (m + 1)).take m = (xs ++ [y]).take m := by rw [ht]
    rwa [List.take_take, Nat.min_eq_left (Nat.le_succ m), List.take_left' hm] at this

theorem owns_shape {w : World} {base : Nat} {e : TypeId} {v : Value} {m : Nat} {xs : List Value} (h : w.ownsRow base e 1 v (m + 1) xs) : ∃ g cap, v = .slice (some ⟨g, 0, none⟩) (m + 1) cap ∧ m + 1 ≤ cap ∧ cap ≤ maxLen := by
  rcases h.2 with ⟨_, h0⟩ | ⟨g, cap, cur, hv, hg, hh, hc1, hc2, hs, ht⟩
  · omega
  · exact ⟨g, cap, hv, hc1, hc2⟩

end Go.Proofs.Ytdknojpkkbdkiaa
