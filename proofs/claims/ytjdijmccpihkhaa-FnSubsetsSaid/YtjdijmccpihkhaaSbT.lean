/- Which functions of subsets are tame. -/
import Derived.Test.YtjdijmccpihkhaaLfC
import Derived.Conc.CrowdComm
import Derived.Conc.Deaf
import Derived.Conc.Know
import Derived.Conc.LoneCalls
import Derived.Conc.Pipeline3
import Derived.KernelRfl
set_option linter.unusedVariables false
set_option linter.unusedSimpArgs false
set_option maxRecDepth 100000
namespace Go.Proofs.Ytjdijmccpihkhaa
open Go.Conc

theorem no_readies : (Try.prog.funcs.all fun f => (f.body.map readies).all (·.isEmpty)) = true := by kernel_rfl
theorem follows_ahead : Try.prog.follows .staticDataAhead = true := by kernel_rfl
theorem early_ends (fr : Frame) (cs : List Frame) (dy : Option Dying) (g : Nat) (w : World) : ∃ o w', early Try.prog fr cs dy g w = .ended o w' := by
  have hs : Try.prog.stepOf g = none := by
    unfold Program.stepOf
    rw [Array.findIdx?_eq_none_iff]
    intro f hf
    have := Array.all_eq_true'.1 no_readies f hf
    cases hb : f.body with
    | none => rfl
    | some c =>
      rw [hb] at this
      simp at this
      simp [this]
  refine ⟨.unsupported (.initOrder g) (fr.pos Try.prog), w, ?_⟩
  unfold early
  simp only [follows_ahead, hs]
  rfl

def Fsb : Okay where
  int := fun t => [3, 5].contains t
  fn := fun f => [18, 38, 17, 39, 40, 13, 20, 26, 27, 30, 31, 24, 25, 28, 29, 32, 33, 34, 35, 45, 46, 47, 12, 21, 36, 37, 41, 48, 49, 19, 43, 51].contains f
theorem tameSb : Tame Try.prog Fsb := by
  refine ⟨fun f hf => ?_, fun t ht => ?_, early_ends⟩
  case refine_2 =>
    simp only [Fsb, List.contains_cons, List.contains_nil, Bool.or_false, Bool.or_eq_true, beq_iff_eq] at ht
    rcases ht with rfl | rfl
    · exact ⟨_, Try.underlying3⟩
    · exact ⟨_, Try.underlying5⟩
  simp only [Fsb, List.contains_cons, List.contains_nil, Bool.or_false, Bool.or_eq_true, beq_iff_eq] at hf
  rcases hf with rfl | rfl | rfl | rfl | rfl | rfl | rfl | rfl | rfl | rfl | rfl | rfl | rfl | rfl | rfl | rfl | rfl | rfl | rfl | rfl | rfl | rfl | rfl | rfl | rfl | rfl | rfl | rfl | rfl | rfl | rfl | rfl
  · exact ⟨_, _, Try.func18, rfl, rfl, by kernel_rfl⟩
  · exact ⟨_, _, Try.func38, rfl, rfl, by kernel_rfl⟩
  · exact ⟨_, _, Try.func17, rfl, rfl, by kernel_rfl⟩
  · exact ⟨_, _, Try.func39, rfl, rfl, by kernel_rfl⟩
  · exact ⟨_, _, Try.func40, rfl, rfl, by kernel_rfl⟩
  · exact ⟨_, _, Try.func13, rfl, rfl, by kernel_rfl⟩
  · exact ⟨_, _, Try.func20, rfl, rfl, by kernel_rfl⟩
  · exact ⟨_, _, Try.func26, rfl, rfl, by kernel_rfl⟩
  · exact ⟨_, _, Try.func27, rfl, rfl, by kernel_rfl⟩
  · exact ⟨_, _, Try.func30, rfl, rfl, by kernel_rfl⟩
  · exact ⟨_, _, Try.func31, rfl, rfl, by kernel_rfl⟩
  · exact ⟨_, _, Try.func24, rfl, rfl, by kernel_rfl⟩
  · exact ⟨_, _, Try.func25, rfl, rfl, by kernel_rfl⟩
  · exact ⟨_, _, Try.func28, rfl, rfl, by kernel_rfl⟩
  · exact ⟨_, _, Try.func29, rfl, rfl, by kernel_rfl⟩
  · exact ⟨_, _, Try.func32, rfl, rfl, by kernel_rfl⟩
  · exact ⟨_, _, Try.func33, rfl, rfl, by kernel_rfl⟩
  · exact ⟨_, _, Try.func34, rfl, rfl, by kernel_rfl⟩
  · exact ⟨_, _, Try.func35, rfl, rfl, by kernel_rfl⟩
  · exact ⟨_, _, Try.func45, rfl, rfl, by kernel_rfl⟩
  · exact ⟨_, _, Try.func46, rfl, rfl, by kernel_rfl⟩
  · exact ⟨_, _, Try.func47, rfl, rfl, by kernel_rfl⟩
  · exact ⟨_, _, Try.func12, rfl, rfl, by kernel_rfl⟩
  · exact ⟨_, _, Try.func21, rfl, rfl, by kernel_rfl⟩
  · exact ⟨_, _, Try.func36, rfl, rfl, by kernel_rfl⟩
  · exact ⟨_, _, Try.func37, rfl, rfl, by kernel_rfl⟩
  · exact ⟨_, _, Try.func41, rfl, rfl, by kernel_rfl⟩
  · exact ⟨_, _, Try.func48, rfl, rfl, by kernel_rfl⟩
  · exact ⟨_, _, Try.func49, rfl, rfl, by kernel_rfl⟩
  · exact ⟨_, _, Try.func19, rfl, rfl, by kernel_rfl⟩
  · exact ⟨_, _, Try.func43, rfl, rfl, by kernel_rfl⟩
  · exact ⟨_, _, Try.func51, rfl, rfl, by kernel_rfl⟩

end Go.Proofs.Ytjdijmccpihkhaa
