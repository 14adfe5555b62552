/- Digits: the model's functions of a number and a base. -/
import Derived.Test.YtdflpocnfodbhaaDgS
set_option linter.unusedVariables false
set_option linter.unusedSimpArgs false
set_option maxRecDepth 100000
namespace Go.Proofs.Ytdflpocnfodbhaa
open Go.ChangeShapes Go.WideShapes Go.ChangeAt Go.RowKit

/-- a valid number and base, as naturals -/
theorem okN_nats {n b : Int} (h : okN n b = true) : ∃ n' b' : Nat, n = n' ∧ b = b' ∧ 2 ≤ b' ∧ b' ≤ 16 ∧ n' ≤ 1000000000000 := by
  obtain ⟨⟨h1, h2⟩, h3, h4⟩ := okN_yes h
  exact ⟨n.toNat, b.toNat, by omega, by omega, by omega, by omega, by omega⟩

theorem dg_15 {b n : Nat} (hb : 2 ≤ b) (hb16 : b ≤ 16) : ∀ d ∈ dg b n, 0 ≤ d ∧ d ≤ 15 := fun d hd => by
  have := dg_digits hb n n (Nat.le_refl _) d hd; omega

end Go.Proofs.Ytdflpocnfodbhaa
