/- Balanced digits: the model's weighings. -/
import Derived.Test.YtdflpocnfodbhaaBaM
import Derived.Deep.LoopGhost
set_option linter.unusedVariables false
set_option linter.unusedSimpArgs false
set_option maxRecDepth 100000
namespace Go.Proofs.Ytdflpocnfodbhaa
open Go.ChangeShapes Go.WideShapes Go.ChangeAt Go.RowKit

theorem bd_len3 : ∀ (f : Nat) (n : Int), 2 * n.natAbs ≤ 3 ^ f + 1 → (bd 1 n).length ≤ f + 1
  | 0, n, h => by
    by_cases h0 : n = 0
    · subst h0; rw [bd_zero]; simp
    · have hq := bd_quo (h := 1) (by omega) n
      rw [bd_step (by omega) h0]
      rw [Nat.pow_zero] at h
      have : (n + (1 : Nat)) / (2 * ((1 : Nat) : Int) + 1) = 0 := by omega
      rw [this, bd_zero]; simp
  | f + 1, n, h => by
    by_cases h0 : n = 0
    · subst h0; rw [bd_zero]; simp
    · have hq := bd_quo (h := 1) (by omega) n
      rw [bd_step (by omega) h0, List.length_cons]
      rw [Nat.pow_succ] at h
      have := bd_len3 f ((n + (1 : Nat)) / (2 * ((1 : Nat) : Int) + 1)) (by omega)
      omega
theorem bd_len27 {n : Int} (h1 : 0 ≤ n) (h2 : n ≤ 1000000000000) : (bd 1 n).length ≤ 27 := by
  have e : (3 : Nat) ^ 26 = 2541865828329 := by decide
  exact bd_len3 26 n (by omega)
theorem pow3_le {k : Nat} (h : k ≤ 26) : 1 ≤ (3 : Int) ^ k ∧ (3 : Int) ^ k ≤ 2541865828329 := by
  have e : (3 : Nat) ^ 26 = 2541865828329 := by decide
  have h1 := Nat.pow_le_pow_right (n := 3) (by omega) h
  have h2 : 0 < 3 ^ k := Nat.pow_pos (by omega)
  have h3 : ((3 ^ k : Nat) : Int) = (3 : Int) ^ k := by push_cast; rfl
  omega
theorem wpow_take (s : Int) {L : List Int} {k : Nat} (h : k < L.length) : wpow s 1 (L.take (k + 1)) = wpow s 1 (L.take k) ++ (if L[k] = s then [3 ^ k] else []) := by
  rw [List.take_succ_eq_append_getElem h, wpow_append, List.length_take, Nat.min_eq_left (by omega), Int.one_mul]
  congr 1
theorem ne_at {v' v u : Value} {N : Nat} (hat : v'.ownBlock = v.ownBlock ∨ v'.ownBlock = some N) (hne : v.ownBlock ≠ u.ownBlock) (hlt : ∀ k, u.ownBlock = some k → k < N) : v'.ownBlock ≠ u.ownBlock := by
  rcases hat with e | e
  · rw [e]; exact hne
  · rw [e]; intro e2
    have := hlt N e2.symm
    omega

theorem owns_weak {w : World} {B B' : Nat} {e : TypeId} {v : Value} {n : Nat} {xs : List Value} (h : w.ownsRow B e 1 v n xs) (hb : B' ≤ B) : w.ownsRow B' e 1 v n xs :=
  ⟨h.1, h.2.imp id (fun ⟨g, cap, cur, a, b, r⟩ => ⟨g, cap, cur, a, Nat.le_trans hb b, r⟩)⟩

end Go.Proofs.Ytdflpocnfodbhaa
