/- Mixed places: the model's sums, carries and the next digits. -/
import Derived.Test.YtleadjkndciniaaDoorMxSpec
import Derived.OwnWalk
set_option linter.unusedVariables false
set_option linter.unusedSimpArgs false
set_option maxRecDepth 100000
namespace Go.Proofs.YtleadjkndciniaaDoor
open Go.ChangeShapes Go.WideShapes Go.ChangeAt Go.RowKit

theorem adD_len : ∀ (l m r : List Int) (cy : Int), l.length = r.length → m.length = r.length → (adD cy l m r).length = r.length
  | [], [], [], cy, _, _ => rfl
  | a :: l, c :: m, x :: r, cy, h1, h2 => by rw [adD, List.length_cons, List.length_cons, adD_len l m r _ (by simpa using h1) (by simpa using h2)]
  | a :: l, _, [], _, h, _ => by simp at h
  | [], _, x :: r, _, h, _ => by simp at h
  | a :: l, [], x :: r, _, _, h => by simp at h
  | [], c :: m, [], _, _, h => by simp at h
theorem ad_snoc : ∀ (l m r : List Int) (cy a c x : Int), l.length = r.length → m.length = r.length →
    adD cy (l ++ [a]) (m ++ [c]) (r ++ [x]) = adD cy l m r ++ [(a + c + adC cy l m r) % x] ∧ adC cy (l ++ [a]) (m ++ [c]) (r ++ [x]) = (a + c + adC cy l m r) / x ∧ adN cy (l ++ [a]) (m ++ [c]) (r ++ [x]) = adN cy l m r + (a + c + adC cy l m r) / x
  | [], [], [], cy, a, c, x, _, _ => by simp [adD, adC, adN]
  | a' :: l, c' :: m, x' :: r, cy, a, c, x, h1, h2 => by
    obtain ⟨i1, i2, i3⟩ := ad_snoc l m r ((a' + c' + cy) / x') a c x (by simpa using h1) (by simpa using h2)
    refine ⟨?_, ?_, ?_⟩
    · rw [List.cons_append, List.cons_append, List.cons_append, adD, i1, adD, adC]; rfl
    · rw [List.cons_append, List.cons_append, List.cons_append, adC, i2, adC]
    · rw [List.cons_append, List.cons_append, List.cons_append, adN, i3, adN, adC]; omega
  | a :: l, _, [], _, _, _, _, h, _ => by simp at h
  | [], _, x :: r, _, _, _, _, h, _ => by simp at h
  | a :: l, [], x :: r, _, _, _, _, _, h => by simp at h
  | [], c :: m, [], _, _, _, _, _, h => by simp at h
theorem fitM_take : ∀ {l r : List Int}, FitM l r → ∀ k, FitM (l.take k) (r.take k)
  | _, _, _, 0 => by simp [FitM]
  | [], [], _, k + 1 => by simp [FitM]
  | d :: l, x :: r, h, k + 1 => by simpa [FitM] using ⟨h.1, fitM_take h.2 k⟩
  | [], x :: r, h, _ + 1 => h.elim
  | d :: l, [], h, _ + 1 => h.elim
theorem ad_step {l m r : List Int} {k : Nat} (h1 : k < l.length) (h2 : k < m.length) (h3 : k < r.length) :
    adD 0 (l.take (k + 1)) (m.take (k + 1)) (r.take (k + 1)) = adD 0 (l.take k) (m.take k) (r.take k) ++ [(l[k] + m[k] + adC 0 (l.take k) (m.take k) (r.take k)) % r[k]] ∧
    adC 0 (l.take (k + 1)) (m.take (k + 1)) (r.take (k + 1)) = (l[k] + m[k] + adC 0 (l.take k) (m.take k) (r.take k)) / r[k] ∧
    adN 0 (l.take (k + 1)) (m.take (k + 1)) (r.take (k + 1)) = adN 0 (l.take k) (m.take k) (r.take k) + (l[k] + m[k] + adC 0 (l.take k) (m.take k) (r.take k)) / r[k] := by
  rw [List.take_succ_eq_append_getElem h1, List.take_succ_eq_append_getElem h2, List.take_succ_eq_append_getElem h3]
  exact ad_snoc _ _ _ 0 _ _ _ (by simp; omega) (by simp; omega)
theorem adN_le : ∀ {l m r : List Int} (cy : Int), 0 ≤ cy → cy ≤ 1 → AllR r → FitM l r → FitM m r → adN cy l m r ≤ r.length
  | [], [], [], cy, _, _, _, _, _ => by simp [adN]
  | a :: l, c :: m, x :: r, cy, h0, h1, hA, hl, hm => by
    have hx := hA x (by simp)
    obtain ⟨k1, k2, k3⟩ := ad_carry h0 h1 hl.1 hm.1 hx.1
    have := adN_le ((a + c + cy) / x) k1 k2 (allR_tail hA) hl.2 hm.2
    rw [adN, List.length_cons]; omega
  | [], [], x :: r, _, _, _, _, h, _ => h.elim
  | [], c :: m, [], _, _, _, _, _, h => h.elim
  | [], c :: m, x :: r, _, _, _, _, h, _ => h.elim
  | a :: l, [], [], _, _, _, _, h, _ => h.elim
  | a :: l, [], x :: r, _, _, _, _, _, h => h.elim
  | a :: l, c :: m, [], _, _, _, _, h, _ => h.elim

def rMixedAdd0 (a c r : List Int) : List Int := if okM a r && okM c r then adD 0 a c r else []
def rMixedAdd1 (a c r : List Int) : Int := if okM a r && okM c r then adC 0 a c r else -1
def rMixedCarries0 (a c r : List Int) : Int := if okM a r && okM c r then adN 0 a c r else -1
theorem rMixedAdd0_len (a c r : List Int) : (rMixedAdd0 a c r).length ≤ 1048577 := by
  unfold rMixedAdd0; split
  · rename_i h
    simp only [Bool.and_eq_true] at h
    obtain ⟨h1, h2⟩ := okM_yes h.1
    obtain ⟨_, h3⟩ := okM_yes h.2
    have := okR_yes h1
    rw [adD_len _ _ _ _ (fitM_len h2) (fitM_len h3)]; omega
  · simp

end Go.Proofs.YtleadjkndciniaaDoor
