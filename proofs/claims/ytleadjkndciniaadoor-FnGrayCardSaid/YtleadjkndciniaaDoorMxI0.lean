/- Mixed places: what the program keeps of checked radices, as plain facts. -/
import Derived.Test.YtleadjkndciniaaDoorMxSpec
import Derived.Test.YtleadjkndciniaaDoorWithin
import Derived.Deep.LoopGhost
import Derived.OwnWalk
set_option linter.unusedVariables false
set_option linter.unusedSimpArgs false
set_option maxRecDepth 100000
namespace Go.Proofs.YtleadjkndciniaaDoor
open Go.ChangeShapes Go.WideShapes Go.ChangeAt Go.RowKit

def lwIn (l : List Int) (lo hi : Int) : Bool := decide (1 ≤ l.length) && (decide (l.length ≤ 10) && allIn l lo hi)
theorem lwIn_yes {l : List Int} {lo hi : Int} (h : lwIn l lo hi = true) : 1 ≤ l.length ∧ l.length ≤ 10 ∧ ∀ d ∈ l, lo ≤ d ∧ d ≤ hi := by
  simp only [lwIn, Bool.and_eq_true, decide_eq_true_eq] at h
  exact ⟨h.1, h.2.1, allIn_yes h.2.2⟩
theorem okR_lw (r : List Int) : okR r = (lwIn r 2 60 && decide (rp r ≤ 1000000000000)) := by
  simp only [okR, lwIn, allIn, Bool.and_assoc]

theorem rp_le60 : ∀ {r : List Int}, AllR r → rp r ≤ 60 ^ r.length
  | [], _ => by simp [rp]
  | x :: r, h => by
    have h1 := h x (by simp)
    have h2 := rp_le60 (allR_tail h)
    have h3 := rp_pos (allR_tail h)
    have e1 : x * rp r ≤ 60 * 60 ^ r.length := Int.mul_le_mul h1.2 h2 (by omega) (by omega)
    rw [rp, List.length_cons, Int.pow_succ]; omega
theorem rp_le10 {r : List Int} (h : AllR r) (hl : r.length ≤ 10) (k : Nat) : 1 ≤ rp (r.take k) ∧ rp (r.take k) ≤ 604661760000000000 := by
  have h1 := rp_le60 (allR_take h k)
  have h2 := rp_pos (allR_take h k)
  have h4 : ∀ m : Fin 11, (60 : Int) ^ m.1 ≤ 604661760000000000 := by decide
  have h3 := h4 ⟨(r.take k).length, by simp; omega⟩
  simp only at h3
  omega
theorem rp_step10 {P x : Int} (h0 : 1 ≤ P) (h1 : P ≤ 604661760000000000) (h2 : 2 ≤ x) (h3 : x ≤ 60) (h4 : P * x ≤ 604661760000000000) : 0 ≤ P * x := Int.mul_nonneg (by omega) (by omega)

/-- the first k places are counted -/
structure SysK (r : List Int) (k : Nat) (cs : Array Value) : Prop where
  size : cs.size = 22
  one : cs.all (·.oneCell') = true
  count : cs[0]? = some (.int .i64 r.length)
  rad : ∀ j (h : j < r.length), cs[1 + j]? = some (.int .i64 r[j])
  pla : ∀ j, j ≤ k → cs[11 + j]? = some (.int .i64 (rp (r.take j)))
/-- what mixedSystemOf answers -/
structure SysV (r : List Int) (cs : Array Value) : Prop where
  size : cs.size = 22
  one : cs.all (·.oneCell') = true
  yes : okR r = true → SysK r r.length cs
  no : okR r = false → cs[0]? = some (.int .i64 0) ∧ cs[11]? = some (.int .i64 0)
theorem oneCell_set {cs : Array Value} (h : cs.all (·.oneCell') = true) (i : Nat) {v : Value} (hv : v.oneCell' = true) : (cs.setIfInBounds i v).all (·.oneCell') = true := by
  rw [Array.all_eq_true_iff_forall_mem] at h ⊢
  intro x hx
  rcases Array.mem_or_eq_of_mem_setIfInBounds hx with h' | rfl
  · exact h x h'
  · exact hv
theorem SysK.next {r : List Int} {k : Nat} {cs : Array Value} (h : SysK r k cs) (hk : k < r.length) (hl : r.length ≤ 10) {i : Nat} (hi : i = 12 + k) {v : Int} (hv : v = rp (r.take (k + 1))) : SysK r (k + 1) (cs.setIfInBounds i (.int .i64 v)) := by
  subst hi hv
  have hs := h.size
  refine ⟨by simp [hs], oneCell_set h.one _ rfl, ?_, fun j hj => ?_, fun j hj => ?_⟩
  · rw [Array.getElem?_setIfInBounds_ne (by omega)]; exact h.count
  · rw [Array.getElem?_setIfInBounds_ne (by omega)]; exact h.rad j hj
  · by_cases e : j = k + 1
    · subst e
      rw [show 11 + (k + 1) = 12 + k by omega, Array.getElem?_setIfInBounds_self_of_lt (by omega)]
    · rw [Array.getElem?_setIfInBounds_ne (by omega)]; exact h.pla j (by omega)
theorem okM_fit {l r : List Int} (h : okR r = true) : okM l r = (decide (l.length = r.length) && decide (∀ j (h1 : j < l.length) (h2 : j < r.length), 0 ≤ l[j] ∧ l[j] ≤ r[j] - 1)) := by
  rw [okM, h, Bool.true_and]

/-- the carries out of each place -/
def adL (cy : Int) : List Int → List Int → List Int → List Int
  | a :: l, c :: m, x :: r => (a + c + cy) / x :: adL ((a + c + cy) / x) l m r
  | _, _, _ => []
theorem adL_len : ∀ (l m r : List Int) (cy : Int), l.length = r.length → m.length = r.length → (adL cy l m r).length = r.length
  | [], [], [], cy, _, _ => rfl
  | a :: l, c :: m, x :: r, cy, h1, h2 => by rw [adL, List.length_cons, List.length_cons, adL_len l m r _ (by simpa using h1) (by simpa using h2)]
  | a :: l, _, [], _, h, _ => by simp at h
  | [], _, x :: r, _, h, _ => by simp at h
  | a :: l, [], x :: r, _, _, h => by simp at h
  | [], c :: m, [], _, _, h => by simp at h
theorem adL_snoc : ∀ (l m r : List Int) (cy a c x : Int), l.length = r.length → m.length = r.length →
    adL cy (l ++ [a]) (m ++ [c]) (r ++ [x]) = adL cy l m r ++ [(a + c + adC cy l m r) / x]
  | [], [], [], cy, a, c, x, _, _ => by simp [adL, adC]
  | a' :: l, c' :: m, x' :: r, cy, a, c, x, h1, h2 => by
    have i1 := adL_snoc l m r ((a' + c' + cy) / x') a c x (by simpa using h1) (by simpa using h2)
    rw [List.cons_append, List.cons_append, List.cons_append, adL, i1, adL, adC]; rfl
  | a :: l, _, [], _, _, _, _, h, _ => by simp at h
  | [], _, x :: r, _, _, _, _, h, _ => by simp at h
  | a :: l, [], x :: r, _, _, _, _, _, h => by simp at h
  | [], c :: m, [], _, _, _, _, _, h => by simp at h
theorem adL_step {l m r : List Int} {k : Nat} (h1 : k < l.length) (h2 : k < m.length) (h3 : k < r.length) :
    adL 0 (l.take (k + 1)) (m.take (k + 1)) (r.take (k + 1)) = adL 0 (l.take k) (m.take k) (r.take k) ++ [(l[k] + m[k] + adC 0 (l.take k) (m.take k) (r.take k)) / r[k]] := by
  rw [List.take_succ_eq_append_getElem h1, List.take_succ_eq_append_getElem h2, List.take_succ_eq_append_getElem h3]
  exact adL_snoc _ _ _ 0 _ _ _ (by simp; omega) (by simp; omega)
theorem adL_sum : ∀ (l m r : List Int) (cy : Int), (adL cy l m r).sum = adN cy l m r
  | a :: l, c :: m, x :: r, cy => by rw [adL, adN, List.sum_cons, adL_sum]
  | [], _, _, _ => by simp [adL, adN]
  | _ :: _, [], _, _ => by simp [adL, adN]
  | _ :: _, _ :: _, [], _ => by simp [adL, adN]
theorem adL_last : ∀ (l m r : List Int) (cy : Int), l.length = r.length → m.length = r.length → 0 < r.length → ∀ (h : r.length - 1 < (adL cy l m r).length), (adL cy l m r)[r.length - 1] = adC cy l m r
  | [a], [c], [x], cy, _, _, _, h => by simp [adL, adC]
  | a :: a' :: l, c :: c' :: m, x :: x' :: r, cy, h1, h2, _, h => by
    have := adL_last (a' :: l) (c' :: m) (x' :: r) ((a + c + cy) / x) (by simpa using h1) (by simpa using h2) (by simp) (by rw [adL_len _ _ _ _ (by simpa using h1) (by simpa using h2)]; simp)
    rw [adC, ← this]
    simp [adL]
  | [], _, [], _, _, _, h, _ => by simp at h
  | [], _, _ :: _, _, h, _, _, _ => by simp at h
  | _ :: _, _, [], _, h, _, _, _ => by simp at h
  | _ :: _, [], _ :: _, _, _, h, _, _ => by simp at h
  | [_], _ :: _ :: _, [_], _, _, h, _, _ => by simp at h
  | [_], _ :: _, _ :: _ :: _, _, h, _, _, _ => by simp at h
  | _ :: _ :: _, _ :: _, [_], _, h, _, _, _ => by simp at h
  | _ :: _ :: _, [_], _ :: _ :: _, _, _, h, _, _ => by simp at h
theorem adL_bits : ∀ {l m r : List Int} (cy : Int), 0 ≤ cy → cy ≤ 1 → AllR r → FitM l r → FitM m r → ∀ x ∈ adL cy l m r, 0 ≤ x ∧ x ≤ 1
  | a :: l, c :: m, x :: r, cy, h0, h1, hA, hl, hm => by
    have hx := hA x (by simp)
    obtain ⟨k1, k2, k3⟩ := ad_carry h0 h1 hl.1 hm.1 hx.1
    intro y hy
    rw [adL] at hy
    rcases List.mem_cons.1 hy with rfl | hy
    · exact ⟨k1, k2⟩
    · exact adL_bits _ k1 k2 (allR_tail hA) hl.2 hm.2 y hy
  | [], _, _, _, _, _, _, _, _ => by simp [adL]
  | _ :: _, [], _, _, _, _, _, _, _ => by simp [adL]
  | _ :: _, _ :: _, [], _, _, _, _, _, _ => by simp [adL]

/-- a number and its rest by the range have the same digits -/
theorem md_rest {r : List Int} (h : AllR r) (n : Int) : md (n % rp r) r = md n r := by
  rw [← mv_md h n, md_mv h (fit_md h n)]

/-! a row that fills up -/
theorem fill_stepM (o : List Int) (x : Int) {n : Nat} (h : o.length < n) : (o ++ List.replicate (n - o.length) 0).set o.length x = (o ++ [x]) ++ List.replicate (n - (o ++ [x]).length) 0 := by
  obtain ⟨m, hm⟩ : ∃ m, n - o.length = m + 1 := ⟨n - o.length - 1, by omega⟩
  rw [hm, List.set_append_right _ _ (Nat.le_refl _), show n - (o ++ [x]).length = m by simp; omega]
  simp [List.replicate_succ]
theorem fill_lenM (o : List Int) {n : Nat} (h : o.length ≤ n) : (o ++ List.replicate (n - o.length) 0).length = n := by simp; omega
theorem fill_getM (o : List Int) {n : Nat} (h : o.length < n) : (o ++ List.replicate (n - o.length) (0 : Int))[o.length]? = some 0 := by
  rw [List.getElem?_append_right (Nat.le_refl _), Nat.sub_self, List.getElem?_replicate, if_pos (by omega)]
theorem owns_setOffM {w : World} {base : Nat} {e : TypeId} {v : Value} {n : Nat} {xs : List Value} (h : w.ownsRow base e 1 v n xs) (p : Addr) (u : Value) (hp : v.ownBlock ≠ some p.block) : (w.setCell p u).ownsRow base e 1 v n xs := by
  obtain ⟨hl, h2⟩ := h
  refine ⟨hl, ?_⟩
  rcases h2 with h2 | ⟨g, cap, cur, hv, hg, hh, r⟩
  · exact .inl h2
  · refine .inr ⟨g, cap, cur, hv, hg, ?_, r⟩
    rw [Below.heap_setCell w p u g (fun e => hp (by subst hv; simp [Value.ownBlock, e]))]
    exact hh

set_option maxHeartbeats 1000000 in
theorem listWithin_any (v : Value) (l : List Int) (lo hi : Int) (w : World) (hr : RowAt w v (intsOf l)) (hl : l.length ≤ 1048577) :
    Calls Tryd.prog 55 #[v, .int .i64 lo, .int .i64 hi] w fun e w' => e = .returned (.bool (lwIn l lo hi)) ∧ w = w' := by
  have HC := Lib.hid (allIn_any v l lo hi w hr hl)
  obtain ⟨ad, cap, rfl, h1, h2, h3⟩ := hr.ints
  unfold maxLen at h2
  clear h3 hr
  by_cases g1 : 1 ≤ l.length
  · by_cases g2 : l.length ≤ 10
    · have HV := Lib.hid (show lwIn l lo hi = allIn l lo hi by simp [lwIn, g1, g2])
      obtain ⟨q, hq⟩ : ∃ q, q = allIn l lo hi := ⟨_, rfl⟩
      rw [← hq] at HC HV
      clear hq
      go_enter Tryd.func55, Tryd.ntmps55
      go_wp2_with (go_at_call 56; refine HC.out.mono ?_; rintro e w' ⟨rfl, rfl⟩)
      go_ret
      exact ⟨ret_bool HV.out.symm, rfl⟩
    · have HV := Lib.hid (show lwIn l lo hi = false by simp [lwIn, g2])
      go_enter Tryd.func55, Tryd.ntmps55
      go_wp2_with fail
      go_ret
      exact ⟨ret_bool HV.out.symm, rfl⟩
  · have HV := Lib.hid (show lwIn l lo hi = false by simp [lwIn, g1])
    go_enter Tryd.func55, Tryd.ntmps55
    go_wp2_with fail
    go_ret
    exact ⟨ret_bool HV.out.symm, rfl⟩

end Go.Proofs.YtleadjkndciniaaDoor
