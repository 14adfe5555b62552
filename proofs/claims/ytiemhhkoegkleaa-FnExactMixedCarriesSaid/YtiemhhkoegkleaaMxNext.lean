/- Mixed places: the model's sums and carries as they are called, and the next digits. -/
import Derived.Test.YtiemhhkoegkleaaMxVal
import Derived.Test.YtiemhhkoegkleaaMxAdd
import Derived.Deep.LoopGhost
set_option linter.unusedVariables false
set_option linter.unusedSimpArgs false
set_option maxRecDepth 100000
namespace Go.Proofs.Ytiemhhkoegkleaa
open Go.ChangeShapes Go.WideShapes Go.ChangeAt Go.RowKit

theorem specTwo7_any (va : Value) (a : List Int) (vc : Value) (c : List Int) (vr : Value) (r : List Int) (w : World) (hra : RowAt w va (intsOf a)) (hl : a.length ≤ 1048576) (hia : ∀ n ∈ a, in64 n) (hrc : RowAt w vc (intsOf c)) (hl' : c.length ≤ 1048576) (hic : ∀ n ∈ c, in64 n) (hrr : RowAt w vr (intsOf r)) (hlr : r.length ≤ 1048576) (hir : ∀ n ∈ r, in64 n) :
    Calls Try.prog 77 #[va, vc, vr] w fun e w' => e = .returned (.bool (okM a r && okM c r)) ∧ w = w' := by
  have H1 := Lib.hid (specMx_eq va a vr r w hra hl hia hrr hlr hir)
  have H2 := Lib.hid (specMx_eq vc c vr r w hrc hl' hic hrr hlr hir)
  clear hra hrc hrr hia hic hir
  cases h : okM a r
  · rw [h] at H1
    clear h
    go_enter Try.func77, Try.ntmps77
    go_wp2_with fail
    refine H1.out.mono ?_
    rintro e w' ⟨rfl, rfl⟩
    go_wp2_with fail
    go_ret
    exact ⟨rfl, rfl⟩
  · rw [h] at H1
    clear h
    go_enter Try.func77, Try.ntmps77
    go_wp2_with fail
    refine H1.out.mono ?_
    rintro e w' ⟨rfl, rfl⟩
    go_wp2_with fail
    refine H2.out.mono ?_
    rintro e w' ⟨rfl, rfl⟩
    go_wp2_with fail
    go_ret
    exact ⟨rfl, rfl⟩

set_option maxHeartbeats 1000000 in
theorem specMixedCarries_any (va : Value) (a : List Int) (vc : Value) (c : List Int) (vr : Value) (r : List Int) (w : World) (hra : RowAt w va (intsOf a)) (hl : a.length ≤ 1048576) (hia : ∀ n ∈ a, in64 n) (hrc : RowAt w vc (intsOf c)) (hl' : c.length ≤ 1048576) (hic : ∀ n ∈ c, in64 n) (hrr : RowAt w vr (intsOf r)) (hlr : r.length ≤ 1048576) (hir : ∀ n ∈ r, in64 n) :
    Calls Try.prog 43 #[va, vc, vr] w fun e w' => e = .returned (.int .i64 (rMixedCarries0 a c r)) ∧ Below w.heap.size w w' := by
  have H1 := Lib.hid (specTwo7_any va a vc c vr r w hra hl hia hrc hl' hic hrr hlr hir)
  have H2 := Lib.hid (fun h1 h2 => specAdd7_any va a vc c vr r w hra hrc hrr h1 h2)
  clear hra hrc hrr hia hic hir
  cases h : (okM a r && okM c r)
  · rw [h] at H1
    have E1 := Lib.hid (show rMixedCarries0 a c r = -1 by rw [rMixedCarries0, h]; rfl)
    clear h
    go_enter Try.func43, Try.ntmps43
    go_wp2_with fail
    refine H1.out.mono ?_
    rintro e w' ⟨rfl, rfl⟩
    go_wp2_with fail
    go_ret
    exact ⟨by rw [E1.out]; rfl, Below.refl _ _⟩
  · rw [h] at H1
    have E1 := Lib.hid (show rMixedCarries0 a c r = adN 0 a c r by rw [rMixedCarries0, h]; rfl)
    have h' := h
    simp only [Bool.and_eq_true] at h'
    have HA := Lib.hid (H2.out h'.1 h'.2)
    clear h h'
    go_enter Try.func43, Try.ntmps43
    go_wp2_with fail
    refine H1.out.mono ?_
    rintro e w' ⟨rfl, rfl⟩
    go_wp2_with fail
    refine HA.out.mono ?_
    rintro e w1 ⟨v, rfl, ho, hB⟩
    obtain ⟨av, cv, e2, _, _⟩ := owns_form ho
    subst e2
    clear ho
    go_wp2_with fail
    go_ret
    exact ⟨by rw [E1.out]; rfl, hB⟩

/-- the next digits, place by place -/
def nx : List Int → List Int → List Int
  | d :: l, x :: r => if d < x - 1 then (d + 1) :: l else 0 :: nx l r
  | _, _ => []
theorem nx_md : ∀ {l r : List Int}, AllR r → FitM l r → md (mv l r + 1) r = nx l r
  | [], [], _, _ => rfl
  | d :: l, x :: r, hA, h => by
    have h1 := hA x (by simp)
    have hd := h.1
    rw [mv, nx]
    split
    · rename_i hlt
      have e1 : (d + x * mv l r + 1) % x = d + 1 := by rw [show d + x * mv l r + 1 = (d + 1) + x * mv l r by omega, Int.add_mul_emod_self_left]; exact Int.emod_eq_of_lt (by omega) (by omega)
      have e2 : (d + x * mv l r + 1) / x = mv l r := by rw [show d + x * mv l r + 1 = (d + 1) + x * mv l r by omega, Int.add_mul_ediv_left _ _ (by omega), Int.ediv_eq_zero_of_lt (by omega) (by omega), Int.zero_add]
      rw [md, e1, e2, md_mv (allR_tail hA) h.2]
    · have e0 : d + x * mv l r + 1 = 0 + x * (mv l r + 1) := by rw [Int.mul_add, Int.mul_one]; omega
      have e1 : (d + x * mv l r + 1) % x = 0 := by rw [e0, Int.add_mul_emod_self_left]; rfl
      have e2 : (d + x * mv l r + 1) / x = mv l r + 1 := by rw [e0, Int.add_mul_ediv_left _ _ (by omega)]; simp
      rw [md, e1, e2, nx_md (allR_tail hA) h.2]
  | [], x :: r, _, h => h.elim
  | d :: l, [], _, h => h.elim
theorem nx_at : ∀ {l r : List Int} {k : Nat} (h1 : k < l.length) (h2 : k < r.length), (∀ j (a1 : j < l.length) (a2 : j < r.length), j < k → l[j] = r[j] - 1) → l[k] < r[k] - 1 → nx l r = List.replicate k 0 ++ (l[k] + 1) :: l.drop (k + 1)
  | d :: l, x :: r, 0, _, _, _, hlt => by
    have : d < x - 1 := by simpa using hlt
    rw [nx, if_pos this]; simp
  | d :: l, x :: r, k + 1, h1, h2, hm, hlt => by
    have h0 := hm 0 (by simp) (by simp) (by omega)
    have : ¬ d < x - 1 := by
      have e : d = x - 1 := by simpa using h0
      omega
    rw [nx, if_neg this, nx_at (k := k) (by simpa using h1) (by simpa using h2) (fun j a1 a2 hj => by have := hm (j + 1) (by simpa using a1) (by simpa using a2) (by omega); simpa using this) (by simpa using hlt)]
    simp [List.replicate_succ]
theorem nx_all : ∀ {l r : List Int}, l.length = r.length → (∀ j (a1 : j < l.length) (a2 : j < r.length), l[j] = r[j] - 1) → nx l r = List.replicate l.length 0
  | [], [], _, _ => rfl
  | d :: l, x :: r, h, hm => by
    have h0 := hm 0 (by simp) (by simp)
    have : ¬ d < x - 1 := by
      have e : d = x - 1 := by simpa using h0
      omega
    rw [nx, if_neg this, nx_all (by simpa using h) (fun j a1 a2 => by have := hm (j + 1) (by simpa using a1) (by simpa using a2); simpa using this)]
    simp [List.replicate_succ]
  | [], x :: r, h, _ => by simp at h
  | d :: l, [], h, _ => by simp at h
theorem zset {l : List Int} {k : Nat} (h : k < l.length) (y : Int) : (List.replicate k 0 ++ l.drop k).set k y = List.replicate k 0 ++ y :: l.drop (k + 1) := by
  rw [List.set_append_right _ _ (by simp), List.length_replicate, Nat.sub_self, List.drop_eq_getElem_cons h]; rfl
theorem zrep (l : List Int) (k : Nat) : List.replicate k (0 : Int) ++ 0 :: l.drop (k + 1) = List.replicate (k + 1) 0 ++ l.drop (k + 1) := by
  rw [List.replicate_succ', List.append_assoc]; rfl
theorem zget {l : List Int} {k : Nat} (h : k < l.length) : (List.replicate k (0 : Int) ++ l.drop k)[k]'(by simp; omega) = l[k] := by
  rw [List.getElem_append_right (by simp)]; simp
def rNextMixed0 (l r : List Int) : List Int := if okM l r then md (mv l r + 1) r else []
theorem rNextMixed0_len (l r : List Int) : (rNextMixed0 l r).length ≤ 1048577 := by
  unfold rNextMixed0; split
  · rename_i h
    have := okR_yes (okM_yes h).1
    rw [md_len]; omega
  · simp

end Go.Proofs.Ytiemhhkoegkleaa
