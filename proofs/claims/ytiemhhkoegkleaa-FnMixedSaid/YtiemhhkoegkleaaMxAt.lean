/- Mixed places: what the program's functions answer at radices and at digits that fit them. -/
import Derived.Test.YtiemhhkoegkleaaLawFns
import Derived.Test.YtiemhhkoegkleaaMxI4
import Derived.Test.YtiemhhkoegkleaaMxI5
import Derived.Deep.RegionHeld3
set_option linter.unusedVariables false
set_option linter.unusedSimpArgs false
set_option maxRecDepth 100000
namespace Go.Proofs.Ytiemhhkoegkleaa
open Go.ChangeShapes Go.WideShapes Go.ChangeAt Go.RowKit

theorem in64_R {r : List Int} (h : AllR r) : ∀ n ∈ r, in64 n := fun n hn => by have := h n hn; exact ⟨by omega, by omega⟩
theorem in64_fit {l r : List Int} (hA : AllR r) (h : FitM l r) : ∀ n ∈ l, in64 n := fun n hn => by
  obtain ⟨j, hj, rfl⟩ := List.getElem_of_mem hn
  have hjr : j < r.length := by rw [← fitM_len h]; exact hj
  have h1 := fitM_at h j hj hjr
  have h2 := hA _ (List.getElem_mem hjr)
  exact ⟨by omega, by omega⟩
theorem gotN_mk {L : List Int} {w0 w w' : World} {v : Value} {base : Nat} (hO : w'.ownsRow base 3 1 v L.length (intsOf L)) (hB : Below w.heap.size w w') : GotN L w (.returned v) w' := by
  obtain ⟨a, cap, rfl, h1, h2⟩ := owns_form hO
  exact ⟨a, cap, rfl, RowAt.of_owns hO, h1, h2, hB⟩

theorem mxRangeAt {v : Value} {r : List Int} {w : World} (ok : okR r = true) (hr : RowAt w v (intsOf r)) :
    Calls Try.prog 32 #[v] w fun e w' => e = .returned (.int .i64 (rp r)) ∧ Below w.heap.size w w' := by
  obtain ⟨o1, o2, o3, o4⟩ := okR_yes ok
  have := implRangeOf_any v r w hr (by omega) (in64_R o3)
  rwa [show rRangeOf0 r = rp r by rw [rRangeOf0, ok]; rfl] at this
theorem mxRadAt {v : Value} {r : List Int} {w : World} (ok : okR r = true) (hr : RowAt w v (intsOf r)) :
    Calls Try.prog 34 #[v] w fun e w' => e = .returned (.bool true) ∧ Below w.heap.size w w' := by
  obtain ⟨o1, o2, o3, o4⟩ := okR_yes ok
  have := implRadicesOk_any v r w hr (by omega) (in64_R o3)
  rwa [show rRadicesOk0 r = true from ok] at this
theorem mxPlacesAt {v : Value} {r : List Int} {w : World} (ok : okR r = true) (hr : RowAt w v (intsOf r)) :
    Calls Try.prog 33 #[v] w (GotN (plF 1 r) w) := by
  obtain ⟨o1, o2, o3, o4⟩ := okR_yes ok
  refine (implPlacesOf_any v r w hr (by omega) (in64_R o3)).mono ?_
  rintro e w' ⟨v', rfl, hO, hB⟩
  rw [show rPlacesOf0 r = plF 1 r by rw [rPlacesOf0, ok]; rfl] at hO
  have hR := RowAt.of_ownAt hO
  obtain ⟨a, cap, rfl, h1, h2, _⟩ := hR.ints
  exact ⟨a, cap, rfl, hR, h1, h2, hB⟩
theorem mxDigitsAt {v : Value} {r : List Int} {n : Int} {w : World} (ok : okR r = true) (hr : RowAt w v (intsOf r)) (h0 : 0 ≤ n) (h1 : n < rp r) :
    Calls Try.prog 35 #[.int .i64 n, v] w (GotN (md n r) w) := by
  obtain ⟨o1, o2, o3, o4⟩ := okR_yes ok
  refine (implMixedDigits_any n v r w ⟨by omega, by omega⟩ hr (by omega) (in64_R o3)).mono ?_
  rintro e w' ⟨v', rfl, hO, hB⟩
  rw [show rMixedDigits0 n r = md n r by rw [rMixedDigits0, ok, show inB n 0 (rp r - 1) = true by simp [inB]; omega]; rfl] at hO
  exact gotN_mk (w0 := w) hO hB
theorem mxOkAt {va vr : Value} {l r : List Int} {w : World} (ok : okR r = true) (hf : FitM l r) (ha : RowAt w va (intsOf l)) (hr : RowAt w vr (intsOf r)) :
    Calls Try.prog 37 #[va, vr] w fun e w' => e = .returned (.bool true) ∧ Below w.heap.size w w' := by
  obtain ⟨o1, o2, o3, o4⟩ := okR_yes ok
  have := implMixedOk_any va l vr r w ha (by rw [fitM_len hf]; omega) (in64_fit o3 hf) hr (by omega) (in64_R o3)
  rwa [show rMixedOk0 l r = true from okM_mk ok hf] at this
theorem mxValueAt {va vr : Value} {l r : List Int} {w : World} (ok : okR r = true) (hf : FitM l r) (ha : RowAt w va (intsOf l)) (hr : RowAt w vr (intsOf r)) :
    Calls Try.prog 38 #[va, vr] w fun e w' => e = .returned (.int .i64 (mv l r)) ∧ Below w.heap.size w w' := by
  obtain ⟨o1, o2, o3, o4⟩ := okR_yes ok
  have := implMixedValue_any va l vr r w ha (by rw [fitM_len hf]; omega) (in64_fit o3 hf) hr (by omega) (in64_R o3)
  rwa [show rMixedValue0 l r = mv l r by rw [rMixedValue0, okM_mk ok hf]; rfl] at this
theorem mxAddAt {va vc vr : Value} {a c r : List Int} {w : World} (ok : okR r = true) (hf : FitM a r) (hg : FitM c r) (ha : RowAt w va (intsOf a)) (hc : RowAt w vc (intsOf c)) (hr : RowAt w vr (intsOf r)) :
    Calls Try.prog 36 #[va, vc, vr] w fun e w' => ∃ x cap, e = .returned (.tuple #[.slice x (adD 0 a c r).length cap, .int .i64 (adC 0 a c r)]) ∧ RowAt w' (.slice x (adD 0 a c r).length cap) (intsOf (adD 0 a c r)) ∧ (adD 0 a c r).length ≤ cap ∧ cap ≤ maxLen ∧ Below w.heap.size w w' := by
  obtain ⟨o1, o2, o3, o4⟩ := okR_yes ok
  refine (implMixedAdd_any va a vc c vr r w ha (by rw [fitM_len hf]; omega) (in64_fit o3 hf) hc (by rw [fitM_len hg]; omega) (in64_fit o3 hg) hr (by omega) (in64_R o3)).mono ?_
  rintro e w' ⟨v', rfl, hO, hB⟩
  have hoo : (okM a r && okM c r) = true := by rw [okM_mk ok hf, okM_mk ok hg]; rfl
  rw [show rMixedAdd0 a c r = adD 0 a c r by rw [rMixedAdd0, hoo]; rfl] at hO
  rw [show rMixedAdd1 a c r = adC 0 a c r by rw [rMixedAdd1, hoo]; rfl]
  obtain ⟨x, cap, rfl, h1, h2⟩ := owns_form hO
  exact ⟨x, cap, rfl, RowAt.of_owns hO, h1, h2, hB⟩
theorem mxNextAt {va vr : Value} {l r : List Int} {w : World} (ok : okR r = true) (hf : FitM l r) (ha : RowAt w va (intsOf l)) (hr : RowAt w vr (intsOf r)) :
    Calls Try.prog 39 #[va, vr] w (GotN (md (mv l r + 1) r) w) := by
  obtain ⟨o1, o2, o3, o4⟩ := okR_yes ok
  refine (implNextMixed_any va l vr r w ha (by rw [fitM_len hf]; omega) (in64_fit o3 hf) hr (by omega) (in64_R o3)).mono ?_
  rintro e w' ⟨v', rfl, hO, hB⟩
  rw [show rNextMixed0 l r = md (mv l r + 1) r by rw [rNextMixed0, okM_mk ok hf]; rfl] at hO
  exact gotN_mk (w0 := w) hO hB
theorem mxCarriesAt {va vc vr : Value} {a c r : List Int} {w : World} (ok : okR r = true) (hf : FitM a r) (hg : FitM c r) (ha : RowAt w va (intsOf a)) (hc : RowAt w vc (intsOf c)) (hr : RowAt w vr (intsOf r)) :
    Calls Try.prog 40 #[va, vc, vr] w fun e w' => e = .returned (.int .i64 (adN 0 a c r)) ∧ Below w.heap.size w w' := by
  obtain ⟨o1, o2, o3, o4⟩ := okR_yes ok
  have := implMixedCarries_any va a vc c vr r w ha (by rw [fitM_len hf]; omega) (in64_fit o3 hf) hc (by rw [fitM_len hg]; omega) (in64_fit o3 hg) hr (by omega) (in64_R o3)
  rwa [show rMixedCarries0 a c r = adN 0 a c r by rw [rMixedCarries0, okM_mk ok hf, okM_mk ok hg]; rfl] at this

/-- three equal radices -/
theorem row3 (w : World) (b : Int) : RowAt (w.alloc (.cells #[.int .i64 b, .int .i64 b, .int .i64 b] 3)) (.slice (some ⟨w.heap.size, 0, none⟩) 3 3) (intsOf [b, b, b]) := by
  refine ⟨_, 3, rfl, Nat.le_refl _, by unfold maxLen; simp, .inr ⟨_, 0, rfl, by simp, fun i hi => ?_⟩⟩
  rw [Nat.zero_add, cell_of_row _ _ _ _ _ _ (heap_alloc_new _ _)]
  have : i = 0 ∨ i = 1 ∨ i = 2 := by simp [intsOf] at hi; omega
  rcases this with rfl | rfl | rfl <;> rfl
theorem cube_le {b : Int} (h2 : 2 ≤ b) (h16 : b ≤ 16) : 4 ≤ b * b ∧ b * b ≤ 256 ∧ 8 ≤ b * b * b ∧ b * b * b ≤ 4096 := by
  have e1 : b * b ≤ 16 * 16 := Int.mul_le_mul h16 h16 (by omega) (by omega)
  have e2 : 2 * 2 ≤ b * b := Int.mul_le_mul h2 h2 (by omega) (by omega)
  have e3 : b * b * b ≤ 256 * 16 := Int.mul_le_mul e1 h16 (by omega) (by omega)
  have e4 : 4 * 2 ≤ b * b * b := Int.mul_le_mul (by omega) h2 (by omega) (by omega)
  omega
theorem rp3 (b : Int) : rp [b, b, b] = b * b * b := by simp [rp, Int.mul_assoc]
theorem okR3 {b : Int} (h2 : 2 ≤ b) (h16 : b ≤ 16) : okR [b, b, b] = true := by
  refine okR_mk (by simp) (by simp) (fun x hx => ?_) (by rw [rp3]; have := cube_le h2 h16; omega)
  have : x = b := by simpa using hx
  omega
/-- digits of a number below the range -/
theorem fit_n {r : List Int} (h : AllR r) (n : Int) : FitM (md n r) r := fit_md h n
theorem sum_fit : ∀ {l r : List Int}, AllR r → FitM l r → r.length ≤ 10 → 0 ≤ l.sum ∧ l.sum ≤ 59 * l.length
  | [], [], _, _, _ => by simp
  | d :: l, x :: r, hA, h, hl => by
    have h1 := hA x (by simp)
    have h2 := sum_fit (allR_tail hA) h.2 (by simp at hl; omega)
    have h3 := h.1
    simp only [List.sum_cons, List.length_cons]; omega
  | [], _ :: _, _, h, _ => h.elim
  | _ :: _, [], _, h, _ => h.elim
/-- what the sum of a list is, wherever nothing that was there has turned -/
structure SumIs (w : World) (v : Value) (s : Int) : Prop where
  run : ∀ X, Below w.heap.size w X → Calls Try.prog 41 #[v] X fun e w' => e = .returned (.int .i64 s) ∧ X = w'
theorem sumIs_calls {w X : World} {v : Value} {s : Int} (h : SumIs w v s) (hX : Below w.heap.size w X) : Calls Try.prog 41 #[v] X fun e w' => e = .returned (.int .i64 s) ∧ X = w' := h.run X hX
theorem keepB {w W w1 : World} (hs : Below w.heap.size w W) (hb : Below W.heap.size W w1) : Below w.heap.size w w1 := hs.trans (hb.mono hs.size)

end Go.Proofs.Ytiemhhkoegkleaa
