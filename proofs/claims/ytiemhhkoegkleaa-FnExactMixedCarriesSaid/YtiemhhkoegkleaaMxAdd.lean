/- Mixed places: the model's sums, carries and the next digits. -/
import Derived.Test.YtiemhhkoegkleaaInts
import Derived.Test.YtiemhhkoegkleaaLgSpec
import Derived.Test.YtiemhhkoegkleaaLgCmp
import Derived.Test.YtiemhhkoegkleaaMxSpec
import Derived.OwnWalk
set_option linter.unusedVariables false
set_option linter.unusedSimpArgs false
set_option maxRecDepth 100000
namespace Go.Proofs.Ytiemhhkoegkleaa
open Go.ChangeShapes Go.WideShapes Go.ChangeAt Go.RowKit

theorem adD_len : ∀ (l m r : List Int) (cy : Int), l.length = r.length → m.length = r.length → (adD cy l m r).length = r.length
  | [], [], [], cy, _, _ => rfl
  | a :: l, c :: m, x :: r, cy, h1, h2 => by rw [adD, List.length_cons, List.length_cons, adD_len l m r _ (by simpa using h1) (by simpa using h2)]
  | a :: l, _, [], _, h, _ => by simp at h
  | [], _, x :: r, _, h, _ => by simp at h
  | a :: l, [], x :: r, _, _, h => by simp at h
  | [], c :: m, [], _, _, h => by simp at h
theorem ad_snoc : ∀ (l m r : List Int) (cy a c x : Int), l.length = r.length → m.length = r.length →
    adD cy (l ++ [a]) (m ++ [c]) (r ++ [x]) = adD cy l m r ++ [(a + c + adC cy l m r) % x] ∧ adC cy (l ++ [a]) (m ++ [c]) (r ++ [x]) = (a + c + adC cy l m r) / x ∧ adN cy (l ++ [a]) (m ++ [c]) (r ++ [x]) = adN cy l m r + (a + c + adC cy l m r) / x
  | [], [], [], cy, a, c, x, _, _ => by simp [adD, adC, adN]
  | a' :: l, c' :: m, x' :: r, cy, a, c, x, h1, h2 => by
    obtain ⟨i1, i2, i3⟩ := ad_snoc l m r ((a' + c' + cy) / x') a c x (by simpa using h1) (by simpa using h2)
    refine ⟨?_, ?_, ?_⟩
    · rw [List.cons_append, List.cons_append, List.cons_append, adD, i1, adD, adC]; rfl
    · rw [List.cons_append, List.cons_append, List.cons_append, adC, i2, adC]
    · rw [List.cons_append, List.cons_append, List.cons_append, adN, i3, adN, adC]; omega
  | a :: l, _, [], _, _, _, _, h, _ => by simp at h
  | [], _, x :: r, _, _, _, _, h, _ => by simp at h
  | a :: l, [], x :: r, _, _, _, _, _, h => by simp at h
  | [], c :: m, [], _, _, _, _, _, h => by simp at h
theorem fitM_take : ∀ {l r : List Int}, FitM l r → ∀ k, FitM (l.take k) (r.take k)
  | _, _, _, 0 => by simp [FitM]
  | [], [], _, k + 1 => by simp [FitM]
  | d :: l, x :: r, h, k + 1 => by simpa [FitM] using ⟨h.1, fitM_take h.2 k⟩
  | [], x :: r, h, _ + 1 => h.elim
  | d :: l, [], h, _ + 1 => h.elim
theorem ad_step {l m r : List Int} {k : Nat} (h1 : k < l.length) (h2 : k < m.length) (h3 : k < r.length) :
    adD 0 (l.take (k + 1)) (m.take (k + 1)) (r.take (k + 1)) = adD 0 (l.take k) (m.take k) (r.take k) ++ [(l[k] + m[k] + adC 0 (l.take k) (m.take k) (r.take k)) % r[k]] ∧
    adC 0 (l.take (k + 1)) (m.take (k + 1)) (r.take (k + 1)) = (l[k] + m[k] + adC 0 (l.take k) (m.take k) (r.take k)) / r[k] ∧
    adN 0 (l.take (k + 1)) (m.take (k + 1)) (r.take (k + 1)) = adN 0 (l.take k) (m.take k) (r.take k) + (l[k] + m[k] + adC 0 (l.take k) (m.take k) (r.take k)) / r[k] := by
  rw [List.take_succ_eq_append_getElem h1, List.take_succ_eq_append_getElem h2, List.take_succ_eq_append_getElem h3]
  exact ad_snoc _ _ _ 0 _ _ _ (by simp; omega) (by simp; omega)
theorem adN_le : ∀ {l m r : List Int} (cy : Int), 0 ≤ cy → cy ≤ 1 → AllR r → FitM l r → FitM m r → adN cy l m r ≤ r.length
  | [], [], [], cy, _, _, _, _, _ => by simp [adN]
  | a :: l, c :: m, x :: r, cy, h0, h1, hA, hl, hm => by
    have hx := hA x (by simp)
    obtain ⟨k1, k2, k3⟩ := ad_carry h0 h1 hl.1 hm.1 hx.1
    have := adN_le ((a + c + cy) / x) k1 k2 (allR_tail hA) hl.2 hm.2
    rw [adN, List.length_cons]; omega
  | [], [], x :: r, _, _, _, _, h, _ => h.elim
  | [], c :: m, [], _, _, _, _, _, h => h.elim
  | [], c :: m, x :: r, _, _, _, _, h, _ => h.elim
  | a :: l, [], [], _, _, _, _, h, _ => h.elim
  | a :: l, [], x :: r, _, _, _, _, _, h => h.elim
  | a :: l, c :: m, [], _, _, _, _, h, _ => h.elim

def rMixedAdd0 (a c r : List Int) : List Int := if okM a r && okM c r then adD 0 a c r else []
def rMixedAdd1 (a c r : List Int) : Int := if okM a r && okM c r then adC 0 a c r else -1
def rMixedCarries0 (a c r : List Int) : Int := if okM a r && okM c r then adN 0 a c r else -1
theorem rMixedAdd0_len (a c r : List Int) : (rMixedAdd0 a c r).length ≤ 1048577 := by
  unfold rMixedAdd0; split
  · rename_i h
    simp only [Bool.and_eq_true] at h
    obtain ⟨h1, h2⟩ := okM_yes h.1
    obtain ⟨_, h3⟩ := okM_yes h.2
    have := okR_yes h1
    rw [adD_len _ _ _ _ (fitM_len h2) (fitM_len h3)]; omega
  · simp

set_option maxHeartbeats 4000000 in
theorem specAdd7_any (va : Value) (a : List Int) (vc : Value) (c : List Int) (vr : Value) (r : List Int) (w : World) (hra : RowAt w va (intsOf a)) (hrc : RowAt w vc (intsOf c)) (hrr : RowAt w vr (intsOf r)) (hoa : okM a r = true) (hoc : okM c r = true) :
    Calls Try.prog 78 #[va, vc, vr] w fun e w' => ∃ v, e = .returned (.tuple #[v, .int .i64 (adC 0 a c r), .int .i64 (adN 0 a c r)]) ∧ w'.ownsRow w.heap.size 3 1 v (adD 0 a c r).length (intsOf (adD 0 a c r)) ∧ Below w.heap.size w w' := by
  obtain ⟨i0, hi, hz0, hz1, hz2⟩ := info_parts infoInt
  obtain ⟨aa, capa, rfl, h1, h2, h3⟩ := hra.ints
  obtain ⟨ac, capc, rfl, h1', h2', h3'⟩ := hrc.ints
  obtain ⟨ar, capr, rfl, h1'', h2'', h3''⟩ := hrr.ints
  unfold maxLen at h2 h2' h2''
  obtain ⟨hR, hFa⟩ := okM_yes hoa
  obtain ⟨_, hFc⟩ := okM_yes hoc
  obtain ⟨o1, o2, o3, o4⟩ := okR_yes hR
  have HLA := Lib.hid (fitM_len hFa)
  have HLC := Lib.hid (fitM_len hFc)
  have HALL := Lib.hid o3
  have HFA := Lib.hid (fitM_at hFa)
  have HFC := Lib.hid (fitM_at hFc)
  have HCY := Lib.hid (fun k => And.intro (ad_val (l := a.take k) (m := c.take k) (r := r.take k) 0 (by omega) (by omega) (allR_take o3 k) (fitM_take hFa k) (fitM_take hFc k)) (adN_le (l := a.take k) (m := c.take k) (r := r.take k) 0 (by omega) (by omega) (allR_take o3 k) (fitM_take hFa k) (fitM_take hFc k)))
  clear hra hrc hrr hoa hoc hR hFa hFc o3 o4
  go_enter Try.func78, Try.ntmps78
  go_wp2
  go_loopw [9, 10, 11, 18] (fun v cy n i wr => ∃ k : Nat, k ≤ r.length ∧ i = .int .i64 k ∧ cy = .int .i64 (adC 0 (a.take k) (c.take k) (r.take k)) ∧ n = .int .i64 (adN 0 (a.take k) (c.take k) (r.take k)) ∧ wr.ownsRow w.heap.size 3 1 v k (intsOf (adD 0 (a.take k) (c.take k) (r.take k))) ∧ Below w.heap.size w wr) (fun _ _ _ i _ => r.length - (intOf i).toNat)
  case atStart => exact ⟨0, Nat.zero_le _, rfl, rfl, rfl, World.ownsRow_lit w #[] 0 (Nat.le_refl _) (by decide) rfl, (Below.refl _ _).alloc (Nat.le_refl _) _⟩
  case round =>
    obtain ⟨k, hk, rfl, rfl, rfl, hown, hB⟩ := hrel
    have hsz := hB.size
    obtain ⟨⟨_, _, cy0, cy1, _, n0⟩, n1⟩ := HCY.out k
    rw [List.length_take] at n1
    by_cases hlt : k < r.length
    · have hla : k < a.length := by have := HLA.out; omega
      have hlc : k < c.length := by have := HLC.out; omega
      obtain ⟨b1, off1, rfl, hbb1, hcell1⟩ := h3.resolve_left (fun e => by rw [e] at hla; simp at hla)
      obtain ⟨b2, off2, rfl, hbb2, hcell2⟩ := h3'.resolve_left (fun e => by rw [e] at hlc; simp at hlc)
      obtain ⟨b3, off3, rfl, hbb3, hcell3⟩ := h3''.resolve_left (fun e => by rw [e] at hlt; simp at hlt)
      have hc1 : wr.cell? ⟨b1, off1 + k, none⟩ = some (.int .i64 a[k]) := by rw [hB.cell (p := ⟨b1, off1 + k, none⟩) hbb1]; exact hcell1 k hla
      have hc2 : wr.cell? ⟨b2, off2 + k, none⟩ = some (.int .i64 c[k]) := by rw [hB.cell (p := ⟨b2, off2 + k, none⟩) hbb2]; exact hcell2 k hlc
      have hc3 : wr.cell? ⟨b3, off3 + k, none⟩ = some (.int .i64 r[k]) := by rw [hB.cell (p := ⟨b3, off3 + k, none⟩) hbb3]; exact hcell3 k hlt
      obtain ⟨x2, x60⟩ := HALL.out _ (List.getElem_mem hlt)
      obtain ⟨p0, p1⟩ := HFA.out k hla hlt
      obtain ⟨q0, q1⟩ := HFC.out k hlc hlt
      obtain ⟨e1, e2, e3⟩ := ad_step hla hlc hlt
      have hac := ad_carry cy0 cy1 ⟨p0, p1⟩ ⟨q0, q1⟩ x2
      obtain ⟨D, hD⟩ : ∃ D, D = adD 0 (a.take k) (c.take k) (r.take k) := ⟨_, rfl⟩
      obtain ⟨cy, hcy⟩ : ∃ cy, cy = adC 0 (a.take k) (c.take k) (r.take k) := ⟨_, rfl⟩
      obtain ⟨n, hn⟩ : ∃ n, n = adN 0 (a.take k) (c.take k) (r.take k) := ⟨_, rfl⟩
      obtain ⟨p, hp⟩ : ∃ p, p = a[k] := ⟨_, rfl⟩
      obtain ⟨q, hq⟩ : ∃ q, q = c[k] := ⟨_, rfl⟩
      obtain ⟨x, hx⟩ : ∃ x, x = r[k] := ⟨_, rfl⟩
      rw [← hD, ← hcy, ← hp, ← hq, ← hx] at e1
      rw [← hcy, ← hp, ← hq, ← hx] at e2
      rw [← hcy, ← hp, ← hq, ← hx, ← hn] at e3
      rw [← hcy, ← hp, ← hq, ← hx] at hac
      rw [← hcy] at cy0 cy1 ⊢
      rw [← hn] at n0 n1 ⊢
      rw [← hD] at hown
      rw [← hp] at hc1 p0 p1
      rw [← hq] at hc2 q0 q1
      rw [← hx] at hc3 x2 x60 p1 q1
      have p59 : p ≤ 59 := by omega
      have q59 : q ≤ 59 := by omega
      have n10 : n ≤ 10 := by omega
      obtain ⟨k1, k2, k3⟩ := hac
      have ht1 : (p + q + cy).tdiv x = (p + q + cy) / x := Int.tdiv_eq_ediv_of_nonneg k3
      have ht2 : (p + q + cy).tmod x = (p + q + cy) % x := Int.tmod_eq_emod_of_nonneg k3
      have g0 : 0 ≤ (p + q + cy) % x := Int.emod_nonneg _ (by omega)
      have g1 : (p + q + cy) % x < x := Int.emod_lt_of_pos _ (by omega)
      have E1 := Lib.hid e1; have E2 := Lib.hid e2; have E3 := Lib.hid e3
      have hka : (k : Int) < a.length := by omega
      have hkc : (k : Int) < c.length := by omega
      have HC3 := Lib.hid hc3
      have hxn : (x == 0) = false := by simp; omega
      clear h3 h3' h3'' hcell1 hcell2 hcell3 e1 e2 e3 hD hcy hn hp hq hx p1 q1 n1
      go_wp2_with fail
      go_quiet (fail)
      have hBd := below_drewN hB nq
      have hownd : (wr.drewN nq).ownsRow w.heap.size 3 1 _ k (intsOf D) := hown
      go_wp2_with (at_builtin; refine wpList_append_own_at _ rfl _ _ 24 rfl w.heap.size 3 i0 (.int .i64 0) 1 8 Try.underlying24 hi hz0 hz1 hz2 rfl (by decide) _ _ _ rfl (hownd.alloc _) ⟨(wr.drewN nq).heap.size, 0, none⟩ 1 1 [.int .i64 ((p + q + cy) % x)] rfl rfl (one_cell _ _ _) (by intro u hu; simp at hu; subst hu; rfl) (by unfold maxLen; omega) (by omega) (by simp; omega) ?_)
      intro v' w1 hown' hgrow _ _
      have hB1 := (hBd.alloc hsz _).grown hgrow (by simp; omega) (fun j hj => (hownd.lt j hj).1)
      have HO := Lib.hid (show w1.ownsRow w.heap.size 3 1 v' (k + 1) (intsOf (D ++ [(p + q + cy) % x])) by simpa [intsOf] using hown')
      clear hown' hgrow hown hownd
      go_wp2_with fail
      go_roundw
      case rel => exact ⟨k + 1, hlt, by go_num, by rw [E2.out], by rw [E3.out], by rw [E1.out]; exact HO.out, hB1⟩
      case measure => simp [intOf]; omega
    · have hkl : k = r.length := by omega
      subst hkl
      have ea : a.take r.length = a := by rw [← HLA.out, List.take_length]
      have ec : c.take r.length = c := by rw [← HLC.out, List.take_length]
      rw [ea, ec, List.take_length] at hown
      have HO := Lib.hid (show wr.ownsRow w.heap.size 3 1 _ (adD 0 a c r).length (intsOf (adD 0 a c r)) by rw [adD_len _ _ _ _ HLA.out HLC.out]; exact hown)
      have HCA := Lib.hid (show adC 0 (a.take r.length) (c.take r.length) (r.take r.length) = adC 0 a c r by rw [ea, ec, List.take_length])
      have HNA := Lib.hid (show adN 0 (a.take r.length) (c.take r.length) (r.take r.length) = adN 0 a c r by rw [ea, ec, List.take_length])
      obtain ⟨av, cv, e3, _, _⟩ := owns_form hown
      subst e3
      clear h3 h3' h3'' hown ea ec
      go_wp2_with fail
      go_ret3
      exact ⟨_, by rw [← HCA.out, ← HNA.out]; rfl, HO.out, hB⟩

end Go.Proofs.Ytiemhhkoegkleaa
