/- Gray codes: the model's digits of mixed places. -/
import Derived.Test.YtleadjkndciniaaGrM
import Derived.Test.YtleadjkndciniaaLgCmp
import Derived.Test.YtleadjkndciniaaMxVal
import Derived.Test.YtleadjkndciniaaLgMul
import Derived.StillTailTactics
set_option linter.unusedVariables false
set_option linter.unusedSimpArgs false
set_option maxRecDepth 100000
namespace Go.Proofs.Ytleadjkndciniaa
open Go.ChangeShapes Go.WideShapes Go.ChangeAt Go.RowKit

theorem inR_of : ∀ {l r : List Int}, FitM l r → InR l r
  | [], [], _ => trivial
  | x :: l, y :: r, h => by
    have h0 := fitM_at h 0 (by simp) (by simp)
    simp at h0
    refine ⟨by omega, inR_of (fitM_of (by have := fitM_len h; simpa using this) (fun j h1 h2 => ?_))⟩
    have := fitM_at h (j + 1) (by simp; omega) (by simp; omega)
    simpa using this
  | [], _ :: _, h => by have := fitM_len h; simp at this
  | _ :: _, [], h => by have := fitM_len h; simp at this
theorem fit_of : ∀ {l r : List Int}, InR l r → FitM l r := fun {l r} h => fitM_of h.len (fun j h1 h2 => by
  have : ∀ (l r : List Int), InR l r → ∀ j (h1 : j < l.length) (h2 : j < r.length), 0 ≤ l[j] ∧ l[j] ≤ r[j] - 1 := by
    intro l
    induction l with
    | nil => intro r _ j h1; simp at h1
    | cons x l ih =>
      intro r h j h1 h2
      cases r with
      | nil => exact h.elim
      | cons y r =>
        cases j with
        | zero => have := h.1; simp; omega
        | succ j => simpa using ih r h.2 j (by simpa using h1) (by simpa using h2)
  exact this l r h j h1 h2)
theorem inR_drop : ∀ {l r : List Int} (k : Nat), InR l r → InR (l.drop k) (r.drop k)
  | l, r, 0, h => by simpa using h
  | [], [], k + 1, _ => trivial
  | _ :: l, _ :: r, k + 1, h => by simpa using inR_drop k h.2
  | [], _ :: _, _ + 1, h => h.elim
  | _ :: _, [], _ + 1, h => h.elim
theorem inR_sum : ∀ {l r : List Int}, InR l r → (∀ x ∈ r, x ≤ 60) → 0 ≤ l.sum ∧ l.sum ≤ 60 * l.length
  | [], [], _, _ => by simp
  | x :: l, y :: r, h, hr => by
    have h1 := inR_sum h.2 (fun z hz => hr z (by simp [hz]))
    have h2 := hr y (by simp)
    have h3 := h.1
    rw [List.sum_cons, List.length_cons]; omega
  | [], _ :: _, h, _ => h.elim
  | _ :: _, [], h, _ => h.elim
theorem drop_setG : ∀ (l : List Int) (k : Nat) (v : Int), k < l.length → (l.set k v).drop k = v :: l.drop (k + 1)
  | d :: l, 0, v, h => by simp
  | d :: l, k + 1, v, h => by simpa using drop_setG l k v (by simpa using h)
theorem take_setG (l : List Int) (k : Nat) (v : Int) : (l.set k v).take k = l.take k := by
  rw [List.take_set]; exact List.set_eq_of_length_le (by rw [List.length_take]; omega)
theorem gm_drop {d r : List Int} {j : Nat} (h1 : j < d.length) (h2 : j < r.length) : gmS (d.drop j) (r.drop j) = ((if (gmS (d.drop (j + 1)) (r.drop (j + 1))).2 % 2 = 1 then r[j] - 1 - d[j] else d[j]) :: (gmS (d.drop (j + 1)) (r.drop (j + 1))).1, (gmS (d.drop (j + 1)) (r.drop (j + 1))).2 + (if (gmS (d.drop (j + 1)) (r.drop (j + 1))).2 % 2 = 1 then r[j] - 1 - d[j] else d[j])) := by
  rw [List.drop_eq_getElem_cons h1, List.drop_eq_getElem_cons h2, gmS_cons]
theorem um_drop {d r : List Int} {j : Nat} (h1 : j < d.length) (h2 : j < r.length) : umS (d.drop j) (r.drop j) = ((if (umS (d.drop (j + 1)) (r.drop (j + 1))).2 % 2 = 1 then r[j] - 1 - d[j] else d[j]) :: (umS (d.drop (j + 1)) (r.drop (j + 1))).1, (umS (d.drop (j + 1)) (r.drop (j + 1))).2 + d[j]) := by
  rw [List.drop_eq_getElem_cons h1, List.drop_eq_getElem_cons h2, umS_cons]
theorem take_at {D d : List Int} {j : Nat} (h : D.take (j + 1) = d.take (j + 1)) (h1 : j < D.length) (h2 : j < d.length) : D[j] = d[j] ∧ D.take j = d.take j := by
  refine ⟨?_, ?_⟩
  · have e := congrArg (fun l : List Int => l[j]?) h
    simp only [List.getElem?_take, if_pos (Nat.lt_succ_self j), List.getElem?_eq_getElem h1, List.getElem?_eq_getElem h2, Option.some.injEq] at e
    exact e
  · have e := congrArg (List.take j) h
    rwa [List.take_take, List.take_take, Nat.min_eq_left (by omega)] at e

def rGrayDigits0 (n : Int) (r : List Int) : List Int := (gmS (rMixedDigits0 n r) r).1
def rFromGrayDigits0 (d r : List Int) : Int := if okM d r then mv (umS d r).1 r else -1
theorem owns_drewN_g {w : World} {base : Nat} {e : TypeId} {v : Value} {n : Nat} {xs : List Value} (h : w.ownsRow base e 1 v n xs) (q : Nat) : (w.drewN q).ownsRow base e 1 v n xs := h
theorem ints_set (l : List Int) (j : Nat) (v : Int) : (intsOf l).set j (Value.int .i64 v) = intsOf (l.set j v) := by simp [intsOf, List.map_set]

set_option maxHeartbeats 8000000 in
theorem specGrayDigits_any (n : Int) (vr : Value) (r : List Int) (w : World) (hn : in64 n) (hrr : RowAt w vr (intsOf r)) (hlr : r.length ≤ 1048576) (hir : ∀ n ∈ r, in64 n) :
    Calls Try.prog 14 #[.int .i64 n, vr] w fun e w' => ∃ v', e = .returned v' ∧ w'.ownsRow w.heap.size 3 1 v' (rGrayDigits0 n r).length (intsOf (rGrayDigits0 n r)) ∧ Below w.heap.size w w' := by
  have HM := Lib.hid (specMixedDigits_any n vr r w hn hrr hlr hir)
  have HRow := Lib.hid (fun W (hb : Below w.heap.size w W) => hrr.below hb)
  have E : rGrayDigits0 n r = (gmS (rMixedDigits0 n r) r).1 := rfl
  obtain ⟨a, cap, rfl, h1, h2, h3⟩ := hrr.ints
  cases h : (okR r && inB n 0 (rp r - 1))
  · have e0 : rMixedDigits0 n r = [] := by rw [rMixedDigits0, h]; rfl
    rw [e0] at HM E
    have e1 : rGrayDigits0 n r = [] := by rw [E]; cases r <;> rfl
    rw [e1]
    clear h e0 e1 E hrr h1 h2 h3 hir
    go_enter Try.func14, Try.ntmps14
    go_wp2_with fail
    refine HM.out.mono ?_
    rintro e w1 ⟨v1, rfl, hO, hB⟩
    obtain ⟨a1, c1, e1, _, _⟩ := owns_form hO
    subst e1
    rw [show ([] : List Int).length = 0 from rfl]
    clear hO
    go_wp2_with fail
    go_ret
    exact ⟨_, rfl, World.ownsRow_nil _ _ _ _, hB⟩
  · have e0 : rMixedDigits0 n r = md n r := by rw [rMixedDigits0, h]; rfl
    rw [e0] at HM E
    rw [Bool.and_eq_true] at h
    obtain ⟨o1, o2, o3, o4⟩ := okR_yes h.1
    obtain ⟨d, hd⟩ : ∃ d, d = md n r := ⟨_, rfl⟩
    have hfit : InR d r := by rw [hd]; exact inR_of (fit_md o3 n)
    have hdl : d.length = r.length := by rw [hd]; exact md_len r n
    rw [← hd] at HM E
    rw [E, gmS_len d r hdl]
    have HDR := Lib.hid (fun k => inR_drop k hfit)
    have HA := Lib.hid o3
    have HDL := Lib.hid hdl
    have HGD := Lib.hid (fun j (h1 : j < d.length) (h2 : j < r.length) => gm_drop h1 h2)
    have HSM := Lib.hid (fun k => show 0 ≤ (gmS (d.drop k) (r.drop k)).2 ∧ (gmS (d.drop k) (r.drop k)).2 ≤ 600 by
      have h1 := inR_sum (gmS_in (inR_drop k hfit)) (fun x hx => (o3 x (List.mem_of_mem_drop hx)).2)
      have h2 := (gmS_in (inR_drop k hfit)).len
      rw [← gmS_sum] at h1
      rw [List.length_drop] at h2
      omega)
    have HAT := Lib.hid (fun j (h1 : j < d.length) (h2 : j < r.length) => fitM_at (fit_of hfit) j h1 h2)
    obtain ⟨L, hL⟩ : ∃ L, L = d.length := ⟨_, rfl⟩
    rw [← hL] at HM ⊢
    have HL := Lib.hid hL
    have hL0 : 0 < L := by omega
    have hL9 : L ≤ 10 := by omega
    have hLz : ((L : Int) == 0) = false := by simp; omega
    clear h e0 E hrr h1 h2 h3 hir hd hfit hdl o1 o2 o3 o4 hL hlr
    go_enter Try.func14, Try.ntmps14
    go_wp2_with fail
    refine HM.out.mono ?_
    rintro e w1 ⟨v1, rfl, hO, hB⟩
    obtain ⟨a1, c1, e1, _, _⟩ := owns_form hO
    subst e1
    obtain ⟨g, c2, e2⟩ := owns_some hO (fun e => by injection e with _ e; omega)
    injection e2 with e2 _ e3
    subst e2 e3
    have HO := Lib.hid hO
    have HB := Lib.hid hB
    clear hO hB
    go_wp2_with fail
    go_loopw [6, 7] (fun s i wr => ∃ (k : Nat) (D : List Int), k ≤ L ∧ i = .int .i64 ((k : Int) - 1) ∧ s = .int .i64 (gmS (d.drop k) (r.drop k)).2 ∧ D.length = L ∧ D.take k = d.take k ∧ D.drop k = (gmS (d.drop k) (r.drop k)).1 ∧ wr.ownsRow w.heap.size 3 1 (.slice (some ⟨g, 0, none⟩) L c1) L (intsOf D) ∧ Below w.heap.size w wr) (fun _ i _ => (intOf i + 1).toNat)
    case atStart =>
      refine ⟨L, d, Nat.le_refl _, rfl, ?_, HL.out.symm, rfl, ?_, HO.out, HB.out⟩
      · rw [HL.out, List.drop_length]; rfl
      · rw [HL.out, List.drop_length]; rfl
    case round =>
      obtain ⟨k, D, hk, rfl, rfl, hDl, hDt, hDd, hown, hBr⟩ := hrel
      cases k with
      | zero =>
        have HE := Lib.hid (show ∃ v', Ending.returned (.slice (some ⟨g, 0, none⟩) L c1) = .returned v' ∧ wr.ownsRow w.heap.size 3 1 v' L (intsOf (gmS d r).1) ∧ Below w.heap.size w wr from by
          rw [List.drop_zero, List.drop_zero, List.drop_zero] at hDd
          rw [← hDd]
          exact ⟨_, rfl, hown, hBr⟩)
        clear hDl hDt hDd hown hBr
        go_wp2_with fail
        go_ret
        exact HE.out
      | succ j =>
        have hjL : j < L := by omega
        have hjd : j < d.length := by have := HL.out; omega
        have hjr : j < r.length := by have := HDL.out; omega
        have hjD : j < D.length := by omega
        obtain ⟨e1, e2⟩ := take_at hDt hjD hjd
        have hgd := HGD.out j hjd hjr
        have hsm := HSM.out (j + 1)
        have hsj := HSM.out j
        have hat := HAT.out j hjd hjr
        have hra := HA.out _ (List.getElem_mem hjr)
        obtain ⟨a3, cap3, e3, _, _, q3⟩ := (HRow.out _ hBr).ints
        injection e3 with e3 e5 e4
        clear e5
        subst e3 e4
        obtain ⟨b', off, rfl, hbb, hcell⟩ := q3.resolve_left (fun e => by rw [e] at hjr; simp at hjr)
        have hcr := hcell j hjr
        have hcd : wr.cell? ⟨g, j, none⟩ = some (.int .i64 d[j]) := by
          have h1 := hown.cellAt j (by omega)
          rw [intsOf_get hjD, e1] at h1
          simpa using h1
        have hfd : wr.frozen? ⟨g, j, none⟩ = false := by have := hown.frozenAt j; simpa using this
        have hgb := (hown.lt g (by simp [Value.ownBlock])).1
        obtain ⟨x, hx⟩ : ∃ x, x = d[j] := ⟨_, rfl⟩
        obtain ⟨y, hy⟩ : ∃ y, y = r[j] := ⟨_, rfl⟩
        obtain ⟨S, hS⟩ : ∃ S, S = (gmS (d.drop (j + 1)) (r.drop (j + 1))).2 := ⟨_, rfl⟩
        obtain ⟨T, hT⟩ : ∃ T, T = (gmS (d.drop (j + 1)) (r.drop (j + 1))).1 := ⟨_, rfl⟩
        rw [← hx] at hcd hat hgd
        rw [← hy] at hcr hat hgd hra
        rw [← hS] at hgd hsm ⊢
        rw [← hT] at hgd hDd
        have hsr : S.tmod 2 = S % 2 := Int.tmod_eq_emod_of_nonneg hsm.1
        have hji : (j : Int) < L := by omega
        have hjri : (j : Int) < r.length := by omega
        rw [hgd] at hsj
        have hs1 := hsm.1
        have hs2 := hsm.2
        have hy1 := hra.1
        have hy2 := hra.2
        have hx1 := hat.1
        have hx2 := hat.2
        have hjn : ((j + 1 : Nat) : Int) - 1 = (j : Int) := by omega
        rw [hjn]
        have hLR := Lib.hid hjr
        by_cases hodd : S % 2 = 1
        · rw [if_pos hodd] at hgd hsj
          have hN1 : (D.set j (y - 1 - x)).drop j = (gmS (d.drop j) (r.drop j)).1 := by rw [drop_setG _ _ _ hjD, hDd, hgd]
          have hN2 : (D.set j (y - 1 - x)).take j = d.take j := by rw [take_setG, e2]
          have hst := ((owns_drewN_g hown 1).stored j (.int .i64 (y - 1 - x))).1
          rw [ints_set] at hst
          have HST := Lib.hid hst
          have HN1 := Lib.hid hN1; have HN2 := Lib.hid hN2
          have HNL := Lib.hid (show (D.set j (y - 1 - x)).length = L by rw [List.length_set]; exact hDl)
          have HS2 := Lib.hid (show S + (y - 1 - x) = (gmS (d.drop j) (r.drop j)).2 by rw [hgd])
          have HBR := Lib.hid hBr
          have w1 : IntKind.i64.wrap (y - 1) = y - 1 := by rw [IntKind.wrap_i64]; omega
          have w2 : IntKind.i64.wrap (y - 1 - x) = y - 1 - x := by rw [IntKind.wrap_i64]; omega
          rw [hodd] at hsr
          clear hgd hsj hN1 hN2 hst hown hBr hDl hDt hDd e1 e2 hx hy hS hT hat hra hsm hcell q3 hodd hjd hjr hjD
          go_wp2_with fail
          refine wp_region_still_tail 13 (by kernel_rfl) (by kernel_rfl) ?_
          simp only [List.take_succ_cons, List.take_zero, List.drop_succ_cons, List.drop_zero]
          change wpStill _ _ (World.drewN wr 1) _ _ _
          repeat still_step
          refine wpStill_nil ?_
          change wpList _ _ _ _ _ (wr.drewN 1)
          go_wp2_with fail
          go_roundw
          case rel => exact ⟨j, _, by omega, by go_num, by rw [← HS2.out], HNL.out, HN2.out, HN1.out, HST.out, (below_drewN HBR.out 1).setCell (p := ⟨g, j, none⟩) hgb _⟩
          case measure => simp [intOf]
        · rw [if_neg hodd] at hgd hsj
          have hev : S % 2 = 0 := by omega
          have hN1 : D.drop j = (gmS (d.drop j) (r.drop j)).1 := by rw [List.drop_eq_getElem_cons hjD, hDd, hgd, e1, hx]
          have HN1 := Lib.hid hN1; have HN2 := Lib.hid e2
          have HNL := Lib.hid hDl
          have HS2 := Lib.hid (show S + x = (gmS (d.drop j) (r.drop j)).2 by rw [hgd])
          have HBR := Lib.hid hBr
          have HOW := Lib.hid hown
          rw [hev] at hsr
          clear hgd hsj hN1 hown hBr hDl hDt hDd e1 e2 hx hy hS hT hat hra hsm hcell q3 hodd hjd hjr hjD hev
          go_wp2_with fail
          go_roundw
          case rel => exact ⟨j, D, by omega, by go_num, by rw [← HS2.out], HNL.out, HN2.out, HN1.out, HOW.out, HBR.out⟩
          case measure => simp [intOf]

end Go.Proofs.Ytleadjkndciniaa
