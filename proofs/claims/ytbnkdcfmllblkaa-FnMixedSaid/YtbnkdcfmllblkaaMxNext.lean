/- Mixed places: the model's sums and carries as they are called, and the next digits. -/
import Derived.Test.YtbnkdcfmllblkaaMxVal
import Derived.Test.YtbnkdcfmllblkaaMxAdd
import Derived.Test.YtbnkdcfmllblkaaLgMul
import Derived.Test.YtbnkdcfmllblkaaLgDiv
set_option linter.unusedVariables false
set_option linter.unusedSimpArgs false
namespace Go.Proofs.Ytbnkdcfmllblkaa
open Go.ChangeShapes Go.WideShapes Go.ChangeAt Go.RowKit

theorem specTwo7_any (va : Value) (a : List Int) (vc : Value) (c : List Int) (vr : Value) (r : List Int) (w : World) (hra : RowAt w va (intsOf a)) (hl : a.length ≤ 1048576) (hia : ∀ n ∈ a, in64 n) (hrc : RowAt w vc (intsOf c)) (hl' : c.length ≤ 1048576) (hic : ∀ n ∈ c, in64 n) (hrr : RowAt w vr (intsOf r)) (hlr : r.length ≤ 1048576) (hir : ∀ n ∈ r, in64 n) :
    Calls Try.prog 50 #[va, vc, vr] w fun e w' => e = .returned (.bool (okM a r && okM c r)) ∧ w = w' := by
  have H1 := Lib.hid (specMx_eq va a vr r w hra hl hia hrr hlr hir)
  have H2 := Lib.hid (specMx_eq vc c vr r w hrc hl' hic hrr hlr hir)
  clear hra hrc hrr hia hic hir
  cases h : okM a r
  · rw [h] at H1
    clear h
    go_enter Try.func50, Try.ntmps50
    go_wp2_with fail
    refine H1.out.mono ?_
    rintro e w' ⟨rfl, rfl⟩
    go_wp2_with fail
    go_ret
    exact ⟨rfl, rfl⟩
  · rw [h] at H1
    clear h
    go_enter Try.func50, Try.ntmps50
    go_wp2_with fail
    refine H1.out.mono ?_
    rintro e w' ⟨rfl, rfl⟩
    go_wp2_with fail
    refine H2.out.mono ?_
    rintro e w' ⟨rfl, rfl⟩
    go_wp2_with fail
    go_ret
    exact ⟨rfl, rfl⟩

set_option maxHeartbeats 1000000 in
theorem specMixedAdd_any (va : Value) (a : List Int) (vc : Value) (c : List Int) (vr : Value) (r : List Int) (w : World) (hra : RowAt w va (intsOf a)) (hl : a.length ≤ 1048576) (hia : ∀ n ∈ a, in64 n) (hrc : RowAt w vc (intsOf c)) (hl' : c.length ≤ 1048576) (hic : ∀ n ∈ c, in64 n) (hrr : RowAt w vr (intsOf r)) (hlr : r.length ≤ 1048576) (hir : ∀ n ∈ r, in64 n) :
    Calls Try.prog 36 #[va, vc, vr] w fun e w' => ∃ v, e = .returned (.tuple #[v, .int .i64 (rMixedAdd1 a c r)]) ∧ w'.ownsRow w.heap.size 3 1 v (rMixedAdd0 a c r).length (intsOf (rMixedAdd0 a c r)) ∧ Below w.heap.size w w' := by
  have H1 := Lib.hid (specTwo7_any va a vc c vr r w hra hl hia hrc hl' hic hrr hlr hir)
  have H2 := Lib.hid (fun h1 h2 => specAdd7_any va a vc c vr r w hra hrc hrr h1 h2)
  clear hra hrc hrr hia hic hir
  cases h : (okM a r && okM c r)
  · rw [h] at H1
    have E1 := Lib.hid (show rMixedAdd1 a c r = -1 by rw [rMixedAdd1, h]; rfl)
    have E0 := Lib.hid (show rMixedAdd0 a c r = [] by rw [rMixedAdd0, h]; rfl)
    clear h
    go_enter Try.func36, Try.ntmps36
    go_wp2_with fail
    refine H1.out.mono ?_
    rintro e w' ⟨rfl, rfl⟩
    go_wp2_with fail
    go_ret2
    exact ⟨_, by rw [E1.out]; rfl, by rw [E0.out]; exact World.ownsRow_nil _ _ _ _, Below.refl _ _⟩
  · rw [h] at H1
    have E1 := Lib.hid (show rMixedAdd1 a c r = adC 0 a c r by rw [rMixedAdd1, h]; rfl)
    have E0 := Lib.hid (show rMixedAdd0 a c r = adD 0 a c r by rw [rMixedAdd0, h]; rfl)
    have h' := h
    simp only [Bool.and_eq_true] at h'
    have HA := Lib.hid (H2.out h'.1 h'.2)
    clear h h'
    go_enter Try.func36, Try.ntmps36
    go_wp2_with fail
    refine H1.out.mono ?_
    rintro e w' ⟨rfl, rfl⟩
    go_wp2_with fail
    refine HA.out.mono ?_
    rintro e w1 ⟨v, rfl, ho, hB⟩
    have HO := Lib.hid ho
    obtain ⟨av, cv, e2, _, _⟩ := owns_form ho
    subst e2
    clear ho
    go_wp2_with fail
    go_ret2
    exact ⟨_, by rw [E1.out]; rfl, by rw [E0.out]; exact HO.out, hB⟩

set_option maxHeartbeats 1000000 in
theorem specMixedCarries_any (va : Value) (a : List Int) (vc : Value) (c : List Int) (vr : Value) (r : List Int) (w : World) (hra : RowAt w va (intsOf a)) (hl : a.length ≤ 1048576) (hia : ∀ n ∈ a, in64 n) (hrc : RowAt w vc (intsOf c)) (hl' : c.length ≤ 1048576) (hic : ∀ n ∈ c, in64 n) (hrr : RowAt w vr (intsOf r)) (hlr : r.length ≤ 1048576) (hir : ∀ n ∈ r, in64 n) :
    Calls Try.prog 38 #[va, vc, vr] w fun e w' => e = .returned (.int .i64 (rMixedCarries0 a c r)) ∧ Below w.heap.size w w' := by
  have H1 := Lib.hid (specTwo7_any va a vc c vr r w hra hl hia hrc hl' hic hrr hlr hir)
  have H2 := Lib.hid (fun h1 h2 => specAdd7_any va a vc c vr r w hra hrc hrr h1 h2)
  clear hra hrc hrr hia hic hir
  cases h : (okM a r && okM c r)
  · rw [h] at H1
    have E1 := Lib.hid (show rMixedCarries0 a c r = -1 by rw [rMixedCarries0, h]; rfl)
    clear h
    go_enter Try.func38, Try.ntmps38
    go_wp2_with fail
    refine H1.out.mono ?_
    rintro e w' ⟨rfl, rfl⟩
    go_wp2_with fail
    go_ret
    exact ⟨by rw [E1.out]; rfl, Below.refl _ _⟩
  · rw [h] at H1
    have E1 := Lib.hid (show rMixedCarries0 a c r = adN 0 a c r by rw [rMixedCarries0, h]; rfl)
    have h' := h
    simp only [Bool.and_eq_true] at h'
    have HA := Lib.hid (H2.out h'.1 h'.2)
    clear h h'
    go_enter Try.func38, Try.ntmps38
    go_wp2_with fail
    refine H1.out.mono ?_
    rintro e w' ⟨rfl, rfl⟩
    go_wp2_with fail
    refine HA.out.mono ?_
    rintro e w1 ⟨v, rfl, ho, hB⟩
    obtain ⟨av, cv, e2, _, _⟩ := owns_form ho
    subst e2
    clear ho
    go_wp2_with fail
    go_ret
    exact ⟨by rw [E1.out]; rfl, hB⟩

/-- the next digits, place by place -/
def nx : List Int → List Int → List Int
  | d :: l, x :: r => if d < x - 1 then (d + 1) :: l else 0 :: nx l r
  | _, _ => []
theorem nx_md : ∀ {l r : List Int}, AllR r → FitM l r → md (mv l r + 1) r = nx l r
  | [], [], _, _ => rfl
  | d :: l, x :: r, hA, h => by
    have h1 := hA x (by simp)
    have hd := h.1
    rw [mv, nx]
    split
    · rename_i hlt
      have e1 : (d + x * mv l r + 1) % x = d + 1 := by rw [show d + x * mv l r + 1 = (d + 1) + x * mv l r by omega, Int.add_mul_emod_self_left]; exact Int.emod_eq_of_lt (by omega) (by omega)
      have e2 : (d + x * mv l r + 1) / x = mv l r := by rw [show d + x * mv l r + 1 = (d + 1) + x * mv l r by omega, Int.add_mul_ediv_left _ _ (by omega), Int.ediv_eq_zero_of_lt (by omega) (by omega), Int.zero_add]
      rw [md, e1, e2, md_mv (allR_tail hA) h.2]
    · have e0 : d + x * mv l r + 1 = 0 + x * (mv l r + 1) := by rw [Int.mul_add, Int.mul_one]; omega
      have e1 : (d + x * mv l r + 1) % x = 0 := by rw [e0, Int.add_mul_emod_self_left]; rfl
      have e2 : (d + x * mv l r + 1) / x = mv l r + 1 := by rw [e0, Int.add_mul_ediv_left _ _ (by omega)]; simp
      rw [md, e1, e2, nx_md (allR_tail hA) h.2]
  | [], x :: r, _, h => h.elim
  | d :: l, [], _, h => h.elim
theorem nx_at : ∀ {l r : List Int} {k : Nat} (h1 : k < l.length) (h2 : k < r.length), (∀ j (a1 : j < l.length) (a2 : j < r.length), j < k → l[j] = r[j] - 1) → l[k] < r[k] - 1 → nx l r = List.replicate k 0 ++ (l[k] + 1) :: l.drop (k + 1)
  | d :: l, x :: r, 0, _, _, _, hlt => by
    have : d < x - 1 := by simpa using hlt
    rw [nx, if_pos this]; simp
  | d :: l, x :: r, k + 1, h1, h2, hm, hlt => by
    have h0 := hm 0 (by simp) (by simp) (by omega)
    have : ¬ d < x - 1 := by
      have e : d = x - 1 := by simpa using h0
      omega
    rw [nx, if_neg this, nx_at (k := k) (by simpa using h1) (by simpa using h2) (fun j a1 a2 hj => by have := hm (j + 1) (by simpa using a1) (by simpa using a2) (by omega); simpa using this) (by simpa using hlt)]
    simp [List.replicate_succ]
theorem nx_all : ∀ {l r : List Int}, l.length = r.length → (∀ j (a1 : j < l.length) (a2 : j < r.length), l[j] = r[j] - 1) → nx l r = List.replicate l.length 0
  | [], [], _, _ => rfl
  | d :: l, x :: r, h, hm => by
    have h0 := hm 0 (by simp) (by simp)
    have : ¬ d < x - 1 := by
      have e : d = x - 1 := by simpa using h0
      omega
    rw [nx, if_neg this, nx_all (by simpa using h) (fun j a1 a2 => by have := hm (j + 1) (by simpa using a1) (by simpa using a2); simpa using this)]
    simp [List.replicate_succ]
  | [], x :: r, h, _ => by simp at h
  | d :: l, [], h, _ => by simp at h
theorem zset {l : List Int} {k : Nat} (h : k < l.length) (y : Int) : (List.replicate k 0 ++ l.drop k).set k y = List.replicate k 0 ++ y :: l.drop (k + 1) := by
  rw [List.set_append_right _ _ (by simp), List.length_replicate, Nat.sub_self, List.drop_eq_getElem_cons h]; rfl
theorem zrep (l : List Int) (k : Nat) : List.replicate k (0 : Int) ++ 0 :: l.drop (k + 1) = List.replicate (k + 1) 0 ++ l.drop (k + 1) := by
  rw [List.replicate_succ', List.append_assoc]; rfl
theorem zget {l : List Int} {k : Nat} (h : k < l.length) : (List.replicate k (0 : Int) ++ l.drop k)[k]'(by simp; omega) = l[k] := by
  rw [List.getElem_append_right (by simp)]; simp
def rNextMixed0 (l r : List Int) : List Int := if okM l r then md (mv l r + 1) r else []
theorem rNextMixed0_len (l r : List Int) : (rNextMixed0 l r).length ≤ 1048577 := by
  unfold rNextMixed0; split
  · rename_i h
    have := okR_yes (okM_yes h).1
    rw [md_len]; omega
  · simp

set_option maxHeartbeats 4000000 in
theorem specNextMixed_any (va : Value) (l : List Int) (vr : Value) (r : List Int) (w : World) (hra : RowAt w va (intsOf l)) (hl : l.length ≤ 1048576) (hia : ∀ n ∈ l, in64 n) (hrr : RowAt w vr (intsOf r)) (hlr : r.length ≤ 1048576) (hir : ∀ n ∈ r, in64 n) :
    Calls Try.prog 37 #[va, vr] w fun e w' => ∃ v, e = .returned v ∧ w'.ownsRow w.heap.size 3 1 v (rNextMixed0 l r).length (intsOf (rNextMixed0 l r)) ∧ Below w.heap.size w w' := by
  have H1 := Lib.hid (specMx_eq va l vr r w hra hl hia hrr hlr hir)
  obtain ⟨i0, hi, hz0, hz1, hz2⟩ := info_parts infoInt
  obtain ⟨aa, cap, rfl, h1, h2, h3⟩ := hra.ints
  obtain ⟨ar, capr, rfl, h1', h2', h3'⟩ := hrr.ints
  unfold maxLen at h2 h2'
  clear hra hrr hia hir
  cases h : okM l r
  · rw [h] at H1
    have E0 := Lib.hid (show rNextMixed0 l r = [] by rw [rNextMixed0, h]; rfl)
    clear h h3 h3'
    go_enter Try.func37, Try.ntmps37
    go_wp2_with fail
    refine H1.out.mono ?_
    rintro e w' ⟨rfl, rfl⟩
    go_wp2_with fail
    go_ret
    exact ⟨_, rfl, by rw [E0.out]; exact World.ownsRow_nil _ _ _ _, Below.refl _ _⟩
  · rw [h] at H1
    obtain ⟨hR, hF⟩ := okM_yes h
    obtain ⟨o1, o2, o3, o4⟩ := okR_yes hR
    have hle := fitM_len hF
    have E0 := Lib.hid (show rNextMixed0 l r = nx l r by rw [rNextMixed0, h, if_pos rfl, nx_md o3 hF])
    have HFT := Lib.hid (fitM_at hF)
    have HALL := Lib.hid o3
    have HLE := Lib.hid hle
    have hl1 : 1 ≤ l.length := by omega
    have hl10 : l.length ≤ 10 := by omega
    obtain ⟨b', off, rfl, hbb, hcell⟩ := h3.resolve_left (fun e => by rw [e] at hl1; simp at hl1)
    have hlit := World.ownsRow_lit (base := w.heap.size) (e := 3) (size := 1) w #[] 0 (Nat.le_refl _) (by decide) rfl
    have HCL := Lib.hid (show ∀ (i : Nat) (u : Value), (intsOf l)[i]? = some u → (w.alloc (.cells #[] 3)).cell? ((⟨b', off, none⟩ : Addr).add i) = some u from fun i u hu => by
      have hil : i < l.length := by
        have := (List.getElem?_eq_some_iff.1 hu).1
        simpa [intsOf] using this
      rw [add_addrD, ((Below.refl _ w).alloc (Nat.le_refl _) (.cells #[] 3)).cell (p := ⟨b', off + i, none⟩) hbb, hcell i hil]
      rw [intsOf_get hil] at hu
      exact hu)
    clear h hR hF o3 o4 hcell hle
    go_enter Try.func37, Try.ntmps37
    go_wp2_with fail
    refine H1.out.mono ?_
    rintro e w' ⟨rfl, rfl⟩
    go_wp2_with (at_builtin; refine wpList_append_own _ rfl _ _ 23 rfl w.heap.size 3 i0 (.int .i64 0) 1 8 Try.underlying23 hi hz0 hz1 hz2 rfl (by decide) _ _ _ rfl hlit ⟨b', off, none⟩ l.length cap (intsOf l) rfl ?e0 ?e1 ?e2 ?e3 ?e4 ?e5 ?_)
    case e0 => simp [intsOf]
    case e1 => exact HCL.out
    case e2 => exact intsOf_one _
    case e3 => unfold maxLen; omega
    case e4 => omega
    case e5 => first | omega | (simp; done) | (simp; omega)
    intro v' w1 hown' hgrow _
    have hB1 : Below w.heap.size w w1 := ((Below.refl w.heap.size w).alloc (Nat.le_refl _) (.cells #[] 3)).grown hgrow (by simp) (fun k hk => by simp [Value.ownBlock] at hk; omega)
    have ho := (show w1.ownsRow w.heap.size 3 1 v' l.length (intsOf l) by simpa [intsOf] using hown')
    obtain ⟨g, capv, rfl⟩ := owns_some ho (fun e => by
      obtain ⟨_, _, e2, _, _⟩ := owns_form ho
      rw [e] at e2; injection e2 with _ e3 _; omega)
    have hg0 := (ho.lt g rfl).1
    have HO := Lib.hid ho
    clear hown' hgrow ho hlit HCL
    go_wp2_with fail
    go_loopw [17] (fun i wr => ∃ k : Nat, k ≤ r.length ∧ i = .int .i64 k ∧ (∀ j (a1 : j < l.length) (a2 : j < r.length), j < k → l[j] = r[j] - 1) ∧ wr.ownsRow w.heap.size 3 1 (.slice (some ⟨g, 0, none⟩) l.length capv) l.length (intsOf (List.replicate k 0 ++ l.drop k)) ∧ Below w.heap.size w wr) (fun i _ => r.length - (intOf i).toNat)
    case atStart => exact ⟨0, Nat.zero_le _, rfl, fun j a1 a2 h => by omega, by simpa using HO.out, hB1⟩
    case round =>
      obtain ⟨k, hk, rfl, hmax, hown, hB⟩ := hrel
      have HM := Lib.hid hmax
      clear hmax hB1 HO
      by_cases hlt : k < r.length
      · have hkl : k < l.length := by have := HLE.out; omega
        obtain ⟨b2, off2, rfl, hbb2, hcell2⟩ := h3'.resolve_left (fun e => by rw [e] at hlt; simp at hlt)
        have hc2 : wr.cell? ⟨b2, off2 + k, none⟩ = some (.int .i64 r[k]) := by rw [hB.cell (p := ⟨b2, off2 + k, none⟩) hbb2]; exact hcell2 k hlt
        obtain ⟨x2, x60⟩ := HALL.out _ (List.getElem_mem hlt)
        obtain ⟨d0, d1⟩ := HFT.out k hkl hlt
        have hPl : k < (List.replicate k (0 : Int) ++ l.drop k).length := by simp; omega
        have hcp : wr.cell? ⟨g, k, none⟩ = some (.int .i64 l[k]) := by
          rw [hown.cellAt k (by omega), intsOf_get hPl, zget hkl]
        have hfp : wr.frozen? ⟨g, k, none⟩ = false := hown.frozenAt k
        have HNA := Lib.hid (nx_at hkl hlt)
        have hs1 := (hown.stored k (.int .i64 (l[k] + 1))).1
        have hs0 := (hown.stored k (.int .i64 0)).1
        rw [intsOf_set, zset hkl] at hs1 hs0
        rw [zrep] at hs0
        obtain ⟨d, hd⟩ : ∃ d, d = l[k] := ⟨_, rfl⟩
        obtain ⟨x, hx⟩ : ∃ x, x = r[k] := ⟨_, rfl⟩
        rw [← hd] at hcp d0 d1 HNA hs1
        rw [← hx] at hc2 x2 x60 d1 HNA
        have HD := Lib.hid hd; have HX := Lib.hid hx
        have HS1 := Lib.hid hs1; have HS0 := Lib.hid hs0
        have hkI : (k : Int) < l.length := by omega
        clear h3' hcell2 hd hx hs1 hs0 hown hPl
        by_cases hdx : d < x - 1
        · have HV := Lib.hid (HNA.out HM.out hdx)
          have HOF := Lib.hid (show (wr.setCell ⟨g, k, none⟩ (.int .i64 (d + 1))).ownsRow w.heap.size 3 1 (.slice (some ⟨g, 0, none⟩) l.length capv) (rNextMixed0 l r).length (intsOf (rNextMixed0 l r)) by
            rw [E0.out, HV.out]
            have : (List.replicate k (0 : Int) ++ (d + 1) :: l.drop (k + 1)).length = l.length := by simp; omega
            rw [this]; exact HS1.out)
          clear HS1 HS0 HV HNA
          go_wp2_with fail
          go_ret
          exact ⟨_, rfl, HOF.out, hB.setCell (p := ⟨g, k, none⟩) hg0 _⟩
        · have HDX := Lib.hid (show d = x - 1 by omega)
          clear HS1 HNA
          go_wp2_with fail
          go_roundw
          case rel =>
            refine ⟨k + 1, hlt, by go_num, fun j a1 a2 hj => ?_, HS0.out, hB.setCell (p := ⟨g, k, none⟩) hg0 _⟩
            by_cases e : j = k
            · subst e; rw [← HD.out, ← HX.out]; exact HDX.out
            · exact HM.out j a1 a2 (by omega)
          case measure => simp [intOf]; omega
      · have hkl : k = r.length := by omega
        have HV := Lib.hid (nx_all HLE.out (fun j a1 a2 => HM.out j a1 a2 (by omega)))
        have HOF := Lib.hid (show wr.ownsRow w.heap.size 3 1 (.slice (some ⟨g, 0, none⟩) l.length capv) (rNextMixed0 l r).length (intsOf (rNextMixed0 l r)) by
          rw [E0.out, HV.out, List.length_replicate]
          rw [hkl, List.drop_of_length_le (by have := HLE.out; omega), List.append_nil, ← HLE.out] at hown
          exact hown)
        clear h3' hown
        go_wp2_with fail
        go_ret
        exact ⟨_, rfl, HOF.out, hB⟩

end Go.Proofs.Ytbnkdcfmllblkaa
