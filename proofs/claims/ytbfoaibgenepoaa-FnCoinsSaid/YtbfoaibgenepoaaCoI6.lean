/- Places of coins, the program: lists copied and compared; the functions that make the least digits. -/
import Derived.Test.YtbfoaibgenepoaaLgMul
import Derived.Test.YtbfoaibgenepoaaLgDiv
import Derived.Test.YtbfoaibgenepoaaLgL
import Derived.Test.YtbfoaibgenepoaaRfB
import Derived.Test.YtbfoaibgenepoaaCoW
import Derived.Test.YtbfoaibgenepoaaCoCnt
import Derived.Test.YtbfoaibgenepoaaCoSum
import Derived.Lib.SliceRun
import Derived.Sort.LoopGhostIn
import Derived.Sort.QuietIn
set_option linter.unusedVariables false
set_option linter.unusedSimpArgs false
set_option maxRecDepth 100000
namespace Go.Proofs.Ytbfoaibgenepoaa
open Go.ChangeShapes Go.WideShapes Go.ChangeAt Go.RowKit

theorem add_addrC (b off j : Nat) : (⟨b, off, none⟩ : Addr).add j = ⟨b, off + j, none⟩ := by
  unfold Addr.add; split <;> simp_all

set_option maxHeartbeats 2000000 in
theorem cloneC_any (v : Value) (l : List Int) (w : World) (hr : RowAt w v (intsOf l)) (hl : l.length ≤ 100000) :
    Calls Try.prog 48 #[v] w fun e w' => ∃ v', e = .returned v' ∧ w'.ownsRow w.heap.size 3 1 v' l.length (intsOf l) ∧ Below w.heap.size w w' := by
  obtain ⟨a, cap, rfl, h1, h2, h3⟩ := hr.ints
  unfold maxLen at h2
  obtain ⟨i0, hi, hz0, hz1, hz2⟩ := info_parts infoInt
  cases a with
  | none =>
    have hnil : l = [] := h3.resolve_right (fun ⟨_, _, e, _⟩ => by cases e)
    subst hnil
    have q1 := Lib.run_eql_slice_nil (P := Try.prog) w 23 3 none 0 cap 0 0 Try.underlying23
    clear h3 hr
    go_enter Try.func48, Try.ntmps48
    go_wp2_with fail
    go_ret
    exact ⟨_, rfl, World.ownsRow_nil _ _ _ _, Below.refl _ _⟩
  | some x =>
    have hlit := World.ownsRow_lit (base := w.heap.size) (e := 3) (size := 1) w #[] 0 (Nat.le_refl _) (by decide) rfl
    have HCL := Lib.hid (show ∀ (i : Nat) (u : Value), (intsOf l)[i]? = some u → (w.alloc (.cells #[] 3)).cell? (x.add i) = some u from fun i u hu => by
      have hil : i < l.length := by
        have := (List.getElem?_eq_some_iff.1 hu).1
        simpa [intsOf] using this
      obtain ⟨b, off, e, hb, hcell⟩ := h3.resolve_left (fun e => by rw [e] at hil; simp at hil)
      injection e with e
      subst e
      rw [add_addrC, ((Below.refl _ w).alloc (Nat.le_refl _) (.cells #[] 3)).cell (p := ⟨b, off + i, none⟩) hb, hcell i hil]
      rw [intsOf_get hil] at hu
      exact hu)
    have q1 := Lib.run_eql_slice_nil (P := Try.prog) w 23 3 (some x) l.length cap 0 0 Try.underlying23
    clear h3 hr
    go_enter Try.func48, Try.ntmps48
    go_wp2_with (at_builtin; refine wpList_append_own _ rfl _ _ 23 rfl w.heap.size 3 i0 (.int .i64 0) 1 8 Try.underlying23 hi hz0 hz1 hz2 rfl (by decide) _ _ _ rfl hlit x l.length cap (intsOf l) rfl ?e0 ?e1 ?e2 ?e3 ?e4 ?e5 ?_)
    case e0 => simp [intsOf]
    case e1 => exact HCL.out
    case e2 => exact intsOf_one _
    case e3 => unfold maxLen; omega
    case e4 => omega
    intro v' w1 hown' hgrow _
    have hB1 : Below w.heap.size w w1 := ((Below.refl w.heap.size w).alloc (Nat.le_refl _) (.cells #[] 3)).grown hgrow (by simp) (fun k hk => by simp [Value.ownBlock] at hk; omega)
    have HO := Lib.hid (show w1.ownsRow w.heap.size 3 1 v' l.length (intsOf l) by simpa [intsOf] using hown')
    clear hown' hgrow
    go_wp2_with fail
    go_ret
    exact ⟨_, rfl, HO.out, hB1⟩


theorem lxC_drop {a c : List Int} {k : Nat} (ha : k < a.length) (hc : k < c.length) : lxC (a.drop k) (c.drop k) = if a[k] < c[k] then -1 else if c[k] < a[k] then 1 else lxC (a.drop (k + 1)) (c.drop (k + 1)) := by
  rw [List.drop_eq_getElem_cons ha, List.drop_eq_getElem_cons hc, lxC]

set_option maxHeartbeats 2000000 in
theorem lxCmp_any (va vc : Value) (a c : List Int) (w : World) (hra : RowAt w va (intsOf a)) (hrc : RowAt w vc (intsOf c)) (hl : a.length ≤ 1048577) (hlen : a.length = c.length) :
    Calls Try.prog 72 #[va, vc] w fun e w' => e = .returned (.int .i64 (lxC a c)) ∧ w = w' := by
  have HN := Lib.hid (fun x y W => cmpInt_any x y W)
  obtain ⟨aa, cap, rfl, h1, h2, h3⟩ := hra.ints
  obtain ⟨ac, cap', rfl, h1', h2', h3'⟩ := hrc.ints
  unfold maxLen at h2 h2'
  clear hra hrc
  obtain ⟨RES, hRES⟩ : ∃ R, R = lxC a c := ⟨_, rfl⟩
  have HST := Lib.hid (show lxC (a.drop 0) (c.drop 0) = RES by rw [List.drop_zero, List.drop_zero, hRES])
  rw [← hRES]
  obtain ⟨m, hm⟩ : ∃ m, m = c.length := ⟨_, rfl⟩
  rw [← hm] at hlen h1' ⊢
  have HM := Lib.hid hm
  obtain ⟨n, hn⟩ : ∃ n, n = a.length := ⟨_, rfl⟩
  have HL := Lib.hid hn
  rw [← hn] at hlen hl h1 ⊢
  subst hlen
  clear hm hn hRES
  go_enter Try.func72, Try.ntmps72
  go_wp2
  go_loop [11] (fun i => ∃ k : Nat, k ≤ n ∧ i = .int .i64 k ∧ lxC (a.drop k) (c.drop k) = RES) (fun i => n - (intOf i).toNat)
  case atStart => exact ⟨0, Nat.zero_le _, rfl, HST.out⟩
  case round =>
    obtain ⟨k, hk, rfl, hlx⟩ := hrel
    by_cases hlt : k < n
    · have ka : k < a.length := by rw [← HL.out]; exact hlt
      have kc : k < c.length := by rw [← HM.out]; exact hlt
      obtain ⟨b, off, rfl, hb, hcell⟩ := h3.resolve_left (fun e => by rw [e] at ka; simp at ka)
      obtain ⟨b', off', rfl, hb', hcell'⟩ := h3'.resolve_left (fun e => by rw [e] at kc; simp at kc)
      have hc := hcell k ka
      have hc' := hcell' k kc
      rw [lxC_drop ka kc] at hlx
      obtain ⟨x, hx⟩ : ∃ x, x = a[k] := ⟨_, rfl⟩
      obtain ⟨y, hy⟩ : ∃ y, y = c[k] := ⟨_, rfl⟩
      rw [← hx] at hc hlx
      rw [← hy] at hc' hlx
      have hki : (k : Int) < n := by omega
      have hkn : ¬ (n : Int) ≤ k := by omega
      have HNN := Lib.hid (fun W => HN.out x y W)
      obtain ⟨Z, hZ⟩ : ∃ Z, Z = cmpZ x y := ⟨_, rfl⟩
      rw [← hZ] at HNN
      clear h3 h3' hcell hcell' hx hy
      by_cases hxy : x < y
      · have hz : Z = -1 := by rw [hZ, cmpZ, if_pos hxy]
        rw [if_pos hxy] at hlx
        have HV := Lib.hid hlx
        rw [hz] at HNN
        clear hZ hz hlx hxy
        go_wp2_with (go_at_call 70; refine (HNN.out _).mono ?_; rintro e w' ⟨rfl, rfl⟩)
        go_ret
        exact ⟨by rw [← HV.out]; rfl, rfl⟩
      · rw [if_neg hxy] at hlx
        by_cases hyx : y < x
        · have hz : Z = 1 := by rw [hZ, cmpZ, if_neg hxy, if_pos hyx]
          rw [if_pos hyx] at hlx
          have HV := Lib.hid hlx
          rw [hz] at HNN
          clear hZ hz hlx hxy hyx
          go_wp2_with (go_at_call 70; refine (HNN.out _).mono ?_; rintro e w' ⟨rfl, rfl⟩)
          go_ret
          exact ⟨by rw [← HV.out]; rfl, rfl⟩
        · have hz : Z = 0 := by rw [hZ, cmpZ, if_neg hxy, if_neg hyx]
          rw [if_neg hyx] at hlx
          have HV := Lib.hid hlx
          rw [hz] at HNN
          clear hZ hz hlx hxy hyx
          go_wp2_with (go_at_call 70; refine (HNN.out _).mono ?_; rintro e w' ⟨rfl, rfl⟩)
          go_round
          case rel => exact ⟨k + 1, hlt, by go_num, HV.out⟩
          case measure => simp [intOf]; omega
    · have hv : RES = 0 := by rw [← hlx, List.drop_of_length_le (by have := HL.out; omega), List.drop_of_length_le (by have := HM.out; omega)]; rfl
      have HV := Lib.hid hv
      have hn9 : ¬ (k : Int) < n := by omega
      clear h3 h3' hlx hv
      go_wp2
      go_ret
      exact ⟨by rw [HV.out]; rfl, rfl⟩

/-- the first that is not 0, of two -/
def orC (x y : Int) : Int := if x = 0 then y else x
set_option maxHeartbeats 2000000 in
theorem or_any (v : Value) (x y : Int) (w : World) (hr : RowAt w v (intsOf [x, y])) :
    Calls Try.prog 71 #[v] w fun e w' => e = .returned (.int .i64 (orC x y)) ∧ w = w' := by
  obtain ⟨a, cap, rfl, h1, h2, h3⟩ := hr.ints
  unfold maxLen at h2
  obtain ⟨b, off, rfl, hb, hcell⟩ := h3.resolve_left (fun e => by cases e)
  have c0 := hcell 0 (by simp)
  have c1 := hcell 1 (by simp)
  simp only [List.getElem_cons_zero, List.getElem_cons_succ, Nat.add_zero] at c0 c1
  have hlen : ([x, y] : List Int).length = 2 := rfl
  rw [hlen] at h1 ⊢
  obtain ⟨RES, hRES⟩ : ∃ R, R = orC x y := ⟨_, rfl⟩
  rw [← hRES]
  have HR := Lib.hid hRES
  clear h3 hr hcell hlen hRES
  go_enter Try.func71, Try.ntmps71
  go_wp2
  go_loop [8] (fun i => ∃ k : Nat, k ≤ 2 ∧ i = .int .i64 k ∧ (0 < k → x = 0) ∧ (1 < k → y = 0)) (fun i => 2 - (intOf i).toNat)
  case atStart => exact ⟨0, by omega, rfl, by omega, by omega⟩
  case round =>
    obtain ⟨k, hk, rfl, g0, g1⟩ := hrel
    have HG := Lib.hid (And.intro g0 g1)
    clear g0 g1
    rcases Nat.lt_or_ge k 1 with h | h
    · obtain rfl : k = 0 := by omega
      by_cases hx : x = 0
      · subst hx
        go_wp2
        go_round
        case rel => exact ⟨1, by omega, by go_num, by simp, fun h => by omega⟩
        case measure => simp [intOf]
      · have HV := Lib.hid (show RES = x by rw [HR.out, orC, if_neg hx])
        have hxb : (x == 0) = false := by simpa using hx
        clear hx
        go_wp2
        go_ret
        exact ⟨by rw [HV.out]; rfl, rfl⟩
    · rcases Nat.lt_or_ge k 2 with h' | h'
      · obtain rfl : k = 1 := by omega
        have HX := Lib.hid (HG.out.1 (by omega))
        by_cases hy : y = 0
        · have HY := Lib.hid hy
          subst hy
          go_wp2
          go_round
          case rel => exact ⟨2, by omega, by go_num, fun _ => HX.out, by simp⟩
          case measure => simp [intOf]
        · have HV := Lib.hid (show RES = y by rw [HR.out, orC, if_pos HX.out])
          have hyb : (y == 0) = false := by simpa using hy
          clear hy
          go_wp2
          go_ret
          exact ⟨by rw [HV.out]; rfl, rfl⟩
      · obtain rfl : k = 2 := by omega
        have HV := Lib.hid (show RES = 0 by rw [HR.out, orC, if_pos (HG.out.1 (by omega))]; exact HG.out.2 (by omega))
        go_wp2
        go_ret
        exact ⟨by rw [HV.out]; rfl, rfl⟩

theorem bfC_or (a b : List Int) : bfC a b = decide (orC (cmpZ a.sum b.sum) (lxC a b) < 0) := by
  unfold bfC
  congr 1
  apply propext
  unfold orC cmpZ
  by_cases h1 : a.sum < b.sum
  · rw [if_pos h1]; simp [h1]
  · rw [if_neg h1]
    by_cases h2 : b.sum < a.sum
    · rw [if_pos h2]; simp; omega
    · rw [if_neg h2, if_pos rfl]; omega

/-- what sums and orders of short lists of digits are -/
def Dgs (d : List Int) : Prop := d.length ≤ 10 ∧ ∀ y ∈ d, 0 ≤ y ∧ y ≤ 1000

set_option maxHeartbeats 2000000 in
theorem before_any (va vc : Value) (a c : List Int) (w : World) (hra : RowAt w va (intsOf a)) (hrc : RowAt w vc (intsOf c)) (ha : Dgs a) (hc : Dgs c) (hlen : a.length = c.length) :
    Calls Try.prog 50 #[va, vc] w fun e w' => e = .returned (.bool (bfC a c)) ∧ Below w.heap.size w w' := by
  have HBF := Lib.hid (bfC_or a c)
  have HVA := Lib.hid (values_anyC va a w w (by have := ha.1; omega) (fun d hd => by have := ha.2 d hd; omega) hra (Below.refl _ _))
  have HVC := Lib.hid (fun W (hb : Below w.heap.size w W) => values_anyC vc c W w (by have := hc.1; omega) (fun d hd => by have := hc.2 d hd; omega) hrc hb)
  have HSA := Lib.hid (fun Bs W n₀ h1 h2 => sumVals_anyC Bs n₀ a W W (by have := ha.1; omega) h1 h2)
  have HSC := Lib.hid (fun Bs W n₀ h1 h2 => sumVals_anyC Bs n₀ c W W (by have := hc.1; omega) h1 h2)
  have HLX := Lib.hid (fun W (hb : Below w.heap.size w W) => lxCmp_any va vc a c W (hra.below hb) (hrc.below hb) (by have := ha.1; omega) hlen)
  have HCM := Lib.hid (fun W => cmpInt_any a.sum c.sum W)
  obtain ⟨SA, hSA⟩ : ∃ s, s = a.sum := ⟨_, rfl⟩
  obtain ⟨SC, hSC⟩ : ∃ s, s = c.sum := ⟨_, rfl⟩
  rw [← hSA] at HBF HSA HCM
  rw [← hSC] at HBF HSC HCM
  obtain ⟨aa, cap, rfl, h1, h2, h3⟩ := hra.ints
  obtain ⟨ac, cap', rfl, h1', h2', h3'⟩ := hrc.ints
  obtain ⟨Z, hZ⟩ : ∃ Z, Z = cmpZ SA SC := ⟨_, rfl⟩
  obtain ⟨X, hX⟩ : ∃ X, X = lxC a c := ⟨_, rfl⟩
  rw [← hZ] at HBF HCM
  rw [← hX] at HBF HLX
  obtain ⟨la, hla⟩ : ∃ n, n = a.length := ⟨_, rfl⟩
  obtain ⟨lc, hlc⟩ : ∃ n, n = c.length := ⟨_, rfl⟩
  rw [← hla] at HVA HSA HLX ⊢
  rw [← hlc] at HVC HSC HLX ⊢
  have HOR := Lib.hid (fun W v hr => or_any v Z X W hr)
  obtain ⟨O, hO⟩ : ∃ O, O = orC Z X := ⟨_, rfl⟩
  rw [← hO] at HBF HOR
  clear h3 h3' hra hrc hSA hSC hZ hX hla hlc hO hlen ha hc h1 h2 h1' h2'
  go_enter Try.func50, Try.ntmps50
  go_wp2_with fail
  refine HVA.out.mono ?_
  rintro e w1 ⟨rfl, hB1, hs1, hseq⟩
  have HS1 := Lib.hid (HSA.out w.heap.size w1 w.heap.size (by omega) hseq)
  have HB1 := Lib.hid hB1
  clear hseq hs1 hB1
  go_wp2_with fail
  refine HS1.out.mono ?_
  rintro e w2 ⟨rfl, hB2⟩
  have HB2 := Lib.hid (HB1.out.trans (hB2.mono HB1.out.size))
  clear hB2
  go_wp2_with fail
  refine (HVC.out _ HB2.out).mono ?_
  rintro e w3 ⟨rfl, hB3, hs3, hseq⟩
  have HS3 := Lib.hid (HSC.out w2.heap.size w3 w.heap.size (by have := HB2.out.size; omega) hseq)
  have HB3 := Lib.hid (HB2.out.trans (hB3.mono HB2.out.size))
  clear hseq hs3 hB3
  go_wp2_with fail
  refine HS3.out.mono ?_
  rintro e w4 ⟨rfl, hB4⟩
  have HB4 := Lib.hid (HB3.out.trans (hB4.mono HB3.out.size))
  clear hB4
  go_wp2_with fail
  refine (HCM.out _).mono ?_
  rintro e w' ⟨rfl, rfl⟩
  go_wp2_with fail
  refine (HLX.out _ HB4.out).mono ?_
  rintro e w' ⟨rfl, rfl⟩
  have hlit := World.ownsRow_lit (base := w4.heap.size) (e := 3) (size := 1) w4 #[.int .i64 Z, .int .i64 X] 2 (Nat.le_refl _) (by decide) rfl
  have HOO := Lib.hid (HOR.out _ _ (RowAt.of_owns hlit))
  have HB5 := Lib.hid (HB4.out.alloc HB4.out.size (.cells #[.int .i64 Z, .int .i64 X] 3))
  clear hlit
  go_wp2_with fail
  refine HOO.out.mono ?_
  rintro e w' ⟨rfl, rfl⟩
  go_wp2_with fail
  go_ret
  exact ⟨by rw [HBF.out]; rfl, HB5.out⟩

set_option maxHeartbeats 2000000 in
theorem more_any (v : Value) (d : List Int) (k : Nat) (w : World) (hr : RowAt w v (intsOf d)) (hd : Dgs d) (hk : k < d.length) :
    Calls Try.prog 47 #[v, .int .i64 k] w fun e w' => ∃ v', e = .returned v' ∧ w'.ownsRow w.heap.size 3 1 v' d.length (intsOf (inc k d)) ∧ Below w.heap.size w w' := by
  have HC := Lib.hid (cloneC_any v d w hr (by have := hd.1; omega))
  have hdk := hd.2 _ (List.getElem_mem hk)
  have hl := hd.1
  have HI := Lib.hid (show d.set k (d[k] + 1) = inc k d by
    rw [inc, List.getD_eq_getElem?_getD, List.getElem?_eq_getElem hk]; rfl)
  obtain ⟨a, cap, rfl, h1, h2, h3⟩ := hr.ints
  obtain ⟨n, hn⟩ : ∃ n, n = d.length := ⟨_, rfl⟩
  have HN := Lib.hid hn
  rw [← hn] at HC hl ⊢
  have hkn : k < n := by omega
  clear h3 hr hd hn
  go_enter Try.func47, Try.ntmps47
  go_wp2_with fail
  refine HC.out.mono ?_
  rintro e w1 ⟨v1, rfl, hO, hB⟩
  obtain ⟨a3, c3, e3, _, _⟩ := owns_form hO
  subst e3
  obtain ⟨g, c4, e4⟩ := owns_some hO (fun e => by injection e with _ e; omega)
  injection e4 with e4 _ e5
  subst e4 e5
  have hcell : w1.cell? ⟨g, k, none⟩ = some (.int .i64 d[k]) := by
    have h := hO.cellAt k (by omega)
    rw [intsOf_get hk] at h
    simpa using h
  have hfz : w1.frozen? ⟨g, k, none⟩ = false := by have := hO.frozenAt k; simpa using this
  have hst := (hO.stored k (.int .i64 (d[k] + 1))).1
  rw [cw_ints_set, HI.out] at hst
  have HST := Lib.hid hst
  have hg := (hO.lt g rfl).1
  obtain ⟨y, hy⟩ : ∃ y, y = d[k] := ⟨_, rfl⟩
  rw [← hy] at hcell hdk HST
  have hki : (k : Int) < n := by omega
  have hy0 := hdk.1
  have hy1 := hdk.2
  have wy : IntKind.i64.wrap (y + 1) = y + 1 := by rw [IntKind.wrap_i64]; omega
  clear hO hst hy hdk HI
  go_wp2_with fail
  go_ret
  exact ⟨_, rfl, HST.out, hB.setCell (p := ⟨g, k, none⟩) hg _⟩

theorem least_any (va vc : Value) (a c : List Int) (w : World) (hra : RowAt w va (intsOf a)) (hrc : RowAt w vc (intsOf c)) (ha : Dgs a) (hc : Dgs c) (hlen : a.length = c.length) :
    Calls Try.prog 49 #[va, vc] w fun e w' => e = .returned (if bfC a c then va else vc) ∧ Below w.heap.size w w' := by
  have HBF := Lib.hid (before_any va vc a c w hra hrc ha hc hlen)
  obtain ⟨aa, cap, rfl, h1, h2, h3⟩ := hra.ints
  obtain ⟨ac, cap', rfl, h1', h2', h3'⟩ := hrc.ints
  obtain ⟨la, hla⟩ : ∃ n, n = a.length := ⟨_, rfl⟩
  obtain ⟨lc, hlc⟩ : ∃ n, n = c.length := ⟨_, rfl⟩
  rw [← hla, ← hlc] at HBF ⊢
  clear h3 h3' hra hrc hla hlc hlen ha hc h1 h2 h1' h2'
  cases h : bfC a c
  · rw [h] at HBF
    clear h
    go_enter Try.func49, Try.ntmps49
    go_wp2_with fail
    refine HBF.out.mono ?_
    rintro e w1 ⟨rfl, hB⟩
    go_wp2_with fail
    go_ret
    exact ⟨rfl, hB⟩
  · rw [h] at HBF
    clear h
    go_enter Try.func49, Try.ntmps49
    go_wp2_with fail
    refine HBF.out.mono ?_
    rintro e w1 ⟨rfl, hB⟩
    go_wp2_with fail
    go_ret
    exact ⟨rfl, hB⟩

end Go.Proofs.Ytbfoaibgenepoaa
