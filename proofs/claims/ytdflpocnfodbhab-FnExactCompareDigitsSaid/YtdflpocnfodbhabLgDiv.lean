/- Long numbers: the model divides. -/
import Derived.Test.YtdflpocnfodbhabLgSub
import Derived.Deep.LoopGhost
set_option linter.unusedVariables false
set_option linter.unusedSimpArgs false
set_option maxRecDepth 100000
namespace Go.Proofs.Ytdflpocnfodbhab
open Go.ChangeShapes Go.WideShapes Go.ChangeAt Go.RowKit

/-- two rows in blocks of their own -/
abbrev Apart (v v' : Value) : Prop := ∀ k, v.ownBlock = some k → v'.ownBlock = some k → False

theorem vl_cons {b : Nat} {d : Int} {l : List Int} (h : AllD b (d :: l)) : vl b (d :: l) = d.toNat + b * vl b l := by
  have hl : AllD b l := fun x hx => h x (List.mem_cons_of_mem _ hx)
  have e := vl_cast h
  have e2 := vl_cast hl
  have hd := h d (by simp)
  rw [hv_cons, ← e2] at e
  have : ((b * vl b l : Nat) : Int) = (b : Int) * (vl b l : Int) := Int.natCast_mul _ _
  omega
theorem vl_drop {b : Nat} {a : List Int} (h : AllD b a) {j : Nat} (hj : j < a.length) : vl b (a.drop j) = a[j].toNat + b * vl b (a.drop (j + 1)) := by
  rw [List.drop_eq_getElem_cons hj]
  exact vl_cons (fun d hd => by
    rw [← List.drop_eq_getElem_cons hj] at hd
    exact h d (List.mem_of_mem_drop hd))

theorem cmp_ge {n m : Nat} (h : m ≤ n) : ¬ cmpN n m < 0 := by
  unfold cmpN
  split
  · omega
  · split <;> omega

/-- an element put in front of a row -/
theorem allD_cons {b : Nat} {d : Int} {l : List Int} (h0 : 0 ≤ d) (h1 : d ≤ (b : Int) - 1) (h : AllD b l) : AllD b (d :: l) := fun x hx => by
  rcases List.mem_cons.1 hx with rfl | hx
  · exact ⟨h0, h1⟩
  · exact h x hx

theorem div_step {b A AJ Q C R X d R' x : Nat} (hA : A = x + b * AJ) (hAJ : AJ = Q * C + R) (hX : X = x + b * R) (hd : X = d * C + R') : A = (d + b * Q) * C + R' := by
  rw [hA, hAJ, Nat.mul_add, Nat.add_mul, Nat.mul_assoc]
  omega
theorem div_lt_b {b C R X d R' x : Nat} (hx : x < b) (hR : R < C) (hX : X = x + b * R) (hd : X = d * C + R') : d < b := by
  rcases Nat.lt_or_ge d b with h | h
  · exact h
  · exfalso
    have h1 : b * C ≤ d * C := Nat.mul_le_mul_right _ h
    have h2 : b * (R + 1) ≤ b * C := Nat.mul_le_mul_left _ hR
    rw [Nat.mul_add, Nat.mul_one] at h2
    omega

theorem add_addrD (b off j : Nat) : (⟨b, off, none⟩ : Addr).add j = ⟨b, off + j, none⟩ := by
  unfold Addr.add; split <;> simp_all
theorem add_zero_addr (g j : Nat) : (⟨g, 0, none⟩ : Addr).add j = ⟨g, j, none⟩ := by
  by_cases h : j = 0
  · subst h; simp [Addr.add]
  · simp [Addr.add, h]
/-- the cells of a row that has a block -/
theorem owns_cells {w : World} {base : Nat} {e : TypeId} {g n cap : Nat} {xs : List Value} (h : w.ownsRow base e 1 (.slice (some ⟨g, 0, none⟩) n cap) n xs) : ∀ j u, xs[j]? = some u → w.cell? ⟨g, j, none⟩ = some u := by
  intro j u hj
  have := h.cells (g := g) rfl j u hj
  rwa [add_zero_addr] at this

theorem dg_len_le {b R : Nat} {c : List Int} (hb : 2 ≤ b) (hc : Nrm b c) (h : R < vl b c) : (dg b R).length ≤ c.length := by
  rcases Nat.lt_or_ge c.length (dg b R).length with h' | h'
  · have := lt_of_len hb hc (nrm_dg hb R) h'
    rw [vl_dg hb] at this; omega
  · exact h'
theorem dg_len_le' {b n : Nat} {c : List Int} (hb : 2 ≤ b) (hc : Nrm b c) (h0 : 0 < vl b c) (h : n < b * vl b c) : (dg b n).length ≤ c.length + 1 := by
  have hne : c ≠ [] := fun e => by rw [e] at h0; simp [vl, hv_nil] at h0
  have hA : AllD b ((0 : Int) :: c) := allD_cons (Int.le_refl _) (by omega) hc.1
  have hN : Nrm b ((0 : Int) :: c) := ⟨hA, .inr (by
    obtain ⟨y, l, rfl⟩ : ∃ y l, c = y :: l := by
      cases c with
      | nil => exact absurd rfl hne
      | cons y l => exact ⟨y, l, rfl⟩
    rw [List.getLast?_cons_cons]
    exact hc.2.resolve_left hne)⟩
  have := dg_len_le hb hN (R := n) (by rw [vl_cons hA]; simpa using h)
  simpa using this

theorem intsOf_one (l : List Int) : ∀ u ∈ intsOf l, u.oneCell' = true := fun u hu => by
  simp only [intsOf, List.mem_map] at hu
  obtain ⟨x, _, rfl⟩ := hu; rfl

set_option maxRecDepth 100000 in
set_option maxHeartbeats 8000000 in
theorem specDivide_any (va vc : Value) (a c : List Int) (b : Nat) (w : World) (hb : 2 ≤ b) (hb16 : b ≤ 16) (ha : Nrm b a) (hc : Nrm b c) (hc0 : 0 < vl b c) (hra : RowAt w va (intsOf a)) (hrc : RowAt w vc (intsOf c)) (hl : a.length ≤ 1000) (hl' : c.length ≤ 1000) :
    Calls Try.prog 47 #[va, vc, .int .i64 b] w fun e w' => ∃ q r, e = .returned (.tuple #[q, r]) ∧ w'.ownsRow w.heap.size 3 1 q (dg b (vl b a / vl b c)).length (intsOf (dg b (vl b a / vl b c))) ∧ w'.ownsRow w.heap.size 3 1 r (dg b (vl b a % vl b c)).length (intsOf (dg b (vl b a % vl b c))) ∧ Apart q r ∧ Below w.heap.size w w' := by
  have HRC := Lib.hid hrc
  obtain ⟨aa, cap, rfl, h1, h2, h3⟩ := hra.ints
  obtain ⟨ac, cap', rfl, h1', h2', h3'⟩ := hrc.ints
  unfold maxLen at h2 h2'
  obtain ⟨i0, hi, hz0, hz1, hz2⟩ := info_parts infoInt
  have HA := Lib.hid ha; have HC := Lib.hid hc
  obtain ⟨C, hC⟩ : ∃ C, C = vl b c := ⟨_, rfl⟩
  have HCC := Lib.hid hC
  rw [← hC] at hc0 ⊢
  clear h3' hrc hra ha hc hC
  go_enter Try.func47, Try.ntmps47
  go_wp2
  go_loopg [8, 9, 10] a.length (fun g vq vr t wr => ∃ (gq cq gr cr R : Nat) (Q : List Int), g ≤ a.length ∧ t = .int .i64 ((g : Int) - 1) ∧ vq = .slice (some ⟨gq, 0, none⟩) Q.length cq ∧ vr = .slice (some ⟨gr, 0, none⟩) (dg b R).length cr ∧ AllD b Q ∧ Q.length + g = a.length ∧ R < C ∧ vl b (a.drop g) = vl b Q * C + R ∧ wr.ownsRow w.heap.size 3 1 vq Q.length (intsOf Q) ∧ wr.ownsRow w.heap.size 3 1 vr (dg b R).length (intsOf (dg b R)) ∧ Apart vq vr ∧ Below w.heap.size w wr)
  case atStart =>
    refine ⟨w.heap.size, 0, w.heap.size + 1, 0, 0, [], Nat.le_refl _, rfl, rfl, rfl, fun d hd => by simp at hd, by simp, hc0, by simp [vl, hv_nil], ?_, ?_, fun k h h' => ?_, ((Below.refl _ _).alloc (Nat.le_refl _) _).alloc (by simp) _⟩
    · exact (World.ownsRow_lit w #[] 0 (Nat.le_refl _) (by decide) rfl).alloc _
    · have := World.ownsRow_lit (base := w.heap.size) (e := 3) (size := 1) (w.alloc (.cells #[] 3)) #[] 0 (by simp) (by decide) rfl
      rw [World.size_alloc] at this
      exact this
    · simp [Value.ownBlock] at h h'; omega
  case round =>
    obtain ⟨gq, cq, gr, cr, R, Q, hj9, rfl, rfl, rfl, hQA, hQl, hRC, hAV, hoq, hor, hap, hB⟩ := hrel
    have hsz := hB.size
    cases gk with
    | zero =>
      rw [List.drop_zero] at hAV
      have e1 : vl b Q = vl b a / C := by
        rw [hAV]
        rw [Nat.mul_comm, Nat.mul_add_div hc0, Nat.div_eq_of_lt hRC, Nat.add_zero]
      have e2 : R = vl b a % C := by
        rw [hAV, Nat.mul_comm, Nat.mul_add_mod, Nat.mod_eq_of_lt hRC]
      have HT := Lib.hid (specTrim_at _ cq Q b w.heap.size wr hb hQA hoq (by omega))
      rw [e1] at HT
      have HOR := Lib.hid hor
      rw [e2] at HOR
      rw [e2] at hap ⊢
      have HAP := Lib.hid hap
      clear hAV e1 e2 hQA hoq hor hap hRC h3
      go_wp2_with fail
      refine HT.out.mono ?_
      rintro e w' ⟨rfl, ho, rfl⟩
      have HO := Lib.hid ho
      clear ho
      go_wp2_with fail
      go_ret2
      exact ⟨_, _, rfl, HO.out, HOR.out, HAP.out, hB⟩
    | succ j =>
      rw [show ((j + 1 : Nat) : Int) - 1 = (j : Int) by omega]
      obtain ⟨V, hVV⟩ : ∃ V, V = wr := ⟨_, rfl⟩
      subst hVV
      have hja : j < a.length := by omega
      obtain ⟨ba, off, rfl, hbb, hcell⟩ := h3.resolve_left (fun e => by rw [e] at hja; simp at hja)
      have hcx : V.cell? ⟨ba, off + j, none⟩ = some (.int .i64 a[j]) := by rw [hB.cell (p := ⟨ba, off + j, none⟩) hbb]; exact hcell j hja
      have hxr := HA.out.1 _ (List.getElem_mem hja)
      have hvd := vl_drop HA.out.1 hja
      obtain ⟨x, hx⟩ : ∃ x : Nat, a[j] = (x : Int) := ⟨a[j].toNat, by omega⟩
      rw [hx] at hcx hxr hvd
      rw [Int.toNat_natCast] at hvd
      have hrl := dg_len_le hb HC.out (show R < vl b c by have := HCC.out; omega)
      have hXA : AllD b ((x : Int) :: dg b R) := allD_cons hxr.1 hxr.2 (nrm_dg hb R).1
      have hXv : vl b ((x : Int) :: dg b R) = x + b * R := by rw [vl_cons hXA, vl_dg hb]; simp
      have HXA := Lib.hid hXA; have HXV := Lib.hid hXv
      have HOQ := Lib.hid hoq; have HAV := Lib.hid hAV; have HVD := Lib.hid hvd; have HQA := Lib.hid hQA; have HAP := Lib.hid hap
      have HCL := Lib.hid (fun o => owns_cells (World.ownsRow.alloc hor o))
      have hlit := World.ownsRow_lit (base := V.heap.size) (e := 3) (size := 1) V #[.int .i64 x] 1 (Nat.le_refl _) (by decide) rfl
      clear h3 hcell hx hXA hXv hoq hAV hvd hQA hap
      go_wp2_with (at_builtin; refine wpList_append_own _ rfl _ _ 22 rfl V.heap.size 3 i0 (.int .i64 0) 1 8 Try.underlying22 hi hz0 hz1 hz2 rfl (by decide) _ _ _ rfl hlit ⟨gr, 0, none⟩ (dg b R).length cr (intsOf (dg b R)) rfl ?c0 ?c1 ?c2 ?c3 ?c4 ?c5 ?_)
      case c0 => simp [intsOf]
      case c1 => first | exact HCL.out _ | exact fun i u hu => by rw [add_zero_addr]; exact HCL.out _ i u hu
      case c2 => exact intsOf_one _
      case c3 => unfold maxLen; omega
      case c4 => omega
      intro v' w1 hown' hgrow hnl
      have hb1 : Below V.heap.size V w1 := ((Below.refl V.heap.size V).alloc (Nat.le_refl _) (.cells #[.int .i64 x] 3)).grown hgrow (by simp) (fun k hk => by simp [Value.ownBlock] at hk; omega)
      obtain ⟨g1, c1, rfl⟩ := owns_some hown' (by first | exact hnl | exact fun e => absurd (hnl.1 e).1 (by simp))
      have ho1 : w1.ownsRow V.heap.size 3 1 (.slice (some ⟨g1, 0, none⟩) (1 + (dg b R).length) c1) (1 + (dg b R).length) (intsOf ((x : Int) :: dg b R)) := by simpa [intsOf] using hown'
      rw [show 1 + (dg b R).length = ((x : Int) :: dg b R).length by simp; omega] at ho1
      have HT1 := Lib.hid (specTrim_at _ c1 ((x : Int) :: dg b R) b V.heap.size w1 hb HXA.out ho1 (by simp; omega))
      rw [HXV.out] at HT1
      have hs1 := hb1.size
      clear hown' hgrow hnl ho1 HCL
      rw [show 1 + (dg b R).length = ((x : Int) :: dg b R).length by simp; omega]
      go_wp2_with fail
      refine HT1.out.mono ?_
      rintro e w' ⟨rfl, ho1, rfl⟩
      have HO1 := Lib.hid ho1
      clear ho1
      go_wp2_with fail
      have hVb : Below V.heap.size V w1 := hb1
      obtain ⟨X, hX⟩ : ∃ X, X = x + b * R := ⟨_, rfl⟩
      have HX := Lib.hid hX
      rw [← hX] at HO1 ⊢
      have hdb : ∀ d g : Nat, X = d * C + g → d < b := fun d g h => div_lt_b (by omega) hRC hX h
      have HDB := Lib.hid hdb
      have HXB := Lib.hid (show X < b * C by
        have h2 : b * (R + 1) ≤ b * C := Nat.mul_le_mul_left _ hRC
        rw [Nat.mul_add, Nat.mul_one] at h2
        omega)
      have HB1 := Lib.hid hb1
      clear hX hdb hb1 hVb HXA HXV
      go_loopg [9, 11] X (fun g vr t wi => ∃ gr cr d : Nat, vr = .slice (some ⟨gr, 0, none⟩) (dg b g).length cr ∧ t = .int .i64 d ∧ X = d * C + g ∧ wi.ownsRow V.heap.size 3 1 vr (dg b g).length (intsOf (dg b g)) ∧ Below V.heap.size V wi)
      case atStart => exact ⟨g1, c1, 0, rfl, rfl, by simp, HO1.out, HB1.out⟩
      case round =>
        obtain ⟨g2, c2, d, rfl, rfl, hXd, hown, hBV⟩ := hrel
        have hd := HDB.out d _ hXd
        have hBw := hB.trans (hBV.mono hsz)
        have hNg := nrm_dg hb gk
        have hlg : (dg b gk).length ≤ 1100 := by
          have := dg_len_le' (n := gk) hb HC.out (by have := HCC.out; omega) (by have := HCC.out; have := HXB.out; rw [← HCC.out]; omega)
          omega
        have HXD := Lib.hid hXd
        clear hXd
        have HRow := Lib.hid (RowAt.of_owns hown)
        have HRCw := Lib.hid (HRC.out.below hBw)
        have HCM := Lib.hid (specCompare_any _ _ (dg b gk) c b wr hb hNg HC.out HRow.out HRCw.out (by omega) (by omega))
        rw [vl_dg hb, ← HCC.out] at HCM
        have HOWN := Lib.hid hown
        clear hown
        by_cases hge : C ≤ gk
        · have hcm := cmp_ge hge
          obtain ⟨z, hz⟩ : ∃ z, z = cmpN gk C := ⟨_, rfl⟩
          rw [← hz] at HCM hcm
          clear hz
          go_wp2_with fail
          refine HCM.out.mono ?_
          rintro e w2 ⟨rfl, hB2⟩
          have HMI := Lib.hid (specMinus_any _ _ (dg b gk) c b w2 hb hb16 hNg HC.out (by rw [vl_dg hb, ← HCC.out]; exact hge) (HRow.out.below hB2) (HRCw.out.below hB2) (by omega))
          rw [vl_dg hb, ← HCC.out] at HMI
          have hB2' := hBV.trans (hB2.mono hBV.size)
          clear hB2
          go_wp2_with fail
          refine HMI.out.mono ?_
          rintro e w3 ⟨g3, c3, rfl, ho3, hB3⟩
          have HO3 := Lib.hid (owns_mono ho3 hB2'.size)
          have hB3' := hB2'.trans (hB3.mono hB2'.size)
          have HXN := Lib.hid (show X = (d + 1) * C + (gk - C) by rw [Nat.add_mul, Nat.one_mul]; have := HXD.out; omega)
          clear ho3 hB3
          go_wp2_with fail
          go_roundg (gk - C)
          case measure => omega
          case rel => exact ⟨g3, c3, d + 1, rfl, by go_num, HXN.out, HO3.out, hB3'⟩
        · have hcm : cmpN gk C = -1 := cmp_lt (by omega)
          rw [hcm] at HCM
          clear hcm
          go_wp2_with fail
          refine HCM.out.mono ?_
          rintro e w2 ⟨rfl, hB2⟩
          have hB2' := hBV.trans (hB2.mono hBV.size)
          have HOW2 := Lib.hid (owns_below HOWN.out hB2)
          have HOQ2 := Lib.hid (owns_below HOQ.out hB2')
          have HQC := Lib.hid (fun o => owns_cells (World.ownsRow.alloc HOQ2.out o))
          have hlit := World.ownsRow_lit (base := w2.heap.size) (e := 3) (size := 1) w2 #[.int .i64 d] 1 (Nat.le_refl _) (by decide) rfl
          clear hB2 hBV
          go_wp2_with (at_builtin; refine wpList_append_own _ rfl _ _ 22 rfl w2.heap.size 3 i0 (.int .i64 0) 1 8 Try.underlying22 hi hz0 hz1 hz2 rfl (by decide) _ _ _ rfl hlit ⟨gq, 0, none⟩ Q.length cq (intsOf Q) rfl ?e0 ?e1 ?e2 ?e3 ?e4 ?e5 ?_)
          case e0 => simp [intsOf]
          case e1 => first | exact HQC.out _ | exact fun i u hu => by rw [add_zero_addr]; exact HQC.out _ i u hu
          case e2 => exact intsOf_one _
          case e3 => unfold maxLen; omega
          case e4 => omega
          case e5 => simp
          intro v' w3 hown' hgrow hnl
          have hb3 : Below w2.heap.size w2 w3 := ((Below.refl w2.heap.size w2).alloc (Nat.le_refl _) (.cells #[.int .i64 d] 3)).grown hgrow (by simp) (fun k hk => by simp [Value.ownBlock] at hk; omega)
          obtain ⟨g4, c4, rfl⟩ := owns_some hown' (by first | exact hnl | exact fun e => absurd (hnl.1 e).1 (by simp))
          have ho3 : w3.ownsRow w2.heap.size 3 1 (.slice (some ⟨g4, 0, none⟩) (1 + Q.length) c4) (1 + Q.length) (intsOf ((d : Int) :: Q)) := by simpa [intsOf] using hown'
          rw [show 1 + Q.length = ((d : Int) :: Q).length by simp; omega] at ho3
          have hAP : Apart (.slice (some ⟨g4, 0, none⟩) ((d : Int) :: Q).length c4) (.slice (some ⟨g2, 0, none⟩) (dg b gk).length c2) := fun k h h' => by
            have h1 := (ho3.lt k h).1
            have h2 := (HOW2.out.lt k h').2
            omega
          have HAPN := Lib.hid hAP
          have hszw : w.heap.size ≤ w2.heap.size := Nat.le_trans hsz hB2'.size
          have HO4 := Lib.hid (owns_mono ho3 hszw)
          have HR4 := Lib.hid (owns_mono (owns_below HOW2.out hb3) hsz)
          have hB4 := (hB.trans (hB2'.mono hsz)).trans (hb3.mono hszw)
          have hdA := HQA.out
          have HQN := Lib.hid (allD_cons (show (0 : Int) ≤ d by omega) (show (d : Int) ≤ (b : Int) - 1 by omega) hdA)
          have HVN := Lib.hid (show vl b (a.drop j) = vl b ((d : Int) :: Q) * C + gk by
            rw [vl_cons HQN.out, Int.toNat_natCast]
            exact div_step HVD.out HAV.out HX.out HXD.out)
          have hlt : gk < C := by omega
          rw [show 1 + Q.length = ((d : Int) :: Q).length by simp; omega]
          clear hown' hgrow hnl ho3 hAP hb3 hB2' hdA hge hlit
          go_wp2_with fail
          go_roundg j
          case measure => omega
          case rel => exact ⟨g4, c4, g2, c2, gk, (d : Int) :: Q, by omega, by go_num, rfl, rfl, HQN.out, by simp; omega, hlt, HVN.out, HO4.out, HR4.out, HAPN.out, hB4⟩

end Go.Proofs.Ytdflpocnfodbhab
