/- Long numbers: the program divides one number by another one. -/
import Derived.Test.YtdflpocnfodbhabLgC
import Derived.Test.YtdflpocnfodbhabLgS
import Derived.Test.YtdflpocnfodbhabLgI
import Derived.Sort.LoopGhostIn
import Derived.Sort.QuietIn
set_option linter.unusedVariables false
set_option linter.unusedSimpArgs false
set_option maxRecDepth 100000
namespace Go.Proofs.Ytdflpocnfodbhab
open Go.ChangeShapes Go.WideShapes Go.ChangeAt Go.RowKit

attribute [local go_sem] Oper.semAt_some wide_fn wide_depth

/-- 'make([]T, n)' inside a fence -/
theorem wpListIn_make_fullL {F : Fence} {r : Nat} {P : Program} (w : World) {ops : Array Oper} {rest : List Oper} {o : Oper} {a : Act} {Q : Exit → Act → World → Prop}
    (hg : o.guard = none) (l c : Operand) (t : TypeId) (hop : o.op = Op.makeSlice t l c)
    (base : Nat) (e : TypeId) (i : TypeInfo) (z : Value) (size : Nat) (h1 : P.underlying t = some (.slice e)) (h2 : P.info? e = some i) (h3 : i.zero = some z) (h4 : i.size = size)
    (kl kc : IntKind) (L C : Int) (n : Nat) (hl : a.eval l = .int kl L) (hc : a.eval c = .int kc C) (hL : L = (n : Int)) (hC : C = (n : Int)) (b2 : i.bytes * n ≤ 281474976710656) (b3 : n ≤ maxLen) (b4 : base ≤ w.heap.size)
    (hK : ∀ w', w'.ownsRow base e size (.slice (some ⟨w.heap.size, 0, none⟩) n n) n (madeCells z.cells (n * size)).toList → w.grownBy w' none → wpListIn F r P ops Q rest (a.put o.dst (.slice (some ⟨w.heap.size, 0, none⟩) n n)) w') :
    wpListIn F r P ops Q (o :: rest) a w := by
  refine wpListIn_plain hg fun K hK' => ?_
  obtain ⟨w', hrun, r1, r2⟩ := run_make_full (P := P) w base t e i z size h1 h2 h3 h4 kl kc n b2 b3 b4
  subst hL
  subst hC
  unfold Oper.wpIn
  refine ⟨?_, ?_⟩
  · simp [Oper.about, hop]
  · rw [Oper.semAt_plain F _ _ (by rw [hop]; intro c hc'; cases hc')]
    simp [execOp, hop, hl, hc, hrun, Result.andThen]
    exact hK' _ _ (hK w' r1 r2)

theorem trim_ex (l : List Int) : ∀ m, m ≤ l.length → (∀ j (hj : j < l.length), m ≤ j → l[j] = 0) → ∃ n, n ≤ l.length ∧ (∀ j (hj : j < l.length), n ≤ j → l[j] = 0) ∧ (∀ (h : n - 1 < l.length), n = 0 ∨ l[n - 1] ≠ 0)
  | 0, hm, hz => ⟨0, hm, hz, fun _ => .inl rfl⟩
  | m + 1, hm, hz => by
    by_cases h : l[m] = 0
    · exact trim_ex l m (by omega) (fun j hj hmj => by
        by_cases e : j = m
        · subst e; exact h
        · exact hz j hj (by omega))
    · exact ⟨m + 1, hm, hz, fun _ => .inr h⟩
theorem trim_owns {a : Option Addr} {cap : Nat} {l : List Int} {b base : Nat} {w : World} (hb : 2 ≤ b) (hA : AllD b l) (hown : w.ownsRow base 3 1 (.slice a l.length cap) l.length (intsOf l)) :
    w.ownsRow base 3 1 (.slice a (dg b (vl b l)).length cap) (dg b (vl b l)).length (intsOf (dg b (vl b l))) := by
  obtain ⟨n, hn, hz, hlast⟩ := trim_ex l l.length (Nat.le_refl _) (fun j hj h => by omega)
  have e := trim_eq hb hA hn hz hlast
  have en : (dg b (vl b l)).length = n := by rw [← e, List.length_take, Nat.min_eq_left hn]
  rw [en, ← e, ← intsOf_take]
  exact owns_take hown hn
theorem implTrim_q (a : Option Addr) (cap : Nat) (l : List Int) (b base : Nat) (w : World) (q : Nat) (hb : 2 ≤ b) (hA : AllD b l) (hown : w.ownsRow base 3 1 (.slice a l.length cap) l.length (intsOf l)) (hl : l.length ≤ 1048576) :
    Calls Try.prog 81 #[.slice a l.length cap] (w.drewN q) fun e w' => e = .returned (.slice a (dg b (vl b l)).length cap) ∧ w' = w.drewN q := by
  refine (implTrim_at a cap l b base (w.drewN q) hb hA (owns_drewN hown q) hl).mono ?_
  rintro e w' ⟨rfl, _, rfl⟩
  exact ⟨rfl, rfl⟩

theorem owns_setOff {w : World} {base : Nat} {e : TypeId} {v : Value} {n : Nat} {xs : List Value} (h : w.ownsRow base e 1 v n xs) (p : Addr) (u : Value) (hp : v.ownBlock ≠ some p.block) : (w.setCell p u).ownsRow base e 1 v n xs := by
  obtain ⟨hl, h2⟩ := h
  refine ⟨hl, ?_⟩
  rcases h2 with h2 | ⟨g, cap, cur, hv, hg, hh, r⟩
  · exact .inl h2
  · refine .inr ⟨g, cap, cur, hv, hg, ?_, r⟩
    rw [Below.heap_setCell w p u g (fun e => hp (by subst hv; simp [Value.ownBlock, e]))]
    exact hh
theorem boxed_setOff {X : World} {g : Nat} {t : TypeId} {v : Value} (h : Boxed X g t v) (p : Addr) (u : Value) (hp : p.block ≠ g) : Boxed (X.setCell p u) g t v := (Below.heap_setCell X p u g (fun e => hp e.symm)).trans h

theorem drop_set_self : ∀ (l : List Int) (k : Nat) (v : Int), k < l.length → (l.set k v).drop k = v :: l.drop (k + 1)
  | d :: l, 0, v, h => by simp
  | d :: l, k + 1, v, h => by simpa using drop_set_self l k v (by simpa using h)

set_option maxRecDepth 100000 in
set_option maxHeartbeats 8000000 in
theorem implDivide_any (va vc : Value) (a c : List Int) (b : Nat) (w : World) (hb : 2 ≤ b) (hb16 : b ≤ 16) (ha : Nrm b a) (hc : Nrm b c) (hc0 : 0 < vl b c) (hra : RowAt w va (intsOf a)) (hrc : RowAt w vc (intsOf c)) (hl : a.length ≤ 1000) (hl' : c.length ≤ 1000) :
    Calls Try.prog 48 #[va, vc, .int .i64 b] w fun e w' => ∃ q r, e = .returned (.tuple #[q, r]) ∧ w'.ownsRow w.heap.size 3 1 q (dg b (vl b a / vl b c)).length (intsOf (dg b (vl b a / vl b c))) ∧ w'.ownsRow w.heap.size 3 1 r (dg b (vl b a % vl b c)).length (intsOf (dg b (vl b a % vl b c))) ∧ Apart q r ∧ Below w.heap.size w w' := by
  have HRA := Lib.hid hra
  have HRC := Lib.hid hrc
  obtain ⟨aa, cap, rfl, h1, h2, h3⟩ := hra.ints
  obtain ⟨ac, cap', rfl, h1', h2', h3'⟩ := hrc.ints
  unfold maxLen at h2 h2'
  obtain ⟨i0, hi, hz0, hz1, hz2⟩ := info_parts infoInt
  have HA := Lib.hid ha; have HC := Lib.hid hc
  obtain ⟨C, hC⟩ : ∃ C, C = vl b c := ⟨_, rfl⟩
  have HCC := Lib.hid hC
  rw [← hC] at hc0 ⊢
  obtain ⟨n, hn⟩ : ∃ n, n = a.length := ⟨_, rfl⟩
  have HN := Lib.hid hn
  rw [← hn] at h1 hl ⊢
  clear h3 h3' hra hrc ha hc hC hn
  refine (callsIn_wide (n := 0)).1 ?_
  refine callsIn_of_wp_marks Try.func48 rfl trivial ?_ rfl
  simp only [Try.ntmps48, List.size_toArray, List.length_cons, List.length_nil, Nat.reduceAdd, Nat.reduceSub, Array.replicate_succ, Array.replicate_zero, List.push_toArray, List.append_toArray, List.nil_append, List.cons_append]
  gi_wp2_with (gi_at_make; refine wpListIn_make_fullL _ rfl _ _ 39 rfl w.heap.size 3 i0 (.int .i64 0) 1 Try.underlying39 hi hz0 hz1 _ _ _ _ n rfl rfl rfl rfl ?c1 ?c2 ?c3 ?_)
  case c1 => rw [hz2]; omega
  case c2 => unfold maxLen; omega
  case c3 => simp; omega
  intro w1 hown hgrow
  have hm1 : w.heap.size + 3 ≤ w1.heap.size := by have := (hown.lt (w.heap.size + 1 + 1) rfl).2; omega
  have hown1 : w1.ownsRow w.heap.size 3 1 (.slice (some ⟨w.heap.size + 1 + 1, 0, none⟩) n n) n (intsOf (List.replicate n 0)) := by
    rw [intsOf_zeros]; rw [toList_madeCells_one] at hown; simpa using hown
  have b0' : Boxed w1 w.heap.size 39 (.slice ac c.length cap') := ((Boxed.new w _ _).alloc _).kept hgrow (by simp)
  have b1' : Boxed w1 (w.heap.size + 1) 3 (.int .i64 b) := (boxed_at (w.alloc (.cells #[.slice ac c.length cap'] 39)) _ _ (by simp)).kept hgrow (by simp)
  have hBw1 : Below w.heap.size w w1 := (((Below.refl _ w).alloc (Nat.le_refl _) _).alloc (by simp) _).grown hgrow (by simp; omega) (fun k hk => by cases hk)
  clear hown hgrow
  gi_wp2_with (gi_at_call 77; refine (callsIn_wide.2 (backL_any _ _ _ _)).mono ?_; rintro e w' ⟨rfl, rfl⟩)
  obtain ⟨A4, hA4⟩ : ∃ A4, ((((w1.alloc (.cells #[.slice (some ⟨w.heap.size + 1 + 1, 0, none⟩) n n] 39)).alloc (.cells #[] 3)).alloc (.cells #[.slice (some ⟨w1.heap.size + 1, 0, none⟩) 0 0] 39)).alloc (.cells #[.slice aa n cap] 39)) = A4 := ⟨_, rfl⟩
  have hs4 : A4.heap.size = w1.heap.size + 4 := by rw [← hA4]; simp
  have b0 : Boxed A4 w.heap.size 39 (.slice ac c.length cap') := by rw [← hA4]; exact (((b0'.alloc _).alloc _).alloc _).alloc _
  have b1 : Boxed A4 (w.heap.size + 1) 3 (.int .i64 b) := by rw [← hA4]; exact (((b1'.alloc _).alloc _).alloc _).alloc _
  have b2 : Boxed A4 w1.heap.size 39 (.slice (some ⟨w.heap.size + 1 + 1, 0, none⟩) n n) := by rw [← hA4]; exact (((Boxed.new w1 _ _).alloc _).alloc _).alloc _
  have b3 : Boxed A4 (w1.heap.size + 1 + 1) 39 (.slice (some ⟨w1.heap.size + 1, 0, none⟩) 0 0) := by rw [← hA4]; exact (boxed_at _ _ _ (by simp)).alloc _
  have b4 : Boxed A4 (w1.heap.size + 1 + 1 + 1) 39 (.slice aa n cap) := by rw [← hA4]; exact boxed_at _ _ _ (by simp)
  have hB4 : Below w.heap.size w A4 := by
    rw [← hA4]
    exact (((hBw1.alloc hBw1.size _).alloc (by simp; omega) _).alloc (by simp; omega) _).alloc (by simp; omega) _
  have hq4 : A4.ownsRow w.heap.size 3 1 (.slice (some ⟨w.heap.size + 1 + 1, 0, none⟩) n n) n (intsOf (List.replicate n 0)) := by
    rw [← hA4]
    exact (((hown1.alloc _).alloc _).alloc _).alloc _
  have ho4 : A4.ownsRow (w1.heap.size + 1) 3 1 (.slice (some ⟨w1.heap.size + 1, 0, none⟩) 0 0) 0 [] := by
    rw [← hA4]
    refine World.ownsRow.alloc (World.ownsRow.alloc ?_ _) _
    have := World.ownsRow_lit (base := w1.heap.size + 1) (e := 3) (size := 1) (w1.alloc (.cells #[.slice (some ⟨w.heap.size + 1 + 1, 0, none⟩) n n] 39)) #[] 0 (by simp) (by decide) rfl
    simpa using this
  rw [hA4]
  clear hA4 b0' b1' hown1 hBw1
  refine rangeB (sa := aa) (cap := cap) (fun k d => ∃ h : k < a.length, d = a[k]) rfl (show n ≤ 1000000 by omega) rfl
    (fun k W => (∃ (vr : Value) (R : Nat) (Q : List Int), (Boxed W w.heap.size 39 (.slice ac c.length cap') ∧ Boxed W (w.heap.size + 1) 3 (.int .i64 b) ∧ Boxed W w1.heap.size 39 (.slice (some ⟨w.heap.size + 1 + 1, 0, none⟩) n n) ∧ Boxed W (w1.heap.size + 1 + 1) 39 vr ∧ Boxed W (w1.heap.size + 1 + 1 + 1) 39 (.slice aa n cap)) ∧
      (Q.length = n ∧ AllD b Q ∧ (∀ j (hj : j < Q.length), j < k → Q[j] = 0) ∧ R < C ∧ vl b (a.drop k) = vl b (Q.drop k) * C + R) ∧
      W.ownsRow w.heap.size 3 1 (.slice (some ⟨w.heap.size + 1 + 1, 0, none⟩) n n) n (intsOf Q) ∧ W.ownsRow (w1.heap.size + 1) 3 1 vr (dg b R).length (intsOf (dg b R))) ∧ Below w.heap.size w W)
    (fun cd k W => False)
    ?hI ?hIx ?h0 ?hrd (fun k d => { tmps := #[.slice aa n cap, .slice ac c.length cap', .int .i64 b, undef, .pointer (some ⟨w.heap.size, 0, none⟩), .pointer (some ⟨w.heap.size + 1, 0, none⟩), .slice none 0 0, .slice none 0 0, .pointer (some ⟨w1.heap.size, 0, none⟩), .pointer (some ⟨w1.heap.size + 1 + 1, 0, none⟩), .int .i64 k, .int .i64 d, .slice aa n cap, .int .i64 n, .slice (some ⟨w.heap.size + 1 + 1, 0, none⟩) n n, .slice (some ⟨w1.heap.size + 1, 0, none⟩) 0 0, .slice aa n cap, .func (.func 87) #[] #[.pointer (some ⟨w1.heap.size + 1 + 1 + 1, 0, none⟩)], .int .i64 k, .int .i64 d, undef, undef, undef, undef, undef, undef, undef, undef, undef, undef, undef, undef, undef, undef, undef, undef, undef, undef, undef, undef, undef, undef], defers := [] }) ?assign ?body ?done ?stop
  case hI =>
    refine OwnFrom.and (Own.from ?_ _) (ownFrom_below (Nat.le_refl _) (by omega))
    rintro s A C row ⟨vr, R, Q, ⟨x0, x1, x2, x3, x4⟩, hp, hq, ho⟩ hg hr
    exact ⟨vr, R, Q, ⟨boxed_own _ _ (fun _ : Unit => _) () A C row x0 hg hr, boxed_own _ _ (fun _ : Unit => _) () A C row x1 hg hr, boxed_own _ _ (fun _ : Unit => _) () A C row x2 hg hr, boxed_own _ _ (fun _ : Unit => _) () A C row x3 hg hr, boxed_own _ _ (fun _ : Unit => _) () A C row x4 hg hr⟩, hp, owned_own _ _ (fun _ : Unit => _) (fun _ => _) (fun _ => _) () A C row hq hg hr, owned_own _ _ (fun _ : Unit => _) (fun _ => _) (fun _ => _) () A C row ho hg hr⟩
  case hIx => exact fun cd s A C row hs hg hr => hs
  case h0 =>
    refine ⟨⟨_, 0, List.replicate n 0, ⟨b0, b1, b2, b3, b4⟩, ⟨by simp, fun d hd => ?_, fun j hj _ => by simp, hc0, ?_⟩, hq4, ?_⟩, hB4⟩
    · have := (List.mem_replicate.1 hd).2; subst this; omega
    · rw [HN.out, List.drop_length, List.drop_of_length_le (by simp)]; simp [vl, hv_nil]
    · rw [dg_zero]; exact ho4
  case hrd =>
    rintro k X ⟨⟨_, _, _, ⟨_, _, _, _, x4⟩, _⟩, hB⟩ hk
    refine ⟨x4.cell, fun j hj => ?_⟩
    have hja : j < a.length := by have := HN.out; omega
    obtain ⟨a', cap2, e', _, _, h3⟩ := HRA.out.ints
    injection e' with e1 e2 e3
    subst e1
    obtain ⟨ba, oa, rfl, hba, hcell⟩ := h3.resolve_left (fun e => by rw [e] at hja; simp at hja)
    exact ⟨a[j], ba, oa, rfl, ⟨hja, rfl⟩, by rw [hB.cell (p := ⟨ba, oa + j, none⟩) hba]; exact hcell j hja⟩
  case assign =>
    intro l k d W K hK
    gi_wp2
    exact hK
  case body =>
    rintro l k d W hk ⟨hka, rfl⟩ ⟨⟨vr, R, Q, ⟨x0, x1, x2, x3, x4⟩, ⟨hQl, hQA, hQz, hRC, hAV⟩, hq, ho⟩, hB⟩ hsz hbk
    have hxr := HA.out.1 _ (List.getElem_mem hka)
    have hvd := vl_drop HA.out.1 hka
    obtain ⟨x, hx⟩ : ∃ x : Nat, a[k] = (x : Int) := ⟨a[k].toNat, by omega⟩
    rw [hx] at hxr hvd ⊢
    rw [Int.toNat_natCast] at hvd
    have hxb : x < b := by omega
    obtain ⟨X, hX⟩ : ∃ X, X = R * b + x := ⟨_, rfl⟩
    have hX' : X = x + b * R := by rw [hX, Nat.mul_comm, Nat.add_comm]
    have hdb : ∀ d g : Nat, X = d * C + g → d < b := fun d g h => div_lt_b hxb hRC hX' h
    have hXB : X < b * C := by
      have h2 : b * (R + 1) ≤ b * C := Nat.mul_le_mul_left _ hRC
      rw [Nat.mul_add, Nat.mul_one] at h2
      omega
    have hrl := dg_len_le hb HC.out (show R < vl b c by have := HCC.out; omega)
    have hSC := implScaled_any vr (dg b R) b x b W hb hb16 (by omega) hb16 (by omega) (nrm_dg hb R) (RowAt.of_owns ho) (by omega)
    rw [vl_dg hb, ← hX] at hSC
    have HSC := Lib.hid hSC
    have HDB := Lib.hid hdb; have HXB := Lib.hid hXB
    have HQZ := Lib.hid (show ∀ j (hj : j < Q.length), j < k → Q[j] = 0 from fun j hj h => hQz j hj (by omega))
    have HQK := Lib.hid (show ∀ h : k < Q.length, Q[k] = 0 from fun h => hQz k h (by omega))
    have HSTEP := Lib.hid (fun (d g : Nat) (h : X = d * C + g) => show vl b (a.drop k) = (d + b * vl b (Q.drop (k + 1))) * C + g from div_step hvd hAV hX' h)
    have HQA := Lib.hid hQA; have HQL := Lib.hid hQl; have HQ := Lib.hid hq
    have hkn : (k : Int) < n := by omega
    have c0 := x0.cell; have c1 := x1.cell; have c2 := x2.cell; have c3 := x3.cell
    have X0 := Lib.hid x0; have X1 := Lib.hid x1; have X2 := Lib.hid x2; have X3 := Lib.hid x3; have X4 := Lib.hid x4
    clear x0 x1 x2 x3 x4 hvd hX hX' hdb hXB hSC hQz hQA hQl hq hAV ho b0 b1 b2 b3 b4 hB4 hq4 ho4 HRA hRC hrl
    gi_wp2
    refine (CallsIn.inRound l (callsIn_wide.2 HSC.out)).mono ?_
    rintro e W2 ⟨v', rfl, ho', hb'⟩
    obtain ⟨a2, cc2, e2, _, _⟩ := owns_form ho'
    subst e2
    obtain ⟨nl, hnl⟩ : ∃ nl, nl = (dg b X).length := ⟨_, rfl⟩
    rw [← hnl] at ho' ⊢
    have HNL := Lib.hid hnl
    have x3' := boxed_below X3.out hb' (by omega)
    have f3' := x3'.frozen
    have c3' := x3'.cell
    have HX3 := Lib.hid x3'
    have hs2 := hb'.size
    have HO := Lib.hid (owns_mono (owns_setLow ho' ⟨w1.heap.size + 1 + 1, 0, none⟩ (.slice a2 nl cc2) (show w1.heap.size + 1 + 1 < W.heap.size by omega)) (show w1.heap.size + 1 ≤ W.heap.size by omega))
    have HQ2 := Lib.hid (owns_setOff (owns_below HQ.out hb') ⟨w1.heap.size + 1 + 1, 0, none⟩ (.slice a2 nl cc2) (by simp [Value.ownBlock]; omega))
    have HB2 := Lib.hid ((hB.trans (hb'.mono hB.size)).setCell (p := ⟨w1.heap.size + 1 + 1, 0, none⟩) (show w.heap.size ≤ w1.heap.size + 1 + 1 by omega) (.slice a2 nl cc2))
    have HA2 := Lib.hid ((Area.below (A := A4.heap.size) (m := 2) hb' (by omega)).trans (Area.setCell ⟨w1.heap.size + 1 + 1, 0, none⟩ (.slice a2 nl cc2) (.inl (by simp; omega))))
    have HBW := Lib.hid hb'
    clear ho' hb' x3' hnl
    gi_wp2_with fail
    gi_loopg [] X (fun g wi => ∃ (vr : Value) (d : Nat), (Boxed wi w.heap.size 39 (.slice ac c.length cap') ∧ Boxed wi (w.heap.size + 1) 3 (.int .i64 b) ∧ Boxed wi w1.heap.size 39 (.slice (some ⟨w.heap.size + 1 + 1, 0, none⟩) n n) ∧ Boxed wi (w1.heap.size + 1 + 1) 39 vr ∧ Boxed wi (w1.heap.size + 1 + 1 + 1) 39 (.slice aa n cap)) ∧
      X = d * C + g ∧ wi.ownsRow w.heap.size 3 1 (.slice (some ⟨w.heap.size + 1 + 1, 0, none⟩) n n) n (intsOf (Q.set k d)) ∧ wi.ownsRow (w1.heap.size + 1) 3 1 vr (dg b g).length (intsOf (dg b g)) ∧ Below w.heap.size w wi ∧ Area A4.heap.size 2 W wi ∧ W.heap.size ≤ wi.heap.size)
    case atStart =>
      refine ⟨_, 0, ⟨(boxed_below X0.out HBW.out (by omega)).other (by omega) _, (boxed_below X1.out HBW.out (by omega)).other (by omega) _, (boxed_below X2.out HBW.out (by omega)).other (by omega) _, HX3.out.set _, (boxed_below X4.out HBW.out (by omega)).other (by omega) _⟩, by simp, ?_, ?_, HB2.out, HA2.out, by simp; omega⟩
      · rw [show Q.set k ((0 : Nat) : Int) = Q by rw [show ((0 : Nat) : Int) = Q[k]'(by have := HQL.out; omega) by rw [HQK.out (by have := HQL.out; omega)]; rfl]; exact List.set_getElem_self _]
        exact HQ2.out
      · rw [← HNL.out]; exact HO.out
    case round =>
      obtain ⟨vr, d, ⟨x0, x1, x2, x3, x4⟩, hXd, hq, ho, hBi, hAi, hsi⟩ := hrel
      have hd := HDB.out d _ hXd
      have hNg := nrm_dg hb gk
      have hlg : (dg b gk).length ≤ 1100 := by
        have := dg_len_le' (n := gk) hb HC.out (by have := HCC.out; omega) (by have := HXB.out; rw [← HCC.out]; omega)
        omega
      have hRow := RowAt.of_owns ho
      have hRCw := HRC.out.below hBi
      have hCM := implCompare_any vr (.slice ac c.length cap') (dg b gk) c b wr hb hNg HC.out hRow hRCw (by omega) (by omega)
      rw [vl_dg hb, ← HCC.out] at hCM
      have HCM := Lib.hid hCM
      have c0 := x0.cell; have c1 := x1.cell; have c2 := x2.cell; have c3 := x3.cell
      have X0 := Lib.hid x0; have X1 := Lib.hid x1; have X2 := Lib.hid x2; have X3 := Lib.hid x3; have X4 := Lib.hid x4
      have HXD := Lib.hid hXd; have HRow := Lib.hid hRow; have HRCw := Lib.hid hRCw; have HQ := Lib.hid hq; have HO := Lib.hid ho
      have HBi := Lib.hid hBi; have HAi := Lib.hid hAi; have HLG := Lib.hid hlg; have HNG := Lib.hid hNg
      clear x0 x1 x2 x3 x4 hXd hq ho hBi hAi hRow hRCw hCM hlg hNg
      by_cases hge : C ≤ gk
      · have hcm := cmp_ge hge
        obtain ⟨z, hz⟩ : ∃ z, z = cmpN gk C := ⟨_, rfl⟩
        rw [← hz] at HCM hcm
        have hcm' : 0 ≤ z := by omega
        have HGE := Lib.hid hge
        clear hz hcm hge
        gi_wp2_with fail
        refine (CallsIn.inRound l (callsIn_wide.2 HCM.out)).mono ?_
        rintro e w2 ⟨rfl, hb2⟩
        have hs2' := hb2.size
        have hMI := implMinus_any vr (.slice ac c.length cap') (dg b gk) c b w2 hb hb16 HNG.out HC.out (by rw [vl_dg hb, ← HCC.out]; exact HGE.out) (HRow.out.below hb2) (HRCw.out.below hb2) (by have := HLG.out; omega)
        rw [vl_dg hb, ← HCC.out] at hMI
        have HMI := Lib.hid hMI
        have c0' := (boxed_below X0.out hb2 (by omega)).cell
        have c1' := (boxed_below X1.out hb2 (by omega)).cell
        have c3' := (boxed_below X3.out hb2 (by omega)).cell
        have HB2 := Lib.hid hb2
        clear hMI hb2
        gi_wp2_with fail
        refine (CallsIn.inRound l (callsIn_wide.2 HMI.out)).mono ?_
        rintro e w3 ⟨v3, rfl, ho3, hb3⟩
        obtain ⟨a3, cc3, e3, _, _⟩ := owns_form ho3
        subst e3
        obtain ⟨n3, hn3⟩ : ∃ n3, n3 = (dg b (gk - C)).length := ⟨_, rfl⟩
        rw [← hn3] at ho3 ⊢
        have HN3 := Lib.hid hn3
        have hbb := HB2.out.trans (hb3.mono HB2.out.size)
        have hs3 := hbb.size
        have x3 := boxed_below X3.out hbb (by omega)
        have x2 := boxed_below X2.out hbb (by omega)
        have f3 := x3.frozen
        have c3'' := x3.cell
        have c2'' := x2.cell
        have hq3 := owns_below HQ.out hbb
        have hqk : (intsOf (Q.set k d))[k]? = some (.int .i64 d) := by
          rw [intsOf_get (by have := HQL.out; simp; omega)]; simp
        have cq := (hq3.cellAt k (by omega)).trans hqk
        have fq : w3.frozen? ⟨w.heap.size + 1 + 1, k, none⟩ = false := hq3.frozenAt k
        have hq3' := owns_setOff hq3 ⟨w1.heap.size + 1 + 1, 0, none⟩ (.slice a3 n3 cc3) (by simp [Value.ownBlock]; omega)
        have cq' := (hq3'.cellAt k (by omega)).trans hqk
        have fq' : (w3.setCell ⟨w1.heap.size + 1 + 1, 0, none⟩ (.slice a3 n3 cc3)).frozen? ⟨w.heap.size + 1 + 1, k, none⟩ = false := hq3'.frozenAt k
        have x2' := boxed_setOff x2 ⟨w1.heap.size + 1 + 1, 0, none⟩ (.slice a3 n3 cc3) (show w1.heap.size + 1 + 1 ≠ w1.heap.size by omega)
        have c2n := x2'.cell
        have hq4 := (hq3'.stored k (.int .i64 ((d : Int) + 1))).1
        rw [intsOf_set, List.set_set] at hq4
        have HQ4 := Lib.hid hq4
        have HX3 := Lib.hid x3
        have HX2 := Lib.hid x2'
        have HO3 := Lib.hid (owns_setLow (owns_setLow (owns_mono ho3 (show w1.heap.size + 1 + 1 + 1 ≤ w2.heap.size by omega)) ⟨w1.heap.size + 1 + 1, 0, none⟩ (.slice a3 n3 cc3) (show w1.heap.size + 1 + 1 < w1.heap.size + 1 + 1 + 1 by omega)) ⟨w.heap.size + 1 + 1, k, none⟩ (.int .i64 ((d : Int) + 1)) (show w.heap.size + 1 + 1 < w1.heap.size + 1 + 1 + 1 by omega))
        have HBB := Lib.hid hbb
        have HXN := Lib.hid (show X = (d + 1) * C + (gk - C) by rw [Nat.add_mul, Nat.one_mul]; have := HXD.out; have := HGE.out; omega)
        have hlt : gk - C < gk := by have := HGE.out; omega
        clear hn3 hbb x3 x2 x2' hq3 hq3' hq4 ho3 hb3 hqk
        gi_wp2_with fail
        gi_roundg (gk - C)
        case measure => exact hlt
        case rel =>
          refine ⟨.slice a3 n3 cc3, d + 1, ⟨boxed_setOff ((boxed_below X0.out HBB.out (by omega)).other (by omega) _) _ _ (show w.heap.size + 1 + 1 ≠ w.heap.size by omega), boxed_setOff ((boxed_below X1.out HBB.out (by omega)).other (by omega) _) _ _ (show w.heap.size + 1 + 1 ≠ w.heap.size + 1 by omega), boxed_setOff HX2.out _ _ (show w.heap.size + 1 + 1 ≠ w1.heap.size by omega), boxed_setOff (HX3.out.set _) _ _ (show w.heap.size + 1 + 1 ≠ w1.heap.size + 1 + 1 by omega), boxed_setOff ((boxed_below X4.out HBB.out (by omega)).other (by omega) _) _ _ (show w.heap.size + 1 + 1 ≠ w1.heap.size + 1 + 1 + 1 by omega)⟩, HXN.out, HQ4.out, ?_,
            ((HBi.out.trans (HBB.out.mono HBi.out.size)).setCell (p := ⟨w1.heap.size + 1 + 1, 0, none⟩) (show w.heap.size ≤ w1.heap.size + 1 + 1 by omega) _).setCell (p := ⟨w.heap.size + 1 + 1, k, none⟩) (show w.heap.size ≤ w.heap.size + 1 + 1 by omega) _,
            ((HAi.out.trans (Area.below HBB.out (by omega))).trans (Area.setCell _ _ (.inl (by simp; omega)))).trans (Area.setCell _ _ (.inl (by simp; omega))), by simp; omega⟩
          rw [← HN3.out]
          exact owns_mono HO3.out (show w1.heap.size + 1 ≤ w1.heap.size + 1 + 1 + 1 by omega)
      · have hcm : cmpN gk C = -1 := cmp_lt (by omega)
        rw [hcm] at HCM
        have hlt : gk < C := by omega
        have HDR := Lib.hid (drop_set_self Q k (d : Int) (by have := HQL.out; omega))
        have HAD := Lib.hid (allD_set (j := k) HQA.out (show (0 : Int) ≤ d by omega) (show (d : Int) ≤ (b : Int) - 1 by omega))
        have hdl : AllD b ((d : Int) :: Q.drop (k + 1)) := by
          rw [← HDR.out]; exact fun y hy => HAD.out y (List.mem_of_mem_drop hy)
        have HVN := Lib.hid (show vl b (a.drop k) = vl b ((Q.set k (d : Int)).drop k) * C + gk by
          rw [HDR.out, vl_cons hdl, Int.toNat_natCast]
          exact HSTEP.out d gk HXD.out)
        have HZN := Lib.hid (show ∀ j (hj : j < (Q.set k (d : Int)).length), j < k → (Q.set k (d : Int))[j] = 0 from fun j hj h => by
          rw [List.getElem_set, if_neg (by omega)]
          exact HQZ.out j (by simpa using hj) h)
        clear hcm hge hdl
        gi_wp2_with fail
        refine (CallsIn.inRound l (callsIn_wide.2 HCM.out)).mono ?_
        rintro e w2 ⟨rfl, hb2⟩
        have hs2' := hb2.size
        have HB2 := Lib.hid hb2
        clear hb2
        gi_wp2_with fail
        exact ⟨HAi.out.trans (Area.below HB2.out (by omega)), ⟨vr, gk, Q.set k d, ⟨boxed_below X0.out HB2.out (by omega), boxed_below X1.out HB2.out (by omega), boxed_below X2.out HB2.out (by omega), boxed_below X3.out HB2.out (by omega), boxed_below X4.out HB2.out (by omega)⟩,
          ⟨by rw [List.length_set]; exact HQL.out, HAD.out, HZN.out, hlt, HVN.out⟩, owns_below HQ.out HB2.out, owns_below HO.out HB2.out⟩, HBi.out.trans (HB2.out.mono HBi.out.size)⟩
  case done =>
    rintro D W hD ⟨⟨vr, R, Q, ⟨x0, x1, x2, x3, x4⟩, ⟨hQl, hQA, hQz, hRC, hAV⟩, hq, ho⟩, hB⟩ hK
    rw [List.drop_zero, List.drop_zero] at hAV
    have e1 : vl b Q = vl b a / C := by
      rw [hAV, Nat.mul_comm, Nat.mul_add_div hc0, Nat.div_eq_of_lt hRC, Nat.add_zero]
    have e2 : R = vl b a % C := by
      rw [hAV, Nat.mul_comm, Nat.mul_add_mod, Nat.mod_eq_of_lt hRC]
    rw [← hQl] at hq
    have HT := Lib.hid (fun q => implTrim_q (some ⟨w.heap.size + 1 + 1, 0, none⟩) Q.length Q b w.heap.size W q hb hQA hq (by omega))
    have hto := trim_owns hb hQA hq
    rw [e1] at HT hto
    rw [e2] at ho
    rw [hQl] at HT hto
    have hD' : w1.heap.size + 4 ≤ D := by omega
    have hsz := hB.size
    have hKl := heap_lt_of_some hK
    have c2 := x2.cell; have c3 := x3.cell
    have HTO := Lib.hid hto; have HO := Lib.hid ho
    have HAP := Lib.hid (show Apart (.slice (some ⟨w.heap.size + 1 + 1, 0, none⟩) (dg b (vl b a / C)).length n) vr from fun k h h' => by
      simp [Value.ownBlock] at h
      have := (ho.lt k h').1
      omega)
    have HBB := Lib.hid (hB.trans (below_putObj (l := D) (X := W) (.deferred none) (show w.heap.size ≤ D by omega) hsz))
    clear x0 x1 x2 x3 x4 hAV e1 e2 hq hto ho hQA hQz b0 b1 b2 b3 b4 hB4 hq4 ho4 HRA
    gi_wp2_with fail
    gi_quiet ((gi_at_call 81; exact CallsIn.quiet_of_same (callsIn_wide.2 (HT.out _))))
    gi_wp2_with fail
    have hK' : (W.drewN nq).heap[D]? = some (.deferred (some [])) := hK
    refine ⟨by simp, .inl ⟨_, _, rfl, run_takeDeferred hK', ?_⟩⟩
    refine ⟨.tuple #[.slice (some ⟨w.heap.size + 1 + 1, 0, none⟩) (dg b (vl b a / C)).length n, vr], ?_, ⟨_, _, rfl, owns_shut (owns_drewN HTO.out nq) hK', owns_shut (owns_mono (owns_drewN HO.out nq) (by omega)) hK', HAP.out, ?_⟩⟩
    · simp [results, Try.f48, go_sem]
    · exact (below_drewN hB nq).trans (below_putObj _ (by omega) (show w.heap.size ≤ (W.drewN nq).heap.size from hsz))
  case stop =>
    rintro D c k W hD hk hj hK
    exact hj.elim

end Go.Proofs.Ytdflpocnfodbhab
