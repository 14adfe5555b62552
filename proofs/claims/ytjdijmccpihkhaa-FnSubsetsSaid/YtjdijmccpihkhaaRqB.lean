/- The digits of a number, one by one, beside leavers: the function that is ranged over. -/
import Derived.Test.YtjdijmccpihkhaaDgS
import Derived.Test.YtjdijmccpihkhaaSbT
import Derived.Test.YtjdijmccpihkhaaBel
import Derived.Test.YtjdijmccpihkhaaRqA
import Derived.RangeFuncBox
import Derived.RangeFuncNested
set_option linter.unusedVariables false
set_option linter.unusedSimpArgs false
set_option maxRecDepth 100000
namespace Go.Proofs.Ytjdijmccpihkhaa
open Go.Conc Go.ChangeShapes Go.WideShapes Go.ChangeAt Go.RowKit

theorem plain0 {fn : Func} (h : fn.results = #[]) : PlainRes fn := fun tm => ⟨.tuple #[], by simp [results, h]⟩

/-- what one call of yield does: the sum goes on -/
def Yields (P : Program) (l : Nat) (r : Loop) (I : Int → World → Prop) : Prop :=
  ∀ (s x : Int) (W : World), I s W → 0 ≤ x → x ≤ 15 → 0 ≤ s → s + x ≤ 1000000000000 → ∀ (c : Frame) (cs : List Frame),
    To P (Back c (fun v W' => v = .bool true ∧ I (s + x) W') cs) (G (Frame.round l r.fn ((r.params.zip #[.int .i64 x]).foldl (fun tmps (t, v) => tmps.setIfInBounds t v) r.tmps) r.assign r.body .normal) (c :: cs)) W

theorem dg_sum_le {b : Nat} (hb : 2 ≤ b) : ∀ (m n : Nat), n ≤ m → 0 ≤ (dg b n).sum ∧ (dg b n).sum ≤ n
  | 0, n, h => by
    have : n = 0 := by omega
    subst this; rw [dg_zero]; simp
  | m + 1, n, h => by
    by_cases h0 : n = 0
    · subst h0; rw [dg_zero]; simp
    · have hlt := Nat.div_lt_self (show 0 < n by omega) hb
      obtain ⟨h1, h2⟩ := dg_sum_le hb m (n / b) (by omega)
      have h3 := Nat.div_add_mod n b
      have h4 : n / b ≤ b * (n / b) := Nat.le_mul_of_pos_left _ (by omega)
      rw [dg_step hb h0, List.sum_cons]
      omega

set_option maxHeartbeats 4000000 in
theorem each_b (b bn bb l : Nat) (I : Int → World → Prop) (r : Loop) (hb2 : 2 ≤ b) (hb16 : b ≤ 16)
    (hre : ∀ s W (τ : Nat → Question → Nat) d, I s W → I s (re W τ d))
    (hcb : ∀ s W, I s W → W.cell? ⟨bb, 0, none⟩ = some (.int .i64 b)) (hl : ∀ s W, I s W → W.heap[l]? = some (.loop r)) (hs : r.params.size = 1)
    (hY : Yields Try.prog l r I) (n : Nat) (hn : n ≤ 1000000000000) (W : World) (hI : I 0 W) (hcn : W.cell? ⟨bn, 0, none⟩ = some (.int .i64 n)) :
    BCalls Try.prog 52 #[.func (.yield l) #[] #[], .pointer (some ⟨bn, 0, none⟩), .pointer (some ⟨bb, 0, none⟩)] W fun v W' => I (dg b n).sum W' := by
  refine bcalls_of_wb Try.func52 rfl (plain0 rfl) ?_
  simp only [Try.ntmps52, List.size_toArray, List.length_cons, List.length_nil, Nat.reduceAdd, Nat.reduceSub, Array.replicate_succ, Array.replicate_zero, List.push_toArray, List.append_toArray, List.nil_append, List.cons_append]
  have hways := bodyPost_ways (P := Try.prog) (fn := Try.f52) (R := fun v W' => I (dg b n).sum W')
  have hQ : ∀ (t : Array Value) (w' : World), I (dg b n).sum w' → bodyPost Try.prog Try.f52 (fun e w' => ∃ v, e = .returned v ∧ I (dg b n).sum w') .normal ⟨t, []⟩ w' := by
    intro t w' h
    exact ⟨rfl, _, results_none rfl _ _ _, _, rfl, h⟩
  obtain ⟨Z, hZ⟩ : ∃ Z, Z = (dg b n).sum := ⟨_, rfl⟩
  rw [← hZ] at hways hQ ⊢
  generalize bodyPost Try.prog Try.f52 (fun e w' => ∃ v, e = .returned v ∧ I Z w') = Q at hways hQ ⊢
  have hnz : (n : Int) ≤ 1000000000000 := by omega
  refine wb_first tameSb (by kernel_rfl) hways fun σ => ?_
  have hcnσ : (re W σ 0).cell? ⟨bn, 0, none⟩ = some (.int .i64 n) := hcn
  go_wp2_with fail
  refine wb_re _ _ ?_
  clear hcnσ σ
  have hZn : Z ≤ n := by rw [hZ]; exact (dg_sum_le hb2 n n (Nat.le_refl _)).2
  intro b0 k cs hk
  refine ctl_step rfl (fun W => stepG_block) ?_
  refine loop_to (fun m a w => ∃ s u6 u7 u8 u9 u10 u11 u12 u13 u14 u15 u16, a = ⟨#[.func (.yield l) #[] #[], .pointer (some ⟨bn, 0, none⟩), .pointer (some ⟨bb, 0, none⟩), undef, .int .i64 m, .int .i64 n, u6, u7, u8, u9, u10, u11, u12, u13, u14, u15, u16], []⟩ ∧ m ≤ n ∧ 0 ≤ s ∧ s + (dg b m).sum = Z ∧ I s w) ?_ (m := n) ⟨0, undef, undef, undef, undef, undef, undef, undef, undef, undef, undef, undef, rfl, Nat.le_refl _, Int.le_refl _, by rw [hZ]; omega, hI⟩
  rintro m a w ⟨s, u6, u7, u8, u9, u10, u11, u12, u13, u14, u15, u16, rfl, hmn, hs0, hsum, hIw⟩
  refine ctl_step rfl (fun W => stepG_seq) ?_
  refine ctl_step rfl (fun W => stepG_seq) ?_
  by_cases h0 : m = 0
  · subst h0
    have hz : I Z w := by
      rw [← hsum, dg_zero, List.sum_nil, Int.add_zero]; exact hIw
    refine piece_to tameSb hk (by kernel_rfl) fun σ => ?_
    go_wp2_with fail
    refine to_re _ _ ?_
    clear σ
    refine ctl_step rfl (fun W => stepG_cond rfl) ?_
    refine ctl_step rfl (fun W => stepG_exit rfl) ?_
    exact .here (.inl (.inl ⟨_, rfl, w.tape, w.drawn, hQ _ _ hz⟩))
  · have hpos : (0 : Int) < m := by omega
    have hm9 : (m : Int) ≤ 1000000000000 := by omega
    have hrem : (m : Int).tmod b = ((m % b : Nat) : Int) := by rw [Int.tmod_eq_emod_of_nonneg (by omega)]; rfl
    have hquo : (m : Int).tdiv b = ((m / b : Nat) : Int) := by rw [Int.tdiv_eq_ediv_of_nonneg (by omega)]; rfl
    have hlt := Nat.mod_lt m (show 0 < b by omega)
    have hdiv := Nat.div_lt_self (show 0 < m by omega) hb2
    rw [dg_step hb2 h0, List.sum_cons] at hsum
    obtain ⟨d, hd⟩ : ∃ d, d = m % b := ⟨_, rfl⟩
    obtain ⟨q, hq⟩ : ∃ q, q = m / b := ⟨_, rfl⟩
    rw [← hd] at hrem hlt hsum
    have hqs := (dg_sum_le hb2 (m / b) (m / b) (Nat.le_refl _)).1
    rw [← hq] at hquo hdiv hsum hqs
    have hb0 : ¬ b = 0 := by omega
    have hbz : (b : Int) ≠ 0 := by omega
    have hbq : ((b : Int) == 0) = false := by simp; omega
    have hdI : (0 : Int) ≤ d := by omega
    have hd15 : (d : Int) ≤ 15 := by omega
    have hb9 : (b : Int) ≤ 16 := by omega
    clear hd hq h0
    refine piece_to tameSb hk (by kernel_rfl) fun σ => ?_
    go_wp2_with fail
    refine to_re _ _ ?_
    clear σ
    refine ctl_step rfl (fun W => stepG_cond (t := true) (by show Value.bool (decide _) = Value.bool true; congr 1; exact decide_eq_true (by omega))) ?_
    refine ctl_step rfl (fun W => stepG_skip) ?_
    refine ctl_step rfl (fun W => stepG_seq) ?_
    refine ctl_step rfl (fun W => stepG_block) ?_
    refine ctl_step rfl (fun W => stepG_seq) ?_
    refine ctl_step rfl (fun W => stepG_region) ?_
    simp only [List.size_toArray, List.length_cons, List.length_nil, Nat.reduceAdd, Nat.zero_add, List.range, List.range.loop]
    have hc : ∀ σ : Nat → Question → Nat, (re w σ 0).cell? ⟨bb, 0, none⟩ = some (.int .i64 b) := fun σ => hcb s w hIw
    refine op_to tameSb rfl rfl hk rfl (fun K hK σ => ?_)
    go_simp
    refine hK _ _ ?_
    clear hK K
    refine to_re _ _ ?_
    clear σ
    refine op_to tameSb rfl rfl hk rfl (fun K hK σ => ?_)
    go_simp
    refine hK _ _ ?_
    clear hK K
    refine to_re _ _ ?_
    clear σ
    refine op_to tameSb rfl rfl hk rfl (fun K hK σ => ?_)
    have hcσ := hc σ
    go_simp
    refine hK _ _ ?_
    clear hK K
    refine to_re _ _ ?_
    clear hcσ σ
    refine op_to tameSb rfl rfl hk rfl (fun K hK σ => ?_)
    go_simp
    refine hK _ _ ?_
    clear hK K
    refine to_re _ _ ?_
    clear σ
    refine yield_next rfl rfl hk rfl rfl (hl s w hIw) (by rw [hs]; simp) (fun c cs' => by simp only [List.map_toArray, List.map_cons, List.map_nil]; exact hY s d w hIw hdI hd15 hs0 (by omega) c cs') ?_
    rintro v w1 ⟨rfl, hI1⟩
    have hc1 : ∀ σ : Nat → Question → Nat, (re w1 σ 0).cell? ⟨bb, 0, none⟩ = some (.int .i64 b) := fun σ => hcb _ w1 hI1
    clear hc
    refine op_to tameSb rfl rfl hk rfl (fun K hK σ => ?_)
    go_simp
    refine hK _ _ ?_
    clear hK K
    refine to_re _ _ ?_
    clear σ
    refine ctl_step rfl (fun W => stepG_region_end) ?_
    refine ctl_step rfl (fun W => stepG_cond rfl) ?_
    refine ctl_step rfl (fun W => stepG_skip) ?_
    refine ctl_step rfl (fun W => stepG_inBlock) ?_
    refine piece_to tameSb hk (by kernel_rfl) fun σ => ?_
    have hcσ := hc1 σ
    go_wp2_with fail
    refine to_re _ _ ?_
    clear hcσ σ
    exact .here (.inr ⟨q, _, w1.tape, w1.drawn, hdiv, rfl, s + d, _, _, _, _, _, _, _, _, _, _, _, rfl, by omega, by omega, by omega, hI1⟩)

/-! ### the sum -/
theorem boxed_put {W : World} {B l : Nat} {t : TypeId} {v : Value} (h : Boxed W B t v) (o : Obj) (hne : B ≠ l) : Boxed (W.putObj l o) B t v := (World.putObj_heap_other hne).trans h
/-- what holds between the rounds of the sum: the box, the record, the block for deferred calls -/
structure SumI (sb D l bn bb n b : Nat) (r : Loop) (W0 : World) (s : Int) (W : World) : Prop where
  box : Boxed W sb 3 (.int .i64 s)
  rc : W.heap[l]? = some (.loop r)
  dfr : W.heap[D]? = some (.deferred (some []))
  cn : Boxed W bn 3 (.int .i64 n)
  cb : Boxed W bb 3 (.int .i64 b)
  bel : Bel sb W0 W
theorem SumI.re {sb D l bn bb n b : Nat} {r : Loop} {W0 : World} {s : Int} {W : World} (h : SumI sb D l bn bb n b r W0 s W) (τ : Nat → Question → Nat) (d : Nat) : SumI sb D l bn bb n b r W0 s (re W τ d) :=
  ⟨h.box, h.rc, h.dfr, h.cn, h.cb, bel_to h.bel τ d⟩
theorem call_rec {P : Program} {f : FuncId} {args : Array Value} {w1 : World} {o : Obj} {r : Loop} {R : Value → World → Prop} (h : ∀ r', r' = r → BCalls P f args ((w1.alloc o).alloc (.loop r')) R) : BCalls P f args ((w1.alloc o).alloc (.loop r)) R := h r rfl
theorem bel_put {B : Nat} {w w' : World} (h : Bel B w w') (l : Nat) (o : Obj) (hl : B ≤ l) (hs : B ≤ w'.heap.size) : Bel B w (w'.putObj l o) :=
  h.trans (bel_of ((Below.refl B w').grown (grownBy_putObj' w' l o) hs (fun k e => by cases e; exact hl)))
theorem bel_set {B : Nat} {w w' : World} (h : Bel B w w') (p : Addr) (v : Value) (hl : B ≤ p.block) : Bel B w (w'.setCell p v) :=
  h.trans (bel_of ((Below.refl B w').setCell (p := p) hl v))
theorem put_cells {W : World} {k l : Nat} {o o' : Obj} (h : W.heap[k]? = some o) (hne : k ≠ l) : (W.putObj l o').heap[k]? = some o := (World.putObj_heap_other hne).trans h
theorem set_cells {W : World} {k : Nat} {p : Addr} {v : Value} {o : Obj} (h : W.heap[k]? = some o) (hne : k ≠ p.block) : (W.setCell p v).heap[k]? = some o := (Below.heap_setCell W p v k hne).trans h

theorem round_to {P : Program} {T : Goroutine → World → Prop} {l : Nat} {r : Loop} {tm tm' : Array Value} {A B : Code} {cs : List Frame} {w : World} (hA : r.assign = A) (hB : r.body = B) (ht : tm = tm')
    (h : ∀ bR : Frame, bR.kind = .normal → bR.roundOf = some l → To P T (G (bR.atR ⟨tm', []⟩ [.code A, .beginRound, .code B]) cs) w) : To P T (G (Frame.round l r.fn tm r.assign r.body .normal) cs) w := by
  subst ht hA hB
  exact h { (default : Frame) with fn := r.fn, kind := .normal, roundOf := some l } rfl rfl

/-- the world by a letter -/
theorem rec_step {P : Program} {T : Goroutine → World → Prop} {g : Goroutine} {W : World} {l : Nat} {o : Obj} (h : ∀ W2, W2 = W.putObj l o → To P T g W2) : To P T g (W.putObj l o) := h _ rfl

/-- from a body that ends with one mark among its deferred calls -/
theorem bcalls_mark {P : Program} {f : FuncId} {fn : Func} {c : Code} {args : Array Value} {w : World} {R : Value → World → Prop} (hf : P.funcs[f]? = some fn) (hb : fn.body = some c) (hres : PlainRes fn)
    (h : ∀ cs, To P (fun g w' => ∃ t D todo, g = G { (base f).at ⟨t, [{ target := .collected D, args := #[] }]⟩ todo with mode := .returning } cs ∧ w'.heap[D]? = some (.deferred (some [])) ∧ ∀ v, results fn t = (pure v : Sem Value) → R v (w'.putObj D (.deferred none)))
      (G ((base f).at { tmps := args ++ Array.replicate (fn.ntmps - args.size) undef, defers := [] } [.code c]) cs) w) : BCalls P f args w R := by
  intro c0 cs
  have hent : Frame.enter P f args .normal = (base f).at { tmps := args ++ Array.replicate (fn.ntmps - args.size) undef, defers := [] } [.code c] := by
    simp [Frame.enter, base, Frame.at, hf, hb]
  rw [hent]
  refine (h (c0 :: cs)).trans fun g w' ⟨t, D, todo, e, hD, hR⟩ => ?_
  subst e
  obtain ⟨v, hv⟩ := hres t
  refine mark_to rfl hD (ctl_step rfl (fun W => stepG_leave (b := base f) rfl rfl hf (by rw [hv]; rfl) (by rw [hv]; rfl)) (.here ⟨v, rfl, (w'.putObj D (.deferred none)).tape, (w'.putObj D (.deferred none)).drawn, ?_⟩))
  exact hR v hv

set_option maxHeartbeats 4000000 in
theorem sum_b (n b bn bb : Nat) (w : World) (hb2 : 2 ≤ b) (hb16 : b ≤ 16) (hn : n ≤ 1000000000000) (hcn : Boxed w bn 3 (.int .i64 n)) (hcb : Boxed w bb 3 (.int .i64 b)) :
    BCalls Try.prog 44 #[.func (.func 52) #[] #[.pointer (some ⟨bn, 0, none⟩), .pointer (some ⟨bb, 0, none⟩)]] w fun v w' => v = .int .i64 (dg b n).sum ∧ Bel w.heap.size w w' := by
  have ln := hcn.lt
  have lb := hcb.lt
  refine bcalls_mark Try.func44 rfl (plain1 (t := 2) rfl) fun cs => ?_
  simp only [Try.ntmps44, List.size_toArray, List.length_cons, List.length_nil, Nat.reduceAdd, Nat.reduceSub, Array.replicate_succ, Array.replicate_zero, List.push_toArray, List.append_toArray, List.nil_append, List.cons_append]
  refine ctl_step rfl (fun W => stepG_seq) ?_
  refine piece_to tameSb rfl (by kernel_rfl) fun σ => ?_
  go_wp2_with fail
  refine to_re _ _ ?_
  clear σ
  refine ctl_step rfl (fun W => stepG_seq) ?_
  refine piece_to tameSb rfl (by kernel_rfl) fun σ => ?_
  have hsz : (re w σ 0).heap.size = w.heap.size := rfl
  go_wp2_with fail
  refine to_re (w := w.alloc (.cells #[.int .i64 0] 3)) σ 0 ?_
  clear hsz σ
  have b0 := Boxed.new w 3 (.int .i64 0)
  have hB0 : Bel w.heap.size w (w.alloc (.cells #[.int .i64 0] 3)) := bel_of ((Below.refl _ w).alloc (Nat.le_refl _) _)
  have n0 := hcn.alloc (.cells #[.int .i64 0] 3)
  have c0 := hcb.alloc (.cells #[.int .i64 0] 3)
  refine ctl_step rfl (fun W => stepG_seq) ?_
  refine ctl_step rfl (fun W => stepG_seq) ?_
  refine piece_to tameSb rfl (by kernel_rfl) fun σ => ?_
  go_wp2_with fail
  refine to_re _ _ ?_
  clear σ
  refine ctl_step rfl (fun W => stepG_block) ?_
  obtain ⟨W1, hW1⟩ : ∃ W1, W1 = w.alloc (.cells #[.int .i64 0] 3) := ⟨_, rfl⟩
  have hs1 : W1.heap.size = w.heap.size + 1 := by rw [hW1]; simp
  rw [← hW1] at b0 hB0 n0 c0 ⊢
  clear hW1 hcn hcb
  obtain ⟨sb, hsb⟩ : ∃ sb, sb = w.heap.size := ⟨_, rfl⟩
  obtain ⟨D, hD⟩ : ∃ D, D = W1.heap.size := ⟨_, rfl⟩
  refine range_to rfl rfl Try.func52 rfl rfl (R := fun v W' => ∃ r : Loop, SumI sb D (D + 1) bn bb n b r w (dg b n).sum W' ∧ r.state = .ready ∧ r.pending = none) ?call ?next
  case call =>
    refine call_rec fun r hr => ?_
    have hY : Yields Try.prog (D + 1) r (SumI sb D (D + 1) bn bb n b r w) := by
      intro s x W hI hx0 hx15 hs0 hsx c cs'
      obtain ⟨bx, rc, df, cn, cb, bel⟩ := hI
      have hlr := heap_lt_of_some rc
      have hrs : r.state = .ready := by rw [hr]
      have hrr : ({ ({ r with state := .busy } : Loop) with state := .ready, pending := none } : Loop) = r := by rw [hr]
      refine round_to (by rw [hr]) (by rw [hr]) (tm' := #[.func (.func 52) #[] #[.pointer (some ⟨bn, 0, none⟩), .pointer (some ⟨bb, 0, none⟩)], undef, .int .i64 0, .pointer (some ⟨w.heap.size, 0, none⟩), undef, .func (.func 52) #[] #[.pointer (some ⟨bn, 0, none⟩), .pointer (some ⟨bb, 0, none⟩)], .int .i64 x, undef, undef, undef, undef]) (by rw [hr]; kernel_rfl) fun bR hk hro => ?_
      rw [← hsb]
      have d1 : sb < D := by omega
      have d2 : bn < sb := by omega
      have d3 : bb < sb := by omega
      have hw : IntKind.i64.wrap (s + x) = s + x := by rw [IntKind.wrap_i64]; omega
      clear hsb hD hs1 hr b0 hB0 n0 c0 ln lb
      refine ctl_step rfl (fun W => stepRg_region) ?_
      simp only [List.size_toArray, List.length_cons, List.length_nil, Nat.reduceAdd, Nat.zero_add, List.range, List.range.loop]
      refine opR_to tameSb rfl rfl hk rfl (fun K hK σ => ?_)
      go_simp
      refine hK _ _ ?_
      clear hK K
      refine to_re _ _ ?_
      clear σ
      refine ctl_step rfl (fun W => stepRg_region_end) ?_
      refine begin_to hk hro rc hrs ?_
      obtain ⟨W2, e2⟩ : ∃ W2, W2 = W.putObj (D + 1) (.loop { r with state := .busy }) := ⟨_, rfl⟩
      rw [← e2]
      have bx2 : Boxed W2 sb 3 (.int .i64 s) := by rw [e2]; exact boxed_put bx _ (by omega)
      have rc2 : W2.heap[D + 1]? = some (.loop { r with state := .busy }) := by rw [e2]; exact World.putObj_heap_same hlr
      have df2 : W2.heap[D]? = some (.deferred (some [])) := by rw [e2]; exact put_cells df (by omega)
      have cn2 : Boxed W2 bn 3 (.int .i64 n) := by rw [e2]; exact boxed_put cn _ (by omega)
      have cb2 : Boxed W2 bb 3 (.int .i64 b) := by rw [e2]; exact boxed_put cb _ (by omega)
      have hbs := bx.lt
      have be2 : Bel sb w W2 := by rw [e2]; exact bel_put bel (D + 1) _ (by omega) (by omega)
      clear e2 bx rc df cn cb bel hlr hbs
      refine ctl_step rfl (fun W => stepRg_block) ?_
      refine ctl_step rfl (fun W => stepRg_region) ?_
      simp only [List.size_toArray, List.length_cons, List.length_nil, Nat.reduceAdd, Nat.zero_add, List.range, List.range.loop]
      refine opR_to tameSb rfl rfl hk rfl (fun K hK σ => ?_)
      have cσ : (re W2 σ 0).cell? ⟨sb, 0, none⟩ = some (.int .i64 s) := bx2.cell
      go_simp
      refine hK _ _ ?_
      clear hK K cσ
      refine to_re _ _ ?_
      clear σ
      refine opR_to tameSb rfl rfl hk rfl (fun K hK σ => ?_)
      go_simp
      refine hK _ _ ?_
      clear hK K
      refine to_re _ _ ?_
      clear σ
      refine opR_to tameSb rfl rfl hk rfl (fun K hK σ => ?_)
      go_simp
      refine hK _ _ ?_
      clear hK K
      refine to_re _ _ ?_
      clear σ
      refine opR_to tameSb rfl rfl hk rfl (fun K hK σ => ?_)
      have cσ : (re W2 σ 0).cell? ⟨sb, 0, none⟩ = some (.int .i64 s) := bx2.cell
      have fσ : (re W2 σ 0).frozen? ⟨sb, 0, none⟩ = false := bx2.frozen
      go_simp
      refine hK _ _ ?_
      clear hK K cσ fσ
      refine to_re (w := W2.setCell ⟨sb, 0, none⟩ (.int .i64 (s + x))) σ 0 ?_
      clear σ
      refine ctl_step rfl (fun W => stepRg_region_end) ?_
      refine ctl_step rfl (fun W => stepRg_inBlock) ?_
      have hlt2 := heap_lt_of_some rc2
      have hbs := bx2.lt
      refine endRound_to hk hro (set_cells rc2 (by show D + 1 ≠ sb; omega)) ?_
      rw [hrr]
      refine .here ⟨_, rfl, w.tape, w.drawn, rfl, SumI.re ⟨?_, ?_, ?_, ?_, ?_, ?_⟩ _ _⟩
      · exact boxed_put (bx2.set _) _ (by omega)
      · exact World.putObj_heap_same (by simpa using hlt2)
      · exact put_cells (set_cells df2 (by show D ≠ sb; omega)) (by omega)
      · exact boxed_put (cn2.other (by omega) _) _ (by omega)
      · exact boxed_put (cb2.other (by omega) _) _ (by omega)
      · exact bel_put (bel_set be2 _ _ (Nat.le_refl _)) _ _ (by omega) (by simp; omega)
    have hI : SumI sb D (D + 1) bn bb n b r w 0 ((W1.alloc (.deferred (some []))).alloc (.loop r)) := by
      have e1 := World.alloc_heap_new W1 (.deferred (some []))
      have e2 := World.alloc_heap_new (W1.alloc (.deferred (some []))) (.loop r)
      rw [World.size_alloc, ← hD] at e2
      rw [← hD] at e1
      rw [← hsb] at b0
      have hB1 : Bel sb w W1 := by rw [hsb]; exact hB0
      refine ⟨(b0.alloc _).alloc _, e2, ?_, (n0.alloc _).alloc _, (c0.alloc _).alloc _, hB1.trans (bel_of (((Below.refl sb W1).alloc (by omega) _).alloc (by simp; omega) _))⟩
      exact (Below.heap_alloc _ _ D (by simp; omega)).trans e1
    have := each_b b bn bb (D + 1) (SumI sb D (D + 1) bn bb n b r w) r hb2 hb16 (fun s W τ d h => h.re τ d) (fun s W h => h.cb.cell) (fun s W h => h.rc) (by rw [hr]; rfl) hY n hn _ hI hI.cn.cell
    rw [hD] at this
    exact this.mono fun v W' h => ⟨r, by rw [hD]; exact h, by rw [hr], by rw [hr]⟩
  case next =>
    rintro v w2 ⟨r, hI, hr1, hr2⟩
    rw [← hD]
    refine endLoop_to hI.rc (by rw [hr1]; simp) hr2 ?_
    obtain ⟨bx, rc, df, cn, cb, bel⟩ := hI
    rw [← hsb]
    have d1 : sb < D := by omega
    have hbs := bx.lt
    have hbd := heap_lt_of_some df
    have hz := dg_sum_le hb2 n n (Nat.le_refl _)
    obtain ⟨Z, hZ⟩ : ∃ Z, Z = (dg b n).sum := ⟨_, rfl⟩
    rw [← hZ] at bx hz ⊢
    clear hsb hD hs1 b0 hB0 n0 c0 ln lb hZ hr1
    obtain ⟨W3, e3⟩ : ∃ W3, W3 = w2.putObj (D + 1) (.loop { r with state := .exhausted }) := ⟨_, rfl⟩
    rw [← e3]
    have bx3 : Boxed W3 sb 3 (.int .i64 Z) := by rw [e3]; exact boxed_put bx _ (by omega)
    have df3 : W3.heap[D]? = some (.deferred (some [])) := by rw [e3]; exact put_cells df (by omega)
    have be3 : Bel sb w W3 := by rw [e3]; exact bel_put bel (D + 1) _ (by omega) (by omega)
    have hz3 : sb ≤ W3.heap.size := by rw [e3]; simp; omega
    clear e3 bx rc df cn cb bel hbs hbd hr2
    refine ctl_step rfl (fun W => stepG_inBlock) ?_
    refine ctl_step rfl (fun W => stepG_seq) ?_
    refine ctl_step rfl (fun W => stepG_region) ?_
    simp only [List.size_toArray, List.length_cons, List.length_nil, Nat.reduceAdd, Nat.zero_add, List.range, List.range.loop]
    refine op_to tameSb rfl rfl rfl rfl (fun K hK σ => ?_)
    have cσ : (re W3 σ 0).cell? ⟨sb, 0, none⟩ = some (.int .i64 Z) := bx3.cell
    go_simp
    refine hK _ _ ?_
    clear hK K cσ
    refine to_re _ _ ?_
    clear σ
    refine op_to tameSb rfl rfl rfl rfl (fun K hK σ => ?_)
    go_simp
    refine hK _ _ ?_
    clear hK K
    refine to_re _ _ ?_
    clear σ
    refine ctl_step rfl (fun W => stepG_region_end) ?_
    refine ctl_step rfl (fun W => stepG_ret') (.here ⟨_, D, _, rfl, df3, fun v hv => ⟨?_, bel_put be3 D _ (by omega) hz3⟩⟩)
    have := hv
    simp [results] at this
    exact (Sem.pure.inj this).symm

end Go.Proofs.Ytjdijmccpihkhaa
