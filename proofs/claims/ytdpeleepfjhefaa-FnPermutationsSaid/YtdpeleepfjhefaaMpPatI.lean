/- Permutations: the program's permutation at a number, and the next one. -/
import Derived.Test.YtdpeleepfjhefaaLgCmp
import Derived.Test.YtdpeleepfjhefaaMpFac
import Derived.Test.YtdpeleepfjhefaaMxI0
import Derived.Test.YtdpeleepfjhefaaMpBack
import Derived.Stop.RegionWithIn
import Derived.WalkSpells
set_option linter.unusedVariables false
set_option linter.unusedSimpArgs false
set_option maxRecDepth 100000
namespace Go.Proofs.Ytdpeleepfjhefaa
open Go.ChangeShapes Go.WideShapes Go.ChangeAt Go.RowKit

/-! ### plain facts -/
/-- what is left behind some digits -/
def lft : List Int → List Int → List Int
  | [], left => left
  | k :: ds, left => lft ds (left.eraseIdx k.toNat)
theorem pat_append : ∀ (a b left : List Int), pat (a ++ b) left = pat a left ++ pat b (lft a left)
  | [], _, _ => rfl
  | k :: a, b, left => by rw [List.cons_append, pat, pat, lft, pat_append a b, List.cons_append]
theorem lft_snoc : ∀ (a left : List Int) (k : Int), lft (a ++ [k]) left = (lft a left).eraseIdx k.toNat
  | [], _, _ => rfl
  | j :: a, left, k => by rw [List.cons_append, lft, lft, lft_snoc a]
theorem lft_fit : ∀ {a b left : List Int}, FitD (a ++ b) left.length → FitD b (lft a left).length
  | [], _, _, h => h
  | k :: a, b, left, h => by
    cases left with
    | nil => exact h.elim
    | cons y s =>
      have hk : k.toNat < (y :: s).length := by have := h.1; simp; omega
      have hl : ((y :: s).eraseIdx k.toNat).length = s.length := by rw [List.length_eraseIdx_of_lt hk]; simp
      exact lft_fit (a := a) (b := b) (left := (y :: s).eraseIdx k.toNat) (by rw [hl]; exact h.2)
theorem lft_next {a b left : List Int} {k : Int} (h : FitD ((a ++ [k]) ++ b) left.length) : 0 ≤ k ∧ k.toNat < (lft a left).length := by
  rw [List.append_assoc] at h
  have h' := lft_fit h
  cases e : lft a left with
  | nil => rw [e] at h'; exact h'.elim
  | cons y s => rw [e] at h'; have := h'.1; simp; omega
theorem fitD_bits : ∀ {ds : List Int} {m : Nat}, FitD ds m → m ≤ 8 → ∀ d ∈ ds, 0 ≤ d ∧ d ≤ 7
  | [], _, _, _ => by simp
  | k :: ds, m + 1, h, hm => by
    intro d hd
    rcases List.mem_cons.1 hd with rfl | hd
    · have := h.1; omega
    · exact fitD_bits h.2 (by omega) d hd
  | _ :: _, 0, h, _ => h.elim
/-- the digits and the permutation, whatever the arguments -/
theorem pat_all (n m : Int) : FitD (rFactorialDigits0 n m).reverse (rFactorialDigits0 n m).length ∧ (rFactorialDigits0 n m).length ≤ 8 ∧ rPermutationAt0 n m = pat (rFactorialDigits0 n m).reverse (iot (rFactorialDigits0 n m).length) := by
  cases h : (inB m 1 8 && inB n 0 (fct m.toNat - 1))
  · rw [rFactorialDigits0, rPermutationAt0, h]
    exact ⟨trivial, by simp, rfl⟩
  · have h8 := (Bool.and_eq_true _ _ ▸ h : _ ∧ _).1
    have := inB_yes h8
    rw [rFactorialDigits0, rPermutationAt0, h, if_pos rfl, if_pos rfl, md_len, fr_len]
    exact ⟨(fit_rev _ _ (fit_mdP (allP_fr _) n)).1, by omega, rfl⟩

/-! ### a list of integers that grows, in a variable's own box -/
def ListV (R b : Nat) (v : Value) (xs : List Int) (w : World) : Prop :=
  b < R ∧ w.heap[b]? = some (.cells #[v] 23 (0, 0)) ∧ w.ownsRow R 3 1 v xs.length (intsOf xs) ∧ (xs = [] → v = .slice none 0 0)
theorem ListV.other {R b : Nat} {v : Value} {xs : List Int} {w w' : World} (h : ListV R b v xs w) (hk : ∀ k, b ≤ k → w'.heap[k]? = w.heap[k]?) : ListV R b v xs w' := by
  obtain ⟨h1, h2, h3, h4⟩ := h
  refine ⟨h1, by rw [hk b (Nat.le_refl _)]; exact h2, ⟨h3.1, ?_⟩, h4⟩
  rcases h3.2 with h0 | ⟨g, cap, cur, hv, hg, hh, r⟩
  · exact .inl h0
  · exact .inr ⟨g, cap, cur, hv, hg, by rw [hk g (by omega)]; exact hh, r⟩
theorem ListV.kept {R b : Nat} {v : Value} {xs : List Int} {w w' : World} {row : Option Nat} (h : ListV R b v xs w) (hg : w.grownBy w' row) (hr : ∀ r, row = some r → ∃ o : Obj, w.heap[r]? = some o ∧ o.isCells = false) : ListV R b v xs w' := by
  obtain ⟨h1, h2, h3, h4⟩ := h
  refine ⟨h1, (grownBy_keeps_cells hg hr h2 rfl).trans h2, h3.kept hg ?_, h4⟩
  rcases h3.2 with ⟨rfl, _⟩ | ⟨g, cap, cur, rfl, _, hgb, _⟩
  · exact .inl rfl
  · refine .inr fun e' => ?_
    obtain ⟨o, ho, hc⟩ := hr g (by simpa [Value.ownBlock] using e'.symm)
    rw [hgb] at ho; cases ho; cases hc
/-- one number more -/
theorem listV_step {R b : Nat} {v : Value} {xs : List Int} {w : World} (h : ListV R b v xs w) (hR : R ≤ w.heap.size) (hn : xs.length ≤ 1000) (X : Int) :
    ∃ v' w4, (Builtin.append_ #[23, 23] 23 #[v, .slice (some ⟨w.heap.size, 0, none⟩) 1 1]).run Try.prog (w.alloc (.cells #[.int .i64 X] 3)) = .ok v' w4 ∧
      w4.cell? ⟨b, 0, none⟩ = some v ∧ w4.frozen? ⟨b, 0, none⟩ = false ∧ ListV R b v' (xs ++ [X]) (w4.setCell ⟨b, 0, none⟩ v') ∧ Below b w (w4.setCell ⟨b, 0, none⟩ v') ∧ ∀ k, k < R → k ≠ b → (w4.setCell ⟨b, 0, none⟩ v').heap[k]? = w.heap[k]? := by
  obtain ⟨i0, hi, hz0, hz1, hz2⟩ := info_parts infoInt
  obtain ⟨h1, h2, h3, h4⟩ := h
  have hbl := heap_lt_of_some h2
  obtain ⟨v', w4, hrun, ho, hg, _, hat⟩ := run_append_own_at (P := Try.prog) _ R 23 23 3 i0 (.int .i64 0) 1 8 Try.underlying23 hi hz0 hz1 hz2 rfl (by decide) v xs.length (intsOf xs) (h3.alloc (.cells #[.int .i64 X] 3)) ⟨w.heap.size, 0, none⟩ 1 1 [.int .i64 X] rfl (one_cell _ _ _) (by intro u hu; simp at hu; subst hu; rfl) (by unfold maxLen; omega) (by omega) (by simp; omega)
  have hsz := hg.size
  rw [World.size_alloc] at hsz
  have hvR : ∀ k, v.ownBlock = some k → R ≤ k := fun k hk => (h3.lt k hk).1
  have hne : some b ≠ v.ownBlock := fun e => by have := hvR _ e.symm; omega
  have hbox : w4.heap[b]? = some (.cells #[v] 23 (0, 0)) := by
    rw [hg.block b (by simp; omega) hne, Below.heap_alloc w _ b (by omega)]; exact h2
  have hv' : ∀ k, v'.ownBlock = some k → R ≤ k := fun k hk => (ho.lt k hk).1
  have hset : ∀ k, k ≠ b → (w4.setCell ⟨b, 0, none⟩ v').heap[k]? = w4.heap[k]? := fun k hk => heap_setCell_other _ _ _ _ hk
  have hblk : ∀ k, k < R → k ≠ b → (w4.setCell ⟨b, 0, none⟩ v').heap[k]? = w.heap[k]? := fun k hk h5 => by
    rw [hset k h5, hg.block k (by simp; omega) (fun e => by have := hvR _ e.symm; omega), Below.heap_alloc w _ k (by omega)]
  refine ⟨v', w4, hrun, ?_, ?_, ⟨h1, ?_, ?_, fun e => by simp at e⟩, ⟨?_, ?_, ?_, ?_, ?_⟩, hblk⟩
  · rw [cell_of_row w4 b 0 _ _ _ hbox]; rfl
  · simp [World.frozen?, hbox]
  · rw [heap_setCell_same w4 b 0 _ _ _ hbox]; rfl
  · have ho' : w4.ownsRow R 3 1 v' (xs ++ [X]).length (intsOf (xs ++ [X])) := by simpa [intsOf] using ho
    exact owns_setOffM ho' ⟨b, 0, none⟩ v' (fun e => by have := hv' _ e; have h : R ≤ b := this; omega)
  · exact hg.os
  · exact hg.tape
  · exact hg.output
  · simp; omega
  · exact fun k hk => hblk k (by omega) (by omega)

/-- an append that comes up in a region that draws its order, by its run -/
theorem ready_append8 {F : Fence} {n : Nat} {P : Program} {ops : Array Oper} {o : Oper} {a : Act} {w w' : World} {K : Act → World → Prop} {Q : Exit → Act → World → Prop} {X : Prop} (hw : Region.wanted o (yielded ops a.tmps) = true) (sl x : Operand) (t : TypeId)
    (ho : o.op = .call { callee := .builtin .append, args := #[sl, x], argTypes := #[t, t] }) (v u v' : Value) (hs : a.eval sl = v) (hx : a.eval x = u) (hrun : (Builtin.append_ #[t, t] o.type #[v, u]).run P w = .ok v' w') (h : K (a.put o.dst v') w') :
    if Region.wanted o (yielded ops a.tmps) then o.wpIn F n P a w K Q else X := by
  rw [if_pos hw]
  unfold Oper.wpIn
  refine ⟨by simp [Oper.about, ho, resolve, Target.leads, Sem.run_pure], ?_⟩
  rw [Oper.semAt_plain F _ _ (by rw [ho]; intro c hc'; cases hc')]
  simp [execOp, ho, resolve, invoke, builtin, hs, hx, hrun, Result.andThen]
  exact h

theorem last_entersG : ∀ args w, (callFunc 55 args).run Try.prog w = .ok (.enter 55 args) w :=
  enters_of Try.func55 (by kernel_rfl) rfl

attribute [local go_sem] Oper.semAt_some wide_fn wide_depth

set_option maxRecDepth 100000 in
set_option maxHeartbeats 4000000 in
theorem permAt_any (n m : Int) (w : World) (hn : in64 n) (hm : in64 m) :
    Calls Try.prog 19 #[.int .i64 n, .int .i64 m] w fun e w' => ∃ v', e = .returned v' ∧ w'.ownsRow w.heap.size 3 1 v' (rPermutationAt0 n m).length (intsOf (rPermutationAt0 n m)) ∧ Below w.heap.size w w' ∧ (rPermutationAt0 n m = [] → v' = .slice none 0 0) := by
  have HC := Lib.hid (fun W => facDigits_any n m W hn hm)
  have HN := Lib.hid (And.intro hn hm)
  obtain ⟨hF, hD8, hP⟩ := pat_all n m
  rw [hP]
  obtain ⟨D, hDe⟩ : ∃ D, D = rFactorialDigits0 n m := ⟨_, rfl⟩
  rw [← hDe] at HC hF hD8 ⊢
  have HD := Lib.hid (fun d hd => fitD_bits hF hD8 d (List.mem_reverse.2 hd))
  have HF := Lib.hid hF
  clear hP hDe hF hn hm
  obtain ⟨M, hM⟩ : ∃ M, M = D.length := ⟨_, rfl⟩
  obtain ⟨RES, hRES⟩ : ∃ RES, RES = pat D.reverse (iot D.length) := ⟨_, rfl⟩
  rw [← hRES]
  have HRES := Lib.hid hRES
  have HM := Lib.hid hM
  clear hRES hM
  refine (callsIn_wide (n := 0)).1 ?_
  refine callsIn_of_wp_marks Try.func19 rfl trivial ?_ rfl
  simp only [Try.ntmps19, List.size_toArray, List.length_cons, List.length_nil, Nat.reduceAdd, Nat.reduceSub, Array.replicate_succ, Array.replicate_zero, List.push_toArray, List.append_toArray, List.nil_append, List.cons_append]
  gi_wp2_with fail
  refine (callsIn_wide.2 (HC.out w)).mono ?_
  rintro e w1 ⟨v1, rfl, hO1, hB1⟩
  have HR1 := Lib.hid (RowAt.of_owns hO1)
  obtain ⟨av, cv, rfl, _, _⟩ := owns_form hO1
  have HL1 := Lib.hid (fun W => linked_any D.length W hD8)
  have hs1 := hB1.size
  have HB1 := Lib.hid hB1
  clear hO1 hB1
  gi_wp2_with fail
  refine (callsIn_wide.2 (HL1.out w1)).mono ?_
  rintro e w2 ⟨rfl, hI2, hB2⟩
  have hs2 := hB2.size
  have hI2lt := hI2.lt
  have HI2 := Lib.hid hI2
  have HB2 := Lib.hid hB2
  clear hI2 hB2
  obtain ⟨w4, hw4⟩ : ∃ w4, w4 = (w2.alloc (.cells #[.pointer (some ⟨w1.heap.size, 0, none⟩)] 40)).alloc (.cells #[.slice none 0 0] 23) := ⟨_, rfl⟩
  have hs4 : w4.heap.size = w2.heap.size + 2 := by rw [hw4]; simp
  have hB4 : Below w2.heap.size w2 w4 := by rw [hw4]; exact ((Below.refl _ _).alloc (Nat.le_refl _) _).alloc (by simp) _
  have hb4 : w4.heap[w2.heap.size]? = some (.cells #[.pointer (some ⟨w1.heap.size, 0, none⟩)] 40 (0, 0)) := by
    rw [hw4, Below.heap_alloc _ _ _ (by simp)]; exact heap_alloc_new w2 _
  have hl4 : w4.heap[w2.heap.size + 1]? = some (.cells #[.slice none 0 0] 23 (0, 0)) := by
    rw [hw4]
    have := World.alloc_heap_new (w2.alloc (.cells #[.pointer (some ⟨w1.heap.size, 0, none⟩)] 40)) (.cells #[.slice none 0 0] 23)
    rwa [World.size_alloc] at this
  have hB14 : Below w1.heap.size w1 w4 := HB2.out.trans (hB4.mono hs2)
  have HL := Lib.hid (last_anyG _ D w4 w1 (by omega) (fun d hd => by have := HD.out d hd; omega) HR1.out hB14)
  have HS4 := Lib.hid (And.intro hs4 (And.intro hB4 (And.intro hb4 (And.intro hl4 hB14))))
  rw [hw4] at HL
  have HW4 := Lib.hid hw4
  clear hs4 hB4 hb4 hl4 hB14 hw4
  gi_wp2_with fail
  refine (callsIn_wide.2 HL.out).mono ?_
  rintro e w5 ⟨rfl, hB5, hs5, hseq⟩
  gi_wp2_with fail
  rw [← HW4.out] at hB5 hs5 hseq
  obtain ⟨hs4, hB4, hb4, hl4, hB14⟩ := HS4.out
  rw [show w4.heap.size = w2.heap.size + 1 + 1 from hs4] at hseq
  have hI5 : Items w5 w1.heap.size w2.heap.size w1.heap.size (iot D.length) := (HI2.out.below hB4 (Nat.le_refl _)).below hB5 (by omega)
  have hb5 : w5.heap[w2.heap.size]? = some (.cells #[.pointer (some ⟨w1.heap.size, 0, none⟩)] 40 (0, 0)) := (hB5.block _ (by omega)).trans hb4
  have hl5 : w5.heap[w2.heap.size + 1]? = some (.cells #[.slice none 0 0] 23 (0, 0)) := (hB5.block _ (by omega)).trans hl4
  have hB05 : Below w.heap.size w w5 := (HB1.out.trans (hB14.mono hs1)).trans (hB5.mono (by omega))
  have hB15 : Below w1.heap.size w1 w5 := hB14.trans (hB5.mono (by omega))
  have hV5 : ListV (w5.heap.size + 6) (w2.heap.size + 1) (.slice none 0 0) [] w5 := ⟨by omega, hl5, World.ownsRow_nil _ _ _ _, fun _ => rfl⟩
  have hsz5 : w5.heap.size = w2.heap.size + 3 := by omega
  clear hB4 hb4 hl4 hB14 hl5 hB5
  refine rangeG (gf := 55) (lb := #[.pointer (some ⟨w2.heap.size + 1 + 1, 0, none⟩)]) rfl last_entersG hseq Below.trans (below_kb (by omega)) (Below.refl _ _) (fun _ => rfl)
    (fun pre W => ((∃ v, ListV (w5.heap.size + 6) (w2.heap.size + 1) v (pat (pre.map Subtype.val) (iot D.length)) W) ∧ Items W w1.heap.size w2.heap.size w1.heap.size (lft (pre.map Subtype.val) (iot D.length)) ∧ W.heap[w2.heap.size]? = some (.cells #[.pointer (some ⟨w1.heap.size, 0, none⟩)] 40 (0, 0))) ∧ Below w.heap.size w W) (fun _ _ _ => False)
    ?hI (fun _ _ _ _ _ hs _ _ => hs) ⟨⟨⟨_, hV5⟩, hI5, hb5⟩, hB05⟩
    (fun x => { tmps := #[.int .i64 n, .int .i64 m, undef, undef, .slice none 0 0, .slice av D.length cv, .pointer (some ⟨w2.heap.size, 0, none⟩), .pointer (some ⟨w2.heap.size + 1, 0, none⟩), .int .i64 x.1, .int .i64 n, .int .i64 m, .slice av D.length cv, .slice av D.length cv, .int .i64 D.length, .pointer (some ⟨w1.heap.size, 0, none⟩), .slice av D.length cv, .func (.func 55) #[] #[.pointer (some ⟨w2.heap.size + 1 + 1, 0, none⟩)], .int .i64 x.1, undef, undef, undef, undef, undef, undef, undef], defers := [] }) ?assign ?body ?done ?stop
  case hI =>
    refine OwnFrom.and (Own.from ?_ _) (ownFrom_below (Nat.le_refl _) (by omega))
    rintro s A C row ⟨⟨v, h1⟩, h2, h3⟩ hg hr
    exact ⟨⟨v, h1.kept hg hr⟩, h2.kept hg hr, (grownBy_keeps_cells hg hr h3 rfl).trans h3⟩
  case assign =>
    intro q x W K hK
    gi_wp2
    exact hK
  case body =>
    rintro q pre x W ⟨⟨⟨v, hV⟩, hI, hb⟩, hB⟩ hpre hsz hbk
    obtain ⟨qr, hq⟩ := hpre
    rw [List.map_append, show List.map Subtype.val [x] = [x.1] from rfl] at hq
    have hfit := HF.out
    rw [← hq] at hfit
    have hnx := lft_next (left := iot D.length) (by rw [iot_len]; exact hfit)
    have hll := fitD_len (lft_fit (left := iot D.length) (a := pre.map Subtype.val) (b := [x.1] ++ qr) (by rw [iot_len, ← List.append_assoc]; exact hfit))
    have hDl := congrArg List.length hq
    simp only [List.length_append, List.length_map, List.length_reverse, List.length_cons, List.length_nil] at hDl hll
    obtain ⟨hx0, hxl⟩ := hnx
    have HS := Lib.hid (show pat ((pre ++ [x]).map Subtype.val) (iot D.length) = pat (pre.map Subtype.val) (iot D.length) ++ [(lft (pre.map Subtype.val) (iot D.length)).getD x.1.toNat 0] by
      rw [List.map_append, pat_append]; rfl)
    have HL := Lib.hid (show lft ((pre ++ [x]).map Subtype.val) (iot D.length) = (lft (pre.map Subtype.val) (iot D.length)).eraseIdx x.1.toNat by
      rw [List.map_append]; exact lft_snoc _ _ _)
    have hpl : (pat (pre.map Subtype.val) (iot D.length)).length = pre.length := by rw [pat_len, List.length_map]
    obtain ⟨c, hc⟩ : ∃ c : Nat, x.1 = c := ⟨x.1.toNat, by omega⟩
    rw [hc] at hxl HS HL ⊢
    rw [Int.toNat_natCast] at hxl HS HL
    obtain ⟨Lf, hLf⟩ : ∃ Lf, Lf = lft (pre.map Subtype.val) (iot D.length) := ⟨_, rfl⟩
    obtain ⟨Q, hQ⟩ : ∃ Q, Q = pat (pre.map Subtype.val) (iot D.length) := ⟨_, rfl⟩
    rw [← hLf] at hxl HS HL hll hI
    rw [← hQ] at HS hpl hV
    have HT := Lib.hid (fun W' (hW : Below W.heap.size W W') => take_any W' w1.heap.size w2.heap.size w1.heap.size Lf c (hI.below hW (by omega)) (by omega) hxl)
    obtain ⟨g, hg⟩ : ∃ g, g = Lf.getD c 0 := ⟨_, rfl⟩
    rw [← hg] at HS HT
    have hql : Q.length ≤ 1000 := by omega
    have c0 : W.cell? ⟨w2.heap.size + 1, 0, none⟩ = some v := by rw [cell_of_row W _ 0 _ _ _ hV.2.1]; rfl
    have d0 : W.cell? ⟨w2.heap.size, 0, none⟩ = some (.pointer (some ⟨w1.heap.size, 0, none⟩)) := by rw [cell_of_row W _ 0 _ _ _ hb]; rfl
    have HV := Lib.hid hV
    have HBX := Lib.hid hb
    have HSZ := Lib.hid (show w5.heap.size + 6 ≤ W.heap.size from hsz)
    have HB := Lib.hid hB
    have HH := Lib.hid (And.intro hs1 (And.intro hs2 hsz5))
    clear hV hb hsz hB hI hg hQ hLf hpl hll hxl hDl hfit hq hc hx0 hbk hI5 hb5 hB05 hB15 hV5
    have FIN := fun (v' : Value) (w6 W3 : World) (H : Below w1.heap.size W W3 ∧ (∀ k, w2.heap.size ≤ k → W3.heap[k]? = W.heap[k]?) ∧ W3.heap.size = W.heap.size ∧ Items W3 w1.heap.size w2.heap.size w1.heap.size (Lf.eraseIdx c) ∧ ListV (w5.heap.size + 6) (w2.heap.size + 1) v' (Q ++ [g]) (w6.setCell ⟨w2.heap.size + 1, 0, none⟩ v') ∧ Below (w2.heap.size + 1) W3 (w6.setCell ⟨w2.heap.size + 1, 0, none⟩ v') ∧ ∀ k, k < w5.heap.size + 6 → k ≠ w2.heap.size + 1 → (w6.setCell ⟨w2.heap.size + 1, 0, none⟩ v').heap[k]? = W3.heap[k]?) => show Area w5.heap.size (2 + 4) W (w6.setCell ⟨w2.heap.size + 1, 0, none⟩ v') ∧ Below w1.heap.size W (w6.setCell ⟨w2.heap.size + 1, 0, none⟩ v') ∧ ((∃ v, ListV (w5.heap.size + 6) (w2.heap.size + 1) v (pat ((pre ++ [x]).map Subtype.val) (iot D.length)) (w6.setCell ⟨w2.heap.size + 1, 0, none⟩ v')) ∧ Items (w6.setCell ⟨w2.heap.size + 1, 0, none⟩ v') w1.heap.size w2.heap.size w1.heap.size (lft ((pre ++ [x]).map Subtype.val) (iot D.length)) ∧ (w6.setCell ⟨w2.heap.size + 1, 0, none⟩ v').heap[w2.heap.size]? = some (.cells #[.pointer (some ⟨w1.heap.size, 0, none⟩)] 40 (0, 0))) ∧ Below w.heap.size w (w6.setCell ⟨w2.heap.size + 1, 0, none⟩ v') by
      obtain ⟨hb3, hk3, hs3, hI3, hV6, hB6, hk6⟩ := H
      obtain ⟨g1, g2, g3⟩ := HH.out
      have hb1 : Below w1.heap.size W (w6.setCell ⟨w2.heap.size + 1, 0, none⟩ v') := hb3.trans (hB6.mono (by omega))
      refine ⟨fun k h1 h2 => by rw [hk6 k (by omega) (by omega), hk3 k (by omega)], hb1, ⟨⟨v', by rw [HS.out]; exact hV6⟩, ?_, ?_⟩, HB.out.trans (hb1.mono g1)⟩
      · rw [HL.out]; exact hI3.other (fun k h1 h2 => hk6 k (by omega) (by omega))
      · rw [hk6 _ (by omega) (by omega), hk3 _ (Nat.le_refl _)]; exact HBX.out
    have FIN := Lib.hid FIN
    gi_wp2_with fail
    refine wpIn_region_any (by kernel_rfl) ?_
    change wpAnyIn _ _ _ _ _ _ _ _ _ (World.drew _)
    refine wpAnyIn_ready (rs := [0, 1, 2]) (by kernel_rfl) (by simp) ?_
    refine AllReadyIn.cons rfl (fun K hK => ?_) (AllReadyIn.cons rfl (fun K hK => ?_) (AllReadyIn.cons rfl (fun K hK => ?_) AllReadyIn.nil))
    · go_simp
      refine hK _ _ ?_
      clear hK K
      refine wpAnyIn_ready (rs := [1, 2]) (by kernel_rfl) (by simp) ?_
      refine AllReadyIn.cons rfl (fun K hK => ?_) (AllReadyIn.cons rfl (fun K hK => ?_) AllReadyIn.nil)
      · go_simp
        refine hK _ _ ?_
        clear hK K
        refine wpAnyIn_ready (rs := [2]) (by kernel_rfl) (by simp) ?_
        refine AllReadyIn.cons rfl (fun K hK => ?_) AllReadyIn.nil
        go_simp
        refine hK _ _ ?_
        clear hK K
        refine wpAnyIn_ready (rs := [3]) (by kernel_rfl) (by simp) ?_
        refine AllReadyIn.cons rfl (fun K hK => ?_) AllReadyIn.nil
        go_simp
        gi_wp2_with (gi_at_call 44; refine (CallsIn.inRound q (callsIn_wide.2 (HT.out _ (below_drewN (Below.refl _ _) 1)))).mono ?_; rintro e W3 ⟨rfl, bb, hbb, ⟨u, hW3⟩, hI3⟩; (have hb3 : Below w1.heap.size W W3 := (by rw [hW3]; exact Below.setCell (below_drewN (Below.refl _ _) 1) (p := ⟨bb, 1, none⟩) hbb.1 u)); (have hk3 : ∀ k, w2.heap.size ≤ k → W3.heap[k]? = W.heap[k]? := fun k hk => (by rw [hW3]; exact Below.heap_setCell (W.drewN 1) ⟨bb, 1, none⟩ u k (fun e => by have e' : k = bb := e; omega))); (have hs3 : W3.heap.size = W.heap.size := (by rw [hW3]; simp)); (have HV3 := Lib.hid (ListV.other HV.out (fun k hk => hk3 k (by omega)))); (have c3 : W3.cell? ⟨w2.heap.size + 1, 0, none⟩ = some v := by rw [cell_of_row W3 _ 0 _ _ _ HV3.out.2.1]; rfl); (have d3 : W3.cell? ⟨w2.heap.size, 0, none⟩ = some (.pointer (some ⟨w1.heap.size, 0, none⟩)) := by rw [cell_of_row W3 _ 0 _ _ _ ((hk3 _ (Nat.le_refl _)).trans HBX.out)]; rfl); obtain ⟨v', w6, hrun, c4, f4, hV6, hB6, hk6⟩ := listV_step HV3.out (by have := HSZ.out; omega) hql g; obtain ⟨a6, cv6, ev, _, _⟩ := owns_form hV6.2.2.1; obtain ⟨ln, hln⟩ : ∃ ln, ln = (Q ++ [g]).length := ⟨_, rfl⟩; rw [← hln] at ev; subst ev; clear hln; (have c5 : (W3.alloc (.cells #[.int .i64 g] 3)).cell? ⟨w2.heap.size + 1, 0, none⟩ = some v := by rw [((Below.refl _ W3).alloc (Nat.le_refl _) (.cells #[.int .i64 g] 3)).cell (p := ⟨w2.heap.size + 1, 0, none⟩) (heap_lt_of_some HV3.out.2.1)]; exact c3); have H6 := Lib.hid (And.intro hb3 (And.intro hk3 (And.intro hs3 (And.intro hI3 (And.intro hV6 (And.intro hB6 hk6)))))); have HRUN := Lib.hid hrun; clear hV6 hB6 hk6 hb3 hk3 hs3 hI3 hrun hW3)
        refine wpAnyIn_ready (rs := [4]) (by kernel_rfl) (by simp) ?_
        refine AllReadyIn.cons rfl (fun K hK => ?_) AllReadyIn.nil
        go_simp
        refine hK _ _ ?_
        clear hK K
        refine wpAnyIn_ready (rs := [5]) (by kernel_rfl) (by simp) ?_
        refine AllReadyIn.cons rfl (fun K hK => ?_) AllReadyIn.nil
        refine ready_append8 rfl _ _ 23 rfl _ _ _ rfl rfl HRUN.out ?_
        refine hK _ _ ?_
        clear hK K
        refine wpAnyIn_ready (rs := [6]) (by kernel_rfl) (by simp) ?_
        refine AllReadyIn.cons rfl (fun K hK => ?_) AllReadyIn.nil
        go_simp
        refine hK _ _ ?_
        clear hK K
        refine wpAnyIn_done (by kernel_rfl) ?_ _
        exact FIN.out _ w6 W3 H6.out
      · go_simp
        refine hK _ _ ?_
        clear hK K
        refine wpAnyIn_ready (rs := [1]) (by kernel_rfl) (by simp) ?_
        refine AllReadyIn.cons rfl (fun K hK => ?_) AllReadyIn.nil
        go_simp
        refine hK _ _ ?_
        clear hK K
        refine wpAnyIn_ready (rs := [3]) (by kernel_rfl) (by simp) ?_
        refine AllReadyIn.cons rfl (fun K hK => ?_) AllReadyIn.nil
        go_simp
        gi_wp2_with (gi_at_call 44; refine (CallsIn.inRound q (callsIn_wide.2 (HT.out _ (below_drewN (Below.refl _ _) 1)))).mono ?_; rintro e W3 ⟨rfl, bb, hbb, ⟨u, hW3⟩, hI3⟩; (have hb3 : Below w1.heap.size W W3 := (by rw [hW3]; exact Below.setCell (below_drewN (Below.refl _ _) 1) (p := ⟨bb, 1, none⟩) hbb.1 u)); (have hk3 : ∀ k, w2.heap.size ≤ k → W3.heap[k]? = W.heap[k]? := fun k hk => (by rw [hW3]; exact Below.heap_setCell (W.drewN 1) ⟨bb, 1, none⟩ u k (fun e => by have e' : k = bb := e; omega))); (have hs3 : W3.heap.size = W.heap.size := (by rw [hW3]; simp)); (have HV3 := Lib.hid (ListV.other HV.out (fun k hk => hk3 k (by omega)))); (have c3 : W3.cell? ⟨w2.heap.size + 1, 0, none⟩ = some v := by rw [cell_of_row W3 _ 0 _ _ _ HV3.out.2.1]; rfl); (have d3 : W3.cell? ⟨w2.heap.size, 0, none⟩ = some (.pointer (some ⟨w1.heap.size, 0, none⟩)) := by rw [cell_of_row W3 _ 0 _ _ _ ((hk3 _ (Nat.le_refl _)).trans HBX.out)]; rfl); obtain ⟨v', w6, hrun, c4, f4, hV6, hB6, hk6⟩ := listV_step HV3.out (by have := HSZ.out; omega) hql g; obtain ⟨a6, cv6, ev, _, _⟩ := owns_form hV6.2.2.1; obtain ⟨ln, hln⟩ : ∃ ln, ln = (Q ++ [g]).length := ⟨_, rfl⟩; rw [← hln] at ev; subst ev; clear hln; (have c5 : (W3.alloc (.cells #[.int .i64 g] 3)).cell? ⟨w2.heap.size + 1, 0, none⟩ = some v := by rw [((Below.refl _ W3).alloc (Nat.le_refl _) (.cells #[.int .i64 g] 3)).cell (p := ⟨w2.heap.size + 1, 0, none⟩) (heap_lt_of_some HV3.out.2.1)]; exact c3); have H6 := Lib.hid (And.intro hb3 (And.intro hk3 (And.intro hs3 (And.intro hI3 (And.intro hV6 (And.intro hB6 hk6)))))); have HRUN := Lib.hid hrun; clear hV6 hB6 hk6 hb3 hk3 hs3 hI3 hrun hW3)
        refine wpAnyIn_ready (rs := [4]) (by kernel_rfl) (by simp) ?_
        refine AllReadyIn.cons rfl (fun K hK => ?_) AllReadyIn.nil
        go_simp
        refine hK _ _ ?_
        clear hK K
        refine wpAnyIn_ready (rs := [5]) (by kernel_rfl) (by simp) ?_
        refine AllReadyIn.cons rfl (fun K hK => ?_) AllReadyIn.nil
        refine ready_append8 rfl _ _ 23 rfl _ _ _ rfl rfl HRUN.out ?_
        refine hK _ _ ?_
        clear hK K
        refine wpAnyIn_ready (rs := [6]) (by kernel_rfl) (by simp) ?_
        refine AllReadyIn.cons rfl (fun K hK => ?_) AllReadyIn.nil
        go_simp
        refine hK _ _ ?_
        clear hK K
        refine wpAnyIn_done (by kernel_rfl) ?_ _
        exact FIN.out _ w6 W3 H6.out
    · go_simp
      refine hK _ _ ?_
      clear hK K
      refine wpAnyIn_ready (rs := [0, 2]) (by kernel_rfl) (by simp) ?_
      refine AllReadyIn.cons rfl (fun K hK => ?_) (AllReadyIn.cons rfl (fun K hK => ?_) AllReadyIn.nil)
      · go_simp
        refine hK _ _ ?_
        clear hK K
        refine wpAnyIn_ready (rs := [2]) (by kernel_rfl) (by simp) ?_
        refine AllReadyIn.cons rfl (fun K hK => ?_) AllReadyIn.nil
        go_simp
        refine hK _ _ ?_
        clear hK K
        refine wpAnyIn_ready (rs := [3]) (by kernel_rfl) (by simp) ?_
        refine AllReadyIn.cons rfl (fun K hK => ?_) AllReadyIn.nil
        go_simp
        gi_wp2_with (gi_at_call 44; refine (CallsIn.inRound q (callsIn_wide.2 (HT.out _ (below_drewN (Below.refl _ _) 1)))).mono ?_; rintro e W3 ⟨rfl, bb, hbb, ⟨u, hW3⟩, hI3⟩; (have hb3 : Below w1.heap.size W W3 := (by rw [hW3]; exact Below.setCell (below_drewN (Below.refl _ _) 1) (p := ⟨bb, 1, none⟩) hbb.1 u)); (have hk3 : ∀ k, w2.heap.size ≤ k → W3.heap[k]? = W.heap[k]? := fun k hk => (by rw [hW3]; exact Below.heap_setCell (W.drewN 1) ⟨bb, 1, none⟩ u k (fun e => by have e' : k = bb := e; omega))); (have hs3 : W3.heap.size = W.heap.size := (by rw [hW3]; simp)); (have HV3 := Lib.hid (ListV.other HV.out (fun k hk => hk3 k (by omega)))); (have c3 : W3.cell? ⟨w2.heap.size + 1, 0, none⟩ = some v := by rw [cell_of_row W3 _ 0 _ _ _ HV3.out.2.1]; rfl); (have d3 : W3.cell? ⟨w2.heap.size, 0, none⟩ = some (.pointer (some ⟨w1.heap.size, 0, none⟩)) := by rw [cell_of_row W3 _ 0 _ _ _ ((hk3 _ (Nat.le_refl _)).trans HBX.out)]; rfl); obtain ⟨v', w6, hrun, c4, f4, hV6, hB6, hk6⟩ := listV_step HV3.out (by have := HSZ.out; omega) hql g; obtain ⟨a6, cv6, ev, _, _⟩ := owns_form hV6.2.2.1; obtain ⟨ln, hln⟩ : ∃ ln, ln = (Q ++ [g]).length := ⟨_, rfl⟩; rw [← hln] at ev; subst ev; clear hln; (have c5 : (W3.alloc (.cells #[.int .i64 g] 3)).cell? ⟨w2.heap.size + 1, 0, none⟩ = some v := by rw [((Below.refl _ W3).alloc (Nat.le_refl _) (.cells #[.int .i64 g] 3)).cell (p := ⟨w2.heap.size + 1, 0, none⟩) (heap_lt_of_some HV3.out.2.1)]; exact c3); have H6 := Lib.hid (And.intro hb3 (And.intro hk3 (And.intro hs3 (And.intro hI3 (And.intro hV6 (And.intro hB6 hk6)))))); have HRUN := Lib.hid hrun; clear hV6 hB6 hk6 hb3 hk3 hs3 hI3 hrun hW3)
        refine wpAnyIn_ready (rs := [4]) (by kernel_rfl) (by simp) ?_
        refine AllReadyIn.cons rfl (fun K hK => ?_) AllReadyIn.nil
        go_simp
        refine hK _ _ ?_
        clear hK K
        refine wpAnyIn_ready (rs := [5]) (by kernel_rfl) (by simp) ?_
        refine AllReadyIn.cons rfl (fun K hK => ?_) AllReadyIn.nil
        refine ready_append8 rfl _ _ 23 rfl _ _ _ rfl rfl HRUN.out ?_
        refine hK _ _ ?_
        clear hK K
        refine wpAnyIn_ready (rs := [6]) (by kernel_rfl) (by simp) ?_
        refine AllReadyIn.cons rfl (fun K hK => ?_) AllReadyIn.nil
        go_simp
        refine hK _ _ ?_
        clear hK K
        refine wpAnyIn_done (by kernel_rfl) ?_ _
        exact FIN.out _ w6 W3 H6.out
      · go_simp
        refine hK _ _ ?_
        clear hK K
        refine wpAnyIn_ready (rs := [0, 3]) (by kernel_rfl) (by simp) ?_
        refine AllReadyIn.cons rfl (fun K hK => ?_) (AllReadyIn.cons rfl (fun K hK => ?_) AllReadyIn.nil)
        · go_simp
          refine hK _ _ ?_
          clear hK K
          refine wpAnyIn_ready (rs := [3]) (by kernel_rfl) (by simp) ?_
          refine AllReadyIn.cons rfl (fun K hK => ?_) AllReadyIn.nil
          go_simp
          gi_wp2_with (gi_at_call 44; refine (CallsIn.inRound q (callsIn_wide.2 (HT.out _ (below_drewN (Below.refl _ _) 1)))).mono ?_; rintro e W3 ⟨rfl, bb, hbb, ⟨u, hW3⟩, hI3⟩; (have hb3 : Below w1.heap.size W W3 := (by rw [hW3]; exact Below.setCell (below_drewN (Below.refl _ _) 1) (p := ⟨bb, 1, none⟩) hbb.1 u)); (have hk3 : ∀ k, w2.heap.size ≤ k → W3.heap[k]? = W.heap[k]? := fun k hk => (by rw [hW3]; exact Below.heap_setCell (W.drewN 1) ⟨bb, 1, none⟩ u k (fun e => by have e' : k = bb := e; omega))); (have hs3 : W3.heap.size = W.heap.size := (by rw [hW3]; simp)); (have HV3 := Lib.hid (ListV.other HV.out (fun k hk => hk3 k (by omega)))); (have c3 : W3.cell? ⟨w2.heap.size + 1, 0, none⟩ = some v := by rw [cell_of_row W3 _ 0 _ _ _ HV3.out.2.1]; rfl); (have d3 : W3.cell? ⟨w2.heap.size, 0, none⟩ = some (.pointer (some ⟨w1.heap.size, 0, none⟩)) := by rw [cell_of_row W3 _ 0 _ _ _ ((hk3 _ (Nat.le_refl _)).trans HBX.out)]; rfl); obtain ⟨v', w6, hrun, c4, f4, hV6, hB6, hk6⟩ := listV_step HV3.out (by have := HSZ.out; omega) hql g; obtain ⟨a6, cv6, ev, _, _⟩ := owns_form hV6.2.2.1; obtain ⟨ln, hln⟩ : ∃ ln, ln = (Q ++ [g]).length := ⟨_, rfl⟩; rw [← hln] at ev; subst ev; clear hln; (have c5 : (W3.alloc (.cells #[.int .i64 g] 3)).cell? ⟨w2.heap.size + 1, 0, none⟩ = some v := by rw [((Below.refl _ W3).alloc (Nat.le_refl _) (.cells #[.int .i64 g] 3)).cell (p := ⟨w2.heap.size + 1, 0, none⟩) (heap_lt_of_some HV3.out.2.1)]; exact c3); have H6 := Lib.hid (And.intro hb3 (And.intro hk3 (And.intro hs3 (And.intro hI3 (And.intro hV6 (And.intro hB6 hk6)))))); have HRUN := Lib.hid hrun; clear hV6 hB6 hk6 hb3 hk3 hs3 hI3 hrun hW3)
          refine wpAnyIn_ready (rs := [4]) (by kernel_rfl) (by simp) ?_
          refine AllReadyIn.cons rfl (fun K hK => ?_) AllReadyIn.nil
          go_simp
          refine hK _ _ ?_
          clear hK K
          refine wpAnyIn_ready (rs := [5]) (by kernel_rfl) (by simp) ?_
          refine AllReadyIn.cons rfl (fun K hK => ?_) AllReadyIn.nil
          refine ready_append8 rfl _ _ 23 rfl _ _ _ rfl rfl HRUN.out ?_
          refine hK _ _ ?_
          clear hK K
          refine wpAnyIn_ready (rs := [6]) (by kernel_rfl) (by simp) ?_
          refine AllReadyIn.cons rfl (fun K hK => ?_) AllReadyIn.nil
          go_simp
          refine hK _ _ ?_
          clear hK K
          refine wpAnyIn_done (by kernel_rfl) ?_ _
          exact FIN.out _ w6 W3 H6.out
        · go_simp
          gi_wp2_with (gi_at_call 44; refine (CallsIn.inRound q (callsIn_wide.2 (HT.out _ (below_drewN (Below.refl _ _) 1)))).mono ?_; rintro e W3 ⟨rfl, bb, hbb, ⟨u, hW3⟩, hI3⟩; (have hb3 : Below w1.heap.size W W3 := (by rw [hW3]; exact Below.setCell (below_drewN (Below.refl _ _) 1) (p := ⟨bb, 1, none⟩) hbb.1 u)); (have hk3 : ∀ k, w2.heap.size ≤ k → W3.heap[k]? = W.heap[k]? := fun k hk => (by rw [hW3]; exact Below.heap_setCell (W.drewN 1) ⟨bb, 1, none⟩ u k (fun e => by have e' : k = bb := e; omega))); (have hs3 : W3.heap.size = W.heap.size := (by rw [hW3]; simp)); (have HV3 := Lib.hid (ListV.other HV.out (fun k hk => hk3 k (by omega)))); (have c3 : W3.cell? ⟨w2.heap.size + 1, 0, none⟩ = some v := by rw [cell_of_row W3 _ 0 _ _ _ HV3.out.2.1]; rfl); (have d3 : W3.cell? ⟨w2.heap.size, 0, none⟩ = some (.pointer (some ⟨w1.heap.size, 0, none⟩)) := by rw [cell_of_row W3 _ 0 _ _ _ ((hk3 _ (Nat.le_refl _)).trans HBX.out)]; rfl); obtain ⟨v', w6, hrun, c4, f4, hV6, hB6, hk6⟩ := listV_step HV3.out (by have := HSZ.out; omega) hql g; obtain ⟨a6, cv6, ev, _, _⟩ := owns_form hV6.2.2.1; obtain ⟨ln, hln⟩ : ∃ ln, ln = (Q ++ [g]).length := ⟨_, rfl⟩; rw [← hln] at ev; subst ev; clear hln; (have c5 : (W3.alloc (.cells #[.int .i64 g] 3)).cell? ⟨w2.heap.size + 1, 0, none⟩ = some v := by rw [((Below.refl _ W3).alloc (Nat.le_refl _) (.cells #[.int .i64 g] 3)).cell (p := ⟨w2.heap.size + 1, 0, none⟩) (heap_lt_of_some HV3.out.2.1)]; exact c3); have H6 := Lib.hid (And.intro hb3 (And.intro hk3 (And.intro hs3 (And.intro hI3 (And.intro hV6 (And.intro hB6 hk6)))))); have HRUN := Lib.hid hrun; clear hV6 hB6 hk6 hb3 hk3 hs3 hI3 hrun hW3)
          refine wpAnyIn_ready (rs := [0, 4]) (by kernel_rfl) (by simp) ?_
          refine AllReadyIn.cons rfl (fun K hK => ?_) (AllReadyIn.cons rfl (fun K hK => ?_) AllReadyIn.nil)
          · go_simp
            refine hK _ _ ?_
            clear hK K
            refine wpAnyIn_ready (rs := [4]) (by kernel_rfl) (by simp) ?_
            refine AllReadyIn.cons rfl (fun K hK => ?_) AllReadyIn.nil
            go_simp
            refine hK _ _ ?_
            clear hK K
            refine wpAnyIn_ready (rs := [5]) (by kernel_rfl) (by simp) ?_
            refine AllReadyIn.cons rfl (fun K hK => ?_) AllReadyIn.nil
            refine ready_append8 rfl _ _ 23 rfl _ _ _ rfl rfl HRUN.out ?_
            refine hK _ _ ?_
            clear hK K
            refine wpAnyIn_ready (rs := [6]) (by kernel_rfl) (by simp) ?_
            refine AllReadyIn.cons rfl (fun K hK => ?_) AllReadyIn.nil
            go_simp
            refine hK _ _ ?_
            clear hK K
            refine wpAnyIn_done (by kernel_rfl) ?_ _
            exact FIN.out _ w6 W3 H6.out
          · go_simp
            refine hK _ _ ?_
            clear hK K
            refine wpAnyIn_ready (rs := [0]) (by kernel_rfl) (by simp) ?_
            refine AllReadyIn.cons rfl (fun K hK => ?_) AllReadyIn.nil
            go_simp
            refine hK _ _ ?_
            clear hK K
            refine wpAnyIn_ready (rs := [5]) (by kernel_rfl) (by simp) ?_
            refine AllReadyIn.cons rfl (fun K hK => ?_) AllReadyIn.nil
            refine ready_append8 rfl _ _ 23 rfl _ _ _ rfl rfl HRUN.out ?_
            refine hK _ _ ?_
            clear hK K
            refine wpAnyIn_ready (rs := [6]) (by kernel_rfl) (by simp) ?_
            refine AllReadyIn.cons rfl (fun K hK => ?_) AllReadyIn.nil
            go_simp
            refine hK _ _ ?_
            clear hK K
            refine wpAnyIn_done (by kernel_rfl) ?_ _
            exact FIN.out _ w6 W3 H6.out
    · go_simp
      refine hK _ _ ?_
      clear hK K
      refine wpAnyIn_ready (rs := [0, 1]) (by kernel_rfl) (by simp) ?_
      refine AllReadyIn.cons rfl (fun K hK => ?_) (AllReadyIn.cons rfl (fun K hK => ?_) AllReadyIn.nil)
      · go_simp
        refine hK _ _ ?_
        clear hK K
        refine wpAnyIn_ready (rs := [1]) (by kernel_rfl) (by simp) ?_
        refine AllReadyIn.cons rfl (fun K hK => ?_) AllReadyIn.nil
        go_simp
        refine hK _ _ ?_
        clear hK K
        refine wpAnyIn_ready (rs := [3]) (by kernel_rfl) (by simp) ?_
        refine AllReadyIn.cons rfl (fun K hK => ?_) AllReadyIn.nil
        go_simp
        gi_wp2_with (gi_at_call 44; refine (CallsIn.inRound q (callsIn_wide.2 (HT.out _ (below_drewN (Below.refl _ _) 1)))).mono ?_; rintro e W3 ⟨rfl, bb, hbb, ⟨u, hW3⟩, hI3⟩; (have hb3 : Below w1.heap.size W W3 := (by rw [hW3]; exact Below.setCell (below_drewN (Below.refl _ _) 1) (p := ⟨bb, 1, none⟩) hbb.1 u)); (have hk3 : ∀ k, w2.heap.size ≤ k → W3.heap[k]? = W.heap[k]? := fun k hk => (by rw [hW3]; exact Below.heap_setCell (W.drewN 1) ⟨bb, 1, none⟩ u k (fun e => by have e' : k = bb := e; omega))); (have hs3 : W3.heap.size = W.heap.size := (by rw [hW3]; simp)); (have HV3 := Lib.hid (ListV.other HV.out (fun k hk => hk3 k (by omega)))); (have c3 : W3.cell? ⟨w2.heap.size + 1, 0, none⟩ = some v := by rw [cell_of_row W3 _ 0 _ _ _ HV3.out.2.1]; rfl); (have d3 : W3.cell? ⟨w2.heap.size, 0, none⟩ = some (.pointer (some ⟨w1.heap.size, 0, none⟩)) := by rw [cell_of_row W3 _ 0 _ _ _ ((hk3 _ (Nat.le_refl _)).trans HBX.out)]; rfl); obtain ⟨v', w6, hrun, c4, f4, hV6, hB6, hk6⟩ := listV_step HV3.out (by have := HSZ.out; omega) hql g; obtain ⟨a6, cv6, ev, _, _⟩ := owns_form hV6.2.2.1; obtain ⟨ln, hln⟩ : ∃ ln, ln = (Q ++ [g]).length := ⟨_, rfl⟩; rw [← hln] at ev; subst ev; clear hln; (have c5 : (W3.alloc (.cells #[.int .i64 g] 3)).cell? ⟨w2.heap.size + 1, 0, none⟩ = some v := by rw [((Below.refl _ W3).alloc (Nat.le_refl _) (.cells #[.int .i64 g] 3)).cell (p := ⟨w2.heap.size + 1, 0, none⟩) (heap_lt_of_some HV3.out.2.1)]; exact c3); have H6 := Lib.hid (And.intro hb3 (And.intro hk3 (And.intro hs3 (And.intro hI3 (And.intro hV6 (And.intro hB6 hk6)))))); have HRUN := Lib.hid hrun; clear hV6 hB6 hk6 hb3 hk3 hs3 hI3 hrun hW3)
        refine wpAnyIn_ready (rs := [4]) (by kernel_rfl) (by simp) ?_
        refine AllReadyIn.cons rfl (fun K hK => ?_) AllReadyIn.nil
        go_simp
        refine hK _ _ ?_
        clear hK K
        refine wpAnyIn_ready (rs := [5]) (by kernel_rfl) (by simp) ?_
        refine AllReadyIn.cons rfl (fun K hK => ?_) AllReadyIn.nil
        refine ready_append8 rfl _ _ 23 rfl _ _ _ rfl rfl HRUN.out ?_
        refine hK _ _ ?_
        clear hK K
        refine wpAnyIn_ready (rs := [6]) (by kernel_rfl) (by simp) ?_
        refine AllReadyIn.cons rfl (fun K hK => ?_) AllReadyIn.nil
        go_simp
        refine hK _ _ ?_
        clear hK K
        refine wpAnyIn_done (by kernel_rfl) ?_ _
        exact FIN.out _ w6 W3 H6.out
      · go_simp
        refine hK _ _ ?_
        clear hK K
        refine wpAnyIn_ready (rs := [0, 3]) (by kernel_rfl) (by simp) ?_
        refine AllReadyIn.cons rfl (fun K hK => ?_) (AllReadyIn.cons rfl (fun K hK => ?_) AllReadyIn.nil)
        · go_simp
          refine hK _ _ ?_
          clear hK K
          refine wpAnyIn_ready (rs := [3]) (by kernel_rfl) (by simp) ?_
          refine AllReadyIn.cons rfl (fun K hK => ?_) AllReadyIn.nil
          go_simp
          gi_wp2_with (gi_at_call 44; refine (CallsIn.inRound q (callsIn_wide.2 (HT.out _ (below_drewN (Below.refl _ _) 1)))).mono ?_; rintro e W3 ⟨rfl, bb, hbb, ⟨u, hW3⟩, hI3⟩; (have hb3 : Below w1.heap.size W W3 := (by rw [hW3]; exact Below.setCell (below_drewN (Below.refl _ _) 1) (p := ⟨bb, 1, none⟩) hbb.1 u)); (have hk3 : ∀ k, w2.heap.size ≤ k → W3.heap[k]? = W.heap[k]? := fun k hk => (by rw [hW3]; exact Below.heap_setCell (W.drewN 1) ⟨bb, 1, none⟩ u k (fun e => by have e' : k = bb := e; omega))); (have hs3 : W3.heap.size = W.heap.size := (by rw [hW3]; simp)); (have HV3 := Lib.hid (ListV.other HV.out (fun k hk => hk3 k (by omega)))); (have c3 : W3.cell? ⟨w2.heap.size + 1, 0, none⟩ = some v := by rw [cell_of_row W3 _ 0 _ _ _ HV3.out.2.1]; rfl); (have d3 : W3.cell? ⟨w2.heap.size, 0, none⟩ = some (.pointer (some ⟨w1.heap.size, 0, none⟩)) := by rw [cell_of_row W3 _ 0 _ _ _ ((hk3 _ (Nat.le_refl _)).trans HBX.out)]; rfl); obtain ⟨v', w6, hrun, c4, f4, hV6, hB6, hk6⟩ := listV_step HV3.out (by have := HSZ.out; omega) hql g; obtain ⟨a6, cv6, ev, _, _⟩ := owns_form hV6.2.2.1; obtain ⟨ln, hln⟩ : ∃ ln, ln = (Q ++ [g]).length := ⟨_, rfl⟩; rw [← hln] at ev; subst ev; clear hln; (have c5 : (W3.alloc (.cells #[.int .i64 g] 3)).cell? ⟨w2.heap.size + 1, 0, none⟩ = some v := by rw [((Below.refl _ W3).alloc (Nat.le_refl _) (.cells #[.int .i64 g] 3)).cell (p := ⟨w2.heap.size + 1, 0, none⟩) (heap_lt_of_some HV3.out.2.1)]; exact c3); have H6 := Lib.hid (And.intro hb3 (And.intro hk3 (And.intro hs3 (And.intro hI3 (And.intro hV6 (And.intro hB6 hk6)))))); have HRUN := Lib.hid hrun; clear hV6 hB6 hk6 hb3 hk3 hs3 hI3 hrun hW3)
          refine wpAnyIn_ready (rs := [4]) (by kernel_rfl) (by simp) ?_
          refine AllReadyIn.cons rfl (fun K hK => ?_) AllReadyIn.nil
          go_simp
          refine hK _ _ ?_
          clear hK K
          refine wpAnyIn_ready (rs := [5]) (by kernel_rfl) (by simp) ?_
          refine AllReadyIn.cons rfl (fun K hK => ?_) AllReadyIn.nil
          refine ready_append8 rfl _ _ 23 rfl _ _ _ rfl rfl HRUN.out ?_
          refine hK _ _ ?_
          clear hK K
          refine wpAnyIn_ready (rs := [6]) (by kernel_rfl) (by simp) ?_
          refine AllReadyIn.cons rfl (fun K hK => ?_) AllReadyIn.nil
          go_simp
          refine hK _ _ ?_
          clear hK K
          refine wpAnyIn_done (by kernel_rfl) ?_ _
          exact FIN.out _ w6 W3 H6.out
        · go_simp
          gi_wp2_with (gi_at_call 44; refine (CallsIn.inRound q (callsIn_wide.2 (HT.out _ (below_drewN (Below.refl _ _) 1)))).mono ?_; rintro e W3 ⟨rfl, bb, hbb, ⟨u, hW3⟩, hI3⟩; (have hb3 : Below w1.heap.size W W3 := (by rw [hW3]; exact Below.setCell (below_drewN (Below.refl _ _) 1) (p := ⟨bb, 1, none⟩) hbb.1 u)); (have hk3 : ∀ k, w2.heap.size ≤ k → W3.heap[k]? = W.heap[k]? := fun k hk => (by rw [hW3]; exact Below.heap_setCell (W.drewN 1) ⟨bb, 1, none⟩ u k (fun e => by have e' : k = bb := e; omega))); (have hs3 : W3.heap.size = W.heap.size := (by rw [hW3]; simp)); (have HV3 := Lib.hid (ListV.other HV.out (fun k hk => hk3 k (by omega)))); (have c3 : W3.cell? ⟨w2.heap.size + 1, 0, none⟩ = some v := by rw [cell_of_row W3 _ 0 _ _ _ HV3.out.2.1]; rfl); (have d3 : W3.cell? ⟨w2.heap.size, 0, none⟩ = some (.pointer (some ⟨w1.heap.size, 0, none⟩)) := by rw [cell_of_row W3 _ 0 _ _ _ ((hk3 _ (Nat.le_refl _)).trans HBX.out)]; rfl); obtain ⟨v', w6, hrun, c4, f4, hV6, hB6, hk6⟩ := listV_step HV3.out (by have := HSZ.out; omega) hql g; obtain ⟨a6, cv6, ev, _, _⟩ := owns_form hV6.2.2.1; obtain ⟨ln, hln⟩ : ∃ ln, ln = (Q ++ [g]).length := ⟨_, rfl⟩; rw [← hln] at ev; subst ev; clear hln; (have c5 : (W3.alloc (.cells #[.int .i64 g] 3)).cell? ⟨w2.heap.size + 1, 0, none⟩ = some v := by rw [((Below.refl _ W3).alloc (Nat.le_refl _) (.cells #[.int .i64 g] 3)).cell (p := ⟨w2.heap.size + 1, 0, none⟩) (heap_lt_of_some HV3.out.2.1)]; exact c3); have H6 := Lib.hid (And.intro hb3 (And.intro hk3 (And.intro hs3 (And.intro hI3 (And.intro hV6 (And.intro hB6 hk6)))))); have HRUN := Lib.hid hrun; clear hV6 hB6 hk6 hb3 hk3 hs3 hI3 hrun hW3)
          refine wpAnyIn_ready (rs := [0, 4]) (by kernel_rfl) (by simp) ?_
          refine AllReadyIn.cons rfl (fun K hK => ?_) (AllReadyIn.cons rfl (fun K hK => ?_) AllReadyIn.nil)
          · go_simp
            refine hK _ _ ?_
            clear hK K
            refine wpAnyIn_ready (rs := [4]) (by kernel_rfl) (by simp) ?_
            refine AllReadyIn.cons rfl (fun K hK => ?_) AllReadyIn.nil
            go_simp
            refine hK _ _ ?_
            clear hK K
            refine wpAnyIn_ready (rs := [5]) (by kernel_rfl) (by simp) ?_
            refine AllReadyIn.cons rfl (fun K hK => ?_) AllReadyIn.nil
            refine ready_append8 rfl _ _ 23 rfl _ _ _ rfl rfl HRUN.out ?_
            refine hK _ _ ?_
            clear hK K
            refine wpAnyIn_ready (rs := [6]) (by kernel_rfl) (by simp) ?_
            refine AllReadyIn.cons rfl (fun K hK => ?_) AllReadyIn.nil
            go_simp
            refine hK _ _ ?_
            clear hK K
            refine wpAnyIn_done (by kernel_rfl) ?_ _
            exact FIN.out _ w6 W3 H6.out
          · go_simp
            refine hK _ _ ?_
            clear hK K
            refine wpAnyIn_ready (rs := [0]) (by kernel_rfl) (by simp) ?_
            refine AllReadyIn.cons rfl (fun K hK => ?_) AllReadyIn.nil
            go_simp
            refine hK _ _ ?_
            clear hK K
            refine wpAnyIn_ready (rs := [5]) (by kernel_rfl) (by simp) ?_
            refine AllReadyIn.cons rfl (fun K hK => ?_) AllReadyIn.nil
            refine ready_append8 rfl _ _ 23 rfl _ _ _ rfl rfl HRUN.out ?_
            refine hK _ _ ?_
            clear hK K
            refine wpAnyIn_ready (rs := [6]) (by kernel_rfl) (by simp) ?_
            refine AllReadyIn.cons rfl (fun K hK => ?_) AllReadyIn.nil
            go_simp
            refine hK _ _ ?_
            clear hK K
            refine wpAnyIn_done (by kernel_rfl) ?_ _
            exact FIN.out _ w6 W3 H6.out
  case done =>
    rintro D' ys W hD hys ⟨⟨⟨v, hV⟩, hI, hb⟩, hB⟩ hK
    have c0 : W.cell? ⟨w2.heap.size + 1, 0, none⟩ = some v := by rw [cell_of_row W _ 0 _ _ _ hV.2.1]; rfl
    rw [hys, ← HRES.out] at hV
    have HV := Lib.hid hV
    obtain ⟨av', cv', rfl, _, _⟩ := owns_form hV.2.2.1
    clear hV hI hb
    gi_wp2_with fail
    refine ⟨by simp, .inl ⟨_, _, rfl, run_takeDeferred hK, ?_⟩⟩
    refine ⟨_, results_tmp rfl _ _ _, ?_⟩
    refine ⟨_, rfl, ?_, hB.trans (below_putObj _ (by omega) (by have := heap_lt_of_some hK; omega)), HV.out.2.2.2⟩
    have hkk : ListV (w5.heap.size + 6) (w2.heap.size + 1) (.slice av' RES.length cv') RES (W.putObj D' (.deferred none)) := HV.out.kept (grownBy_putObj' _ D' (.deferred none)) (fun r e => by cases e; exact ⟨_, hK, rfl⟩)
    exact owns_mono hkk.2.2.1 (by omega)
  case stop =>
    rintro D' c pre W _ _ h _
    exact h.elim

end Go.Proofs.Ytdpeleepfjhefaa
