/- What the functions of subsets that start a goroutine yield, beside leavers. -/
import Derived.Test.YtjdijmccpihkhaaSbAt
import Derived.Test.YtjdijmccpihkhaaSbE
import Derived.Test.YtjdijmccpihkhaaSbH
import Derived.Test.YtjdijmccpihkhaaBel
set_option linter.unusedVariables false
set_option linter.unusedSimpArgs false
set_option maxRecDepth 100000
set_option maxHeartbeats 4000000
namespace Go.Proofs.Ytjdijmccpihkhaa
open Go.Conc
open Go.RowKit (Below)

theorem implSubsetOf_b (m : Int) (w : World) (hm : in64 m) : BCalls Try.prog 22 #[.int .i64 m] w fun v w' => ∃ v', v = v' ∧ ∃ τ d, w'.ownsRow w.heap.size 3 1 v' (rSubsetOf0 m).length (intsOf (rSubsetOf0 m)) ∧ Below w.heap.size (re w τ d) w' :=
  (implSubsetOf_bb m w hm).mono fun v w' h => ⟨v, rfl, h⟩
theorem tameSbL : Tame Try.prog Fsb := tameSb

theorem of_mk {l : List Int} (h : okS l 20 = true) : rSubsetOf0 (mk l) = l := by
  have := mk_small h
  rw [rSubsetOf0, inB_in (by omega) (by omega), if_pos rfl, Int.toNat_natCast, so_mk h]

/-- a list and whether there is one -/
def GotL (w : World) (R : List Int) (b : Bool) (v : Value) (w' : World) : Prop :=
  ∃ v', v = .tuple #[v', .bool b] ∧ ∃ τ d, w'.ownsRow w.heap.size 3 1 v' R.length (intsOf R) ∧ Below w.heap.size (re w τ d) w'
theorem gotL_nil {w w' : World} {b : Bool} {R : List Int} (hR : R = []) (h : Bel w.heap.size w w') : GotL w R b (.tuple #[.slice none 0 0, .bool b]) w' := by
  obtain ⟨τ, d, h⟩ := h
  subst hR
  exact ⟨_, rfl, τ, d, World.ownsRow_nil _ _ _ _, h⟩

theorem implSubsetAt_bb (n k : Int) (w : World) (hn : in64 n) (hk : in64 k) : BCalls Try.prog 14 #[.int .i64 n, .int .i64 k] w (GotL w (rSubsetAt0 n k) (rSubsetAt1 n k)) := by
  refine bcalls_of_wb Try.func14 rfl (plain2 (t := 4) (u := 5) rfl) ?_
  simp only [Try.ntmps14, List.size_toArray, List.length_cons, List.length_nil, Nat.reduceAdd, Nat.reduceSub, Array.replicate_succ,
     Array.replicate_zero, List.push_toArray, List.append_toArray, List.nil_append, List.cons_append]
  have hways : ∀ e a w', bodyPost Try.prog Try.f14 (fun e w' => ∃ v, e = .returned v ∧ GotL w (rSubsetAt0 n k) (rSubsetAt1 n k) v w') e a w' → e = .normal ∨ e = .ret := bodyPost_ways
  have hQ : ∀ (t : Array Value) (w' : World), GotL w (rSubsetAt0 n k) (rSubsetAt1 n k) (.tuple #[t.getD 4 undef, t.getD 5 undef]) w' → bodyPost Try.prog Try.f14 (fun e w' => ∃ v, e = .returned v ∧ GotL w (rSubsetAt0 n k) (rSubsetAt1 n k) v w') .ret ⟨t, []⟩ w' := by
    intro t w' hS
    exact ⟨rfl, _, results_tmp2 (t := 4) (u := 5) rfl _ _ _, _, rfl, hS⟩
  generalize bodyPost Try.prog Try.f14 (fun e w' => ∃ v, e = .returned v ∧ GotL w (rSubsetAt0 n k) (rSubsetAt1 n k) v w') = Q at hways hQ ⊢
  have HW := Lib.hid hways
  clear hways
  have hNO : atOk n k = false → ∀ (t : Array Value) (w' : World), t.getD 4 undef = .slice none 0 0 → t.getD 5 undef = .bool false → Bel w.heap.size w w' → Q .ret ⟨t, []⟩ w' := by
    intro h0 t w' h4 h5 hB
    refine hQ t w' ?_
    rw [h4, h5, rSubsetAt1, h0]
    exact gotL_nil (by rw [rSubsetAt0, h0]; rfl) hB
  have HQ := Lib.hid hQ
  have HNO := Lib.hid hNO
  clear hQ hNO
  repeat (refine wb_first tameSbL (by kernel_rfl) HW.out fun σ => ?_; go_wp2_with fail; refine wb_re _ _ ?_; clear σ)
  by_cases hk0 : k < 0
  · have H0 := Lib.hid (show atOk n k = false by rw [atOk]; simp [inB]; omega)
    refine wb_firstS tameSbL (by kernel_rfl) HW.out fun v1 e1 => ?_
    have b0 := e1.bel (Bel.refl w.heap.size w)
    go_wp2_with fail
    exact HNO.out H0.out _ _ rfl rfl b0
  by_cases hk8 : 8 < k
  · have H0 := Lib.hid (show atOk n k = false by rw [atOk]; simp [inB]; omega)
    refine wb_firstS tameSbL (by kernel_rfl) HW.out fun v1 e1 => ?_
    have b0 := e1.bel (Bel.refl w.heap.size w)
    go_wp2_with fail
    exact HNO.out H0.out _ _ rfl rfl b0
  by_cases hn0 : n < 0
  · have H0 := Lib.hid (show atOk n k = false by rw [atOk]; simp [inB]; omega)
    refine wb_firstS tameSbL (by kernel_rfl) HW.out fun v1 e1 => ?_
    have b0 := e1.bel (Bel.refl w.heap.size w)
    go_wp2_with fail
    exact HNO.out H0.out _ _ rfl rfl b0
  obtain ⟨K, rfl⟩ : ∃ K : Nat, k = K := ⟨k.toNat, by omega⟩
  obtain ⟨N0, rfl⟩ : ∃ N0 : Nat, n = N0 := ⟨n.toNat, by omega⟩
  have HB20 := Lib.hid (fun W => show Calls Try.prog 18 #[.int .i64 20, .int .i64 K] W fun e w' => e = .returned (.int .i64 (bn 20 K)) ∧ W = w' from implBn_any 20 K W (by omega) (by omega))
  by_cases hN : bn 20 K ≤ N0
  · have H0 := Lib.hid (show atOk N0 K = false by rw [atOk]; simp [inB]; omega)
    obtain ⟨B, hB⟩ : ∃ B, B = bn 20 K := ⟨_, rfl⟩
    rw [← hB] at HB20 hN
    clear hB
    refine wb_firstS tameSbL (by kernel_rfl) HW.out fun v1 e1 => ?_
    have b0 := e1.bel (Bel.refl w.heap.size w)
    go_wp2_with fail
    refine (HB20.out _).mono ?_
    rintro e w' ⟨rfl, rfl⟩
    go_wp2_with fail
    exact HNO.out H0.out _ _ rfl rfl b0
  · have hlt : N0 < bn 20 K := by omega
    have HA := Lib.hid (atOk_of (n := N0) (k := K) (by omega) hlt)
    have HE := Lib.hid (at_eq (n := N0) (k := K) (by omega) hlt)
    have HOK := Lib.hid (show okS (gr K N0).reverse 20 = true from desc_okS (m := 20) (Nat.le_refl _) (gr_desc (Nat.le_refl 20) hlt).1)
    have HM := Lib.hid (fun W => implMaskAt_any N0 K W (by omega) hlt)
    obtain ⟨B, hB⟩ : ∃ B, B = bn 20 K := ⟨_, rfl⟩
    rw [← hB] at HB20 hN hlt
    clear hB
    refine wb_firstS tameSbL (by kernel_rfl) HW.out fun v1 e1 => ?_
    have b0 := e1.bel (Bel.refl w.heap.size w)
    have q1 := e1.size
    go_wp2_with fail
    refine (HB20.out _).mono ?_
    rintro e w' ⟨rfl, rfl⟩
    go_wp2_with fail
    refine wb_seq (wb_region ?_)
    simp only [List.size_toArray, List.length_cons, List.length_nil, Nat.reduceAdd, Nat.zero_add, List.range, List.range.loop]
    repeat (refine rb_op tameSbL rfl rfl rfl (fun K hK σ => ?_); go_simp; refine hK _ _ ?_; clear hK K; refine rb_re _ _ ?_; clear σ)
    refine rb_lone tameSbL rfl rfl rfl rfl Try.func38 rfl rfl fun v2 e2 => ?_
    simp only [List.map_toArray, List.map_cons, List.map_nil]
    have b2 := e2.bel b0
    have q2 := e2.size
    refine (HM.out _).mono ?_
    rintro e w' ⟨rfl, rfl⟩
    refine ⟨_, rfl, ?_⟩
    have hmk := mk_small HOK.out
    refine rb_call rfl rfl rfl Try.func22 rfl rfl (by simp only [List.map_toArray, List.map_cons, List.map_nil]; exact implSubsetOf_b (mk (gr K N0).reverse) v2 ⟨by omega, by omega⟩) ?_
    rintro vr w3 ⟨v', rfl, τ, d, hown, hB⟩
    rw [of_mk HOK.out] at hown
    have hsz : v2.heap.size = w.heap.size := by omega
    rw [hsz] at hown hB
    have HG := Lib.hid (show GotL w (rSubsetAt0 N0 K) (rSubsetAt1 N0 K) (.tuple #[vr, .bool true]) w3 from by
      refine ⟨vr, by rw [rSubsetAt1, HA.out], ?_⟩
      rw [HE.out]
      obtain ⟨τ, d, hb⟩ := b2.trans (bel_re hB)
      exact ⟨τ, d, hown, hb⟩)
    clear hown hB hmk
    repeat (refine rb_op tameSbL rfl rfl rfl (fun K hK σ => ?_); go_simp; refine hK _ _ ?_; clear hK K; refine rb_re _ _ ?_; clear σ)
    refine rb_nil (show Wb _ _ _ _ _ from ?_)
    exact wb_ret (HQ.out _ _ HG.out)

theorem implSubsetAt_b (n k : Int) (w : World) (hn : in64 n) (hk : in64 k) : BCalls Try.prog 14 #[.int .i64 n, .int .i64 k] w fun v w' => ∃ v', v = .tuple #[v', .bool (rSubsetAt1 n k)] ∧ ∃ τ d, w'.ownsRow w.heap.size 3 1 v' (rSubsetAt0 n k).length (intsOf (rSubsetAt0 n k)) ∧ Below w.heap.size (re w τ d) w' := implSubsetAt_bb n k w hn hk

end Go.Proofs.Ytjdijmccpihkhaa
