/- NextSubset and OtherSubset beside leavers. -/
import Derived.Test.YtjdijmccpihkhaaSbG
set_option linter.unusedVariables false
set_option linter.unusedSimpArgs false
set_option maxRecDepth 100000
set_option maxHeartbeats 1000000
namespace Go.Proofs.Ytjdijmccpihkhaa
open Go.Conc
open Go.RowKit (Below)

theorem mk_iot : ∀ m : Nat, mk (iot m) + 1 = 2 ^ m
  | 0 => rfl
  | m + 1 => by
    rw [iot_succ, mk_snoc, Int.toNat_natCast, Nat.pow_succ]
    have := mk_iot m
    omega
theorem oth_mkM {l : List Int} {m : Nat} (h : okS l m = true) : mk l + mk (oth l m) + 1 = 2 ^ m := by
  have h1 := part_mk (fun x => x ∈ l) (iot m)
  rw [filter_in h] at h1
  have h2 := mk_iot m
  unfold oth; omega
theorem okS_20 {l : List Int} {m : Int} (h : okS l m = true) : okS l 20 = true := by
  obtain ⟨h1, h2, h3⟩ := okS_yes h
  exact okS_of (by omega) (by omega) (fun x hx => by have := h2 x hx; omega) h3

theorem implNextSubset_b (v : Value) (l : List Int) (w : World) (hr : RowAt w v (intsOf l)) (hl : l.length ≤ 1048576) (hi : ∀ n ∈ l, in64 n) :
    BCalls Try.prog 15 #[v] w fun vr w' => ∃ v', vr = .tuple #[v', .bool (rNextSubset1 l)] ∧ ∃ τ d, w'.ownsRow w.heap.size 3 1 v' (rNextSubset0 l).length (intsOf (rNextSubset0 l)) ∧ Below w.heap.size (re w τ d) w' := by
  have HR := Lib.hid (fun W (h : Sam w W) => implSubsetRank_any v l W (h.row hr) hl hi)
  show BCalls _ _ _ _ (GotL w (rNextSubset0 l) (rNextSubset1 l))
  obtain ⟨a, cap, rfl, h1, h2, h3⟩ := hr.ints
  unfold maxLen at h2
  clear hr h3
  refine bcalls_of_wb Try.func15 rfl (plain2 (t := 2) (u := 3) rfl) ?_
  simp only [Try.ntmps15, List.size_toArray, List.length_cons, List.length_nil, Nat.reduceAdd, Nat.reduceSub, Array.replicate_succ,
     Array.replicate_zero, List.push_toArray, List.append_toArray, List.nil_append, List.cons_append]
  have hways : ∀ e a w', bodyPost Try.prog Try.f15 (fun e w' => ∃ v, e = .returned v ∧ GotL w (rNextSubset0 l) (rNextSubset1 l) v w') e a w' → e = .normal ∨ e = .ret := bodyPost_ways
  have hQ : ∀ (t : Array Value) (w' : World), GotL w (rNextSubset0 l) (rNextSubset1 l) (.tuple #[t.getD 2 undef, t.getD 3 undef]) w' → bodyPost Try.prog Try.f15 (fun e w' => ∃ v, e = .returned v ∧ GotL w (rNextSubset0 l) (rNextSubset1 l) v w') .ret ⟨t, []⟩ w' := by
    intro t w' hS
    exact ⟨rfl, _, results_tmp2 (t := 2) (u := 3) rfl _ _ _, _, rfl, hS⟩
  generalize bodyPost Try.prog Try.f15 (fun e w' => ∃ v, e = .returned v ∧ GotL w (rNextSubset0 l) (rNextSubset1 l) v w') = Q at hways hQ ⊢
  have HW := Lib.hid hways
  clear hways
  have HQ := Lib.hid hQ
  clear hQ
  repeat (refine wb_first tameSbL (by kernel_rfl) HW.out fun σ => ?_; go_wp2_with fail; refine wb_re _ _ ?_; clear σ)
  cases hok : okS l 20
  · have E0 := Lib.hid (show rSubsetRank0 l = -1 by rw [rSubsetRank0, hok]; rfl)
    have N0 := Lib.hid (show rNextSubset0 l = [] by rw [rNextSubset0, nxOk, hok]; rfl)
    have N1 := Lib.hid (show rNextSubset1 l = false by rw [rNextSubset1, nxOk, hok]; rfl)
    rw [E0.out] at HR
    clear hok
    refine wb_firstS tameSbL (by kernel_rfl) HW.out fun v1 e1 => ?_
    have b0 := e1.bel (Bel.refl w.heap.size w)
    have q1 := e1.size
    go_wp2_with fail
    refine (HR.out _ e1).mono ?_
    rintro e w1 ⟨rfl, c1⟩
    have b1 := b0.trans ((bel_of c1).mono b0.size)
    go_wp2_with fail
    refine wb_firstS tameSbL (by kernel_rfl) HW.out fun v2 e2 => ?_
    have b2 := e2.bel b1
    go_wp2_with fail
    refine HQ.out _ _ ?_
    rw [N1.out]
    exact gotL_nil N0.out b2
  · have E0 := Lib.hid (show rSubsetRank0 l = rk l by rw [rSubsetRank0, hok]; rfl)
    have hrk := rk_small hok
    have hN1 : rNextSubset1 l = rSubsetAt1 ((rk l : Int) + 1) l.length := by
      rw [rNextSubset1, nxOk, hok, Bool.true_and]
      by_cases h8 : l.length ≤ 8
      · rw [decide_eq_true h8, Bool.true_and]
      · rw [decide_eq_false h8, Bool.false_and, rSubsetAt1, atOk]
        have : inB (l.length : Int) 0 8 = false := by simp [inB]; omega
        rw [this]; rfl
    have hN0 : rNextSubset0 l = rSubsetAt0 ((rk l : Int) + 1) l.length := by
      rw [rNextSubset0, nxOk, hok, Bool.true_and]
      by_cases h8 : l.length ≤ 8
      · rw [decide_eq_true h8, if_pos rfl]
      · rw [decide_eq_false h8, rSubsetAt0, atOk]
        have : inB (l.length : Int) 0 8 = false := by simp [inB]; omega
        rw [this]; rfl
    rw [hN0, hN1] at HQ
    have HA := Lib.hid (fun W => implSubsetAt_b ((rk l : Int) + 1) l.length W ⟨by omega, by omega⟩ ⟨by omega, by omega⟩)
    rw [E0.out] at HR
    obtain ⟨R, hR⟩ : ∃ R, R = rk l := ⟨_, rfl⟩
    rw [← hR] at HR HQ HA hrk
    clear hok hN0 hN1 E0 hR
    have hw1 : IntKind.i64.wrap ((R : Int) + 1) = (R : Int) + 1 := by rw [IntKind.wrap_i64]; omega
    refine wb_firstS tameSbL (by kernel_rfl) HW.out fun v1 e1 => ?_
    have b0 := e1.bel (Bel.refl w.heap.size w)
    have q1 := e1.size
    go_wp2_with fail
    refine (HR.out _ e1).mono ?_
    rintro e w1 ⟨rfl, c1⟩
    have b1 := b0.trans ((bel_of c1).mono b0.size)
    have s1 := b1.size
    go_wp2_with fail
    repeat (refine wb_first tameSbL (by kernel_rfl) HW.out fun σ => ?_; go_wp2_with fail; refine wb_re _ _ ?_; clear σ)
    refine wb_seq (wb_region ?_)
    simp only [List.size_toArray, List.length_cons, List.length_nil, Nat.reduceAdd, Nat.zero_add, List.range, List.range.loop]
    repeat (refine rb_op tameSbL rfl rfl rfl (fun K hK σ => ?_); go_simp; refine hK _ _ ?_; clear hK K; refine rb_re _ _ ?_; clear σ)
    refine rb_call rfl rfl rfl Try.func14 rfl rfl (by simp only [List.map_toArray, List.map_cons, List.map_nil]; exact HA.out w1) ?_
    rintro vr w3 ⟨v', rfl, τ, d, hown, hB⟩
    have HG := Lib.hid (show GotL w (rSubsetAt0 ((R : Int) + 1) l.length) (rSubsetAt1 ((R : Int) + 1) l.length) (.tuple #[v', .bool (rSubsetAt1 ((R : Int) + 1) l.length)]) w3 from by
      refine ⟨v', rfl, ?_⟩
      obtain ⟨τ, d, hb⟩ := b1.trans ((bel_re hB).mono s1)
      exact ⟨τ, d, owns_mono hown s1, hb⟩)
    clear hown hB
    repeat (refine rb_op tameSbL rfl rfl rfl (fun K hK σ => ?_); go_simp; refine hK _ _ ?_; clear hK K; refine rb_re _ _ ?_; clear σ)
    refine rb_nil (show Wb _ _ _ _ _ from ?_)
    exact wb_ret (HQ.out _ _ HG.out)

theorem implOtherSubset_b (v : Value) (l : List Int) (m : Int) (w : World) (hr : RowAt w v (intsOf l)) (hl : l.length ≤ 1048576) (hi : ∀ n ∈ l, in64 n) (hm : in64 m) :
    BCalls Try.prog 16 #[v, .int .i64 m] w fun vr w' => ∃ v', vr = .tuple #[v', .bool (rOtherSubset1 l m)] ∧ ∃ τ d, w'.ownsRow w.heap.size 3 1 v' (rOtherSubset0 l m).length (intsOf (rOtherSubset0 l m)) ∧ Below w.heap.size (re w τ d) w' := by
  have HS := Lib.hid (fun W (h : Sam w W) => implSubsetOk_any v l m W (h.row hr) hl hi hm)
  have HMK := Lib.hid (fun W (h : Bel w.heap.size w W) => implMaskOf_any v l W (hr.bel h) hl hi)
  show BCalls _ _ _ _ (GotL w (rOtherSubset0 l m) (rOtherSubset1 l m))
  refine bcalls_of_wb Try.func16 rfl (plain2 (t := 4) (u := 5) rfl) ?_
  simp only [Try.ntmps16, List.size_toArray, List.length_cons, List.length_nil, Nat.reduceAdd, Nat.reduceSub, Array.replicate_succ,
     Array.replicate_zero, List.push_toArray, List.append_toArray, List.nil_append, List.cons_append]
  have hways : ∀ e a w', bodyPost Try.prog Try.f16 (fun e w' => ∃ v, e = .returned v ∧ GotL w (rOtherSubset0 l m) (rOtherSubset1 l m) v w') e a w' → e = .normal ∨ e = .ret := bodyPost_ways
  have hQ : ∀ (t : Array Value) (w' : World), GotL w (rOtherSubset0 l m) (rOtherSubset1 l m) (.tuple #[t.getD 4 undef, t.getD 5 undef]) w' → bodyPost Try.prog Try.f16 (fun e w' => ∃ v, e = .returned v ∧ GotL w (rOtherSubset0 l m) (rOtherSubset1 l m) v w') .ret ⟨t, []⟩ w' := by
    intro t w' hS
    exact ⟨rfl, _, results_tmp2 (t := 4) (u := 5) rfl _ _ _, _, rfl, hS⟩
  generalize bodyPost Try.prog Try.f16 (fun e w' => ∃ v, e = .returned v ∧ GotL w (rOtherSubset0 l m) (rOtherSubset1 l m) v w') = Q at hways hQ ⊢
  have HW := Lib.hid hways
  clear hways
  have HQ := Lib.hid hQ
  clear hQ
  repeat (refine wb_first tameSbL (by kernel_rfl) HW.out fun σ => ?_; go_wp2_with fail; refine wb_re _ _ ?_; clear σ)
  cases hok : okS l m
  · have E0 := Lib.hid (show rSubsetOk0 l m = false from hok)
    have N0 := Lib.hid (show rOtherSubset0 l m = [] by rw [rOtherSubset0, hok]; rfl)
    have N1 := Lib.hid (show rOtherSubset1 l m = false from hok)
    rw [E0.out] at HS
    clear hok
    refine wb_firstS tameSbL (by kernel_rfl) HW.out fun v1 e1 => ?_
    have b0 := e1.bel (Bel.refl w.heap.size w)
    have q1 := e1.size
    go_wp2_with fail
    refine (HS.out _ e1).mono ?_
    rintro e w1 ⟨rfl, c1⟩
    have b1 := b0.trans ((bel_of c1).mono b0.size)
    go_wp2_with fail
    refine HQ.out _ _ ?_
    rw [N1.out]
    exact gotL_nil N0.out b1
  · have E0 := Lib.hid (show rSubsetOk0 l m = true from hok)
    have N1 := Lib.hid (show rOtherSubset1 l m = true from hok)
    have N0 := Lib.hid (show rOtherSubset0 l m = oth l m.toNat by rw [rOtherSubset0, hok]; rfl)
    obtain ⟨⟨m0, m1⟩, _, _⟩ := okS_yes hok
    obtain ⟨M, rfl⟩ : ∃ M : Nat, m = M := ⟨m.toNat, by omega⟩
    rw [Int.toNat_natCast] at N0
    have hsum := oth_mkM (l := l) (m := M) hok
    have hlt := mk_small (okS_20 hok)
    have HOK := Lib.hid (okS_20 (show okS (oth l M) M = true from oth_ok (by omega)))
    have hlt2 := mk_small HOK.out
    have EM := Lib.hid (show rMaskOf0 l = mk l by rw [rMaskOf0, okS_20 hok, if_pos rfl])
    rw [E0.out] at HS
    rw [EM.out] at HMK
    obtain ⟨P, hP⟩ : ∃ P, P = 2 ^ M := ⟨_, rfl⟩
    have hp1 : 1 ≤ P := by rw [hP]; exact Nat.one_le_two_pow
    have hpc : (P : Int) = (2 : Int) ^ M := by rw [hP]; exact Int.natCast_pow _ _
    have s2 : IntKind.i64.wrap ((2 : Int) ^ M) = P := by rw [IntKind.wrap_i64, ← hpc]; omega
    rw [← hP] at hsum
    have HSO := Lib.hid (fun W => implSubsetOf_b (mk (oth l M)) W ⟨by omega, by omega⟩)
    rw [of_mk HOK.out] at HSO
    have hms : ((mk (oth l M) : Nat) : Int) = (P : Int) - 1 - (mk l : Int) := by omega
    rw [hms] at HSO
    obtain ⟨K, hK⟩ : ∃ K, K = mk l := ⟨_, rfl⟩
    rw [← hK] at HSO HMK hlt hsum
    clear hok hms hP hpc hK EM
    have hw1 : IntKind.i64.wrap ((P : Int) - 1) = (P : Int) - 1 := by rw [IntKind.wrap_i64]; omega
    have hw2 : IntKind.i64.wrap ((P : Int) - 1 - (K : Int)) = (P : Int) - 1 - (K : Int) := by rw [IntKind.wrap_i64]; omega
    refine wb_firstS tameSbL (by kernel_rfl) HW.out fun v1 e1 => ?_
    have b0 := e1.bel (Bel.refl w.heap.size w)
    have q1 := e1.size
    go_wp2_with fail
    refine (HS.out _ e1).mono ?_
    rintro e w1 ⟨rfl, c1⟩
    have b1 := b0.trans ((bel_of c1).mono b0.size)
    have s1 := b1.size
    go_wp2_with fail
    repeat (refine wb_first tameSbL (by kernel_rfl) HW.out fun σ => ?_; go_wp2_with fail; refine wb_re _ _ ?_; clear σ)
    refine wb_seq (wb_region ?_)
    simp only [List.size_toArray, List.length_cons, List.length_nil, Nat.reduceAdd, Nat.zero_add, List.range, List.range.loop]
    repeat (refine rb_op tameSbL rfl rfl rfl (fun K hK σ => ?_); go_simp; refine hK _ _ ?_; clear hK K; refine rb_re _ _ ?_; clear σ)
    refine rb_lone tameSbL rfl rfl rfl rfl Try.func20 rfl rfl fun v2 e2 => ?_
    simp only [List.map_toArray, List.map_cons, List.map_nil]
    have b2 := e2.bel b1
    refine (HMK.out _ b2).mono ?_
    rintro e w2 ⟨rfl, c2⟩
    have b3 := b2.trans ((bel_of c2).mono b2.size)
    have s3 := b3.size
    refine ⟨_, rfl, ?_⟩
    repeat (refine rb_op tameSbL rfl rfl rfl (fun K hK σ => ?_); go_simp; refine hK _ _ ?_; clear hK K; refine rb_re _ _ ?_; clear σ)
    refine rb_call rfl rfl rfl Try.func22 rfl rfl (by simp only [List.map_toArray, List.map_cons, List.map_nil]; exact HSO.out w2) ?_
    rintro vr w3 ⟨v', rfl, τ, d, hown, hB⟩
    have HG := Lib.hid (show GotL w (rOtherSubset0 l M) (rOtherSubset1 l M) (.tuple #[vr, .bool true]) w3 from by
      refine ⟨vr, by rw [N1.out], ?_⟩
      rw [N0.out]
      obtain ⟨τ, d, hb⟩ := b3.trans ((bel_re hB).mono s3)
      exact ⟨τ, d, owns_mono hown s3, hb⟩)
    clear hown hB
    repeat (refine rb_op tameSbL rfl rfl rfl (fun K hK σ => ?_); go_simp; refine hK _ _ ?_; clear hK K; refine rb_re _ _ ?_; clear σ)
    refine rb_nil (show Wb _ _ _ _ _ from ?_)
    exact wb_ret (HQ.out _ _ HG.out)

end Go.Proofs.Ytjdijmccpihkhaa
