/- SubsetOf beside leavers. -/
import Derived.Test.YtjdijmccpihkhaaSbD
set_option linter.unusedVariables false
set_option linter.unusedSimpArgs false
set_option maxRecDepth 100000
set_option maxHeartbeats 4000000
namespace Go.Proofs.Ytjdijmccpihkhaa
open Go.Conc
open Go.RowKit (Below)

/-- what SubsetOf yields -/
def SoPost (w : World) (m : Int) (v : Value) (w' : World) : Prop :=
  ∃ τ d, w'.ownsRow w.heap.size 3 1 v (rSubsetOf0 m).length (intsOf (rSubsetOf0 m)) ∧ Below w.heap.size (re w τ d) w'

theorem implSubsetOf_bb (m : Int) (w : World) (hm : in64 m) : BCalls Try.prog 22 #[.int .i64 m] w (SoPost w m) := by
  refine bcalls_of_at Try.func22 rfl (plain1 (t := 2) rfl) fun cs => ?_
  simp only [Try.ntmps22, List.size_toArray, List.length_cons, List.length_nil, Nat.reduceAdd, Nat.reduceSub, Array.replicate_succ,
     Array.replicate_zero, List.push_toArray, List.append_toArray, List.nil_append, List.cons_append]
  have hways : ∀ e a w', bodyPost Try.prog Try.f22 (fun e w' => ∃ v, e = .returned v ∧ SoPost w m v w') e a w' → e = .normal ∨ e = .ret := bodyPost_ways
  have hQ : ∀ (t : Array Value) (out : Value) (w' : World), SoPost w m out w' → t.getD 2 undef = out → bodyPost Try.prog Try.f22 (fun e w' => ∃ v, e = .returned v ∧ SoPost w m v w') .ret ⟨t, []⟩ w' := by
    intro t out w' hS ht
    subst ht
    exact ⟨rfl, _, results_tmp (t := 2) rfl _ _ _, _, rfl, hS⟩
  generalize bodyPost Try.prog Try.f22 (fun e w' => ∃ v, e = .returned v ∧ SoPost w m v w') = Q at hways hQ ⊢
  refine at_first tameSb rfl (by kernel_rfl) hways fun σ => ?_
  go_wp2_with fail
  refine to_re _ _ ?_
  clear σ
  by_cases hin : inB m 0 1048575 = true
  · have HM := Lib.hid hin
    obtain ⟨m0, m1⟩ := inB_yes hin
    have n0 : ¬ m < 0 := by omega
    have n1 : ¬ 1048576 ≤ m := by omega
    obtain ⟨M, rfl⟩ : ∃ M : Nat, m = M := ⟨m.toNat, by omega⟩
    clear hin
    refine at_first tameSb rfl (by kernel_rfl) hways fun σ => ?_
    go_wp2_with fail
    refine to_re _ _ ?_
    clear σ
    refine at_first tameSb rfl (by kernel_rfl) hways fun σ => ?_
    go_wp2_with fail
    refine to_re _ _ ?_
    clear σ
    have hrest := fun x6 => goE (Q := Q) cs M undef (.int .i64 M) (.bool false) (.bool false) (.int .i64 M) (.bool false) (.bool false) undef (.int .i64 M) undef undef undef undef undef undef undef undef x6 w (fun t out w' τ d hA ht => hQ t out w' ⟨τ, d, by
      have e0 : rSubsetOf0 M = soJ M 20 := by rw [rSubsetOf0, HM.out, Int.toNat_natCast]; rfl
      rw [e0]
      refine ⟨by simp [intsOf], ?_⟩
      have e1 : ((soJ M 20).map (Value.int .i64)).length = (soJ M 20).length := by simp
      have hown := hA.own.2
      rw [e1] at hown
      rcases hown with h | ⟨g, cp, cur, h1, h2, h3⟩
      · exact .inl h
      · exact .inr ⟨g, cp, cur, h1, by omega, h3⟩, hA.below⟩ ht)
    refine ctl_step rfl (fun W => stepG_seq) ?_
    refine ctl_step rfl (fun W => stepG_seq) ?_
    refine ctl_step rfl (fun W => stepG_region) ?_
    simp only [List.size_toArray, List.length_cons, List.length_nil, Nat.reduceAdd, Nat.zero_add, List.range, List.range.loop]
    refine op_to tameSb rfl rfl rfl rfl (fun K hK σ => ?_)
    go_simp
    refine hK _ _ ?_
    clear hK K
    refine to_re _ _ ?_
    refine call_to rfl rfl rfl rfl Try.func42 rfl rfl ?_
    simp only [Try.ntmps42, List.map_toArray, List.map_cons, List.map_nil, List.size_toArray, List.length_cons, List.length_nil, Nat.reduceAdd, Nat.reduceSub, Array.replicate_succ,
     Array.replicate_zero, List.push_toArray, List.append_toArray, List.nil_append, List.cons_append]
    exact elems_pre M w _ fun u6 => hrest u6
  · have hN : ∀ σ : Nat → Question → Nat, SoPost w m (.slice none 0 0) (re w σ 0) := fun σ => by
      refine ⟨σ, 0, ?_, Below.refl _ _⟩
      have e0 : rSubsetOf0 m = [] := by rw [rSubsetOf0, if_neg hin]
      rw [e0]; exact World.ownsRow_nil _ _ _ _
    have hcase : m < 0 ∨ 0 ≤ m ∧ 1048576 ≤ m := by
      simp only [inB, Bool.and_eq_true, decide_eq_true_eq] at hin
      omega
    clear hin
    rcases hcase with h0 | ⟨h0, h1⟩
    · refine at_first tameSb rfl (by kernel_rfl) hways fun σ => ?_
      have HN := Lib.hid (hN σ)
      clear hN
      go_wp2_with fail
      exact hQ _ _ _ HN.out rfl
    · refine at_first tameSb rfl (by kernel_rfl) hways fun σ => ?_
      have HN := Lib.hid (hN σ)
      clear hN
      go_wp2_with fail
      exact hQ _ _ _ HN.out rfl

end Go.Proofs.Ytjdijmccpihkhaa
