/- The receiver of a subset's elements: one round of its loop; its script; the end. -/
import Derived.Test.YtjdijmccpihkhaaSbA
import Derived.Laws.AppendOwn
set_option linter.unusedVariables false
set_option linter.unusedSimpArgs false
set_option maxRecDepth 100000
set_option maxHeartbeats 4000000
namespace Go.Proofs.Ytjdijmccpihkhaa
open Go.Conc
open Go.RowKit (Below)

section
variable (τ : Nat → Question → Nat) (N m : Nat) (W : World)

theorem segS_round (Stop : Goroutine → World → Prop) (n₀ : Nat) (cs : List Frame) (u1 u5 u6 u7 u8 u9 u10 out u4 u11 u14 u15 u16 u17 u18 u19 u20 : Value) (xs : List Value) (x : Int) (w : World) (hF : AFS N W out xs w)
    (hlen : (xs.length + 1) * 8 ≤ 140737488355328)
    (next : ∀ (out' u4 u14 u15 u16 u17 u18 u19 u20 : Value) w', AFS N W out' (xs ++ [.int .i64 x]) w' → GAS τ N m Stop n₀ (atRecvS N m cs u1 u5 u6 u7 u8 u9 u10 out' u4 u11 (.tuple #[.int .i64 x, .bool true]) u14 u15 u16 u17 u18 u19 u20 [0, 1]) w') :
    GAS τ N m Stop (n₀ + 22) (atRecvS N m cs u1 u5 u6 u7 u8 u9 u10 out u4 u11 (.tuple #[.int .i64 x, .bool true]) u14 u15 u16 u17 u18 u19 u20 [1]) w := by
  simp only [atRecvS, ops5, ops4, L22b, L22, blk22, tail22, rest22, body22, Try.f22, Option.getD_some] at next ⊢
  repeat (first | a_ctl hF AFS.aside (DA_ofS (Below.refl _ _) (by simp)) | a_op hF AFS.aside [AFS.chv hF] (DA_ofS (Below.refl _ _)) (evA_readS _ _ (by simp)))
  a_cond true hF AFS.aside (DA_ofS (Below.refl _ _) (by simp))
  repeat (first | a_ctl hF AFS.aside (DA_ofS (Below.refl _ _) (by simp)) | a_op hF AFS.aside [AFS.chv hF] (DA_ofS (Below.refl _ _)) (evA_readS _ _ (by simp)))
  -- buildSlice: a new block of one cell
  refine Goes.step rfl (fun w₁ h₁ => ?_)
  replace hF := AFS.aside hF h₁
  clear h₁
  refine goes_oper_k rfl rfl (by decide) (fun K hK => ?_)
  go_simp
  refine hK _ _ ⟨DA_ofS ((Below.refl _ _).alloc hF.size _) (fun e he => ?_), ?_⟩
  · have hm := mem_listed he
    simp [go_sem] at hm
  clear hK K
  have hsz := hF.size
  have hnew : (w₁.alloc (.cells #[.int .i64 x] 3)).cell? ⟨w₁.heap.size, 0, none⟩ = some (.int .i64 x) := by
    rw [World.cell?_alloc_at _ _ _ _ rfl]; rfl
  replace hF := hF.alloc (.cells #[.int .i64 x] 3)
  refine Goes.step rfl (fun w₂ h₂ => ?_)
  replace hF := AFS.aside hF h₂
  replace hnew : w₂.cell? ⟨w₁.heap.size, 0, none⟩ = some (.int .i64 x) := (World.cell?_of_block (h₂.block _ (by simp; omega))).trans hnew
  clear h₂
  obtain ⟨i0, hi, hz0, hz1, hz2⟩ := info_parts infoInt
  have hnews : ∀ j u, [Value.int .i64 x][j]? = some u → w₂.cell? ((⟨w₁.heap.size, 0, none⟩ : Addr).add j) = some u := by
    intro j u hj
    match j, hj with
    | 0, hj => simp at hj; subst hj; simpa [Addr.add] using hnew
  have h1 : ∀ u ∈ [Value.int .i64 x], u.oneCell' = true := by intro u hu; simp at hu; subst hu; rfl
  have h63 : xs.length + 1 ≤ maxLen := by simp only [maxLen]; omega
  obtain ⟨out', w₃, hr, hown', hgrow, _⟩ := run_append_own (P := Try.prog) w₂ (N + 3) 23 23 3 i0 (.int .i64 0) 1 8 Try.underlying23 hi hz0 hz1 hz2 rfl (by decide) out xs.length xs hF.own ⟨w₁.heap.size, 0, none⟩ 1 1 [.int .i64 x] rfl hnews h1 h63 hlen hF.size
  have hevs := events_append_own (P := Try.prog) w₂ (N + 3) 23 23 3 i0 (.int .i64 0) 1 8 Try.underlying23 hi hz0 hz1 hz2 out xs.length xs hF.own ⟨w₁.heap.size, 0, none⟩ 1 1 [.int .i64 x] rfl hnews h1 h63 hlen
  refine goes_oper_k rfl rfl (by decide) (fun K hK => ?_)
  refine uponK_append (.tmp 16) (.tmp 18) 23 rfl rfl rfl hr (hK _ _ ⟨DA_ofS ((Below.refl _ _).grown hgrow hF.size (fun k hk => (hF.own.lt k hk).1)) (fun e he => ?_), ?_⟩)
  · have hm := mem_listed he
    rw [events_append_op (.tmp 16) (.tmp 18) 23 rfl rfl rfl] at hm
    rcases hevs e hm with ⟨ad, h2, h3⟩ | ⟨ad, h2, h3⟩ | ⟨m, rfl, hn⟩
    · exact ⟨fun m => by rw [h2]; simp, fun hw => by rw [h3] at hw; cases hw⟩
    · exact ⟨fun m => by rw [h2]; simp, fun _ => ⟨ad, h2, (hF.own.lt _ h3.symm).1⟩⟩
    · exact ⟨fun m' h' => (by cases h'; exact hn), fun hw => (by cases hw)⟩
  clear hK K
  replace hF : AFS N W out' (xs ++ [.int .i64 x]) w₃ := hF.grown hgrow (by simpa using hown')
  clear hr hown' hgrow hevs hnews hnew
  repeat (first | a_ctl hF AFS.aside (DA_ofS (Below.refl _ _) (by simp)) | a_op hF AFS.aside [AFS.chv hF] (DA_ofS (Below.refl _ _)) (evA_readS _ _ (by simp)))
  exact next _ _ _ _ _ _ _ _ _ _ hF

theorem atRecvS_comm (cs : List Frame) (u1 u5 u6 u7 u8 u9 u10 out u4 u11 u13 u14 u15 u16 u17 u18 u19 u20 : Value) (w : World) : stepG Try.prog true (atRecvS N m cs u1 u5 u6 u7 u8 u9 u10 out u4 u11 u13 u14 u15 u16 u17 u18 u19 u20 [0, 1]) w =
    .comm (core (atRecvS N m cs u1 u5 u6 u7 u8 u9 u10 out u4 u11 u13 u14 u15 u16 u17 u18 u19 u20 [0, 1])) #[rcase (N + 1) (.int .i64 0)] true (.recv true) w #[] := by
  obtain ⟨i0, hi, hz0, hz1, hz2⟩ := info_parts infoInt
  simp only [atRecvS, ops5, ops4, L22b, L22, blk22, tail22, rest22, body22, Try.f22, Option.getD_some, core_G]
  rw [stepG_comm (cases := #[rcase (N + 1) (.int .i64 0)]) (blocking := true) (shape := .recv true) (w' := w) rfl rfl (by decide) (by simp [go_sem, rcase, hi, hz0])]
  simp [listed, go_sem, seen, hi, hz0]

theorem served_atRecvS (cs : List Frame) (u1 u5 u6 u7 u8 u9 u10 out u4 u11 u13 u14 u15 u16 u17 u18 u19 u20 v : Value) : Conc.served (core (atRecvS N m cs u1 u5 u6 u7 u8 u9 u10 out u4 u11 u13 u14 u15 u16 u17 u18 u19 u20 [0, 1])) v = atRecvS N m cs u1 u5 u6 u7 u8 u9 u10 out u4 u11 v u14 u15 u16 u17 u18 u19 u20 [1] := by
  simp only [atRecvS, ops5, ops4, L22b, L22, blk22, tail22, rest22, body22, Try.f22, Option.getD_some, core_G, served_G]
  rfl

theorem endS {Q : Exit → Act → World → Prop} (cs : List Frame) (u1 u5 u6 u7 u8 u9 u10 out u4 u11 u14 u15 u16 u17 u18 u19 u20 : Value) (w : World)
    (hq : ∀ t : Array Value, t.getD 2 undef = out → Q .ret ⟨t, []⟩ w) :
    To Try.prog (Arr b22 Q [] cs) (atRecvS N m cs u1 u5 u6 u7 u8 u9 u10 out u4 u11 (.tuple #[.int .i64 0, .bool false]) u14 u15 u16 u17 u18 u19 u20 [1]) w := by
  simp only [atRecvS, ops5, ops4, L22b, L22, blk22, tail22, rest22, body22, Try.f22, Option.getD_some]
  refine op_to tameSb rfl rfl rfl rfl (fun K hK σ => ?_)
  go_simp
  refine hK _ _ ?_
  clear hK K
  refine to_re _ _ ?_
  refine ctl_step rfl (fun W => stepG_region_end) ?_
  refine ctl_step rfl (fun W => stepG_seq) ?_
  refine ctl_step rfl (fun W => stepG_cond (t := false) rfl) ?_
  simp only [Bool.false_eq_true, if_false]
  refine ctl_step rfl (fun W => stepG_exit (show exitTo 0 _ = some _ from rfl)) ?_
  refine ctl_step rfl (fun W => stepG_seq) ?_
  refine ctl_step rfl (fun W => stepG_region) ?_
  simp only [List.size_toArray, List.length_cons, List.length_nil, Nat.reduceAdd, Nat.zero_add, List.range, List.range.loop]
  refine op_to tameSb rfl rfl rfl rfl (fun K hK σ => ?_)
  go_simp
  refine hK _ _ ?_
  clear hK K
  refine to_re _ _ ?_
  refine op_to tameSb rfl rfl rfl rfl (fun K hK σ => ?_)
  go_simp
  refine hK _ _ ?_
  clear hK K
  refine to_re _ _ ?_
  refine ctl_step rfl (fun W => stepG_region_end) ?_
  refine ctl_step rfl (fun W => stepG_ret') ?_
  exact .here (arr_ret (k := []) ⟨w.tape, w.drawn, hq _ rfl⟩)

theorem valsF_length (m : Nat) : ∀ n k, (valsF m k n).length ≤ n
  | 0, k => by simp [valsF]
  | n + 1, k => by
    have := valsF_length m n (k + 1)
    unfold valsF
    split <;> simp <;> omega

/-- THE RECEIVER's SCRIPT at the receive: xs are received, valsV m k n are to come -/
theorem stopA_S {Q : Exit → Act → World → Prop} (cs : List Frame)
    (hq : ∀ (t : Array Value) (out : Value) (w' : World), AFS N W out ((soJ m 20).map (.int .i64)) w' → t.getD 2 undef = out → Q .ret ⟨t, []⟩ w') :
    ∀ (vs : List Int) (xs : List Int), xs ++ vs = soJ m 20 → xs.length + vs.length ≤ 1000 → ∀ (u1 u5 u6 u7 u8 u9 u10 out u4 u11 u13 u14 u15 u16 u17 u18 u19 u20 : Value) (w : World), AFS N W out (xs.map (.int .i64)) w →
      StopA Try.prog (N + 1) (SharedS τ N m) (MineS N) (.int .i64 0) (fun g w => To Try.prog (Arr b22 Q [] cs) g w) (vs.map (.int .i64)) (atRecvS N m cs u1 u5 u6 u7 u8 u9 u10 out u4 u11 u13 u14 u15 u16 u17 u18 u19 u20 [0, 1]) w := by
  intro vs
  induction vs with
  | nil =>
    intro xs hxs hlen u1 u5 u6 u7 u8 u9 u10 out u4 u11 u13 u14 u15 u16 u17 u18 u19 u20 w hF
    refine ⟨rfl, #[], atRecvS_comm N m cs u1 u5 u6 u7 u8 u9 u10 out u4 u11 u13 u14 u15 u16 u17 u18 u19 u20 w, by simp, fun w₂ h₂ => ?_⟩
    simp only [served_atRecvS]
    refine endS N m cs u1 u5 u6 u7 u8 u9 u10 out u4 u11 u14 u15 u16 u17 u18 u19 u20 w₂ fun t ht => hq t out w₂ ?_ ht
    rw [← hxs, List.append_nil]
    exact hF.aside h₂
  | cons v vs ih =>
    intro xs hxs hlen u1 u5 u6 u7 u8 u9 u10 out u4 u11 u13 u14 u15 u16 u17 u18 u19 u20 w hF
    refine ⟨rfl, #[], atRecvS_comm N m cs u1 u5 u6 u7 u8 u9 u10 out u4 u11 u13 u14 u15 u16 u17 u18 u19 u20 w, by simp, fun w₂ h₂ => ?_⟩
    simp only [served_atRecvS]
    simp only [List.length_cons] at hlen
    refine (recvs_iff ..).2 ⟨0 + 22, segS_round τ N m W _ 0 cs u1 u5 u6 u7 u8 u9 u10 out u4 u11 u14 u15 u16 u17 u18 u19 u20 _ v w₂ (hF.aside h₂) (by rw [List.length_map]; omega) fun out' u4 u14 u15 u16 u17 u18 u19 u20 w' hF' => Goes.stop fun w₁ h₁ => ?_⟩
    refine ih (xs ++ [v]) (by rw [← hxs]; simp) (by simp; omega) u1 u5 u6 u7 u8 u9 u10 out' u4 u11 _ u14 u15 u16 u17 u18 u19 u20 w₁ ?_
    have e : (xs ++ [v]).map (Value.int .i64) = xs.map (.int .i64) ++ [.int .i64 v] := by simp
    rw [e]
    exact hF'.aside h₁
end

end Go.Proofs.Ytjdijmccpihkhaa
