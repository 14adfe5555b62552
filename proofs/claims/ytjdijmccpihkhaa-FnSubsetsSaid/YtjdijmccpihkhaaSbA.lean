/- The receiver of a subset's elements: its walk to the go statement, in the sender's company, and on. -/
import Derived.Test.YtjdijmccpihkhaaSbB
import Derived.Test.YtjdijmccpihkhaaPhB
import Derived.Test.YtjdijmccpihkhaaBs
import Derived.Test.YtjdijmccpihkhaaSbT
import Derived.Conc.AppendEvents2
import Derived.Conc.AppendWalk
set_option linter.unusedVariables false
set_option linter.unusedSimpArgs false
set_option maxRecDepth 100000
set_option maxHeartbeats 4000000
namespace Go.Proofs.Ytjdijmccpihkhaa
open Go.Conc
open Go.RowKit (Below)

def bEl : Frame := base 42
noncomputable def bodyEl : Code := Try.f42.body.getD .skip
noncomputable def opsGo : Array Oper := match bodyEl with | .seq _ (.seq _ (.seq (.region _ ops _) _)) => ops | _ => #[]
noncomputable def tailEl : Code := match bodyEl with | .seq _ (.seq _ (.seq _ r)) => r | _ => .skip

theorem re_alloc (w : World) (o : Obj) (σ : Nat → Question → Nat) (d : Nat) : (re w σ d).alloc o = re (w.alloc o) σ d := rfl
theorem re_setCell (w : World) (a : Addr) (v : Value) (σ : Nat → Question → Nat) (d : Nat) : (re w σ d).setCell a v = re (w.setCell a v) σ d := rfl
theorem re_size (w : World) (σ : Nat → Question → Nat) (d : Nat) : (re w σ d).heap.size = w.heap.size := rfl

theorem cell_fresh (w : World) (xs : Array Value) (e : TypeId) (n j : Nat) (hn : n = w.heap.size) : (w.alloc (.cells xs e)).cell? ⟨n, j, none⟩ = xs[j]? := by
  subst hn
  unfold World.cell?
  rw [heap_alloc_new]; rfl
theorem frozen_fresh (w : World) (xs : Array Value) (e : TypeId) (n j : Nat) (hn : n = w.heap.size) : (w.alloc (.cells xs e)).frozen? ⟨n, j, none⟩ = false := by
  subst hn
  unfold World.frozen?
  rw [heap_alloc_new]; simp
theorem mkS (w : World) : (Instr.makeChan 59 (.int .i64 0)).run Try.prog w = .ok (.chan (some w.heap.size)) (w.alloc (.chan 0 #[] false 0 0 false)) := by
  obtain ⟨i0, hi, hz0, hz1, hz2⟩ := info_parts infoInt
  simpa using run_makeChan (P := Try.prog) (w := w) Try.underlying59 hi .i64 0 (by omega) (by rw [hz2]; omega)
noncomputable def wGo (w : World) (m : Nat) : World := (((w.alloc (.cells #[.int .i64 m] 3)).alloc (.chan 0 #[] false 0 0 false)).alloc (.cells #[.chan none] 59)).setCell ⟨w.heap.size + 2, 0, none⟩ (.chan (some (w.heap.size + 1)))
theorem elems_pre {T : Goroutine → World → Prop} (m : Nat) (w : World) (cs : List Frame)
    (next : ∀ u6 : Value, To Try.prog T (G (bEl.at ⟨#[.int .i64 m, .pointer (some ⟨w.heap.size, 0, none⟩), .chan none, .pointer (some ⟨w.heap.size + 2, 0, none⟩), .chan (some (w.heap.size + 1)), u6, undef], []⟩ [.inRegion opsGo [0, 1], .code tailEl]) cs) (wGo w m)) :
    To Try.prog T (G (bEl.at ⟨#[.int .i64 m, undef, undef, undef, undef, undef, undef], []⟩ [.code bodyEl]) cs) w := by
  simp only [bodyEl, opsGo, tailEl, Try.f42, Option.getD_some] at next ⊢
  refine ctl_step rfl (fun W => stepG_seq) ?_
  refine ctl_step rfl (fun W => stepG_region) ?_
  simp only [List.size_toArray, List.length_cons, List.length_nil, Nat.reduceAdd, Nat.zero_add, List.range, List.range.loop]
  refine op_to tameSb rfl rfl rfl rfl (fun K hK σ => ?_)
  go_simp
  refine hK _ _ ?_
  clear hK K
  rw [re_alloc, re_size]
  refine to_re _ _ ?_
  refine op_to tameSb rfl rfl rfl rfl (fun K hK σ => ?_)
  go_simp
  refine hK _ _ ?_
  clear hK K
  refine to_re _ _ ?_
  refine ctl_step rfl (fun W => stepG_region_end) ?_
  refine ctl_step rfl (fun W => stepG_seq) ?_
  refine ctl_step rfl (fun W => stepG_region) ?_
  simp only [List.size_toArray, List.length_cons, List.length_nil, Nat.reduceAdd, Nat.zero_add, List.range, List.range.loop]
  refine op_to tameSb rfl rfl rfl rfl (fun K hK σ => ?_)
  have hmc := mkS
  go_simp
  refine hK _ _ ?_
  clear hK K hmc
  rw [re_alloc, re_size]
  refine to_re _ _ ?_
  refine op_to tameSb rfl rfl rfl rfl (fun K hK σ => ?_)
  go_simp
  refine hK _ _ ?_
  clear hK K
  rw [re_alloc, re_size]
  refine to_re _ _ ?_
  refine op_to tameSb rfl rfl rfl rfl (fun K hK σ => ?_)
  have hc : (re (((w.alloc (.cells #[.int .i64 m] 3)).alloc (.chan 0 #[] false 0 0 false)).alloc (.cells #[.chan none] 59)) σ 0).cell? ⟨w.heap.size + 1 + 1, 0, none⟩ = some (.chan none) := cell_fresh _ _ _ _ 0 (by simp)
  have hz : (re (((w.alloc (.cells #[.int .i64 m] 3)).alloc (.chan 0 #[] false 0 0 false)).alloc (.cells #[.chan none] 59)) σ 0).frozen? ⟨w.heap.size + 1 + 1, 0, none⟩ = false := frozen_fresh _ _ _ _ 0 (by simp)
  go_simp
  refine hK _ _ ?_
  clear hK K hc hz
  rw [re_setCell]
  refine to_re _ _ ?_
  refine ctl_step rfl (fun W => stepG_region_end) ?_
  refine ctl_step rfl (fun W => stepG_seq) ?_
  refine ctl_step rfl (fun W => stepG_region) ?_
  simp only [List.size_toArray, List.length_cons, List.length_nil, Nat.reduceAdd, Nat.zero_add, List.range, List.range.loop]
  exact next undef

/-! ### in the sender's company -/
/-- what the receiver knows of the world -/
structure AFS (N : Nat) (W : World) (out : Value) (xs : List Value) (w : World) : Prop where
  own : w.ownsRow (N + 3) 3 1 out xs.length xs
  below : Below N W w
  size : N + 3 ≤ w.heap.size
  chv : w.cell? ⟨N + 2, 0, none⟩ = some (.chan (some (N + 1)))
theorem AFS.aside {N : Nat} {W : World} {out : Value} {xs : List Value} {w w₁ : World} (h : AFS N W out xs w) (ha : Go.Conc.Aside (N + 1) w w₁) : AFS N W out xs w₁ := by
  refine ⟨⟨h.own.1, ?_⟩, ⟨ha.os.trans h.below.os, ha.tape.trans h.below.tape, ha.output.trans h.below.output, by rw [ha.size]; exact h.below.size, fun k hk => (ha.block k (by omega)).trans (h.below.block k hk)⟩, by rw [ha.size]; exact h.size, ?_⟩
  · rcases h.own.2 with h0 | ⟨g, cp, cur, e, hg, hh, r⟩
    · exact .inl h0
    · exact .inr ⟨g, cp, cur, e, hg, (ha.block g (by omega)).trans hh, r⟩
  · exact (World.cell?_of_block (ha.block (N + 2) (by omega))).trans h.chv
theorem DA_ofS {τ : Nat → Question → Nat} {N m : Nat} {w w' : World} {es : Array Event} (h : Below (N + 3) w w') (he : ∀ e ∈ es, EvA (MineS N) e) : DA (N + 1) (SharedS τ N m) (MineS N) w w' es :=
  ⟨fun hS => ⟨h.tape.trans hS.tape, (h.cell (by simp)).trans hS.cm, (h.cell (by simp)).trans hS.ch⟩, h.block (N + 1) (by omega), he⟩
theorem evA_readS {N : Nat} (l : Loc) (s : Bool) (h : ∀ m, l = .mark m → Neutral m) : EvA (MineS N) ⟨l, false, s⟩ := ⟨h, fun h => by cases h⟩
theorem AFS.alloc {N : Nat} {W : World} {out : Value} {xs : List Value} {w : World} (h : AFS N W out xs w) (o : Obj) : AFS N W out xs (w.alloc o) :=
  ⟨h.own.alloc o, h.below.alloc (by have := h.size; omega) o, by have := h.size; simp; omega, by rw [World.cell?_alloc_past _ _ _ (by have := h.size; omega)]; exact h.chv⟩
theorem AFS.grown {N : Nat} {W : World} {out out' : Value} {xs xs' : List Value} {w w' : World} (h : AFS N W out xs w) (hg : w.grownBy w' out.ownBlock) (ho : w'.ownsRow (N + 3) 3 1 out' xs'.length xs') : AFS N W out' xs' w' :=
  ⟨ho, h.below.grown hg (by have := h.size; omega) (fun k hk => by have := (h.own.lt k hk).1; omega), Nat.le_trans h.size hg.size, hg.cell h.chv (fun e => by have := (h.own.lt _ e.symm).1; simp at this)⟩

def b22 : Frame := base 22
noncomputable def body22 : Code := Try.f22.body.getD .skip
/-- what is left behind the test: the call, the loop, the return -/
noncomputable def rest22 : Code := match body22 with | .seq _ (.seq _ (.seq _ r)) => r | _ => .skip
noncomputable def ops4 : Array Oper := match rest22 with | .seq (.seq (.region _ ops _) _) _ => ops | _ => #[]
noncomputable def blk22 : Code := match rest22 with | .seq (.seq _ r) _ => r | _ => .skip
noncomputable def tail22 : Code := match rest22 with | .seq _ r => r | _ => .skip
noncomputable def L22 : Code := match blk22 with | .block _ (.loop c) => c | _ => .skip
noncomputable def L22b : Code := match L22 with | .seq _ r => r | _ => .skip
noncomputable def ops5 : Array Oper := match L22 with | .seq (.region _ ops _) _ => ops | _ => #[]

section
variable (τ : Nat → Question → Nat) (N m : Nat) (W : World)
abbrev GAS := Goes Try.prog true (Go.Conc.Aside (N + 1)) (DA (N + 1) (SharedS τ N m) (MineS N))

noncomputable def atRecvS (cs : List Frame) (u1 u5 u6 u7 u8 u9 u10 out u4 u11 u13 u14 u15 u16 u17 u18 u19 u20 : Value) (rest : List Nat) : Goroutine :=
  G (b22.at ⟨#[.int .i64 m, u1, .slice none 0 0, out, u4, u5, u6, u7, u8, u9, u10, u11, .chan (some (N + 1)), u13, u14, u15, u16, u17, u18, u19, u20], []⟩ [.inRegion ops5 rest, .code L22b, .inLoop L22, .inBlock 0, .code tail22]) cs

/-- from behind the go statement to the first receive -/
theorem segS_first (Stop : Goroutine → World → Prop) (n₀ : Nat) (cs : List Frame) (u1 u5 u6 u7 u8 u9 u10 u4 u11 u13 u14 u15 u16 u17 u18 u19 u20 x2 x4 x5 x6 : Value) (w : World) (hF : AFS N W (.slice none 0 0) [] w)
    (next : ∀ w', AFS N W (.slice none 0 0) [] w' → GAS τ N m Stop n₀ (atRecvS N m cs u1 u5 u6 u7 u8 u9 u10 (.slice none 0 0) u4 u11 u13 u14 u15 u16 u17 u18 u19 u20 [0, 1]) w') :
    GAS τ N m Stop (n₀ + 13) (G (bEl.at ⟨#[.int .i64 m, .pointer (some ⟨N, 0, none⟩), x2, .pointer (some ⟨N + 2, 0, none⟩), x4, x5, x6], []⟩ [.inRegion opsGo [], .code tailEl])
      (b22.at ⟨#[.int .i64 m, u1, .slice none 0 0, .slice none 0 0, u4, u5, u6, u7, u8, u9, u10, u11, undef, u13, u14, u15, u16, u17, u18, u19, u20], []⟩ [.inRegion ops4 [1], .code blk22, .code tail22] :: cs)) w := by
  simp only [atRecvS, ops5, ops4, L22b, L22, blk22, tail22, rest22, body22, opsGo, tailEl, bodyEl, Try.f42, Try.f22, Option.getD_some] at next ⊢
  repeat (first | a_ctl hF AFS.aside (DA_ofS (Below.refl _ _) (by simp)) | a_op hF AFS.aside [AFS.chv hF] (DA_ofS (Below.refl _ _)) (evA_readS _ _ (by simp)))
  refine Goes.step rfl (fun _ h₁ => ?_)
  rw [stepG_ret']
  simp only [goes_go]
  refine ⟨DA_ofS (Below.refl _ _) (by simp), ?_⟩
  replace hF := AFS.aside hF h₁
  clear h₁
  refine Goes.step rfl (fun _ h₁ => ?_)
  refine goes_leave1 (t := 2) rfl rfl Try.func42 rfl ⟨DA_ofS (Below.refl _ _) (by simp), ?_⟩
  replace hF := AFS.aside hF h₁
  clear h₁
  repeat (first | a_ctl hF AFS.aside (DA_ofS (Below.refl _ _) (by simp)) | a_op hF AFS.aside [AFS.chv hF] (DA_ofS (Below.refl _ _)) (evA_readS _ _ (by simp)))
  exact next _ hF
end

end Go.Proofs.Ytjdijmccpihkhaa
