/- The go statement of a subset's elements; SubsetOf beside leavers. -/
import Derived.Test.YtjdijmccpihkhaaPhC
import Derived.Test.YtjdijmccpihkhaaSbC
import Derived.Laws.NewBlocks
set_option linter.unusedVariables false
set_option linter.unusedSimpArgs false
set_option maxRecDepth 100000
set_option maxHeartbeats 4000000
namespace Go.Proofs.Ytjdijmccpihkhaa
open Go.Conc
open Go.RowKit (Below)

def callE (N : Nat) : Deferred := { target := .fn (.func 50) #[.pointer (some ⟨N, 0, none⟩), .pointer (some ⟨N + 2, 0, none⟩)], args := #[] }
theorem bornE (N : Nat) (w : World) : stepG Try.prog false (born Try.prog (callE N)) w =
    .go (G (bE.at ⟨#[.pointer (some ⟨N, 0, none⟩), .pointer (some ⟨N + 2, 0, none⟩), undef, undef, undef, undef, undef, undef, undef, undef, undef, undef, undef, undef, undef], []⟩ [.code bodyE]) [botS]) w #[] := by
  simp [born, callE, stepG, unwind, callDeferred, invoke, callFunc, Try.func50, Try.f50, seen, GStep.after, G, Frame.enter, Frame.at, bE, botS, bodyE]
theorem sendsAll (τ : Nat → Question → Nat) (N m : Nat) : Sends Try.prog (N + 1) (SharedS τ N m) (MineS N) (valsV m 0 20) (born Try.prog (callE N)) := by
  obtain ⟨n₁, h₁⟩ := sendsE τ N m 20 0 rfl
  refine (sends_iff ..).2 ⟨n₁ + 7 + 1, Goes.step rfl fun w₁ _ => ?_⟩
  rw [bornE]
  exact ⟨⟨rfl, by simp⟩, segE_entry τ N m _ n₁ w₁ fun u2 u4 u5 u6 u7 u8 u9 u10 u11 u12 u13 u14 w' => h₁ u2 u4 u5 u6 u7 u8 u9 u10 u11 u12 u13 u14 w'⟩

theorem sharedS_aside {τ : Nat → Question → Nat} {N m : Nat} {w w₁ : World} (ha : Go.Conc.Aside (N + 1) w w₁) (h : SharedS τ N m w) : SharedS τ N m w₁ :=
  ⟨ha.tape.trans h.tape, (World.cell?_of_block (ha.block N (by omega))).trans h.cm, (World.cell?_of_block (ha.block (N + 2) (by omega))).trans h.ch⟩

theorem wGo_eq (w : World) (m : Nat) : wGo w m = (((w.alloc (.cells #[.int .i64 m] 3)).alloc (.chan 0 #[] false 0 0 false)).alloc (.cells #[.chan (some (w.heap.size + 1))] 59)) := by
  unfold wGo
  rw [World.setCell_alloc_at _ _ _ _ _ (by simp)]
  rfl
theorem sharedGo (w : World) (m : Nat) (τ : Nat → Question → Nat) (d : Nat) : SharedS τ w.heap.size m (re (wGo w m) τ d) := by
  refine ⟨rfl, ?_, ?_⟩
  · show (wGo w m).cell? _ = _
    rw [wGo_eq, World.cell?_alloc_past _ _ _ (by simp only [World.size_alloc]; omega), World.cell?_alloc_past _ _ _ (by simp only [World.size_alloc]; omega), World.cell?_alloc_at _ _ _ _ rfl]; rfl
  · show (wGo w m).cell? _ = _
    rw [wGo_eq, World.cell?_alloc_at _ _ _ _ (by simp)]; rfl
theorem chanGo (w : World) (m : Nat) : (wGo w m).heap[w.heap.size + 1]? = some (.chan 0 #[] false 0 0 false) := by
  rw [wGo_eq, Below.heap_alloc _ _ _ (by simp only [World.size_alloc]; omega)]
  have := heap_alloc_new (w.alloc (.cells #[.int .i64 m] 3)) (.chan 0 #[] false 0 0 false)
  simpa only [World.size_alloc] using this
theorem afsGo (w : World) (m : Nat) (τ : Nat → Question → Nat) (d : Nat) : AFS w.heap.size (re w τ d) (.slice none 0 0) [] (re (wGo w m) τ d) := by
  refine ⟨World.ownsRow_nil _ _ _ _, ?_, ?_, (sharedGo w m τ d).ch⟩
  · rw [wGo_eq]
    exact (((Below.refl _ (re w τ d)).alloc (Nat.le_refl _) _).alloc (by simp [re_size]) _).alloc (by simp [re_size]; omega) _
  · rw [wGo_eq]; simp [re_size]

/-- the go statement: behind it the receiver's run, to the return -/
theorem goE {Q : Exit → Act → World → Prop} (cs : List Frame) (m : Nat) (u1 u5 u6 u7 u8 u9 u10 u4 u11 u13 u14 u15 u16 u17 u18 u19 u20 x6 : Value) (w : World)
    (hq : ∀ (t : Array Value) (out : Value) (w' : World) (τ : Nat → Question → Nat) (d : Nat), AFS w.heap.size (re w τ d) out ((soJ m 20).map (.int .i64)) w' → t.getD 2 undef = out → Q .ret ⟨t, []⟩ w') :
    To Try.prog (Arr b22 Q [] cs) (G (bEl.at ⟨#[.int .i64 m, .pointer (some ⟨w.heap.size, 0, none⟩), .chan none, .pointer (some ⟨w.heap.size + 2, 0, none⟩), .chan (some (w.heap.size + 1)), x6, undef], []⟩ [.inRegion opsGo [0, 1], .code tailEl])
      (b22.at ⟨#[.int .i64 m, u1, .slice none 0 0, .slice none 0 0, u4, u5, u6, u7, u8, u9, u10, u11, undef, u13, u14, u15, u16, u17, u18, u19, u20], []⟩ [.inRegion ops4 [1], .code blk22, .code tail22] :: cs)) (wGo w m) := by
  have key : ∀ x5 : Value, x5 = .func (.func 50) #[] #[.pointer (some ⟨w.heap.size, 0, none⟩), .pointer (some ⟨w.heap.size + 2, 0, none⟩)] → To Try.prog (Arr b22 Q [] cs) (G (bEl.at ⟨#[.int .i64 m, .pointer (some ⟨w.heap.size, 0, none⟩), .chan none, .pointer (some ⟨w.heap.size + 2, 0, none⟩), .chan (some (w.heap.size + 1)), x5, undef], []⟩ [.inRegion opsGo [1], .code tailEl])
      (b22.at ⟨#[.int .i64 m, u1, .slice none 0 0, .slice none 0 0, u4, u5, u6, u7, u8, u9, u10, u11, undef, u13, u14, u15, u16, u17, u18, u19, u20], []⟩ [.inRegion ops4 [1], .code blk22, .code tail22] :: cs)) (wGo w m) := by
    intro x5 hx5
    refine spawn_to rfl fun τ d => ⟨G (bEl.at ⟨#[.int .i64 m, .pointer (some ⟨w.heap.size, 0, none⟩), .chan none, .pointer (some ⟨w.heap.size + 2, 0, none⟩), .chan (some (w.heap.size + 1)), x5, undef], []⟩ [.inRegion opsGo [], .code tailEl])
      (b22.at ⟨#[.int .i64 m, u1, .slice none 0 0, .slice none 0 0, u4, u5, u6, u7, u8, u9, u10, u11, undef, u13, u14, u15, u16, u17, u18, u19, u20], []⟩ [.inRegion ops4 [1], .code blk22, .code tail22] :: cs), born Try.prog (callE w.heap.size), re (wGo w m) τ d, #[], w.heap.size + 1, SharedS τ w.heap.size m, MineS w.heap.size, .int .i64 0, valsV m 0 20, 0, 0, false, ?_, by simp, fun _ _ ha h => sharedS_aside ha h, fun _ h => h.tape, sharedGo w m τ d, chanGo w m, ?_, sendsAll τ w.heap.size m⟩
    · subst hx5
      simp only [opsGo, tailEl, bodyEl, Try.f42, Option.getD_some]
      rw [stepG_spawn (d := callE w.heap.size) (w' := re (wGo w m) τ d) (f := .func 50) (c := #[.pointer (some ⟨w.heap.size, 0, none⟩), .pointer (some ⟨w.heap.size + 2, 0, none⟩)]) rfl rfl (by decide) (by simp [go_sem, callE, Deferred.ofValue]) rfl]
      simp [listed, go_sem, seen, Deferred.ofValue]
      rfl
    · refine (recvs_iff ..).2 ⟨0 + 13, segS_first τ w.heap.size m (re w τ d) _ 0 cs _ _ _ _ _ _ _ _ _ _ _ _ _ _ _ _ _ _ _ _ _ _ (afsGo w m τ d) fun w' hF' => Goes.stop fun w₁ h₁ => ?_⟩
      refine stopA_S τ w.heap.size m (re w τ d) cs (fun t out w' hA ht => hq t out w' τ d hA ht) (valsF m 0 20) [] ?_ (by have := valsF_length m 20 0; simp; omega) _ _ _ _ _ _ _ _ _ _ _ _ _ _ _ _ _ _ w₁ (hF'.aside h₁)
      have hv := valsF_soJ m 20 0
      simpa [soJ, iot] using hv
  have key2 := key _ rfl
  clear key
  simp only [opsGo, tailEl, bodyEl, Try.f42, Option.getD_some] at key2 ⊢
  refine op_to tameSb rfl rfl rfl rfl (fun K hK σ => ?_)
  go_simp
  refine hK _ _ ?_
  clear hK K
  exact to_re _ _ key2

end Go.Proofs.Ytjdijmccpihkhaa
