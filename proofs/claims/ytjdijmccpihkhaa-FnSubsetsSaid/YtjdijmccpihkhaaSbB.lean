/- The sender of a subset's elements: its own walk. -/
import Derived.Test.YtjdijmccpihkhaaSbMask
import Derived.Conc.Fork
import Derived.Conc.PipeWords
import Derived.Conc.Walk
set_option linter.unusedVariables false
set_option linter.unusedSimpArgs false
set_option maxRecDepth 100000
set_option maxHeartbeats 4000000
namespace Go.Proofs.Ytjdijmccpihkhaa
open Go.Conc

/-! ### bits -/
theorem and1 (n : Int) : bits .and .i64 n 1 = n % 2 := by
  have h1 : (BitVec.ofInt 64 1).toNat = 2 ^ 1 - 1 := by decide
  have key : (BitVec.ofInt 64 n &&& BitVec.ofInt 64 1).toNat = (n % ((2 ^ 64 : Nat) : Int)).toNat % 2 ^ 1 := by
    rw [BitVec.toNat_and, BitVec.toNat_ofInt, h1, Nat.and_two_pow_sub_one_eq_mod]
  show IntKind.i64.wrap ((BitVec.ofInt 64 n &&& BitVec.ofInt 64 1).toNat : Nat) = n % 2
  rw [key, IntKind.wrap_i64]
  omega

def bE : Frame := { (default : Frame) with fn := 50, kind := .deferred }
noncomputable def bodyE : Code := Try.f50.body.getD .skip
noncomputable def LE : Code := match bodyE with | .seq (.seq _ (.block _ (.loop c))) _ => c | _ => .skip
noncomputable def RE : Code := match bodyE with | .seq _ r => r | _ => .skip
noncomputable def RSE : Code := match LE with | .seq _ (.seq _ (.seq _ r)) => r | _ => .skip
noncomputable def opsS : Array Oper := match LE with | .seq _ (.seq _ (.seq (.block _ (.seq _ (.seq _ (.cond _ (.region _ ops _) _)))) _)) => ops | _ => #[]
noncomputable def opsZ : Array Oper := match RE with | .region _ ops _ => ops | _ => #[]

/-- What is the receiver's own: the cells of the blocks made behind the go statement. 'N': the number of blocks ahead of the three that are made for the sender. -/
def MineS (N : Nat) : Loc → Prop := fun l => ∃ a, l = .cell a ∧ N + 3 ≤ a.block
/-- what the sender reads -/
structure SharedS (τ : Nat → Question → Nat) (N m : Nat) (w : World) : Prop where
  tape : w.tape = τ
  cm : w.cell? ⟨N, 0, none⟩ = some (.int .i64 (m : Int))
  ch : w.cell? ⟨N + 2, 0, none⟩ = some (.chan (some (N + 1)))
theorem evB_cellS {N : Nat} (a : Addr) (s : Bool) (h : a.block < N + 3) : EvB (MineS N) ⟨.cell a, false, s⟩ :=
  ⟨fun m => by simp, rfl, fun ⟨a', e, h'⟩ => by cases e; omega⟩
/-- The child's bottom frame, once its one call has been taken off it. -/
noncomputable def botS : Frame := { (default : Frame) with fn := Try.prog.funcs.size, defers := [], mode := .panicking [goexitEntry] }

/-- the elements from k on, of n numbers -/
def valsF (m : Nat) : Nat → Nat → List Int
  | _, 0 => []
  | k, n + 1 => if m / 2 ^ k % 2 = 1 then (k : Int) :: valsF m (k + 1) n else valsF m (k + 1) n
def valsV (m k n : Nat) : List Value := (valsF m k n).map (.int .i64)
theorem valsF_soJ (m : Nat) : ∀ n k, soJ m k ++ valsF m k n = soJ m (k + n)
  | 0, k => by simp [valsF]
  | n + 1, k => by
    rw [show k + (n + 1) = (k + 1) + n by omega, ← valsF_soJ m n (k + 1)]
    by_cases h : m / 2 ^ k % 2 = 1
    · rw [valsF, if_pos h, soJ_yes h]; simp
    · rw [valsF, if_neg h, soJ_no h]

section
variable (τ : Nat → Question → Nat) (N m : Nat)
abbrev GBS := Goes Try.prog false (fun _ w₁ => SharedS τ N m w₁) (DB (MineS N))

noncomputable def headE (k : Nat) (u2 u4 u5 u6 u7 u8 u9 u10 u11 u12 u13 u14 : Value) : Goroutine :=
  G (bE.at ⟨#[.pointer (some ⟨N, 0, none⟩), .pointer (some ⟨N + 2, 0, none⟩), u2, .int .i64 k, u4, u5, u6, u7, u8, u9, u10, u11, u12, u13, u14], []⟩ [.code LE, .inLoop LE, .inBlock 0, .code RE]) [botS]
noncomputable def atSendE (k : Nat) (u2 u4 u5 u6 u7 u8 u9 u10 u13 u14 : Value) (rest : List Nat) : Goroutine :=
  G (bE.at ⟨#[.pointer (some ⟨N, 0, none⟩), .pointer (some ⟨N + 2, 0, none⟩), u2, .int .i64 k, u4, u5, u6, u7, u8, u9, u10, .chan (some (N + 1)), .int .i64 k, u13, u14], []⟩ [.inRegion opsS rest, .inBlock 1, .code RSE, .inLoop LE, .inBlock 0, .code RE]) [botS]
noncomputable def atCloseE (k : Nat) (u2 u4 u5 u6 u7 u8 u9 u10 u11 u12 u13 : Value) (rest : List Nat) : Goroutine :=
  G (bE.at ⟨#[.pointer (some ⟨N, 0, none⟩), .pointer (some ⟨N + 2, 0, none⟩), u2, .int .i64 k, u4, u5, u6, u7, u8, u9, u10, u11, u12, u13, .chan (some (N + 1))], []⟩ [.inRegion opsZ rest]) [botS]

theorem bit1 {m k : Nat} (h : m / 2 ^ k % 2 = 1) : bits .and .i64 ((m : Int) / 2 ^ k) 1 = 1 := by
  have e : ((m : Int) / 2 ^ k) = ((m / 2 ^ k : Nat) : Int) := by rw [Int.natCast_ediv, Int.natCast_pow]; rfl
  rw [and1, e]; omega
theorem bit0 {m k : Nat} (h : ¬ m / 2 ^ k % 2 = 1) : bits .and .i64 ((m : Int) / 2 ^ k) 1 = 0 := by
  have e : ((m : Int) / 2 ^ k) = ((m / 2 ^ k : Nat) : Int) := by rw [Int.natCast_ediv, Int.natCast_pow]; rfl
  rw [and1, e]; omega

theorem segE_send (Stop : Goroutine → World → Prop) (n₀ k : Nat) (hk : k < 20) (hbit : m / 2 ^ k % 2 = 1) (u2 u4 u5 u6 u7 u8 u9 u10 u11 u12 u13 u14 : Value) (w : World)
    (next : ∀ (u2 u4 u5 u6 u7 u8 u9 u10 u13 u14 : Value) w', GBS τ N m Stop n₀ (atSendE N k u2 u4 u5 u6 u7 u8 u9 u10 u13 u14 [2]) w') : GBS τ N m Stop (n₀ + 26) (headE N k u2 u4 u5 u6 u7 u8 u9 u10 u11 u12 u13 u14) w := by
  have hk' : (k : Int) < 20 := by omega
  have hb1 := bit1 hbit
  clear hbit
  simp only [headE, atSendE, opsS, RSE, LE, RE, bodyE, Try.f50, Option.getD_some] at next ⊢
  repeat (first | b_ctl | b_op [SharedS.cm h₁, SharedS.ch h₁] (evB_cellS _ _ (by simp)))
  b_cond true
  repeat (first | b_ctl | b_op [SharedS.cm h₁, SharedS.ch h₁] (evB_cellS _ _ (by simp)))
  b_cond true
  repeat (first | b_ctl | b_op [SharedS.cm h₁, SharedS.ch h₁] (evB_cellS _ _ (by simp)))
  exact next ..

theorem segE_skip (Stop : Goroutine → World → Prop) (n₀ k : Nat) (hk : k < 20) (hbit : ¬ m / 2 ^ k % 2 = 1) (u2 u4 u5 u6 u7 u8 u9 u10 u11 u12 u13 u14 : Value) (w : World)
    (next : ∀ (u2 u4 u5 u6 u7 u8 u9 u10 u11 u12 u13 u14 : Value) w', GBS τ N m Stop n₀ (headE N (k + 1) u2 u4 u5 u6 u7 u8 u9 u10 u11 u12 u13 u14) w') : GBS τ N m Stop (n₀ + 30) (headE N k u2 u4 u5 u6 u7 u8 u9 u10 u11 u12 u13 u14) w := by
  have hk' : (k : Int) < 20 := by omega
  have hwr : IntKind.i64.wrap ((k : Int) + 1) = ((k + 1 : Nat) : Int) := by rw [IntKind.wrap_i64]; omega
  have hb1 := bit0 hbit
  clear hbit
  simp only [headE, LE, RE, bodyE, Try.f50, Option.getD_some] at next ⊢
  repeat (first | b_ctl | b_op [SharedS.cm h₁, SharedS.ch h₁] (evB_cellS _ _ (by simp)))
  b_cond true
  repeat (first | b_ctl | b_op [SharedS.cm h₁, SharedS.ch h₁] (evB_cellS _ _ (by simp)))
  b_cond false
  repeat (first | b_ctl | b_op [SharedS.cm h₁, SharedS.ch h₁] (evB_cellS _ _ (by simp)))
  exact next ..

theorem segE_next (Stop : Goroutine → World → Prop) (n₀ k : Nat) (hk : k < 20) (u2 u4 u5 u6 u7 u8 u9 u10 u13 u14 : Value) (w : World)
    (next : ∀ (u2 u4 u5 u6 u7 u8 u9 u10 u11 u12 u13 u14 : Value) w', GBS τ N m Stop n₀ (headE N (k + 1) u2 u4 u5 u6 u7 u8 u9 u10 u11 u12 u13 u14) w') : GBS τ N m Stop (n₀ + 7) (atSendE N k u2 u4 u5 u6 u7 u8 u9 u10 u13 u14 []) w := by
  have hwr : IntKind.i64.wrap ((k : Int) + 1) = ((k + 1 : Nat) : Int) := by rw [IntKind.wrap_i64]; omega
  simp only [headE, atSendE, opsS, RSE, LE, RE, bodyE, Try.f50, Option.getD_some] at next ⊢
  repeat (first | b_ctl | b_op [SharedS.cm h₁, SharedS.ch h₁] (evB_cellS _ _ (by simp)))
  exact next ..

theorem segE_close (Stop : Goroutine → World → Prop) (n₀ : Nat) (u2 u4 u5 u6 u7 u8 u9 u10 u11 u12 u13 u14 : Value) (w : World)
    (next : ∀ (u2 u4 u5 u6 u7 u8 u9 u10 u11 u12 u13 : Value) w', GBS τ N m Stop n₀ (atCloseE N 20 u2 u4 u5 u6 u7 u8 u9 u10 u11 u12 u13 [1]) w') : GBS τ N m Stop (n₀ + 9) (headE N 20 u2 u4 u5 u6 u7 u8 u9 u10 u11 u12 u13 u14) w := by
  simp only [headE, atCloseE, opsZ, LE, RE, bodyE, Try.f50, Option.getD_some] at next ⊢
  repeat (first | b_ctl | b_op [SharedS.cm h₁, SharedS.ch h₁] (evB_cellS _ _ (by simp)))
  b_cond false
  b_exit
  repeat (first | b_ctl | b_op [SharedS.cm h₁, SharedS.ch h₁] (evB_cellS _ _ (by simp)))
  exact next ..

theorem atSendE_stop (k : Nat) (vs : List Value) (u2 u4 u5 u6 u7 u8 u9 u10 u13 u14 : Value)
    (next : Sends Try.prog (N + 1) (SharedS τ N m) (MineS N) vs (atSendE N k u2 u4 u5 u6 u7 u8 u9 u10 u13 u14 [])) :
    AtSend Try.prog (N + 1) (SharedS τ N m) (MineS N) (.int .i64 k) (Sends Try.prog (N + 1) (SharedS τ N m) (MineS N) vs) (atSendE N k u2 u4 u5 u6 u7 u8 u9 u10 u13 u14 [2]) := by
  refine ⟨rfl, atSendE N k u2 u4 u5 u6 u7 u8 u9 u10 u13 u14 [2], .tuple #[], #[], fun w _ => ?_, by simp, ?_⟩
  · simp only [atSendE, opsS, LE, bodyE, Try.f50, Option.getD_some]
    rw [stepG_comm (cases := #[scase (N + 1) (.int .i64 k) (.tuple #[])]) (blocking := true) (shape := .send) (w' := w) rfl rfl (by decide) (by simp [execOp, scase, Act.eval])]
    simp [listed, execOp, seen]
  · have e : Conc.served (atSendE N k u2 u4 u5 u6 u7 u8 u9 u10 u13 u14 [2]) undef = atSendE N k u2 u4 u5 u6 u7 u8 u9 u10 u13 u14 [] := by
      simp only [atSendE, opsS, LE, bodyE, Try.f50, Option.getD_some, served_G]
      rfl
    rw [e]; exact next

theorem quitsE (k : Nat) (u2 u4 u5 u6 u7 u8 u9 u10 u11 u12 u13 : Value) : QuitsIn Try.prog 4 (atCloseE N k u2 u4 u5 u6 u7 u8 u9 u10 u11 u12 u13 []) := by
  simp only [atCloseE]
  refine .inr ⟨rfl, _, fun w => stepG_region_end, ?_⟩
  refine .inr ⟨rfl, _, fun w => stepG_end, ?_⟩
  refine .inr ⟨rfl, G botS [], fun w => ?_, ?_⟩
  · simp [G, stepG, unwind, doReturn, results, Frame.at, bE, botS, Try.func50, Try.f50, seen, GStep.after, goexitEntry]
  refine .inr ⟨rfl, { G botS [] with status := .finished }, fun w => ?_, rfl⟩
  simp [G, stepG, unwind, botS, goexitEntry, Frame.catches]
  rfl

theorem atCloseE_stop (k : Nat) (u2 u4 u5 u6 u7 u8 u9 u10 u11 u12 u13 : Value) : AtClose Try.prog (N + 1) (SharedS τ N m) (MineS N) (atCloseE N k u2 u4 u5 u6 u7 u8 u9 u10 u11 u12 u13 [1]) := by
  refine ⟨rfl, ?_, atCloseE N k u2 u4 u5 u6 u7 u8 u9 u10 u11 u12 u13 [], #[⟨.obj (N + 1), false, true⟩], 4, fun w s r tm _ hc => ?_, ?_, quitsE N k ..⟩
  · simp [mayWake, atCloseE, opsZ, RE, bodyE, Try.f50, G, Frame.at]
  · simp only [atCloseE, opsZ, RE, bodyE, Try.f50, Option.getD_some]
    have hr := run_close_open (P := Try.prog) #[59] 0 hc
    have he := events_close_open (P := Try.prog) (es := #[]) #[59] 0 hc
    rw [stepG_value (v := .tuple #[]) (w' := w.shut (N + 1) s r tm) rfl rfl (by decide) (by simp [go_sem, hr, World.shut])]
    have hl : ∀ a o, (execOp a.eval o).events Try.prog w #[] = #[⟨.obj (N + 1), false, true⟩, ⟨.obj (N + 1), true, true⟩] → listed Try.prog bE.fn a o w = #[⟨.obj (N + 1), false, true⟩, ⟨.obj (N + 1), true, true⟩] := by
      intro a o h
      unfold listed
      rw [h]
      exact seen_eq (by simp [bE, Try.func50, Try.f50]) (by simp)
    rw [hl _ _ (by simp [go_sem, he])]
    rfl
  · intro e he
    simp at he
    subst he
    exact ⟨fun m => by simp, rfl, fun ⟨a, h, _⟩ => by cases h⟩

/-- THE SENDER's SCRIPT from the loop's head: n numbers are left -/
theorem sendsE : ∀ (n k : Nat), k + n = 20 → ∃ n', ∀ (u2 u4 u5 u6 u7 u8 u9 u10 u11 u12 u13 u14 : Value) (w : World), GBS τ N m (StopB Try.prog (N + 1) (SharedS τ N m) (MineS N) (valsV m k n)) n' (headE N k u2 u4 u5 u6 u7 u8 u9 u10 u11 u12 u13 u14) w := by
  intro n
  induction n with
  | zero =>
    intro k hk
    obtain rfl : k = 20 := by omega
    exact ⟨0 + 9, fun u2 u4 u5 u6 u7 u8 u9 u10 u11 u12 u13 u14 w => segE_close τ N m _ 0 u2 u4 u5 u6 u7 u8 u9 u10 u11 u12 u13 u14 w fun u2 u4 u5 u6 u7 u8 u9 u10 u11 u12 u13 _ => Goes.stop fun _ _ => atCloseE_stop τ N m 20 u2 u4 u5 u6 u7 u8 u9 u10 u11 u12 u13⟩
  | succ n ih =>
    intro k hk
    obtain ⟨n₁, h₁⟩ := ih (k + 1) (by omega)
    by_cases hbit : m / 2 ^ k % 2 = 1
    · refine ⟨0 + 26, fun u2 u4 u5 u6 u7 u8 u9 u10 u11 u12 u13 u14 w => segE_send τ N m _ 0 k (by omega) hbit u2 u4 u5 u6 u7 u8 u9 u10 u11 u12 u13 u14 w fun u2 u4 u5 u6 u7 u8 u9 u10 u13 u14 _ => Goes.stop fun _ _ => ?_⟩
      rw [valsV, valsF, if_pos hbit, List.map_cons]
      refine atSendE_stop τ N m k _ u2 u4 u5 u6 u7 u8 u9 u10 u13 u14 ((sends_iff ..).2 ⟨n₁ + 7, ?_⟩)
      exact segE_next τ N m _ n₁ k (by omega) u2 u4 u5 u6 u7 u8 u9 u10 u13 u14 default h₁
    · refine ⟨n₁ + 30, fun u2 u4 u5 u6 u7 u8 u9 u10 u11 u12 u13 u14 w => segE_skip τ N m _ n₁ k (by omega) hbit u2 u4 u5 u6 u7 u8 u9 u10 u11 u12 u13 u14 w ?_⟩
      rw [valsV, valsF, if_neg hbit]
      exact h₁

theorem segE_entry (Stop : Goroutine → World → Prop) (n₀ : Nat) (w : World)
    (next : ∀ (u2 u4 u5 u6 u7 u8 u9 u10 u11 u12 u13 u14 : Value) w', GBS τ N m Stop n₀ (headE N 0 u2 u4 u5 u6 u7 u8 u9 u10 u11 u12 u13 u14) w') :
    GBS τ N m Stop (n₀ + 7) (G (bE.at ⟨#[.pointer (some ⟨N, 0, none⟩), .pointer (some ⟨N + 2, 0, none⟩), undef, undef, undef, undef, undef, undef, undef, undef, undef, undef, undef, undef, undef], []⟩ [.code bodyE]) [botS]) w := by
  simp only [headE, LE, RE, bodyE, Try.f50, Option.getD_some] at next ⊢
  repeat (first | b_ctl | b_op [SharedS.cm h₁, SharedS.ch h₁] (evB_cellS _ _ (by simp)))
  exact next ..
end

end Go.Proofs.Ytjdijmccpihkhaa
