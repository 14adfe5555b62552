/- Digits: the program's iterators: the digits of a number, and a list from its last element on. -/
import Derived.Test.YtiemhhkoegkleaaDgS
import Derived.Test.YtiemhhkoegkleaaRf
set_option linter.unusedVariables false
set_option linter.unusedSimpArgs false
set_option maxRecDepth 100000
namespace Go.Proofs.Ytiemhhkoegkleaa
open Go.ChangeShapes Go.WideShapes Go.ChangeAt Go.RowKit

attribute [local go_sem] Oper.semAt_some wide_fn wide_depth

/-- a digit of a base up to 16 -/
abbrev Dig := { x : Int // 0 ≤ x ∧ x ≤ 15 }

set_option maxRecDepth 100000 in
set_option maxHeartbeats 2000000 in
theorem each1_seq (n b Bn Bb n₀ : Nat) (w : World) (hb : 2 ≤ b) (hb16 : b ≤ 16) (hn : n ≤ 1000000000000) (hBn : Bn < n₀) (hBb : Bb < n₀) (hn₀ : n₀ ≤ w.heap.size)
    (hcn : w.cell? ⟨Bn, 0, none⟩ = some (.int .i64 n)) (hcb : w.cell? ⟨Bb, 0, none⟩ = some (.int .i64 b)) :
    SeqW Try.prog 80 #[.pointer (some ⟨Bn, 0, none⟩), .pointer (some ⟨Bb, 0, none⟩)] (fun x : Dig => #[Value.int .i64 x.1]) (Below n₀) 0
      (fun ys => ys.map Subtype.val = dg b n) (fun pre => pre.map Subtype.val <+: dg b n) (dg b n).length w := by
  intro l J Jx W hW hJ hJx hY h0
  have hcn' := (hW.cell (p := ⟨Bn, 0, none⟩) (show Bn < _ by omega)).trans hcn
  have hcb' := (hW.cell (p := ⟨Bb, 0, none⟩) (show Bb < _ by omega)).trans hcb
  clear hcn hcb
  have hsz := hW.size
  refine callsIn_of_wp Try.func80 rfl trivial ?_ rfl
  simp only [Try.ntmps80, List.size_toArray, List.length_cons, List.length_nil, Nat.reduceAdd, Nat.reduceSub, Array.replicate_succ, Array.replicate_zero, List.push_toArray, List.append_toArray, List.nil_append, List.cons_append]
  gi_wp2
  gi_loopw [4] (fun x wr => ∃ (m : Nat) (pre : List Dig), m ≤ n ∧ x = .int .i64 m ∧ dg b n = pre.map Subtype.val ++ dg b m ∧ J pre wr ∧ Below n₀ W wr) (fun x _ => (intOf x).toNat)
  case atStart => exact ⟨n, [], Nat.le_refl _, rfl, rfl, h0, Below.refl _ _⟩
  case round =>
    obtain ⟨m, pre, hm, rfl, hd, hJs, hB⟩ := hrel
    have hcb2 := (hB.cell (p := ⟨Bb, 0, none⟩) hBb).trans hcb'
    by_cases h0 : m = 0
    · subst h0
      rw [dg_zero, List.append_nil] at hd
      gi_wp2
      go_end0
      exact ⟨⟨_, rfl⟩, .inl ⟨pre, hd.symm, hJs⟩⟩
    · rw [dg_step hb h0] at hd
      have hlt := div_lt' hb h0
      have hmb : m % b < b := Nat.mod_lt _ (by omega)
      obtain ⟨fn, tmps, assign, body, hy, hR⟩ := hY pre ⟨((m % b : Nat) : Int), by omega, by omega⟩ wr hJs (by rw [hd]; simp) hB.size
      dsimp only at hy
      have HD := Lib.hid (show dg b n = (pre ++ [(⟨((m % b : Nat) : Int), by omega, by omega⟩ : Dig)]).map Subtype.val ++ dg b (m / b) by rw [hd]; simp)
      have HY := hy
      rw [Int.natCast_emod] at hy
      have hmp : (0 : Int) < m := by omega
      have hbp : (0 : Int) < b := by omega
      clear hd
      gi_wp2
      refine hR.mono ?_
      rintro e W3 ⟨hk3, (⟨rfl, hJ3, hb3⟩ | ⟨rfl, hJx3⟩)⟩
      · have hcb3 := (hb3.cell (p := ⟨Bb, 0, none⟩) hBb).trans hcb2
        have HDV := Lib.hid (show (m : Int) / b = ((m / b : Nat) : Int) from rfl)
        have hdb : (m : Int) / b ≤ m := by rw [HDV.out]; omega
        have hd0 : 0 ≤ (m : Int) / b := Int.ediv_nonneg (by omega) (by omega)
        gi_wp2
        go_roundw
        case rel => exact ⟨m / b, _, by omega, by rw [HDV.out], HD.out, hJ3, hB.trans hb3⟩
        case measure => simp only [intOf]; rw [HDV.out]; simp; exact hlt
      · gi_wp2
        refine bodyPost_ret (results_none rfl _ _ _) rfl ?_
        exact ⟨⟨_, rfl⟩, .inr ⟨_, ⟨dg b (m / b), HD.out.symm⟩, hJx3⟩⟩

end Go.Proofs.Ytiemhhkoegkleaa
