/- Gray codes, the program: the test of a cycle. -/
import Derived.Test.YtleadjkndciniaaDoorGrI1
import Derived.Test.YtleadjkndciniaaDoorGrI2
import Derived.Test.YtleadjkndciniaaDoorGrTest
import Derived.Deep.WholeRow
import Derived.Laws.Rows
import Derived.Laws.Tables
set_option linter.unusedVariables false
set_option linter.unusedSimpArgs false
set_option maxRecDepth 100000
namespace Go.Proofs.YtleadjkndciniaaDoor
open Go.ChangeShapes Go.WideShapes Go.ChangeAt Go.RowKit

/-! ### 64 marks in one variable -/
def seenA (f : Nat → Bool) : Array Value := (tbB 64 f).toArray
theorem seenA_at {f : Nat → Bool} {x : Nat} (h : x < 64) : (seenA f)[x]? = some (.bool (f x)) := by
  rw [seenA, List.getElem?_toArray]; exact tbB_at h
theorem seenA_set {f : Nat → Bool} {x : Nat} : (seenA f).setIfInBounds x (.bool true) = seenA (fun j => if j = x then true else f j) := by
  rw [seenA, List.setIfInBounds_toArray, tbB_set]; rfl
theorem infoSeen : (Tryd.prog.info? 54).map (fun i => (i.zero, i.size)) = some (some (.agg (seenA (fun _ => false))), 64) := by kernel_rfl
theorem cell_rowG {w : World} {g : Nat} {cs : Array Value} {T : TypeId} (h : Hid (w.heap[g]? = some (.cells cs T (0, 0)))) {i : Nat} {v : Value} (hi : cs[i]? = some v) : w.cell? ⟨g, i, none⟩ = some v := by
  rw [cell_of_row w g i cs T (0, 0) h]; exact hi
theorem frozen_rowG {w : World} {g : Nat} {cs : Array Value} {T : TypeId} (h : Hid (w.heap[g]? = some (.cells cs T (0, 0)))) (i : Nat) : w.frozen? ⟨g, i, none⟩ = false := by
  have := h.out
  simp [World.frozen?, this]
section
variable {ops : Array Oper} {rest : List Oper} {o : Oper} {a : Act} {w : World} {Q : Exit → Act → World → Prop}
/-- a new variable of 64 marks -/
theorem wpM_alloc (hg : o.guard = none) (ho : o.op = .alloc 54)
    (h : ∀ (w1 : World) (g : Nat), Hid (w1.heap[g]? = some (.cells (seenA (fun _ => false)) 54 (0, 0))) → Hid (g = w.heap.size ∧ w1.heap.size = g + 1) → Below w.heap.size w w1 → wpList Tryd.prog ops Q rest (a.put o.dst (.pointer (some ⟨g, 0, none⟩))) w1) :
    wpList Tryd.prog ops Q (o :: rest) a w := by
  refine wpList_plain hg fun K hK => ?_
  unfold Oper.wp execOp
  simp only [ho, Sem.run_bind, Instr.alloc, newVar, newRow, (zero_of_info infoSeen).1, run_newObj_alloc, Sem.run_pure, Result.andThen_ok]
  exact hK _ _ (h (w.alloc (.cells (seenA (fun _ => false)) 54)) w.heap.size (heap_alloc_new _ _) ⟨rfl, by simp⟩ ((Below.refl _ _).alloc (Nat.le_refl _) _))
end

/-! ### what a round of the program finds -/
/-- all that the program has tested of a place -/
structure CycW (l : List Int) (i : Nat) : Prop where
  inn : 0 ≤ l.getD i 0 ∧ l.getD i 0 ≤ (l.length : Int) - 1
  new : (l.take i).contains (l.getD i 0) = false
  one : (0 ≤ l.getD ((i + 1) % l.length) 0 ∧ l.getD ((i + 1) % l.length) 0 ≤ (l.length : Int) - 1) → pw2 ((l.getD i 0).toNat ^^^ (l.getD ((i + 1) % l.length) 0).toNat) = true
theorem cycW_all {l : List Int} (h : ∀ i, i < l.length → CycW l i) : cycB l = true := by
  refine cycB_yes (fun i hi => ?_)
  have h1 := h i hi
  have h2 := (h ((i + 1) % l.length) (Nat.mod_lt _ (by omega))).inn
  rw [cycAt, decide_eq_true h1.inn, h1.new, decide_eq_true h2.1, h1.one h2]; rfl
theorem cyc_far {l : List Int} {p : Nat} (hp : p < l.length) (h : ¬ (0 ≤ l.getD p 0 ∧ l.getD p 0 ≤ (l.length : Int) - 1)) : cycB l = false :=
  cycB_no hp (by rw [cycAt, decide_eq_false h]; rfl)
theorem cyc_twice {l : List Int} {p : Nat} (hp : p < l.length) (h : (l.take p).contains (l.getD p 0) = true) : cycB l = false :=
  cycB_no hp (by rw [cycAt, h]; simp)
theorem cyc_more {l : List Int} {p : Nat} (hp : p < l.length) (h : pw2 ((l.getD p 0).toNat ^^^ (l.getD ((p + 1) % l.length) 0).toNat) = false) : cycB l = false :=
  cycB_no hp (by rw [cycAt, h]; simp)
/-- two numbers and their bits in which they differ, as a word -/
theorem xor_word (X : Nat) (y : Int) (hX : X < 64) : ∃ (Z : Int) (U : Nat), bits .xor .i64 (X : Int) y = Z ∧ IntKind.u64.wrap Z = (U : Int) ∧ U < 18446744073709551616 ∧ ((0 ≤ y ∧ y < 64) → U = X ^^^ y.toNat ∧ U < 64) := by
  refine ⟨_, (IntKind.u64.wrap (bits .xor .i64 (X : Int) y)).toNat, rfl, ?_, ?_, ?_⟩
  · rw [IntKind.wrap_u64]; omega
  · rw [IntKind.wrap_u64]; omega
  · rintro ⟨h0, h1⟩
    obtain ⟨Y, rfl⟩ : ∃ Y : Nat, y = Y := ⟨y.toNat, by omega⟩
    have hz : X ^^^ Y < 2 ^ 6 := Nat.xor_lt_two_pow (by omega) (by omega)
    rw [xor_i64 X Y (by omega) (by omega), IntKind.wrap_u64, Int.toNat_natCast]
    omega

set_option maxHeartbeats 8000000 in
theorem implIsGrayCycle_any (v : Value) (l : List Int) (k : Int) (w : World) (hr : RowAt w v (intsOf l)) (hl : l.length ≤ 1048576) (hi : ∀ n ∈ l, in64 n) (hk : in64 k) :
    Calls Tryd.prog 18 #[v, .int .i64 k] w fun e w' => e = .returned (.bool (rIsGrayCycle0 l k)) ∧ Below w.heap.size w w' := by
  have HK := Lib.hid (fun W => cycleOk_any k W)
  have E := Lib.hid (show rIsGrayCycle0 l k = (inB k 1 6 && (decide ((l.length : Int) = ((2 ^ k.toNat : Nat) : Int)) && cycB l)) from rfl)
  have HR := Lib.hid (fun W (hb : Below w.heap.size w W) => (hr.below hb))
  obtain ⟨RES, hRES⟩ : ∃ R, R = rIsGrayCycle0 l k := ⟨_, rfl⟩
  rw [← hRES] at E ⊢
  clear hRES
  obtain ⟨a, cap, rfl, q1, q2, q3⟩ := hr.ints
  unfold maxLen at q2
  cases h : inB k 1 6
  · rw [h] at HK E
    clear h q3 hr
    go_enter Tryd.func18, Tryd.ntmps18
    go_wp2_with (go_at_call 38; refine (HK.out _).mono ?_; rintro e w' ⟨rfl, rfl⟩)
    go_ret
    exact ⟨by rw [E.out]; rfl, Below.refl _ _⟩
  rw [h] at HK E
  obtain ⟨k0, k1⟩ := inB_yes h
  obtain ⟨j, rfl⟩ : ∃ j : Nat, k = j := ⟨k.toNat, by omega⟩
  rw [Int.toNat_natCast] at E
  have p1 : 0 < 2 ^ j := Nat.two_pow_pos j
  have p2 : 2 ^ j ≤ 64 := Nat.le_trans (Nat.pow_le_pow_right (by omega) (show j ≤ 6 by omega)) (by decide)
  have hpc : ((2 ^ j : Nat) : Int) = (2 : Int) ^ j := Int.natCast_pow _ _
  obtain ⟨Q, hQ⟩ : ∃ Q, Q = 2 ^ j := ⟨_, rfl⟩
  rw [← hQ] at p1 p2 hpc E
  have s2 : IntKind.i64.wrap ((2 : Int) ^ j) = Q := by rw [IntKind.wrap_i64, ← hpc]; omega
  clear h hQ hpc
  by_cases hlen : l.length = Q
  · have E2 := Lib.hid (show RES = cycB l by rw [E.out, hlen]; simp)
    have HI := Lib.hid hi
    obtain ⟨n, hn⟩ : ∃ n, n = l.length := ⟨_, rfl⟩
    have HN := Lib.hid hn
    rw [← hn] at hlen hl q1 HR ⊢
    subst hlen
    clear E hn hi q3 hr
    go_enter Tryd.func18, Tryd.ntmps18
    go_wp2_with (first
      | (go_at_call 38; refine (HK.out _).mono ?_; rintro e w' ⟨rfl, rfl⟩)
      | (refine wpM_alloc rfl rfl ?_; intro w1 g hg hgs hB1))
    have HG := Lib.hid (show w1.heap[g]? = some (.cells (seenA (seenB l 0)) 54 (0, 0)) by
      have := hg.out
      rwa [show seenA (fun _ => false) = seenA (seenB l 0) by unfold seenA; rw [tbB_same (fun x _ => by simp [seenB] : ∀ x < 64, (fun _ => false) x = seenB l 0 x)]] at this)
    have hgw : w.heap.size ≤ g := by have := hgs.out.1; omega
    clear hg hgs
    go_loopw [21] (fun i wr => ∃ m : Nat, m ≤ n ∧ i = .int .i64 m ∧ (∀ x, x < m → CycW l x) ∧ Hid (wr.heap[g]? = some (.cells (seenA (seenB l m)) 54 (0, 0))) ∧ Below w.heap.size w wr) (fun i _ => n - (intOf i).toNat)
    case atStart => exact ⟨0, Nat.zero_le _, rfl, fun x hx => by omega, HG, hB1⟩
    case round =>
      obtain ⟨m, hm, rfl, hall, hg, hB⟩ := hrel
      clear hB1 HG w1
      have HA := Lib.hid hall
      clear hall
      by_cases hlt : m < n
      · have hml : m < l.length := by rw [← HN.out]; exact hlt
        obtain ⟨a3, cap3, e3, _, _, q3⟩ := (HR.out _ hB).ints
        injection e3 with e3 e5 e4
        clear e5
        subst e3 e4
        obtain ⟨b', off, rfl, hbb, hcell⟩ := q3.resolve_left (fun e => by rw [e] at hml; simp at hml)
        have hc := hcell m hml
        have hxi := HI.out _ (List.getElem_mem hml)
        have HGX := Lib.hid (getD_at hml)
        have hmi : (m : Int) < n := by omega
        obtain ⟨P, hP⟩ : ∃ P, P = (m + 1) % n := ⟨_, rfl⟩
        have hPn : P < n := by rw [hP]; exact Nat.mod_lt _ (by omega)
        have hPl : P < l.length := by rw [← HN.out]; exact hPn
        have hrm : ((m : Int) + 1).tmod n = (P : Int) := by
          rw [Int.tmod_eq_emod_of_nonneg (by omega), hP, Int.natCast_emod, show ((m + 1 : Nat) : Int) = (m : Int) + 1 by omega]
        have hcp := hcell P hPl
        have hyi := HI.out _ (List.getElem_mem hPl)
        have HGY := Lib.hid (getD_at hPl)
        have HPE := Lib.hid (show (m + 1) % l.length = P by rw [hP, HN.out])
        obtain ⟨x, hx⟩ : ∃ x, x = l[m] := ⟨_, rfl⟩
        have HX := Lib.hid hx
        rw [← hx] at hc hxi HGX
        obtain ⟨y, hy⟩ : ∃ y, y = l[P] := ⟨_, rfl⟩
        rw [← hy] at hcp hyi HGY
        have hPi : (P : Int) < n := by omega
        have hnz : ¬ (n : Int) = 0 := by omega
        have hnzb : ((n : Int) == 0) = false := by simp; omega
        clear hx hy hP hcell q3
        by_cases hx0 : x < 0
        · have HV := Lib.hid (show RES = false by rw [E2.out]; exact cyc_far hml (by rw [HGX.out]; omega))
          go_wp2_with fail
          go_ret
          exact ⟨by rw [HV.out]; rfl, hB⟩
        by_cases hx1 : (n : Int) ≤ x
        · have HV := Lib.hid (show RES = false by rw [E2.out]; exact cyc_far hml (by rw [HGX.out, ← HN.out]; omega))
          go_wp2_with fail
          go_ret
          exact ⟨by rw [HV.out]; rfl, hB⟩
        obtain ⟨X, rfl⟩ : ∃ X : Nat, x = X := ⟨x.toNat, by omega⟩
        have hXn : X < n := by omega
        have hX6 : (X : Int) < 64 := by omega
        have hcs := cell_rowG hg (seenA_at (f := seenB l m) (show X < 64 by omega))
        have hfs := frozen_rowG hg X
        have HSE := Lib.hid (show seenB l m X = (l.take m).contains (l.getD m 0) by rw [HGX.out]; rfl)
        cases hsn : seenB l m X
        · rw [hsn] at hcs HSE
          obtain ⟨Z, U, hZ, hU, hU9, hUX⟩ := xor_word X y (by omega)
          have HO := Lib.hid (fun W => ones_any U W hU9)
          have HUX := Lib.hid hUX
          have HST := Lib.hid (show (wr.setCell ⟨g, X, none⟩ (.bool true)).heap[g]? = some (.cells (seenA (seenB l (m + 1))) 54 (0, 0)) by
            rw [heap_setCell_same wr g X _ _ _ hg.out, seenA_set]
            unfold seenA
            rw [seenB_next (x := X) hml (by rw [← HX.out])])
          have HBB := Lib.hid (hB.setCell (p := ⟨g, X, none⟩) hgw (.bool true))
          obtain ⟨R, hR⟩ : ∃ R, R = oc U := ⟨_, rfl⟩
          rw [← hR] at HO
          have HRE := Lib.hid hR
          clear hR hUX hsn
          by_cases hR1 : R = 1
          · subst hR1
            have HA2 := Lib.hid (show ∀ x, x < m + 1 → CycW l x from fun x hx => by
              rcases Nat.lt_or_ge x m with h | h
              · exact HA.out x h
              · obtain rfl : x = m := by omega
                refine ⟨by rw [HGX.out, ← HN.out]; omega, HSE.out.symm, fun hh => ?_⟩
                rw [HPE.out, HGY.out, ← HN.out] at hh
                obtain ⟨u1, u2⟩ := HUX.out (by omega)
                rw [HPE.out, HGY.out, HGX.out, Int.toNat_natCast, ← u1]
                exact (oc_pw u2).mp HRE.out.symm)
            go_wp2_with (go_at_call 41; refine (HO.out _).mono ?_; rintro e w' ⟨rfl, rfl⟩)
            go_roundw
            case rel => exact ⟨m + 1, hlt, by go_num, HA2.out, HST, HBB.out⟩
            case measure => simp [intOf]; omega
          · have HV := Lib.hid (show RES = false by
              rw [E2.out]
              by_cases hh : 0 ≤ y ∧ y ≤ (n : Int) - 1
              · obtain ⟨u1, u2⟩ := HUX.out (by omega)
                refine cyc_more hml ?_
                rw [HPE.out, HGY.out, HGX.out, Int.toNat_natCast, ← u1]
                cases hpw : pw2 U
                · rfl
                · exact absurd (HRE.out.trans ((oc_pw u2).mpr hpw)) hR1
              · exact cyc_far hPl (by rw [HGY.out, ← HN.out]; exact hh))
            have hRb : ((R : Int) == 1) = false := by simp; omega
            go_wp2_with (go_at_call 41; refine (HO.out _).mono ?_; rintro e w' ⟨rfl, rfl⟩)
            go_ret
            exact ⟨by rw [HV.out]; rfl, hB⟩
        · rw [hsn] at hcs HSE
          have HV := Lib.hid (show RES = false by rw [E2.out]; exact cyc_twice hml HSE.out.symm)
          clear hsn
          go_wp2_with fail
          go_ret
          exact ⟨by rw [HV.out]; rfl, hB⟩
      · have HV := Lib.hid (show RES = true by rw [E2.out]; exact cycW_all (fun i hi => HA.out i (by have := HN.out; omega)))
        have hn9 : ¬ (m : Int) < n := by omega
        go_wp2_with fail
        go_ret
        exact ⟨by rw [HV.out]; rfl, hB⟩
  · have HV := Lib.hid (show RES = false by rw [E.out, decide_eq_false (by omega)]; rfl)
    have hlI : ((l.length : Int) == Q) = false := by simp; omega
    have hlJ : ¬ (l.length : Int) = Q := by omega
    clear E q3 hr hi hlen
    go_enter Tryd.func18, Tryd.ntmps18
    go_wp2_with (go_at_call 38; refine (HK.out _).mono ?_; rintro e w' ⟨rfl, rfl⟩)
    go_ret
    exact ⟨by rw [HV.out]; rfl, Below.refl _ _⟩

end Go.Proofs.YtleadjkndciniaaDoor
