/- Signed binary digits: the model's tests, digits, values and weights. -/
import Derived.Test.YtiemhhkoegkleaaInts
import Derived.Test.YtiemhhkoegkleaaDgSpec
import Derived.Test.YtiemhhkoegkleaaLgSpec
import Derived.Test.YtiemhhkoegkleaaSgM
import Derived.Test.YtiemhhkoegkleaaNgSpec
set_option linter.unusedVariables false
set_option linter.unusedSimpArgs false
set_option maxRecDepth 100000
namespace Go.Proofs.Ytiemhhkoegkleaa
open Go.ChangeShapes Go.WideShapes Go.ChangeAt Go.RowKit

/-- the digit as Go takes it -/
theorem sdig_go (n : Int) : ((n.tmod 2 != 0) = false ∧ sdig n = 0) ∨ ((n.tmod 2 != 0) = true ∧ (n.tmod 4 == 3) = true ∧ sdig n = -1) ∨ ((n.tmod 2 != 0) = true ∧ (n.tmod 4 == 3) = false ∧ (n.tmod 4 == -1) = true ∧ sdig n = -1) ∨ ((n.tmod 2 != 0) = true ∧ (n.tmod 4 == 3) = false ∧ (n.tmod 4 == -1) = false ∧ sdig n = 1) := by
  simp only [bne_eq_false_iff_eq, bne_iff_ne, beq_iff_eq, beq_eq_false_iff_ne]
  obtain ⟨a1, a2, a3, a4⟩ := tmod_fix (b := 2) (by omega) n
  obtain ⟨b1, b2, b3, b4⟩ := tmod_fix (b := 4) (by omega) n
  rw [show ((2 : Nat) : Int) = 2 from rfl] at a1 a2 a3 a4
  rw [show ((4 : Nat) : Int) = 4 from rfl] at b1 b2 b3 b4
  obtain ⟨r, hr⟩ : ∃ r, r = n.tmod 2 := ⟨_, rfl⟩
  obtain ⟨s, hs⟩ : ∃ s, s = n.tmod 4 := ⟨_, rfl⟩
  rw [← hr] at a1 a2 a3 a4 ⊢
  rw [← hs] at b1 b2 b3 b4 ⊢
  unfold sdig
  by_cases h : n % 2 = 0
  · rw [if_pos h]; left; omega
  · rw [if_neg h]
    by_cases h' : n % 4 = 1
    · rw [if_pos h']; omega
    · rw [if_neg h']; omega
theorem shalf_go (n : Int) : (n - sdig n).tdiv 2 = (n - sdig n) / 2 := by
  obtain ⟨d1, _, _⟩ := sdig_facts n
  obtain ⟨p, hp⟩ : ∃ p, p = (n - sdig n) / 2 := ⟨_, rfl⟩
  rw [← hp] at d1 ⊢
  rw [show n - sdig n = 2 * p by omega]
  exact Int.mul_tdiv_cancel_left _ (by omega)

set_option maxHeartbeats 4000000 in
theorem specSp_any (n : Int) (w : World) (hn1 : -1000000000000 ≤ n) (hn2 : n ≤ 1000000000000) :
    Calls Try.prog 97 #[.int .i64 n] w fun e w' => ∃ v, e = .returned v ∧ w'.ownsRow w.heap.size 3 1 v (spd n).length (intsOf (spd n)) ∧ Below w.heap.size w w' := by
  obtain ⟨i0, hi, hz0, hz1, hz2⟩ := info_parts infoInt
  have HLN := Lib.hid (spd_len42 hn1 hn2)
  obtain ⟨L, hL⟩ : ∃ L, L = spd n := ⟨_, rfl⟩
  rw [← hL] at HLN
  have HL := Lib.hid hL
  go_enter Try.func97, Try.ntmps97
  go_wp2
  go_loopw [0, 3] (fun i v wr => ∃ (x : Int) (o : List Int), i = .int .i64 x ∧ -1000000000000 ≤ x ∧ x ≤ 1000000000000 ∧ o ++ spd x = L ∧ wr.ownsRow w.heap.size 3 1 v o.length (intsOf o) ∧ Below w.heap.size w wr) (fun i _ _ => (intOf i).natAbs)
  case atStart => exact ⟨n, [], rfl, hn1, hn2, by rw [HL.out]; rfl, World.ownsRow_lit w #[] 0 (Nat.le_refl _) (by decide) rfl, (Below.refl _ _).alloc (Nat.le_refl _) _⟩
  case round =>
    obtain ⟨x, o, rfl, hx1, hx2, he, hown, hB⟩ := hrel
    have hsz := hB.size
    by_cases h0 : x = 0
    · subst h0
      rw [spd_zero, List.append_nil] at he
      have HE := Lib.hid (show o = spd n by rw [he, HL.out])
      have HO := Lib.hid hown
      clear he hown hL
      go_wp2
      go_ret
      exact ⟨_, rfl, by rw [← HE.out]; exact HO.out, hB⟩
    · have hq : (x != 0) = true := by simp [h0]
      rw [spd_step h0] at he
      have hmu := sdig_lt h0
      have hgo := sdig_go x
      have hqe := shalf_go x
      obtain ⟨d1, d2, d3, _⟩ := sdig_facts x
      have hqb := sdig_half x
      have hol : o.length ≤ 42 := by have := HLN.out; rw [← he] at this; simp at this; omega
      have HST := Lib.hid (show (o ++ [sdig x]) ++ spd ((x - sdig x) / 2) = L by rw [← he]; simp)
      have HMU := Lib.hid hmu
      obtain ⟨d, hd⟩ : ∃ d, d = sdig x := ⟨_, rfl⟩
      rw [← hd] at d1 d2 d3 hqe hqb hgo HST HMU
      obtain ⟨p, hp⟩ : ∃ p, p = (x - d) / 2 := ⟨_, rfl⟩
      rw [← hp] at hqe hqb HST HMU d1
      have hp1 : -1000000000000 ≤ p := by omega
      have hp2 : p ≤ 1000000000000 := by omega
      clear hmu he hL d1 hd hp hqb
      rcases hgo with ⟨g1, rfl⟩ | ⟨g1, g2, rfl⟩ | ⟨g1, g2, g3, rfl⟩ | ⟨g1, g2, g3, rfl⟩
      all_goals
        try simp only [Int.sub_zero, Int.sub_neg] at hqe
        go_wp2_with (at_builtin; refine wpList_append_own_at _ rfl _ _ 24 rfl w.heap.size 3 i0 (.int .i64 0) 1 8 Try.underlying24 hi hz0 hz1 hz2 rfl (by decide) _ _ _ rfl (hown.alloc _) ⟨wr.heap.size, 0, none⟩ 1 1 [.int .i64 _] rfl rfl (one_cell _ _ _) (by intro u hu; simp at hu; subst hu; rfl) (by unfold maxLen; omega) (by omega) (by simp; omega) ?_)
        intro v' w1 hown' hgrow _ _
        have hB1 := (hB.alloc hsz _).grown hgrow (by simp; omega) (fun j hj => (hown.lt j hj).1)
        have HO := Lib.hid hown'
        clear hown' hgrow
        go_wp2_with fail
        go_roundw
        case rel => exact ⟨p, o ++ [_], rfl, hp1, hp2, HST.out, by simpa [intsOf] using HO.out, hB1⟩
        case measure => simpa [intOf] using HMU.out

set_option maxHeartbeats 1000000 in
theorem specSparseDigits_any (n : Int) (w : World) (hn : in64 n) :
    Calls Try.prog 86 #[.int .i64 n] w fun e w' => ∃ v, e = .returned v ∧ w'.ownsRow w.heap.size 3 1 v (rSparseDigits0 n).length (intsOf (rSparseDigits0 n)) ∧ Below w.heap.size w w' := by
  have H2 := Lib.hid (sIn_any n (-1000000000000) 1000000000000 w)
  clear hn
  cases h2 : inB n (-1000000000000) 1000000000000
  · rw [h2] at H2
    have E0 := Lib.hid (show rSparseDigits0 n = [] by rw [rSparseDigits0, inN, h2]; rfl)
    clear h2
    go_enter Try.func86, Try.ntmps86
    go_wp2_with fail
    refine H2.out.mono ?_
    rintro e w' ⟨rfl, rfl⟩
    go_wp2_with fail
    go_ret
    exact ⟨_, rfl, by rw [E0.out]; exact World.ownsRow_nil _ _ _ _, Below.refl _ _⟩
  · rw [h2] at H2
    obtain ⟨hn1, hn2⟩ := inB_yes h2
    have E0 := Lib.hid (show rSparseDigits0 n = spd n by rw [rSparseDigits0, inN, h2]; rfl)
    have HD := Lib.hid (specSp_any n w hn1 hn2)
    rw [← E0.out] at HD
    clear h2
    go_enter Try.func86, Try.ntmps86
    go_wp2_with fail
    refine H2.out.mono ?_
    rintro e w' ⟨rfl, rfl⟩
    go_wp2_with fail
    refine HD.out.mono ?_
    rintro e w1 ⟨v, rfl, ho, hB⟩
    have HO := Lib.hid ho
    clear ho
    obtain ⟨av, cv, e2, _, _⟩ := owns_form HO.out
    subst e2
    go_wp2_with fail
    go_ret
    exact ⟨_, rfl, HO.out, hB⟩

theorem wt_take {l : List Int} {k : Nat} (h : k < l.length) : wt (l.take (k + 1)) = wt (l.take k) + (if l[k] = 0 then 0 else 1) := by
  rw [List.take_succ_eq_append_getElem h, wt_snoc]

end Go.Proofs.Ytiemhhkoegkleaa
