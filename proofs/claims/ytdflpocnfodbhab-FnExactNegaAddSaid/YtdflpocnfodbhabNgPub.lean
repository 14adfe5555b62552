/- Negative bases: the model's sums, products, signs, ranges and comparisons. -/
import Derived.Test.YtdflpocnfodbhabLgSpec
import Derived.Test.YtdflpocnfodbhabNgSpec
set_option linter.unusedVariables false
set_option linter.unusedSimpArgs false
set_option maxRecDepth 100000
namespace Go.Proofs.Ytdflpocnfodbhab
open Go.ChangeShapes Go.WideShapes Go.ChangeAt Go.RowKit

theorem val_in {l : List Int} {b : Int} (h : rNegaValue1 l b = true) : ∃ n : Nat, b = n ∧ 2 ≤ n ∧ n ≤ 16 ∧ rNegaValue0 l b = nv n l ∧ -1000000000000 ≤ nv n l ∧ nv n l ≤ 1000000000000 := by
  have h' := h
  simp only [rNegaValue1, Bool.and_eq_true] at h'
  obtain ⟨n, rfl, h2, h16, _, _⟩ := nat_of_ok h'.1
  rw [nvI_nat] at h'
  have := inN_yes h'.2
  exact ⟨n, rfl, h2, h16, by rw [rNegaValue0, h, if_pos rfl, nvI_nat], this.1, this.2⟩

set_option maxHeartbeats 4000000 in
theorem specNegaAdd_any (va : Value) (a : List Int) (vc : Value) (c : List Int) (b : Int) (w : World) (hra : RowAt w va (intsOf a)) (hl : a.length ≤ 1048576) (hia : ∀ n ∈ a, in64 n) (hrc : RowAt w vc (intsOf c)) (hl' : c.length ≤ 1048576) (hic : ∀ n ∈ c, in64 n) (hb : in64 b) :
    Calls Try.prog 31 #[va, vc, .int .i64 b] w fun e w' => ∃ v, e = .returned (.tuple #[v, .bool (rNegaAdd1 a c b)]) ∧ w'.ownsRow w.heap.size 3 1 v (rNegaAdd0 a c b).length (intsOf (rNegaAdd0 a c b)) ∧ Below w.heap.size w w' := by
  have H1 := Lib.hid (specNegaVal_eq va a b w hra hl hia hb)
  have H2 := Lib.hid (specNegaVal_eq vc c b w hrc hl' hic hb)
  have HNO := Lib.hid (fun (h : rNegaAdd1 a c b = false) => show ∃ v, Ending.returned (.tuple #[.slice none 0 0, .bool false]) = .returned (.tuple #[v, .bool (rNegaAdd1 a c b)]) ∧ w.ownsRow w.heap.size 3 1 v (rNegaAdd0 a c b).length (intsOf (rNegaAdd0 a c b)) ∧ Below w.heap.size w w from
    ⟨_, by rw [h], by rw [rNegaAdd0, h]; exact World.ownsRow_nil _ _ _ _, Below.refl _ _⟩)
  have HIN := Lib.hid (fun n lo hi => sIn_any n lo hi w)
  cases h : rNegaValue1 a b
  · rw [h] at H1
    have E := Lib.hid (HNO.out (by rw [rNegaAdd1, h]; rfl))
    clear h hra hrc hia hic
    go_enter Try.func31, Try.ntmps31
    go_wp2_with fail
    refine H1.out.mono ?_
    rintro e w' ⟨rfl, rfl⟩
    go_wp2_with fail
    refine H2.out.mono ?_
    rintro e w' ⟨rfl, rfl⟩
    go_wp2_with fail
    go_ret2
    exact E.out
  · rw [h] at H1
    obtain ⟨n, rfl, hn2, hn16, e1, b1, b2⟩ := val_in h
    cases h2 : rNegaValue1 c n
    · rw [h2] at H2
      have E := Lib.hid (HNO.out (by rw [rNegaAdd1, h, h2]; rfl))
      rw [e1] at H1
      clear h h2 e1 hra hrc hia hic
      go_enter Try.func31, Try.ntmps31
      go_wp2_with fail
      refine H1.out.mono ?_
      rintro e w' ⟨rfl, rfl⟩
      go_wp2_with fail
      refine H2.out.mono ?_
      rintro e w' ⟨rfl, rfl⟩
      go_wp2_with fail
      go_ret2
      exact E.out
    · rw [h2] at H2
      obtain ⟨n', hn', _, _, e2, b3, b4⟩ := val_in h2
      obtain rfl : n = n' := by omega
      rw [e1] at H1
      rw [e2] at H2
      obtain ⟨x, hx⟩ : ∃ x, x = nv n a := ⟨_, rfl⟩
      obtain ⟨y, hy⟩ : ∃ y, y = nv n c := ⟨_, rfl⟩
      rw [← hx] at H1 b1 b2
      rw [← hy] at H2 b3 b4
      cases h3 : inB (x + y) (-1000000000000) 1000000000000
      · have E := Lib.hid (HNO.out (by rw [rNegaAdd1, h, h2, nvI_nat, nvI_nat, ← hx, ← hy, inN, h3]; rfl))
        have HI := Lib.hid (HIN.out (x + y) (-1000000000000) 1000000000000)
        rw [h3] at HI
        clear h h2 h3 e1 e2 hn' hra hrc hia hic hx hy
        go_enter Try.func31, Try.ntmps31
        go_wp2_with fail
        refine H1.out.mono ?_
        rintro e w' ⟨rfl, rfl⟩
        go_wp2_with fail
        refine H2.out.mono ?_
        rintro e w' ⟨rfl, rfl⟩
        go_wp2_with fail
        refine HI.out.mono ?_
        rintro e w' ⟨rfl, rfl⟩
        go_wp2_with fail
        go_ret2
        exact E.out
      · have HE1 := Lib.hid (show rNegaAdd1 a c n = true by rw [rNegaAdd1, h, h2, nvI_nat, nvI_nat, ← hx, ← hy, inN, h3]; rfl)
        have HE0 := Lib.hid (show rNegaAdd0 a c n = ng n (x + y) by rw [rNegaAdd0, HE1.out, if_pos rfl, nvI_nat, nvI_nat, ngI_nat, hx, hy])
        have HI := Lib.hid (HIN.out (x + y) (-1000000000000) 1000000000000)
        rw [h3] at HI
        obtain ⟨s1, s2⟩ := inB_yes h3
        have HD := Lib.hid (specNgDigits_any (x + y) n w hn2 hn16 s1 s2)
        rw [← HE0.out] at HD
        clear h h2 h3 e1 e2 hn' hra hrc hia hic hx hy
        go_enter Try.func31, Try.ntmps31
        go_wp2_with fail
        refine H1.out.mono ?_
        rintro e w' ⟨rfl, rfl⟩
        go_wp2_with fail
        refine H2.out.mono ?_
        rintro e w' ⟨rfl, rfl⟩
        go_wp2_with fail
        refine HI.out.mono ?_
        rintro e w' ⟨rfl, rfl⟩
        go_wp2_with fail
        refine HD.out.mono ?_
        rintro e w1 ⟨v, rfl, ho, hB⟩
        have HO := Lib.hid ho
        clear ho
        obtain ⟨av, cv, e3, _, _⟩ := owns_form HO.out
        subst e3
        go_wp2_with fail
        go_ret2
        exact ⟨_, by rw [HE1.out]; rfl, HO.out, hB⟩

/-- a product in bounds, told by a quotient -/
theorem prod_in {x y : Int} (hx : x ≠ 0) : (max x (-x)) * (max y (-y)) = max (x * y) (-(x * y)) := by
  have e1 : max x (-x) = (x.natAbs : Int) := by omega
  have e2 : max y (-y) = (y.natAbs : Int) := by omega
  have e3 : max (x * y) (-(x * y)) = ((x * y).natAbs : Int) := by omega
  rw [e1, e2, e3, Int.natAbs_mul, Int.natCast_mul]
theorem prod_test {x y : Int} (hx : x ≠ 0) : (1000000000000 / max x (-x) < max y (-y)) ↔ inN (x * y) = false := by
  have h1 := prod_in (y := y) hx
  have hp : 0 < max x (-x) := by omega
  have h2 : (1000000000000 / max x (-x) < max y (-y)) ↔ 1000000000000 < max y (-y) * max x (-x) := Int.ediv_lt_iff_lt_mul hp
  rw [h2, Int.mul_comm, h1]
  simp only [inN, inB, Bool.and_eq_false_iff, decide_eq_false_iff_not]
  omega

set_option maxHeartbeats 4000000 in
theorem specNegaTimes_any (va : Value) (a : List Int) (vc : Value) (c : List Int) (b : Int) (w : World) (hra : RowAt w va (intsOf a)) (hl : a.length ≤ 1048576) (hia : ∀ n ∈ a, in64 n) (hrc : RowAt w vc (intsOf c)) (hl' : c.length ≤ 1048576) (hic : ∀ n ∈ c, in64 n) (hb : in64 b) :
    Calls Try.prog 33 #[va, vc, .int .i64 b] w fun e w' => ∃ v, e = .returned (.tuple #[v, .bool (rNegaTimes1 a c b)]) ∧ w'.ownsRow w.heap.size 3 1 v (rNegaTimes0 a c b).length (intsOf (rNegaTimes0 a c b)) ∧ Below w.heap.size w w' := by
  have H1 := Lib.hid (specNegaVal_eq va a b w hra hl hia hb)
  have H2 := Lib.hid (specNegaVal_eq vc c b w hrc hl' hic hb)
  have HNO := Lib.hid (fun (h : rNegaTimes1 a c b = false) => show ∃ v, Ending.returned (.tuple #[.slice none 0 0, .bool false]) = .returned (.tuple #[v, .bool (rNegaTimes1 a c b)]) ∧ w.ownsRow w.heap.size 3 1 v (rNegaTimes0 a c b).length (intsOf (rNegaTimes0 a c b)) ∧ Below w.heap.size w w from
    ⟨_, by rw [h], by rw [rNegaTimes0, h]; exact World.ownsRow_nil _ _ _ _, Below.refl _ _⟩)
  have HIN := Lib.hid (fun n lo hi => sIn_any n lo hi w)
  cases h : rNegaValue1 a b
  · rw [h] at H1
    have E := Lib.hid (HNO.out (by rw [rNegaTimes1, h]; rfl))
    clear h hra hrc hia hic
    go_enter Try.func33, Try.ntmps33
    go_wp2_with fail
    refine H1.out.mono ?_
    rintro e w' ⟨rfl, rfl⟩
    go_wp2_with fail
    refine H2.out.mono ?_
    rintro e w' ⟨rfl, rfl⟩
    go_wp2_with fail
    go_ret2
    exact E.out
  · rw [h] at H1
    obtain ⟨n, rfl, hn2, hn16, e1, b1, b2⟩ := val_in h
    cases h2 : rNegaValue1 c n
    · rw [h2] at H2
      have E := Lib.hid (HNO.out (by rw [rNegaTimes1, h, h2]; rfl))
      rw [e1] at H1
      clear h h2 e1 hra hrc hia hic
      go_enter Try.func33, Try.ntmps33
      go_wp2_with fail
      refine H1.out.mono ?_
      rintro e w' ⟨rfl, rfl⟩
      go_wp2_with fail
      refine H2.out.mono ?_
      rintro e w' ⟨rfl, rfl⟩
      go_wp2_with fail
      go_ret2
      exact E.out
    · rw [h2] at H2
      obtain ⟨n', hn', _, _, e2, b3, b4⟩ := val_in h2
      obtain rfl : n = n' := by omega
      rw [e1] at H1
      rw [e2] at H2
      obtain ⟨x, hx⟩ : ∃ x, x = nv n a := ⟨_, rfl⟩
      obtain ⟨y, hy⟩ : ∃ y, y = nv n c := ⟨_, rfl⟩
      rw [← hx] at H1 b1 b2
      rw [← hy] at H2 b3 b4
      by_cases hx0 : x = 0
      · subst hx0
        have HE1 := Lib.hid (show rNegaTimes1 a c n = true by rw [rNegaTimes1, h, h2, nvI_nat, nvI_nat, ← hx, Int.zero_mul]; rfl)
        have HE0 := Lib.hid (show rNegaTimes0 a c n = ng n (0 * y) by rw [rNegaTimes0, HE1.out, if_pos rfl, nvI_nat, nvI_nat, ngI_nat, ← hx, hy])
        have HD := Lib.hid (specNgDigits_any (0 * y) n w hn2 hn16 (by rw [Int.zero_mul]; omega) (by rw [Int.zero_mul]; omega))
        rw [← HE0.out] at HD
        rw [Int.zero_mul] at HD
        clear h h2 e1 e2 hn' hra hrc hia hic hx hy
        go_enter Try.func33, Try.ntmps33
        go_wp2_with fail
        refine H1.out.mono ?_
        rintro e w' ⟨rfl, rfl⟩
        go_wp2_with fail
        refine H2.out.mono ?_
        rintro e w' ⟨rfl, rfl⟩
        go_wp2_with fail
        refine HD.out.mono ?_
        rintro e w1 ⟨v, rfl, ho, hB⟩
        have HO := Lib.hid ho
        clear ho
        obtain ⟨av, cv, e3, _, _⟩ := owns_form HO.out
        subst e3
        go_wp2_with fail
        go_ret2
        exact ⟨_, by rw [HE1.out]; rfl, HO.out, hB⟩
      · have hq : (x != 0) = true := by simp [hx0]
        have hpt := prod_test (y := y) hx0
        have hmx : max x (-x) = if x < -x then -x else x := by omega
        have hmy : max y (-y) = if y < -y then -y else y := by omega
        rw [hmx, hmy] at hpt
        have hz1 : ¬ x = 0 := hx0
        obtain ⟨q, hq'⟩ : ∃ q, (1000000000000 : Int) / (if x < -x then -x else x) = q := ⟨_, rfl⟩
        have hqt : (1000000000000 : Int).tdiv (if x < -x then -x else x) = q := by rw [Int.tdiv_eq_ediv_of_nonneg (by omega)]; exact hq'
        rw [hq'] at hpt
        have hXp : 0 < (if x < -x then -x else x) := by omega
        have hq0 : 0 ≤ q := by rw [← hq']; exact Int.ediv_nonneg (by omega) (by omega)
        have hq1 : q ≤ 1000000000000 := by rw [← hq']; exact Int.ediv_le_self _ (by omega)
        cases h3 : inN (x * y)
        · have E := Lib.hid (HNO.out (by rw [rNegaTimes1, h, h2, nvI_nat, nvI_nat, ← hx, ← hy, h3]; rfl))
          rw [h3] at hpt
          have ht := hpt.2 rfl
          clear hpt hmx hmy h h2 h3 e1 e2 hn' hra hrc hia hic hx hy
          by_cases g1 : x < -x <;> by_cases g2 : y < -y
          all_goals
            simp only [g1, g2, if_true, if_false] at ht hq' hqt hXp
            go_enter Try.func33, Try.ntmps33
            go_wp2_with fail
            refine H1.out.mono ?_
            rintro e w' ⟨rfl, rfl⟩
            go_wp2_with fail
            refine H2.out.mono ?_
            rintro e w' ⟨rfl, rfl⟩
            go_wp2_with fail
            go_ret2
            exact E.out
        · have HE1 := Lib.hid (show rNegaTimes1 a c n = true by rw [rNegaTimes1, h, h2, nvI_nat, nvI_nat, ← hx, ← hy, h3]; rfl)
          have HE0 := Lib.hid (show rNegaTimes0 a c n = ng n (x * y) by rw [rNegaTimes0, HE1.out, if_pos rfl, nvI_nat, nvI_nat, ngI_nat, hx, hy])
          obtain ⟨s1, s2⟩ := inN_yes h3
          have HD := Lib.hid (specNgDigits_any (x * y) n w hn2 hn16 s1 s2)
          rw [← HE0.out] at HD
          rw [h3] at hpt
          have ht : ¬ q < (if y < -y then -y else y) := fun hh => by have := hpt.1 hh; simp at this
          clear hpt hmx hmy h h2 h3 e1 e2 hn' hra hrc hia hic hx hy
          by_cases g1 : x < -x <;> by_cases g2 : y < -y
          all_goals
            simp only [g1, g2, if_true, if_false] at ht hq' hqt hXp
            go_enter Try.func33, Try.ntmps33
            go_wp2_with fail
            refine H1.out.mono ?_
            rintro e w' ⟨rfl, rfl⟩
            go_wp2_with fail
            refine H2.out.mono ?_
            rintro e w' ⟨rfl, rfl⟩
            go_wp2_with fail
            refine HD.out.mono ?_
            rintro e w1 ⟨v, rfl, ho, hB⟩
            have HO := Lib.hid ho
            clear ho
            obtain ⟨av, cv, e3, _, _⟩ := owns_form HO.out
            subst e3
            go_wp2_with fail
            go_ret2
            exact ⟨_, by rw [HE1.out]; rfl, HO.out, hB⟩

end Go.Proofs.Ytdflpocnfodbhab
