/- Negative bases: the program's sums and products. -/
import Derived.Test.YtdflpocnfodbhabNgPub
import Derived.Test.YtdflpocnfodbhabNgDigI
import Derived.Test.YtdflpocnfodbhabNgValI
import Derived.OwnWalk
set_option linter.unusedVariables false
set_option linter.unusedSimpArgs false
set_option maxRecDepth 100000
namespace Go.Proofs.Ytdflpocnfodbhab
open Go.ChangeShapes Go.WideShapes Go.ChangeAt Go.RowKit

theorem pair_any (va : Value) (a : List Int) (vc : Value) (c : List Int) (b : Int) (w : World) (hra : RowAt w va (intsOf a)) (hl : a.length ≤ 1048576) (hia : ∀ n ∈ a, in64 n) (hrc : RowAt w vc (intsOf c)) (hl' : c.length ≤ 1048576) (hic : ∀ n ∈ c, in64 n) (hb : in64 b) :
    Calls Try.prog 65 #[va, vc, .int .i64 b] w fun e w' => e = .returned (.tuple #[.int .i64 (rNegaValue0 a b), .int .i64 (rNegaValue0 c b), .bool (rNegaValue1 a b && rNegaValue1 c b)]) ∧ Below w.heap.size w w' := by
  have H1 := Lib.hid (implNegaValue_any va a b w hra hl hia hb)
  have H2 := Lib.hid (fun W (hW : Below w.heap.size w W) => implNegaValue_any vc c b W (hrc.below hW) hl' hic hb)
  clear hra hrc hia hic
  cases h1 : rNegaValue1 a b
  all_goals
    rw [h1] at H1
    go_enter Try.func65, Try.ntmps65
    go_wp2_with fail
    refine H1.out.mono ?_
    rintro e w1 ⟨rfl, hB1⟩
    go_wp2_with fail
    refine (H2.out _ hB1).mono ?_
    rintro e w2 ⟨rfl, hB2⟩
    go_wp2_with fail
    go_ret3
    exact ⟨by simp, hB1.trans (hB2.mono hB1.size)⟩

theorem in64_val {l : List Int} {b : Int} : -1000000000000 ≤ rNegaValue0 l b ∧ rNegaValue0 l b ≤ 1000000000000 := by
  unfold rNegaValue0
  split
  · rename_i h
    simp only [rNegaValue1, Bool.and_eq_true] at h
    exact inN_yes h.2
  · omega

set_option maxHeartbeats 4000000 in
theorem implNegaAdd_any (va : Value) (a : List Int) (vc : Value) (c : List Int) (b : Int) (w : World) (hra : RowAt w va (intsOf a)) (hl : a.length ≤ 1048576) (hia : ∀ n ∈ a, in64 n) (hrc : RowAt w vc (intsOf c)) (hl' : c.length ≤ 1048576) (hic : ∀ n ∈ c, in64 n) (hb : in64 b) :
    Calls Try.prog 32 #[va, vc, .int .i64 b] w fun e w' => ∃ v, e = .returned (.tuple #[v, .bool (rNegaAdd1 a c b)]) ∧ w'.ownsRow w.heap.size 3 1 v (rNegaAdd0 a c b).length (intsOf (rNegaAdd0 a c b)) ∧ Below w.heap.size w w' := by
  have H1 := Lib.hid (pair_any va a vc c b w hra hl hia hrc hl' hic hb)
  have HNO := Lib.hid (fun (h : rNegaAdd1 a c b = false) w' (hB : Below w.heap.size w w') => show ∃ v, Ending.returned (.tuple #[.slice none 0 0, .bool false]) = .returned (.tuple #[v, .bool (rNegaAdd1 a c b)]) ∧ w'.ownsRow w.heap.size 3 1 v (rNegaAdd0 a c b).length (intsOf (rNegaAdd0 a c b)) ∧ Below w.heap.size w w' from
    ⟨_, by rw [h], by rw [rNegaAdd0, h]; exact World.ownsRow_nil _ _ _ _, hB⟩)
  have ea := in64_val (l := a) (b := b)
  have ec := in64_val (l := c) (b := b)
  have hIa := fun h : rNegaValue1 a b = true => show rNegaValue0 a b = nvI b a by rw [rNegaValue0, h]; rfl
  have hIc := fun h : rNegaValue1 c b = true => show rNegaValue0 c b = nvI b c by rw [rNegaValue0, h]; rfl
  obtain ⟨x, hx⟩ : ∃ x, x = rNegaValue0 a b := ⟨_, rfl⟩
  obtain ⟨y, hy⟩ : ∃ y, y = rNegaValue0 c b := ⟨_, rfl⟩
  rw [← hx] at ea hIa H1
  rw [← hy] at ec hIc H1
  have HW := Lib.hid (fun W => within_any (x + y) W ⟨by omega, by omega⟩)
  have HD := Lib.hid (fun W => implNegaDigits_any (x + y) b W ⟨by omega, by omega⟩ hb)
  have hbk : rNegaValue1 a b = true → okB b = true := fun h => by
    simp only [rNegaValue1, Bool.and_eq_true] at h
    obtain ⟨n, rfl, h2, h16, _, _⟩ := nat_of_ok h.1
    exact okB_mk ⟨by omega, by omega⟩
  cases h : (rNegaValue1 a b && rNegaValue1 c b)
  · rw [h] at H1
    have E := Lib.hid (HNO.out (by rw [rNegaAdd1, h]; rfl))
    clear h hra hrc hia hic hIa hIc hx hy hbk
    go_enter Try.func32, Try.ntmps32
    go_wp2_with fail
    refine H1.out.mono ?_
    rintro e w1 ⟨rfl, hB1⟩
    go_wp2_with fail
    go_ret2
    exact E.out _ hB1
  · rw [h] at H1
    have h' := h
    simp only [Bool.and_eq_true] at h'
    have e1 := hIa h'.1
    have e2 := hIc h'.2
    cases h3 : inN (x + y)
    · rw [h3] at HW
      have E := Lib.hid (HNO.out (by rw [rNegaAdd1, h, ← e1, ← e2, h3]; rfl))
      clear h h' h3 hra hrc hia hic hIa hIc hx hy hbk e1 e2
      go_enter Try.func32, Try.ntmps32
      go_wp2_with fail
      refine H1.out.mono ?_
      rintro e w1 ⟨rfl, hB1⟩
      go_wp2_with (go_at_call 66; refine (HW.out _).mono ?_; rintro e w' ⟨rfl, rfl⟩)
      go_ret2
      exact E.out _ hB1
    · rw [h3] at HW
      have HE1 := Lib.hid (show rNegaAdd1 a c b = true by rw [rNegaAdd1, h, ← e1, ← e2, h3]; rfl)
      have HE0 := Lib.hid (show rNegaDigits0 (x + y) b = rNegaAdd0 a c b by rw [rNegaAdd0, HE1.out, if_pos rfl, ← e1, ← e2, rNegaDigits0, hbk h'.1, h3]; rfl)
      rw [HE0.out] at HD
      clear h h' h3 hra hrc hia hic hIa hIc hx hy hbk e1 e2
      go_enter Try.func32, Try.ntmps32
      go_wp2_with fail
      refine H1.out.mono ?_
      rintro e w1 ⟨rfl, hB1⟩
      go_wp2_with (go_at_call 66; refine (HW.out _).mono ?_; rintro e w' ⟨rfl, rfl⟩)
      refine (HD.out w1).mono ?_
      rintro e w2 ⟨v, rfl, ho, hB⟩
      have HO := Lib.hid (owns_mono ho hB1.size)
      clear ho
      obtain ⟨av, cv, e3, _, _⟩ := owns_form HO.out
      subst e3
      go_wp2_with fail
      go_ret2
      exact ⟨_, by rw [HE1.out]; rfl, HO.out, hB1.trans (hB.mono hB1.size)⟩

theorem le_iff {q z : Int} {r : Bool} (h : q < z ↔ r = false) : decide (z ≤ q) = r := by
  cases r with
  | false => exact decide_eq_false (by have := h.2 rfl; omega)
  | true => exact decide_eq_true (by
      rcases ltgeZ q z with h1 | h1
      · exact absurd (h.1 h1) (by simp)
      · exact h1)

theorem fits_any (x y : Int) (w : World) (hx1 : -1000000000000 ≤ x) (hx2 : x ≤ 1000000000000) (hy1 : -1000000000000 ≤ y) (hy2 : y ≤ 1000000000000) :
    Calls Try.prog 68 #[.int .i64 x, .int .i64 y] w fun e w' => e = .returned (.bool (inN (x * y))) ∧ w = w' := by
  by_cases hx0 : x = 0
  · subst hx0
    have HV := Lib.hid (show inN (0 * y) = true by rw [Int.zero_mul]; rfl)
    go_enter Try.func68, Try.ntmps68
    go_wp2
    go_ret
    exact ⟨ret_bool HV.out.symm, rfl⟩
  · have hq : (x == 0) = false := by simp [hx0]
    have hpt := prod_test (y := y) hx0
    have hmx : max x (-x) = if x < -x then -x else x := by omega
    have hmy : max y (-y) = if y < -y then -y else y := by omega
    rw [hmx, hmy] at hpt
    have hz1 : ¬ x = 0 := hx0
    obtain ⟨q, hq'⟩ : ∃ q, (1000000000000 : Int) / (if x < -x then -x else x) = q := ⟨_, rfl⟩
    have hqt : (1000000000000 : Int).tdiv (if x < -x then -x else x) = q := by rw [Int.tdiv_eq_ediv_of_nonneg (by omega)]; exact hq'
    rw [hq'] at hpt
    have hXp : 0 < (if x < -x then -x else x) := by omega
    have hq0 : 0 ≤ q := by rw [← hq']; exact Int.ediv_nonneg (by omega) (by omega)
    have hq1 : q ≤ 1000000000000 := by rw [← hq']; exact Int.ediv_le_self _ (by omega)
    obtain ⟨r, hr⟩ : ∃ r, r = inN (x * y) := ⟨_, rfl⟩
    rw [← hr] at hpt ⊢
    clear hmx hmy hr
    by_cases g1 : x < -x <;> by_cases g2 : y < -y
    all_goals
      simp only [g1, g2, if_true, if_false] at hpt hq' hqt hXp
      have HR := Lib.hid (le_iff hpt)
      clear hpt
      go_enter Try.func68, Try.ntmps68
      go_wp2
      go_ret
      exact ⟨ret_bool HR.out, rfl⟩

set_option maxHeartbeats 4000000 in
theorem implNegaTimes_any (va : Value) (a : List Int) (vc : Value) (c : List Int) (b : Int) (w : World) (hra : RowAt w va (intsOf a)) (hl : a.length ≤ 1048576) (hia : ∀ n ∈ a, in64 n) (hrc : RowAt w vc (intsOf c)) (hl' : c.length ≤ 1048576) (hic : ∀ n ∈ c, in64 n) (hb : in64 b) :
    Calls Try.prog 34 #[va, vc, .int .i64 b] w fun e w' => ∃ v, e = .returned (.tuple #[v, .bool (rNegaTimes1 a c b)]) ∧ w'.ownsRow w.heap.size 3 1 v (rNegaTimes0 a c b).length (intsOf (rNegaTimes0 a c b)) ∧ Below w.heap.size w w' := by
  have H1 := Lib.hid (pair_any va a vc c b w hra hl hia hrc hl' hic hb)
  have HNO := Lib.hid (fun (h : rNegaTimes1 a c b = false) w' (hB : Below w.heap.size w w') => show ∃ v, Ending.returned (.tuple #[.slice none 0 0, .bool false]) = .returned (.tuple #[v, .bool (rNegaTimes1 a c b)]) ∧ w'.ownsRow w.heap.size 3 1 v (rNegaTimes0 a c b).length (intsOf (rNegaTimes0 a c b)) ∧ Below w.heap.size w w' from
    ⟨_, by rw [h], by rw [rNegaTimes0, h]; exact World.ownsRow_nil _ _ _ _, hB⟩)
  have ea := in64_val (l := a) (b := b)
  have ec := in64_val (l := c) (b := b)
  have hIa := fun h : rNegaValue1 a b = true => show rNegaValue0 a b = nvI b a by rw [rNegaValue0, h]; rfl
  have hIc := fun h : rNegaValue1 c b = true => show rNegaValue0 c b = nvI b c by rw [rNegaValue0, h]; rfl
  obtain ⟨x, hx⟩ : ∃ x, x = rNegaValue0 a b := ⟨_, rfl⟩
  obtain ⟨y, hy⟩ : ∃ y, y = rNegaValue0 c b := ⟨_, rfl⟩
  rw [← hx] at ea hIa H1
  rw [← hy] at ec hIc H1
  have HW := Lib.hid (fun W => fits_any x y W (by omega) (by omega) (by omega) (by omega))
  have hbk : rNegaValue1 a b = true → okB b = true := fun h => by
    simp only [rNegaValue1, Bool.and_eq_true] at h
    obtain ⟨n, rfl, h2, h16, _, _⟩ := nat_of_ok h.1
    exact okB_mk ⟨by omega, by omega⟩
  cases h : (rNegaValue1 a b && rNegaValue1 c b)
  · rw [h] at H1
    have E := Lib.hid (HNO.out (by rw [rNegaTimes1, h]; rfl))
    clear h hra hrc hia hic hIa hIc hx hy hbk
    go_enter Try.func34, Try.ntmps34
    go_wp2_with fail
    refine H1.out.mono ?_
    rintro e w1 ⟨rfl, hB1⟩
    go_wp2_with fail
    go_ret2
    exact E.out _ hB1
  · rw [h] at H1
    have h' := h
    simp only [Bool.and_eq_true] at h'
    have e1 := hIa h'.1
    have e2 := hIc h'.2
    cases h3 : inN (x * y)
    · rw [h3] at HW
      have E := Lib.hid (HNO.out (by rw [rNegaTimes1, h, ← e1, ← e2, h3]; rfl))
      clear h h' h3 hra hrc hia hic hIa hIc hx hy hbk e1 e2
      go_enter Try.func34, Try.ntmps34
      go_wp2_with fail
      refine H1.out.mono ?_
      rintro e w1 ⟨rfl, hB1⟩
      go_wp2_with (go_at_call 68; refine (HW.out _).mono ?_; rintro e w' ⟨rfl, rfl⟩)
      go_ret2
      exact E.out _ hB1
    · rw [h3] at HW
      have HE1 := Lib.hid (show rNegaTimes1 a c b = true by rw [rNegaTimes1, h, ← e1, ← e2, h3]; rfl)
      have HE0 := Lib.hid (show rNegaDigits0 (x * y) b = rNegaTimes0 a c b by rw [rNegaTimes0, HE1.out, if_pos rfl, ← e1, ← e2, rNegaDigits0, hbk h'.1, h3]; rfl)
      obtain ⟨s1, s2⟩ := inN_yes h3
      have HD := Lib.hid (fun W => implNegaDigits_any (x * y) b W ⟨by omega, by omega⟩ hb)
      rw [HE0.out] at HD
      clear h h' h3 hra hrc hia hic hIa hIc hx hy hbk e1 e2
      go_enter Try.func34, Try.ntmps34
      go_wp2_with fail
      refine H1.out.mono ?_
      rintro e w1 ⟨rfl, hB1⟩
      go_wp2_with (go_at_call 68; refine (HW.out _).mono ?_; rintro e w' ⟨rfl, rfl⟩)
      refine (HD.out w1).mono ?_
      rintro e w2 ⟨v, rfl, ho, hB⟩
      have HO := Lib.hid (owns_mono ho hB1.size)
      clear ho
      obtain ⟨av, cv, e3, _, _⟩ := owns_form HO.out
      subst e3
      go_wp2_with fail
      go_ret2
      exact ⟨_, by rw [HE1.out]; rfl, HO.out, hB1.trans (hB.mono hB1.size)⟩

end Go.Proofs.Ytdflpocnfodbhab
