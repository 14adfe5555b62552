/- Balanced digits: what the law needs: rounding, weighings, and what the program's functions answer at the digits of integers. -/
import Derived.Test.YtdflpocnfodbhaaLawFns
import Derived.Test.YtdflpocnfodbhaaBaValI
import Derived.Test.YtdflpocnfodbhaaBaOrdI
import Derived.Test.YtdflpocnfodbhaaBaNegI
import Derived.Test.YtdflpocnfodbhaaBaAddI
import Derived.Test.YtdflpocnfodbhaaBaWeighI
import Derived.Test.YtdflpocnfodbhaaBaFmtI
set_option linter.unusedVariables false
set_option linter.unusedSimpArgs false
set_option maxRecDepth 100000
namespace Go.Proofs.Ytdflpocnfodbhaa
open Go.ChangeShapes Go.WideShapes Go.ChangeAt Go.RowKit

/-! ### rounding -/
theorem pow_posB (h : Nat) : ∀ k : Nat, 0 < (2 * (h : Int) + 1) ^ k
  | 0 => by simp
  | k + 1 => by rw [Int.pow_succ]; exact Int.mul_pos (pow_posB h k) (by omega)
/-- what is cut off is at most half of the place -/
theorem cut_half {h : Nat} {l : List Int} (hl : AllB h l) : ∀ k, 2 * (bv h l - bv h (l.drop k) * (2 * (h : Int) + 1) ^ k) ≤ (2 * (h : Int) + 1) ^ k - 1 ∧ 1 - (2 * (h : Int) + 1) ^ k ≤ 2 * (bv h l - bv h (l.drop k) * (2 * (h : Int) + 1) ^ k)
  | 0 => by simp
  | k + 1 => by
    obtain ⟨i1, i2⟩ := cut_half hl k
    have hat := bv_at h l k
    have hr := at0_rangeB hl k
    have hp := pow_posB h k
    rw [hat] at i1 i2
    rw [Int.pow_succ]
    obtain ⟨P, hP⟩ : ∃ P, P = (2 * (h : Int) + 1) ^ k := ⟨_, rfl⟩
    obtain ⟨z, hz⟩ : ∃ z, z = bv h (l.drop (k + 1)) := ⟨_, rfl⟩
    obtain ⟨x, hx⟩ : ∃ x, x = at0 l k := ⟨_, rfl⟩
    rw [← hP] at hp i1 i2 ⊢
    rw [← hz] at i1 i2 ⊢
    rw [← hx] at hr i1 i2
    have e1 : (x + (2 * (h : Int) + 1) * z) * P = x * P + z * (P * (2 * (h : Int) + 1)) := by rw [Int.add_mul]; congr 1; ac_rfl
    have e2 : x * P ≤ h * P := Int.mul_le_mul_of_nonneg_right hr.2 (by omega)
    have e3 : -(h : Int) * P ≤ x * P := Int.mul_le_mul_of_nonneg_right hr.1 (by omega)
    have e4 : P * (2 * (h : Int) + 1) = 2 * (h * P) + P := by rw [Int.mul_add, Int.mul_one, Int.mul_comm P, Int.mul_assoc]
    have e5 : -(h : Int) * P = -(h * P) := Int.neg_mul _ _
    rw [e1] at i1 i2
    rw [e4] at i1 i2 ⊢
    omega
theorem nrmB_drop {h : Nat} {l : List Int} (hl : NrmB h l) (k : Nat) : NrmB h (l.drop k) := by
  refine ⟨fun d hd => hl.1 d (List.mem_of_mem_drop hd), ?_⟩
  rcases Nat.lt_or_ge k l.length with hk | hk
  · right
    have hne : l ≠ [] := fun e => by rw [e] at hk; simp at hk
    rw [List.getLast?_drop, if_neg (by omega)]
    exact hl.2.resolve_left hne
  · left; exact List.drop_of_length_le hk
theorem drop_small {h : Nat} {n : Int} (h1 : 1 ≤ h) (hn1 : -20000000000 ≤ n) (hn2 : n ≤ 20000000000) (k : Nat) (hk : (2 * (h : Int) + 1) ^ k ≤ 1000000) : -30000000000 ≤ bv h ((bd h n).drop k) ∧ bv h ((bd h n).drop k) ≤ 30000000000 := by
  obtain ⟨i1, i2⟩ := cut_half (bd_digits h1 n) k
  have hp := pow_posB h k
  rw [bv_bd h1] at i1 i2
  obtain ⟨P, hP⟩ : ∃ P, P = (2 * (h : Int) + 1) ^ k := ⟨_, rfl⟩
  obtain ⟨z, hz⟩ : ∃ z, z = bv h ((bd h n).drop k) := ⟨_, rfl⟩
  rw [← hP] at hp i1 i2 hk
  rw [← hz] at i1 i2 ⊢
  constructor
  · rcases ltgeZ z 0 with h4 | h4
    · have : z * P ≤ z * 1 := by
        have h5 : (-z) * 1 ≤ (-z) * P := Int.mul_le_mul_of_nonneg_left (by omega) (by omega)
        rw [Int.neg_mul, Int.neg_mul] at h5; omega
      omega
    · omega
  · rcases ltgeZ z 0 with h4 | h4
    · omega
    · have : z * 1 ≤ z * P := Int.mul_le_mul_of_nonneg_left (by omega) h4
      omega

/-! ### the opposite digits -/
theorem neg_list {h : Nat} (hh7 : h ≤ 7) {l : List Int} (hl : AllB h l) (hn : l.length ≤ 1000) : rNegateDigits0 l = l.map (fun d => -d) := by
  rw [rNegateDigits0, if_pos (by omega)]
  refine List.map_congr_left (fun d hd => ?_)
  have := hl d hd
  unfold neg64
  split <;> omega
theorem bv_neg (h : Nat) : ∀ l : List Int, bv h (l.map (fun d => -d)) = -(bv h l)
  | [] => rfl
  | d :: l => by rw [List.map_cons, bv_cons, bv_cons, bv_neg h l, Int.mul_neg]; omega
theorem nrmB_neg {h : Nat} {l : List Int} (hl : NrmB h l) : NrmB h (l.map (fun d => -d)) := by
  refine ⟨fun d hd => ?_, ?_⟩
  · obtain ⟨x, hx, rfl⟩ := List.mem_map.1 hd
    have := hl.1 x hx; omega
  · rcases hl.2 with rfl | h1
    · exact .inl rfl
    · right
      rw [List.getLast?_map]
      intro e
      cases hx : l.getLast? with
      | none => rw [hx] at e; simp at e
      | some x => rw [hx] at e h1; simp at e; exact h1 (by rw [show x = 0 by omega])

/-! ### weighings -/
theorem wpow_sum : ∀ (l : List Int) (q : Int), AllB 1 l → (wpow 1 q l).sum - (wpow (-1) q l).sum = q * bv 1 l
  | [], q, _ => by simp [wpow, bv_nil]
  | d :: l, q, hl => by
    have hd := hl d (by simp)
    have ih := wpow_sum l (q * 3) (fun x hx => hl x (by simp [hx]))
    rw [bv_cons, wpow, wpow]
    have e : q * (d + (2 * ((1 : Nat) : Int) + 1) * bv 1 l) = q * d + q * 3 * bv 1 l := by rw [Int.mul_add, Int.mul_assoc]; rfl
    rw [e]
    have hc : d = 1 ∨ d = -1 ∨ d = 0 := by omega
    rcases hc with rfl | rfl | rfl
    · rw [if_pos rfl, if_neg (by decide), List.sum_cons, Int.mul_one]; omega
    · rw [if_neg (by decide), if_pos rfl, List.sum_cons, Int.mul_neg, Int.mul_one]; omega
    · rw [if_neg (by decide), if_neg (by decide), Int.mul_zero]; omega
theorem wpow_lens : ∀ (l : List Int) (q : Int), (wpow 1 q l).length + (wpow (-1) q l).length ≤ l.length
  | [], q => by simp [wpow]
  | d :: l, q => by
    have ih := wpow_lens l (q * 3)
    rw [wpow, wpow, List.length_cons]
    split
    · rw [if_neg (by omega), List.length_cons]; omega
    · split
      · rw [List.length_cons]; omega
      · omega
/-- a power is laid on one side alone -/
theorem wpow_ge (s : Int) : ∀ (l : List Int) (q : Int), 0 < q → ∀ p ∈ wpow s q l, q ≤ p
  | [], q, _, p, hp => by simp [wpow] at hp
  | d :: l, q, hq, p, hp => by
    have ih := wpow_ge s l (q * 3) (by omega)
    rw [wpow] at hp
    split at hp
    · rcases List.mem_cons.1 hp with rfl | hp
      · omega
      · have := ih p hp; omega
    · have := ih p hp; omega
theorem wpow_apart : ∀ (l : List Int) (q : Int), 0 < q → ∀ p ∈ wpow 1 q l, p ∉ wpow (-1) q l
  | [], q, _, p, hp => by simp [wpow] at hp
  | d :: l, q, hq, p, hp => by
    have ih := wpow_apart l (q * 3) (by omega)
    have g1 := wpow_ge 1 l (q * 3) (by omega)
    have g2 := wpow_ge (-1) l (q * 3) (by omega)
    rw [wpow] at hp
    rw [wpow]
    intro hm
    split at hp
    · rw [if_neg (by omega)] at hm
      rcases List.mem_cons.1 hp with rfl | hp
      · have := g2 _ hm; omega
      · exact ih p hp hm
    · split at hm
      · rcases List.mem_cons.1 hm with rfl | hm
        · have := g1 _ hp; omega
        · exact ih p hp hm
      · exact ih p hp hm
/-- no power is much greater than the load -/
theorem wpow_le (s : Int) : ∀ n : Int, ∀ q, 0 < q → ∀ p ∈ wpow s q (bd 1 n), p ≤ (2 * (n.natAbs : Int) - 1) * q := by
  refine bd_induct (h := 1) (by omega) (fun q _ p hp => by rw [bd_zero] at hp; simp [wpow] at hp) (fun n hn ih q hq p hp => ?_)
  rw [bd_step (by omega) hn, wpow] at hp
  obtain ⟨f1, f2, f3⟩ := bd_facts (h := 1) (by omega) n
  obtain ⟨m, hm⟩ : ∃ m, m = (n + ((1 : Nat) : Int)) / (2 * ((1 : Nat) : Int) + 1) := ⟨_, rfl⟩
  rw [← hm] at f1 ih hp
  have hbase : q ≤ (2 * (n.natAbs : Int) - 1) * q := by
    have : 1 * q ≤ (2 * (n.natAbs : Int) - 1) * q := Int.mul_le_mul_of_nonneg_right (by omega) (by omega)
    omega
  have hrest : ∀ p ∈ wpow s (q * 3) (bd 1 m), p ≤ (2 * (n.natAbs : Int) - 1) * q := fun p hp => by
    have h1 := ih (q * 3) (by omega) p hp
    have h2 : (2 * (m.natAbs : Int) - 1) * (q * 3) = (3 * (2 * (m.natAbs : Int) - 1)) * q := by ac_rfl
    have h3 : (3 * (2 * (m.natAbs : Int) - 1)) * q ≤ (2 * (n.natAbs : Int) - 1) * q := Int.mul_le_mul_of_nonneg_right (by omega) (by omega)
    omega
  split at hp
  · rcases List.mem_cons.1 hp with rfl | hp
    · exact hbase
    · exact hrest p hp
  · exact hrest p hp

/-! ### what the functions answer at the digits of integers -/
section
variable {va vc : Value} {x y B : Int} {h : Nat} {w : World}

theorem bd_in64 (h1 : 1 ≤ h) (h7 : h ≤ 7) {l : List Int} (hl : AllB h l) : ∀ d ∈ l, in64 d := fun d hd => by
  have := hl d hd
  unfold in64; omega
theorem bB64 (h7 : h ≤ 7) (hB : B = 2 * (h : Int) + 1) : in64 B := by unfold in64; omega

theorem baDigitsAt (h1 : 1 ≤ h) (h7 : h ≤ 7) (hB : B = 2 * (h : Int) + 1) (g1 : -1000000000000 ≤ x) (g2 : x ≤ 1000000000000) :
    Calls Try.prog 45 #[.int .i64 x, .int .i64 B] w (GotN (bd h x) w) := by
  have e0 : rBalancedDigits0 x B = bd h x := by rw [rBalancedDigits0, hB, okE_mk h1 h7, inN_mk g1 g2, hOf_eq]; rfl
  have := implBalancedDigits_any x B w (by unfold in64; omega) (bB64 h7 hB)
  rw [e0] at this
  refine this.mono ?_
  rintro e w' ⟨v, rfl, ho, hb⟩
  obtain ⟨a, cap, rfl, l1, l2⟩ := owns_form ho
  exact ⟨a, cap, rfl, RowAt.of_owns ho, l1, l2, hb⟩
theorem baValueAt (h1 : 1 ≤ h) (h7 : h ≤ 7) (hB : B = 2 * (h : Int) + 1) {l : List Int} (hN : NrmB h l) (hl : l.length ≤ 60) (hx : bv h l = x) (hra : RowAt w va (intsOf l)) (g1 : -1000000000000 ≤ x) (g2 : x ≤ 1000000000000) :
    Calls Try.prog 46 #[va, .int .i64 B] w fun e w' => e = .returned (.tuple #[.int .i64 x, .bool true]) ∧ Below w.heap.size w w' := by
  have e1 : rBalancedValue1 l B = true := by rw [rBalancedValue1, hB, okW_mk h1 h7 hN hl, hOf_eq, hx, inN_mk g1 g2]; rfl
  have e0 : rBalancedValue0 l B = x := by rw [rBalancedValue0, e1, hB, hOf_eq, hx]; rfl
  have := implBalancedValue_any va l B w hra (by omega) (bd_in64 h1 h7 hN.1) (bB64 h7 hB)
  rwa [e0, e1] at this
theorem baNegateAt (h1 : 1 ≤ h) (h7 : h ≤ 7) {l : List Int} (hN : NrmB h l) (hl : l.length ≤ 60) (hra : RowAt w va (intsOf l)) :
    Calls Try.prog 47 #[va] w (GotN (l.map (fun d => -d)) w) := by
  have := implNegateDigits_any va l w hra (by omega) (bd_in64 h1 h7 hN.1)
  rw [neg_list h7 hN.1 (by omega)] at this
  refine this.mono ?_
  rintro e w' ⟨v, rfl, ho, hb⟩
  obtain ⟨a, cap, rfl, l1, l2⟩ := owns_form ho
  exact ⟨a, cap, rfl, RowAt.of_owns ho, l1, l2, hb⟩
theorem baAddAt (h1 : 1 ≤ h) (h7 : h ≤ 7) (hB : B = 2 * (h : Int) + 1) (hra : RowAt w va (intsOf (bd h x))) (hrc : RowAt w vc (intsOf (bd h y))) (g1 : -1000000000000 ≤ x) (g2 : x ≤ 1000000000000) (g3 : -1000000000000 ≤ y) (g4 : y ≤ 1000000000000) (g5 : -1000000000000 ≤ x + y) (g6 : x + y ≤ 1000000000000) :
    Calls Try.prog 48 #[va, vc, .int .i64 B] w (GotNT (bd h (x + y)) w) := by
  have l1 := bd_len41 h1 g1 g2
  have l2 := bd_len41 h1 g3 g4
  have l3 := bd_len41 h1 g5 g6
  have k1 : rBalancedAdd1 (bd h x) (bd h y) B = true := by rw [rBalancedAdd1, hB, okW_bd h1 h7 (by omega), okW_bd h1 h7 (by omega), hOf_eq, bv_bd h1, bv_bd h1]; simp [fits]; omega
  have k0 : rBalancedAdd0 (bd h x) (bd h y) B = bd h (x + y) := by rw [rBalancedAdd0, k1, hB, hOf_eq, bv_bd h1, bv_bd h1]; rfl
  have := implBalancedAdd_any va (bd h x) vc (bd h y) B w hra (by omega) (bd_in64 h1 h7 (bd_digits h1 x)) hrc (by omega) (bd_in64 h1 h7 (bd_digits h1 y)) (bB64 h7 hB)
  rw [k1, k0] at this
  refine this.mono ?_
  rintro e w' ⟨v, rfl, ho, hb⟩
  obtain ⟨a, cap, rfl, l1, l2⟩ := owns_form ho
  exact ⟨a, cap, rfl, RowAt.of_owns ho, l1, l2, hb⟩
theorem baCompareAt (h1 : 1 ≤ h) (h7 : h ≤ 7) (hB : B = 2 * (h : Int) + 1) (hra : RowAt w va (intsOf (bd h x))) (hrc : RowAt w vc (intsOf (bd h y))) (g1 : -1000000000000 ≤ x) (g2 : x ≤ 1000000000000) (g3 : -1000000000000 ≤ y) (g4 : y ≤ 1000000000000) :
    Calls Try.prog 51 #[va, vc, .int .i64 B] w fun e w' => e = .returned (.int .i64 (cmpI x y)) ∧ Below w.heap.size w w' := by
  have l1 := bd_len41 h1 g1 g2
  have l2 := bd_len41 h1 g3 g4
  have e0 : rBalancedCompare0 (bd h x) (bd h y) B = cmpI x y := by rw [rBalancedCompare0, hB, okW_bd h1 h7 (by omega), okW_bd h1 h7 (by omega), hOf_eq, bv_bd h1, bv_bd h1]; rfl
  have := implBalancedCompare_any va (bd h x) vc (bd h y) B w hra (by omega) (bd_in64 h1 h7 (bd_digits h1 x)) hrc (by omega) (bd_in64 h1 h7 (bd_digits h1 y)) (bB64 h7 hB)
  rwa [e0] at this
theorem baOkAt (h1 : 1 ≤ h) (h7 : h ≤ 7) (hB : B = 2 * (h : Int) + 1) (hra : RowAt w va (intsOf (bd h x))) (g1 : -1000000000000 ≤ x) (g2 : x ≤ 1000000000000) :
    Calls Try.prog 50 #[va, .int .i64 B] w fun e w' => e = .returned (.bool true) ∧ Below w.heap.size w w' := by
  have l1 := bd_len41 h1 g1 g2
  have e0 : rBalancedOk0 (bd h x) B = true := by rw [rBalancedOk0, hB, okW_bd h1 h7 (by omega)]
  have := implBalancedOk_any va (bd h x) B w hra (by omega) (bd_in64 h1 h7 (bd_digits h1 x)) (bB64 h7 hB)
  rwa [e0] at this
theorem baDropAt {k : Nat} (h1 : 1 ≤ h) (h7 : h ≤ 7) (hB : B = 2 * (h : Int) + 1) (hk : k ≤ 60) (hra : RowAt w va (intsOf (bd h x))) (g1 : -1000000000000 ≤ x) (g2 : x ≤ 1000000000000) :
    Calls Try.prog 49 #[va, .int .i64 B, .int .i64 k] w (GotNT ((bd h x).drop k) w) := by
  have l1 := bd_len41 h1 g1 g2
  have k1 : rDropPlaces1 (bd h x) B k = true := by rw [rDropPlaces1, hB, okW_bd h1 h7 (by omega)]; simp [inB]; omega
  have k0 : rDropPlaces0 (bd h x) B k = (bd h x).drop k := by rw [rDropPlaces0, k1]; rfl
  have := implDropPlaces_any va (bd h x) B k w hra (by omega) (bd_in64 h1 h7 (bd_digits h1 x)) (bB64 h7 hB) (by unfold in64; omega)
  rw [k1, k0] at this
  refine this.mono ?_
  rintro e w' ⟨v, rfl, ho, hb⟩
  obtain ⟨a, cap, rfl, l1, l2⟩ := owns_form ho
  exact ⟨a, cap, rfl, RowAt.of_owns ho, l1, l2, hb⟩
theorem baWeighAt (g1 : 0 ≤ x) (g2 : x ≤ 1000000000000) :
    Calls Try.prog 52 #[.int .i64 x] w fun e w' => ∃ a1 c1 a2 c2, e = .returned (.tuple #[.slice a1 (wpow 1 1 (bd 1 x)).length c1, .slice a2 (wpow (-1) 1 (bd 1 x)).length c2]) ∧
      RowAt w' (.slice a1 (wpow 1 1 (bd 1 x)).length c1) (intsOf (wpow 1 1 (bd 1 x))) ∧ (wpow 1 1 (bd 1 x)).length ≤ c1 ∧ c1 ≤ maxLen ∧ RowAt w' (.slice a2 (wpow (-1) 1 (bd 1 x)).length c2) (intsOf (wpow (-1) 1 (bd 1 x))) ∧ (wpow (-1) 1 (bd 1 x)).length ≤ c2 ∧ c2 ≤ maxLen ∧ Below w.heap.size w w' := by
  have hin : inB x 0 1000000000000 = true := by simp [inB, g1, g2]
  have e0 : rWeighingOf0 x = wpow 1 1 (bd 1 x) := by rw [rWeighingOf0, hin]; rfl
  have e1 : rWeighingOf1 x = wpow (-1) 1 (bd 1 x) := by rw [rWeighingOf1, hin]; rfl
  have := implWeighingOf_any x w (by unfold in64; omega)
  rw [e0, e1] at this
  refine this.mono ?_
  rintro e w' ⟨v1, v2, rfl, ho1, ho2, _, hb⟩
  obtain ⟨a1, c1, rfl, l1, l2⟩ := owns_form ho1
  obtain ⟨a2, c2, rfl, l3, l4⟩ := owns_form ho2
  exact ⟨a1, c1, a2, c2, rfl, RowAt.of_owns ho1, l1, l2, RowAt.of_owns ho2, l3, l4, hb⟩
theorem bd_eight : bd 1 8 = [-1, 0, 1] := by decide
theorem fmt_eight : rFormatBalanced0 [-1, 0, 1] = ⟨#[43, 48, 45]⟩ := by decide
theorem baFormatAt (hra : RowAt w va (intsOf (bd 1 8))) :
    Calls Try.prog 55 #[va] w fun e w' => e = .returned (.string ⟨#[43, 48, 45]⟩) ∧ Below w.heap.size w w' := by
  rw [bd_eight] at hra
  have := implFormatBalanced_any va [-1, 0, 1] w hra (by decide) (fun d hd => by
    have : d = -1 ∨ d = 0 ∨ d = 1 := by simpa using hd
    unfold in64; omega)
  rwa [fmt_eight] at this
end

end Go.Proofs.Ytdflpocnfodbhaa
