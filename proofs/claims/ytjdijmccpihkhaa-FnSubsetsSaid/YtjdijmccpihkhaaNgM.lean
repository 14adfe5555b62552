/- Negative bases: plain functions and facts: the digits of an integer in base -b, their value, sign, order and range. -/
import Derived.Test.YtjdijmccpihkhaaLgM
set_option linter.unusedVariables false
set_option linter.unusedSimpArgs false
set_option maxRecDepth 100000
namespace Go.Proofs.Ytjdijmccpihkhaa

theorem ltgeZ (a b : Int) : a < b ∨ b ≤ a := by omega
/-- what goes down with each digit -/
def mu (n : Int) : Nat := 2 * n.natAbs + (if n < 0 then 1 else 0)
/-- the digits of n in base -b, at most f of them -/
def ngF (b : Nat) : Nat → Int → List Int
  | 0, _ => []
  | f + 1, n => if n = 0 then [] else n % b :: ngF b f (-(n / b))
def ng (b : Nat) (n : Int) : List Int := ngF b (mu n) n

theorem ngF_zero (b f : Nat) : ngF b f 0 = [] := by cases f <;> rfl
theorem ngF_succ {b f : Nat} {n : Int} (h : n ≠ 0) : ngF b (f + 1) n = n % b :: ngF b f (-(n / b)) := by simp only [ngF, if_neg h]
theorem div_facts {b : Nat} (hb : 2 ≤ b) (n : Int) : n % b + b * (n / b) = n ∧ 0 ≤ n % b ∧ n % b ≤ (b : Int) - 1 := by
  have h1 : n % b + b * (n / b) = n := Int.emod_add_mul_ediv n b
  have h2 : 0 ≤ n % b := Int.emod_nonneg _ (by omega)
  have h3 : n % b < b := Int.emod_lt_of_pos _ (by omega)
  exact ⟨h1, h2, by omega⟩
/-- what is left, in bounds -/
theorem quo_bounds {b : Nat} (hb : 2 ≤ b) {n : Int} {N : Nat} (h : n.natAbs ≤ N) : 2 * (-(n / b)).natAbs ≤ N + 1 := by
  obtain ⟨h1, h2, h3⟩ := div_facts hb n
  obtain ⟨q, hq⟩ : ∃ q, q = n / (b : Int) := ⟨_, rfl⟩
  rw [← hq] at h1 ⊢
  rcases ltgeZ q 0 with h0 | h0
  · have h5 : 2 * (-q - 1) ≤ b * (-q - 1) := Int.mul_le_mul_of_nonneg_right (by omega) (by omega)
    have h6 : (b : Int) * (-q - 1) = -(b * q) - b := by rw [Int.mul_sub, Int.mul_neg, Int.mul_one]
    omega
  · have h5 : 2 * q ≤ b * q := Int.mul_le_mul_of_nonneg_right (by omega) h0
    omega
theorem mu_lt {b : Nat} (hb : 2 ≤ b) {n : Int} (h : n ≠ 0) : mu (-(n / b)) < mu n := by
  obtain ⟨h1, h2, h3⟩ := div_facts hb n
  obtain ⟨q, hq⟩ : ∃ q, q = n / (b : Int) := ⟨_, rfl⟩
  have hqb := quo_bounds hb (Nat.le_refl n.natAbs)
  rw [← hq] at h1 hqb ⊢
  unfold mu
  rcases ltgeZ n 0 with h0 | h0
  · have hq0 : q < 0 := by
      rcases ltgeZ q 0 with h4 | h4
      · exact h4
      · have h5 : 0 ≤ b * q := Int.mul_nonneg (by omega) h4
        omega
    rw [if_pos h0, if_neg (by omega)]
    have h5 : (-q).natAbs ≤ n.natAbs := by
      have h6 : 2 * (-q - 1) ≤ b * (-q - 1) := Int.mul_le_mul_of_nonneg_right (by omega) (by omega)
      have h7 : (b : Int) * (-q - 1) = -(b * q) - b := by rw [Int.mul_sub, Int.mul_neg, Int.mul_one]
      omega
    omega
  · have hq0 : 0 ≤ q := by
      rcases ltgeZ q 0 with h4 | h4
      · have h5 : b * q ≤ b * (-1) := Int.mul_le_mul_of_nonneg_left (by omega) (by omega)
        omega
      · exact h4
    rw [if_neg (show ¬ n < 0 by omega)]
    have h5 : 2 * q ≤ b * q := Int.mul_le_mul_of_nonneg_right (by omega) hq0
    split <;> omega
theorem ngF_fuel {b : Nat} (hb : 2 ≤ b) : ∀ (f g : Nat) (n : Int), mu n ≤ f → mu n ≤ g → ngF b f n = ngF b g n
  | 0, g, n, h, _ => by
    have : n = 0 := by unfold mu at h; omega
    subst this; rw [ngF_zero, ngF_zero]
  | f + 1, 0, n, _, h => by
    have : n = 0 := by unfold mu at h; omega
    subst this; rw [ngF_zero, ngF_zero]
  | f + 1, g + 1, n, h1, h2 => by
    by_cases h : n = 0
    · subst h; rw [ngF_zero, ngF_zero]
    · have := mu_lt hb h
      rw [ngF_succ h, ngF_succ h, ngF_fuel hb f g (-(n / b)) (by omega) (by omega)]
theorem ng_zero (b : Nat) : ng b 0 = [] := ngF_zero _ _
theorem ng_step {b : Nat} (hb : 2 ≤ b) {n : Int} (h : n ≠ 0) : ng b n = n % b :: ng b (-(n / b)) := by
  have hlt := mu_lt hb h
  obtain ⟨m, hm⟩ : ∃ m, mu n = m + 1 := ⟨mu n - 1, by omega⟩
  rw [ng, hm, ngF_succ h, ng, ngF_fuel hb m _ _ (by omega) (Nat.le_refl _)]

/-- by the digits -/
theorem ng_induct {b : Nat} (hb : 2 ≤ b) {P : Int → Prop} (h0 : P 0) (hs : ∀ n, n ≠ 0 → P (-(n / b)) → P n) : ∀ n, P n := by
  have key : ∀ (k : Nat) (n : Int), mu n ≤ k → P n := by
    intro k
    induction k with
    | zero => intro n h; have : n = 0 := by unfold mu at h; omega
              subst this; exact h0
    | succ k ih =>
      intro n h
      by_cases hn : n = 0
      · subst hn; exact h0
      · exact hs n hn (ih _ (by have := mu_lt hb hn; omega))
  exact fun n => key _ n (Nat.le_refl _)

theorem hv_ng {b : Nat} (hb : 2 ≤ b) : ∀ n, hv (-(b : Int)) (ng b n) = n := by
  refine ng_induct hb (by rw [ng_zero]; rfl) (fun n hn ih => ?_)
  rw [ng_step hb hn, hv_cons, ih]
  have := (div_facts hb n).1
  rw [Int.neg_mul_neg]; omega
theorem ng_digits {b : Nat} (hb : 2 ≤ b) : ∀ n, ∀ d ∈ ng b n, 0 ≤ d ∧ d ≤ (b : Int) - 1 := by
  refine ng_induct hb (fun d hd => by rw [ng_zero] at hd; simp at hd) (fun n hn ih d hd => ?_)
  rw [ng_step hb hn] at hd
  rcases List.mem_cons.1 hd with rfl | hd
  · exact (div_facts hb n).2
  · exact ih d hd
theorem ng_last {b : Nat} (hb : 2 ≤ b) : ∀ n, ng b n = [] ∨ (ng b n).getLast? ≠ some 0 := by
  refine ng_induct hb (.inl (ng_zero b)) (fun n hn ih => .inr ?_)
  rw [ng_step hb hn]
  by_cases hq : n / (b : Int) = 0
  · rw [hq, Int.neg_zero, ng_zero]
    have := (div_facts hb n).1
    rw [hq, Int.mul_zero, Int.add_zero] at this
    simp [this, hn]
  · have hne : -(n / (b : Int)) ≠ 0 := by omega
    rw [ng_step hb hne] at ih ⊢
    rw [List.getLast?_cons_cons]
    exact ih.resolve_left (by simp)
theorem nrm_ng {b : Nat} (hb : 2 ≤ b) (n : Int) : Nrm b (ng b n) := ⟨ng_digits hb n, ng_last hb n⟩

/-- the value in base -b -/
def nv (b : Nat) (l : List Int) : Int := hv (-(b : Int)) l
theorem nv_nil (b : Nat) : nv b [] = 0 := rfl
theorem nv_cons (b : Nat) (d : Int) (l : List Int) : nv b (d :: l) = d - b * nv b l := by
  unfold nv; rw [hv_cons, Int.neg_mul]; omega
theorem nv_ng {b : Nat} (hb : 2 ≤ b) (n : Int) : nv b (ng b n) = n := hv_ng hb n

theorem nrm_tail {b : Nat} {d : Int} {l : List Int} (h : Nrm b (d :: l)) : Nrm b l := by
  refine ⟨fun x hx => h.1 x (List.mem_cons_of_mem _ hx), ?_⟩
  cases l with
  | nil => exact .inl rfl
  | cons y l => right; have := h.2.resolve_left (by simp); rwa [List.getLast?_cons_cons] at this
/-- the sign is told by how many digits there are -/
theorem nv_sign {b : Nat} (hb : 2 ≤ b) : ∀ {l : List Int}, Nrm b l → l ≠ [] → (l.length % 2 = 1 → 0 < nv b l) ∧ (l.length % 2 = 0 → nv b l < 0)
  | [], _, h => absurd rfl h
  | [d], h, _ => by
    have hd := h.1 d (by simp)
    have h0 : d ≠ 0 := by have := h.2.resolve_left (by simp); simpa using this
    rw [nv_cons, nv_nil]
    exact ⟨fun _ => by omega, fun h => by simp at h⟩
  | d :: y :: l, h, _ => by
    have hd := h.1 d (by simp)
    obtain ⟨ih1, ih2⟩ := nv_sign hb (nrm_tail h) (by simp)
    rw [nv_cons]
    obtain ⟨v, hv⟩ : ∃ v, v = nv b (y :: l) := ⟨_, rfl⟩
    rw [← hv] at ih1 ih2 ⊢
    rw [List.length_cons]
    refine ⟨fun hp => ?_, fun hp => ?_⟩
    · have h1 := ih2 (by omega)
      have h2 : (b : Int) * v ≤ b * (-1) := Int.mul_le_mul_of_nonneg_left (by omega) (by omega)
      omega
    · have h1 := ih1 (by omega)
      have h2 : (b : Int) * 1 ≤ b * v := Int.mul_le_mul_of_nonneg_left (by omega) (by omega)
      omega
theorem nv_ne {b : Nat} (hb : 2 ≤ b) {l : List Int} (h : Nrm b l) (h0 : l ≠ []) : nv b l ≠ 0 := by
  obtain ⟨h1, h2⟩ := nv_sign hb h h0
  rcases Nat.mod_two_eq_zero_or_one l.length with e | e
  · have := h2 e; omega
  · have := h1 e; omega
def sgnZ (n : Int) : Int := if n < 0 then -1 else if 0 < n then 1 else 0
theorem sgnZ_nil (b : Nat) : sgnZ (nv b []) = 0 := rfl
theorem sgnZ_odd {b : Nat} (hb : 2 ≤ b) {l : List Int} (h : Nrm b l) (hl : l.length % 2 = 1) : sgnZ (nv b l) = 1 := by
  have := (nv_sign hb h (fun e => by rw [e] at hl; simp at hl)).1 hl
  unfold sgnZ; rw [if_neg (by omega), if_pos this]
theorem sgnZ_even {b : Nat} (hb : 2 ≤ b) {l : List Int} (h : Nrm b l) (h0 : l ≠ []) (hl : l.length % 2 = 0) : sgnZ (nv b l) = -1 := by
  have := (nv_sign hb h h0).2 hl
  unfold sgnZ; rw [if_pos this]

/-- digits are told by their value -/
theorem ng_nv {b : Nat} (hb : 2 ≤ b) : ∀ {l : List Int}, Nrm b l → ng b (nv b l) = l
  | [], _ => by rw [nv_nil, ng_zero]
  | d :: l, h => by
    have hd := h.1 d (by simp)
    have ih := ng_nv hb (nrm_tail h)
    have hne := nv_ne hb h (by simp)
    rw [ng_step hb hne, nv_cons]
    have e1 : (d - b * nv b l) % b = d := by
      rw [Int.sub_mul_emod_self_left]; exact Int.emod_eq_of_lt hd.1 (by omega)
    have e2 : (d - b * nv b l) / b = -(nv b l) := by
      rw [show d - b * nv b l = d + b * (-(nv b l)) by rw [Int.mul_neg]; omega, Int.add_mul_ediv_left _ _ (by omega), Int.ediv_eq_zero_of_lt hd.1 (by omega)]
      omega
    rw [e1, e2, Int.neg_neg, ih]

/-- how many digits -/
theorem ng_len {b : Nat} (hb : 2 ≤ b) : ∀ (k : Nat) (n : Int), n.natAbs ≤ 2 ^ k → (ng b n).length ≤ k + 2
  | 0, n, h => by
    have h' : n.natAbs ≤ 1 := by simpa using h
    by_cases h0 : n = 0
    · subst h0; simp [ng_zero]
    · rw [ng_step hb h0, List.length_cons]
      have h1 := quo_bounds hb h'
      obtain ⟨q, hq⟩ : ∃ q, q = -(n / (b : Int)) := ⟨_, rfl⟩
      have hq1 := mu_lt hb h0
      rw [← hq] at h1 hq1 ⊢
      by_cases h2 : q = 0
      · subst h2; simp [ng_zero]
      · rw [ng_step hb h2, List.length_cons]
        have hq2 := mu_lt hb h2
        have h3 : -(q / (b : Int)) = 0 := by
          have h4 := quo_bounds hb (show q.natAbs ≤ 1 by omega)
          unfold mu at hq1 hq2
          split at hq1 <;> split at hq1 <;> split at hq2 <;> omega
        rw [h3, ng_zero]; simp
  | k + 1, n, h => by
    by_cases h0 : n = 0
    · subst h0; simp [ng_zero]
    · rw [ng_step hb h0, List.length_cons]
      have h1 := quo_bounds hb h
      have := ng_len hb k (-(n / b)) (by rw [Nat.pow_succ] at h1; omega)
      omega
theorem ng_len42 {b : Nat} {n : Int} (hb : 2 ≤ b) (h1 : -1000000000000 ≤ n) (h2 : n ≤ 1000000000000) : (ng b n).length ≤ 42 := ng_len hb 40 n (by omega)
theorem okD_ng {b : Nat} {n : Int} (hb : 2 ≤ b) (hb16 : b ≤ 16) (h : (ng b n).length ≤ 60) : okD (ng b n) b = true := by
  simp only [okD, Bool.and_eq_true, decide_eq_true_eq]
  exact ⟨⟨⟨okB_mk ⟨by omega, by omega⟩, h⟩, ng_digits hb n⟩, ng_last hb n⟩

/-! ### order -/
theorem nv_at (b : Nat) (l : List Int) (k : Nat) : nv b (l.drop k) = at0 l k - b * nv b (l.drop (k + 1)) := by
  have := hv_at (-(b : Int)) l k
  unfold nv; rw [this, Int.neg_mul]; omega
/-- a place below one in which two lists differ doesn't turn the order that stands there -/
theorem nv_order {b : Nat} (hb : 2 ≤ b) {a c : List Int} (ha : AllD b a) (hc : AllD b c) : ∀ k, nv b (a.drop k) < nv b (c.drop k) → (k % 2 = 0 → nv b a < nv b c) ∧ (k % 2 = 1 → nv b c < nv b a)
  | 0, h => by simpa using h
  | k + 1, h => by
    have r1 := at0_range hb ha k
    have r2 := at0_range hb hc k
    have e1 := nv_at b a k
    have e2 := nv_at b c k
    have h1 : (b : Int) * 1 ≤ b * (nv b (c.drop (k + 1)) - nv b (a.drop (k + 1))) := Int.mul_le_mul_of_nonneg_left (by omega) (by omega)
    rw [Int.mul_sub] at h1
    have h2 : nv b (c.drop k) < nv b (a.drop k) := by omega
    obtain ⟨i1, i2⟩ := nv_order hb hc ha k h2
    exact ⟨fun h => i2 (by omega), fun h => i1 (by omega)⟩
theorem nv_place {b : Nat} (hb : 2 ≤ b) {a c : List Int} (ha : AllD b a) (hc : AllD b c) {k : Nat} (ht : nv b (a.drop (k + 1)) = nv b (c.drop (k + 1))) (h : at0 a k < at0 c k) : (k % 2 = 0 → nv b a < nv b c) ∧ (k % 2 = 1 → nv b c < nv b a) := by
  refine nv_order hb ha hc k ?_
  have e1 := nv_at b a k
  have e2 := nv_at b c k
  rw [ht] at e1; omega
def cmpI (x y : Int) : Int := if x < y then -1 else if y < x then 1 else 0
theorem cmpI_lt {x y : Int} (h : x < y) : cmpI x y = -1 := by simp [cmpI, h]
theorem cmpI_gt {x y : Int} (h : y < x) : cmpI x y = 1 := by
  have : ¬ x < y := by omega
  simp [cmpI, h, this]
theorem cmpI_eq (x : Int) : cmpI x x = 0 := by simp [cmpI]

/-! ### range -/
def rlo (b : Nat) : Nat → Int
  | 0 => 0
  | k + 1 => if k % 2 = 0 then rlo b k else rlo b k - (b - 1) * (b : Int) ^ k
def rhi (b : Nat) : Nat → Int
  | 0 => 0
  | k + 1 => if k % 2 = 0 then rhi b k + (b - 1) * (b : Int) ^ k else rhi b k
theorem rng_step (b : Nat) : ∀ k, rlo b (k + 1) = -(b * rhi b k) ∧ rhi b (k + 1) = (b - 1) - b * rlo b k
  | 0 => by simp [rlo, rhi]
  | k + 1 => by
    obtain ⟨i1, i2⟩ := rng_step b k
    have e : (b : Int) * ((b - 1) * (b : Int) ^ k) = (b - 1) * (b : Int) ^ (k + 1) := by rw [Int.pow_succ]; ac_rfl
    rcases Nat.mod_two_eq_zero_or_one k with h | h
    · have h' : ¬ (k + 1) % 2 = 0 := by omega
      have l1 : rlo b (k + 1) = rlo b k := by rw [rlo, if_pos h]
      have l2 : rhi b (k + 1) = rhi b k + (b - 1) * (b : Int) ^ k := by rw [rhi, if_pos h]
      constructor
      · rw [rlo, if_neg h', i1, l2, Int.mul_add, e]; omega
      · rw [rhi, if_neg h', i2, l1]
    · have h' : (k + 1) % 2 = 0 := by omega
      have l1 : rlo b (k + 1) = rlo b k - (b - 1) * (b : Int) ^ k := by rw [rlo, if_neg (by omega)]
      have l2 : rhi b (k + 1) = rhi b k := by rw [rhi, if_neg (by omega)]
      constructor
      · rw [rlo, if_pos h', i1, l2]
      · rw [rhi, if_pos h', i2, l1, Int.mul_sub, e]; omega
theorem rng_sign (b : Nat) (hb : 2 ≤ b) : ∀ k, rlo b k ≤ 0 ∧ 0 ≤ rhi b k
  | 0 => by simp [rlo, rhi]
  | k + 1 => by
    obtain ⟨i1, i2⟩ := rng_sign b hb k
    have hp : 0 ≤ (b - 1) * (b : Int) ^ k := Int.mul_nonneg (by omega) (Int.le_of_lt (pow_pos' hb k))
    rw [rlo, rhi]
    split <;> constructor <;> omega
theorem rng_mono (b : Nat) (hb : 2 ≤ b) (k : Nat) : rlo b (k + 1) ≤ rlo b k ∧ rhi b k ≤ rhi b (k + 1) := by
  have hp : 0 ≤ (b - 1) * (b : Int) ^ k := Int.mul_nonneg (by omega) (Int.le_of_lt (pow_pos' hb k))
  rw [rlo, rhi]
  split <;> constructor <;> omega
theorem rng_size (b : Nat) : ∀ k, rhi b k - rlo b k + 1 = (b : Int) ^ k
  | 0 => by simp [rlo, rhi]
  | k + 1 => by
    obtain ⟨i1, i2⟩ := rng_step b k
    have ih := rng_size b k
    have e : (b : Int) * (rhi b k - rlo b k + 1) = b ^ k * b := by rw [ih, Int.mul_comm]
    rw [Int.mul_add, Int.mul_sub] at e
    rw [i1, i2, Int.pow_succ]; omega
/-- the range holds what has so many digits -/
theorem rng_iff {b : Nat} (hb : 2 ≤ b) : ∀ (k : Nat) (n : Int), (ng b n).length ≤ k ↔ rlo b k ≤ n ∧ n ≤ rhi b k
  | 0, n => by
    constructor
    · intro h
      by_cases h0 : n = 0
      · subst h0; simp [rlo, rhi]
      · rw [ng_step hb h0] at h; simp at h
    · rintro ⟨h1, h2⟩
      have : n = 0 := by simp only [rlo, rhi] at h1 h2; omega
      subst this; simp [ng_zero]
  | k + 1, n => by
    obtain ⟨e1, e2⟩ := rng_step b k
    obtain ⟨d1, d2, d3⟩ := div_facts hb n
    have ih := rng_iff hb k (-(n / b))
    have key : (rlo b (k + 1) ≤ n ∧ n ≤ rhi b (k + 1)) ↔ (rlo b k ≤ -(n / b) ∧ -(n / b) ≤ rhi b k) := by
      rw [e1, e2]
      obtain ⟨q, hq⟩ : ∃ q, q = -(n / (b : Int)) := ⟨_, rfl⟩
      have hq' : n / (b : Int) = -q := by omega
      rw [hq', Int.mul_neg] at d1
      rw [← hq]
      obtain ⟨r, hr⟩ : ∃ r, r = n % (b : Int) := ⟨_, rfl⟩
      rw [← hr] at d1 d2 d3
      constructor
      · rintro ⟨h1, h2⟩
        constructor
        · rcases ltgeZ q (rlo b k) with h | h
          · have h5 : (b : Int) * 1 ≤ b * (rlo b k - q) := Int.mul_le_mul_of_nonneg_left (by omega) (by omega)
            rw [Int.mul_sub] at h5; omega
          · exact h
        · rcases ltgeZ (rhi b k) q with h | h
          · have h5 : (b : Int) * 1 ≤ b * (q - rhi b k) := Int.mul_le_mul_of_nonneg_left (by omega) (by omega)
            rw [Int.mul_sub] at h5; omega
          · exact h
      · rintro ⟨h1, h2⟩
        have h5 : (b : Int) * rlo b k ≤ b * q := Int.mul_le_mul_of_nonneg_left h1 (by omega)
        have h6 : (b : Int) * q ≤ b * rhi b k := Int.mul_le_mul_of_nonneg_left h2 (by omega)
        omega
    rw [key, ← ih]
    by_cases h0 : n = 0
    · subst h0; simp [ng_zero]
    · rw [ng_step hb h0, List.length_cons]; omega
theorem rng_bound {b : Nat} (hb : 2 ≤ b) (hb16 : b ≤ 16) {k : Nat} (hk : k ≤ 9) : -100000000000 ≤ rlo b k ∧ rhi b k ≤ 100000000000 := by
  have h1 := rng_size b k
  have h2 := rng_sign b hb k
  have h3 : b ^ k ≤ 16 ^ 9 := Nat.le_trans (Nat.pow_le_pow_left hb16 _) (Nat.pow_le_pow_right (by omega) hk)
  have h4 : ((b ^ k : Nat) : Int) = (b : Int) ^ k := Int.natCast_pow _ _
  have h5 : (16 : Nat) ^ 9 = 68719476736 := by decide
  omega

/-- far beyond, it stays so -/
theorem nv_far {b : Nat} (hb : 2 ≤ b) (hb16 : b ≤ 16) {l : List Int} (h : AllD b l) : ∀ k, (nv b (l.drop k) < -100000000000000 ∨ 100000000000000 < nv b (l.drop k)) → (nv b l < -100000000000000 ∨ 100000000000000 < nv b l)
  | 0, hf => by simpa using hf
  | k + 1, hf => by
    refine nv_far hb hb16 h k ?_
    have r := at0_range hb h k
    rw [nv_at]
    obtain ⟨v, hv⟩ : ∃ v, v = nv b (l.drop (k + 1)) := ⟨_, rfl⟩
    rw [← hv] at hf ⊢
    rcases hf with hf | hf
    · have h5 : (b : Int) * v ≤ 2 * v := by
        have : (b : Int) * (-v) ≥ 2 * (-v) := Int.mul_le_mul_of_nonneg_right (by omega) (by omega)
        rw [Int.mul_neg] at this; omega
      omega
    · have h5 : 2 * v ≤ (b : Int) * v := Int.mul_le_mul_of_nonneg_right (by omega) (by omega)
      omega

/-! ### what the functions answer -/
def inN (n : Int) : Bool := inB n (-1000000000000) 1000000000000
theorem inN_yes {n : Int} (h : inN n = true) : -1000000000000 ≤ n ∧ n ≤ 1000000000000 := inB_yes h
theorem inN_mk {n : Int} (h1 : -1000000000000 ≤ n) (h2 : n ≤ 1000000000000) : inN n = true := by simp [inN, inB, h1, h2]
def ngI (b : Int) (n : Int) : List Int := ng b.toNat n
def nvI (b : Int) (l : List Int) : Int := nv b.toNat l
theorem ngI_nat (b : Nat) (n : Int) : ngI (b : Int) n = ng b n := by simp [ngI]
theorem nvI_nat (b : Nat) (l : List Int) : nvI (b : Int) l = nv b l := by simp [nvI]

def rNegaDigits0 (n b : Int) : List Int := if okB b && inN n then ngI b n else []
def rNegaValue1 (l : List Int) (b : Int) : Bool := okD l b && inN (nvI b l)
def rNegaValue0 (l : List Int) (b : Int) : Int := if rNegaValue1 l b then nvI b l else 0
def rNegaAdd1 (a c : List Int) (b : Int) : Bool := rNegaValue1 a b && rNegaValue1 c b && inN (nvI b a + nvI b c)
def rNegaAdd0 (a c : List Int) (b : Int) : List Int := if rNegaAdd1 a c b then ngI b (nvI b a + nvI b c) else []
def rNegaTimes1 (a c : List Int) (b : Int) : Bool := rNegaValue1 a b && rNegaValue1 c b && inN (nvI b a * nvI b c)
def rNegaTimes0 (a c : List Int) (b : Int) : List Int := if rNegaTimes1 a c b then ngI b (nvI b a * nvI b c) else []
def rNegaSign0 (l : List Int) (b : Int) : Int := if okD l b then sgnZ (nvI b l) else -2
def rNegaRange0 (k b : Int) : Int := if okB b && inB k 0 9 then rlo b.toNat k.toNat else 0
def rNegaRange1 (k b : Int) : Int := if okB b && inB k 0 9 then rhi b.toNat k.toNat else 0
def rNegaCompare0 (a c : List Int) (b : Int) : Int := if okD a b && okD c b then cmpI (nvI b a) (nvI b c) else -2

theorem rNegaDigits0_len (n b : Int) : (rNegaDigits0 n b).length ≤ 1048577 := by
  unfold rNegaDigits0; split
  · rename_i h
    simp only [Bool.and_eq_true] at h
    have h1 := okB_yes h.1; have h2 := inN_yes h.2
    have := ng_len42 (b := b.toNat) (n := n) (by omega) h2.1 h2.2
    unfold ngI; omega
  · simp
theorem okB_of_value {l : List Int} {b : Int} (h : rNegaValue1 l b = true) : 2 ≤ b ∧ b ≤ 16 := by
  simp only [rNegaValue1, Bool.and_eq_true] at h
  exact (okD_yes h.1).1
theorem rNegaAdd0_len (a c : List Int) (b : Int) : (rNegaAdd0 a c b).length ≤ 1048577 := by
  unfold rNegaAdd0; split
  · rename_i h
    simp only [rNegaAdd1, Bool.and_eq_true] at h
    have h1 := okB_of_value h.1.1; have h2 := inN_yes h.2
    have := ng_len42 (b := b.toNat) (n := nvI b a + nvI b c) (by omega) h2.1 h2.2
    unfold ngI; omega
  · simp
theorem rNegaTimes0_len (a c : List Int) (b : Int) : (rNegaTimes0 a c b).length ≤ 1048577 := by
  unfold rNegaTimes0; split
  · rename_i h
    simp only [rNegaTimes1, Bool.and_eq_true] at h
    have h1 := okB_of_value h.1.1; have h2 := inN_yes h.2
    have := ng_len42 (b := b.toNat) (n := nvI b a * nvI b c) (by omega) h2.1 h2.2
    unfold ngI; omega
  · simp
theorem pow_small {b : Nat} (hb16 : b ≤ 16) {k : Nat} (hk : k ≤ 9) : (b : Int) ^ k ≤ 68719476736 := by
  have h3 : b ^ k ≤ 16 ^ 9 := Nat.le_trans (Nat.pow_le_pow_left hb16 _) (Nat.pow_le_pow_right (by omega) hk)
  have h4 : ((b ^ k : Nat) : Int) = (b : Int) ^ k := Int.natCast_pow _ _
  have h5 : (16 : Nat) ^ 9 = 68719476736 := by decide
  omega

end Go.Proofs.Ytjdijmccpihkhaa
