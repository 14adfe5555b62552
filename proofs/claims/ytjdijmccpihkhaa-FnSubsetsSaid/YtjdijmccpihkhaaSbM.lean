/- Binomial places and subsets: plain functions and facts: binomial coefficients, ranks, the subset at a rank, masks, other subsets. -/
import Derived.Test.YtjdijmccpihkhaaDgM
import Derived.Test.YtjdijmccpihkhaaMpM2
import Derived.Test.YtjdijmccpihkhaaMpSpec
set_option linter.unusedVariables false
set_option linter.unusedSimpArgs false
set_option maxRecDepth 100000
namespace Go.Proofs.Ytjdijmccpihkhaa

/-! ### binomial coefficients -/
def bn : Nat → Nat → Nat
  | _, 0 => 1
  | 0, _ + 1 => 0
  | n + 1, k + 1 => bn n k + bn n (k + 1)
theorem bn_0 (n : Nat) : bn n 0 = 1 := by cases n <;> rfl
theorem bn_s (n k : Nat) : bn (n + 1) (k + 1) = bn n k + bn n (k + 1) := rfl
theorem bn_zero : ∀ {n k : Nat}, n < k → bn n k = 0
  | 0, k + 1, _ => rfl
  | n + 1, k + 1, h => by rw [bn_s, bn_zero (by omega), bn_zero (by omega)]
  | _, 0, h => by omega
theorem bn_mul : ∀ n k : Nat, (k + 1) * bn (n + 1) (k + 1) = (n + 1) * bn n k
  | 0, 0 => rfl
  | 0, k + 1 => by rw [bn_s, bn_zero (show 0 < k + 1 by omega), bn_zero (show 0 < k + 1 + 1 by omega)]; simp
  | n + 1, 0 => by
    have ih := bn_mul n 0
    rw [bn_s]
    simp only [bn_0, Nat.zero_add, Nat.one_mul, Nat.mul_one] at ih ⊢
    omega
  | n + 1, k + 1 => by
    have h1 := bn_mul n k
    have h2 := bn_mul n (k + 1)
    rw [bn_s (n + 1) (k + 1), Nat.mul_add, h2, Nat.add_mul (k + 1) 1, h1, Nat.one_mul, Nat.add_mul (n + 1) 1, Nat.one_mul, bn_s n k, Nat.mul_add]
    rw [bn_s n k] at h1
    omega
theorem bn_le : ∀ n k : Nat, bn n k ≤ 2 ^ n
  | 0, 0 => by decide
  | 0, _ + 1 => by simp [bn]
  | n + 1, 0 => by rw [bn_0]; exact Nat.one_le_two_pow
  | n + 1, k + 1 => by
    have := bn_le n k
    have := bn_le n (k + 1)
    rw [bn_s, Nat.pow_succ]; omega
theorem bn_step (n k : Nat) : bn n k ≤ bn (n + 1) k := by
  cases k with
  | zero => rw [bn_0, bn_0]; exact Nat.le_refl _
  | succ k => rw [bn_s]; omega
theorem bn_mono {n m : Nat} (h : n ≤ m) (k : Nat) : bn n k ≤ bn m k := by
  induction h with
  | refl => exact Nat.le_refl _
  | step _ ih => exact Nat.le_trans ih (bn_step _ k)
theorem bn_pos : ∀ {n k : Nat}, k ≤ n → 1 ≤ bn n k
  | n, 0, _ => by rw [bn_0]; exact Nat.le_refl _
  | n + 1, k + 1, h => by
    have := bn_pos (n := n) (k := k) (by omega)
    rw [bn_s]; omega
theorem bn_self (n : Nat) : bn n n = 1 := by
  induction n with
  | zero => rfl
  | succ n ih => rw [bn_s, ih, bn_zero (by omega)]
theorem bn_symm : ∀ s a b : Nat, a + b = s → bn (a + b) a = bn (a + b) b
  | _, 0, b, _ => by rw [bn_0, Nat.zero_add, bn_self]
  | _, a + 1, 0, _ => by rw [Nat.add_zero, bn_self, bn_0]
  | s + 1, a + 1, b + 1, h => by
    have h1 := bn_symm s a (b + 1) (by omega)
    have h2 := bn_symm s (a + 1) b (by omega)
    rw [show a + 1 + (b + 1) = (a + b + 1) + 1 by omega, bn_s (a + b + 1) a, bn_s (a + b + 1) b]
    rw [show a + (b + 1) = a + b + 1 by omega] at h1
    rw [show a + 1 + b = a + b + 1 by omega] at h2
    omega
/-- one step of the product -/
theorem bn_next {n k i : Nat} (hk : k ≤ n) (hi : i < k) : bn (n - k + i) i * (n - k + (i + 1)) / (i + 1) = bn (n - k + (i + 1)) (i + 1) := by
  have h := bn_mul (n - k + i) i
  rw [show n - k + (i + 1) = n - k + i + 1 by omega]
  rw [Nat.mul_comm, ← h, Nat.mul_div_cancel_left _ (by omega)]

/-! ### ranks, by descending lists -/
def DescB : List Int → Nat → Prop
  | [], _ => True
  | x :: D, m => 0 ≤ x ∧ x.toNat < m ∧ DescB D x.toNat
theorem descB_mono : ∀ {D : List Int} {m n : Nat}, DescB D m → m ≤ n → DescB D n
  | [], _, _, _, _ => trivial
  | x :: D, m, n, h, hn => ⟨h.1, by have := h.2.1; omega, h.2.2⟩
def rkD : List Int → Nat
  | [] => 0
  | x :: D => bn x.toNat (D.length + 1) + rkD D
def mkD : List Int → Nat
  | [] => 0
  | x :: D => 2 ^ x.toNat + mkD D
theorem rkD_lt : ∀ {D : List Int} {m : Nat}, DescB D m → rkD D < bn m D.length
  | [], m, _ => by rw [rkD, List.length_nil, bn_0]; omega
  | x :: D, m, h => by
    have ih := rkD_lt h.2.2
    have h1 := bn_s x.toNat D.length
    have h2 := bn_mono (show x.toNat + 1 ≤ m from h.2.1) (D.length + 1)
    rw [rkD, List.length_cons]; omega
theorem mkD_lt : ∀ {D : List Int} {m : Nat}, DescB D m → mkD D < 2 ^ m
  | [], m, _ => Nat.two_pow_pos m
  | x :: D, m, h => by
    have ih := mkD_lt h.2.2
    have h2 : 2 ^ (x.toNat + 1) ≤ 2 ^ m := Nat.pow_le_pow_right (by omega) h.2.1
    rw [Nat.pow_succ] at h2
    rw [mkD]; omega
theorem mkD_mono : ∀ {D E : List Int} {m : Nat}, DescB D m → DescB E m → D.length = E.length → rkD D < rkD E → mkD D < mkD E
  | [], [], _, _, _, _, h => by simp [rkD] at h
  | x :: D, y :: E, m, h1, h2, hl, h => by
    have hl' : D.length = E.length := by simpa using hl
    have a1 := rkD_lt h1.2.2
    have a2 := rkD_lt h2.2.2
    have m1 := mkD_lt h1.2.2
    rw [rkD, rkD, hl'] at h
    rw [hl'] at a1
    rw [mkD, mkD]
    rcases Nat.lt_trichotomy x.toNat y.toNat with hxy | hxy | hxy
    · have h3 : 2 ^ (x.toNat + 1) ≤ 2 ^ y.toNat := Nat.pow_le_pow_right (by omega) hxy
      rw [Nat.pow_succ] at h3
      omega
    · have hlt : rkD D < rkD E := by rw [hxy] at h; omega
      have := mkD_mono h1.2.2 (by rw [hxy]; exact h2.2.2) hl' hlt
      rw [hxy]; omega
    · have h3 := bn_s y.toNat E.length
      have h4 := bn_mono (show y.toNat + 1 ≤ x.toNat from hxy) (E.length + 1)
      omega
  | [], _ :: _, _, _, _, hl, _ => by simp at hl
  | _ :: _, [], _, _, _, hl, _ => by simp at hl

/-- the greatest x up to a limit whose coefficient is not more -/
def tpD (i n : Nat) : Nat → Nat
  | 0 => 0
  | x + 1 => if bn (x + 1) i ≤ n then x + 1 else tpD i n x
theorem tpD_le (i n : Nat) : ∀ L, tpD i n L ≤ L
  | 0 => Nat.le_refl _
  | x + 1 => by
    rw [tpD]; split
    · exact Nat.le_refl _
    · have := tpD_le i n x; omega
theorem tpD_ok {i n : Nat} (hi : 1 ≤ i) : ∀ L, bn (tpD i n L) i ≤ n
  | 0 => by rw [tpD, bn_zero (by omega)]; omega
  | x + 1 => by
    rw [tpD]; split
    · assumption
    · exact tpD_ok hi x
theorem tpD_top (i n : Nat) : ∀ L x, tpD i n L < x → x ≤ L → n < bn x i
  | 0, x, h, h2 => by omega
  | L + 1, x, h, h2 => by
    rw [tpD] at h
    split at h
    · omega
    · rename_i hn
      rcases Nat.lt_or_ge x (L + 1) with hx | hx
      · exact tpD_top i n L x h (by omega)
      · have : x = L + 1 := by omega
        rw [this]; omega
theorem tpD_eq {i n L x : Nat} (hi : 1 ≤ i) (hx : x ≤ L) (h1 : bn x i ≤ n) (h2 : n < bn (x + 1) i) : tpD i n L = x := by
  have a := tpD_ok (n := n) hi L
  rcases Nat.lt_trichotomy (tpD i n L) x with h | h | h
  · have := tpD_top i n L x h hx; omega
  · exact h
  · have := bn_mono (show x + 1 ≤ tpD i n L from h) i; omega
def tp (i n : Nat) : Nat := tpD i n 19
/-- the subset at a rank, its greatest number first -/
def gr : Nat → Nat → List Int
  | 0, _ => []
  | k + 1, n => (tp (k + 1) n : Int) :: gr k (n - bn (tp (k + 1) n) (k + 1))
theorem gr_len : ∀ k n, (gr k n).length = k
  | 0, _ => rfl
  | k + 1, n => by rw [gr, List.length_cons, gr_len]
theorem tp_next {k n m : Nat} (hm : m ≤ 20) (h : n < bn m (k + 1)) : tp (k + 1) n < m ∧ bn (tp (k + 1) n) (k + 1) ≤ n ∧ n - bn (tp (k + 1) n) (k + 1) < bn (tp (k + 1) n) k := by
  have h1 := tpD_ok (i := k + 1) (n := n) (by omega) 19
  have hle := tpD_le (k + 1) n 19
  have hlt : tp (k + 1) n < m := by
    rcases Nat.lt_or_ge (tp (k + 1) n) m with h' | h'
    · exact h'
    · have := bn_mono h' (k + 1)
      unfold tp at this; omega
  have h2 : n < bn (tp (k + 1) n + 1) (k + 1) := by
    rcases Nat.lt_or_ge (tp (k + 1) n) 19 with h' | h'
    · exact tpD_top (k + 1) n 19 _ (by unfold tp; omega) (by omega)
    · have := bn_mono (show m ≤ tp (k + 1) n + 1 by omega) (k + 1)
      omega
  rw [bn_s] at h2
  refine ⟨hlt, h1, ?_⟩
  unfold tp at h2 ⊢; omega
theorem gr_desc : ∀ {k n m : Nat}, m ≤ 20 → n < bn m k → DescB (gr k n) m ∧ rkD (gr k n) = n
  | 0, n, m, _, h => by
    rw [bn_0] at h
    exact ⟨trivial, by rw [gr, rkD]; omega⟩
  | k + 1, n, m, hm, h => by
    obtain ⟨h1, h2, h3⟩ := tp_next hm h
    obtain ⟨i1, i2⟩ := gr_desc (k := k) (m := tp (k + 1) n) (by omega) h3
    refine ⟨⟨by omega, by rw [Int.toNat_natCast]; exact h1, by rw [Int.toNat_natCast]; exact i1⟩, ?_⟩
    rw [gr, rkD, i2, gr_len, Int.toNat_natCast]; omega
theorem gr_rk : ∀ {D : List Int} {m : Nat}, m ≤ 20 → DescB D m → gr D.length (rkD D) = D
  | [], _, _, _ => rfl
  | x :: D, m, hm, h => by
    have a := rkD_lt h.2.2
    have hx := h.2.1
    have e : tp (D.length + 1) (bn x.toNat (D.length + 1) + rkD D) = x.toNat := by
      refine tpD_eq (by omega) (by omega) (by omega) ?_
      rw [bn_s]; omega
    rw [List.length_cons, rkD, gr, e, Nat.add_sub_cancel_left, gr_rk (m := x.toNat) (by omega) h.2.2, Int.toNat_of_nonneg h.1]

/-! ### ascending lists -/
/-- a subset of the numbers from 0 up to m -/
def okS (l : List Int) (m : Int) : Bool := inB m 0 20 && (decide (∀ x ∈ l, 0 ≤ x ∧ x ≤ m - 1) && decide (Asc l))
theorem okS_yes {l : List Int} {m : Int} (h : okS l m = true) : (0 ≤ m ∧ m ≤ 20) ∧ (∀ x ∈ l, 0 ≤ x ∧ x ≤ m - 1) ∧ Asc l := by
  simp only [okS, Bool.and_eq_true, decide_eq_true_eq] at h
  exact ⟨inB_yes h.1, h.2.1, h.2.2⟩
theorem okS_of {l : List Int} {m : Int} (h0 : 0 ≤ m) (h1 : m ≤ 20) (h2 : ∀ x ∈ l, 0 ≤ x ∧ x ≤ m - 1) (h3 : Asc l) : okS l m = true := by
  simp only [okS, Bool.and_eq_true, decide_eq_true_eq]
  exact ⟨by simp [inB, h0, h1], h2, h3⟩
theorem asc_snoc {l : List Int} {x : Int} : Asc (l ++ [x]) ↔ Asc l ∧ ∀ y ∈ l, y < x := by
  unfold Asc
  rw [List.pairwise_append]
  simp
theorem descB_rev : ∀ {D : List Int} {m : Nat}, DescB D m ↔ Asc D.reverse ∧ ∀ x ∈ D, 0 ≤ x ∧ x.toNat < m
  | [], m => by simp [DescB, Asc]
  | x :: D, m => by
    rw [DescB, descB_rev, List.reverse_cons, asc_snoc]
    constructor
    · rintro ⟨h0, h1, h2, h3⟩
      refine ⟨⟨h2, fun y hy => ?_⟩, fun y hy => ?_⟩
      · have := h3 y (List.mem_reverse.1 hy); omega
      · rcases List.mem_cons.1 hy with rfl | hy
        · exact ⟨h0, h1⟩
        · have := h3 y hy; omega
    · rintro ⟨⟨h2, h3⟩, h4⟩
      have h0 := h4 x (by simp)
      refine ⟨h0.1, h0.2, h2, fun y hy => ?_⟩
      have h5 := h3 y (List.mem_reverse.2 hy)
      have h6 := h4 y (by simp [hy])
      omega
theorem okS_desc {l : List Int} {m : Nat} (h : okS l m = true) : DescB l.reverse m := by
  obtain ⟨_, h2, h3⟩ := okS_yes h
  refine descB_rev.2 ⟨by rw [List.reverse_reverse]; exact h3, fun x hx => ?_⟩
  have := h2 x (List.mem_reverse.1 hx)
  omega
theorem desc_okS {D : List Int} {m : Nat} (hm : m ≤ 20) (h : DescB D m) : okS D.reverse m = true := by
  obtain ⟨h1, h2⟩ := descB_rev.1 h
  exact okS_of (by omega) (by omega) (fun x hx => by have := h2 x (List.mem_reverse.1 hx); omega) h1
theorem descB_len : ∀ {D : List Int} {m : Nat}, DescB D m → D.length ≤ m
  | [], _, _ => Nat.zero_le _
  | x :: D, m, h => by have := descB_len h.2.2; have := h.2.1; rw [List.length_cons]; omega
theorem okS_len {l : List Int} {m : Nat} (h : okS l m = true) : l.length ≤ m := by
  have := descB_len (okS_desc h)
  rwa [List.length_reverse] at this

/-- the rank, from the first number on -/
def rk (l : List Int) : Nat := rkD l.reverse
theorem rk_snoc (l : List Int) (x : Int) : rk (l ++ [x]) = rk l + bn x.toNat (l.length + 1) := by
  unfold rk
  rw [List.reverse_append, List.reverse_singleton, List.singleton_append, rkD, List.length_reverse]; omega
/-- the mask -/
def mk (l : List Int) : Nat := (l.map fun x => 2 ^ x.toNat).sum
theorem mk_snoc (l : List Int) (x : Int) : mk (l ++ [x]) = mk l + 2 ^ x.toNat := by simp [mk]
theorem mk_append (a b : List Int) : mk (a ++ b) = mk a + mk b := by simp [mk]
theorem mkD_mk : ∀ D, mkD D = mk D.reverse
  | [] => rfl
  | x :: D => by rw [mkD, List.reverse_cons, mk_snoc, mkD_mk]; omega
theorem mk_lt {l : List Int} {m : Nat} (h : okS l m = true) : mk l < 2 ^ m := by
  have := mkD_lt (okS_desc h)
  rwa [mkD_mk, List.reverse_reverse] at this

theorem asc_ext : ∀ {a b : List Int}, Asc a → Asc b → (∀ x, x ∈ a ↔ x ∈ b) → a = b
  | [], [], _, _, _ => rfl
  | [], y :: b, _, _, h => by have := (h y).2 (by simp); simp at this
  | x :: a, [], _, _, h => by have := (h x).1 (by simp); simp at this
  | x :: a, y :: b, ha, hb, h => by
    have hx := (h x).1 (by simp)
    have hy := (h y).2 (by simp)
    have e : x = y := by
      rcases List.mem_cons.1 hx with e | hx
      · exact e
      · rcases List.mem_cons.1 hy with e | hy
        · exact e.symm
        · have h1 := List.rel_of_pairwise_cons hb hx
          have h2 := List.rel_of_pairwise_cons ha hy
          omega
    subst e
    rw [asc_ext (List.Pairwise.of_cons ha) (List.Pairwise.of_cons hb) (fun z => ?_)]
    constructor
    · intro hz
      have h1 := List.rel_of_pairwise_cons ha hz
      rcases List.mem_cons.1 ((h z).1 (by simp [hz])) with e | h2
      · omega
      · exact h2
    · intro hz
      have h1 := List.rel_of_pairwise_cons hb hz
      rcases List.mem_cons.1 ((h z).2 (by simp [hz])) with e | h2
      · omega
      · exact h2

/-- a bit of a mask -/
theorem bit_mkD : ∀ {D : List Int} {m j : Nat}, DescB D m → (mkD D / 2 ^ j % 2 = if (j : Int) ∈ D then 1 else 0)
  | [], m, j, _ => by simp [mkD]
  | x :: D, m, j, h => by
    have hr := mkD_lt h.2.2
    have ih := bit_mkD (j := j) h.2.2
    have hlt := (descB_rev.1 h.2.2).2
    rw [mkD]
    rcases Nat.lt_trichotomy j x.toNat with hj | hj | hj
    · obtain ⟨d, hd⟩ : ∃ d, x.toNat = j + (d + 1) := ⟨x.toNat - j - 1, by omega⟩
      have hne : (j : Int) ≠ x := by omega
      have e : (2 ^ x.toNat + mkD D) / 2 ^ j = 2 * 2 ^ d + mkD D / 2 ^ j := by
        rw [hd, Nat.pow_add, Nat.pow_succ, Nat.mul_add_div (Nat.two_pow_pos j)]; omega
      rw [e, Nat.mul_add_mod, ih]
      simp [hne]
    · have hm : (j : Int) ∈ x :: D := by have := h.1; rw [show (j : Int) = x by omega]; simp
      rw [if_pos hm, hj]
      have e : (2 ^ x.toNat + mkD D) / 2 ^ x.toNat = 1 := by
        rw [Nat.add_div_left _ (Nat.two_pow_pos _), Nat.div_eq_of_lt hr]
      rw [e]
    · have hm : ¬ (j : Int) ∈ x :: D := fun hm => by
        rcases List.mem_cons.1 hm with e | hm
        · omega
        · have := hlt _ hm; omega
      rw [if_neg hm]
      have h2 : 2 ^ (x.toNat + 1) ≤ 2 ^ j := Nat.pow_le_pow_right (by omega) hj
      rw [Nat.pow_succ] at h2
      rw [Nat.div_eq_of_lt (by omega)]
theorem bit_mk {l : List Int} {m j : Nat} (h : okS l m = true) : (mk l / 2 ^ j % 2 = 1) ↔ (j : Int) ∈ l := by
  have := bit_mkD (j := j) (okS_desc h)
  rw [mkD_mk, List.reverse_reverse] at this
  rw [this]
  simp only [List.mem_reverse]
  split <;> simp_all

/-- the subset of a mask -/
def so (n : Nat) : List Int := (iot 20).filter fun x => decide (n / 2 ^ x.toNat % 2 = 1)
/-- the numbers from 0 up to m that are not in a list -/
def oth (l : List Int) (m : Nat) : List Int := (iot m).filter fun x => decide (x ∉ l)
theorem iot_memI {m : Nat} {x : Int} : x ∈ iot m ↔ 0 ≤ x ∧ x ≤ (m : Int) - 1 := by
  unfold iot
  rw [List.mem_map]
  constructor
  · rintro ⟨k, hk, rfl⟩
    have := List.mem_range.1 hk; omega
  · exact fun h => ⟨x.toNat, List.mem_range.2 (by omega), by omega⟩
theorem iot_ascI (m : Nat) : Asc (iot m) := by
  unfold Asc iot
  rw [List.pairwise_map]
  exact (List.pairwise_lt_range (n := m)).imp (fun h => by omega)
theorem so_mk {l : List Int} (h : okS l 20 = true) : so (mk l) = l := by
  obtain ⟨_, h2, h3⟩ := okS_yes h
  refine asc_ext ((iot_ascI 20).filter _) h3 (fun x => ?_)
  unfold so
  rw [List.mem_filter, iot_memI, decide_eq_true_eq, bit_mk (m := 20) h]
  constructor
  · rintro ⟨h4, h5⟩
    rwa [Int.toNat_of_nonneg h4.1] at h5
  · intro h4
    have h5 := h2 x h4
    exact ⟨by omega, by rwa [Int.toNat_of_nonneg h5.1]⟩
theorem oth_ok {l : List Int} {m : Nat} (hm : m ≤ 20) : okS (oth l m) m = true :=
  okS_of (by omega) (by omega) (fun x hx => iot_memI.1 (List.mem_filter.1 hx).1) ((iot_ascI m).filter _)
theorem oth_oth {l : List Int} {m : Nat} (h : okS l m = true) : oth (oth l m) m = l := by
  obtain ⟨_, h2, h3⟩ := okS_yes h
  refine asc_ext ((iot_ascI m).filter _) h3 (fun x => ?_)
  unfold oth
  rw [List.mem_filter, iot_memI, decide_eq_true_eq, List.mem_filter, iot_memI, decide_eq_true_eq]
  constructor
  · rintro ⟨h4, h5⟩
    by_cases hx : x ∈ l
    · exact hx
    · exact absurd ⟨h4, hx⟩ h5
  · exact fun hx => ⟨h2 x hx, fun h6 => h6.2 hx⟩
theorem filter_in {l : List Int} {m : Nat} (h : okS l m = true) : (iot m).filter (fun x => decide (x ∈ l)) = l := by
  obtain ⟨_, h2, h3⟩ := okS_yes h
  refine asc_ext ((iot_ascI m).filter _) h3 (fun x => ?_)
  rw [List.mem_filter, iot_memI, decide_eq_true_eq]
  exact ⟨fun h => h.2, fun hx => ⟨h2 x hx, hx⟩⟩
theorem part_len (p : Int → Prop) [DecidablePred p] : ∀ L : List Int, (L.filter fun x => decide (p x)).length + (L.filter fun x => decide (¬ p x)).length = L.length
  | [] => rfl
  | x :: L => by
    have ih := part_len p L
    by_cases h : p x <;> simp [h] at ih ⊢ <;> omega
theorem part_mk (p : Int → Prop) [DecidablePred p] : ∀ L : List Int, mk (L.filter fun x => decide (p x)) + mk (L.filter fun x => decide (¬ p x)) = mk L
  | [] => rfl
  | x :: L => by
    have ih := part_mk p L
    have hc : ∀ (y : Int) (l : List Int), mk (y :: l) = 2 ^ y.toNat + mk l := fun y l => by simp [mk]
    by_cases h : p x
    · rw [List.filter_cons_of_pos (by simpa using h), List.filter_cons_of_neg (by simpa using h), hc, hc]; omega
    · rw [List.filter_cons_of_neg (by simpa using h), List.filter_cons_of_pos (by simpa using h), hc, hc]; omega
theorem oth_len {l : List Int} {m : Nat} (h : okS l m = true) : (oth l m).length + l.length = m := by
  have h1 := part_len (fun x => x ∈ l) (iot m)
  rw [filter_in h, iot_lenI] at h1
  unfold oth; omega
where iot_lenI {m : Nat} : (iot m).length = m := by simp [iot]
theorem oth_mk {l : List Int} (h : okS l 20 = true) : mk l + mk (oth l 20) = 1048575 := by
  have h1 := part_mk (fun x => x ∈ l) (iot 20)
  rw [filter_in (m := 20) h] at h1
  have h2 : mk (iot 20) = 1048575 := by decide
  unfold oth; omega

/-! ### the bits of a mask -/
theorem hv_bits (f : Nat → Int) : ∀ (n s : Nat), 2 ^ s * hv 2 ((List.range' s n).map f) = ((List.range' s n).map fun j => f j * 2 ^ j).sum
  | 0, s => by simp [hv]
  | n + 1, s => by
    have ih := hv_bits f n (s + 1)
    rw [List.range'_succ, List.map_cons, List.map_cons, List.sum_cons, hv_cons, ← ih, Int.mul_add, Int.pow_succ, Int.mul_comm (f s), Int.mul_assoc]
def bitsL (l : List Int) : List Int := (List.range' 0 20).map fun j : Nat => if (j : Int) ∈ l then 1 else 0
theorem sum_map_add (f g : Nat → Int) : ∀ L : List Nat, (L.map fun j => f j + g j).sum = (L.map f).sum + (L.map g).sum
  | [] => rfl
  | x :: L => by
    have ih := sum_map_add f g L
    simp only [List.map_cons, List.sum_cons] at ih ⊢; omega
theorem zsum : ∀ L : List Nat, (L.map fun _ => (0 : Int)).sum = 0
  | [] => rfl
  | x :: L => by rw [List.map_cons, List.sum_cons, zsum L]; rfl
theorem sum_one (w : Nat → Int) (x : Nat) : ∀ (n s : Nat), s ≤ x → x < s + n → ((List.range' s n).map fun j => if j = x then w j else 0).sum = w x
  | 0, s, h1, h2 => by omega
  | n + 1, s, h1, h2 => by
    rw [List.range'_succ, List.map_cons, List.sum_cons]
    by_cases h : s = x
    · subst h
      have hz : ((List.range' (s + 1) n).map fun j => if j = s then w j else 0).sum = 0 := by
        have : ((List.range' (s + 1) n).map fun j => if j = s then w j else 0) = (List.range' (s + 1) n).map fun _ => (0 : Int) := by
          refine List.map_congr_left (fun j hj => ?_)
          have := List.mem_range'_1.1 hj
          rw [if_neg (by omega)]
        rw [this, zsum]
      rw [hz, if_pos rfl]; omega
    · rw [if_neg h, sum_one w x n (s + 1) (by omega) (by omega)]; omega
theorem sum_bits (w : Nat → Int) : ∀ {D : List Int} {m : Nat}, DescB D m → m ≤ 20 → ((List.range' 0 20).map fun j : Nat => if (j : Int) ∈ D then w j else 0).sum = (D.map fun x => w x.toNat).sum
  | [], _, _, _ => by simp [zsum]
  | x :: D, m, h, hm => by
    have ih := sum_bits w (D := D) (m := x.toNat) h.2.2 (by have := h.2.1; omega)
    have hlt := (descB_rev.1 h.2.2).2
    have e : ((List.range' 0 20).map fun j : Nat => if (j : Int) ∈ x :: D then w j else 0) = (List.range' 0 20).map fun j : Nat => (if j = x.toNat then w j else 0) + (if (j : Int) ∈ D then w j else 0) := by
      refine List.map_congr_left (fun j _ => ?_)
      by_cases hj : j = x.toNat
      · have hn : ¬ (j : Int) ∈ D := fun hm => by have := hlt _ hm; omega
        have hp : (j : Int) ∈ x :: D := by have := h.1; rw [show (j : Int) = x by omega]; simp
        rw [if_pos hp, if_pos hj, if_neg hn]; omega
      · have hne : (j : Int) ≠ x := by have := h.1; omega
        rw [if_neg hj]
        simp [hne]
    rw [e, sum_map_add, ih, sum_one w x.toNat 20 0 (by omega) (by have := h.2.1; omega), List.map_cons, List.sum_cons]
theorem bits_hv {l : List Int} (h : okS l 20 = true) : hv 2 (bitsL l) = mk l := by
  have h1 := hv_bits (fun j : Nat => if (j : Int) ∈ l then 1 else 0) 20 0
  have h2 := sum_bits (fun j => 2 ^ j) (okS_desc (m := 20) h) (Nat.le_refl _)
  have e : ((List.range' 0 20).map fun j : Nat => (if (j : Int) ∈ l then (1 : Int) else 0) * 2 ^ j) = (List.range' 0 20).map fun j : Nat => if (j : Int) ∈ l.reverse then (2 : Int) ^ j else 0 := by
    refine List.map_congr_left (fun j _ => ?_)
    simp only [List.mem_reverse]
    split <;> simp
  rw [e, h2] at h1
  have h3 : (l.reverse.map fun x => (2 : Int) ^ x.toNat).sum = mk l := by
    rw [← List.reverse_reverse l, ← mkD_mk, List.reverse_reverse]
    generalize l.reverse = D
    induction D with
    | nil => rfl
    | cons x D ih => rw [List.map_cons, List.sum_cons, ih, mkD]; simp
  rw [h3] at h1
  unfold bitsL
  simpa using h1
theorem bits_sum {l : List Int} (h : okS l 20 = true) : (bitsL l).sum = l.length := by
  have h2 := sum_bits (fun _ => 1) (okS_desc (m := 20) h) (Nat.le_refl _)
  simp only [List.mem_reverse] at h2
  unfold bitsL
  rw [h2]
  have : ∀ L : List Int, (L.map fun _ => (1 : Int)).sum = L.length := fun L => by
    induction L with
    | nil => rfl
    | cons x L ih => rw [List.map_cons, List.sum_cons, ih, List.length_cons]; omega
  rw [this, List.length_reverse]
theorem mk_dsum {l : List Int} (h : okS l 20 = true) : (dg 2 (mk l)).sum = l.length := by
  have hA : AllD 2 (bitsL l) := fun d hd => by
    unfold bitsL at hd
    obtain ⟨j, _, rfl⟩ := List.mem_map.1 hd
    split <;> simp
  have h1 := dg_hv_sum (b := 2) (by omega) hA
  have e : hv ((2 : Nat) : Int) (bitsL l) = mk l := bits_hv h
  rw [e, Int.toNat_natCast, bits_sum h] at h1
  exact h1

end Go.Proofs.Ytjdijmccpihkhaa
