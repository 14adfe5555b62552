/- Digits: plain functions: the digits of a number, the value of digits, when digits are valid. -/
import Derived.Test.YtleadjkndciniaaDoorBase
import Derived.BigQuiet
import Derived.Deep.QuietTactic
import Derived.Maps.AppendAt
set_option linter.unusedVariables false
set_option linter.unusedSimpArgs false
set_option maxRecDepth 100000
namespace Go.Proofs.YtleadjkndciniaaDoor

abbrev in64 (n : Int) : Prop := -9223372036854775808 ≤ n ∧ n ≤ 9223372036854775807

def okB (b : Int) : Bool := decide (2 ≤ b) && decide (b ≤ 16)
theorem okB_yes {b : Int} (h : okB b = true) : 2 ≤ b ∧ b ≤ 16 := by simpa [okB] using h
theorem okB_mk {b : Int} (h : 2 ≤ b ∧ b ≤ 16) : okB b = true := by simpa [okB] using h
def inB (n lo hi : Int) : Bool := decide (lo ≤ n) && decide (n ≤ hi)
theorem inB_yes {n lo hi : Int} (h : inB n lo hi = true) : lo ≤ n ∧ n ≤ hi := by simpa [inB] using h
def okN (n b : Int) : Bool := okB b && inB n 0 1000000000000
theorem okN_yes {n b : Int} (h : okN n b = true) : (2 ≤ b ∧ b ≤ 16) ∧ 0 ≤ n ∧ n ≤ 1000000000000 := by
  simp only [okN, Bool.and_eq_true] at h; exact ⟨okB_yes h.1, inB_yes h.2⟩

/-- the digits of n in base b, the least place first, at most f of them -/
def dgF (b : Nat) : Nat → Nat → List Int
  | 0, _ => []
  | f + 1, n => if n = 0 then [] else ((n % b : Nat) : Int) :: dgF b f (n / b)
def dg (b n : Nat) : List Int := dgF b n n

theorem dgF_zero (b f : Nat) : dgF b f 0 = [] := by cases f <;> rfl
theorem dgF_succ {b f n : Nat} (h : n ≠ 0) : dgF b (f + 1) n = ((n % b : Nat) : Int) :: dgF b f (n / b) := by
  simp only [dgF, if_neg h]
theorem div_lt' {b n : Nat} (hb : 2 ≤ b) (h : n ≠ 0) : n / b < n := Nat.div_lt_self (Nat.pos_of_ne_zero h) hb
theorem dgF_fuel {b : Nat} (hb : 2 ≤ b) : ∀ (f g n : Nat), n ≤ f → n ≤ g → dgF b f n = dgF b g n
  | 0, g, n, h, _ => by have : n = 0 := by omega
                        subst this; rw [dgF_zero, dgF_zero]
  | f + 1, 0, n, _, h => by have : n = 0 := by omega
                            subst this; rw [dgF_zero, dgF_zero]
  | f + 1, g + 1, n, h1, h2 => by
    by_cases h : n = 0
    · subst h; rw [dgF_zero, dgF_zero]
    · have := div_lt' hb h
      rw [dgF_succ h, dgF_succ h, dgF_fuel hb f g (n / b) (by omega) (by omega)]
theorem dg_step {b n : Nat} (hb : 2 ≤ b) (h : n ≠ 0) : dg b n = ((n % b : Nat) : Int) :: dg b (n / b) := by
  have hlt := div_lt' hb h
  obtain ⟨m, rfl⟩ : ∃ m, n = m + 1 := ⟨n - 1, by omega⟩
  rw [dg, dgF_succ h, dg, dgF_fuel hb m _ _ (by omega) (Nat.le_refl _)]
theorem dg_zero (b : Nat) : dg b 0 = [] := rfl

theorem dg_len {b : Nat} (hb : 2 ≤ b) : ∀ (k n : Nat), n < 2 ^ k → (dg b n).length ≤ k
  | 0, n, h => by
    have : n = 0 := by simpa using h
    subst this; simp [dg_zero]
  | k + 1, n, h => by
    by_cases h0 : n = 0
    · subst h0; simp [dg_zero]
    · rw [dg_step hb h0, List.length_cons]
      have h1 : n / b ≤ n / 2 := Nat.div_le_div_left hb (by omega)
      have := dg_len hb k (n / b) (by rw [Nat.pow_succ] at h; omega)
      omega
theorem dg_len40 {b n : Nat} (hb : 2 ≤ b) (hn : n ≤ 1000000000000) : (dg b n).length ≤ 40 := dg_len hb 40 n (by omega)

theorem dg_digits {b : Nat} (hb : 2 ≤ b) : ∀ (k n : Nat), n ≤ k → ∀ d ∈ dg b n, 0 ≤ d ∧ d ≤ (b : Int) - 1
  | 0, n, h, d, hd => by
    have : n = 0 := by omega
    subst this; simp [dg_zero] at hd
  | k + 1, n, h, d, hd => by
    by_cases h0 : n = 0
    · subst h0; simp [dg_zero] at hd
    · rw [dg_step hb h0] at hd
      rcases List.mem_cons.1 hd with rfl | hd
      · have := Nat.mod_lt n (show 0 < b by omega); omega
      · exact dg_digits hb k (n / b) (by have := div_lt' hb h0; omega) d hd

/-- the value of digits -/
def hv (b : Int) (l : List Int) : Int := l.foldr (fun d a => d + b * a) 0
theorem hv_nil (b : Int) : hv b [] = 0 := rfl
theorem hv_cons (b d : Int) (l : List Int) : hv b (d :: l) = d + b * hv b l := rfl

theorem hv_nonneg {b : Int} (hb : 0 ≤ b) : ∀ (l : List Int), (∀ d ∈ l, 0 ≤ d) → 0 ≤ hv b l
  | [], _ => by simp [hv_nil]
  | d :: l, h => by
    have := hv_nonneg hb l (fun x hx => h x (by simp [hx]))
    have hd := h d (by simp)
    rw [hv_cons]
    have := Int.mul_nonneg hb this
    omega
theorem hv_drop {b : Int} {l : List Int} {k : Nat} (h : k < l.length) : hv b (l.drop k) = l[k] + b * hv b (l.drop (k + 1)) := by
  rw [List.drop_eq_getElem_cons h, hv_cons]
theorem hv_drop_le {b : Int} (hb : 1 ≤ b) (l : List Int) (hl : ∀ d ∈ l, 0 ≤ d) : ∀ k, k ≤ l.length → hv b (l.drop k) ≤ hv b l
  | 0, _ => by simp
  | k + 1, h => by
    have ih := hv_drop_le hb l hl k (by omega)
    have e := hv_drop (b := b) (l := l) (k := k) (by omega)
    have h0 := hv_nonneg (b := b) (by omega) (l.drop (k + 1)) (fun d hd => hl d (List.mem_of_mem_drop hd))
    have hd := hl l[k] (List.getElem_mem (by omega))
    have : hv b (l.drop (k + 1)) ≤ b * hv b (l.drop (k + 1)) := by
      have := Int.mul_le_mul_of_nonneg_right hb h0
      omega
    omega

/-- are these digits in base b -/
def okD (l : List Int) (b : Int) : Bool := okB b && decide (l.length ≤ 60) && decide (∀ d ∈ l, 0 ≤ d ∧ d ≤ b - 1) && decide (l = [] ∨ l.getLast? ≠ some 0)
theorem okD_yes {l : List Int} {b : Int} (h : okD l b = true) : (2 ≤ b ∧ b ≤ 16) ∧ l.length ≤ 60 ∧ (∀ d ∈ l, 0 ≤ d ∧ d ≤ b - 1) ∧ (l = [] ∨ l.getLast? ≠ some 0) := by
  simp only [okD, Bool.and_eq_true, decide_eq_true_eq] at h
  exact ⟨okB_yes h.1.1.1, h.1.1.2, h.1.2, h.2⟩

/-! ### what the functions answer -/
def rBaseOk0 (b : Int) : Bool := okB b
def rDigitsOk0 (l : List Int) (b : Int) : Bool := okD l b
def rDigitsOf0 (n b : Int) : List Int := if okN n b then dg b.toNat n.toNat else []
theorem rDigitsOf0_len (n b : Int) : (rDigitsOf0 n b).length ≤ 1048577 := by
  unfold rDigitsOf0
  split
  · rename_i h
    obtain ⟨⟨h1, h2⟩, h3, h4⟩ := okN_yes h
    have := dg_len40 (b := b.toNat) (n := n.toNat) (by omega) (by omega)
    omega
  · simp
def capV (x : Int) : Int := if x ≤ 1000000000000 then x else -1
def rValueOf0 (l : List Int) (b : Int) : Int := if okD l b then if hv b l ≤ 1000000000000 then hv b l else 0 else 0
def rValueOf1 (l : List Int) (b : Int) : Bool := okD l b && decide (hv b l ≤ 1000000000000)
def rCountDigits0 (n b : Int) : Int := if okN n b then ((dg b.toNat n.toNat).length : Int) else -1
def rDigitAt0 (n b k : Int) : Int := if okN n b && inB k 0 59 then (dg b.toNat n.toNat).getD k.toNat 0 else -1
def rDigitSum0 (n b : Int) : Int := if okN n b then (dg b.toNat n.toNat).sum else -1
def rReverseNumber0 (n b : Int) : Int := if okN n b then if hv b (dg b.toNat n.toNat).reverse ≤ 1000000000000 then hv b (dg b.toNat n.toNat).reverse else 0 else 0
def rReverseNumber1 (n b : Int) : Bool := okN n b && decide (hv b (dg b.toNat n.toNat).reverse ≤ 1000000000000)

end Go.Proofs.YtleadjkndciniaaDoor
