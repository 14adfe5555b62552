/- Gray codes, plain: codes of numbers, flips, digits, cycles. -/
import Derived.Test.YtleadjkndciniaaDoorBase
import Derived.BigQuiet
import Derived.Deep.QuietTactic
import Derived.Maps.AppendAt
set_option linter.unusedVariables false
set_option linter.unusedSimpArgs false
namespace Go.Proofs.YtleadjkndciniaaDoor

/-! ### bits of integers -/
theorem xor_i64 (a b : Nat) (ha : a < 9223372036854775808) (hb : b < 9223372036854775808) : bits .xor .i64 (a : Int) (b : Int) = ((a ^^^ b : Nat) : Int) := by
  have hx : a ^^^ b < 2 ^ 63 := Nat.xor_lt_two_pow (by omega) (by omega)
  have h1 : (BitVec.ofInt 64 (a : Int)).toNat = a := by rw [BitVec.toNat_ofInt]; omega
  have h2 : (BitVec.ofInt 64 (b : Int)).toNat = b := by rw [BitVec.toNat_ofInt]; omega
  show IntKind.i64.wrap ((BitVec.ofInt 64 (a : Int) ^^^ BitVec.ofInt 64 (b : Int)).toNat : Int) = _
  rw [BitVec.toNat_xor, h1, h2, IntKind.wrap_i64]
  omega
theorem and_i64 (a b : Nat) (ha : a < 9223372036854775808) (hb : b < 9223372036854775808) : bits .and .i64 (a : Int) (b : Int) = ((a &&& b : Nat) : Int) := by
  have hx : a &&& b < 2 ^ 63 := Nat.and_lt_two_pow _ (by omega)
  have h1 : (BitVec.ofInt 64 (a : Int)).toNat = a := by rw [BitVec.toNat_ofInt]; omega
  have h2 : (BitVec.ofInt 64 (b : Int)).toNat = b := by rw [BitVec.toNat_ofInt]; omega
  show IntKind.i64.wrap ((BitVec.ofInt 64 (a : Int) &&& BitVec.ofInt 64 (b : Int)).toNat : Int) = _
  rw [BitVec.toNat_and, h1, h2, IntKind.wrap_i64]
  omega
theorem xor_half (a b : Nat) : (a ^^^ b) / 2 = a / 2 ^^^ b / 2 := by
  refine Nat.eq_of_testBit_eq (fun i => ?_)
  rw [Nat.testBit_div_two, Nat.testBit_xor, Nat.testBit_xor, Nat.testBit_div_two, Nat.testBit_div_two]
theorem xor_low (a b : Nat) : (a ^^^ b) % 2 = (a % 2 + b % 2) % 2 := by
  have h := Nat.testBit_xor (x := a) (y := b) (i := 0)
  simp only [Nat.testBit_zero] at h
  rcases Nat.mod_two_eq_zero_or_one a with h1 | h1 <;> rcases Nat.mod_two_eq_zero_or_one b with h2 | h2 <;> rcases Nat.mod_two_eq_zero_or_one (a ^^^ b) with h3 | h3 <;> rw [h1, h2, h3] at h <;> first | (exact absurd h (by decide)) | (rw [h1, h2, h3])
theorem xor_step (a b : Nat) : a ^^^ b = 2 * (a / 2 ^^^ b / 2) + (a % 2 + b % 2) % 2 := by
  have h1 := xor_half a b
  have h2 := xor_low a b
  omega

/-! ### codes of numbers -/
def gc (n : Nat) : Nat := n ^^^ (n / 2)
theorem gc_half (n : Nat) : gc n / 2 = gc (n / 2) := by rw [gc, xor_half]; rfl
theorem gc_step (n : Nat) : gc n = 2 * gc (n / 2) + (n % 2 + n / 2 % 2) % 2 := by
  have h := xor_step n (n / 2)
  rw [gc, h]; rfl
/-- the number with a code -/
def ug (g : Nat) : Nat := if g = 0 then 0 else g ^^^ ug (g / 2)
termination_by g
decreasing_by omega
theorem ug_zero : ug 0 = 0 := by rw [ug]; rfl
theorem ug_step (g : Nat) : ug g = g ^^^ ug (g / 2) := by
  by_cases h : g = 0
  · subst h; rw [ug_zero]; rfl
  · rw [ug, if_neg h]
theorem ug_gc (n : Nat) : ug (gc n) = n := by
  induction n using Nat.strongRecOn with
  | _ n ih =>
    by_cases h : n = 0
    · subst h; exact ug_zero
    · rw [ug_step, gc_half, ih (n / 2) (by omega), gc, Nat.xor_assoc, Nat.xor_self, Nat.xor_zero]
theorem ug_half (g : Nat) : ug g / 2 = ug (g / 2) := by
  induction g using Nat.strongRecOn with
  | _ g ih =>
    by_cases h : g = 0
    · subst h; rw [ug_zero]
    · rw [ug_step g, xor_half, ih (g / 2) (by omega)]
      exact (ug_step (g / 2)).symm
theorem gc_ug (g : Nat) : gc (ug g) = g := by
  rw [gc, ug_half, ug_step g, Nat.xor_assoc, Nat.xor_self, Nat.xor_zero]
theorem gc_lt {n k : Nat} (h : n < 2 ^ k) : gc n < 2 ^ k := Nat.xor_lt_two_pow h (Nat.lt_of_le_of_lt (Nat.div_le_self _ _) h)
theorem ug_lt {k : Nat} : ∀ {g : Nat}, g < 2 ^ k → ug g < 2 ^ k := by
  intro g
  induction g using Nat.strongRecOn with
  | _ g ih =>
    intro h
    by_cases h0 : g = 0
    · subst h0; rw [ug_zero]; exact h
    · rw [ug_step]
      exact Nat.xor_lt_two_pow h (ih (g / 2) (by omega) (Nat.lt_of_le_of_lt (Nat.div_le_self _ _) h))

/-! ### flips -/
/-- the index of the lowest binary digit that is 1 -/
def loB (n : Nat) : Nat := if n = 0 then 0 else if n % 2 = 0 then loB (n / 2) + 1 else 0
termination_by n
decreasing_by omega
theorem loB_even {n : Nat} (h0 : n ≠ 0) (h : n % 2 = 0) : loB n = loB (n / 2) + 1 := by rw [loB, if_neg h0, if_pos h]
theorem loB_odd {n : Nat} (h : n % 2 = 1) : loB n = 0 := by
  rw [loB]
  split
  · rfl
  · rw [if_neg (by omega)]
theorem gc_flip (n : Nat) (h : 0 < n) : gc (n - 1) ^^^ gc n = 2 ^ loB n := by
  induction n using Nat.strongRecOn with
  | _ n ih =>
    rw [xor_step, gc_half, gc_half, gc_step (n - 1), gc_step n]
    rcases Nat.mod_two_eq_zero_or_one n with h2 | h2
    · have ih2 := ih (n / 2) (by omega) (by omega)
      rw [loB_even (by omega) h2, Nat.pow_succ, ← ih2]
      have e : (n - 1) / 2 = n / 2 - 1 := by omega
      rw [e]
      omega
    · rw [loB_odd h2, show (n - 1) / 2 = n / 2 by omega, Nat.xor_self]
      omega
theorem loB_le {k : Nat} : ∀ {n : Nat}, 0 < n → n < 2 ^ (k + 1) → loB n ≤ k := by
  induction k with
  | zero =>
    intro n h1 h2
    have : n = 1 := by simp at h2; omega
    subst this; rw [loB_odd rfl]; exact Nat.le_refl _
  | succ k ih =>
    intro n h1 h2
    rcases Nat.mod_two_eq_zero_or_one n with h | h
    · rw [loB_even (by omega) h]
      have := ih (n := n / 2) (by omega) (by rw [Nat.pow_succ] at h2; omega)
      omega
    · rw [loB_odd h]; omega

/-! ### digits of mixed places -/
/-- the digits that are written, and their sum -/
def gmS : List Int → List Int → List Int × Int
  | d :: ds, r :: rs => let q := gmS ds rs; let x := if q.2 % 2 = 1 then r - 1 - d else d; (x :: q.1, q.2 + x)
  | _, _ => ([], 0)
/-- the digits that were written, and the sum of those read -/
def umS : List Int → List Int → List Int × Int
  | d :: ds, r :: rs => let q := umS ds rs; let x := if q.2 % 2 = 1 then r - 1 - d else d; (x :: q.1, q.2 + d)
  | _, _ => ([], 0)
theorem gmS_cons (d r : Int) (ds rs : List Int) : gmS (d :: ds) (r :: rs) = ((if (gmS ds rs).2 % 2 = 1 then r - 1 - d else d) :: (gmS ds rs).1, (gmS ds rs).2 + (if (gmS ds rs).2 % 2 = 1 then r - 1 - d else d)) := rfl
theorem umS_cons (d r : Int) (ds rs : List Int) : umS (d :: ds) (r :: rs) = ((if (umS ds rs).2 % 2 = 1 then r - 1 - d else d) :: (umS ds rs).1, (umS ds rs).2 + d) := rfl
theorem gmS_len : ∀ d r : List Int, d.length = r.length → (gmS d r).1.length = d.length
  | [], [], _ => rfl
  | d :: ds, r :: rs, h => by rw [gmS_cons, List.length_cons, List.length_cons, gmS_len ds rs (by simpa using h)]
  | [], _ :: _, h => by simp at h
  | _ :: _, [], h => by simp at h
theorem umS_len : ∀ d r : List Int, d.length = r.length → (umS d r).1.length = d.length
  | [], [], _ => rfl
  | d :: ds, r :: rs, h => by rw [umS_cons, List.length_cons, List.length_cons, umS_len ds rs (by simpa using h)]
  | [], _ :: _, h => by simp at h
  | _ :: _, [], h => by simp at h
theorem gmS_sum : ∀ d r : List Int, (gmS d r).2 = (gmS d r).1.sum
  | d :: ds, r :: rs => by rw [gmS_cons, List.sum_cons, ← gmS_sum ds rs]; dsimp only; omega
  | [], [] => rfl
  | [], _ :: _ => rfl
  | _ :: _, [] => rfl
theorem umS_sum : ∀ d r : List Int, d.length = r.length → (umS d r).2 = d.sum
  | d :: ds, r :: rs, h => by rw [umS_cons, List.sum_cons, ← umS_sum ds rs (by simpa using h)]; dsimp only; omega
  | [], [], _ => rfl
  | [], _ :: _, h => by simp at h
  | _ :: _, [], h => by simp at h
theorem um_gm : ∀ d r : List Int, d.length = r.length → (umS (gmS d r).1 r).1 = d ∧ (umS (gmS d r).1 r).2 = (gmS d r).2
  | [], [], _ => ⟨rfl, rfl⟩
  | d :: ds, r :: rs, h => by
    obtain ⟨i1, i2⟩ := um_gm ds rs (by simpa using h)
    rw [gmS_cons]
    dsimp only
    rw [umS_cons, i1, i2]
    dsimp only
    refine ⟨?_, rfl⟩
    split
    · congr 1; omega
    · rfl
  | [], _ :: _, h => by simp at h
  | _ :: _, [], h => by simp at h
/-- are these digits of the radices -/
def InR : List Int → List Int → Prop
  | d :: ds, r :: rs => (0 ≤ d ∧ d < r) ∧ InR ds rs
  | [], [] => True
  | _, _ => False
theorem InR.len : ∀ {d r : List Int}, InR d r → d.length = r.length
  | [], [], _ => rfl
  | _ :: _, _ :: _, h => by rw [List.length_cons, List.length_cons, InR.len h.2]
  | [], _ :: _, h => h.elim
  | _ :: _, [], h => h.elim
theorem gmS_in : ∀ {d r : List Int}, InR d r → InR (gmS d r).1 r
  | [], [], _ => trivial
  | d :: ds, r :: rs, h => by
    rw [gmS_cons]
    refine ⟨?_, gmS_in h.2⟩
    have := h.1
    split <;> omega
  | [], _ :: _, h => h.elim
  | _ :: _, [], h => h.elim
theorem umS_in : ∀ {d r : List Int}, InR d r → InR (umS d r).1 r
  | [], [], _ => trivial
  | d :: ds, r :: rs, h => by
    rw [umS_cons]
    refine ⟨?_, umS_in h.2⟩
    have := h.1
    split <;> omega
  | [], _ :: _, h => h.elim
  | _ :: _, [], h => h.elim

/-! ### how many digits differ -/
def cdf : List Int → List Int → Nat
  | a :: s, b :: t => (if a = b then 0 else 1) + cdf s t
  | _, _ => 0
theorem cdf_self : ∀ a : List Int, cdf a a = 0
  | [] => rfl
  | a :: s => by rw [cdf, if_pos rfl, cdf_self s]
theorem cdf_append : ∀ (a b c d : List Int), a.length = c.length → cdf (a ++ b) (c ++ d) = cdf a c + cdf b d
  | [], b, [], d, _ => by simp [cdf]
  | x :: a, b, y :: c, d, h => by rw [List.cons_append, List.cons_append, cdf, cdf, cdf_append a b c d (by simpa using h)]; omega
  | [], _, _ :: _, _, h => by simp at h
  | _ :: _, _, [], _, h => by simp at h
theorem cdf_take {a c : List Int} {k : Nat} (h1 : k < a.length) (h2 : k < c.length) : cdf (a.take (k + 1)) (c.take (k + 1)) = cdf (a.take k) (c.take k) + (if a[k] = c[k] then 0 else 1) := by
  rw [List.take_succ_eq_append_getElem h1, List.take_succ_eq_append_getElem h2, cdf_append _ _ _ _ (by simp; omega)]
  simp [cdf]
theorem cdf_le : ∀ a c : List Int, cdf a c ≤ a.length
  | a :: s, b :: t => by have := cdf_le s t; rw [cdf, List.length_cons]; split <;> omega
  | [], _ => by simp [cdf]
  | _ :: _, [] => by simp [cdf]

/-- the number after: one digit more, with carries -/
def nxM : List Int → List Int → Option (List Int)
  | d :: ds, r :: rs => if d + 1 < r then some ((d + 1) :: ds) else (nxM ds rs).map (fun t => 0 :: t)
  | _, _ => none
/-- neighbours: one digit differs, by 1 -/
structure Nb (a b : List Int) : Prop where
  one : cdf a b = 1
  odd : (a.sum - b.sum) % 2 = 1
  le : ∀ i (h1 : i < a.length) (h2 : i < b.length), a[i] - b[i] ≤ 1 ∧ b[i] - a[i] ≤ 1
theorem gm_next : ∀ {d e r : List Int}, InR d r → nxM d r = some e → Nb (gmS d r).1 (gmS e r).1
  | [], _, [], _, h => by simp [nxM] at h
  | d :: ds, e, r :: rs, hi, h => by
    rw [nxM] at h
    have hd := hi.1
    by_cases hc : d + 1 < r
    · rw [if_pos hc] at h
      injection h with h
      subst h
      rw [gmS_cons, gmS_cons]
      refine ⟨?_, ?_, fun i h1 h2 => ?_⟩
      · rw [cdf, cdf_self]
        split <;> rw [if_neg (by omega)]
      · rw [List.sum_cons, List.sum_cons]
        split <;> omega
      · cases i with
        | zero => simp only [List.getElem_cons_zero]; split <;> omega
        | succ i => simp only [List.getElem_cons_succ]; omega
    · rw [if_neg hc] at h
      cases hn : nxM ds rs with
      | none => rw [hn] at h; simp at h
      | some t =>
        rw [hn] at h
        simp only [Option.map_some, Option.some.injEq] at h
        subst h
        have ih := gm_next hi.2 hn
        have s1 := gmS_sum ds rs
        have s2 := gmS_sum t rs
        have ho := ih.odd
        rw [← s1, ← s2] at ho
        have hx : (if (gmS ds rs).2 % 2 = 1 then r - 1 - d else d) = (if (gmS t rs).2 % 2 = 1 then r - 1 - 0 else 0) := by
          have : d = r - 1 := by omega
          split <;> split <;> omega
        rw [gmS_cons, gmS_cons, ← hx]
        refine ⟨?_, ?_, fun i h1 h2 => ?_⟩
        · rw [cdf, if_pos rfl, ih.one]
        · have := ih.odd; rw [List.sum_cons, List.sum_cons]; omega
        · cases i with
          | zero => simp
          | succ i =>
            simp only [List.getElem_cons_succ]
            exact ih.le i (by simpa using h1) (by simpa using h2)
  | [], _, _ :: _, hi, _ => hi.elim
  | _ :: _, _, [], hi, _ => hi.elim

/-! ### cycles -/
def pw2 (n : Nat) : Bool := decide (0 < n) && decide (n &&& (n - 1) = 0)
/-- each number once, neighbours one binary digit apart -/
def cycAt (l : List Int) (i : Nat) : Bool :=
  decide (0 ≤ l.getD i 0 ∧ l.getD i 0 ≤ (l.length : Int) - 1) && (!(l.take i).contains (l.getD i 0) && (decide (0 ≤ l.getD ((i + 1) % l.length) 0) && pw2 ((l.getD i 0).toNat ^^^ (l.getD ((i + 1) % l.length) 0).toNat)))
def cycB (l : List Int) : Bool := (List.range l.length).all (cycAt l)
def cyc (k : Nat) : List Int := (List.range (2 ^ k)).map (fun n => ((gc n : Nat) : Int))
theorem cyc_ok : ∀ k : Nat, 1 ≤ k → k ≤ 6 → cycB (cyc k) = true := by
  intro k h1 h2
  have h : ∀ j : Fin 7, 1 ≤ j.val → cycB (cyc j.val) = true := by decide +kernel
  exact h ⟨k, by omega⟩ h1
theorem ring_flip (s : Nat) : ug (s ^^^ 1) = ug s ^^^ 1 := by
  rw [ug_step (s ^^^ 1), ug_step s, xor_half, show (1 : Nat) / 2 = 0 from rfl, Nat.xor_zero, Nat.xor_assoc, Nat.xor_assoc, Nat.xor_comm 1]
theorem xor_one (n : Nat) : n ^^^ 1 = if n % 2 = 0 then n + 1 else n - 1 := by
  rw [xor_step, show (1 : Nat) / 2 = 0 from rfl, Nat.xor_zero]
  split <;> omega

end Go.Proofs.YtleadjkndciniaaDoor
