/- Places of coins: the least digits, plain. -/
import Derived.Test.YtbfoaibgenepoaaCoM
import Derived.Deep.LoopGhost
set_option linter.unusedVariables false
set_option linter.unusedSimpArgs false
set_option maxRecDepth 100000
namespace Go.Proofs.Ytbfoaibgenepoaa
open Go.ChangeShapes Go.WideShapes Go.ChangeAt Go.RowKit

/-- the first d for which something comes, and what comes -/
def fstD (f : Nat → Option (List Int)) : Nat → Nat → Option (List Int)
  | 0, _ => none
  | m + 1, d => match f d with
    | some t => some ((d : Int) :: t)
    | none => fstD f m (d + 1)
/-- how many d are tried -/
def ldN (c n left : Int) : Nat := (min left (n / c)).toNat + 1
/-- the least digits of n at the coins, left of them -/
def ld : List Int → Int → Int → Option (List Int)
  | [], n, left => if n = 0 ∧ left = 0 then some [] else none
  | c :: cs, n, left => fstD (fun d => ld cs (n - d * c) (left - d)) (ldN c n left) 0
theorem fstD_some {f : Nat → Option (List Int)} {t : List Int} : ∀ (m d : Nat), fstD f m d = some t → ∃ e u, d ≤ e ∧ e < d + m ∧ f e = some u ∧ t = (e : Int) :: u
  | 0, d, h => by simp [fstD] at h
  | m + 1, d, h => by
    rw [fstD] at h
    cases hf : f d with
    | some u => rw [hf] at h; exact ⟨d, u, Nat.le_refl _, by omega, hf, by simpa using h.symm⟩
    | none =>
      rw [hf] at h
      obtain ⟨e, u, h1, h2, h3, h4⟩ := fstD_some m (d + 1) h
      exact ⟨e, u, by omega, by omega, h3, h4⟩
theorem fstD_none {f : Nat → Option (List Int)} : ∀ (m d : Nat), fstD f m d = none → ∀ e, d ≤ e → e < d + m → f e = none
  | 0, d, _, e, h1, h2 => by omega
  | m + 1, d, h, e, h1, h2 => by
    rw [fstD] at h
    cases hf : f d with
    | some u => rw [hf] at h; simp at h
    | none =>
      rw [hf] at h
      by_cases he : e = d
      · subst he; exact hf
      · exact fstD_none m (d + 1) h e (by omega) (by omega)
theorem ldN_lt {c n left : Int} (hc : 1 ≤ c) (hn : 0 ≤ n) (hl : 0 ≤ left) (d : Nat) : d < ldN c n left ↔ (d : Int) ≤ left ∧ d * c ≤ n := by
  have h1 : (d : Int) ≤ n / c ↔ d * c ≤ n := Int.le_ediv_iff_mul_le (by omega)
  have h2 : 0 ≤ n / c := Int.ediv_nonneg hn (by omega)
  rw [ldN, ← h1]
  omega

/-- what comes is a solution -/
theorem ld_val : ∀ (l : List Int) (n left : Int) (t : List Int), (∀ c ∈ l, 1 ≤ c) → 0 ≤ n → 0 ≤ left → ld l n left = some t → t.length = l.length ∧ (∀ x ∈ t, 0 ≤ x) ∧ dotI t l = n ∧ t.sum = left
  | [], n, left, t, _, _, _, h => by
    rw [ld] at h
    split at h
    · rename_i h'
      injection h with h
      subst h
      exact ⟨rfl, by simp, by simp [dotI, h'.1], by simp [h'.2]⟩
    · simp at h
  | c :: cs, n, left, t, hl, hn, hle, h => by
    rw [ld] at h
    obtain ⟨e, u, h1, h2, h3, rfl⟩ := fstD_some _ _ h
    have hc := hl c (by simp)
    have h4 := (ldN_lt hc hn hle e).mp (by omega)
    obtain ⟨i1, i2, i3, i4⟩ := ld_val cs _ _ u (fun x hx => hl x (by simp [hx])) (by omega) (by omega) h3
    refine ⟨by simp [i1], ?_, ?_, ?_⟩
    · intro x hx
      rcases List.mem_cons.mp hx with rfl | hx
      · omega
      · exact i2 x hx
    · rw [dotI, i3]; omega
    · rw [List.sum_cons, i4]; omega
theorem dot_pos : ∀ (t l : List Int), (∀ x ∈ t, 0 ≤ x) → (∀ c ∈ l, 1 ≤ c) → 0 ≤ t.sum ∧ 0 ≤ dotI t l
  | [], [], _, _ => by simp [dotI]
  | [], c :: l, _, _ => by simp [dotI]
  | x :: t, [], h, hl => by
    have h1 := (dot_pos t [] (fun y hy => h y (by simp [hy])) (by simp)).1
    have hx := h x (by simp)
    rw [List.sum_cons]; refine ⟨by omega, ?_⟩; simp [dotI]
  | x :: t, c :: l, h, hl => by
    have h1 := dot_pos t l (fun y hy => h y (by simp [hy])) (fun y hy => hl y (by simp [hy]))
    have hx := h x (by simp)
    have hc := hl c (by simp)
    have h2 : 0 ≤ x * c := Int.mul_nonneg hx (by omega)
    rw [dotI, List.sum_cons]; omega
/-- where there is a solution, something comes -/
theorem ld_has : ∀ (l : List Int) (n left : Int) (t : List Int), (∀ c ∈ l, 1 ≤ c) → t.length = l.length → (∀ x ∈ t, 0 ≤ x) → dotI t l = n → t.sum = left → ld l n left ≠ none
  | [], n, left, t, _, ht, _, h1, h2 => by
    have : t = [] := List.length_eq_zero_iff.mp (by simpa using ht)
    subst this
    have e1 : n = 0 := by simpa [dotI] using h1.symm
    have e2 : left = 0 := by simpa using h2.symm
    rw [ld, if_pos ⟨e1, e2⟩]; simp
  | c :: cs, n, left, [], _, ht, _, _, _ => by simp at ht
  | c :: cs, n, left, x :: t, hl, ht, hx, h1, h2 => by
    intro hno
    rw [ld] at hno
    have hc := hl c (by simp)
    have hx0 := hx x (by simp)
    obtain ⟨e, rfl⟩ : ∃ e : Nat, x = e := ⟨x.toNat, by omega⟩
    rw [dotI] at h1
    rw [List.sum_cons] at h2
    have hs := dot_pos t cs (fun x h => hx x (by simp [h])) (fun x h => hl x (by simp [h]))
    have hm : 0 ≤ (e : Int) * c := Int.mul_nonneg hx0 (by omega)
    have h4 := (ldN_lt (n := n) (left := left) hc (by omega) (by omega) e).mpr ⟨by omega, by omega⟩
    have h5 := fstD_none _ _ hno e (by omega) (by omega)
    exact ld_has cs _ _ t (fun x h => hl x (by simp [h])) (by simpa using ht) (fun x h => hx x (by simp [h])) (by omega) (by omega) h5
/-- what is left lies between the coins' bounds, else nothing comes -/
theorem dot_between {A B : Int} : ∀ (t l : List Int), t.length = l.length → (∀ x ∈ t, 0 ≤ x) → (∀ c ∈ l, A ≤ c ∧ c ≤ B) → t.sum * A ≤ dotI t l ∧ dotI t l ≤ t.sum * B
  | [], [], _, _, _ => by simp [dotI]
  | [], c :: l, h, _, _ => by simp at h
  | x :: t, [], h, _, _ => by simp at h
  | x :: t, c :: l, h, hx, hl => by
    have h1 := dot_between t l (by simpa using h) (fun y hy => hx y (by simp [hy])) (fun y hy => hl y (by simp [hy]))
    have hc := hl c (by simp)
    have h2 := Int.mul_le_mul_of_nonneg_left hc.1 (hx x (by simp))
    have h3 := Int.mul_le_mul_of_nonneg_left hc.2 (hx x (by simp))
    rw [dotI, List.sum_cons, Int.add_mul, Int.add_mul]; omega
theorem ld_out {A B : Int} {l : List Int} {n left : Int} (h1 : ∀ c ∈ l, 1 ≤ c) (hl : ∀ c ∈ l, A ≤ c ∧ c ≤ B) (hn : 0 ≤ n) (hle : 0 ≤ left) (h : left * B < n ∨ n < left * A) : ld l n left = none := by
  cases hd : ld l n left with
  | none => rfl
  | some t =>
    obtain ⟨i1, i2, i3, i4⟩ := ld_val l n left t h1 hn hle hd
    have h2 := dot_between t l i1 i2 hl
    rw [i3, i4] at h2
    omega

end Go.Proofs.Ytbfoaibgenepoaa
