/- Places of coins: the model's fewest coins. -/
import Derived.Test.YtbfoaibgenepoaaCoM
import Derived.Deep.LoopGhost
set_option linter.unusedVariables false
set_option linter.unusedSimpArgs false
set_option maxRecDepth 100000
namespace Go.Proofs.Ytbfoaibgenepoaa
open Go.ChangeShapes Go.WideShapes Go.ChangeAt Go.RowKit

/-- the best of x, where b is the best so far and out holds those below x -/
def bst (out : List Int) (x : Int) : Int → List Int → Int
  | b, [] => b
  | b, c :: cs => bst out x (if c ≤ x then min b (out.getD (x - c).toNat 0 + 1) else b) cs
def fewL (l : List Int) : Nat → List Int
  | 0 => [0]
  | n + 1 => fewL l n ++ [bst (fewL l n) ((n + 1 : Nat) : Int) ((n + 1 : Nat) : Int) l]
def fw1 (l : List Int) (n : Nat) : Int := (fewL l n).getD n 0
theorem fewL_len (l : List Int) : ∀ n, (fewL l n).length = n + 1
  | 0 => rfl
  | n + 1 => by rw [fewL, List.length_append, fewL_len l n]; rfl
theorem fewL_get (l : List Int) : ∀ (n k : Nat), k ≤ n → (fewL l n).getD k 0 = fw1 l k
  | 0, k, h => by
    have : k = 0 := by omega
    subst this; rfl
  | n + 1, k, h => by
    rcases Nat.lt_or_ge k (n + 1) with h' | h'
    · rw [fewL, List.getD_eq_getElem?_getD, List.getElem?_append_left (by rw [fewL_len]; exact h'), ← List.getD_eq_getElem?_getD, fewL_get l n k (by omega)]
    · have : k = n + 1 := by omega
      subst this; rfl
theorem fw1_succ (l : List Int) (n : Nat) : fw1 l (n + 1) = bst (fewL l n) ((n + 1 : Nat) : Int) ((n + 1 : Nat) : Int) l := by
  rw [fw1, fewL, List.getD_eq_getElem?_getD, List.getElem?_append_right (by rw [fewL_len]; exact Nat.le_refl _), fewL_len, Nat.sub_self]; rfl
theorem bst_bd {out : List Int} {x : Int} (hout : ∀ k, 0 ≤ out.getD k 0) : ∀ (cs : List Int) (b : Int), 0 ≤ b → 0 ≤ bst out x b cs ∧ bst out x b cs ≤ b
  | [], b, hb => ⟨hb, Int.le_refl _⟩
  | c :: cs, b, hb => by
    rw [bst]
    split
    · have h1 := hout (x - c).toNat
      have h2 := bst_bd (x := x) hout cs (min b (out.getD (x - c).toNat 0 + 1)) (by omega)
      omega
    · exact bst_bd hout cs b hb
theorem fw1_bd (l : List Int) : ∀ n, (∀ k, 0 ≤ (fewL l n).getD k 0 ∧ (fewL l n).getD k 0 ≤ n) ∧ 0 ≤ fw1 l n ∧ fw1 l n ≤ n
  | 0 => by
    have e0 : fw1 l 0 = 0 := rfl
    refine ⟨fun k => ?_, by omega, by omega⟩
    cases k with
    | zero => exact ⟨Int.le_refl _, Int.le_refl _⟩
    | succ k => simp [fewL]
  | n + 1 => by
    obtain ⟨h1, h2, h3⟩ := fw1_bd l n
    have h4 := bst_bd (out := fewL l n) (x := ((n + 1 : Nat) : Int)) (fun k => (h1 k).1) l ((n + 1 : Nat) : Int) (by omega)
    rw [← fw1_succ] at h4
    refine ⟨fun k => ?_, h4.1, h4.2⟩
    rcases Nat.lt_or_ge (n + 1) k with h | h
    · rw [List.getD_eq_getElem?_getD, List.getElem?_eq_none (by rw [fewL_len]; omega)]; simp; omega
    · rcases Nat.lt_or_ge k (n + 1) with h' | h'
      · rw [fewL_get l (n + 1) k h, ← fewL_get l n k (by omega)]
        have := h1 k; omega
      · have : k = n + 1 := by omega
        subst this; rw [fewL_get l (n + 1) _ (Nat.le_refl _)]; omega

/-! ### what the fewest are: the least sum of digits -/
structure FewOf (l : List Int) (n k : Int) : Prop where
  some : ∃ d : List Int, d.length = l.length ∧ (∀ x ∈ d, 0 ≤ x) ∧ dotI d l = n ∧ d.sum = k
  least : ∀ d : List Int, d.length = l.length → (∀ x ∈ d, 0 ≤ x) → dotI d l = n → k ≤ d.sum
theorem fewOf_one {l : List Int} {n k k' : Int} (h : FewOf l n k) (h' : FewOf l n k') : k = k' := by
  obtain ⟨d, d1, d2, d3, d4⟩ := h.some
  obtain ⟨e, e1, e2, e3, e4⟩ := h'.some
  have a1 := h.least e e1 e2 e3
  have a2 := h'.least d d1 d2 d3
  omega

theorem bst_le {out : List Int} {x : Int} : ∀ (cs : List Int) (b : Int), bst out x b cs ≤ b
  | [], b => Int.le_refl _
  | c :: cs, b => by
    rw [bst]; split
    · have := bst_le (out := out) (x := x) cs (min b (out.getD (x - c).toNat 0 + 1)); omega
    · exact bst_le cs b
theorem bst_at {out : List Int} {x : Int} : ∀ (cs : List Int) (b : Int), ∀ c ∈ cs, c ≤ x → bst out x b cs ≤ out.getD (x - c).toNat 0 + 1
  | [], b, c, hc, _ => by simp at hc
  | a :: cs, b, c, hc, hx => by
    rw [bst]
    rcases List.mem_cons.1 hc with rfl | hc
    · rw [if_pos hx]
      have := bst_le (out := out) (x := x) cs (min b (out.getD (x - c).toNat 0 + 1)); omega
    · exact bst_at cs _ c hc hx
theorem bst_eq {out : List Int} {x : Int} : ∀ (cs : List Int) (b : Int), bst out x b cs = b ∨ ∃ c ∈ cs, c ≤ x ∧ bst out x b cs = out.getD (x - c).toNat 0 + 1
  | [], b => .inl rfl
  | a :: cs, b => by
    rw [bst]; split
    · rename_i hax
      rcases bst_eq (out := out) (x := x) cs (min b (out.getD (x - a).toNat 0 + 1)) with h | ⟨c, h1, h2, h3⟩
      · rcases Int.le_total b (out.getD (x - a).toNat 0 + 1) with h' | h'
        · exact .inl (by omega)
        · exact .inr ⟨a, by simp, hax, by omega⟩
      · exact .inr ⟨c, by simp [h1], h2, h3⟩
    · rcases bst_eq (out := out) (x := x) cs b with h | ⟨c, h1, h2, h3⟩
      · exact .inl h
      · exact .inr ⟨c, by simp [h1], h2, h3⟩

theorem dot_nonneg : ∀ (d l : List Int), (∀ x ∈ d, 0 ≤ x) → (∀ x ∈ l, 1 ≤ x) → 0 ≤ dotI d l
  | [], _, _, _ => by simp [dotI]
  | _ :: _, [], _, _ => by simp [dotI]
  | x :: d, c :: l, hd, hl => by
    have h1 := hd x (by simp)
    have h2 := hl c (by simp)
    have h3 := Int.mul_nonneg h1 (show 0 ≤ c by omega)
    have h4 := dot_nonneg d l (fun y hy => hd y (List.mem_cons_of_mem _ hy)) (fun y hy => hl y (List.mem_cons_of_mem _ hy))
    rw [dotI]; omega
theorem sum_pos : ∀ (d : List Int), (∀ x ∈ d, 0 ≤ x) → 0 ≤ d.sum
  | [], _ => by simp
  | x :: d, h => by
    have := sum_pos d (fun y hy => h y (List.mem_cons_of_mem _ hy))
    have := h x (by simp)
    rw [List.sum_cons]; omega
/-- one coin less -/
theorem coin_less : ∀ (d l : List Int), d.length = l.length → (∀ x ∈ d, 0 ≤ x) → dotI d l ≠ 0 → ∃ c ∈ l, ∃ e : List Int, e.length = l.length ∧ (∀ x ∈ e, 0 ≤ x) ∧ dotI e l = dotI d l - c ∧ e.sum = d.sum - 1
  | [], [], _, _, h => by simp [dotI] at h
  | [], _ :: _, h, _, _ => by simp at h
  | _ :: _, [], h, _, _ => by simp at h
  | x :: d, c :: l, hl, hd, hn => by
    have hx := hd x (by simp)
    by_cases h0 : x = 0
    · subst h0
      rw [dotI, Int.zero_mul, Int.zero_add] at hn
      obtain ⟨c', h1, e, h2, h3, h4, h5⟩ := coin_less d l (by simpa using hl) (fun y hy => hd y (List.mem_cons_of_mem _ hy)) hn
      refine ⟨c', by simp [h1], 0 :: e, by simp [h2], fun y hy => ?_, by rw [dotI, dotI, h4]; omega, by rw [List.sum_cons, List.sum_cons, h5]; omega⟩
      rcases List.mem_cons.1 hy with rfl | hy
      · exact Int.le_refl _
      · exact h3 y hy
    · refine ⟨c, by simp, (x - 1) :: d, by simpa using hl, fun y hy => ?_, by rw [dotI, dotI, Int.sub_mul]; omega, by rw [List.sum_cons, List.sum_cons]; omega⟩
      rcases List.mem_cons.1 hy with rfl | hy
      · omega
      · exact hd y (List.mem_cons_of_mem _ hy)
/-- one coin more -/
theorem coin_more : ∀ (d l : List Int), d.length = l.length → (∀ x ∈ d, 0 ≤ x) → ∀ c ∈ l, ∃ e : List Int, e.length = l.length ∧ (∀ x ∈ e, 0 ≤ x) ∧ dotI e l = dotI d l + c ∧ e.sum = d.sum + 1
  | [], [], _, _, c, h => by simp at h
  | [], _ :: _, h, _, _, _ => by simp at h
  | _ :: _, [], h, _, _, _ => by simp at h
  | x :: d, a :: l, hl, hd, c, hc => by
    have hx := hd x (by simp)
    rcases List.mem_cons.1 hc with rfl | hc
    · refine ⟨(x + 1) :: d, by simpa using hl, fun y hy => ?_, by rw [dotI, dotI, Int.add_mul]; omega, by rw [List.sum_cons, List.sum_cons]; omega⟩
      rcases List.mem_cons.1 hy with rfl | hy
      · omega
      · exact hd y (List.mem_cons_of_mem _ hy)
    · obtain ⟨e, h2, h3, h4, h5⟩ := coin_more d l (by simpa using hl) (fun y hy => hd y (List.mem_cons_of_mem _ hy)) c hc
      refine ⟨x :: e, by simp [h2], fun y hy => ?_, by rw [dotI, dotI, h4]; omega, by rw [List.sum_cons, List.sum_cons, h5]; omega⟩
      rcases List.mem_cons.1 hy with rfl | hy
      · exact hx
      · exact h3 y hy
theorem dot_zeros : ∀ (m : Nat) (l : List Int), dotI (List.replicate m 0) l = 0
  | 0, _ => by simp [dotI]
  | m + 1, [] => by simp [dotI, List.replicate_succ]
  | m + 1, c :: l => by rw [List.replicate_succ, dotI, dot_zeros m l]; omega
theorem sum_zerosI : ∀ m : Nat, (List.replicate m (0 : Int)).sum = 0
  | 0 => rfl
  | m + 1 => by rw [List.replicate_succ, List.sum_cons, sum_zerosI m]; rfl

theorem fw1_few {l : List Int} (hl : Coins l) : ∀ (m n : Nat), n ≤ m → FewOf l n (fw1 l n)
  | m, 0, _ => by
    refine ⟨⟨List.replicate l.length 0, by simp, fun x hx => by rw [List.eq_of_mem_replicate hx]; exact Int.le_refl _, dot_zeros _ _, sum_zerosI _⟩, fun d h1 h2 h3 => ?_⟩
    have e0 : fw1 l 0 = 0 := rfl
    rw [e0]; exact sum_pos d h2
  | 0, n + 1, h => by omega
  | m + 1, n + 1, h => by
    have hb : ∀ x ∈ l, 1 ≤ x := fun x hx => (hl.bd x hx).1
    have get : ∀ c ∈ l, c ≤ ((n + 1 : Nat) : Int) → (fewL l n).getD (((n + 1 : Nat) : Int) - c).toNat 0 = fw1 l (((n + 1 : Nat) : Int) - c).toNat := fun c hc _ => fewL_get l n _ (by have := hb c hc; omega)
    refine ⟨?_, fun d h1 h2 h3 => ?_⟩
    · rw [fw1_succ]
      rcases bst_eq (out := fewL l n) (x := ((n + 1 : Nat) : Int)) l ((n + 1 : Nat) : Int) with e | ⟨c, hc, hx, e⟩
      · rw [e]
        obtain ⟨t, rfl⟩ := hl.one
        refine ⟨((n + 1 : Nat) : Int) :: List.replicate t.length 0, by simp, fun x hx => ?_, by rw [dotI, dot_zeros]; omega, by rw [List.sum_cons, sum_zerosI]; omega⟩
        rcases List.mem_cons.1 hx with rfl | hx
        · omega
        · rw [List.eq_of_mem_replicate hx]; exact Int.le_refl _
      · rw [e, get c hc hx]
        have h1 := hb c hc
        obtain ⟨d, d1, d2, d3, d4⟩ := (fw1_few hl m (((n + 1 : Nat) : Int) - c).toNat (by omega)).some
        obtain ⟨f, f1, f2, f3, f4⟩ := coin_more d l d1 d2 c hc
        exact ⟨f, f1, f2, by rw [f3, d3]; omega, by rw [f4, d4]⟩
    · obtain ⟨c, hc, e, e1, e2, e3, e4⟩ := coin_less d l h1 h2 (by rw [h3]; omega)
      have h4 := dot_nonneg e l e2 hb
      have hcx : c ≤ ((n + 1 : Nat) : Int) := by omega
      have h5 := hb c hc
      have h6 := (fw1_few hl m (((n + 1 : Nat) : Int) - c).toNat (by omega)).least e e1 e2 (by rw [e3, h3]; omega)
      have h7 := bst_at (out := fewL l n) (x := ((n + 1 : Nat) : Int)) l ((n + 1 : Nat) : Int) c hc hcx
      rw [get c hc hcx, ← fw1_succ] at h7
      omega
theorem fw_few {l : List Int} (hl : Coins l) (n : Nat) : FewOf l n (fw1 l n) := fw1_few hl n n (Nat.le_refl _)

end Go.Proofs.Ytbfoaibgenepoaa
