/- Signed binary digits: the model rewrites signed digits by carries. -/
import Derived.Test.YtiemhhkoegkleaaSgM
set_option linter.unusedVariables false
set_option linter.unusedSimpArgs false
set_option maxRecDepth 100000
namespace Go.Proofs.Ytiemhhkoegkleaa
open Go.ChangeShapes Go.WideShapes Go.ChangeAt Go.RowKit

theorem at0_take {l : List Int} {n : Nat} (hn : n ≤ l.length) (j : Nat) : at0 (l.take n) j = if j < n then at0 l j else 0 := by
  by_cases h : j < n
  · rw [if_pos h, at0_lt (by rw [List.length_take]; omega), at0_lt (by omega), List.getElem_take]
  · rw [if_neg h, at0_ge (by rw [List.length_take]; omega)]
theorem at0_snoc (l : List Int) (d : Int) (j : Nat) : at0 (l ++ [d]) j = if j < l.length then at0 l j else if j = l.length then d else 0 := by
  by_cases h : j < l.length
  · rw [if_pos h, at0_lt (by simp; omega), at0_lt h, List.getElem_append_left h]
  · rw [if_neg h]
    by_cases h' : j = l.length
    · subst h'; rw [if_pos rfl, at0_lt (by simp)]; simp
    · rw [if_neg h', at0_ge (by simp; omega)]
theorem allS_snoc {l : List Int} {d : Int} (hl : AllS l) (h0 : -1 ≤ d) (h1 : d ≤ 1) : AllS (l ++ [d]) := fun x hx => by
  rcases List.mem_append.1 hx with hx | hx
  · exact hl x hx
  · simp at hx; subst hx; exact ⟨h0, h1⟩
theorem spr_snoc {l : List Int} {d : Int} (h : Spr l) (hd : ∀ k, l.length = k + 1 → at0 l k ≠ 0 → d = 0) : Spr (l ++ [d]) := fun j => by
  rw [at0_snoc, at0_snoc]
  by_cases h1 : j + 1 < l.length
  · rw [if_pos (by omega), if_pos h1]; exact h j
  · by_cases h2 : j + 1 = l.length
    · rw [if_pos (by omega), if_neg h1, if_pos h2]
      by_cases h3 : at0 l j = 0
      · exact .inl h3
      · exact .inr (hd j h2.symm h3)
    · right; rw [if_neg h1, if_neg h2]
/-- without the zeros at the end -/
theorem trim_eqS {l : List Int} (hl : AllS l) (hS : Spr l) {n : Nat} (hn : n ≤ l.length) (hz : ∀ j (hj : j < l.length), n ≤ j → l[j] = 0) (hla : ∀ (hj : n - 1 < l.length), n = 0 ∨ l[n - 1] ≠ 0) :
    l.take n = spd (sv l) := by
  have hd : hv 2 (l.drop n) = 0 := hv_zeros _ (fun d hd => by
    obtain ⟨j, hj, rfl⟩ := List.getElem_of_mem hd
    rw [List.getElem_drop]
    exact hz _ _ (by omega))
  have e : sv l = sv (l.take n) := by
    have := hv_append 2 (l.take n) (l.drop n)
    rw [List.take_append_drop, hd] at this
    unfold sv; rw [this]; simp
  have hN : NrmS (l.take n) := by
    refine ⟨fun d hd => hl d (List.mem_of_mem_take hd), ?_⟩
    by_cases h0 : n = 0
    · left; subst h0; simp
    · by_cases h1 : n - 1 < l.length
      · right
        have := (hla h1).resolve_left h0
        rw [List.getLast?_eq_getElem?, List.length_take, Nat.min_eq_left hn, List.getElem?_take, if_pos (by omega), List.getElem?_eq_getElem h1]
        simpa using this
      · left
        have : l.length = 0 := by omega
        rw [List.eq_nil_of_length_eq_zero this]; simp
  have hSp : Spr (l.take n) := fun j => by
    rw [at0_take hn, at0_take hn]
    by_cases h1 : j + 1 < n
    · rw [if_pos (by omega), if_pos h1]; exact hS j
    · right; rw [if_neg h1]
  rw [e]
  exact (spd_sv hN hSp).symm

/-- what a round holds -/
structure RwI (l : List Int) (k : Nat) (o : List Int) (c : Int) : Prop where
  len : o.length = k
  le : k ≤ l.length + 1
  fin : k = l.length + 1 → c = 0
  all : AllS o
  spr : Spr o
  c0 : -1 ≤ c
  c1 : c ≤ 1
  par : ∀ j, k = j + 1 → at0 o j ≠ 0 → (c + at0 l k) % 2 = 0
  val : sv o + 2 ^ k * (c + sv (l.drop k)) = sv l
theorem RwI.init (l : List Int) : RwI l 0 [] 0 := ⟨rfl, by omega, fun h => rfl, fun d hd => by simp at hd, fun j => .inl rfl, by omega, by omega, fun j h => by omega, by simp [sv_nil]⟩
theorem RwI.step {l : List Int} {k : Nat} {o : List Int} {c : Int} (h : RwI l k o c) (hA : AllS l) (hk : k ≤ l.length) : ∃ d c' : Int, RwI l (k + 1) (o ++ [d]) c' ∧ -1 ≤ d ∧ d ≤ 1 ∧ -1 ≤ c' ∧ c' ≤ 1 ∧
    ((at0 l k + c = 0 ∧ d = 0 ∧ c' = 0) ∨ (at0 l k + c = 2 ∧ d = 0 ∧ c' = 1) ∨ (at0 l k + c = -2 ∧ d = 0 ∧ c' = -1) ∨
      (at0 l k + c = 1 ∧ at0 l (k + 1) = 0 ∧ d = 1 ∧ c' = 0) ∨ (at0 l k + c = 1 ∧ at0 l (k + 1) = 1 ∧ d = -1 ∧ c' = 1) ∨ (at0 l k + c = 1 ∧ at0 l (k + 1) = -1 ∧ d = -1 ∧ c' = 1) ∨
      (at0 l k + c = -1 ∧ at0 l (k + 1) = 0 ∧ d = -1 ∧ c' = 0) ∨ (at0 l k + c = -1 ∧ at0 l (k + 1) = 1 ∧ d = 1 ∧ c' = -1) ∨ (at0 l k + c = -1 ∧ at0 l (k + 1) = -1 ∧ d = 1 ∧ c' = -1)) := by
  have hq := allS_at hA k
  have hy := allS_at hA (k + 1)
  have hat := sv_at l k
  have hfin : k = l.length → at0 l k = 0 ∧ at0 l (k + 1) = 0 := fun e => ⟨at0_ge (by omega), at0_ge (by omega)⟩
  have hc0 := h.c0; have hc1 := h.c1
  have hpar := h.par
  have key : ∃ d c' : Int, at0 l k + c = d + 2 * c' ∧ -1 ≤ d ∧ d ≤ 1 ∧ -1 ≤ c' ∧ c' ≤ 1 ∧ ((c + at0 l k) % 2 = 0 → d = 0) ∧ (d ≠ 0 → (c' + at0 l (k + 1)) % 2 = 0) ∧ (k = l.length → c' = 0) ∧
    ((at0 l k + c = 0 ∧ d = 0 ∧ c' = 0) ∨ (at0 l k + c = 2 ∧ d = 0 ∧ c' = 1) ∨ (at0 l k + c = -2 ∧ d = 0 ∧ c' = -1) ∨
      (at0 l k + c = 1 ∧ at0 l (k + 1) = 0 ∧ d = 1 ∧ c' = 0) ∨ (at0 l k + c = 1 ∧ at0 l (k + 1) = 1 ∧ d = -1 ∧ c' = 1) ∨ (at0 l k + c = 1 ∧ at0 l (k + 1) = -1 ∧ d = -1 ∧ c' = 1) ∨
      (at0 l k + c = -1 ∧ at0 l (k + 1) = 0 ∧ d = -1 ∧ c' = 0) ∨ (at0 l k + c = -1 ∧ at0 l (k + 1) = 1 ∧ d = 1 ∧ c' = -1) ∨ (at0 l k + c = -1 ∧ at0 l (k + 1) = -1 ∧ d = 1 ∧ c' = -1)) := by
    obtain ⟨q, hqe⟩ : ∃ q, q = at0 l k := ⟨_, rfl⟩
    obtain ⟨y, hye⟩ : ∃ y, y = at0 l (k + 1) := ⟨_, rfl⟩
    rw [← hqe] at hq hfin ⊢
    rw [← hye] at hy hfin ⊢
    have e : q + c = 0 ∨ q + c = 2 ∨ q + c = -2 ∨ q + c = 1 ∨ q + c = -1 := by omega
    have e2 : y = 0 ∨ y = 1 ∨ y = -1 := by omega
    rcases e with e | e | e | e | e
    · exact ⟨0, 0, by omega, by omega, by omega, by omega, by omega, fun h => by omega, fun h => by omega, fun hk => by have := hfin hk; omega, .inl ⟨e, rfl, rfl⟩⟩
    · exact ⟨0, 1, by omega, by omega, by omega, by omega, by omega, fun h => by omega, fun h => by omega, fun hk => by have := hfin hk; omega, .inr (.inl ⟨e, rfl, rfl⟩)⟩
    · exact ⟨0, -1, by omega, by omega, by omega, by omega, by omega, fun h => by omega, fun h => by omega, fun hk => by have := hfin hk; omega, .inr (.inr (.inl ⟨e, rfl, rfl⟩))⟩
    · rcases e2 with e2 | e2 | e2
      · exact ⟨1, 0, by omega, by omega, by omega, by omega, by omega, fun h => by omega, fun h => by omega, fun hk => by have := hfin hk; omega, .inr (.inr (.inr (.inl ⟨e, e2, rfl, rfl⟩)))⟩
      · exact ⟨-1, 1, by omega, by omega, by omega, by omega, by omega, fun h => by omega, fun h => by omega, fun hk => by have := hfin hk; omega, .inr (.inr (.inr (.inr (.inl ⟨e, e2, rfl, rfl⟩))))⟩
      · exact ⟨-1, 1, by omega, by omega, by omega, by omega, by omega, fun h => by omega, fun h => by omega, fun hk => by have := hfin hk; omega, .inr (.inr (.inr (.inr (.inr (.inl ⟨e, e2, rfl, rfl⟩)))))⟩
    · rcases e2 with e2 | e2 | e2
      · exact ⟨-1, 0, by omega, by omega, by omega, by omega, by omega, fun h => by omega, fun h => by omega, fun hk => by have := hfin hk; omega, .inr (.inr (.inr (.inr (.inr (.inr (.inl ⟨e, e2, rfl, rfl⟩))))))⟩
      · exact ⟨1, -1, by omega, by omega, by omega, by omega, by omega, fun h => by omega, fun h => by omega, fun hk => by have := hfin hk; omega, .inr (.inr (.inr (.inr (.inr (.inr (.inr (.inl ⟨e, e2, rfl, rfl⟩)))))))⟩
      · exact ⟨1, -1, by omega, by omega, by omega, by omega, by omega, fun h => by omega, fun h => by omega, fun hk => by have := hfin hk; omega, .inr (.inr (.inr (.inr (.inr (.inr (.inr (.inr (⟨e, e2, rfl, rfl⟩))))))))⟩
  obtain ⟨d, c', k1, k2, k3, k4, k5, k6, k7, k8, k9⟩ := key
  refine ⟨d, c', ⟨by rw [List.length_append, h.len]; rfl, by omega, fun e => k8 (by omega), allS_snoc h.all k2 k3, spr_snoc h.spr (fun j hj h0 => k6 (hpar j (by rw [← h.len]; exact hj) h0)), k4, k5, fun j hj h0 => ?_, ?_⟩, k2, k3, k4, k5, k9⟩
  · have : j = k := by omega
    subst this
    rw [at0_snoc, h.len, if_neg (by omega), if_pos rfl] at h0
    exact k7 h0
  · have hv := h.val
    rw [sv_snoc, h.len, Int.pow_succ]
    rw [hat] at hv
    rw [← hv]
    have e : c + (at0 l k + 2 * sv (l.drop (k + 1))) = d + 2 * (c' + sv (l.drop (k + 1))) := by omega
    rw [e, Int.mul_add (2 ^ k) d, Int.mul_assoc]; omega

end Go.Proofs.Ytiemhhkoegkleaa
