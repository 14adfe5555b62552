/- Fibonacci digits: plain facts that the program's way rests on. -/
import Derived.Test.YtkimojjhmllnfaaFbZer
import Derived.Test.YtkimojjhmllnfaaWithin
set_option linter.unusedVariables false
set_option linter.unusedSimpArgs false
set_option maxRecDepth 100000
namespace Go.Proofs.Ytkimojjhmllnfaa
open Go.ChangeShapes Go.WideShapes Go.ChangeAt Go.RowKit

/-! ### sparse digits by the number of places -/
theorem sp_at {c n : Nat} (hc : c ≤ 58) (h1 : n < fp c) : (trT (gs c n)).reverse = sp n := by
  obtain ⟨z, hz⟩ := gs_pad 58 c n hc h1
  unfold sp
  rw [hz, trT_zeros]
theorem sp_gs {c n : Nat} (hc : c ≤ 58) (h1 : n < fp c) (h2 : c = 0 ∨ fp (c - 1) ≤ n) : sp n = (gs c n).reverse := by
  rw [← sp_at hc h1]
  cases c with
  | zero => rfl
  | succ j =>
    rw [Nat.add_sub_cancel] at h2
    have h2 : fp j ≤ n := by rcases h2 with h | h <;> omega
    rw [gs, if_pos h2, trT, if_neg (by decide)]
theorem sp_len_at {c n : Nat} (hc : c ≤ 58) (h1 : n < fp c) (h2 : c = 0 ∨ fp (c - 1) ≤ n) : (sp n).length = c := by
  rw [sp_gs hc h1 h2, List.length_reverse, gs_len]
/-- how far the count of places has come -/
structure CtA (N k : Nat) : Prop where
  lo : k = 0 ∨ fp (k - 1) ≤ N
  small : k ≤ 56
theorem ctA_start (N : Nat) : CtA N 0 := ⟨.inl rfl, by omega⟩
theorem ctA_next {N k : Nat} (h : CtA N k) (hN : N ≤ 500000000000) (hlt : fp k ≤ N) : CtA N (k + 1) := by
  refine ⟨.inr (by rw [Nat.add_sub_cancel]; exact hlt), ?_⟩
  rcases Nat.lt_or_ge k 56 with h' | h'
  · omega
  · have := fp_mono (show 56 ≤ k by omega)
    rw [fp_56] at this
    omega
theorem ctA_end {N k : Nat} (h : CtA N k) (hlt : ¬ fp k ≤ N) : sp N = (gs k N).reverse := sp_gs (by have := h.small; omega) (by omega) h.lo
/-- the digits that are written, the greatest place first: P of them -/
structure SpC (N c g n : Nat) (P : List Int) : Prop where
  le : g ≤ c
  eq : P ++ gs g n = gs c N
  len : P.length = c - g
  small : n ≤ N
theorem spC_start (N c : Nat) : SpC N c c N [] := ⟨Nat.le_refl _, rfl, by simp, Nat.le_refl _⟩
theorem spC_one {N c j n : Nat} {P : List Int} (h : SpC N c (j + 1) n P) (hf : fp j ≤ n) : SpC N c j (n - fp j) (P ++ [1]) := by
  obtain ⟨h1, h2, h3, h4⟩ := h
  rw [gs, if_pos hf] at h2
  exact ⟨by omega, by rw [List.append_assoc]; exact h2, by rw [List.length_append, h3, List.length_singleton]; omega, by omega⟩
theorem spC_no {N c j n : Nat} {P : List Int} (h : SpC N c (j + 1) n P) (hf : ¬ fp j ≤ n) : SpC N c j n (P ++ [0]) := by
  obtain ⟨h1, h2, h3, h4⟩ := h
  rw [gs, if_neg hf] at h2
  exact ⟨by omega, by rw [List.append_assoc]; exact h2, by rw [List.length_append, h3, List.length_singleton]; omega, h4⟩
theorem spC_end {N c n : Nat} {P : List Int} (h : SpC N c 0 n P) : P = gs c N := by
  have h2 := h.eq
  rwa [show gs 0 n = [] from rfl, List.append_nil] at h2
/-- the row while it is filled from its end -/
def fillT (g : Nat) (P : List Int) : List Int := List.replicate g 0 ++ P.reverse
theorem fillT_zero (P : List Int) : fillT 0 P = P.reverse := rfl
theorem fillT_set (j : Nat) (P : List Int) (d : Int) : (fillT (j + 1) P).set j d = fillT j (P ++ [d]) := by
  unfold fillT
  rw [List.reverse_append, List.reverse_singleton, List.replicate_succ', List.append_assoc, List.set_append_right _ _ (by simp)]
  simp
theorem fillT_no (j : Nat) (P : List Int) : fillT (j + 1) P = fillT j (P ++ [0]) := by
  unfold fillT
  rw [List.reverse_append, List.reverse_singleton, List.replicate_succ', List.append_assoc]
theorem fillT_len (g : Nat) (P : List Int) : (fillT g P).length = g + P.length := by
  unfold fillT; simp

/-! ### dense digits: 1 less a sparse digit -/
theorem gd_gs : ∀ (k n : Nat), n + 2 ≤ fp (k + 1) → gd k n = (gs k (fp (k + 1) - 2 - n)).map (fun d => 1 - d)
  | 0, n, _ => rfl
  | k + 1, n, h => by
    rw [fp_s] at h
    have hl := fp_lt k
    rw [gd, gs]
    by_cases hf : fp (k + 1) ≤ n + 1
    · have e : fp (k + 1) - 2 - (n - fp k) = fp (k + 1 + 1) - 2 - n := by
        rw [show fp (k + 1 + 1) = fp k + fp (k + 1) from fp_s k]; omega
      rw [if_pos hf, if_neg (by rw [show fp (k + 1 + 1) = fp k + fp (k + 1) from fp_s k]; omega), gd_gs k (n - fp k) (by omega), e, List.map_cons]; rfl
    · have e : fp (k + 1 + 1) - 2 - n - fp k = fp (k + 1) - 2 - n := by
        rw [show fp (k + 1 + 1) = fp k + fp (k + 1) from fp_s k]; omega
      rw [if_neg hf, if_pos (by rw [show fp (k + 1 + 1) = fp k + fp (k + 1) from fp_s k]; omega), gd_gs k n (by omega), e, List.map_cons]; rfl
def neg1 (l : List Int) : List Int := l.map (fun d => 1 - d)
theorem neg1_len (l : List Int) : (neg1 l).length = l.length := List.length_map ..
/-- the row when j sparse digits have been taken away from k digits 1 -/
def takenD (S : List Int) (k j : Nat) : List Int := neg1 (S.take j) ++ List.replicate (k - j) 1
theorem takenD_zero (S : List Int) (k : Nat) : takenD S k 0 = List.replicate k 1 := rfl
theorem takenD_len {S : List Int} {k j : Nat} (hj : j ≤ S.length) (hk : S.length ≤ k) : (takenD S k j).length = k := by
  rw [takenD, List.length_append, neg1_len, List.length_take, List.length_replicate]; omega
theorem takenD_get {S : List Int} {k j : Nat} (hj : j < S.length) (hk : S.length ≤ k) : (takenD S k j)[j]? = some 1 := by
  rw [takenD, List.getElem?_append_right (by rw [neg1_len, List.length_take]; omega), neg1_len, List.length_take, Nat.min_eq_left (by omega), Nat.sub_self, List.getElem?_replicate, if_pos (by omega)]
theorem takenD_set {S : List Int} {k j : Nat} (hj : j < S.length) (hk : S.length ≤ k) : (takenD S k j).set j (1 - S[j]) = takenD S k (j + 1) := by
  obtain ⟨p, hp⟩ : ∃ p, k - j = p + 1 := ⟨k - j - 1, by omega⟩
  unfold takenD
  rw [hp, show k - (j + 1) = p by omega, List.take_succ_eq_append_getElem hj, List.set_append_right _ _ (by rw [neg1_len, List.length_take]; omega), neg1_len, List.length_take, Nat.min_eq_left (by omega), Nat.sub_self, List.replicate_succ, List.set_cons_zero]
  unfold neg1
  rw [List.map_append, List.append_assoc]
  rfl
theorem rev_map {l : List Int} : (neg1 l).reverse = neg1 l.reverse := by unfold neg1; rw [List.map_reverse]
/-- what is left of a full number -/
theorem dense_rest {N k : Nat} (hA : DnA N k) (h2 : N + 2 ≤ fp (k + 1)) : fp (k + 1) - 2 - N < fp k := by
  cases k with
  | zero => have e1 : fp (0 + 1) = 2 := rfl
            have e2 : fp 0 = 1 := rfl
            omega
  | succ j =>
    have h := fp_s j
    have hl := fp_lt j
    have hp := fp_pos (j + 1)
    rcases hA.lo with h0 | h0
    · omega
    · rw [show j + 1 + 1 = j + 2 by omega] at *
      omega
theorem dense_len_le {N k : Nat} (hA : DnA N k) (h2 : N + 2 ≤ fp (k + 1)) : (sp (fp (k + 1) - 2 - N)).length ≤ k := by
  rw [← sp_at (c := k) (by have := hA.small; omega) (dense_rest hA h2), List.length_reverse]
  have := trT_le (gs k (fp (k + 1) - 2 - N))
  rwa [gs_len] at this
theorem dense_take {N k : Nat} (hA : DnA N k) (h2 : N + 2 ≤ fp (k + 1)) : takenD (sp (fp (k + 1) - 2 - N)) k (sp (fp (k + 1) - 2 - N)).length = dn N := by
  have hk : k ≤ 58 := by have := hA.small; omega
  have e := sp_at hk (dense_rest hA h2)
  obtain ⟨z, hz⟩ := trT_pad (gs k (fp (k + 1) - 2 - N))
  have hl := gs_len k (fp (k + 1) - 2 - N)
  rw [← dn_at hk h2]
  have htop : trT (gd k N) = gd k N := by
    cases k with
    | zero => rfl
    | succ j =>
      have h0 : fp (j + 1) ≤ N + 1 := by rcases hA.lo with h | h <;> omega
      rw [gd, if_pos h0, trT, if_neg (by decide)]
  rw [htop, gd_gs k N h2]
  show _ = (neg1 _).reverse
  rw [rev_map]
  obtain ⟨G, hG⟩ : ∃ G, G = gs k (fp (k + 1) - 2 - N) := ⟨_, rfl⟩
  obtain ⟨S, hS⟩ : ∃ S, S = sp (fp (k + 1) - 2 - N) := ⟨_, rfl⟩
  rw [← hG] at e hz hl ⊢
  rw [← hS] at e ⊢
  have hg : G.reverse = S ++ List.replicate z 0 := by
    rw [← e, ← List.reverse_replicate, ← List.reverse_append, ← hz]
  have hlen : k - S.length = z := by
    have := congrArg List.length hg
    rw [List.length_reverse, List.length_append, List.length_replicate] at this
    omega
  rw [hg, takenD, List.take_of_length_le (Nat.le_refl _), hlen]
  simp [neg1]

/-! ### values, from any place on -/
theorem vL_takeG {l : List Int} (g : Nat) {k : Nat} (h : k < l.length) : vL g (l.take (k + 1)) = vL g (l.take k) + l[k].toNat * fp (g + k) := by
  rw [List.take_succ_eq_append_getElem h, vL_append, List.length_take, Nat.min_eq_left (by omega)]; simp [vL]
theorem vL_bd {l : List Int} (g : Nat) (hb : B01 l) (hl : g + l.length ≤ 59) (k : Nat) : vL g (l.take k) ≤ 4052739537881 := by
  have h := vL_le (l := l.take k) g (fun d hd => hb d (List.mem_of_mem_take hd))
  have h2 : (l.take k).length ≤ l.length := by rw [List.length_take]; omega
  have := fp_60 (show g + (l.take k).length + 1 ≤ 60 by omega)
  omega
theorem okF_in (l : List Int) (h : l.length ≤ 58) : okIn l 0 1 = okF l := by
  simp only [okF, okIn, decide_eq_true h, decide_eq_true (show l.length ≤ 60 by omega), Bool.true_and]

/-! ### lists counted -/
theorem cnt_step {k n : Nat} : cnt (k + 1) n = (if fp k ≤ n then cnt k (n - fp k) else 0) + cnt k n := rfl

end Go.Proofs.Ytkimojjhmllnfaa
