/- Fibonacci digits: what the law on pairs says of plain numbers. -/
import Derived.Test.YtkimojjhmllnfaaLgR
import Derived.Test.YtkimojjhmllnfaaFbFact
set_option linter.unusedVariables false
set_option linter.unusedSimpArgs false
set_option maxRecDepth 100000
namespace Go.Proofs.Ytkimojjhmllnfaa
open Go.ChangeShapes Go.WideShapes Go.ChangeAt Go.RowKit

/-- the first number of a pair -/
def wyA (k : Nat) : Nat := (k + isq (5 * (k * k))) / 2
theorem wyA_phi {k : Nat} (h : 1 ≤ k) : Lp (wyA k) k ∧ Gp (wyA k + 1) k := phi_root h (isq_le _) (isq_lt _)
theorem wyA_le {k : Nat} (h : 1 ≤ k) : k ≤ wyA k ∧ wyA k ≤ 2 * k := by
  refine ⟨?_, lp_two (wyA_phi h).1⟩
  have := gp_one (wyA_phi h).2
  omega
theorem wyA_next {k : Nat} (h : 1 ≤ k) : wyA k < wyA (k + 1) := pair_next (wyA_phi h).1 (wyA_phi (k := k + 1) (by omega)).2
theorem wy_second {k : Nat} (h : 1 ≤ k) (hk : k ≤ 100000000) : vL 1 (sp (wyA k)) = wyA k + k := by
  have := wyA_le h
  exact pair_second (b01_sp _) (sp_val (by omega)) (wyA_phi h).1 (wyA_phi h).2
theorem wy_shift {k : Nat} (h : 1 ≤ k) (hk : k ≤ 100000000) : vL 1 (sp (k - 1)) + 1 = wyA k :=
  pair_shift (b01_sp _) (by rw [sp_val (by omega)]; omega) (wyA_phi h).1 (wyA_phi h).2

/-! ### zeros ahead of the first 1 -/
theorem zrs_pad (k : Nat) : ∀ {l : List Int}, 1 ∈ l → zrs (l ++ List.replicate k 0) = zrs l
  | [], h => by simp at h
  | d :: t, h => by
    rw [List.cons_append, zrs, zrs]
    by_cases hd : d = 0
    · rw [if_pos hd, if_pos hd, zrs_pad k (by rcases List.mem_cons.1 h with h | h; · omega
                                              · exact h)]
    · rw [if_neg hd, if_neg hd]
theorem sp_of {s : List Int} {n : Nat} (hb : B01 s) (hp : NoP 1 s) (hv : vL 0 s = n) (hn : n ≤ 500000000000) (h1 : 1 ∈ s) : zrs (sp n) = zrs s := by
  have hs : IsT 1 n (trT s.reverse) := ⟨trT_b01 (b01_rev hb), trT_noP ((noP_rev 1 s).2 hp), trT_top _, by rw [trT_val, vL_rev', hv]⟩
  have e := isT_one hs (isT_sp hn)
  obtain ⟨z, hz⟩ := trT_pad s.reverse
  have e2 : s = sp n ++ List.replicate z 0 := by
    rw [sp, ← e]
    have := congrArg List.reverse hz
    rw [List.reverse_reverse, List.reverse_append, List.reverse_replicate] at this
    exact this
  have h3 : 1 ∈ sp n := by
    rw [e2] at h1
    rcases List.mem_append.1 h1 with h | h
    · exact h
    · have := (List.mem_replicate.1 h).2; omega
  rw [e2, zrs_pad z h3]
theorem wy_even {k : Nat} (h : 1 ≤ k) (hk : k ≤ 100000000) : zrs (sp (wyA k)) % 2 = 0 := by
  have hp : NoP 1 (sp (k - 1)) := by rw [← prs_noP]; exact sp_prs (by omega)
  obtain ⟨s, s1, s2, s3, s4, j, s5, s6⟩ := one_ahead _ (Nat.le_refl _) (b01_sp (k - 1)) hp
  have hw := wyA_le h
  have e : vL 0 s = wyA k := by
    rw [s3, vL, ← wy_shift h hk]
    have : fp 0 = 1 := rfl
    rw [this]; simp; omega
  rw [sp_of s1 s2 e (by omega) s6]; exact s4
theorem wy_odd {k : Nat} (h : 1 ≤ k) (hk : k ≤ 100000000) : zrs (sp (wyA k + k)) % 2 = 1 := by
  have hw := wyA_le h
  have hp : NoP 1 (sp (wyA k)) := by rw [← prs_noP]; exact sp_prs (by omega)
  have e : vL 0 (0 :: sp (wyA k)) = wyA k + k := by rw [vL, Nat.zero_add, wy_second h hk]; simp
  have h1 : 1 ∈ sp (wyA k) := by
    apply Classical.byContradiction
    intro hn
    have hz : ∀ l : List Int, B01 l → 1 ∉ l → ∀ i, vL i l = 0 := by
      intro l
      induction l with
      | nil => intro _ _ _; rfl
      | cons d t ih =>
        intro hb hn i
        rcases b01_head hb with rfl | rfl
        · rw [vL, ih (b01_tail hb) (fun hh => hn (List.mem_cons_of_mem _ hh))]; simp
        · exact absurd (by simp) hn
    have := hz _ (b01_sp _) hn 0
    rw [sp_val (by omega)] at this
    omega
  have := wy_even h hk
  rw [sp_of (b01_cons (.inl rfl) (b01_sp _)) (noP_zero hp) e (by omega) (List.mem_cons_of_mem _ h1), zrs, if_pos rfl]
  omega

end Go.Proofs.Ytkimojjhmllnfaa
