/- Places of coins, plain: facts for the law. -/
import Derived.Test.YtbfoaibgenepoaaCoCnt
import Derived.Test.YtbfoaibgenepoaaCoFir
import Derived.Test.YtbfoaibgenepoaaCoRec
set_option linter.unusedVariables false
set_option linter.unusedSimpArgs false
set_option maxRecDepth 100000
namespace Go.Proofs.Ytbfoaibgenepoaa

/-! ### more than one way -/
theorem cwU_ge {c : Nat} {f : Nat → Int} (hf : ∀ y, 1 ≤ f y) (x : Nat) : 1 ≤ cwU c f x := by
  induction x using Nat.strongRecOn with
  | _ x ih =>
    by_cases hx : 0 < c ∧ c ≤ x
    · rw [cwU_more hx.1 hx.2]
      have := hf x
      have := ih (x - c) (by omega)
      omega
    · rw [cwU, if_neg hx]; exact hf x
theorem cwF_ways {l : List Int} (h : Coins l) : ∀ (j : Nat), j < l.length → ∀ x, 1 ≤ cwF (l.take (j + 1)) x ∧ (1 < cwF (l.take (j + 1)) x ↔ ∃ i, ∃ hi : i < l.length, 1 ≤ i ∧ i ≤ j ∧ l[i] ≤ x)
  | 0, h0, x => by
    obtain ⟨t, ht⟩ := h.one
    have e : cwF (l.take 1) x = 1 := by subst ht; exact cwU_one x
    rw [e]
    refine ⟨Int.le_refl _, fun hh => by omega, fun ⟨i, _, h1, h2, _⟩ => by omega⟩
  | j + 1, hj, x => by
    rw [cwF_take hj]
    have ih := cwF_ways h j (by omega)
    have hg := coin_ge h (j + 1) hj
    obtain ⟨c, hc⟩ : ∃ c : Nat, l[j + 1] = c := ⟨l[j + 1].toNat, by omega⟩
    rw [hc, Int.toNat_natCast]
    rw [hc] at hg
    refine ⟨cwU_ge (fun y => (ih y).1) x, ?_⟩
    by_cases hx : c ≤ x
    · have h1 := (ih x).1
      have h2 := cwU_ge (c := c) (fun y => (ih y).1) (x - c)
      rw [cwU_more (by omega) hx]
      exact ⟨fun _ => ⟨j + 1, hj, by omega, by omega, by rw [hc]; omega⟩, fun _ => by omega⟩
    · rw [cwU_less (by omega), (ih x).2]
      constructor
      · rintro ⟨i, hi, h1, h2, h3⟩; exact ⟨i, hi, h1, by omega, h3⟩
      · rintro ⟨i, hi, h1, h2, h3⟩
        by_cases e : i = j + 1
        · subst e; rw [hc] at h3; omega
        · exact ⟨i, hi, h1, by omega, h3⟩
/-- how many coins above 1 are at most n -/
def cnM (n : Int) (l : List Int) : Nat := (l.filter (fun x => decide (1 < x) && decide (x ≤ n))).length
theorem cnM_take {n : Int} {l : List Int} {k : Nat} (h : k < l.length) : cnM n (l.take (k + 1)) = cnM n (l.take k) + (if 1 < l[k] ∧ l[k] ≤ n then 1 else 0) := by
  rw [cnM, cnM, List.take_succ_eq_append_getElem h, List.filter_append, List.length_append]
  congr 1
  by_cases h1 : 1 < l[k] ∧ l[k] ≤ n
  · rw [if_pos h1]; simp [h1.1, h1.2]
  · rw [if_neg h1, List.length_eq_zero_iff, List.filter_eq_nil_iff]
    intro a ha
    simp at ha
    subst ha
    simpa using h1
theorem cnM_le (n : Int) (l : List Int) : cnM n l ≤ l.length := List.length_filter_le _ _
theorem cnM_pos {n : Nat} {l : List Int} (h : Coins l) : (0 < cnM n l) ↔ 1 < cwF l n := by
  obtain ⟨q, hq⟩ : ∃ q, l.length = q + 1 := by obtain ⟨t, ht⟩ := h.one; exact ⟨t.length, by rw [ht]; rfl⟩
  have h1 := (cwF_ways h q (by omega) n).2
  rw [List.take_of_length_le (by omega)] at h1
  rw [h1, cnM, List.length_pos_iff_exists_mem]
  constructor
  · rintro ⟨a, ha⟩
    rw [List.mem_filter, Bool.and_eq_true, decide_eq_true_eq, decide_eq_true_eq] at ha
    obtain ⟨i, hi, rfl⟩ := List.getElem_of_mem ha.1
    refine ⟨i, hi, ?_, by omega, ha.2.2⟩
    cases i with
    | zero =>
      obtain ⟨t, ht⟩ := h.one
      subst ht
      have := ha.2.1
      simp at this
    | succ i => omega
  · rintro ⟨i, hi, i1, i2, i3⟩
    refine ⟨l[i], ?_⟩
    rw [List.mem_filter, Bool.and_eq_true, decide_eq_true_eq, decide_eq_true_eq]
    have := coin_ge h i hi
    exact ⟨List.getElem_mem hi, by omega, i3⟩
theorem cw_zero {l : List Int} (h : Coins l) : cwF l 0 = 1 := by
  obtain ⟨q, hq⟩ : ∃ q, l.length = q + 1 := by obtain ⟨t, ht⟩ := h.one; exact ⟨t.length, by rw [ht]; rfl⟩
  have h1 := cwF_ways h q (by omega) 0
  rw [List.take_of_length_le (by omega)] at h1
  have h2 : ¬ 1 < cwF l 0 := fun h3 => by
    obtain ⟨i, hi, _, _, h4⟩ := h1.2.1 h3
    have := (h.bd _ (List.getElem_mem hi)).1
    omega
  omega

/-! ### greedy digits and the fewest -/
theorem gz_few {l : List Int} (h : Coins l) (n : Nat) : fw1 l n ≤ (gz n l).sum :=
  (fw_few h n).least (gz n l) (gz_len _ _) (fun x hx => (gz_bd h (by omega) x hx).1) (gz_val h n)
theorem sum_zeroC : ∀ {d : List Int}, (∀ x ∈ d, x = 0) → d.sum = 0
  | [], _ => rfl
  | x :: d, h => by rw [List.sum_cons, h x (by simp), sum_zeroC (fun y hy => h y (by simp [hy]))]; rfl
/-- where one coin less never saves more than one, greedy digits are the fewest -/
theorem gr_opt {l : List Int} (h : Coins l) (N : Nat) (hs : ∀ n : Nat, n ≤ N → ∀ c ∈ l, c ≤ n → (gz n l).sum ≤ (gz ((n : Int) - c) l).sum + 1) : ∀ n : Nat, n ≤ N → (gz n l).sum ≤ fw1 l n := by
  intro n
  induction n using Nat.strongRecOn with
  | _ n ih =>
    intro hn
    obtain ⟨d, d1, d2, d3, d4⟩ := (fw_few h n).some
    by_cases h0 : n = 0
    · subst h0
      have e : (gz ((0 : Nat) : Int) l).sum = 0 := sum_zeroC (fun x hx => by have := gz_bd h (Int.le_refl 0) x hx; omega)
      rw [e]; exact (fw1_bd l 0).2.1
    · obtain ⟨c, hc, e, e1, e2, e3, e4⟩ := coin_less d l d1 d2 (by rw [d3]; omega)
      have hb : ∀ x ∈ l, 1 ≤ x := fun x hx => (h.bd x hx).1
      have h4 := dot_nonneg e l e2 hb
      have h5 := hb c hc
      obtain ⟨m, hm⟩ : ∃ m : Nat, (n : Int) - c = m := ⟨((n : Int) - c).toNat, by omega⟩
      have h6 := hs n hn c hc (by omega)
      have h7 := ih m (by omega) (by omega)
      have h8 := (fw_few h m).least e e1 e2 (by rw [e3, d3]; exact hm)
      rw [hm] at h6
      omega
def optB (l : List Int) (N : Nat) : Bool := (List.range (N + 1)).all fun n => l.all fun c => !decide (c ≤ (n : Int)) || decide ((gz n l).sum ≤ (gz ((n : Int) - c) l).sum + 1)
theorem optB_yes {l : List Int} {N : Nat} (h : optB l N = true) : ∀ n : Nat, n ≤ N → ∀ c ∈ l, c ≤ n → (gz n l).sum ≤ (gz ((n : Int) - c) l).sum + 1 := fun n hn c hc hcn => by
  have h1 := List.all_eq_true.1 h n (List.mem_range.2 (by omega))
  have h2 := List.all_eq_true.1 h1 c hc
  simpa [hcn] using h2
theorem good_of {l : List Int} (h : Coins l) {N : Nat} (ho : optB l N = true) {n : Nat} (hn : n ≤ N) : badG l n = false := by
  have := gr_opt h N (optB_yes ho) n hn
  rw [badG, decide_eq_false (by omega)]
theorem fuN_none {p : Nat → Bool} {m : Nat} (h : ∀ i, i < m → p i = false) : fuN p m 0 = -1 := by
  have : ∀ m k, (∀ i, k ≤ i → i < k + m → p i = false) → fuN p m k = -1 := by
    intro m
    induction m with
    | zero => intro k _; rfl
    | succ m ih =>
      intro k hk
      rw [fuN, hk k (Nat.le_refl _) (by omega), if_neg (by simp)]
      exact ih (k + 1) (fun i h1 h2 => hk i (by omega) (by omega))
  exact this m 0 (fun i _ h2 => h i (by omega))
theorem fuN_first {p : Nat → Bool} {m j : Nat} (hj : j < m) (h : ∀ i, i < j → p i = false) (hp : p j = true) : fuN p m 0 = j := by
  rcases Int.lt_or_le (fuN p m 0) 0 with h1 | h1
  · have := fuN_no h1 j (Nat.zero_le _) (by omega)
    rw [hp] at this; cases this
  · obtain ⟨k, e, _, h2, h3, h4⟩ := fuN_yes h1
    rw [e]
    rcases Nat.lt_trichotomy k j with h5 | h5 | h5
    · rw [h k h5] at h3; cases h3
    · rw [h5]
    · have := h4 j (Nat.zero_le _) h5
      rw [hp] at this; cases this
theorem coins_of {l : List Int} (h : okC l = true) : Coins l := okC_yes h
theorem fib_first : rFirstUngreedy0 [1, 2, 3, 5, 8, 13, 21] 200 = -1 := by
  have hok : okC [1, 2, 3, 5, 8, 13, 21] = true := by decide +kernel
  have ho : optB [1, 2, 3, 5, 8, 13, 21] 200 = true := by decide +kernel
  have e : inB 200 0 400 = true := by decide
  rw [rFirstUngreedy0, hok, e, Bool.true_and, if_pos rfl]
  refine fuN_none (fun i hi => good_of (okC_yes hok) ho ?_)
  have : (200 : Int).toNat = 200 := rfl
  omega
theorem old_first : rFirstUngreedy0 [1, 3, 4] 50 = 6 := by
  have hok : okC [1, 3, 4] = true := by decide +kernel
  have ho : optB [1, 3, 4] 5 = true := by decide +kernel
  have e : inB 50 0 400 = true := by decide
  have hb : badG [1, 3, 4] 6 = true := by decide +kernel
  rw [rFirstUngreedy0, hok, e, Bool.true_and, if_pos rfl]
  have : (50 : Int).toNat = 50 := rfl
  exact fuN_first (j := 6) (by omega) (fun i hi => good_of (okC_yes hok) ho (by omega)) hb
theorem rec_fib : rRecurrentCoins0 1 1 7 = [1, 2, 3, 5, 8, 13, 21] ∧ rRecurrentCoins1 1 1 7 = true := by
  constructor <;> decide +kernel

end Go.Proofs.Ytbfoaibgenepoaa
