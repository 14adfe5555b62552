/- Signed binary digits: plain functions and facts: the sparse digits of an integer, values, weights and counts. -/
import Derived.Test.YtiemhhkoegkleaaLgR
import Derived.Test.YtiemhhkoegkleaaNgM
import Derived.Deep.LoopGhost
set_option linter.unusedVariables false
set_option linter.unusedSimpArgs false
set_option maxRecDepth 100000
namespace Go.Proofs.Ytiemhhkoegkleaa

def AllS (l : List Int) : Prop := ∀ d ∈ l, -1 ≤ d ∧ d ≤ 1
def NrmS (l : List Int) : Prop := AllS l ∧ (l = [] ∨ l.getLast? ≠ some 0)
def sv (l : List Int) : Int := hv 2 l
theorem sv_nil : sv [] = 0 := rfl
theorem sv_cons (d : Int) (l : List Int) : sv (d :: l) = d + 2 * sv l := rfl
theorem sv_at (l : List Int) (k : Nat) : sv (l.drop k) = at0 l k + 2 * sv (l.drop (k + 1)) := hv_at 2 l k
theorem sv_snoc (l : List Int) (d : Int) : sv (l ++ [d]) = sv l + 2 ^ l.length * d := hv_snoc 2 l d
theorem allS_at {l : List Int} (h : AllS l) (k : Nat) : -1 ≤ at0 l k ∧ at0 l k ≤ 1 := by
  rcases Nat.lt_or_ge k l.length with hk | hk
  · rw [at0_lt hk]; exact h _ (List.getElem_mem hk)
  · rw [at0_ge hk]; omega
theorem at0_zero (d : Int) (l : List Int) : at0 (d :: l) 0 = d := rfl
theorem at0_succ (d : Int) (l : List Int) (k : Nat) : at0 (d :: l) (k + 1) = at0 l k := rfl
theorem at0_nil (k : Nat) : at0 [] k = 0 := rfl

/-- the sparse digit of an integer -/
def sdig (n : Int) : Int := if n % 2 = 0 then 0 else if n % 4 = 1 then 1 else -1
theorem sdig_zero : sdig 0 = 0 := rfl
theorem sdig_even {n : Int} (h : n % 2 = 0) : sdig n = 0 := by unfold sdig; rw [if_pos h]
theorem sdig_facts (n : Int) : sdig n + 2 * ((n - sdig n) / 2) = n ∧ -1 ≤ sdig n ∧ sdig n ≤ 1 ∧ (sdig n = 0 ∨ ((n - sdig n) / 2) % 2 = 0) := by
  unfold sdig
  split
  · omega
  · split <;> omega
theorem sdig_half (n : Int) : 2 * ((n - sdig n) / 2).natAbs ≤ n.natAbs + 1 := by
  have := (sdig_facts n).1; have := (sdig_facts n).2.1; have := (sdig_facts n).2.2.1
  omega
theorem sdig_lt {n : Int} (h : n ≠ 0) : ((n - sdig n) / 2).natAbs < n.natAbs := by
  have h1 := sdig_half n
  have h2 := sdig_facts n
  rcases Nat.lt_or_ge n.natAbs 2 with h3 | h3
  · have : n = 1 ∨ n = -1 := by omega
    rcases this with rfl | rfl
    · decide
    · decide
  · omega
theorem sdig_neg (n : Int) : sdig (-n) = -sdig n := by
  unfold sdig
  have e : n % 2 = 0 ∨ n % 4 = 1 ∨ n % 4 = 3 := by omega
  rcases e with e | e | e
  · rw [if_pos (by omega), if_pos e]; rfl
  · rw [if_neg (by omega), if_neg (by omega), if_neg (by omega), if_pos e]
  · rw [if_neg (by omega), if_pos (by omega), if_neg (by omega), if_neg (by omega)]; rfl

/-- the sparse digits, at most f of them -/
def spF : Nat → Int → List Int
  | 0, _ => []
  | f + 1, n => if n = 0 then [] else sdig n :: spF f ((n - sdig n) / 2)
def spd (n : Int) : List Int := spF n.natAbs n
theorem spF_zero (f : Nat) : spF f 0 = [] := by cases f <;> rfl
theorem spF_succ {f : Nat} {n : Int} (h : n ≠ 0) : spF (f + 1) n = sdig n :: spF f ((n - sdig n) / 2) := by simp only [spF, if_neg h]
theorem spF_fuel : ∀ (f g : Nat) (n : Int), n.natAbs ≤ f → n.natAbs ≤ g → spF f n = spF g n
  | 0, g, n, h, _ => by
    have : n = 0 := by omega
    subst this; rw [spF_zero, spF_zero]
  | f + 1, 0, n, _, h => by
    have : n = 0 := by omega
    subst this; rw [spF_zero, spF_zero]
  | f + 1, g + 1, n, h1, h2 => by
    by_cases h : n = 0
    · subst h; rw [spF_zero, spF_zero]
    · have := sdig_lt h
      rw [spF_succ h, spF_succ h, spF_fuel f g _ (by omega) (by omega)]
theorem spd_zero : spd 0 = [] := rfl
theorem spd_step {n : Int} (h : n ≠ 0) : spd n = sdig n :: spd ((n - sdig n) / 2) := by
  have hlt := sdig_lt h
  obtain ⟨m, hm⟩ : ∃ m, n.natAbs = m + 1 := ⟨n.natAbs - 1, by omega⟩
  rw [spd, hm, spF_succ h, spd, spF_fuel m _ _ (by omega) (Nat.le_refl _)]
theorem spd_induct {P : Int → Prop} (h0 : P 0) (hs : ∀ n, n ≠ 0 → P ((n - sdig n) / 2) → P n) : ∀ n, P n := by
  have key : ∀ (k : Nat) (n : Int), n.natAbs ≤ k → P n := by
    intro k
    induction k with
    | zero => intro n h; have : n = 0 := by omega
              subst this; exact h0
    | succ k ih =>
      intro n h
      by_cases hn : n = 0
      · subst hn; exact h0
      · exact hs n hn (ih _ (by have := sdig_lt hn; omega))
  exact fun n => key _ n (Nat.le_refl _)
theorem sv_sp : ∀ n, sv (spd n) = n := by
  refine spd_induct (by rw [spd_zero]; rfl) (fun n hn ih => ?_)
  rw [spd_step hn, sv_cons, ih]
  exact (sdig_facts n).1
theorem allS_sp : ∀ n, AllS (spd n) := by
  refine spd_induct (fun d hd => by rw [spd_zero] at hd; simp at hd) (fun n hn ih d hd => ?_)
  rw [spd_step hn] at hd
  rcases List.mem_cons.1 hd with rfl | hd
  · exact ⟨(sdig_facts n).2.1, (sdig_facts n).2.2.1⟩
  · exact ih d hd
theorem spd_last : ∀ n, spd n = [] ∨ (spd n).getLast? ≠ some 0 := by
  refine spd_induct (.inl spd_zero) (fun n hn ih => .inr ?_)
  rw [spd_step hn]
  by_cases hq : (n - sdig n) / 2 = 0
  · rw [hq, spd_zero]
    have := (sdig_facts n).1
    rw [hq, Int.mul_zero, Int.add_zero] at this
    simp [this, hn]
  · rw [spd_step hq] at ih ⊢
    rw [List.getLast?_cons_cons]
    exact ih.resolve_left (by simp)
theorem nrmS_sp (n : Int) : NrmS (spd n) := ⟨allS_sp n, spd_last n⟩
theorem at0_sp (n : Int) : at0 (spd n) 0 = sdig n := by
  by_cases h : n = 0
  · subst h; rfl
  · rw [spd_step h]; rfl
theorem nrmS_tail {d : Int} {l : List Int} (h : NrmS (d :: l)) : NrmS l := by
  refine ⟨fun x hx => h.1 x (List.mem_cons_of_mem _ hx), ?_⟩
  cases l with
  | nil => exact .inl rfl
  | cons y l => right; have := h.2.resolve_left (by simp); rwa [List.getLast?_cons_cons] at this
/-- no two that follow each other are both not 0 -/
def Spr (l : List Int) : Prop := ∀ j, at0 l j = 0 ∨ at0 l (j + 1) = 0
def sprB : List Int → Bool
  | [] => true
  | d :: l => (d == 0 || at0 l 0 == 0) && sprB l
theorem sprB_iff : ∀ l, sprB l = true ↔ Spr l
  | [] => by simp [sprB, Spr, at0_nil]
  | d :: l => by
    rw [sprB, Bool.and_eq_true, sprB_iff l]
    constructor
    · rintro ⟨h1, h2⟩ j
      cases j with
      | zero => simpa [at0_zero, at0_succ] using h1
      | succ j => rw [at0_succ, at0_succ]; exact h2 j
    · intro h
      refine ⟨?_, fun j => by have := h (j + 1); rwa [at0_succ, at0_succ] at this⟩
      have := h 0
      simpa [at0_zero, at0_succ] using this
theorem spr_sp : ∀ n, Spr (spd n) := by
  refine spd_induct (fun j => by rw [spd_zero]; exact .inl rfl) (fun n hn ih j => ?_)
  rw [spd_step hn]
  cases j with
  | zero =>
    rw [at0_zero, at0_succ, at0_sp]
    rcases (sdig_facts n).2.2.2 with h | h
    · exact .inl h
    · right; exact sdig_even h
  | succ j => rw [at0_succ, at0_succ]; exact ih j
theorem spr_tail {d : Int} {l : List Int} (h : Spr (d :: l)) : Spr l := fun j => by have := h (j + 1); rwa [at0_succ, at0_succ] at this
theorem sv_ne : ∀ {l : List Int}, NrmS l → l ≠ [] → sv l ≠ 0
  | [], _, h => absurd rfl h
  | d :: l, hN, _ => by
    have hd := hN.1 d (by simp)
    rw [sv_cons]
    intro e
    have hd0 : d = 0 := by omega
    have hv0 : sv l = 0 := by omega
    by_cases hl : l = []
    · subst hl
      have := hN.2.resolve_left (by simp)
      simp [hd0] at this
    · exact sv_ne (nrmS_tail hN) hl hv0
theorem sdig_of {d v : Int} {h1 : -1 ≤ d} {h2 : d ≤ 1} (h : d = 0 ∨ v % 2 = 0) : sdig (d + 2 * v) = d := by
  unfold sdig
  have e : d = 0 ∨ d = 1 ∨ d = -1 := by omega
  rcases e with rfl | rfl | rfl
  · rw [if_pos (by omega)]
  · rw [if_neg (by omega), if_pos (by omega)]
  · rw [if_neg (by omega), if_neg (by omega)]
/-- sparse digits are told by their value -/
theorem spd_sv : ∀ {l : List Int}, NrmS l → Spr l → spd (sv l) = l
  | [], _, _ => rfl
  | d :: l, hN, hS => by
    have hd := hN.1 d (by simp)
    have ih := spd_sv (nrmS_tail hN) (spr_tail hS)
    have hne := sv_ne hN (by simp)
    have e1 : sdig (sv (d :: l)) = d := by
      rw [sv_cons]
      refine sdig_of (h1 := hd.1) (h2 := hd.2) ?_
      rcases hS 0 with h | h
      · exact .inl h
      · right
        rw [at0_succ] at h
        have := sv_at l 0
        rw [List.drop_zero, h] at this
        omega
    rw [spd_step hne, e1, sv_cons, show d + 2 * sv l - d = 2 * sv l by omega, Int.mul_ediv_cancel_left _ (by omega), ih]
theorem spd_len : ∀ (k : Nat) (n : Int), n.natAbs ≤ 2 ^ k → (spd n).length ≤ k + 1 + (if k = 0 then 0 else 1)
  | 0, n, h => by
    have h' : n = 0 ∨ n = 1 ∨ n = -1 := by have : n.natAbs ≤ 1 := by simpa using h
                                           omega
    rcases h' with rfl | rfl | rfl <;> decide
  | k + 1, n, h => by
    by_cases h0 : n = 0
    · subst h0; simp [spd_zero]
    · rw [spd_step h0, List.length_cons]
      have h1 := sdig_half n
      have := spd_len k ((n - sdig n) / 2) (by rw [Nat.pow_succ] at h; omega)
      split at this
      · subst k; simp; omega
      · simp; omega
theorem spd_len42 {n : Int} (h1 : -1000000000000 ≤ n) (h2 : n ≤ 1000000000000) : (spd n).length ≤ 42 := by
  have := spd_len 40 n (by omega)
  simpa using this

/-! ### weights -/
def wt : List Int → Nat
  | [] => 0
  | d :: l => (if d = 0 then 0 else 1) + wt l
theorem wt_le : ∀ l, wt l ≤ l.length
  | [] => by simp [wt]
  | d :: l => by
    have := wt_le l
    rw [wt, List.length_cons]; split <;> omega
theorem wt_snoc : ∀ (l : List Int) (d : Int), wt (l ++ [d]) = wt l + (if d = 0 then 0 else 1)
  | [], d => by simp [wt]
  | x :: l, d => by rw [List.cons_append, wt, wt_snoc l d, wt]; omega
def wn (n : Int) : Nat := wt (spd n)
theorem wn_step {n : Int} (h : n ≠ 0) : wn n = (if sdig n = 0 then 0 else 1) + wn ((n - sdig n) / 2) := by rw [wn, spd_step h]; rfl
theorem wn_even (v : Int) : wn (2 * v) = wn v := by
  by_cases h : v = 0
  · subst h; rfl
  · have e : sdig (2 * v) = 0 := by unfold sdig; rw [if_pos (by omega)]
    rw [wn_step (by omega), e, if_pos rfl, show (2 * v - 0) / 2 = v by omega]; omega
theorem wn_one {v : Int} (h : v % 2 = 0) : wn (2 * v + 1) = 1 + wn v := by
  have e : sdig (2 * v + 1) = 1 := by unfold sdig; rw [if_neg (by omega), if_pos (by omega)]
  rw [wn_step (by omega), e, if_neg (by omega), show (2 * v + 1 - 1) / 2 = v by omega]
theorem wn_three {v : Int} (h : v % 2 = 1) : wn (2 * v + 1) = 1 + wn (v + 1) := by
  have e : sdig (2 * v + 1) = -1 := by unfold sdig; rw [if_neg (by omega), if_neg (by omega)]
  rw [wn_step (by omega), e, if_neg (by omega), show (2 * v + 1 - -1) / 2 = v + 1 by omega]
theorem wn_inc_le : ∀ (k : Nat) (v : Int), v.natAbs ≤ k → wn (2 * v + 1) ≤ 1 + wn v
  | 0, v, h => by
    have : v = 0 := by omega
    subst this; rw [wn_one (by omega)]; omega
  | k + 1, v, h => by
    rcases (show v % 2 = 0 ∨ v % 2 = 1 by omega) with e | e
    · rw [wn_one e]; omega
    · rw [wn_three e]
      rcases (show v % 4 = 1 ∨ v % 4 = 3 by omega) with e4 | e4
      · obtain ⟨t, ht⟩ : ∃ t, v = 4 * t + 1 := ⟨v / 4, by omega⟩
        have h1 : wn v = 1 + wn (2 * t) := by rw [ht, show 4 * t + 1 = 2 * (2 * t) + 1 by omega, wn_one (by omega)]
        have h2 : wn (v + 1) = wn (2 * t + 1) := by rw [ht, show 4 * t + 1 + 1 = 2 * (2 * t + 1) by omega, wn_even]
        have h3 := wn_inc_le k t (by omega)
        rw [h1, h2, wn_even]; omega
      · obtain ⟨t, ht⟩ : ∃ t, v = 2 * t + 1 := ⟨v / 2, by omega⟩
        have h1 : wn v = 1 + wn (t + 1) := by rw [ht, wn_three (by omega)]
        have h2 : wn (v + 1) = wn (t + 1) := by rw [ht, show 2 * t + 1 + 1 = 2 * (t + 1) by omega, wn_even]
        rw [h1, h2]; omega
theorem spd_neg : ∀ n, spd (-n) = (spd n).map (fun d => -d) := by
  refine spd_induct (by rfl) (fun n hn ih => ?_)
  rw [spd_step hn, spd_step (show -n ≠ 0 by omega), sdig_neg, List.map_cons, ← ih]
  congr 2
  have := (sdig_facts n).1
  omega
theorem wt_neg : ∀ l : List Int, wt (l.map (fun d => -d)) = wt l
  | [] => rfl
  | d :: l => by
    rw [List.map_cons, wt, wt, wt_neg l]
    by_cases h : d = 0
    · subst h; rfl
    · rw [if_neg h, if_neg (by omega)]
theorem wn_neg (n : Int) : wn (-n) = wn n := by rw [wn, spd_neg, wt_neg]; rfl
theorem wn_digit {d : Int} (h1 : -1 ≤ d) (h2 : d ≤ 1) (v : Int) : wn (d + 2 * v) ≤ (if d = 0 then 0 else 1) + wn v := by
  have e : d = 0 ∨ d = 1 ∨ d = -1 := by omega
  rcases e with rfl | rfl | rfl
  · rw [if_pos rfl, show 0 + 2 * v = 2 * v by omega, wn_even]; omega
  · rw [if_neg (by omega), Int.add_comm]; exact wn_inc_le _ v (Nat.le_refl _)
  · rw [if_neg (by omega), ← wn_neg, ← wn_neg v, show -(-1 + 2 * v) = 2 * (-v) + 1 by omega]; exact wn_inc_le _ (-v) (Nat.le_refl _)
/-- no signed digits have a lesser weight -/
theorem wn_least : ∀ {l : List Int}, AllS l → wn (sv l) ≤ wt l
  | [], _ => by simp [sv_nil, wn, spd_zero, wt]
  | d :: l, h => by
    have hd := h d (by simp)
    have ih := wn_least (l := l) (fun x hx => h x (by simp [hx]))
    have := wn_digit hd.1 hd.2 (sv l)
    rw [sv_cons, wt]; omega
/-- sparse digits fill at most half of the places -/
theorem wt_half : ∀ {l : List Int}, Spr l → 2 * wt l ≤ l.length + 1
  | [], _ => by simp [wt]
  | [d], _ => by simp only [wt, List.length_cons, List.length_nil]; split <;> omega
  | d :: e :: l, h => by
    have ih := wt_half (spr_tail (spr_tail h))
    have h0 := h 0
    rw [at0_zero, at0_succ, at0_zero] at h0
    simp only [wt, List.length_cons]
    rcases h0 with h0 | h0
    · rw [if_pos h0]; split <;> omega
    · rw [if_pos h0]; split <;> omega

/-! ### how many lists -/
def allL : Nat → List (List Int)
  | 0 => [[]]
  | p + 1 => (allL p).map (fun l => 0 :: l) ++ ((allL p).map (fun l => 1 :: l) ++ (allL p).map (fun l => -1 :: l))
def cnt (n : Int) (p : Nat) (w : Int) : Nat := (allL p).countP (fun l => decide (sv l = n) && decide ((wt l : Int) = w))
theorem allL_len : ∀ p, (allL p).length = 3 ^ p
  | 0 => rfl
  | p + 1 => by rw [allL, List.length_append, List.length_append, List.length_map, List.length_map, List.length_map, allL_len p, Nat.pow_succ]; omega
theorem cnt_le (n : Int) (p : Nat) (w : Int) : cnt n p w ≤ 3 ^ p := by rw [cnt, ← allL_len p]; exact List.countP_le_length
theorem allL_mem : ∀ {p : Nat} {l : List Int}, l ∈ allL p ↔ l.length = p ∧ AllS l
  | 0, l => by
    rw [allL, List.mem_singleton]
    constructor
    · rintro rfl; exact ⟨rfl, fun d hd => by simp at hd⟩
    · rintro ⟨h, _⟩; exact List.eq_nil_of_length_eq_zero h
  | p + 1, l => by
    rw [allL, List.mem_append, List.mem_append, List.mem_map, List.mem_map, List.mem_map]
    constructor
    · rintro (⟨m, hm, rfl⟩ | ⟨m, hm, rfl⟩ | ⟨m, hm, rfl⟩)
      all_goals
        obtain ⟨h1, h2⟩ := allL_mem.1 hm
        refine ⟨by rw [List.length_cons, h1], fun d hd => ?_⟩
        rcases List.mem_cons.1 hd with rfl | hd
        · omega
        · exact h2 d hd
    · rintro ⟨h1, h2⟩
      cases l with
      | nil => simp at h1
      | cons d l =>
        have hd := h2 d (by simp)
        have hm : l ∈ allL p := allL_mem.2 ⟨by simpa using h1, fun x hx => h2 x (by simp [hx])⟩
        have e : d = 0 ∨ d = 1 ∨ d = -1 := by omega
        rcases e with rfl | rfl | rfl
        · exact .inl ⟨l, hm, rfl⟩
        · exact .inr (.inl ⟨l, hm, rfl⟩)
        · exact .inr (.inr ⟨l, hm, rfl⟩)
theorem cnt_zero (n w : Int) : cnt n 0 w = if n = 0 ∧ w = 0 then 1 else 0 := by
  rw [cnt, allL, List.countP_singleton]
  simp only [sv_nil, wt]
  by_cases h1 : n = 0 <;> by_cases h2 : w = 0 <;> simp [h1, h2, eq_comm]
theorem cnt_out {n w : Int} {p : Nat} (h : w < 0 ∨ (p : Int) < w) : cnt n p w = 0 := by
  rw [cnt, List.countP_eq_zero]
  intro l hl
  obtain ⟨h1, h2⟩ := allL_mem.1 hl
  have := wt_le l
  simp; omega
theorem cnt_split (n w : Int) (p : Nat) : cnt n (p + 1) w =
    (allL p).countP (fun l => decide (2 * sv l = n) && decide ((wt l : Int) = w)) + ((allL p).countP (fun l => decide (1 + 2 * sv l = n) && decide ((wt l : Int) = w - 1)) + (allL p).countP (fun l => decide (-1 + 2 * sv l = n) && decide ((wt l : Int) = w - 1))) := by
  rw [cnt, allL, List.countP_append, List.countP_append, List.countP_map, List.countP_map, List.countP_map]
  have e0 : ∀ l : List Int, (decide (sv (0 :: l) = n) && decide ((wt (0 :: l) : Int) = w)) = (decide (2 * sv l = n) && decide ((wt l : Int) = w)) := fun l => by
    rw [sv_cons, wt, if_pos rfl, Int.zero_add, Nat.zero_add]
  have e1 : ∀ l : List Int, (decide (sv (1 :: l) = n) && decide ((wt (1 :: l) : Int) = w)) = (decide (1 + 2 * sv l = n) && decide ((wt l : Int) = w - 1)) := fun l => by
    rw [sv_cons, wt, if_neg (by omega)]; congr 1; exact decide_eq_decide.2 (by omega)
  have e2 : ∀ l : List Int, (decide (sv (-1 :: l) = n) && decide ((wt (-1 :: l) : Int) = w)) = (decide (-1 + 2 * sv l = n) && decide ((wt l : Int) = w - 1)) := fun l => by
    rw [sv_cons, wt, if_neg (by omega)]; congr 1; exact decide_eq_decide.2 (by omega)
  congr 1
  · exact List.countP_congr (fun l _ => by rw [Function.comp, e0])
  · congr 1
    · exact List.countP_congr (fun l _ => by rw [Function.comp, e1])
    · exact List.countP_congr (fun l _ => by rw [Function.comp, e2])
theorem cnt_even {n : Int} (h : n % 2 = 0) (p : Nat) (w : Int) : cnt n (p + 1) w = cnt (n / 2) p w := by
  have z1 : (allL p).countP (fun l => decide (1 + 2 * sv l = n) && decide ((wt l : Int) = w - 1)) = 0 := List.countP_eq_zero.2 (fun l _ => by
    have : ¬ 1 + 2 * sv l = n := by omega
    simp [this])
  have z2 : (allL p).countP (fun l => decide (-1 + 2 * sv l = n) && decide ((wt l : Int) = w - 1)) = 0 := List.countP_eq_zero.2 (fun l _ => by
    have : ¬ -1 + 2 * sv l = n := by omega
    simp [this])
  rw [cnt_split, z1, z2, cnt]
  refine List.countP_congr (fun l _ => ?_)
  rw [show decide (2 * sv l = n) = decide (sv l = n / 2) from decide_eq_decide.2 (by omega)]
theorem cnt_odd {n : Int} (h : n % 2 = 1) (p : Nat) (w : Int) : cnt n (p + 1) w = cnt ((n - 1) / 2) p (w - 1) + cnt ((n + 1) / 2) p (w - 1) := by
  have z1 : (allL p).countP (fun l => decide (2 * sv l = n) && decide ((wt l : Int) = w)) = 0 := List.countP_eq_zero.2 (fun l _ => by
    have : ¬ 2 * sv l = n := by omega
    simp [this])
  rw [cnt_split, z1, cnt, cnt, Nat.zero_add]
  congr 1
  · refine List.countP_congr (fun l _ => ?_)
    rw [show decide (1 + 2 * sv l = n) = decide (sv l = (n - 1) / 2) from decide_eq_decide.2 (by omega)]
  · refine List.countP_congr (fun l _ => ?_)
    rw [show decide (-1 + 2 * sv l = n) = decide (sv l = (n + 1) / 2) from decide_eq_decide.2 (by omega)]
theorem cnt_neg : ∀ (p : Nat) (n w : Int), cnt (-n) p w = cnt n p w
  | 0, n, w => by
    rw [cnt_zero, cnt_zero]
    by_cases h : n = 0
    · subst h; rfl
    · rw [if_neg (by omega), if_neg (by omega)]
  | p + 1, n, w => by
    rcases (show n % 2 = 0 ∨ n % 2 = 1 by omega) with h | h
    · rw [cnt_even h, cnt_even (by omega), ← cnt_neg p (n / 2)]; congr 1; omega
    · rw [cnt_odd h, cnt_odd (by omega), ← cnt_neg p ((n - 1) / 2), ← cnt_neg p ((n + 1) / 2), Nat.add_comm]
      congr 2 <;> omega
theorem cnt_less {n w : Int} {p : Nat} (h : w < wn n) : cnt n p w = 0 := by
  rw [cnt, List.countP_eq_zero]
  intro l hl
  obtain ⟨h1, h2⟩ := allL_mem.1 hl
  have := wn_least h2
  simp
  intro e
  rw [e] at this; omega
theorem cnt_sp (n : Int) : 1 ≤ cnt n (spd n).length (wn n) := by
  rw [cnt]
  exact List.countP_pos_iff.2 ⟨spd n, allL_mem.2 ⟨rfl, allS_sp n⟩, by simp [sv_sp, wn]⟩

/-! ### what the functions answer -/
def okS (l : List Int) : Bool := decide (l.length ≤ 60) && decide (∀ d ∈ l, -1 ≤ d ∧ d ≤ 1) && decide (l = [] ∨ l.getLast? ≠ some 0)
theorem okS_long {l : List Int} (h : 60 < l.length) : okS l = false := by
  have : ¬ l.length ≤ 60 := by omega
  simp [okS, this]
theorem okS_at {l : List Int} {k : Nat} (hk : k < l.length) (h : inB l[k] (-1) 1 = false) : okS l = false := by
  have : ¬ (∀ d ∈ l, -1 ≤ d ∧ d ≤ 1) := fun g => by
    have := g l[k] (List.getElem_mem hk)
    simp [inB] at h; omega
  simp only [okS, decide_eq_false this, Bool.and_false, Bool.false_and]
theorem okS_end {l : List Int} (h2 : l.length ≤ 60) (h3 : ∀ d ∈ l, -1 ≤ d ∧ d ≤ 1) : okS l = decide (l = [] ∨ l.getLast? ≠ some 0) := by
  simp only [okS, decide_eq_true h2, decide_eq_true h3, Bool.true_and]
theorem okS_yes {l : List Int} (h : okS l = true) : NrmS l ∧ l.length ≤ 60 := by
  simp only [okS, Bool.and_eq_true, decide_eq_true_eq] at h
  exact ⟨⟨h.1.2, h.2⟩, h.1.1⟩
theorem okS_mk {l : List Int} (hN : NrmS l) (hl : l.length ≤ 60) : okS l = true := by
  rw [okS_end hl hN.1]; exact decide_eq_true hN.2

def rSignedOk0 (l : List Int) : Bool := okS l
def rSignedValue1 (l : List Int) : Bool := okS l && inN (sv l)
def rSignedValue0 (l : List Int) : Int := if rSignedValue1 l then sv l else 0
def rSparseDigits0 (n : Int) : List Int := if inN n then spd n else []
def rIsSparse0 (l : List Int) : Bool := okS l && sprB l
def rWeightOf0 (l : List Int) : Int := if okS l then wt l else -1
def rCountSigned0 (n p w : Int) : Int := if inB n (-5000) 5000 && inB p 0 12 && inB w 0 12 then cnt n p.toNat w else -1
def rLeastWeight0 (n : Int) : Int := if inN n then wn n else -1
def rStepsOf0 (n : Int) : Int := if inB n 0 1000000000000 then (if n = 0 then 0 else ((spd n).length : Int) + wn n - 2) else -1
def rRewriteSigned1 (l : List Int) : Bool := okS l && fits (spd (sv l))
def rRewriteSigned0 (l : List Int) : List Int := if rRewriteSigned1 l then spd (sv l) else []
theorem rSparseDigits0_len (n : Int) : (rSparseDigits0 n).length ≤ 1048577 := by
  unfold rSparseDigits0; split
  · rename_i h
    have h2 := inN_yes h
    have := spd_len42 h2.1 h2.2
    omega
  · simp
theorem rRewriteSigned0_len (l : List Int) : (rRewriteSigned0 l).length ≤ 1048577 := by
  unfold rRewriteSigned0; split
  · rename_i h
    simp only [rRewriteSigned1, Bool.and_eq_true] at h
    have := fits_len h.2; omega
  · simp

end Go.Proofs.Ytiemhhkoegkleaa
