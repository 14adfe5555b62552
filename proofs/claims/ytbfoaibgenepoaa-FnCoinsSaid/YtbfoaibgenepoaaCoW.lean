/- Places of coins, plain: what comes coin after coin; the least digits by the least ones of lesser numbers. -/
import Derived.Test.YtbfoaibgenepoaaDgS
import Derived.Test.YtbfoaibgenepoaaCoFew
import Derived.Test.YtbfoaibgenepoaaCoLst
set_option linter.unusedVariables false
set_option linter.unusedSimpArgs false
set_option maxRecDepth 100000
namespace Go.Proofs.Ytbfoaibgenepoaa

/-- what comes when a coin is added to those that give f -/
def wU {α : Type} (g : α → α) (h : α → α → α) (c : Nat) (f : Nat → α) (x : Nat) : α := if 0 < c ∧ c ≤ x then h (f x) (g (wU g h c f (x - c))) else f x
termination_by x
decreasing_by omega
theorem wU_less {α : Type} {g : α → α} {h : α → α → α} {c : Nat} {f : Nat → α} {x : Nat} (hx : x < c) : wU g h c f x = f x := by rw [wU, if_neg (by omega)]
theorem wU_more {α : Type} {g : α → α} {h : α → α → α} {c : Nat} {f : Nat → α} {x : Nat} (h0 : 0 < c) (hx : c ≤ x) : wU g h c f x = h (f x) (g (wU g h c f (x - c))) := by rw [wU, if_pos ⟨h0, hx⟩]
def w0 {α : Type} (g : α → α) (z : α) : Nat → α
  | 0 => z
  | x + 1 => g (w0 g z x)
/-- with the coins up to place j -/
def wF {α : Type} (g : Nat → α → α) (h : α → α → α) (z : α) (l : List Int) : Nat → Nat → α
  | 0 => w0 (g 0) z
  | j + 1 => wU (g (j + 1)) h (l.getD (j + 1) 0).toNat (wF g h z l j)

/-! ### digits -/
def inc (k : Nat) (d : List Int) : List Int := d.set k (d.getD k 0 + 1)
def lxC : List Int → List Int → Int
  | [], [] => 0
  | [], _ :: _ => -1
  | _ :: _, [] => 1
  | a :: s, b :: t => if a < b then -1 else if b < a then 1 else lxC s t
theorem lxC_flip : ∀ a b : List Int, lxC b a = - lxC a b
  | [], [] => rfl
  | [], _ :: _ => rfl
  | _ :: _, [] => rfl
  | a :: s, b :: t => by
    have ih := lxC_flip s t
    simp only [lxC]
    by_cases h1 : a < b
    · rw [if_pos h1, if_neg (by omega), if_pos h1]; rfl
    · rw [if_neg h1]
      by_cases h2 : b < a
      · rw [if_pos h2, if_neg h1, if_pos h2]
      · rw [if_neg h2, if_neg h2, if_neg h1, ih]
theorem lxC_eq : ∀ a b : List Int, lxC a b = 0 → a = b
  | [], [], _ => rfl
  | [], _ :: _, h => by simp [lxC] at h
  | _ :: _, [], h => by simp [lxC] at h
  | a :: s, b :: t, h => by
    simp only [lxC] at h
    by_cases h1 : a < b
    · rw [if_pos h1] at h; simp at h
    · rw [if_neg h1] at h
      by_cases h2 : b < a
      · rw [if_pos h2] at h; simp at h
      · rw [if_neg h2] at h
        rw [show a = b by omega, lxC_eq s t h]
theorem lxC_self : ∀ a : List Int, lxC a a = 0
  | [] => rfl
  | a :: s => by simp only [lxC]; rw [if_neg (by omega), if_neg (by omega), lxC_self s]
theorem lxC_trans : ∀ a b c : List Int, lxC a b < 0 → lxC b c < 0 → lxC a c < 0
  | [], _, [], h1, h2 => by
    rename_i b
    cases b <;> simp [lxC] at h1 h2
  | [], _, _ :: _, _, _ => by simp [lxC]
  | _ :: _, [], _, h1, _ => by simp [lxC] at h1
  | _ :: _, _ :: _, [], _, h2 => by simp [lxC] at h2
  | a :: s, b :: t, c :: u, h1, h2 => by
    have ih := lxC_trans s t u
    simp only [lxC] at h1 h2 ⊢
    by_cases g1 : a < b
    · by_cases g2 : c < b
      · rw [if_neg (by omega), if_pos g2] at h2; omega
      · rw [if_pos (by omega)]; omega
    · rw [if_neg g1] at h1
      by_cases g3 : b < a
      · rw [if_pos g3] at h1; omega
      · rw [if_neg g3] at h1
        have e : a = b := by omega
        subst e
        by_cases g4 : a < c
        · rw [if_pos g4]; omega
        · rw [if_neg g4] at h2 ⊢
          by_cases g5 : c < a
          · rw [if_pos g5] at h2; omega
          · rw [if_neg g5] at h2 ⊢
            exact ih h1 h2
/-- a lesser sum, or the same and before -/
def bfC (a b : List Int) : Bool := decide (a.sum < b.sum ∨ a.sum = b.sum ∧ lxC a b < 0)
theorem bfC_yes {a b : List Int} : bfC a b = true ↔ (a.sum < b.sum ∨ a.sum = b.sum ∧ lxC a b < 0) := by simp [bfC]
theorem bfC_no {a b : List Int} : bfC a b = false ↔ ¬ (a.sum < b.sum ∨ a.sum = b.sum ∧ lxC a b < 0) := by simp [bfC]
theorem bfC_self (a : List Int) : bfC a a = false := bfC_no.2 (by rw [lxC_self]; omega)
theorem bfC_trans {a b c : List Int} (h1 : bfC a b = true) (h2 : bfC b c = true) : bfC a c = true := by
  rw [bfC_yes] at *
  have := lxC_trans a b c
  omega
theorem bfC_le {a b e : List Int} (h1 : bfC e a = false) (h2 : bfC e b = true) : bfC a b = true := by
  rw [bfC_no] at h1
  rw [bfC_yes] at *
  have h3 := lxC_flip a e
  by_cases h : lxC a e = 0
  · have := lxC_eq _ _ h
    subst this
    exact h2
  · have := lxC_trans a e b
    omega
theorem bfC_eq {a b : List Int} (h1 : bfC a b = false) (h2 : bfC b a = false) : a = b := by
  rw [bfC_no] at *
  have h3 := lxC_flip a b
  exact lxC_eq _ _ (by omega)
def pickC (a b : List Int) : List Int := if bfC a b then a else b

theorem inc_len (k : Nat) (d : List Int) : (inc k d).length = d.length := by simp [inc]
theorem inc_cons (a : Int) (d : List Int) (k : Nat) : inc (k + 1) (a :: d) = a :: inc k d := by simp [inc]
theorem inc_zero (a : Int) (d : List Int) : inc 0 (a :: d) = (a + 1) :: d := by simp [inc]
theorem inc_sum : ∀ (k : Nat) (d : List Int), k < d.length → (inc k d).sum = d.sum + 1
  | 0, a :: d, _ => by rw [inc_zero, List.sum_cons, List.sum_cons]; omega
  | k + 1, a :: d, h => by rw [inc_cons, List.sum_cons, List.sum_cons, inc_sum k d (by simpa using h)]; omega
  | k, [], h => by simp at h
theorem inc_dot : ∀ (k : Nat) (d l : List Int), d.length = l.length → k < l.length → dotI (inc k d) l = dotI d l + l.getD k 0
  | 0, a :: d, c :: l, _, _ => by rw [inc_zero, dotI, dotI, Int.add_mul]; simp; omega
  | k + 1, a :: d, c :: l, h, hk => by rw [inc_cons, dotI, dotI, inc_dot k d l (by simpa using h) (by simpa using hk)]; simp; omega
  | _, [], _ :: _, h, _ => by simp at h
  | _, _ :: _, [], h, _ => by simp at h
  | _, [], [], _, h => by simp at h
theorem inc_lx : ∀ (k : Nat) (a b : List Int), a.length = b.length → lxC (inc k a) (inc k b) = lxC a b
  | 0, a :: s, b :: t, _ => by
    rw [inc_zero, inc_zero]
    simp only [lxC]
    by_cases h1 : a < b
    · rw [if_pos h1, if_pos (by omega)]
    · rw [if_neg h1, if_neg (by omega)]
      by_cases h2 : b < a
      · rw [if_pos h2, if_pos (by omega)]
      · rw [if_neg h2, if_neg (by omega)]
  | k + 1, a :: s, b :: t, h => by rw [inc_cons, inc_cons]; simp only [lxC]; rw [inc_lx k s t (by simpa using h)]
  | k, [], [], _ => by simp [inc, lxC]
  | _, [], _ :: _, h => by simp at h
  | _, _ :: _, [], h => by simp at h
theorem inc_at {k i : Nat} {d : List Int} (h : i ≠ k) : (inc k d).getD i 0 = d.getD i 0 := by
  simp only [inc, List.getD_eq_getElem?_getD, List.getElem?_set, if_neg (Ne.symm h)]
theorem inc_pos {k : Nat} {d : List Int} (h : ∀ y ∈ d, 0 ≤ y) : ∀ y ∈ inc k d, 0 ≤ y := fun y hy => by
  rcases List.mem_or_eq_of_mem_set hy with h1 | h1
  · exact h y h1
  · rw [h1, List.getD_eq_getElem?_getD]
    cases e : d[k]? with
    | none => simp
    | some z => have := h z (List.mem_of_getElem? e); simp; omega
theorem inc_bf {k : Nat} {a b : List Int} (h : a.length = b.length) (hk : k < a.length) : bfC (inc k a) (inc k b) = bfC a b := by
  unfold bfC
  rw [inc_sum k a hk, inc_sum k b (by omega), inc_lx k a b h]
  congr 1
  apply propext
  omega
theorem inc_dec {k : Nat} {d : List Int} (hd : ∀ y ∈ d, 0 ≤ y) (hk : k < d.length) (h : d.getD k 0 ≠ 0) : ∃ e : List Int, e.length = d.length ∧ (∀ y ∈ e, 0 ≤ y) ∧ inc k e = d ∧ ∀ i, i ≠ k → e.getD i 0 = d.getD i 0 := by
  have e1 : d.getD k 0 = d[k] := by rw [List.getD_eq_getElem?_getD, List.getElem?_eq_getElem hk]; rfl
  have h1 := hd _ (List.getElem_mem hk)
  refine ⟨d.set k (d[k] - 1), by simp, fun y hy => ?_, ?_, fun i hi => ?_⟩
  · rcases List.mem_or_eq_of_mem_set hy with h2 | h2
    · exact hd y h2
    · omega
  · rw [inc, List.set_set, List.getD_eq_getElem?_getD, List.getElem?_set_self hk]
    simp
  · simp only [List.getD_eq_getElem?_getD, List.getElem?_set, if_neg (Ne.symm hi)]

/-! ### the least digits -/
structure SolC (l : List Int) (j : Nat) (x : Int) (d : List Int) : Prop where
  len : d.length = l.length
  pos : ∀ y ∈ d, 0 ≤ y
  off : ∀ i, j < i → d.getD i 0 = 0
  val : dotI d l = x
structure LstC (l : List Int) (j : Nat) (x : Int) (d : List Int) : Prop where
  sol : SolC l j x d
  least : ∀ e, SolC l j x e → bfC e d = false
theorem lstC_one {l : List Int} {j : Nat} {x : Int} {d e : List Int} (h1 : LstC l j x d) (h2 : LstC l j x e) : d = e :=
  bfC_eq (h2.least d h1.sol) (h1.least e h2.sol)

theorem zeros_of : ∀ (d : List Int), (∀ i, d.getD i 0 = 0) → d = List.replicate d.length 0
  | [], _ => rfl
  | a :: d, h => by
    have h0 := h 0
    have h1 := zeros_of d (fun i => by have := h (i + 1); simpa using this)
    rw [List.length_cons, List.replicate_succ, ← h1]
    simp at h0
    rw [h0]
theorem w0_inc (m : Nat) : ∀ x : Nat, w0 (inc 0) (List.replicate (m + 1) 0) x = (x : Int) :: List.replicate m 0
  | 0 => by rw [w0, List.replicate_succ]; rfl
  | x + 1 => by rw [w0, w0_inc m x, inc_zero]; simp

theorem lst_zero {l : List Int} (h : Coins l) (x : Nat) : LstC l 0 x (w0 (inc 0) (List.replicate l.length 0) x) := by
  obtain ⟨t, rfl⟩ := h.one
  rw [List.length_cons, w0_inc]
  have hs : SolC (1 :: t) 0 x ((x : Int) :: List.replicate t.length 0) := by
    refine ⟨by simp, fun y hy => ?_, fun i hi => ?_, by rw [dotI, dot_zeros]; omega⟩
    · rcases List.mem_cons.1 hy with rfl | hy
      · omega
      · rw [List.eq_of_mem_replicate hy]; exact Int.le_refl _
    · obtain ⟨i, rfl⟩ : ∃ k, i = k + 1 := ⟨i - 1, by omega⟩
      rw [List.getD_cons_succ, List.getD_eq_getElem?_getD, List.getElem?_replicate]
      split <;> rfl
  refine ⟨hs, fun e he => ?_⟩
  have : e = (x : Int) :: List.replicate t.length 0 := by
    cases e with
    | nil => have := he.len; simp at this
    | cons a e =>
      have h1 := zeros_of e (fun i => by have := he.off (i + 1) (by omega); simpa using this)
      have h2 : e.length = t.length := by have := he.len; simpa using this
      rw [h2] at h1
      have h3 := he.val
      rw [h1, dotI, dot_zeros] at h3
      rw [h1]; congr 1; omega
  rw [this]; exact bfC_self _

theorem lst_step {l : List Int} (h : Coins l) {j : Nat} (hj : j + 1 < l.length) {f : Nat → List Int} (hf : ∀ x : Nat, LstC l j x (f x)) : ∀ x : Nat, LstC l (j + 1) x (wU (inc (j + 1)) pickC (l.getD (j + 1) 0).toNat f x) := by
  have hb : ∀ c ∈ l, 1 ≤ c := fun c hc => (h.bd c hc).1
  have ec : l.getD (j + 1) 0 = l[j + 1] := by rw [List.getD_eq_getElem?_getD, List.getElem?_eq_getElem hj]; rfl
  have hc := hb _ (List.getElem_mem hj)
  obtain ⟨c, hcn⟩ : ∃ c : Nat, l[j + 1] = c := ⟨l[j + 1].toNat, by omega⟩
  rw [ec, hcn, Int.toNat_natCast]
  rw [hcn] at ec
  have more : ∀ {x : Int} {e : List Int}, SolC l j x e → SolC l (j + 1) x e := fun he => ⟨he.len, he.pos, fun i hi => he.off i (by omega), he.val⟩
  have less : ∀ {x : Int} {e : List Int}, SolC l (j + 1) x e → e.getD (j + 1) 0 = 0 → SolC l j x e := fun he h0 => ⟨he.len, he.pos, fun i hi => by
    by_cases e : i = j + 1
    · rw [e]; exact h0
    · exact he.off i (by omega), he.val⟩
  have down : ∀ {x : Int} {e : List Int}, SolC l (j + 1) x e → e.getD (j + 1) 0 ≠ 0 → ∃ e', inc (j + 1) e' = e ∧ SolC l (j + 1) (x - c) e' := fun {x e} he h0 => by
    have hl := he.len
    obtain ⟨e', h1, h2, h3, h4⟩ := inc_dec he.pos (show j + 1 < e.length by omega) h0
    refine ⟨e', h3, ⟨by omega, h2, fun i hi => by rw [h4 i (by omega)]; exact he.off i hi, ?_⟩⟩
    have h5 := inc_dot (j + 1) e' l (by omega) hj
    rw [h3, he.val, ec] at h5
    omega
  intro x
  induction x using Nat.strongRecOn with
  | _ x ih =>
    by_cases hx : c ≤ x
    · rw [wU_more (by omega) hx]
      have hA := hf x
      have hB := ih (x - c) (by omega)
      obtain ⟨A, hAe⟩ : ∃ A, A = f x := ⟨_, rfl⟩
      obtain ⟨B, hBe⟩ : ∃ B, B = wU (inc (j + 1)) pickC c f (x - c) := ⟨_, rfl⟩
      rw [← hAe] at hA ⊢
      rw [← hBe] at hB ⊢
      have hBl := hB.sol.len
      have hsB : SolC l (j + 1) x (inc (j + 1) B) := by
        refine ⟨by rw [inc_len]; exact hBl, inc_pos hB.sol.pos, fun i hi => by rw [inc_at (by omega)]; exact hB.sol.off i hi, ?_⟩
        rw [inc_dot _ _ _ hBl hj, hB.sol.val, ec]; omega
      have cmpr : ∀ e, SolC l (j + 1) x e → bfC e A = false ∨ bfC e (inc (j + 1) B) = false := fun e he => by
        by_cases h0 : e.getD (j + 1) 0 = 0
        · exact .inl (hA.least e (less he h0))
        · obtain ⟨e', h1, h2⟩ := down he h0
          right
          have h3 := hB.least e' (by rw [show (((x - c : Nat) : Int)) = (x : Int) - c by omega]; exact h2)
          rw [← h1, inc_bf (by rw [h2.len, hBl]) (by rw [h2.len]; exact hj)]
          exact h3
      unfold pickC
      cases hp : bfC A (inc (j + 1) B)
      · refine ⟨hsB, fun e he => ?_⟩
        rw [if_neg (by simp)]
        rcases cmpr e he with h1 | h1
        · cases h2 : bfC e (inc (j + 1) B)
          · rfl
          · rw [bfC_le h1 h2] at hp; cases hp
        · exact h1
      · refine ⟨more hA.sol, fun e he => ?_⟩
        rw [if_pos rfl]
        rcases cmpr e he with h1 | h1
        · exact h1
        · cases h2 : bfC e A
          · rfl
          · rw [bfC_trans h2 hp] at h1; cases h1
    · rw [wU_less (by omega)]
      have hA := hf x
      refine ⟨more hA.sol, fun e he => hA.least e (less he ?_)⟩
      by_cases h0 : e.getD (j + 1) 0 = 0
      · exact h0
      · obtain ⟨e', h1, h2⟩ := down he h0
        have h3 := dot_nonneg e' l h2.pos hb
        rw [h2.val] at h3
        omega

/-- the digits of the numbers, by the coins up to place j -/
def wDg (l : List Int) (j x : Nat) : List Int := wF inc pickC (List.replicate l.length 0) l j x
theorem wDg_lst {l : List Int} (h : Coins l) : ∀ (j : Nat), j < l.length → ∀ x : Nat, LstC l j x (wDg l j x)
  | 0, _, x => lst_zero h x
  | j + 1, hj, x => lst_step h hj (wDg_lst h j (by omega)) x
theorem pick_sum (a b : List Int) : (pickC a b).sum = min a.sum b.sum := by
  unfold pickC bfC
  by_cases h : a.sum < b.sum ∨ a.sum = b.sum ∧ lxC a b < 0
  · rw [decide_eq_true h, if_pos rfl]; omega
  · rw [decide_eq_false h, if_neg (by simp)]; omega

/-- the fewest, by the coins up to place j -/
def wFw (l : List Int) (j x : Nat) : Int := wF (fun _ y => y + 1) (fun a b => min a b) 0 l j x
theorem wFw_zero (x : Nat) : w0 (fun y : Int => y + 1) 0 x = x := by
  induction x with
  | zero => rfl
  | succ x ih => rw [w0, ih]; omega
theorem wFw_sum {l : List Int} (h : Coins l) : ∀ (j : Nat), j < l.length → ∀ x : Nat, (wDg l j x).sum = wFw l j x
  | 0, h0, x => by
    obtain ⟨t, ht⟩ := h.one
    show (w0 (inc 0) (List.replicate l.length 0) x).sum = w0 (fun y : Int => y + 1) 0 x
    rw [wFw_zero, ht, List.length_cons, w0_inc, List.sum_cons, sum_zerosI]; omega
  | j + 1, hj, x => by
    induction x using Nat.strongRecOn with
    | _ x ih =>
      show (wU (inc (j + 1)) pickC (l.getD (j + 1) 0).toNat (wDg l j) x).sum = wU (fun y => y + 1) (fun a b => min a b) (l.getD (j + 1) 0).toNat (wFw l j) x
      have h1 := wFw_sum h j (by omega) x
      by_cases hx : 0 < (l.getD (j + 1) 0).toNat ∧ (l.getD (j + 1) 0).toNat ≤ x
      · rw [wU_more hx.1 hx.2, wU_more hx.1 hx.2, pick_sum, h1]
        have h2 := ih (x - (l.getD (j + 1) 0).toNat) (by omega)
        have h3 := (wDg_lst h (j + 1) hj (x - (l.getD (j + 1) 0).toNat)).sol.len
        rw [inc_sum _ _ (show j + 1 < (wU (inc (j + 1)) pickC (l.getD (j + 1) 0).toNat (wDg l j) (x - (l.getD (j + 1) 0).toNat)).length from h3.symm ▸ hj)]
        have h4 : (wU (inc (j + 1)) pickC (l.getD (j + 1) 0).toNat (wDg l j) (x - (l.getD (j + 1) 0).toNat)).sum = wU (fun y => y + 1) (fun a b => min a b) (l.getD (j + 1) 0).toNat (wFw l j) (x - (l.getD (j + 1) 0).toNat) := h2
        rw [h4]
      · rw [wU, if_neg hx, wU, if_neg hx, h1]
theorem solC_all {l d : List Int} {q : Nat} {x : Int} (hq : l.length = q + 1) (h1 : d.length = l.length) (h2 : ∀ y ∈ d, 0 ≤ y) (h3 : dotI d l = x) : SolC l q x d :=
  ⟨h1, h2, fun i hi => by rw [List.getD_eq_getElem?_getD, List.getElem?_eq_none (by omega)]; rfl, h3⟩
/-- with all coins these are the fewest -/
theorem wFw_few {l : List Int} (h : Coins l) {q : Nat} (hq : l.length = q + 1) (x : Nat) : wFw l q x = fw1 l x := by
  have h1 := wDg_lst h q (by omega) x
  refine fewOf_one (l := l) (n := x) ⟨⟨_, h1.sol.len, h1.sol.pos, h1.sol.val, wFw_sum h q (by omega) x⟩, fun d d1 d2 d3 => ?_⟩ (fw_few h x)
  have h2 := bfC_no.1 (h1.least d (solC_all hq d1 d2 d3))
  rw [← wFw_sum h q (by omega) x]
  omega
theorem wFw_bd {l : List Int} : ∀ (j x : Nat), 0 ≤ wFw l j x ∧ wFw l j x ≤ x
  | 0, x => by
    have : wFw l 0 x = x := wFw_zero x
    omega
  | j + 1, x => by
    induction x using Nat.strongRecOn with
    | _ x ih =>
      have h1 := wFw_bd (l := l) j x
      have e : wFw l (j + 1) x = wU (fun y => y + 1) (fun a b => min a b) (l.getD (j + 1) 0).toNat (wFw l j) x := rfl
      by_cases hx : 0 < (l.getD (j + 1) 0).toNat ∧ (l.getD (j + 1) 0).toNat ≤ x
      · have h2 := ih (x - (l.getD (j + 1) 0).toNat) (by omega)
        have e2 : wFw l (j + 1) (x - (l.getD (j + 1) 0).toNat) = wU (fun y => y + 1) (fun a b => min a b) (l.getD (j + 1) 0).toNat (wFw l j) (x - (l.getD (j + 1) 0).toNat) := rfl
        rw [e, wU_more hx.1 hx.2, ← e2]
        omega
      · rw [e, wU, if_neg hx]; exact h1

/-! ### the search's digits are the least -/
theorem ld_least : ∀ (l : List Int) (n left : Int) (t : List Int), (∀ c ∈ l, 1 ≤ c) → 0 ≤ n → 0 ≤ left → ld l n left = some t → ∀ e : List Int, e.length = l.length → (∀ y ∈ e, 0 ≤ y) → dotI e l = n → e.sum = left → ¬ lxC e t < 0
  | [], n, left, t, _, _, _, h, e, he, _, _, _ => by
    have : e = [] := List.length_eq_zero_iff.mp (by simpa using he)
    subst this
    rw [ld] at h
    split at h
    · injection h with h; subst h; simp [lxC]
    · simp at h
  | c :: cs, n, left, t, hl, hn, hle, h, [], he, _, _, _ => by simp at he
  | c :: cs, n, left, t, hl, hn, hle, h, x :: e, he, hp, hv, hs => by
    rw [ld] at h
    have hc := hl c (by simp)
    have hx0 := hp x (by simp)
    obtain ⟨y, rfl⟩ : ∃ y : Nat, x = y := ⟨x.toNat, by omega⟩
    rw [dotI] at hv
    rw [List.sum_cons] at hs
    have hcs : ∀ c ∈ cs, 1 ≤ c := fun c hc => hl c (by simp [hc])
    have hpe : ∀ y ∈ e, 0 ≤ y := fun y hy => hp y (by simp [hy])
    have hd := dot_pos e cs hpe hcs
    have hm : 0 ≤ (y : Int) * c := Int.mul_nonneg hx0 (by omega)
    have hlt := (ldN_lt (n := n) (left := left) hc hn hle y).mpr ⟨by omega, by omega⟩
    obtain ⟨a, u, h1, h2, h3, rfl⟩ := fstD_some _ _ h
    have hfirst : a ≤ y := by
      rcases Nat.lt_or_ge y a with hya | hya
      · exfalso
        have : ∀ (m d : Nat) (t : List Int) (f : Nat → Option (List Int)), fstD f m d = some t → ∀ a u, t = ((a : Nat) : Int) :: u → ∀ i, d ≤ i → i < a → f i = none := by
          intro m
          induction m with
          | zero => intro d t f hf; simp [fstD] at hf
          | succ m ih =>
            intro d t f hf a u ht i hi hia
            rw [fstD] at hf
            cases hfd : f d with
            | some v =>
              rw [hfd] at hf
              injection hf with hf
              rw [ht] at hf
              injection hf with hf _
              omega
            | none =>
              rw [hfd] at hf
              by_cases e : i = d
              · rw [e]; exact hfd
              · exact ih (d + 1) t f hf a u ht i (by omega) hia
        exact ld_has cs _ _ e hcs (by simpa using he) hpe (by omega) (by omega) (this _ _ _ _ h a u rfl y (Nat.zero_le _) hya)
      · exact hya
    simp only [lxC]
    rw [if_neg (by omega)]
    by_cases hay : (a : Int) < y
    · rw [if_pos hay]; omega
    · have : a = y := by omega
      subst this
      rw [if_neg hay]
      exact ld_least cs _ _ u hcs (by omega) (by omega) h3 e (by simpa using he) hpe (by omega) (by omega)
/-- the search finds them -/
theorem ld_is {l : List Int} (h : Coins l) {q : Nat} (hq : l.length = q + 1) (x : Nat) : ld l x (fw1 l x) = some (wDg l q x) := by
  have hb : ∀ c ∈ l, 1 ≤ c := fun c hc => (h.bd c hc).1
  have hF := fw_few h x
  have h0 := (fw1_bd l x).2.1
  obtain ⟨d, d1, d2, d3, d4⟩ := hF.some
  cases e : ld l x (fw1 l x) with
  | none => exact absurd e (ld_has l _ _ d hb d1 d2 d3 d4)
  | some t =>
    obtain ⟨t1, t2, t3, t4⟩ := ld_val l _ _ t hb (by omega) h0 e
    refine congrArg some (lstC_one (l := l) (j := q) (x := x) ⟨solC_all hq t1 t2 t3, fun s hs => bfC_no.2 ?_⟩ (wDg_lst h q (by omega) x))
    have h1 := hF.least s hs.len hs.pos hs.val
    have h2 := ld_least l _ _ t hb (by omega) h0 e s hs.len hs.pos hs.val
    omega

end Go.Proofs.Ytbfoaibgenepoaa
