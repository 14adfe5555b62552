/- Places of coins: plain facts. -/
import Derived.Test.YtbfoaibgenepoaaBase
import Derived.BigQuiet
import Derived.Deep.QuietTactic
import Derived.Maps.AppendAt
set_option linter.unusedVariables false
set_option linter.unusedSimpArgs false
namespace Go.Proofs.Ytbfoaibgenepoaa

/-! ### coins -/
/-- strictly ascending, neighbour by neighbour -/
def ascB : List Int → Bool
  | a :: b :: t => decide (a < b) && ascB (b :: t)
  | _ => true
theorem ascB_snoc (y z : Int) : ∀ a : List Int, ascB (a ++ [y] ++ [z]) = (ascB (a ++ [y]) && decide (y < z))
  | [] => by simp [ascB]
  | [b] => by simp [ascB]
  | b :: c :: a => by
    have ih := ascB_snoc y z (c :: a)
    simp only [List.cons_append] at ih ⊢
    rw [ascB, ascB, ih, Bool.and_assoc]
theorem ascB_less (b : List Int) : ∀ a : List Int, ascB (a ++ b) = true → ascB a = true
  | [], _ => rfl
  | [_], _ => rfl
  | c :: d :: a, h => by
    rw [List.cons_append, List.cons_append, ascB, Bool.and_eq_true] at h
    rw [ascB, Bool.and_eq_true]
    exact ⟨h.1, ascB_less b (d :: a) (by rw [List.cons_append]; exact h.2)⟩
theorem ascB_take {l : List Int} {j : Nat} (h : j + 1 < l.length) : ascB (l.take (j + 2)) = (ascB (l.take (j + 1)) && decide (l[j] < l[j + 1])) := by
  rw [List.take_succ_eq_append_getElem h, List.take_succ_eq_append_getElem (show j < l.length by omega)]
  exact ascB_snoc _ _ _
theorem ascB_pre {l : List Int} (k : Nat) (h : ascB l = true) : ascB (l.take k) = true := by
  rw [← List.take_append_drop k l] at h
  exact ascB_less _ _ h
theorem ascB_cons {a : Int} {t : List Int} (h : ascB (a :: t) = true) : (∀ x ∈ t, a < x) ∧ ascB t = true := by
  induction t generalizing a with
  | nil => exact ⟨fun x hx => by simp at hx, rfl⟩
  | cons b t ih =>
    rw [ascB, Bool.and_eq_true, decide_eq_true_eq] at h
    obtain ⟨h1, h2⟩ := h
    refine ⟨fun x hx => ?_, h2⟩
    rcases List.mem_cons.1 hx with rfl | hx
    · exact h1
    · have := (ih h2).1 x hx; omega

/-- are these coins -/
def okC (l : List Int) : Bool := decide (1 ≤ l.length ∧ l.length ≤ 10) && (l.head? == some 1 && (decide (∀ x ∈ l, 1 ≤ x ∧ x ≤ 1000) && ascB l))
structure Coins (l : List Int) : Prop where
  len : l.length ≤ 10
  one : ∃ t, l = 1 :: t
  bd : ∀ x ∈ l, 1 ≤ x ∧ x ≤ 1000
  asc : ascB l = true
theorem okC_yes {l : List Int} (h : okC l = true) : Coins l := by
  simp only [okC, Bool.and_eq_true, decide_eq_true_eq, beq_iff_eq] at h
  obtain ⟨⟨h1, h2⟩, h3, h4, h5⟩ := h
  cases l with
  | nil => simp at h1
  | cons a t => simp at h3; subst h3; exact ⟨h2, ⟨t, rfl⟩, h4, h5⟩
theorem okC_of {l : List Int} (h : Coins l) : okC l = true := by
  obtain ⟨h1, ⟨t, rfl⟩, h3, h4⟩ := h
  simp only [okC, Bool.and_eq_true, decide_eq_true_eq, beq_iff_eq, List.head?_cons]
  exact ⟨⟨by simp, h1⟩, trivial, h3, h4⟩

/-! ### values -/
def dotI : List Int → List Int → Int
  | d :: ds, c :: cs => d * c + dotI ds cs
  | _, _ => 0
theorem dotI_append : ∀ (a b c d : List Int), a.length = c.length → dotI (a ++ b) (c ++ d) = dotI a c + dotI b d
  | [], b, [], d, _ => by simp [dotI]
  | x :: a, b, y :: c, d, h => by
    rw [List.cons_append, List.cons_append, dotI, dotI, dotI_append a b c d (by simpa using h)]; omega
  | [], _, _ :: _, _, h => by simp at h
  | _ :: _, _, [], _, h => by simp at h
theorem dotI_rev : ∀ (a c : List Int), a.length = c.length → dotI a.reverse c.reverse = dotI a c
  | [], [], _ => rfl
  | x :: a, y :: c, h => by
    have h' : a.length = c.length := by simpa using h
    rw [List.reverse_cons, List.reverse_cons, dotI_append _ _ _ _ (by simpa using h'), dotI_rev a c h']
    simp only [dotI]; omega
  | [], _ :: _, h => by simp at h
  | _ :: _, [], h => by simp at h
theorem dotI_take {a c : List Int} {k : Nat} (h1 : k < a.length) (h2 : k < c.length) : dotI (a.take (k + 1)) (c.take (k + 1)) = dotI (a.take k) (c.take k) + a[k] * c[k] := by
  rw [List.take_succ_eq_append_getElem h1, List.take_succ_eq_append_getElem h2, dotI_append _ _ _ _ (by simp; omega)]
  simp [dotI]
theorem dotI_bd {B C : Int} (hB : 0 ≤ B) (hC : 0 ≤ C) : ∀ (a c : List Int), (∀ x ∈ a, 0 ≤ x ∧ x ≤ B) → (∀ x ∈ c, 0 ≤ x ∧ x ≤ C) → 0 ≤ dotI a c ∧ dotI a c ≤ a.length * (B * C)
  | [], _, _, _ => by simp [dotI]
  | _ :: _, [], _, _ => by simp only [dotI]; exact ⟨Int.le_refl _, Int.mul_nonneg (by omega) (Int.mul_nonneg hB hC)⟩
  | x :: a, y :: c, ha, hc => by
    obtain ⟨i1, i2⟩ := dotI_bd hB hC a c (fun z hz => ha z (List.mem_cons_of_mem _ hz)) (fun z hz => hc z (List.mem_cons_of_mem _ hz))
    have h1 := ha x (by simp)
    have h2 := hc y (by simp)
    have h3 : 0 ≤ x * y := Int.mul_nonneg h1.1 h2.1
    have h4 : x * y ≤ B * C := Int.mul_le_mul h1.2 h2.2 h2.1 hB
    rw [dotI, List.length_cons, show ((a.length + 1 : Nat) : Int) = (a.length : Int) + 1 by omega, Int.add_mul, Int.one_mul]
    omega

/-! ### greedy digits, from the last coin on -/
def grT : Int → List Int → List Int
  | _, [] => []
  | n, x :: t => n / x :: grT (n % x) t
def rsT : Int → List Int → Int
  | n, [] => n
  | n, x :: t => rsT (n % x) t
theorem grT_len : ∀ (t : List Int) (n : Int), (grT n t).length = t.length
  | [], _ => rfl
  | x :: t, n => by rw [grT, List.length_cons, List.length_cons, grT_len t]
theorem grT_val : ∀ (t : List Int) (n : Int), dotI (grT n t) t + rsT n t = n
  | [], n => by simp [dotI, grT, rsT]
  | x :: t, n => by
    rw [grT, dotI, rsT]
    have := grT_val t (n % x)
    have := Int.ediv_mul_add_emod n x
    omega
theorem rsT_one : ∀ (t : List Int) (n : Int), rsT n (t ++ [1]) = 0
  | [], n => by simp [rsT]
  | x :: t, n => by rw [List.cons_append, rsT, rsT_one t]
theorem grT_bd : ∀ (t : List Int) (n : Int), 0 ≤ n → (∀ x ∈ t, 1 ≤ x) → ∀ d ∈ grT n t, 0 ≤ d ∧ d ≤ n
  | [], _, _, _, d, hd => by simp [grT] at hd
  | x :: t, n, hn, hx, d, hd => by
    have h1 := hx x (by simp)
    rw [grT] at hd
    rcases List.mem_cons.1 hd with rfl | hd
    · exact ⟨Int.ediv_nonneg hn (by omega), Int.ediv_le_self _ hn⟩
    · have h2 := Int.emod_nonneg n (show x ≠ 0 by omega)
      have h3 := Int.emod_lt_of_pos n (show 0 < x by omega)
      have h4 := grT_bd t (n % x) h2 (fun z hz => hx z (List.mem_cons_of_mem _ hz)) d hd
      have h6 := Int.ediv_mul_add_emod n x
      have hx0 : 0 ≤ x := by omega
      have h7 := Int.mul_nonneg (Int.ediv_nonneg hn hx0) hx0
      omega
/-- the greedy digits of a number -/
def gz (n : Int) (l : List Int) : List Int := (grT n l.reverse).reverse
theorem gz_len (n : Int) (l : List Int) : (gz n l).length = l.length := by rw [gz, List.length_reverse, grT_len, List.length_reverse]
theorem gz_val {l : List Int} (h : Coins l) (n : Int) : dotI (gz n l) l = n := by
  have h1 := dotI_rev (grT n l.reverse) l.reverse (grT_len _ _)
  rw [List.reverse_reverse] at h1
  rw [gz, h1]
  obtain ⟨t, ht⟩ := h.one
  have h2 := grT_val l.reverse n
  rw [show l.reverse = t.reverse ++ [1] by rw [ht, List.reverse_cons], rsT_one] at h2
  rw [show l.reverse = t.reverse ++ [1] by rw [ht, List.reverse_cons]]
  omega
theorem gz_bd {l : List Int} (h : Coins l) {n : Int} (hn : 0 ≤ n) : ∀ d ∈ gz n l, 0 ≤ d ∧ d ≤ n := fun d hd =>
  grT_bd l.reverse n hn (fun x hx => (h.bd x (List.mem_reverse.1 hx)).1) d (by rw [gz, List.mem_reverse] at hd; exact hd)

/-! ### the test, failing -/
theorem okC_len {l : List Int} (h : ¬ (1 ≤ l.length ∧ l.length ≤ 10)) : okC l = false := by rw [okC, decide_eq_false h]; rfl
theorem okC_head {l : List Int} (h : 0 < l.length) (h1 : l[0] ≠ 1) : okC l = false := by
  cases e : okC l
  · rfl
  · obtain ⟨t, ht⟩ := (okC_yes e).one
    exact absurd (by simp [ht]) h1
theorem okC_at {l : List Int} {k : Nat} (hk : k < l.length) (h : ¬ (1 ≤ l[k] ∧ l[k] ≤ 1000)) : okC l = false := by
  cases e : okC l
  · rfl
  · exact absurd ((okC_yes e).bd _ (List.getElem_mem hk)) h
theorem okC_asc {l : List Int} {j : Nat} (hk : j + 1 < l.length) (h : l[j + 1] ≤ l[j]) : okC l = false := by
  cases e : okC l
  · rfl
  · have h1 := ascB_pre (j + 2) (okC_yes e).asc
    rw [ascB_take hk, Bool.and_eq_true, decide_eq_true_eq] at h1
    omega
theorem okC_end {l : List Int} (h1 : 0 < l.length) (h2 : l.length ≤ 10) (h3 : l[0] = 1) (h4 : ∀ j (hj : j < l.length), 1 ≤ l[j] ∧ l[j] ≤ 1000) (h5 : ascB l = true) : okC l = true := by
  refine okC_of ⟨h2, ?_, fun x hx => ?_, h5⟩
  · cases l with
    | nil => simp at h1
    | cons a t => exact ⟨t, by simp at h3; rw [h3]⟩
  · obtain ⟨j, hj, rfl⟩ := List.getElem_of_mem hx
    exact h4 j hj

end Go.Proofs.Ytbfoaibgenepoaa
