/- Fibonacci places: plain functions and facts: places, values, sparse and dense digits, their uniqueness, all lists of a number, weights. Lists here begin with the greatest place. -/
import Derived.Test.YtkimojjhmllnfaaDgS
set_option linter.unusedVariables false
set_option linter.unusedSimpArgs false
set_option maxRecDepth 100000
namespace Go.Proofs.Ytkimojjhmllnfaa

/-- what a place counts -/
def fp : Nat → Nat
  | 0 => 1
  | 1 => 2
  | k + 2 => fp k + fp (k + 1)
theorem fp_s (k : Nat) : fp (k + 2) = fp k + fp (k + 1) := rfl
theorem fp_pos : ∀ k, 1 ≤ fp k
  | 0 => Nat.le_refl _
  | 1 => by decide
  | k + 2 => by have := fp_pos k; rw [fp_s]; omega
theorem fp_lt : ∀ k, fp k < fp (k + 1)
  | 0 => by decide
  | k + 1 => by have := fp_pos k; rw [fp_s]; omega
theorem fp_mono {j k : Nat} (h : j ≤ k) : fp j ≤ fp k := by
  induction h with
  | refl => exact Nat.le_refl _
  | step _ ih => exact Nat.le_trans ih (Nat.le_of_lt (fp_lt _))
/-- digits 0 and 1 -/
def B01 (l : List Int) : Prop := ∀ d ∈ l, d = 0 ∨ d = 1
theorem b01_tail {x : Int} {l : List Int} (h : B01 (x :: l)) : B01 l := fun d hd => h d (List.mem_cons_of_mem _ hd)
theorem b01_head {x : Int} {l : List Int} (h : B01 (x :: l)) : x = 0 ∨ x = 1 := h x (by simp)
theorem b01_cons {x : Int} {l : List Int} (hx : x = 0 ∨ x = 1) (h : B01 l) : B01 (x :: l) := fun d hd => by
  rcases List.mem_cons.1 hd with rfl | hd
  · exact hx
  · exact h d hd
/-- the value of digits that begin with the greatest place -/
def vT : List Int → Nat
  | [] => 0
  | d :: t => d.toNat * fp t.length + vT t
/-- no two 1, no two 0 follow each other -/
def NoP (x : Int) : List Int → Prop
  | [] => True
  | [_] => True
  | a :: b :: t => ¬ (a = x ∧ b = x) ∧ NoP x (b :: t)
theorem noP_tail {x a : Int} : ∀ {l : List Int}, NoP x (a :: l) → NoP x l
  | [], _ => trivial
  | _ :: _, h => h.2
theorem noP_zero {l : List Int} (h : NoP 1 l) : NoP 1 (0 :: l) := by
  cases l with
  | nil => trivial
  | cons a t => exact ⟨by omega, h⟩
theorem noP_one {l : List Int} (h : NoP 0 l) : NoP 0 (1 :: l) := by
  cases l with
  | nil => trivial
  | cons a t => exact ⟨by omega, h⟩

theorem vT_zero (t : List Int) : vT (0 :: t) = vT t := by simp [vT]
theorem vT_one (t : List Int) : vT (1 :: t) = fp t.length + vT t := by simp [vT]
/-- a sparse list is less than the next place -/
theorem sp_lt : ∀ {l : List Int}, B01 l → NoP 1 l → vT l < fp l.length
  | [], _, _ => by simp [vT, fp]
  | [x], h, _ => by
    rcases b01_head h with rfl | rfl <;> simp [vT, fp]
  | x :: y :: t, h, hs => by
    have ih1 := sp_lt (l := y :: t) (b01_tail h) hs.2
    have hf : fp (t.length + 1) < fp (t.length + 2) := fp_lt _
    have e2 : (x :: y :: t).length = t.length + 2 := rfl
    have e1 : (y :: t).length = t.length + 1 := rfl
    rw [e1] at ih1
    rcases b01_head h with rfl | rfl
    · rw [vT_zero, e2]; omega
    · rcases b01_head (b01_tail h) with rfl | rfl
      · have ih2 := sp_lt (l := t) (b01_tail (b01_tail h)) (noP_tail hs.2)
        rw [vT_one, vT_zero, e2, e1, fp_s]; omega
      · exact absurd ⟨rfl, rfl⟩ hs.1
/-- any list is at most the sum of its places -/
theorem any_le : ∀ {l : List Int}, B01 l → vT l + 2 ≤ fp (l.length + 1)
  | [], _ => by simp [vT, fp]
  | x :: t, h => by
    have ih := any_le (b01_tail h)
    rw [List.length_cons, fp_s]
    rcases b01_head h with rfl | rfl
    · rw [vT_zero]; omega
    · rw [vT_one]; omega
/-- a dense list is not much less than that -/
theorem dn_ge : ∀ {l : List Int}, B01 l → NoP 0 l → (∀ t, l = 1 :: t → fp l.length ≤ vT l + 1) ∧ (∀ x t, l = x :: t → fp t.length ≤ vT l + 1)
  | [], _, _ => ⟨by simp, by simp⟩
  | [x], h, _ => by
    rcases b01_head h with rfl | rfl
    · refine ⟨fun t e => by simp at e, fun y t e => ?_⟩
      injection e with e1 e2; subst e2; simp [fp, vT]
    · refine ⟨fun t e => by simp [vT, fp], fun y t e => ?_⟩
      injection e with e1 e2; subst e2; simp [fp, vT]
  | x :: y :: t, h, hs => by
    obtain ⟨i1, i2⟩ := dn_ge (l := y :: t) (b01_tail h) hs.2
    have hf := fp_lt (t.length + 1)
    have e2 : (x :: y :: t).length = t.length + 2 := rfl
    have e1 : (y :: t).length = t.length + 1 := rfl
    rcases b01_head h with rfl | rfl
    · have hy : y = 1 := by
        rcases b01_head (b01_tail h) with rfl | rfl
        · exact absurd ⟨rfl, rfl⟩ hs.1
        · rfl
      subst hy
      have := i1 t rfl
      refine ⟨fun _ e => by simp at e, fun z s e => ?_⟩
      injection e with e3 e4; subst e4
      rw [vT_zero]; exact this
    · have := i2 y t rfl
      rw [vT_one, e2, e1, fp_s]
      refine ⟨fun _ _ => by omega, fun z s e => ?_⟩
      injection e with e3 e4; subst e4
      rw [e1]; omega

/-- a sparse list is the only one of its length and value -/
theorem sp_unique : ∀ {a b : List Int}, B01 a → NoP 1 a → B01 b → NoP 1 b → a.length = b.length → vT a = vT b → a = b
  | [], [], _, _, _, _, _, _ => rfl
  | x :: a, y :: b, ha, sa, hb, sb, hl, hv => by
    have hl' : a.length = b.length := by simpa using hl
    have la := sp_lt (b01_tail ha) (noP_tail sa)
    have lb := sp_lt (b01_tail hb) (noP_tail sb)
    rcases b01_head ha with rfl | rfl <;> rcases b01_head hb with rfl | rfl
    · rw [vT_zero, vT_zero] at hv
      rw [sp_unique (b01_tail ha) (noP_tail sa) (b01_tail hb) (noP_tail sb) hl' hv]
    · rw [vT_zero, vT_one] at hv; rw [hl'] at la; omega
    · rw [vT_zero, vT_one] at hv; rw [hl'] at hv; omega
    · rw [vT_one, vT_one, hl'] at hv
      rw [sp_unique (b01_tail ha) (noP_tail sa) (b01_tail hb) (noP_tail sb) hl' (by omega)]
  | [], _ :: _, _, _, _, _, hl, _ => by simp at hl
  | _ :: _, [], _, _, _, _, hl, _ => by simp at hl
/-- so is a dense one -/
theorem dn_unique : ∀ {a b : List Int}, B01 a → NoP 0 a → B01 b → NoP 0 b → a.length = b.length → vT a = vT b → a = b
  | [], [], _, _, _, _, _, _ => rfl
  | x :: a, y :: b, ha, sa, hb, sb, hl, hv => by
    have hl' : a.length = b.length := by simpa using hl
    have la := any_le (b01_tail ha)
    have lb := any_le (b01_tail hb)
    rcases b01_head ha with rfl | rfl <;> rcases b01_head hb with rfl | rfl
    · rw [vT_zero, vT_zero] at hv
      rw [dn_unique (b01_tail ha) (noP_tail sa) (b01_tail hb) (noP_tail sb) hl' hv]
    · have := (dn_ge hb sb).1 b rfl
      rw [vT_zero] at hv
      rw [List.length_cons] at this
      rw [hl'] at la; omega
    · have := (dn_ge ha sa).1 a rfl
      rw [vT_zero] at hv
      rw [List.length_cons, hl'] at this
      omega
    · rw [vT_one, vT_one, hl'] at hv
      rw [dn_unique (b01_tail ha) (noP_tail sa) (b01_tail hb) (noP_tail sb) hl' (by omega)]
  | [], _ :: _, _, _, _, _, hl, _ => by simp at hl
  | _ :: _, [], _, _, _, _, hl, _ => by simp at hl

/-! ### greedy digits -/
/-- sparse digits in m places -/
def gs : Nat → Nat → List Int
  | 0, _ => []
  | m + 1, n => if fp m ≤ n then 1 :: gs m (n - fp m) else 0 :: gs m n
theorem gs_len : ∀ m n, (gs m n).length = m
  | 0, _ => rfl
  | m + 1, n => by rw [gs]; split <;> rw [List.length_cons, gs_len]
theorem gs_b01 : ∀ m n, B01 (gs m n)
  | 0, _ => fun d hd => by simp [gs] at hd
  | m + 1, n => by
    rw [gs]; split
    · exact b01_cons (.inr rfl) (gs_b01 _ _)
    · exact b01_cons (.inl rfl) (gs_b01 _ _)
theorem gs_val : ∀ {m n : Nat}, n < fp m → vT (gs m n) = n
  | 0, n, h => by simp [fp] at h; subst h; rfl
  | m + 1, n, h => by
    rw [gs]; split
    · rename_i hle
      have hlt : n - fp m < fp m := by
        cases m with
        | zero => simp [fp] at h hle ⊢; omega
        | succ k => have := fp_lt k; rw [fp_s] at h; omega
      rw [vT_one, gs_len, gs_val hlt]; omega
    · rw [vT_zero, gs_val (by omega)]
theorem gs_noP : ∀ {m n : Nat}, n < fp m → NoP 1 (gs m n)
  | 0, _, _ => trivial
  | 1, n, h => by rw [gs]; split <;> exact trivial
  | m + 2, n, h => by
    rw [gs]; split
    · rename_i hle
      rw [fp_s] at h
      have h2 : n - fp (m + 1) < fp m := by omega
      have h3 : ¬ fp m ≤ n - fp (m + 1) := by omega
      have ih := gs_noP (m := m + 1) (n := n - fp (m + 1)) (by have := fp_lt m; omega)
      rw [gs, if_neg h3] at ih ⊢
      exact ⟨by omega, ih⟩
    · exact noP_zero (gs_noP (by omega))

/-- dense digits in k places -/
def gd : Nat → Nat → List Int
  | 0, _ => []
  | j + 1, n => if fp (j + 1) ≤ n + 1 then 1 :: gd j (n - fp j) else 0 :: gd j n
theorem gd_len : ∀ m n, (gd m n).length = m
  | 0, _ => rfl
  | m + 1, n => by rw [gd]; split <;> rw [List.length_cons, gd_len]
theorem gd_b01 : ∀ m n, B01 (gd m n)
  | 0, _ => fun d hd => by simp [gd] at hd
  | m + 1, n => by
    rw [gd]; split
    · exact b01_cons (.inr rfl) (gd_b01 _ _)
    · exact b01_cons (.inl rfl) (gd_b01 _ _)
theorem gd_val : ∀ {m n : Nat}, n + 2 ≤ fp (m + 1) → vT (gd m n) = n
  | 0, n, h => by simp [fp] at h; subst h; rfl
  | m + 1, n, h => by
    rw [fp_s] at h
    rw [gd]; split
    · rename_i hle
      have := fp_lt m
      rw [vT_one, gd_len, gd_val (by omega)]; omega
    · rw [vT_zero, gd_val (by omega)]
/-- behind a 1, or from the top on -/
theorem gd_noP : ∀ {m n : Nat}, n + 2 ≤ fp (m + 1) → fp (m - 1) ≤ n + 1 → NoP 0 (gd m n) ∧ (fp m ≤ n + 1 → ∀ x t, gd m n = x :: t → x = 1)
  | 0, _, _, _ => ⟨trivial, fun _ x t e => by simp [gd] at e⟩
  | m + 1, n, h, hlo => by
    rw [fp_s] at h
    rw [gd]; split
    · rename_i hle
      have hf := fp_lt m
      have hlo' : fp (m - 1) ≤ n - fp m + 1 := by
        cases m with
        | zero => simp [fp] at hle ⊢
        | succ k => rw [fp_s] at hle; simp only [Nat.add_sub_cancel]; omega
      exact ⟨noP_one (gd_noP (by omega) hlo').1, fun _ x t e => by injection e with e1 _; exact e1.symm⟩
    · rename_i hle
      rw [Nat.add_sub_cancel] at hlo
      refine ⟨?_, fun h' => absurd h' hle⟩
      obtain ⟨i1, i2⟩ := gd_noP (m := m) (n := n) (by omega) (by
        have := fp_mono (show m - 1 ≤ m by omega); omega)
      cases e : gd m n with
      | nil => exact trivial
      | cons x t =>
        have hx := i2 hlo x t e
        rw [e] at i1
        exact ⟨by omega, i1⟩

/-! ### all lists of a number -/
def cnt : Nat → Nat → Nat
  | 0, n => if n = 0 then 1 else 0
  | k + 1, n => (if fp k ≤ n then cnt k (n - fp k) else 0) + cnt k n
theorem cnt_pos : ∀ {l : List Int}, B01 l → 1 ≤ cnt l.length (vT l)
  | [], _ => by simp [cnt, vT]
  | x :: t, h => by
    have ih := cnt_pos (b01_tail h)
    rw [List.length_cons, cnt]
    rcases b01_head h with rfl | rfl
    · rw [vT_zero]; omega
    · rw [vT_one, if_pos (by omega), Nat.add_sub_cancel_left]; omega
theorem cnt_two : ∀ {a b : List Int}, B01 a → B01 b → a.length = b.length → vT a = vT b → a ≠ b → 2 ≤ cnt a.length (vT a)
  | [], [], _, _, _, _, h => absurd rfl h
  | x :: a, y :: b, ha, hb, hl, hv, hne => by
    have hl' : a.length = b.length := by simpa using hl
    have pa := cnt_pos (b01_tail ha)
    have pb := cnt_pos (b01_tail hb)
    rw [List.length_cons, cnt]
    rcases b01_head ha with rfl | rfl <;> rcases b01_head hb with rfl | rfl
    · rw [vT_zero] at hv ⊢
      rw [vT_zero] at hv
      have := cnt_two (b01_tail ha) (b01_tail hb) hl' hv (fun e => hne (by rw [e]))
      omega
    · rw [vT_zero, vT_one, ← hl'] at hv
      rw [vT_zero, if_pos (by omega)]
      rw [show vT a - fp a.length = vT b by omega]
      rw [← hl'] at pb
      omega
    · rw [vT_zero, vT_one] at hv
      rw [vT_one, if_pos (by omega), Nat.add_sub_cancel_left, hv]
      rw [← hl'] at pb
      omega
    · rw [vT_one, vT_one, hl'] at hv
      rw [vT_one, if_pos (by omega), Nat.add_sub_cancel_left]
      have := cnt_two (b01_tail ha) (b01_tail hb) hl' (by omega) (fun e => hne (by rw [e]))
      omega
  | [], _ :: _, _, _, hl, _, _ => by simp at hl
  | _ :: _, [], _, _, hl, _, _ => by simp at hl
theorem cnt_some : ∀ {k n : Nat}, 1 ≤ cnt k n → ∃ l, B01 l ∧ l.length = k ∧ vT l = n
  | 0, n, h => by
    by_cases hn : n = 0
    · exact ⟨[], fun d hd => by simp at hd, rfl, by rw [hn]; rfl⟩
    · simp [cnt, hn] at h
  | k + 1, n, h => by
    rw [cnt] at h
    by_cases h2 : 1 ≤ cnt k n
    · obtain ⟨l, i1, i2, i3⟩ := cnt_some h2
      exact ⟨0 :: l, b01_cons (.inl rfl) i1, by rw [List.length_cons, i2], by rw [vT_zero, i3]⟩
    · split at h
      · rename_i hle
        obtain ⟨l, i1, i2, i3⟩ := cnt_some (show 1 ≤ cnt k (n - fp k) by omega)
        exact ⟨1 :: l, b01_cons (.inr rfl) i1, by rw [List.length_cons, i2], by rw [vT_one, i2, i3]; omega⟩
      · omega
theorem cnt_more : ∀ {k n : Nat}, 2 ≤ cnt k n → ∃ a b, B01 a ∧ B01 b ∧ a.length = k ∧ b.length = k ∧ vT a = n ∧ vT b = n ∧ a ≠ b
  | 0, n, h => by
    by_cases hn : n = 0 <;> simp [cnt, hn] at h
  | k + 1, n, h => by
    rw [cnt] at h
    by_cases h2 : 2 ≤ cnt k n
    · obtain ⟨a, b, i1, i2, i3, i4, i5, i6, i7⟩ := cnt_more h2
      exact ⟨0 :: a, 0 :: b, b01_cons (.inl rfl) i1, b01_cons (.inl rfl) i2, by rw [List.length_cons, i3], by rw [List.length_cons, i4], by rw [vT_zero, i5], by rw [vT_zero, i6], fun e => i7 (by injection e)⟩
    · split at h
      · rename_i hle
        by_cases h3 : 2 ≤ cnt k (n - fp k)
        · obtain ⟨a, b, i1, i2, i3, i4, i5, i6, i7⟩ := cnt_more h3
          exact ⟨1 :: a, 1 :: b, b01_cons (.inr rfl) i1, b01_cons (.inr rfl) i2, by rw [List.length_cons, i3], by rw [List.length_cons, i4], by rw [vT_one, i3, i5]; omega, by rw [vT_one, i4, i6]; omega, fun e => i7 (by injection e)⟩
        · obtain ⟨a, j1, j2, j3⟩ := cnt_some (show 1 ≤ cnt k (n - fp k) by omega)
          obtain ⟨b, k1, k2, k3⟩ := cnt_some (show 1 ≤ cnt k n by omega)
          exact ⟨1 :: a, 0 :: b, b01_cons (.inr rfl) j1, b01_cons (.inl rfl) k1, by rw [List.length_cons, j2], by rw [List.length_cons, k2], by rw [vT_one, j2, j3]; omega, by rw [vT_zero, k3], fun e => by injection e with e1 _; omega⟩
      · omega

/-! ### between the dense and the sparse one -/
/-- the first of two lists of one length is not the later one in the order of the first difference -/
def LeT : List Int → List Int → Prop
  | x :: a, y :: b => x < y ∨ (x = y ∧ LeT a b)
  | _, _ => True
theorem leT_anti : ∀ {a b : List Int}, a.length = b.length → LeT a b → LeT b a → a = b
  | [], [], _, _, _ => rfl
  | x :: a, y :: b, hl, h1, h2 => by
    rcases h1 with h1 | ⟨rfl, h1⟩
    · rcases h2 with h2 | ⟨h2, _⟩ <;> omega
    · rcases h2 with h2 | ⟨_, h2⟩
      · omega
      · rw [leT_anti (by simpa using hl) h1 h2]
  | [], _ :: _, hl, _, _ => by simp at hl
  | _ :: _, [], hl, _, _ => by simp at hl
theorem le_sparse : ∀ {l s : List Int}, B01 l → B01 s → NoP 1 s → l.length = s.length → vT l = vT s → LeT l s
  | [], [], _, _, _, _, _ => trivial
  | x :: l, y :: s, hl, hs, ps, hlen, hv => by
    have hl' : l.length = s.length := by simpa using hlen
    have lb := sp_lt (b01_tail hs) (noP_tail ps)
    rcases b01_head hl with rfl | rfl <;> rcases b01_head hs with rfl | rfl
    · rw [vT_zero, vT_zero] at hv
      exact .inr ⟨rfl, le_sparse (b01_tail hl) (b01_tail hs) (noP_tail ps) hl' hv⟩
    · exact .inl (by omega)
    · rw [vT_one, vT_zero, hl'] at hv; omega
    · rw [vT_one, vT_one, hl'] at hv
      exact .inr ⟨rfl, le_sparse (b01_tail hl) (b01_tail hs) (noP_tail ps) hl' (by omega)⟩
  | [], _ :: _, _, _, _, hlen, _ => by simp at hlen
  | _ :: _, [], _, _, _, hlen, _ => by simp at hlen
theorem ge_dense : ∀ {l d : List Int}, B01 l → B01 d → NoP 0 d → l.length = d.length → vT l = vT d → LeT d l
  | [], [], _, _, _, _, _ => trivial
  | x :: l, y :: d, hl, hd, pd, hlen, hv => by
    have hl' : l.length = d.length := by simpa using hlen
    have la := any_le (b01_tail hl)
    rcases b01_head hl with rfl | rfl <;> rcases b01_head hd with rfl | rfl
    · rw [vT_zero, vT_zero] at hv
      exact .inr ⟨rfl, ge_dense (b01_tail hl) (b01_tail hd) (noP_tail pd) hl' hv⟩
    · have := (dn_ge hd pd).1 d rfl
      rw [vT_zero] at hv
      rw [List.length_cons, ← hl'] at this
      omega
    · exact .inl (by omega)
    · rw [vT_one, vT_one, hl'] at hv
      exact .inr ⟨rfl, ge_dense (b01_tail hl) (b01_tail hd) (noP_tail pd) hl' (by omega)⟩
  | [], _ :: _, _, _, _, hlen, _ => by simp at hlen
  | _ :: _, [], _, _, _, hlen, _ => by simp at hlen

/-! ### zeros ahead -/
theorem vT_zeros (k : Nat) (l : List Int) : vT (List.replicate k 0 ++ l) = vT l := by
  induction k with
  | zero => rfl
  | succ k ih => rw [List.replicate_succ, List.cons_append, vT_zero, ih]
theorem b01_zeros (k : Nat) {l : List Int} (h : B01 l) : B01 (List.replicate k 0 ++ l) := by
  induction k with
  | zero => exact h
  | succ k ih => rw [List.replicate_succ, List.cons_append]; exact b01_cons (.inl rfl) ih
theorem noP_zeros (k : Nat) {l : List Int} (h : NoP 1 l) : NoP 1 (List.replicate k 0 ++ l) := by
  induction k with
  | zero => exact h
  | succ k ih => rw [List.replicate_succ, List.cons_append]; exact noP_zero ih
theorem sum_zeros (k : Nat) (l : List Int) : (List.replicate k 0 ++ l).sum = l.sum := by
  induction k with
  | zero => rfl
  | succ k ih => rw [List.replicate_succ, List.cons_append, List.sum_cons, ih]; omega
/-- without the zeros ahead -/
def trT : List Int → List Int
  | [] => []
  | d :: t => if d = 0 then trT t else d :: t
theorem trT_val : ∀ l, vT (trT l) = vT l
  | [] => rfl
  | d :: t => by
    rw [trT]; split
    · rename_i h; subst h; rw [vT_zero, trT_val t]
    · rfl
theorem trT_b01 : ∀ {l : List Int}, B01 l → B01 (trT l)
  | [], h => h
  | d :: t, h => by
    rw [trT]; split
    · exact trT_b01 (b01_tail h)
    · exact h
theorem trT_noP {x : Int} : ∀ {l : List Int}, NoP x l → NoP x (trT l)
  | [], h => h
  | d :: t, h => by
    rw [trT]; split
    · exact trT_noP (noP_tail h)
    · exact h
theorem trT_le : ∀ l : List Int, (trT l).length ≤ l.length
  | [] => Nat.le_refl _
  | d :: t => by
    have := trT_le t
    rw [trT]; split
    · rw [List.length_cons]; omega
    · exact Nat.le_refl _
theorem trT_sum : ∀ l : List Int, (trT l).sum = l.sum
  | [] => rfl
  | d :: t => by
    rw [trT]; split
    · rename_i h; subst h; rw [trT_sum t, List.sum_cons]; omega
    · rfl
theorem trT_pad : ∀ l : List Int, ∃ k, l = List.replicate k 0 ++ trT l
  | [] => ⟨0, rfl⟩
  | d :: t => by
    rw [trT]; split
    · rename_i h; subst h
      obtain ⟨k, hk⟩ := trT_pad t
      exact ⟨k + 1, by rw [List.replicate_succ, List.cons_append, ← hk]⟩
    · exact ⟨0, rfl⟩
/-- the first digit is not 0 -/
def TopT (l : List Int) : Prop := ∀ d t, l = d :: t → d ≠ 0
theorem trT_top : ∀ l : List Int, TopT (trT l)
  | [] => fun d t e => by simp [trT] at e
  | d :: t => by
    rw [trT]; split
    · exact trT_top t
    · rename_i h
      exact fun d' t' e => by injection e with e1 _; rw [← e1]; exact h
theorem top_one {l : List Int} (h : B01 l) (ht : TopT l) (hne : l ≠ []) : ∃ t, l = 1 :: t := by
  cases l with
  | nil => exact absurd rfl hne
  | cons d t =>
    rcases b01_head h with rfl | rfl
    · exact absurd rfl (ht 0 t rfl)
    · exact ⟨t, rfl⟩
theorem top_nil {l : List Int} (h : B01 l) (ht : TopT l) (hv : vT l = 0) : l = [] := by
  by_cases hne : l = []
  · exact hne
  · obtain ⟨t, rfl⟩ := top_one h ht hne
    rw [vT_one] at hv
    have := fp_pos t.length
    omega

/-- a sparse list whose first digit is not 0 is no longer than any other list of the number; it has the greatest length -/
theorem sparse_len {l s : List Int} (hl : B01 l) (tl : TopT l) (hs : B01 s) (ps : NoP 1 s) (ts : TopT s) (hv : vT l = vT s) : l.length ≤ s.length := by
  by_cases hne : l = []
  · rw [hne]; exact Nat.zero_le _
  · obtain ⟨t, rfl⟩ := top_one hl tl hne
    have h1 := sp_lt hs ps
    rw [vT_one] at hv
    rcases Nat.lt_or_ge s.length (t.length + 1) with h | h
    · have := fp_mono (show s.length ≤ t.length by omega)
      omega
    · exact h
theorem dense_len {l d : List Int} (hl : B01 l) (hd : B01 d) (pd : NoP 0 d) (td : TopT d) (hv : vT l = vT d) : d.length ≤ l.length := by
  by_cases hne : d = []
  · rw [hne]; exact Nat.zero_le _
  · obtain ⟨t, rfl⟩ := top_one hd td hne
    have h1 := (dn_ge hd pd).1 t rfl
    have h2 := any_le hl
    rcases Nat.lt_or_ge l.length (1 :: t).length with h | h
    · have := fp_mono (show l.length + 1 ≤ (1 :: t).length by omega)
      omega
    · exact h

/-! ### weights -/
/-- a carry at the first two 1 that follow each other -/
theorem carry_up : ∀ {l : List Int}, B01 (0 :: l) → ¬ NoP 1 (0 :: l) → ∃ l', B01 l' ∧ l'.length = l.length + 1 ∧ vT l' = vT (0 :: l) ∧ l'.sum + 1 = (0 :: l).sum
  | [], _, h => absurd trivial h
  | [x], _, h => absurd (show NoP 1 [0, x] from ⟨by omega, trivial⟩) h
  | x :: y :: t, hb, h => by
    rcases b01_head (b01_tail hb) with rfl | rfl
    · have hn : ¬ NoP 1 (0 :: y :: t) := fun hh => h ⟨by omega, hh⟩
      obtain ⟨l', i1, i2, i3, i4⟩ := carry_up (b01_tail hb) hn
      refine ⟨0 :: l', b01_cons (.inl rfl) i1, by rw [List.length_cons, i2]; rfl, by rw [vT_zero, vT_zero, i3], ?_⟩
      simp only [List.sum_cons] at i4 ⊢; omega
    · rcases b01_head (b01_tail (b01_tail hb)) with rfl | rfl
      · have hn : ¬ NoP 1 (0 :: t) := fun hh => h ⟨by omega, by omega, hh⟩
        obtain ⟨l', i1, i2, i3, i4⟩ := carry_up (b01_tail (b01_tail hb)) hn
        refine ⟨0 :: 1 :: l', b01_cons (.inl rfl) (b01_cons (.inr rfl) i1), by simp only [List.length_cons, i2], ?_, ?_⟩
        · rw [vT_zero (1 :: l'), vT_one l', i2, i3, vT_zero (1 :: 0 :: t), vT_one (0 :: t)]; rfl
        · simp only [List.sum_cons] at i4 ⊢; omega
      · have ht := b01_tail (b01_tail (b01_tail hb))
        refine ⟨1 :: 0 :: 0 :: t, b01_cons (.inr rfl) (b01_cons (.inl rfl) (b01_cons (.inl rfl) ht)), rfl, ?_, ?_⟩
        · rw [vT_one, vT_zero, vT_zero, vT_zero, vT_one, vT_one]
          show fp (t.length + 2) + vT t = fp (t.length + 1) + (fp t.length + vT t)
          rw [fp_s]; omega
        · simp only [List.sum_cons]; omega
/-- a carry back at the first two 0 that follow each other -/
theorem carry_down : ∀ {l : List Int}, B01 (1 :: l) → ¬ NoP 0 (1 :: l) → ∃ l', B01 l' ∧ l'.length = l.length + 1 ∧ vT l' = vT (1 :: l) ∧ l'.sum = (1 :: l).sum + 1
  | [], _, h => absurd trivial h
  | [x], _, h => absurd (show NoP 0 [1, x] from ⟨by omega, trivial⟩) h
  | x :: y :: t, hb, h => by
    rcases b01_head (b01_tail hb) with rfl | rfl
    · rcases b01_head (b01_tail (b01_tail hb)) with rfl | rfl
      · have ht := b01_tail (b01_tail (b01_tail hb))
        refine ⟨0 :: 1 :: 1 :: t, b01_cons (.inl rfl) (b01_cons (.inr rfl) (b01_cons (.inr rfl) ht)), rfl, ?_, ?_⟩
        · rw [vT_one, vT_zero, vT_zero, vT_zero, vT_one, vT_one]
          show fp (t.length + 1) + (fp t.length + vT t) = fp (t.length + 2) + vT t
          rw [fp_s]; omega
        · simp only [List.sum_cons]; omega
      · have hn : ¬ NoP 0 (1 :: t) := fun hh => h ⟨by omega, by omega, hh⟩
        obtain ⟨l', i1, i2, i3, i4⟩ := carry_down (b01_tail (b01_tail hb)) hn
        refine ⟨1 :: 0 :: l', b01_cons (.inr rfl) (b01_cons (.inl rfl) i1), by simp only [List.length_cons, i2], ?_, ?_⟩
        · rw [vT_one (0 :: l'), vT_zero l', i3, vT_one (0 :: 1 :: t), vT_zero (1 :: t)]; simp only [List.length_cons, i2]
        · simp only [List.sum_cons] at i4 ⊢; omega
    · have hn : ¬ NoP 0 (1 :: y :: t) := fun hh => h ⟨by omega, hh⟩
      obtain ⟨l', i1, i2, i3, i4⟩ := carry_down (b01_tail hb) hn
      refine ⟨1 :: l', b01_cons (.inr rfl) i1, by rw [List.length_cons, i2]; rfl, ?_, ?_⟩
      · rw [vT_one, vT_one, i3, i2]; rfl
      · simp only [List.sum_cons] at i4 ⊢; omega
theorem sum_nonneg : ∀ {l : List Int}, B01 l → 0 ≤ l.sum ∧ l.sum ≤ vT l
  | [], _ => by simp [vT]
  | x :: t, h => by
    have ih := sum_nonneg (b01_tail h)
    have := fp_pos t.length
    rcases b01_head h with rfl | rfl
    · rw [List.sum_cons, vT_zero]; omega
    · rw [List.sum_cons, vT_one]; omega
/-- every list leads to a sparse one that is no heavier -/
theorem to_sparse : ∀ (w : Nat) {l : List Int}, B01 l → l.sum.toNat ≤ w → ∃ s, B01 s ∧ NoP 1 s ∧ vT s = vT l ∧ s.sum ≤ l.sum := by
  intro w
  induction w with
  | zero =>
    intro l h hw
    refine ⟨[], fun d hd => by simp at hd, trivial, ?_, ?_⟩
    · have : ∀ {l : List Int}, B01 l → l.sum = 0 → vT l = 0 := by
        intro l
        induction l with
        | nil => intro _ _; rfl
        | cons x t ih =>
          intro h hs
          have := (sum_nonneg (b01_tail h)).1
          rw [List.sum_cons] at hs
          rcases b01_head h with rfl | rfl
          · rw [vT_zero]; exact ih (b01_tail h) (by omega)
          · omega
      rw [this h (by have := (sum_nonneg h).1; omega)]; rfl
    · have := (sum_nonneg h).1
      simpa using this
  | succ w ih =>
    intro l h hw
    by_cases hs : NoP 1 (0 :: l)
    · exact ⟨l, h, noP_tail hs, rfl, Int.le_refl _⟩
    · obtain ⟨l', i1, i2, i3, i4⟩ := carry_up (b01_cons (.inl rfl) h) hs
      have i4' : l'.sum + 1 = l.sum := by rw [i4, List.sum_cons]; omega
      have hn := (sum_nonneg i1).1
      obtain ⟨s, j1, j2, j3, j4⟩ := ih i1 (by omega)
      exact ⟨s, j1, j2, by rw [j3, i3, vT_zero], by omega⟩
/-- every list leads to a dense one that is no lighter -/
theorem to_dense : ∀ (g : Nat) {l : List Int}, B01 l → vT l ≤ g + l.sum.toNat → ∃ d, B01 d ∧ NoP 0 d ∧ TopT d ∧ vT d = vT l ∧ l.sum ≤ d.sum := by
  intro g
  induction g with
  | zero =>
    intro l h hg
    by_cases hd : NoP 0 (trT l)
    · exact ⟨trT l, trT_b01 h, hd, trT_top l, trT_val l, by rw [trT_sum]; exact Int.le_refl _⟩
    · exfalso
      have hb := trT_b01 h
      have hne : trT l ≠ [] := fun e => hd (by rw [e]; trivial)
      obtain ⟨t, ht⟩ := top_one hb (trT_top l) hne
      rw [ht] at hd hb
      obtain ⟨l', i1, i2, i3, i4⟩ := carry_down hb hd
      have h1 := sum_nonneg i1
      rw [i3, ← ht, trT_val] at h1
      rw [← ht, trT_sum] at i4
      have := (sum_nonneg h).1
      omega
  | succ g ih =>
    intro l h hg
    by_cases hd : NoP 0 (trT l)
    · exact ⟨trT l, trT_b01 h, hd, trT_top l, trT_val l, by rw [trT_sum]; exact Int.le_refl _⟩
    · have hb := trT_b01 h
      have hne : trT l ≠ [] := fun e => hd (by rw [e]; trivial)
      obtain ⟨t, ht⟩ := top_one hb (trT_top l) hne
      rw [ht] at hd hb
      obtain ⟨l', i1, i2, i3, i4⟩ := carry_down hb hd
      rw [← ht, trT_val] at i3
      rw [← ht, trT_sum] at i4
      have hn := (sum_nonneg h).1
      obtain ⟨d, j1, j2, j3, j4, j5⟩ := ih i1 (by omega)
      exact ⟨d, j1, j2, j3, by rw [j4, i3], by omega⟩

end Go.Proofs.Ytkimojjhmllnfaa
