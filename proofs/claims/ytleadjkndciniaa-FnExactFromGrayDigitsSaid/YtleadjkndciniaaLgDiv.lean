/- Long numbers: the model divides. -/
import Derived.Test.YtleadjkndciniaaRow
import Derived.Test.YtleadjkndciniaaLgM
import Derived.Deep.LoopGhost
set_option linter.unusedVariables false
set_option linter.unusedSimpArgs false
set_option maxRecDepth 100000
namespace Go.Proofs.Ytleadjkndciniaa
open Go.ChangeShapes Go.WideShapes Go.ChangeAt Go.RowKit

/-- two rows in blocks of their own -/
abbrev Apart (v v' : Value) : Prop := ∀ k, v.ownBlock = some k → v'.ownBlock = some k → False

theorem vl_cons {b : Nat} {d : Int} {l : List Int} (h : AllD b (d :: l)) : vl b (d :: l) = d.toNat + b * vl b l := by
  have hl : AllD b l := fun x hx => h x (List.mem_cons_of_mem _ hx)
  have e := vl_cast h
  have e2 := vl_cast hl
  have hd := h d (by simp)
  rw [hv_cons, ← e2] at e
  have : ((b * vl b l : Nat) : Int) = (b : Int) * (vl b l : Int) := Int.natCast_mul _ _
  omega
theorem vl_drop {b : Nat} {a : List Int} (h : AllD b a) {j : Nat} (hj : j < a.length) : vl b (a.drop j) = a[j].toNat + b * vl b (a.drop (j + 1)) := by
  rw [List.drop_eq_getElem_cons hj]
  exact vl_cons (fun d hd => by
    rw [← List.drop_eq_getElem_cons hj] at hd
    exact h d (List.mem_of_mem_drop hd))

theorem cmp_ge {n m : Nat} (h : m ≤ n) : ¬ cmpN n m < 0 := by
  unfold cmpN
  split
  · omega
  · split <;> omega

/-- an element put in front of a row -/
theorem allD_cons {b : Nat} {d : Int} {l : List Int} (h0 : 0 ≤ d) (h1 : d ≤ (b : Int) - 1) (h : AllD b l) : AllD b (d :: l) := fun x hx => by
  rcases List.mem_cons.1 hx with rfl | hx
  · exact ⟨h0, h1⟩
  · exact h x hx

theorem div_step {b A AJ Q C R X d R' x : Nat} (hA : A = x + b * AJ) (hAJ : AJ = Q * C + R) (hX : X = x + b * R) (hd : X = d * C + R') : A = (d + b * Q) * C + R' := by
  rw [hA, hAJ, Nat.mul_add, Nat.add_mul, Nat.mul_assoc]
  omega
theorem div_lt_b {b C R X d R' x : Nat} (hx : x < b) (hR : R < C) (hX : X = x + b * R) (hd : X = d * C + R') : d < b := by
  rcases Nat.lt_or_ge d b with h | h
  · exact h
  · exfalso
    have h1 : b * C ≤ d * C := Nat.mul_le_mul_right _ h
    have h2 : b * (R + 1) ≤ b * C := Nat.mul_le_mul_left _ hR
    rw [Nat.mul_add, Nat.mul_one] at h2
    omega

theorem add_addrD (b off j : Nat) : (⟨b, off, none⟩ : Addr).add j = ⟨b, off + j, none⟩ := by
  unfold Addr.add; split <;> simp_all
theorem add_zero_addr (g j : Nat) : (⟨g, 0, none⟩ : Addr).add j = ⟨g, j, none⟩ := by
  by_cases h : j = 0
  · subst h; simp [Addr.add]
  · simp [Addr.add, h]
/-- the cells of a row that has a block -/
theorem owns_cells {w : World} {base : Nat} {e : TypeId} {g n cap : Nat} {xs : List Value} (h : w.ownsRow base e 1 (.slice (some ⟨g, 0, none⟩) n cap) n xs) : ∀ j u, xs[j]? = some u → w.cell? ⟨g, j, none⟩ = some u := by
  intro j u hj
  have := h.cells (g := g) rfl j u hj
  rwa [add_zero_addr] at this

theorem dg_len_le {b R : Nat} {c : List Int} (hb : 2 ≤ b) (hc : Nrm b c) (h : R < vl b c) : (dg b R).length ≤ c.length := by
  rcases Nat.lt_or_ge c.length (dg b R).length with h' | h'
  · have := lt_of_len hb hc (nrm_dg hb R) h'
    rw [vl_dg hb] at this; omega
  · exact h'
theorem dg_len_le' {b n : Nat} {c : List Int} (hb : 2 ≤ b) (hc : Nrm b c) (h0 : 0 < vl b c) (h : n < b * vl b c) : (dg b n).length ≤ c.length + 1 := by
  have hne : c ≠ [] := fun e => by rw [e] at h0; simp [vl, hv_nil] at h0
  have hA : AllD b ((0 : Int) :: c) := allD_cons (Int.le_refl _) (by omega) hc.1
  have hN : Nrm b ((0 : Int) :: c) := ⟨hA, .inr (by
    obtain ⟨y, l, rfl⟩ : ∃ y l, c = y :: l := by
      cases c with
      | nil => exact absurd rfl hne
      | cons y l => exact ⟨y, l, rfl⟩
    rw [List.getLast?_cons_cons]
    exact hc.2.resolve_left hne)⟩
  have := dg_len_le hb hN (R := n) (by rw [vl_cons hA]; simpa using h)
  simpa using this

theorem intsOf_one (l : List Int) : ∀ u ∈ intsOf l, u.oneCell' = true := fun u hu => by
  simp only [intsOf, List.mem_map] at hu
  obtain ⟨x, _, rfl⟩ := hu; rfl

end Go.Proofs.Ytleadjkndciniaa
