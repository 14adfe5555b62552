/- Places of coins: the model's least digits. -/
import Derived.Test.YtbfoaibgenepoaaRow
import Derived.Test.YtbfoaibgenepoaaCoLst
set_option linter.unusedVariables false
set_option linter.unusedSimpArgs false
set_option maxRecDepth 100000
namespace Go.Proofs.Ytbfoaibgenepoaa
open Go.ChangeShapes Go.WideShapes Go.ChangeAt Go.RowKit

theorem coin_step {l : List Int} (h : Coins l) {j : Nat} (hj : j + 1 < l.length) : l[j] < l[j + 1] := by
  have h2 := ascB_take hj
  rw [ascB_pre _ h.asc] at h2
  have := h2.symm
  simp only [Bool.and_eq_true, decide_eq_true_eq] at this
  exact this.2
theorem coin_mono {l : List Int} (h : Coins l) (i : Nat) : ∀ (d : Nat) (hd : i + d < l.length), l[i]'(by omega) ≤ l[i + d]
  | 0, _ => Int.le_refl _
  | d + 1, hd => by
    have h1 := coin_mono h i d (by omega)
    have h2 := coin_step h (j := i + d) (by omega)
    have h3 : l[i + (d + 1)] = l[i + d + 1] := rfl
    omega
theorem coin_between {l : List Int} (h : Coins l) {i q : Nat} (hi : i + 1 < l.length) (hq : l.length = q + 1) : ∀ c ∈ l.drop (i + 1), l[i + 1] ≤ c ∧ c ≤ l[q] := by
  intro c hc
  obtain ⟨k, hk, rfl⟩ := List.mem_iff_getElem.mp hc
  rw [List.length_drop] at hk
  rw [List.getElem_drop]
  have h1 := coin_mono h (i + 1) k (by omega)
  have h2 := coin_mono h (i + 1 + k) (q - (i + 1 + k)) (by omega)
  have h3 : l[i + 1 + k + (q - (i + 1 + k))]'(by omega) = l[q] := by congr 1; omega
  omega

/-- what the search answers -/
def LstAns (B : Nat) (r : Option (List Int)) (e : Ending) (w : World) : Prop :=
  (∃ t g cap, r = some t ∧ e = .returned (.tuple #[.slice (some ⟨g, 0, none⟩) t.length cap, .bool true]) ∧ w.ownsRow B 3 1 (.slice (some ⟨g, 0, none⟩) t.length cap) t.length (intsOf t)) ∨ (∃ a n c, r = none ∧ e = .returned (.tuple #[.slice a n c, .bool false]))
/-- the search, from place i on -/
def LstAt (l : List Int) (v : Value) (i : Nat) (n left : Int) (w : World) : Prop :=
  Calls Try.prog 63 #[.int .i64 n, v, .int .i64 i, .int .i64 left] w fun e w' => LstAns w.heap.size (ld (l.drop i) n left) e w' ∧ Below w.heap.size w w'

set_option maxHeartbeats 8000000 in
theorem specLst_end (l : List Int) (v : Value) (n left : Int) (w : World) (hr : RowAt w v (intsOf l)) : LstAt l v l.length n left w := by
  obtain ⟨a, cap, rfl, q1, q2, q3⟩ := hr.ints
  have hO0 := World.ownsRow_lit (base := w.heap.size) (e := 3) (size := 1) w #[] 0 (Nat.le_refl _) (by decide) rfl
  have hB0 : Below w.heap.size w (w.alloc (.cells #[] 3)) := (Below.refl _ _).alloc (Nat.le_refl _) _
  have HO0 := Lib.hid (And.intro hO0 hB0)
  have HL := Lib.hid (show ld [] n left = if n = 0 ∧ left = 0 then some [] else none from rfl)
  unfold LstAt
  rw [List.drop_length]
  obtain ⟨ll, hll⟩ : ∃ ll, ll = l.length := ⟨_, rfl⟩
  rw [← hll]
  clear hr q1 q2 q3 hO0 hB0 hll
  by_cases h1 : n = 0
  · by_cases h2 : left = 0
    · subst h1 h2
      go_enter Try.func63, Try.ntmps63
      go_wp2_with fail
      go_ret2
      exact ⟨.inl ⟨[], _, _, by rw [HL.out]; rfl, rfl, HO0.out.1⟩, HO0.out.2⟩
    · subst h1
      have HN := Lib.hid (show ld [] 0 left = none by rw [HL.out, if_neg (fun h => h2 h.2)])
      have HF := Lib.hid (show (left == 0) = false by simp [h2])
      go_enter Try.func63, Try.ntmps63
      go_wp2_with fail
      go_ret2
      rw [HF.out]
      exact ⟨.inr ⟨_, _, _, HN.out, rfl⟩, HO0.out.2⟩
  · have HN := Lib.hid (show ld [] n left = none by rw [HL.out, if_neg (fun h => h1 h.1)])
    go_enter Try.func63, Try.ntmps63
    go_wp2_with fail
    go_ret2
    exact ⟨.inr ⟨_, _, _, HN.out, rfl⟩, HO0.out.2⟩

end Go.Proofs.Ytbfoaibgenepoaa
