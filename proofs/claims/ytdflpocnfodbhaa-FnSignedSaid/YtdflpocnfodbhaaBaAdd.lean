/- Balanced digits: the model negates, adds, drops places, weighs. -/
import Derived.Test.YtdflpocnfodbhaaLgSpec
import Derived.Test.YtdflpocnfodbhaaBaM
import Derived.Deep.LoopGhost
set_option linter.unusedVariables false
set_option linter.unusedSimpArgs false
set_option maxRecDepth 100000
namespace Go.Proofs.Ytdflpocnfodbhaa
open Go.ChangeShapes Go.WideShapes Go.ChangeAt Go.RowKit

/-- the negative, in 64 bits -/
def neg64 (d : Int) : Int := if d = -9223372036854775808 then -9223372036854775808 else -d
theorem neg64_in {d : Int} (h : in64 d) : in64 (neg64 d) := by
  unfold neg64 in64 at *; split <;> omega
def rNegateDigits0 (l : List Int) : List Int := if l.length ≤ 1048576 then l.map neg64 else []
theorem rNegateDigits0_len (l : List Int) : (rNegateDigits0 l).length ≤ 1048577 := by
  unfold rNegateDigits0; split
  · rw [List.length_map]; omega
  · simp

/-- one place of a sum: the digit and the carry -/
theorem bal_step {h : Nat} {S o A C A' C' d cy : Int} {k : Nat} {ka kc : Int} (hs : S = o + (2 * (h : Int) + 1) ^ k * (cy + A + C)) (hA : A = ka + (2 * h + 1) * A') (hC : C = kc + (2 * h + 1) * C') {c' : Int} (hx : ka + kc + cy = d + (2 * h + 1) * c') :
    S = (o + (2 * (h : Int) + 1) ^ k * d) + (2 * (h : Int) + 1) ^ (k + 1) * (c' + A' + C') := by
  have e2 : cy + A + C = d + (2 * (h : Int) + 1) * (c' + A' + C') := by
    rw [Int.mul_add, Int.mul_add]; omega
  rw [hs, e2, Int.pow_succ, Int.mul_add, Int.mul_assoc]
  omega
theorem bv_snoc (h : Nat) (l : List Int) (d : Int) : bv h (l ++ [d]) = bv h l + (2 * (h : Int) + 1) ^ l.length * d := hv_snoc _ l d
theorem allB_snoc {h : Nat} {l : List Int} {d : Int} (hl : AllB h l) (h0 : -(h : Int) ≤ d) (h1 : d ≤ h) : AllB h (l ++ [d]) := fun x hx => by
  rcases List.mem_append.1 hx with hx | hx
  · exact hl x hx
  · simp at hx; subst hx; exact ⟨h0, h1⟩
/-- without the zeros at the end -/
theorem trim_eqB {h : Nat} (hh : 1 ≤ h) {l : List Int} (hl : AllB h l) {n : Nat} (hn : n ≤ l.length) (hz : ∀ j (hj : j < l.length), n ≤ j → l[j] = 0) (hla : ∀ (hj : n - 1 < l.length), n = 0 ∨ l[n - 1] ≠ 0) :
    l.take n = bd h (bv h l) := by
  have hd : hv (2 * (h : Int) + 1) (l.drop n) = 0 := hv_zeros _ (fun d hd => by
    obtain ⟨j, hj, rfl⟩ := List.getElem_of_mem hd
    rw [List.getElem_drop]
    exact hz _ _ (by omega))
  have e : bv h l = bv h (l.take n) := by
    have := hv_append (2 * (h : Int) + 1) (l.take n) (l.drop n)
    rw [List.take_append_drop, hd] at this
    unfold bv; rw [this]; simp
  have hN : NrmB h (l.take n) := by
    refine ⟨fun d hd => hl d (List.mem_of_mem_take hd), ?_⟩
    by_cases h0 : n = 0
    · left; subst h0; simp
    · by_cases h1 : n - 1 < l.length
      · right
        have := (hla h1).resolve_left h0
        rw [List.getLast?_eq_getElem?, List.length_take, Nat.min_eq_left hn, List.getElem?_take, if_pos (by omega), List.getElem?_eq_getElem h1]
        simpa using this
      · left
        have : l.length = 0 := by omega
        rw [List.eq_nil_of_length_eq_zero this]; simp
  rw [e]
  exact (bd_bv hh hN).symm

set_option maxHeartbeats 1000000 in
/-- what l03Done hands back of a row of balanced digits -/
theorem spec5Done_any (v : Value) (l : List Int) (h base : Nat) (w : World) (hh : 1 ≤ h) (hA : AllB h l) (hown : w.ownsRow base 3 1 v l.length (intsOf l)) (hl : l.length ≤ 100000) :
    Calls Try.prog 122 #[v] w fun e w' => ∃ v', e = .returned (.tuple #[v', .bool (fits (bd h (bv h l)))]) ∧ w.ownsRow base 3 1 v' (if fits (bd h (bv h l)) then bd h (bv h l) else []).length (intsOf (if fits (bd h (bv h l)) then bd h (bv h l) else [])) ∧ w = w' := by
  obtain ⟨a, cap, rfl, h1, h2⟩ := owns_form hown
  unfold maxLen at h2
  have HT := Lib.hid (specTrim_any a cap l w (RowAt.of_owns hown) (by omega))
  have HW := Lib.hid (fun n (hn : n ≤ l.length) => owns_take hown hn)
  have HEQ := Lib.hid (fun n hn hz hla => trim_eqB hh hA (n := n) hn hz hla)
  obtain ⟨L, hL⟩ : ∃ L, L = bd h (bv h l) := ⟨_, rfl⟩
  rw [← hL] at HEQ ⊢
  obtain ⟨R, hR⟩ : ∃ R, R = (if fits L then L else []) := ⟨_, rfl⟩
  rw [← hR]
  obtain ⟨f, hf⟩ : ∃ f, f = fits L := ⟨_, rfl⟩
  rw [← hf]
  have HRf := Lib.hid hf; have HRR := Lib.hid hR
  clear hL hown hA hR hf
  go_enter Try.func122, Try.ntmps122
  go_wp2_with fail
  refine HT.out.mono ?_
  rintro e w' ⟨n, rfl, hn, hz, hlast, rfl⟩
  have e := HEQ.out n hn hz hlast
  have en : L.length = n := by rw [← e, List.length_take, Nat.min_eq_left hn]
  have HO := Lib.hid (show w.ownsRow base 3 1 (.slice a n cap) L.length (intsOf L) by rw [en, ← e, ← intsOf_take]; exact HW.out n hn)
  by_cases hf : n ≤ 60
  · have HF := Lib.hid (show f = true by rw [HRf.out]; simp [fits, en]; omega)
    have HR := Lib.hid (show R = L by rw [HRR.out, ← HRf.out, HF.out]; rfl)
    clear hz hlast e en HT HEQ HRf HRR
    go_wp2_with fail
    go_ret2
    exact ⟨_, by rw [HF.out]; rfl, by rw [HR.out]; exact HO.out, rfl⟩
  · have HF := Lib.hid (show f = false by rw [HRf.out]; simp [fits, en]; omega)
    have HR := Lib.hid (show R = [] by rw [HRR.out, ← HRf.out, HF.out]; rfl)
    clear hz hlast e en HT HEQ HRf HRR
    go_wp2_with fail
    go_ret2
    exact ⟨_, by rw [HF.out]; rfl, by rw [HR.out]; exact World.ownsRow_nil _ _ _ _, rfl⟩

end Go.Proofs.Ytdflpocnfodbhaa
