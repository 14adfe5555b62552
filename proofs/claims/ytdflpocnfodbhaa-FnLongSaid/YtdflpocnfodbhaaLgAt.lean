/- Long numbers: what the program's functions answer at digits of numbers. -/
import Derived.Test.YtdflpocnfodbhaaLgImpA
import Derived.Test.YtdflpocnfodbhaaLgImpV
import Derived.Test.YtdflpocnfodbhaaLgImpI
import Derived.Test.YtdflpocnfodbhaaLgImpQ
import Derived.Test.YtdflpocnfodbhaaLawFns
set_option linter.unusedVariables false
set_option linter.unusedSimpArgs false
set_option maxRecDepth 100000
namespace Go.Proofs.Ytdflpocnfodbhaa
open Go.ChangeShapes Go.WideShapes Go.ChangeAt Go.RowKit

/-- one list of digits came back -/
def Got (L : List Int) (w : World) (e : Ending) (w' : World) : Prop := ∃ v, e = .returned (.tuple #[v, .bool true]) ∧ RowAt w' v (intsOf L) ∧ Below w.heap.size w w'

/-- rows that lie in a world -/
def AllRows (w : World) (ps : List (Value × List Int)) : Prop := ∀ p ∈ ps, RowAt w p.1 (intsOf p.2)
theorem AllRows.below {w w' : World} {ps : List (Value × List Int)} (h : AllRows w ps) (hb : Below w.heap.size w w') : AllRows w' ps := fun p hp => (h p hp).below hb
theorem AllRows.cons {w : World} {ps : List (Value × List Int)} {v : Value} {l : List Int} (h : AllRows w ps) (hv : RowAt w v (intsOf l)) : AllRows w ((v, l) :: ps) := fun p hp => by
  rcases List.mem_cons.1 hp with rfl | hp
  · exact hv
  · exact h p hp
theorem AllRows.get {w : World} {ps : List (Value × List Int)} {v : Value} {l : List Int} (h : AllRows w ps) (k : Nat) (hk : ps[k]? = some (v, l)) : RowAt w v (intsOf l) := h (v, l) (List.mem_of_getElem? hk)

theorem okD_len {b n : Nat} (hb : 2 ≤ b) (hb16 : b ≤ 16) (h : (dg b n).length ≤ 60) : okD (dg b n) b = true := by
  simp only [okD, Bool.and_eq_true, decide_eq_true_eq]
  exact ⟨⟨⟨okB_mk ⟨by omega, by omega⟩, h⟩, dg_digits hb n n (Nat.le_refl _)⟩, dg_last hb n n (Nat.le_refl _)⟩
theorem dg_in64 {b n : Nat} (hb : 2 ≤ b) (hb16 : b ≤ 16) : ∀ d ∈ dg b n, in64 d := fun d hd => by
  have := dg_digits hb n n (Nat.le_refl _) d hd
  unfold in64; omega
theorem b_in64 {b : Nat} (hb16 : b ≤ 16) : in64 (b : Int) := by unfold in64; omega
theorem fits_at {b n : Nat} (h : (dg b n).length ≤ 60) : fits (dg b n) = true := decide_eq_true h

theorem add_len {b X Y j : Nat} (hb : 2 ≤ b) (h1 : (dg b X).length ≤ j) (h2 : (dg b Y).length ≤ j) : (dg b (X + Y)).length ≤ j + 1 := by
  have := sum_len hb (nrm_dg hb X).1 (nrm_dg hb Y).1 h1 h2
  rwa [vl_dg hb, vl_dg hb] at this
theorem times_len {b X Y j k : Nat} (hb : 2 ≤ b) (h1 : (dg b X).length ≤ j) (h2 : (dg b Y).length ≤ k) : (dg b (X * Y)).length ≤ j + k := by
  have := mul_len hb (nrm_dg hb X).1 (nrm_dg hb Y).1
  rw [vl_dg hb, vl_dg hb] at this
  omega
theorem mono_len {b X Y j : Nat} (hb : 2 ≤ b) (h : X ≤ Y) (h1 : (dg b Y).length ≤ j) : (dg b X).length ≤ j := by
  have := dg_mono hb (nrm_dg hb Y) (n := X) (by rw [vl_dg hb]; exact h)
  omega
theorem dg_lt_pow {b X k : Nat} (hb : 2 ≤ b) (h : (dg b X).length ≤ k) : X < b ^ k := by
  have h1 := vl_lt_pow hb (nrm_dg hb X).1
  rw [vl_dg hb] at h1
  exact Nat.lt_of_lt_of_le h1 (Nat.pow_le_pow_right (by omega) h)
theorem ten_len {b X : Nat} (hb : 2 ≤ b) (hb16 : b ≤ 16) (h : (dg b X).length ≤ 7) : (dg 10 X).length ≤ 9 := by
  refine dg_len_pow (by omega) ?_
  have h1 := dg_lt_pow hb h
  have h2 : b ^ 7 ≤ 16 ^ 7 := Nat.pow_le_pow_left hb16 _
  have h3 : (16 : Nat) ^ 7 < 10 ^ 9 := by decide
  omega
theorem isq_self_le (X : Nat) : isq X ≤ X := by
  have h := isq_le X
  rcases Nat.eq_zero_or_pos (isq X) with h0 | h0
  · omega
  · have : isq X * 1 ≤ isq X * isq X := Nat.mul_le_mul_left _ h0
    omega
theorem nil_iff {b X : Nat} (hb : 2 ≤ b) : dg b X = [] ↔ X = 0 := ⟨dg_nil hb, fun h => by subst h; rfl⟩

section
variable {va vc : Value} {X Y b : Nat} {w : World}

theorem addAt (hb : 2 ≤ b) (hb16 : b ≤ 16) (hra : RowAt w va (intsOf (dg b X))) (hrc : RowAt w vc (intsOf (dg b Y))) {j : Nat} (h1 : (dg b X).length ≤ j) (h2 : (dg b Y).length ≤ j) (hj : j ≤ 59) :
    Calls Try.prog 27 #[va, vc, .int .i64 b] w (Got (dg b (X + Y)) w) := by
  have h3 := add_len hb h1 h2
  have e1 : rAddDigits1 (dg b X) (dg b Y) b = true := by
    rw [rAddDigits1, okD_len hb hb16 (by omega), okD_len hb hb16 (by omega), vlI_nat, vlI_nat, dgI_nat, vl_dg hb, vl_dg hb, fits_at (by omega)]; rfl
  have e0 : rAddDigits0 (dg b X) (dg b Y) b = dg b (X + Y) := by
    rw [rAddDigits0, e1, vlI_nat, vlI_nat, dgI_nat, vl_dg hb, vl_dg hb]; rfl
  have := implAddDigits_any va (dg b X) vc (dg b Y) b w hra (by omega) (dg_in64 hb hb16) hrc (by omega) (dg_in64 hb hb16) (b_in64 hb16)
  rw [e1, e0] at this
  refine this.mono ?_
  rintro e w' ⟨v, rfl, ho, hB⟩
  exact ⟨v, rfl, RowAt.of_owns ho, hB⟩

theorem timesAt (hb : 2 ≤ b) (hb16 : b ≤ 16) (hra : RowAt w va (intsOf (dg b X))) (hrc : RowAt w vc (intsOf (dg b Y))) {j k : Nat} (h1 : (dg b X).length ≤ j) (h2 : (dg b Y).length ≤ k) (hj : j + k ≤ 60) :
    Calls Try.prog 28 #[va, vc, .int .i64 b] w (Got (dg b (X * Y)) w) := by
  have h3 := times_len hb h1 h2
  have e1 : rTimesDigits1 (dg b X) (dg b Y) b = true := by
    rw [rTimesDigits1, okD_len hb hb16 (by omega), okD_len hb hb16 (by omega), vlI_nat, vlI_nat, dgI_nat, vl_dg hb, vl_dg hb, fits_at (by omega)]; rfl
  have e0 : rTimesDigits0 (dg b X) (dg b Y) b = dg b (X * Y) := by
    rw [rTimesDigits0, e1, vlI_nat, vlI_nat, dgI_nat, vl_dg hb, vl_dg hb]; rfl
  have := implTimesDigits_any va (dg b X) vc (dg b Y) b w hra (by omega) (dg_in64 hb hb16) hrc (by omega) (dg_in64 hb hb16) (b_in64 hb16)
  rw [e1, e0] at this
  refine this.mono ?_
  rintro e w' ⟨v, rfl, ho, hB⟩
  exact ⟨v, rfl, RowAt.of_owns ho, hB⟩

theorem minusAt (hb : 2 ≤ b) (hb16 : b ≤ 16) (hra : RowAt w va (intsOf (dg b X))) (hrc : RowAt w vc (intsOf (dg b Y))) (h1 : (dg b X).length ≤ 60) (hle : Y ≤ X) :
    Calls Try.prog 29 #[va, vc, .int .i64 b] w (Got (dg b (X - Y)) w) := by
  have h2 := mono_len hb hle h1
  have e1 : rMinusDigits1 (dg b X) (dg b Y) b = true := by
    rw [rMinusDigits1, okD_len hb hb16 (by omega), okD_len hb hb16 (by omega), vlI_nat, vlI_nat, vl_dg hb, vl_dg hb, decide_eq_true hle]; rfl
  have e0 : rMinusDigits0 (dg b X) (dg b Y) b = dg b (X - Y) := by
    rw [rMinusDigits0, e1, vlI_nat, vlI_nat, dgI_nat, vl_dg hb, vl_dg hb]; rfl
  have := implMinusDigits_any va (dg b X) vc (dg b Y) b w hra (by omega) (dg_in64 hb hb16) hrc (by omega) (dg_in64 hb hb16) (b_in64 hb16)
  rw [e1, e0] at this
  refine this.mono ?_
  rintro e w' ⟨v, rfl, ho, hB⟩
  exact ⟨v, rfl, RowAt.of_owns ho, hB⟩

theorem compareAt (hb : 2 ≤ b) (hb16 : b ≤ 16) (hra : RowAt w va (intsOf (dg b X))) (hrc : RowAt w vc (intsOf (dg b Y))) (h1 : (dg b X).length ≤ 60) (h2 : (dg b Y).length ≤ 60) :
    Calls Try.prog 31 #[va, vc, .int .i64 b] w fun e w' => e = .returned (.int .i64 (cmpN X Y)) ∧ Below w.heap.size w w' := by
  have e0 : rCompareDigits0 (dg b X) (dg b Y) b = cmpN X Y := by
    rw [rCompareDigits0, okD_len hb hb16 (by omega), okD_len hb hb16 (by omega), vlI_nat, vlI_nat, vl_dg hb, vl_dg hb]; rfl
  have := implCompareDigits_any va (dg b X) vc (dg b Y) b w hra (by omega) (dg_in64 hb hb16) hrc (by omega) (dg_in64 hb hb16) (b_in64 hb16)
  rwa [e0] at this

theorem divideAt (hb : 2 ≤ b) (hb16 : b ≤ 16) (hra : RowAt w va (intsOf (dg b X))) (hrc : RowAt w vc (intsOf (dg b Y))) (h1 : (dg b X).length ≤ 60) (h2 : (dg b Y).length ≤ 60) (hY : Y ≠ 0) :
    Calls Try.prog 32 #[va, vc, .int .i64 b] w fun e w' => ∃ q r, e = .returned (.tuple #[q, r, .bool true]) ∧ RowAt w' q (intsOf (dg b (X / Y))) ∧ RowAt w' r (intsOf (dg b (X % Y))) ∧ Below w.heap.size w w' := by
  have e2 : rDivideDigits2 (dg b X) (dg b Y) b = true := by
    rw [rDivideDigits2, okD_len hb hb16 (by omega), okD_len hb hb16 (by omega), decide_eq_true (show dg b Y ≠ [] from fun e => hY ((nil_iff hb).1 e))]; rfl
  have e0 : rDivideDigits0 (dg b X) (dg b Y) b = dg b (X / Y) := by
    rw [rDivideDigits0, e2, vlI_nat, vlI_nat, dgI_nat, vl_dg hb, vl_dg hb]; rfl
  have e1 : rDivideDigits1 (dg b X) (dg b Y) b = dg b (X % Y) := by
    rw [rDivideDigits1, e2, vlI_nat, vlI_nat, dgI_nat, vl_dg hb, vl_dg hb]; rfl
  have := implDivideDigits_any va (dg b X) vc (dg b Y) b w hra (by omega) (dg_in64 hb hb16) hrc (by omega) (dg_in64 hb hb16) (b_in64 hb16)
  rw [e2, e1, e0] at this
  refine this.mono ?_
  rintro e w' ⟨q, r, rfl, ho, ho', _, hB⟩
  exact ⟨q, r, rfl, RowAt.of_owns ho, RowAt.of_owns ho', hB⟩

theorem divideNo (hb : 2 ≤ b) (hb16 : b ≤ 16) (hra : RowAt w va (intsOf (dg b X))) (hrc : RowAt w vc (intsOf (dg b Y))) (h1 : (dg b X).length ≤ 60) (h2 : (dg b Y).length ≤ 60) (hY : Y = 0) :
    Calls Try.prog 32 #[va, vc, .int .i64 b] w fun e w' => ∃ q r, e = .returned (.tuple #[q, r, .bool false]) ∧ Below w.heap.size w w' := by
  have e2 : rDivideDigits2 (dg b X) (dg b Y) b = false := by
    rw [rDivideDigits2, okD_len hb hb16 (by omega), okD_len hb hb16 (by omega), (nil_iff hb).2 hY]; rfl
  have := implDivideDigits_any va (dg b X) vc (dg b Y) b w hra (by omega) (dg_in64 hb hb16) hrc (by omega) (dg_in64 hb hb16) (b_in64 hb16)
  rw [e2] at this
  refine this.mono ?_
  rintro e w' ⟨q, r, rfl, _, _, _, hB⟩
  exact ⟨q, r, rfl, hB⟩

theorem powerAt (hb : 2 ≤ b) (hb16 : b ≤ 16) (hra : RowAt w va (intsOf (dg b X))) (h1 : (dg b X).length ≤ 7) :
    Calls Try.prog 34 #[va, .int .i64 3, .int .i64 b] w (Got (dg b (X * X * X)) w) := by
  have h3 := times_len hb (times_len hb h1 h1) h1
  have hp : X ^ 3 = X * X * X := by rw [Nat.pow_succ, Nat.pow_succ, Nat.pow_one]
  have e1 : rPowerDigits1 (dg b X) 3 b = true := by
    rw [rPowerDigits1, okD_len hb hb16 (by omega), vlI_nat, dgI_nat, vl_dg hb, show (3 : Int).toNat = 3 from rfl, hp, fits_at (by omega)]; rfl
  have e0 : rPowerDigits0 (dg b X) 3 b = dg b (X * X * X) := by
    rw [rPowerDigits0, e1, vlI_nat, dgI_nat, vl_dg hb, show (3 : Int).toNat = 3 from rfl, hp]; rfl
  have := implPowerDigits_any va (dg b X) 3 b w hra (by omega) (dg_in64 hb hb16) (by unfold in64; omega) (b_in64 hb16)
  rw [e1, e0] at this
  refine this.mono ?_
  rintro e w' ⟨v, rfl, ho, hB⟩
  exact ⟨v, rfl, RowAt.of_owns ho, hB⟩

theorem rootAt (hb : 2 ≤ b) (hb16 : b ≤ 16) (hra : RowAt w va (intsOf (dg b X))) (h1 : (dg b X).length ≤ 60) :
    Calls Try.prog 33 #[va, .int .i64 b] w (Got (dg b (isq X)) w) := by
  have e1 : rRootDigits1 (dg b X) b = true := okD_len hb hb16 h1
  have e0 : rRootDigits0 (dg b X) b = dg b (isq X) := by
    rw [rRootDigits0, e1, vlI_nat, dgI_nat, vl_dg hb]; rfl
  have := implRootDigits_any va (dg b X) b w hra (by omega) (dg_in64 hb hb16) (b_in64 hb16)
  rw [e1, e0] at this
  refine this.mono ?_
  rintro e w' ⟨v, rfl, ho, hB⟩
  exact ⟨v, rfl, RowAt.of_owns ho, hB⟩

theorem convertAt {f t : Nat} (hf : 2 ≤ f) (hf16 : f ≤ 16) (ht : 2 ≤ t) (ht16 : t ≤ 16) (hra : RowAt w va (intsOf (dg f X))) (h1 : (dg f X).length ≤ 60) (h2 : (dg t X).length ≤ 60) :
    Calls Try.prog 35 #[va, .int .i64 f, .int .i64 t] w (Got (dg t X) w) := by
  have e1 : rConvertDigits1 (dg f X) f t = true := by
    rw [rConvertDigits1, okD_len hf hf16 (by omega), vlI_nat, dgI_nat, vl_dg hf, fits_at (by omega), okB_mk ⟨by omega, by omega⟩]; rfl
  have e0 : rConvertDigits0 (dg f X) f t = dg t X := by
    rw [rConvertDigits0, e1, vlI_nat, dgI_nat, vl_dg hf]; rfl
  have := implConvertDigits_any va (dg f X) f t w hra (by omega) (dg_in64 hf hf16) (b_in64 hf16) (b_in64 ht16)
  rw [e1, e0] at this
  refine this.mono ?_
  rintro e w' ⟨v, rfl, ho, hB⟩
  exact ⟨v, rfl, RowAt.of_owns ho, hB⟩
end

theorem sameAt {va vc : Value} {l : List Int} {w : World} (hra : RowAt w va (intsOf l)) (hrc : RowAt w vc (intsOf l)) (hl : l.length ≤ 60) :
    Calls Try.prog 30 #[va, vc] w fun e w' => e = .returned (.bool true) ∧ w = w' :=
  same_any va vc l l w hra hrc (by omega) (by omega) rfl

theorem cmp_sum (X Y : Nat) : ¬ cmpN (X + Y) X < 0 := cmp_ge (by omega)
theorem cmp_flip (X Y : Nat) : cmpN X Y = - cmpN Y X := by
  unfold cmpN
  rcases Nat.lt_trichotomy X Y with h | h | h
  · rw [if_pos h, if_neg (by omega), if_pos h]
  · subst h; simp
  · rw [if_neg (by omega), if_pos h, if_pos h]; rfl

end Go.Proofs.Ytdflpocnfodbhaa
