/- Long numbers: the model's functions of two lists. -/
import Derived.Test.YtdflpocnfodbhabDgSpec
import Derived.Test.YtdflpocnfodbhabLgR
import Derived.Test.YtdflpocnfodbhabLgDiv
set_option linter.unusedVariables false
set_option linter.unusedSimpArgs false
set_option maxRecDepth 100000
namespace Go.Proofs.Ytdflpocnfodbhab
open Go.ChangeShapes Go.WideShapes Go.ChangeAt Go.RowKit

set_option maxHeartbeats 1000000 in
theorem specTwo_any (va vc : Value) (a c : List Int) (b : Int) (w : World) (hra : RowAt w va (intsOf a)) (hl : a.length ≤ 1048576) (hia : ∀ n ∈ a, in64 n) (hrc : RowAt w vc (intsOf c)) (hl' : c.length ≤ 1048576) (hic : ∀ n ∈ c, in64 n) (hb : in64 b) :
    Calls Try.prog 43 #[va, vc, .int .i64 b] w fun e w' => e = .returned (.bool (okD a b && okD c b)) ∧ w = w' := by
  have H1 := Lib.hid (specDigitsOk_any va a b w hra hl hia hb)
  have H2 := Lib.hid (specDigitsOk_any vc c b w hrc hl' hic hb)
  cases h : okD a b
  · rw [h] at H1
    clear h
    go_enter Try.func43, Try.ntmps43
    go_wp2_with fail
    refine H1.out.mono ?_
    rintro e w' ⟨rfl, rfl⟩
    go_wp2_with fail
    go_ret
    exact ⟨rfl, rfl⟩
  · rw [h] at H1
    clear h
    obtain ⟨q, hq⟩ : ∃ q, q = okD c b := ⟨_, rfl⟩
    rw [← hq] at H2 ⊢
    clear hq
    go_enter Try.func43, Try.ntmps43
    go_wp2_with fail
    refine H1.out.mono ?_
    rintro e w' ⟨rfl, rfl⟩
    go_wp2_with fail
    refine H2.out.mono ?_
    rintro e w' ⟨rfl, rfl⟩
    go_wp2_with fail
    go_ret
    exact ⟨by cases q <;> rfl, rfl⟩

set_option maxHeartbeats 1000000 in
theorem specDone_any (v : Value) (b base N : Nat) (w : World) (hb : 2 ≤ b) (hown : w.ownsRow base 3 1 v (dg b N).length (intsOf (dg b N))) (hl : (dg b N).length ≤ 100000) :
    Calls Try.prog 59 #[v] w fun e w' => ∃ v', e = .returned (.tuple #[v', .bool (fits (dg b N))]) ∧ w.ownsRow base 3 1 v' (if fits (dg b N) then dg b N else []).length (intsOf (if fits (dg b N) then dg b N else [])) ∧ w = w' := by
  obtain ⟨a, cap, rfl, h1, h2⟩ := owns_form hown
  have HT := Lib.hid (specTrim_at a cap (dg b N) b base w hb (nrm_dg hb N).1 hown (by omega))
  rw [vl_dg hb] at HT
  obtain ⟨L, hL⟩ : ∃ L, L = dg b N := ⟨_, rfl⟩
  rw [← hL] at HT hl ⊢
  unfold maxLen at h2
  clear hown h1 hL
  by_cases hf : L.length ≤ 60
  · have HF := Lib.hid (show fits L = true by simpa [fits] using hf)
    rw [HF.out]
    go_enter Try.func59, Try.ntmps59
    go_wp2_with fail
    refine HT.out.mono ?_
    rintro e w' ⟨rfl, ho, rfl⟩
    have HO := Lib.hid ho
    clear ho
    go_wp2_with fail
    go_ret2
    exact ⟨_, rfl, HO.out, rfl⟩
  · have HF := Lib.hid (show fits L = false by simpa [fits] using hf)
    rw [HF.out]
    go_enter Try.func59, Try.ntmps59
    go_wp2_with fail
    refine HT.out.mono ?_
    rintro e w' ⟨rfl, ho, rfl⟩
    have HO := Lib.hid ho
    clear ho
    go_wp2_with fail
    go_ret2
    exact ⟨_, rfl, World.ownsRow_nil _ _ _ _, rfl⟩

theorem dgI_nat (n N : Nat) : dgI (n : Int) N = dg n N := by simp [dgI]
theorem vlI_nat (n : Nat) (l : List Int) : vlI (n : Int) l = vl n l := by simp [vlI]

/-- how many digits a sum, a product has -/
theorem dg_len_pow {b n k : Nat} (hb : 2 ≤ b) (h : n < b ^ k) : (dg b n).length ≤ k := by
  rcases Nat.lt_or_ge k (dg b n).length with h' | h'
  · exfalso
    have hN := nrm_dg hb n
    have hne : dg b n ≠ [] := fun e => by rw [e] at h'; simp at h'
    have h1 := hv_ge hb hN.1 hne (hN.2.resolve_left hne)
    have h2 := vl_cast hN.1
    rw [vl_dg hb] at h2
    have h3 : b ^ k ≤ b ^ ((dg b n).length - 1) := Nat.pow_le_pow_right (by omega) (by omega)
    have h4 : ((b ^ ((dg b n).length - 1) : Nat) : Int) = (b : Int) ^ ((dg b n).length - 1) := Int.natCast_pow _ _
    omega
  · exact h'
theorem vl_lt_pow {b : Nat} {l : List Int} (hb : 2 ≤ b) (h : AllD b l) : vl b l < b ^ l.length := by
  have h1 := hv_lt hb h
  have h2 := vl_cast h
  have h4 : ((b ^ l.length : Nat) : Int) = (b : Int) ^ l.length := Int.natCast_pow _ _
  omega
theorem pow_two_le {b : Nat} (hb : 2 ≤ b) (k : Nat) : b ^ k + b ^ k ≤ b ^ (k + 1) := by
  rw [Nat.pow_succ]
  have := Nat.mul_le_mul_left (b ^ k) hb
  omega
theorem sum_len {b : Nat} {a c : List Int} (hb : 2 ≤ b) (ha : AllD b a) (hc : AllD b c) {k : Nat} (h1 : a.length ≤ k) (h2 : c.length ≤ k) : (dg b (vl b a + vl b c)).length ≤ k + 1 := by
  refine dg_len_pow hb ?_
  have e1 := vl_lt_pow hb ha
  have e2 := vl_lt_pow hb hc
  have e3 := Nat.pow_le_pow_right (show 0 < b by omega) h1
  have e4 := Nat.pow_le_pow_right (show 0 < b by omega) h2
  have e5 := pow_two_le hb k
  omega
theorem mul_len {b : Nat} {a c : List Int} (hb : 2 ≤ b) (ha : AllD b a) (hc : AllD b c) : (dg b (vl b a * vl b c)).length ≤ a.length + c.length := by
  refine dg_len_pow hb ?_
  have e1 := vl_lt_pow hb ha
  have e2 := vl_lt_pow hb hc
  rw [Nat.pow_add]
  rcases Nat.eq_zero_or_pos (vl b c) with h0 | h0
  · rw [h0, Nat.mul_zero]; exact Nat.mul_pos (Nat.pow_pos (by omega)) (Nat.pow_pos (by omega))
  · exact Nat.mul_lt_mul'' e1 e2

/-- the contract of a function that adds or multiplies -/
def TwoAns (R0 : List Int) (R1 : Bool) (w : World) (e : Ending) (w' : World) : Prop := ∃ v, e = .returned (.tuple #[v, .bool R1]) ∧ w'.ownsRow w.heap.size 3 1 v R0.length (intsOf R0) ∧ Below w.heap.size w w'

set_option maxHeartbeats 2000000 in
theorem specCompareDigits_any (va : Value) (a : List Int) (vc : Value) (c : List Int) (b : Int) (w : World) (hra : RowAt w va (intsOf a)) (hl : a.length ≤ 1048576) (hia : ∀ n ∈ a, in64 n) (hrc : RowAt w vc (intsOf c)) (hl' : c.length ≤ 1048576) (hic : ∀ n ∈ c, in64 n) (hb : in64 b) :
    Calls Try.prog 15 #[va, vc, .int .i64 b] w fun e w' => e = .returned (.int .i64 (rCompareDigits0 a c b)) ∧ Below w.heap.size w w' := by
  have H2 := Lib.hid (specTwo_any va vc a c b w hra hl hia hrc hl' hic hb)
  cases h : (okD a b && okD c b)
  · rw [h] at H2
    have E0 := Lib.hid (show rCompareDigits0 a c b = -2 by rw [rCompareDigits0, h]; rfl)
    clear h
    go_enter Try.func15, Try.ntmps15
    go_wp2_with fail
    refine H2.out.mono ?_
    rintro e w' ⟨rfl, rfl⟩
    go_wp2_with fail
    go_ret
    exact ⟨by rw [E0.out]; rfl, Below.refl _ _⟩
  · rw [h] at H2
    have h' := h
    simp only [Bool.and_eq_true] at h'
    obtain ⟨n, rfl, hn2, hn16, hNa, hla⟩ := nat_of_ok h'.1
    have hNc := okD_nrm h'.2
    have hlc := (okD_yes h'.2).2.1
    have HCM := Lib.hid (specCompare_any va vc a c n w hn2 hNa hNc hra hrc (by omega) (by omega))
    have E0 := Lib.hid (show rCompareDigits0 a c n = cmpN (vl n a) (vl n c) by rw [rCompareDigits0, h, vlI_nat, vlI_nat]; rfl)
    rw [← E0.out] at HCM
    clear h h' hNa hNc hra hrc hia hic
    go_enter Try.func15, Try.ntmps15
    go_wp2_with fail
    refine H2.out.mono ?_
    rintro e w' ⟨rfl, rfl⟩
    go_wp2_with fail
    refine HCM.out.mono ?_
    rintro e w1 ⟨rfl, hB⟩
    go_wp2_with fail
    go_ret
    exact ⟨rfl, hB⟩

set_option maxHeartbeats 2000000 in
theorem specDivideDigits_any (va : Value) (a : List Int) (vc : Value) (c : List Int) (b : Int) (w : World) (hra : RowAt w va (intsOf a)) (hl : a.length ≤ 1048576) (hia : ∀ n ∈ a, in64 n) (hrc : RowAt w vc (intsOf c)) (hl' : c.length ≤ 1048576) (hic : ∀ n ∈ c, in64 n) (hb : in64 b) :
    Calls Try.prog 19 #[va, vc, .int .i64 b] w fun e w' => ∃ v0 v1, e = .returned (.tuple #[v0, v1, .bool (rDivideDigits2 a c b)]) ∧ w'.ownsRow w.heap.size 3 1 v0 (rDivideDigits0 a c b).length (intsOf (rDivideDigits0 a c b)) ∧ w'.ownsRow w.heap.size 3 1 v1 (rDivideDigits1 a c b).length (intsOf (rDivideDigits1 a c b)) ∧ Apart v0 v1 ∧ Below w.heap.size w w' := by
  have H2 := Lib.hid (specTwo_any va vc a c b w hra hl hia hrc hl' hic hb)
  have none : ∀ w', Below w.heap.size w w' → rDivideDigits2 a c b = false → ∃ v0 v1, Ending.returned (.tuple #[.slice none 0 0, .slice none 0 0, .bool false]) = .returned (.tuple #[v0, v1, .bool (rDivideDigits2 a c b)]) ∧ w'.ownsRow w.heap.size 3 1 v0 (rDivideDigits0 a c b).length (intsOf (rDivideDigits0 a c b)) ∧ w'.ownsRow w.heap.size 3 1 v1 (rDivideDigits1 a c b).length (intsOf (rDivideDigits1 a c b)) ∧ Apart v0 v1 ∧ Below w.heap.size w w' := fun w' hB h =>
    ⟨_, _, by rw [h], by rw [rDivideDigits0, h]; exact World.ownsRow_nil _ _ _ _, by rw [rDivideDigits1, h]; exact World.ownsRow_nil _ _ _ _, fun k hk => by simp [Value.ownBlock] at hk, hB⟩
  have HNO := Lib.hid none
  clear none
  have HRC := Lib.hid hrc
  obtain ⟨ac, cap', rfl, h1', h2', h3'⟩ := hrc.ints
  unfold maxLen at h2'
  clear h3' hrc
  cases h : (okD a b && okD c b)
  · rw [h] at H2
    have E := Lib.hid (HNO.out w (Below.refl _ _) (by rw [rDivideDigits2, h]; rfl))
    clear h
    go_enter Try.func19, Try.ntmps19
    go_wp2_with fail
    refine H2.out.mono ?_
    rintro e w' ⟨rfl, rfl⟩
    go_wp2_with fail
    go_ret3
    exact E.out
  · rw [h] at H2
    by_cases h0 : c.length = 0
    · have hq : ((c.length : Int) == 0) = true := by simp [h0]
      have E := Lib.hid (HNO.out w (Below.refl _ _) (by rw [rDivideDigits2, h, Bool.true_and]; exact decide_eq_false (fun e => e (List.eq_nil_of_length_eq_zero h0))))
      clear h h0
      go_enter Try.func19, Try.ntmps19
      go_wp2_with fail
      refine H2.out.mono ?_
      rintro e w' ⟨rfl, rfl⟩
      go_wp2_with fail
      go_ret3
      exact E.out
    · have hq : ((c.length : Int) == 0) = false := by simpa using h0
      have hne : c ≠ [] := fun e => h0 (by rw [e]; rfl)
      have h' := h
      simp only [Bool.and_eq_true] at h'
      obtain ⟨n, rfl, hn2, hn16, hNa, hla⟩ := nat_of_ok h'.1
      have hNc := okD_nrm h'.2
      have hlc := (okD_yes h'.2).2.1
      have hpos : 0 < vl n c := by
        have h1 := hv_ge hn2 hNc.1 hne (hNc.2.resolve_left hne)
        have h2 := pow_pos' hn2 (c.length - 1)
        have h3 := vl_cast hNc.1
        omega
      have HDV := Lib.hid (specDivide_any va (.slice ac c.length cap') a c n w hn2 hn16 hNa hNc hpos hra HRC.out (by omega) (by omega))
      have E2 := Lib.hid (show rDivideDigits2 a c n = true by rw [rDivideDigits2, h, Bool.true_and]; exact decide_eq_true hne)
      have E0 := Lib.hid (show rDivideDigits0 a c n = dg n (vl n a / vl n c) by rw [rDivideDigits0, E2.out, vlI_nat, vlI_nat, dgI_nat]; rfl)
      have E1 := Lib.hid (show rDivideDigits1 a c n = dg n (vl n a % vl n c) by rw [rDivideDigits1, E2.out, vlI_nat, vlI_nat, dgI_nat]; rfl)
      rw [← E0.out, ← E1.out] at HDV
      clear h h' hNa hNc hra hia hic h0 hne hpos
      go_enter Try.func19, Try.ntmps19
      go_wp2_with fail
      refine H2.out.mono ?_
      rintro e w' ⟨rfl, rfl⟩
      go_wp2_with fail
      refine HDV.out.mono ?_
      rintro e w1 ⟨q, r, rfl, hoq, hor, hap, hB⟩
      have HOQ := Lib.hid hoq; have HOR := Lib.hid hor; have HAP := Lib.hid hap
      clear hoq hor hap
      go_wp2_with fail
      go_ret3
      exact ⟨_, _, by rw [E2.out]; rfl, HOQ.out, HOR.out, HAP.out, hB⟩

end Go.Proofs.Ytdflpocnfodbhab
