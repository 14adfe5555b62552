/- Long numbers: the model's functions of two lists. -/
import Derived.Test.YtdflpocnfodbhaaDgSpec
import Derived.Test.YtdflpocnfodbhaaLgR
import Derived.Test.YtdflpocnfodbhaaLgMul
import Derived.Test.YtdflpocnfodbhaaLgDiv
set_option linter.unusedVariables false
set_option linter.unusedSimpArgs false
set_option maxRecDepth 100000
namespace Go.Proofs.Ytdflpocnfodbhaa
open Go.ChangeShapes Go.WideShapes Go.ChangeAt Go.RowKit

set_option maxHeartbeats 1000000 in
theorem specTwo_any (va vc : Value) (a c : List Int) (b : Int) (w : World) (hra : RowAt w va (intsOf a)) (hl : a.length ≤ 1048576) (hia : ∀ n ∈ a, in64 n) (hrc : RowAt w vc (intsOf c)) (hl' : c.length ≤ 1048576) (hic : ∀ n ∈ c, in64 n) (hb : in64 b) :
    Calls Try.prog 121 #[va, vc, .int .i64 b] w fun e w' => e = .returned (.bool (okD a b && okD c b)) ∧ w = w' := by
  have H1 := Lib.hid (specDigitsOk_any va a b w hra hl hia hb)
  have H2 := Lib.hid (specDigitsOk_any vc c b w hrc hl' hic hb)
  cases h : okD a b
  · rw [h] at H1
    clear h
    go_enter Try.func121, Try.ntmps121
    go_wp2_with fail
    refine H1.out.mono ?_
    rintro e w' ⟨rfl, rfl⟩
    go_wp2_with fail
    go_ret
    exact ⟨rfl, rfl⟩
  · rw [h] at H1
    clear h
    obtain ⟨q, hq⟩ : ∃ q, q = okD c b := ⟨_, rfl⟩
    rw [← hq] at H2 ⊢
    clear hq
    go_enter Try.func121, Try.ntmps121
    go_wp2_with fail
    refine H1.out.mono ?_
    rintro e w' ⟨rfl, rfl⟩
    go_wp2_with fail
    refine H2.out.mono ?_
    rintro e w' ⟨rfl, rfl⟩
    go_wp2_with fail
    go_ret
    exact ⟨by cases q <;> rfl, rfl⟩

set_option maxHeartbeats 1000000 in
theorem specDone_any (v : Value) (b base N : Nat) (w : World) (hb : 2 ≤ b) (hown : w.ownsRow base 3 1 v (dg b N).length (intsOf (dg b N))) (hl : (dg b N).length ≤ 100000) :
    Calls Try.prog 122 #[v] w fun e w' => ∃ v', e = .returned (.tuple #[v', .bool (fits (dg b N))]) ∧ w.ownsRow base 3 1 v' (if fits (dg b N) then dg b N else []).length (intsOf (if fits (dg b N) then dg b N else [])) ∧ w = w' := by
  obtain ⟨a, cap, rfl, h1, h2⟩ := owns_form hown
  have HT := Lib.hid (specTrim_at a cap (dg b N) b base w hb (nrm_dg hb N).1 hown (by omega))
  rw [vl_dg hb] at HT
  obtain ⟨L, hL⟩ : ∃ L, L = dg b N := ⟨_, rfl⟩
  rw [← hL] at HT hl ⊢
  unfold maxLen at h2
  clear hown h1 hL
  by_cases hf : L.length ≤ 60
  · have HF := Lib.hid (show fits L = true by simpa [fits] using hf)
    rw [HF.out]
    go_enter Try.func122, Try.ntmps122
    go_wp2_with fail
    refine HT.out.mono ?_
    rintro e w' ⟨rfl, ho, rfl⟩
    have HO := Lib.hid ho
    clear ho
    go_wp2_with fail
    go_ret2
    exact ⟨_, rfl, HO.out, rfl⟩
  · have HF := Lib.hid (show fits L = false by simpa [fits] using hf)
    rw [HF.out]
    go_enter Try.func122, Try.ntmps122
    go_wp2_with fail
    refine HT.out.mono ?_
    rintro e w' ⟨rfl, ho, rfl⟩
    have HO := Lib.hid ho
    clear ho
    go_wp2_with fail
    go_ret2
    exact ⟨_, rfl, World.ownsRow_nil _ _ _ _, rfl⟩

theorem dgI_nat (n N : Nat) : dgI (n : Int) N = dg n N := by simp [dgI]
theorem vlI_nat (n : Nat) (l : List Int) : vlI (n : Int) l = vl n l := by simp [vlI]

/-- how many digits a sum, a product has -/
theorem dg_len_pow {b n k : Nat} (hb : 2 ≤ b) (h : n < b ^ k) : (dg b n).length ≤ k := by
  rcases Nat.lt_or_ge k (dg b n).length with h' | h'
  · exfalso
    have hN := nrm_dg hb n
    have hne : dg b n ≠ [] := fun e => by rw [e] at h'; simp at h'
    have h1 := hv_ge hb hN.1 hne (hN.2.resolve_left hne)
    have h2 := vl_cast hN.1
    rw [vl_dg hb] at h2
    have h3 : b ^ k ≤ b ^ ((dg b n).length - 1) := Nat.pow_le_pow_right (by omega) (by omega)
    have h4 : ((b ^ ((dg b n).length - 1) : Nat) : Int) = (b : Int) ^ ((dg b n).length - 1) := Int.natCast_pow _ _
    omega
  · exact h'
theorem vl_lt_pow {b : Nat} {l : List Int} (hb : 2 ≤ b) (h : AllD b l) : vl b l < b ^ l.length := by
  have h1 := hv_lt hb h
  have h2 := vl_cast h
  have h4 : ((b ^ l.length : Nat) : Int) = (b : Int) ^ l.length := Int.natCast_pow _ _
  omega
theorem pow_two_le {b : Nat} (hb : 2 ≤ b) (k : Nat) : b ^ k + b ^ k ≤ b ^ (k + 1) := by
  rw [Nat.pow_succ]
  have := Nat.mul_le_mul_left (b ^ k) hb
  omega
theorem sum_len {b : Nat} {a c : List Int} (hb : 2 ≤ b) (ha : AllD b a) (hc : AllD b c) {k : Nat} (h1 : a.length ≤ k) (h2 : c.length ≤ k) : (dg b (vl b a + vl b c)).length ≤ k + 1 := by
  refine dg_len_pow hb ?_
  have e1 := vl_lt_pow hb ha
  have e2 := vl_lt_pow hb hc
  have e3 := Nat.pow_le_pow_right (show 0 < b by omega) h1
  have e4 := Nat.pow_le_pow_right (show 0 < b by omega) h2
  have e5 := pow_two_le hb k
  omega
theorem mul_len {b : Nat} {a c : List Int} (hb : 2 ≤ b) (ha : AllD b a) (hc : AllD b c) : (dg b (vl b a * vl b c)).length ≤ a.length + c.length := by
  refine dg_len_pow hb ?_
  have e1 := vl_lt_pow hb ha
  have e2 := vl_lt_pow hb hc
  rw [Nat.pow_add]
  rcases Nat.eq_zero_or_pos (vl b c) with h0 | h0
  · rw [h0, Nat.mul_zero]; exact Nat.mul_pos (Nat.pow_pos (by omega)) (Nat.pow_pos (by omega))
  · exact Nat.mul_lt_mul'' e1 e2

/-- the contract of a function that adds or multiplies -/
def TwoAns (R0 : List Int) (R1 : Bool) (w : World) (e : Ending) (w' : World) : Prop := ∃ v, e = .returned (.tuple #[v, .bool R1]) ∧ w'.ownsRow w.heap.size 3 1 v R0.length (intsOf R0) ∧ Below w.heap.size w w'

set_option maxHeartbeats 2000000 in
theorem specAddDigits_any (va : Value) (a : List Int) (vc : Value) (c : List Int) (b : Int) (w : World) (hra : RowAt w va (intsOf a)) (hl : a.length ≤ 1048576) (hia : ∀ n ∈ a, in64 n) (hrc : RowAt w vc (intsOf c)) (hl' : c.length ≤ 1048576) (hic : ∀ n ∈ c, in64 n) (hb : in64 b) :
    Calls Try.prog 75 #[va, vc, .int .i64 b] w fun e w' => ∃ v, e = .returned (.tuple #[v, .bool (rAddDigits1 a c b)]) ∧ w'.ownsRow w.heap.size 3 1 v (rAddDigits0 a c b).length (intsOf (rAddDigits0 a c b)) ∧ Below w.heap.size w w' := by
  have H2 := Lib.hid (specTwo_any va vc a c b w hra hl hia hrc hl' hic hb)
  cases h : (okD a b && okD c b)
  · rw [h] at H2
    have E1 := Lib.hid (show rAddDigits1 a c b = false by rw [rAddDigits1, h]; rfl)
    have E0 := Lib.hid (show rAddDigits0 a c b = [] by rw [rAddDigits0, E1.out]; rfl)
    clear h
    go_enter Try.func75, Try.ntmps75
    go_wp2_with fail
    refine H2.out.mono ?_
    rintro e w' ⟨rfl, rfl⟩
    go_wp2_with fail
    go_ret2
    exact ⟨_, by rw [E1.out]; rfl, by rw [E0.out]; exact World.ownsRow_nil _ _ _ _, Below.refl _ _⟩
  · rw [h] at H2
    have h' := h
    simp only [Bool.and_eq_true] at h'
    obtain ⟨n, rfl, hn2, hn16, hNa, hla⟩ := nat_of_ok h'.1
    have hNc := okD_nrm h'.2
    have hlc := (okD_yes h'.2).2.1
    have hsl := sum_len (k := 60) hn2 hNa.1 hNc.1 hla hlc
    have HAD := Lib.hid (specAdd_any va vc a c n w hn2 hn16 hNa.1 hNc.1 hra hrc (by omega) (by omega))
    obtain ⟨S, hS⟩ : ∃ S, S = vl n a + vl n c := ⟨_, rfl⟩
    rw [← hS] at hsl HAD
    have E1 := Lib.hid (show rAddDigits1 a c n = fits (dg n S) by rw [rAddDigits1, h, Bool.true_and, vlI_nat, vlI_nat, dgI_nat, hS])
    have E0 := Lib.hid (show rAddDigits0 a c n = if fits (dg n S) then dg n S else [] by rw [rAddDigits0, E1.out, vlI_nat, vlI_nat, dgI_nat, hS])
    clear h h' hNa hNc hra hrc hia hic hS
    go_enter Try.func75, Try.ntmps75
    go_wp2_with fail
    refine H2.out.mono ?_
    rintro e w' ⟨rfl, rfl⟩
    go_wp2_with fail
    refine HAD.out.mono ?_
    rintro e w1 ⟨v, rfl, ho, hB⟩
    have HD := Lib.hid (specDone_any v n w.heap.size S w1 hn2 ho (by omega))
    clear ho
    go_wp2_with fail
    refine HD.out.mono ?_
    rintro e w2 ⟨v', rfl, ho, rfl⟩
    have HO := Lib.hid ho
    clear ho
    go_wp2_with fail
    go_ret2
    exact ⟨_, by rw [E1.out]; rfl, by rw [E0.out]; exact HO.out, hB⟩

set_option maxHeartbeats 2000000 in
theorem specTimesDigits_any (va : Value) (a : List Int) (vc : Value) (c : List Int) (b : Int) (w : World) (hra : RowAt w va (intsOf a)) (hl : a.length ≤ 1048576) (hia : ∀ n ∈ a, in64 n) (hrc : RowAt w vc (intsOf c)) (hl' : c.length ≤ 1048576) (hic : ∀ n ∈ c, in64 n) (hb : in64 b) :
    Calls Try.prog 77 #[va, vc, .int .i64 b] w fun e w' => ∃ v, e = .returned (.tuple #[v, .bool (rTimesDigits1 a c b)]) ∧ w'.ownsRow w.heap.size 3 1 v (rTimesDigits0 a c b).length (intsOf (rTimesDigits0 a c b)) ∧ Below w.heap.size w w' := by
  have H2 := Lib.hid (specTwo_any va vc a c b w hra hl hia hrc hl' hic hb)
  cases h : (okD a b && okD c b)
  · rw [h] at H2
    have E1 := Lib.hid (show rTimesDigits1 a c b = false by rw [rTimesDigits1, h]; rfl)
    have E0 := Lib.hid (show rTimesDigits0 a c b = [] by rw [rTimesDigits0, E1.out]; rfl)
    clear h
    go_enter Try.func77, Try.ntmps77
    go_wp2_with fail
    refine H2.out.mono ?_
    rintro e w' ⟨rfl, rfl⟩
    go_wp2_with fail
    go_ret2
    exact ⟨_, by rw [E1.out]; rfl, by rw [E0.out]; exact World.ownsRow_nil _ _ _ _, Below.refl _ _⟩
  · rw [h] at H2
    have h' := h
    simp only [Bool.and_eq_true] at h'
    obtain ⟨n, rfl, hn2, hn16, hNa, hla⟩ := nat_of_ok h'.1
    have hNc := okD_nrm h'.2
    have hlc := (okD_yes h'.2).2.1
    have hsl := mul_len hn2 hNa.1 hNc.1
    have HAD := Lib.hid (specTimes_any va vc a c n w hn2 hn16 hNa.1 hNc.1 hra hrc (by omega) (by omega))
    obtain ⟨S, hS⟩ : ∃ S, S = vl n a * vl n c := ⟨_, rfl⟩
    rw [← hS] at hsl HAD
    have E1 := Lib.hid (show rTimesDigits1 a c n = fits (dg n S) by rw [rTimesDigits1, h, Bool.true_and, vlI_nat, vlI_nat, dgI_nat, hS])
    have E0 := Lib.hid (show rTimesDigits0 a c n = if fits (dg n S) then dg n S else [] by rw [rTimesDigits0, E1.out, vlI_nat, vlI_nat, dgI_nat, hS])
    clear h h' hNa hNc hra hrc hia hic hS
    go_enter Try.func77, Try.ntmps77
    go_wp2_with fail
    refine H2.out.mono ?_
    rintro e w' ⟨rfl, rfl⟩
    go_wp2_with fail
    refine HAD.out.mono ?_
    rintro e w1 ⟨v, rfl, ho, hB⟩
    have HD := Lib.hid (specDone_any v n w.heap.size S w1 hn2 ho (by omega))
    clear ho
    go_wp2_with fail
    refine HD.out.mono ?_
    rintro e w2 ⟨v', rfl, ho, rfl⟩
    have HO := Lib.hid ho
    clear ho
    go_wp2_with fail
    go_ret2
    exact ⟨_, by rw [E1.out]; rfl, by rw [E0.out]; exact HO.out, hB⟩

set_option maxHeartbeats 2000000 in
theorem specMinusDigits_any (va : Value) (a : List Int) (vc : Value) (c : List Int) (b : Int) (w : World) (hra : RowAt w va (intsOf a)) (hl : a.length ≤ 1048576) (hia : ∀ n ∈ a, in64 n) (hrc : RowAt w vc (intsOf c)) (hl' : c.length ≤ 1048576) (hic : ∀ n ∈ c, in64 n) (hb : in64 b) :
    Calls Try.prog 76 #[va, vc, .int .i64 b] w fun e w' => ∃ v, e = .returned (.tuple #[v, .bool (rMinusDigits1 a c b)]) ∧ w'.ownsRow w.heap.size 3 1 v (rMinusDigits0 a c b).length (intsOf (rMinusDigits0 a c b)) ∧ Below w.heap.size w w' := by
  have H2 := Lib.hid (specTwo_any va vc a c b w hra hl hia hrc hl' hic hb)
  cases h : (okD a b && okD c b)
  · rw [h] at H2
    have E1 := Lib.hid (show rMinusDigits1 a c b = false by rw [rMinusDigits1, h]; rfl)
    have E0 := Lib.hid (show rMinusDigits0 a c b = [] by rw [rMinusDigits0, E1.out]; rfl)
    clear h
    go_enter Try.func76, Try.ntmps76
    go_wp2_with fail
    refine H2.out.mono ?_
    rintro e w' ⟨rfl, rfl⟩
    go_wp2_with fail
    go_ret2
    exact ⟨_, by rw [E1.out]; rfl, by rw [E0.out]; exact World.ownsRow_nil _ _ _ _, Below.refl _ _⟩
  · rw [h] at H2
    have h' := h
    simp only [Bool.and_eq_true] at h'
    obtain ⟨n, rfl, hn2, hn16, hNa, hla⟩ := nat_of_ok h'.1
    have hNc := okD_nrm h'.2
    have hlc := (okD_yes h'.2).2.1
    have HCM := Lib.hid (specCompare_any va vc a c n w hn2 hNa hNc hra hrc (by omega) (by omega))
    by_cases hle : vl n c ≤ vl n a
    · have hcm := cmp_ge hle
      obtain ⟨z, hz⟩ : ∃ z, z = cmpN (vl n a) (vl n c) := ⟨_, rfl⟩
      rw [← hz] at HCM hcm
      have HMI := Lib.hid (fun W (hW : Below w.heap.size w W) => specMinus_any va vc a c n W hn2 hn16 hNa hNc hle (hra.below hW) (hrc.below hW) (by omega))
      have E1 := Lib.hid (show rMinusDigits1 a c n = true by rw [rMinusDigits1, h, Bool.true_and, vlI_nat, vlI_nat]; exact decide_eq_true hle)
      have E0 := Lib.hid (show rMinusDigits0 a c n = dg n (vl n a - vl n c) by rw [rMinusDigits0, E1.out, vlI_nat, vlI_nat, dgI_nat]; rfl)
      clear h h' hNa hNc hra hrc hia hic hz hle
      go_enter Try.func76, Try.ntmps76
      go_wp2_with fail
      refine H2.out.mono ?_
      rintro e w' ⟨rfl, rfl⟩
      go_wp2_with fail
      refine HCM.out.mono ?_
      rintro e w1 ⟨rfl, hB⟩
      go_wp2_with fail
      refine (HMI.out _ hB).mono ?_
      rintro e w2 ⟨g, cap, rfl, ho, hB2⟩
      have HO := Lib.hid (owns_mono ho hB.size)
      have hB3 := hB.trans (hB2.mono hB.size)
      clear ho hB2
      go_wp2_with fail
      go_ret2
      exact ⟨_, by rw [E1.out]; rfl, by rw [E0.out]; exact HO.out, hB3⟩
    · rw [cmp_lt (by omega)] at HCM
      have E1 := Lib.hid (show rMinusDigits1 a c n = false by rw [rMinusDigits1, h, Bool.true_and, vlI_nat, vlI_nat]; exact decide_eq_false hle)
      have E0 := Lib.hid (show rMinusDigits0 a c n = [] by rw [rMinusDigits0, E1.out]; rfl)
      clear h h' hNa hNc hra hrc hia hic hle
      go_enter Try.func76, Try.ntmps76
      go_wp2_with fail
      refine H2.out.mono ?_
      rintro e w' ⟨rfl, rfl⟩
      go_wp2_with fail
      refine HCM.out.mono ?_
      rintro e w1 ⟨rfl, hB⟩
      go_wp2_with fail
      go_ret2
      exact ⟨_, by rw [E1.out]; rfl, by rw [E0.out]; exact World.ownsRow_nil _ _ _ _, hB⟩

end Go.Proofs.Ytdflpocnfodbhaa
