/- Gray codes, plain: facts for the law; lengths of the lists. -/
import Derived.Test.YtleadjkndciniaaDoorGrCyc
import Derived.Test.YtleadjkndciniaaDoorGrTest
import Derived.Test.YtleadjkndciniaaDoorGrMix
set_option linter.unusedVariables false
set_option linter.unusedSimpArgs false
set_option maxRecDepth 100000
namespace Go.Proofs.YtleadjkndciniaaDoor

theorem inB_inG {x a b : Int} (h1 : a ≤ x) (h2 : x ≤ b) : inB x a b = true := by simp [inB]; omega

/-! ### the next number's digits -/
theorem nx_md : ∀ {r : List Int}, AllR r → ∀ m : Int, 0 ≤ m → m + 1 < rp r → nxM (md m r) r = some (md (m + 1) r)
  | [], _, m, h0, h1 => by simp [rp] at h1; omega
  | x :: r, hA, m, h0, h1 => by
    have hx := hA x (by simp)
    have hp := rp_pos (allR_tail hA)
    have e0 : md m (x :: r) = m % x :: md (m / x) r := rfl
    have e1 : md (m + 1) (x :: r) = (m + 1) % x :: md ((m + 1) / x) r := rfl
    rw [rp] at h1
    have d1 := Int.ediv_mul_add_emod m x
    have d2 := Int.emod_nonneg m (show x ≠ 0 by omega)
    have d3 := Int.emod_lt_of_pos m (show 0 < x by omega)
    have d4 := Int.ediv_nonneg h0 (show 0 ≤ x by omega)
    rw [e0, e1, nxM]
    by_cases hc : m % x + 1 < x
    · have q1 : (m + 1) / x = m / x := by
        rw [show m + 1 = (m % x + 1) + x * (m / x) by rw [Int.mul_comm x]; omega, Int.add_mul_ediv_left _ _ (by omega), Int.ediv_eq_zero_of_lt (by omega) hc]; omega
      have q2 : (m + 1) % x = m % x + 1 := by
        rw [show m + 1 = (m % x + 1) + x * (m / x) by rw [Int.mul_comm x]; omega, Int.add_mul_emod_self_left, Int.emod_eq_of_lt (by omega) hc]
      rw [if_pos hc, q1, q2]
    · have hme : m % x + 1 = x := by omega
      have q0 : m + 1 = 0 + x * (m / x + 1) := by rw [Int.mul_add, Int.mul_comm x]; omega
      have q1 : (m + 1) / x = m / x + 1 := by rw [q0, Int.add_mul_ediv_left _ _ (by omega)]; simp
      have q2 : (m + 1) % x = 0 := by rw [q0, Int.add_mul_emod_self_left]; simp
      have hlt : m / x + 1 < rp r := by
        have h5 : x * (m / x + 1) < x * rp r := by omega
        exact Int.lt_of_mul_lt_mul_left h5 (by omega)
      rw [if_neg hc, q1, q2, nx_md (allR_tail hA) (m / x) d4 hlt]; rfl

/-- what the law needs of neighbours in mixed places -/
structure GrN (r : List Int) (m : Int) (x y : List Int) : Prop where
  x0 : rGrayDigits0 m r = x
  y0 : rGrayDigits0 (m + 1) r = y
  cd : rCountDifferent0 x y = 1
  fx : rFromGrayDigits0 x r = m
  fy : rFromGrayDigits0 y r = m + 1
  lx : x.length = r.length
  ly : y.length = r.length
  le : ∀ i (h1 : i < x.length) (h2 : i < y.length), x[i] - y[i] ≤ 1 ∧ y[i] - x[i] ≤ 1
  bx : ∀ z ∈ x, 0 ≤ z ∧ z ≤ 60
  by_ : ∀ z ∈ y, 0 ≤ z ∧ z ≤ 60
theorem in_bd : ∀ {l r : List Int}, InR l r → (∀ x ∈ r, x ≤ 60) → ∀ z ∈ l, 0 ≤ z ∧ z ≤ 60
  | [], _, _, _, z, hz => by simp at hz
  | x :: l, y :: r, h, hr, z, hz => by
    rcases List.mem_cons.1 hz with rfl | hz
    · have := h.1; have := hr y (by simp); omega
    · exact in_bd h.2 (fun w hw => hr w (by simp [hw])) z hz
  | _ :: _, [], h, _, _, _ => h.elim
theorem grN_of {r : List Int} (hok : okR r = true) {m : Int} (h0 : 0 ≤ m) (h1 : m + 1 < rp r) : ∃ x y, GrN r m x y := by
  obtain ⟨_, _, hA, _⟩ := okR_yes hok
  have hd : ∀ k : Int, 0 ≤ k → k < rp r → rGrayDigits0 k r = (gmS (md k r) r).1 := fun k k0 k1 => by
    rw [rGrayDigits0, rMixedDigits0, hok, inB_inG k0 (by omega)]; rfl
  have hin : ∀ k : Int, InR (md k r) r := fun k => inR_of (fit_md hA k)
  have hf : ∀ k : Int, 0 ≤ k → k < rp r → rFromGrayDigits0 (gmS (md k r) r).1 r = k := fun k k0 k1 => by
    rw [rFromGrayDigits0, okM_mk hok (fit_of (gmS_in (hin k))), if_pos rfl, (um_gm _ _ (hin k).len).1, mv_md hA, Int.emod_eq_of_lt k0 k1]
  have hn := gm_next (hin m) (nx_md hA m h0 h1)
  have l1 : (gmS (md m r) r).1.length = r.length := (gmS_in (hin m)).len
  have l2 : (gmS (md (m + 1) r) r).1.length = r.length := (gmS_in (hin (m + 1))).len
  exact ⟨_, _, hd m h0 (by omega), hd (m + 1) (by omega) h1, by rw [rCountDifferent0, if_pos (by rw [l1, l2]), hn.one]; rfl, hf m h0 (by omega), hf (m + 1) (by omega) h1, l1, l2, hn.le,
    in_bd (gmS_in (hin m)) (fun x hx => (hA x hx).2), in_bd (gmS_in (hin (m + 1))) (fun x hx => (hA x hx).2)⟩

/-! ### numbers, rings, cycles -/
structure GrF (n : Nat) : Prop where
  a : rGrayOf0 ((n : Int) - 1) = ((gc (n - 1) : Nat) : Int)
  b : rGrayOf0 n = ((gc n : Nat) : Int)
  k : rFlipIndex0 n = ((loB n : Nat) : Int)
  f : rFromGray0 ((gc n : Nat) : Int) = n
  x : gc (n - 1) ^^^ gc n = 2 ^ loB n
  kl : loB n ≤ 33
  ga : gc (n - 1) < 17179869184
  gb : gc n < 17179869184
theorem grF_of {n : Nat} (h1 : 1 ≤ n) (h2 : n ≤ 10000000001) : GrF n := by
  have ga : gc (n - 1) < 17179869184 := gc_lt (k := 34) (by simp; omega)
  have gb : gc n < 17179869184 := gc_lt (k := 34) (by simp; omega)
  refine ⟨?_, ?_, ?_, ?_, gc_flip n (by omega), loB_le (k := 33) (by omega) (by simp; omega), ga, gb⟩
  · rw [rGrayOf0, inB_inG (by omega) (by omega), if_pos rfl, show ((n : Int) - 1).toNat = n - 1 by omega]
  · rw [rGrayOf0, inB_inG (by omega) (by omega), if_pos rfl, Int.toNat_natCast]
  · rw [rFlipIndex0, inB_inG (by omega) (by omega), if_pos rfl, Int.toNat_natCast]
  · rw [rFromGray0, inB_inG (by omega) (by omega), if_pos rfl, Int.toNat_natCast, ug_gc]
structure GrR (s : Nat) : Prop where
  now : rRingSteps0 s 10 = ((ug s : Nat) : Int)
  up : rRingSteps0 ((s ^^^ 1 : Nat) : Int) 10 = ((ug s ^^^ 1 : Nat) : Int)
  nb : ug s ^^^ 1 = ug s + 1 ∨ (ug s ^^^ 1) + 1 = ug s
  lt : ug s < 1024
  xl : s ^^^ 1 < 1024
theorem grR_of {s : Nat} (h : s < 1024) : GrR s := by
  have hx : s ^^^ 1 < 1024 := Nat.xor_lt_two_pow (n := 10) (by simpa using h) (by decide)
  have e : ((2 ^ (10 : Int).toNat : Nat) : Int) - 1 = 1023 := by decide
  refine ⟨?_, ?_, ?_, ug_lt (k := 10) (by simpa using h), hx⟩
  · rw [rRingSteps0, e, inB_inG (by omega) (by omega), inB_inG (by omega) (by omega), Bool.true_and, if_pos rfl, Int.toNat_natCast]
  · rw [rRingSteps0, e, inB_inG (by omega) (by omega), inB_inG (by omega) (by omega), Bool.true_and, if_pos rfl, Int.toNat_natCast, ring_flip]
  · rw [xor_one]; split <;> omega
theorem ring_zero : rRingSteps0 0 10 = 0 := by
  have h := (grR_of (s := 0) (by omega)).now
  rw [ug_zero] at h; exact h
theorem ring_top : rRingSteps0 512 10 = 1023 := by
  have h := (grR_of (s := 512) (by omega)).now
  have e : ug 512 = 1023 := by decide +kernel
  rw [e] at h; exact h
theorem cyc_len (k : Nat) : (cyc k).length = 2 ^ k := by simp [cyc]
theorem cycle_is {q : Nat} (h1 : 1 ≤ q) (h2 : q ≤ 6) : rGrayCycle0 q = cyc q ∧ rIsGrayCycle0 (cyc q) q = true ∧ (cyc q).length = 2 ^ q := by
  refine ⟨by rw [rGrayCycle0, inB_inG (by omega) (by omega)]; rfl, ?_, cyc_len q⟩
  rw [rIsGrayCycle0, inB_inG (by omega) (by omega), cyc_ok q h1 h2, cyc_len, Int.toNat_natCast, decide_eq_true rfl]; rfl
theorem cyc_bd {q : Nat} (h : q ≤ 6) : ∀ z ∈ cyc q, 0 ≤ z ∧ z ≤ 64 := fun z hz => by
  obtain ⟨n, hn, rfl⟩ := List.mem_map.1 hz
  have h1 : 2 ^ q ≤ 2 ^ 6 := Nat.pow_le_pow_right (by decide) h
  have h2 := gc_lt (n := n) (k := 6) (by have := List.mem_range.1 hn; omega)
  simp at h2; omega

/-! ### lengths -/
theorem rGrayCycle0_len (k : Int) : (rGrayCycle0 k).length ≤ 1048577 := by
  rw [rGrayCycle0]; split
  · rename_i h
    obtain ⟨h1, h2⟩ := inB_yes h
    rw [cyc_len]
    have h3 : 2 ^ k.toNat ≤ 2 ^ 6 := Nat.pow_le_pow_right (by decide) (by omega)
    simp at h3; omega
  · simp
theorem rGrayDigits0_len (n : Int) (r : List Int) : (rGrayDigits0 n r).length ≤ 1048577 := by
  rw [rGrayDigits0, rMixedDigits0]; split
  · rename_i h
    rw [Bool.and_eq_true] at h
    obtain ⟨_, h2, hA, _⟩ := okR_yes h.1
    rw [(gmS_in (inR_of (fit_md hA n))).len]; omega
  · cases r <;> simp [gmS]

end Go.Proofs.YtleadjkndciniaaDoor
