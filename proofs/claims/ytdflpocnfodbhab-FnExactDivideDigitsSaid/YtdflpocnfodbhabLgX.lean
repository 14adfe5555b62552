/- Long numbers: the program multiplies by a small number and adds another one. -/
import Derived.Test.YtdflpocnfodbhabRf
import Derived.Test.YtdflpocnfodbhabLgCmp
import Derived.Deep.LoopGhost
import Derived.Deep.RegionHeld3
import Derived.Lib.SliceRun
import Derived.RangeFuncCalls
import Derived.StillTailTactics
set_option linter.unusedVariables false
set_option linter.unusedSimpArgs false
set_option maxRecDepth 100000
namespace Go.Proofs.Ytdflpocnfodbhab
open Go.ChangeShapes Go.WideShapes Go.ChangeAt Go.RowKit

/-- one place of a product with a small number -/
theorem scale_step {b : Nat} (hb : 2 ≤ b) {S o y f A A' ka : Int} {k : Nat} (h : S = o + (b : Int) ^ k * (y + f * A)) (hA : A = ka + b * A') :
    S = (o + (b : Int) ^ k * ((y + ka * f) % b)) + (b : Int) ^ (k + 1) * ((y + ka * f) / b + f * A') := by
  have e : (y + ka * f) % b + b * ((y + ka * f) / b) = y + ka * f := Int.emod_add_mul_ediv _ b
  have e2 : y + f * A = (y + ka * f) % b + b * ((y + ka * f) / b + f * A') := by
    rw [hA, Int.mul_add, Int.mul_add, Int.mul_comm f ka]
    have : f * (b * A') = b * (f * A') := by ac_rfl
    omega
  rw [h, e2, Int.pow_succ, Int.mul_add, Int.mul_assoc]
  omega

/-- the carry's last digits -/
theorem carry_step {b : Nat} (hb : 2 ≤ b) {S o y : Int} {k : Nat} (h : S = o + (b : Int) ^ k * y) : S = (o + (b : Int) ^ k * (y % b)) + (b : Int) ^ (k + 1) * (y / b) := by
  have e : y % b + b * (y / b) = y := Int.emod_add_mul_ediv _ b
  have e2 : (b : Int) ^ k * y = b ^ k * (y % b) + b ^ k * (b * (y / b)) := by rw [← Int.mul_add, e]
  rw [h, e2, Int.pow_succ, Int.mul_assoc]
  omega

theorem last_snoc (o : List Int) (d : Int) : (o ++ [d]).getLast? = some d := by simp

set_option maxHeartbeats 8000000 in
theorem implScaled_any (v : Value) (a : List Int) (f d b : Nat) (w : World) (hb : 2 ≤ b) (hb16 : b ≤ 16) (hf1 : 1 ≤ f) (hf16 : f ≤ 16) (hd16 : d ≤ 16) (ha : Nrm b a) (hra : RowAt w v (intsOf a)) (hl : a.length ≤ 100000) :
    Calls Try.prog 79 #[v, .int .i64 f, .int .i64 d, .int .i64 b] w fun e w' => ∃ v', e = .returned v' ∧ w'.ownsRow w.heap.size 3 1 v' (dg b (vl b a * f + d)).length (intsOf (dg b (vl b a * f + d))) ∧ Below w.heap.size w w' := by
  obtain ⟨aa, cap, rfl, h1, h2, h3⟩ := hra.ints
  unfold maxLen at h2
  obtain ⟨i0, hi, hz0, hz1, hz2⟩ := info_parts infoInt
  have hbp : (0 : Int) < b := by omega
  obtain ⟨S, hS⟩ : ∃ S : Int, S = hv b a * f + d := ⟨_, rfl⟩
  have hSv : S.toNat = vl b a * f + d ∧ 0 ≤ S := by
    have e1 := vl_cast ha.1
    have e2 : ((vl b a * f : Nat) : Int) = hv b a * f := by rw [Int.natCast_mul, e1]
    omega
  have HSV := Lib.hid hSv
  have HS := Lib.hid hS
  have HA := Lib.hid ha
  obtain ⟨n, hn⟩ : ∃ n, n = a.length + 1 := ⟨_, rfl⟩
  have hn2 : (a.length : Int) + 1 = (n : Int) := by omega
  have hn9 : n ≤ 100001 := by omega
  clear hra ha hS hSv hn
  go_enter Try.func79, Try.ntmps79
  go_wp2_with (at_make; refine wpList_make_own _ rfl _ _ 39 rfl w.heap.size 3 i0 (.int .i64 0) 1 Try.underlying39 hi hz0 hz1 _ _ _ n rfl rfl rfl ?c1 ?c2 ?c3 ?_)
  case c1 => rw [hz2]; omega
  case c2 => unfold maxLen; omega
  case c3 => exact Nat.le_refl _
  intro w1 hown hgrow
  have hB1 : Below w.heap.size w w1 := (Below.refl _ _).grown hgrow (Nat.le_refl _) (fun k hk => by cases hk)
  have HO1 := Lib.hid hown
  clear hown hgrow
  go_wp2
  go_loopw [9, 10, 20] (fun v cy i wr => ∃ (k : Nat) (o : List Int) (y : Int), o.length = k ∧ k ≤ a.length ∧ i = .int .i64 k ∧ cy = .int .i64 y ∧ 0 ≤ y ∧ y ≤ 16 ∧ AllD b o ∧ (o = [] ∨ o.getLast? ≠ some 0 ∨ 0 < y ∨ at0 a (k - 1) = 0) ∧ S = hv b o + (b : Int) ^ k * (y + f * hv b (a.drop k)) ∧ wr.ownsRow w.heap.size 3 1 v o.length (intsOf o) ∧ Below w.heap.size w wr)
    (fun _ _ i _ => a.length - (intOf i).toNat)
  case atStart =>
    refine ⟨0, [], d, rfl, Nat.zero_le _, rfl, rfl, by omega, by omega, fun d hd => by simp at hd, .inl rfl, ?_, by simpa [intsOf] using HO1.out, hB1⟩
    rw [HS.out]; simp [hv_nil, Int.mul_comm, Int.add_comm]
  case round =>
    obtain ⟨k, o, y, hok, hk, rfl, rfl, hy0, hy1, hA, hN, hE, hown, hB⟩ := hrel
    subst hok
    have hsz := hB.size
    clear hB1 HO1
    by_cases hlt : o.length < a.length
    · obtain ⟨ba, off, rfl, hbb, hcell⟩ := h3.resolve_left (fun e => by rw [e] at hlt; simp at hlt)
      have hcx : wr.cell? ⟨ba, off + o.length, none⟩ = some (.int .i64 a[o.length]) := by rw [hB.cell (p := ⟨ba, off + o.length, none⟩) hbb]; exact hcell _ hlt
      have hxr := HA.out.1 _ (List.getElem_mem hlt)
      have hstep := scale_step hb hE (hv_drop hlt)
      obtain ⟨x, hx⟩ : ∃ x, x = a[o.length] := ⟨_, rfl⟩
      rw [← hx] at hcx hxr hstep
      have hxf : 0 ≤ x * f := Int.mul_nonneg hxr.1 (by omega)
      have hxf2 : x * f ≤ (b - 1) * 16 := Int.mul_le_mul hxr.2 (by omega) (by omega) (by omega)
      obtain ⟨t, ht⟩ : ∃ t, t = y + x * f := ⟨_, rfl⟩
      have ht0 : 0 ≤ t := by omega
      have ht1 : t ≤ 16 * b := by omega
      have hm0 : 0 ≤ t % b := Int.emod_nonneg _ (by omega)
      have hm1 : t % b < b := Int.emod_lt_of_pos _ hbp
      have hd0 : 0 ≤ t / b := Int.ediv_nonneg ht0 (by omega)
      have hd1 : t / b ≤ 16 := by
        have : t / b < 17 := Int.ediv_lt_of_lt_mul hbp (by omega)
        omega
      have hNN : o ++ [t % b] = [] ∨ (o ++ [t % b]).getLast? ≠ some 0 ∨ 0 < t / b ∨ at0 a (o.length + 1 - 1) = 0 := by
        by_cases hx0 : x = 0
        · exact .inr (.inr (.inr (by rw [Nat.add_sub_cancel, at0_lt hlt, ← hx, hx0])))
        · by_cases hm : t % b = 0
          · refine .inr (.inr (.inl ?_))
            have hx1 : 1 ≤ x := by omega
            have h5 : 1 * 1 ≤ x * f := Int.mul_le_mul hx1 (by omega) (by omega) (by omega)
            have h6 : t % b + b * (t / b) = t := Int.emod_add_mul_ediv t b
            rcases Int.lt_or_eq_of_le hd0 with h7 | h7
            · exact h7
            · rw [hm, ← h7, Int.mul_zero] at h6; omega
          · exact .inr (.inl (by rw [last_snoc]; simpa using hm))
      have HNN := Lib.hid hNN
      rw [← ht] at hstep
      have HST := Lib.hid (show S = hv b (o ++ [t % b]) + (b : Int) ^ (o.length + 1) * (t / b + f * hv b (a.drop (o.length + 1))) by rw [hv_snoc]; exact hstep)
      have HAD := Lib.hid (allD_snoc hA hm0 (show t % b ≤ (b : Int) - 1 by omega))
      have hxf3 : x * f ≤ 240 := by omega
      clear hx hstep hE hA hN hNN h3 hcell hxf2
      subst ht
      go_wp2_with (at_builtin; refine wpList_append_own _ rfl _ _ 39 rfl w.heap.size 3 i0 (.int .i64 0) 1 8 Try.underlying39 hi hz0 hz1 hz2 rfl (by decide) _ _ _ rfl (hown.alloc _) ⟨wr.heap.size, 0, none⟩ 1 1 [.int .i64 ((y + x * f) % b)] rfl rfl ?c1 ?c2 ?c3 ?c4 ?c5 ?_)
      case c1 => exact one_cell _ _ _
      case c2 => intro u hu; simp at hu; subst hu; rfl
      case c3 => unfold maxLen; omega
      case c4 => omega
      case c5 => simp; omega
      intro v' w1 hown' hgrow _
      have hB1 := (hB.alloc hsz (.cells #[.int .i64 ((y + x * f) % b)] 3)).grown hgrow (by simp; omega) (fun j hj => (hown.lt j hj).1)
      have HO := Lib.hid (show w1.ownsRow w.heap.size 3 1 v' (o ++ [(y + x * f) % b]).length (intsOf (o ++ [(y + x * f) % b])) by simpa [intsOf] using hown')
      clear hown' hgrow
      go_wp2_with fail
      go_roundw
      case rel => exact ⟨o.length + 1, o ++ [(y + x * f) % b], (y + x * f) / b, by simp, by omega, by go_num, rfl, hd0, hd1, HAD.out, HNN.out, HST.out, HO.out, hB1⟩
      case measure => simp [intOf]; omega
    · have hka : o.length = a.length := by omega
      rw [List.drop_of_length_le (by omega), hv_nil, Int.mul_zero, Int.add_zero] at hE
      have hN2 : y = 0 → (o = [] ∨ o.getLast? ≠ some 0) := fun hy => by
        rcases hN with h | h | h | h
        · exact .inl h
        · exact .inr h
        · omega
        · by_cases h0 : o = []
          · exact .inl h0
          · exfalso
            have hpos : 0 < a.length := by
              rw [← hka]; exact List.length_pos_iff.2 h0
            have hne : a ≠ [] := fun e => by rw [e] at hpos; simp at hpos
            have := HA.out.2.resolve_left hne
            rw [List.getLast?_eq_getElem?, List.getElem?_eq_getElem (by omega)] at this
            rw [hka, at0_lt (by omega)] at h
            exact this (by rw [h])
      have HO := Lib.hid hown; have HN := Lib.hid hN2; have HE := Lib.hid hE; have HAo := Lib.hid hA
      have HBB := Lib.hid hB
      have hn1 : ¬ (o.length : Int) < a.length := by omega
      have hol : o.length ≤ 100000 := by omega
      clear hown hN hN2 hE hA h3 hB
      go_wp2
      go_loopw [9, 10] (fun v cy wr => ∃ (p : List Int) (y : Int), cy = .int .i64 y ∧ 0 ≤ y ∧ y ≤ 16 ∧ p.length + y.toNat ≤ 100016 ∧ AllD b p ∧ (y = 0 → (p = [] ∨ p.getLast? ≠ some 0)) ∧ S = hv b p + (b : Int) ^ p.length * y ∧ wr.ownsRow w.heap.size 3 1 v p.length (intsOf p) ∧ Below w.heap.size w wr)
        (fun _ cy _ => (intOf cy).toNat)
      case atStart => exact ⟨o, y, rfl, hy0, hy1, by omega, HAo.out, HN.out, HE.out, HO.out, HBB.out⟩
      case round =>
        obtain ⟨p, y, rfl, hy0, hy1, hpl, hA, hN, hE, hown, hB⟩ := hrel
        have hsz := hB.size
        clear HO HN HE HAo HBB
        by_cases hgo : 0 < y
        · have hstep := carry_step hb hE
          have hm0 : 0 ≤ y % b := Int.emod_nonneg _ (by omega)
          have hm1 : y % b < b := Int.emod_lt_of_pos _ hbp
          have hd0 : 0 ≤ y / b := Int.ediv_nonneg hy0 (by omega)
          have hd1 : y / b < y := Int.ediv_lt_self_of_pos_of_ne_one hgo (by omega)
          have HST := Lib.hid (show S = hv b (p ++ [y % b]) + (b : Int) ^ (p ++ [y % b]).length * (y / b) by rw [hv_snoc, List.length_append]; exact hstep)
          have HAD := Lib.hid (allD_snoc hA hm0 (show y % b ≤ (b : Int) - 1 by omega))
          have HNN := Lib.hid (show y / b = 0 → (p ++ [y % b] = [] ∨ (p ++ [y % b]).getLast? ≠ some 0) from fun h0 => .inr (by
            rw [last_snoc]
            have h6 : y % b + b * (y / b) = y := Int.emod_add_mul_ediv y b
            rw [h0, Int.mul_zero] at h6
            simp; omega))
          clear hstep hE hA hN
          go_wp2_with (at_builtin; refine wpList_append_own _ rfl _ _ 39 rfl w.heap.size 3 i0 (.int .i64 0) 1 8 Try.underlying39 hi hz0 hz1 hz2 rfl (by decide) _ _ _ rfl (hown.alloc _) ⟨wr.heap.size, 0, none⟩ 1 1 [.int .i64 (y % b)] rfl rfl ?e1 ?e2 ?e3 ?e4 ?e5 ?_)
          case e1 => exact one_cell _ _ _
          case e2 => intro u hu; simp at hu; subst hu; rfl
          case e3 => unfold maxLen; omega
          case e4 => omega
          case e5 => simp; omega
          intro v' w1 hown' hgrow _
          have hB1 := (hB.alloc hsz (.cells #[.int .i64 (y % b)] 3)).grown hgrow (by simp; omega) (fun j hj => (hown.lt j hj).1)
          have HO := Lib.hid (show w1.ownsRow w.heap.size 3 1 v' (p ++ [y % b]).length (intsOf (p ++ [y % b])) by simpa [intsOf] using hown')
          clear hown' hgrow
          go_wp2_with fail
          go_roundw
          case rel => exact ⟨p ++ [y % b], y / b, rfl, hd0, by omega, by simp; omega, HAD.out, HNN.out, HST.out, HO.out, hB1⟩
          case measure => simp [intOf]; omega
        · have hy : y = 0 := by omega
          subst hy
          rw [Int.mul_zero, Int.add_zero] at hE
          have hV : dg b (vl b a * f + d) = p := by
            rw [← HSV.out.1, hE]
            exact nrm_eq hb ⟨hA, hN rfl⟩
          have HV := Lib.hid hV
          have HO := Lib.hid hown
          obtain ⟨av, capv, rfl, _, _⟩ := owns_form hown
          clear hV hE hA hN hown hgo
          go_wp2_with fail
          go_ret
          exact ⟨_, rfl, by rw [HV.out]; exact HO.out, hB⟩

end Go.Proofs.Ytdflpocnfodbhab
