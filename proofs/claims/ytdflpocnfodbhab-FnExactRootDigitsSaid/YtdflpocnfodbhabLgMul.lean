/- Long numbers: the model multiplies. -/
import Derived.Test.YtdflpocnfodbhabLgSub
import Derived.Deep.LoopGhost
set_option linter.unusedVariables false
set_option linter.unusedSimpArgs false
set_option maxRecDepth 100000
namespace Go.Proofs.Ytdflpocnfodbhab
open Go.ChangeShapes Go.WideShapes Go.ChangeAt Go.RowKit

theorem hv_set (b : Int) : ∀ (l : List Int) (j : Nat) (v : Int) (h : j < l.length), hv b (l.set j v) = hv b l + b ^ j * (v - l[j])
  | d :: l, 0, v, h => by
    simp only [List.set_cons_zero, hv_cons, Int.pow_zero, Int.one_mul, List.getElem_cons_zero]; omega
  | d :: l, j + 1, v, h => by
    have h' : j < l.length := by simpa using h
    rw [List.set_cons_succ, hv_cons, hv_cons, hv_set b l j v h', Int.mul_add, Int.pow_succ, List.getElem_cons_succ, Int.mul_comm (b ^ j) b, Int.mul_assoc]
    omega

theorem hv_take_succ (b : Int) (l : List Int) (k : Nat) : hv b (l.take (k + 1)) = hv b (l.take k) + b ^ k * at0 l k := by
  by_cases h : k < l.length
  · rw [List.take_succ_eq_append_getElem h, hv_snoc, List.length_take, Nat.min_eq_left (by omega), at0_lt h]
  · rw [List.take_of_length_le (by omega), List.take_of_length_le (by omega), at0_ge (by omega)]; simp

theorem allD_set {b : Nat} {l : List Int} {j : Nat} {v : Int} (h : AllD b l) (h0 : 0 ≤ v) (h1 : v ≤ (b : Int) - 1) : AllD b (l.set j v) := fun x hx => by
  rcases List.mem_or_eq_of_mem_set hx with hx | rfl
  · exact h x hx
  · exact ⟨h0, h1⟩

/-- one place of one row of the product -/
theorem mul_step {b : Nat} (hb : 2 ≤ b) {O : List Int} {i k p : Nat} {x ck cy V P P' y : Int} (hp : p = i + k) (hl : p < O.length) (h : hv b O + (b : Int) ^ p * cy = V + b ^ i * (x * P)) (hP : P' = P + b ^ k * ck) (hy : y = O[p] + x * ck + cy) :
    hv b (O.set p (y % b)) + (b : Int) ^ (p + 1) * (y / b) = V + b ^ i * (x * P') := by
  have e : y % b + b * (y / b) = y := Int.emod_add_mul_ediv y b
  rw [hv_set b O p _ hl, Int.pow_succ, Int.mul_assoc]
  have e1 : (b : Int) ^ p * (y % b - O[p]) + b ^ p * (b * (y / b)) = b ^ p * (x * ck + cy) := by
    rw [← Int.mul_add]; congr 1; omega
  have e2 : (b : Int) ^ p * (x * ck + cy) = b ^ p * cy + b ^ i * (x * (b ^ k * ck)) := by
    have e4 : (b : Int) ^ p * (x * ck) = b ^ i * (x * (b ^ k * ck)) := by
      rw [hp, Int.pow_add]; ac_rfl
    rw [Int.mul_add, e4, Int.add_comm]
  have e3 : V + (b : Int) ^ i * (x * P') = V + b ^ i * (x * P) + b ^ i * (x * (b ^ k * ck)) := by
    rw [hP, Int.mul_add, Int.mul_add]; omega
  omega

theorem mul_bound {b x c o cy : Int} (hb : 2 ≤ b) (hx : 0 ≤ x ∧ x ≤ b - 1) (hc : 0 ≤ c ∧ c ≤ b - 1) (ho : 0 ≤ o ∧ o ≤ b - 1) (hy : 0 ≤ cy ∧ cy ≤ b - 1) : 0 ≤ x * c ∧ x * c ≤ (b - 1) * (b - 1) ∧ 0 ≤ o + x * c + cy ∧ o + x * c + cy < b * b := by
  have h1 : x * c ≤ (b - 1) * (b - 1) := Int.mul_le_mul hx.2 hc.2 hc.1 (by omega)
  have h0 : 0 ≤ x * c := Int.mul_nonneg hx.1 hc.1
  have e : (b - 1) * (b - 1) = b * b - 2 * b + 1 := by rw [Int.sub_mul, Int.mul_sub]; omega
  refine ⟨h0, h1, by omega, by omega⟩

theorem intsOf_set (l : List Int) (j : Nat) (v : Int) : (intsOf l).set j (Value.int .i64 v) = intsOf (l.set j v) := by simp [intsOf, List.map_set]
theorem intsOf_get {l : List Int} {j : Nat} (h : j < l.length) : (intsOf l)[j]? = some (Value.int .i64 l[j]) := by simp [intsOf, h]
theorem intsOf_zeros (n : Nat) : intsOf (List.replicate n 0) = List.replicate n (Value.int .i64 0) := by simp [intsOf]

set_option maxHeartbeats 8000000 in
theorem specTimes_any (va vc : Value) (a c : List Int) (b : Nat) (w : World) (hb : 2 ≤ b) (hb16 : b ≤ 16) (ha : AllD b a) (hc : AllD b c) (hra : RowAt w va (intsOf a)) (hrc : RowAt w vc (intsOf c)) (hl : a.length ≤ 10000) (hl' : c.length ≤ 10000) :
    Calls Try.prog 51 #[va, vc, .int .i64 b] w fun e w' => ∃ v, e = .returned v ∧ w'.ownsRow w.heap.size 3 1 v (dg b (vl b a * vl b c)).length (intsOf (dg b (vl b a * vl b c))) ∧ Below w.heap.size w w' := by
  have HRC := Lib.hid hrc
  obtain ⟨aa, cap, rfl, h1, h2, h3⟩ := hra.ints
  obtain ⟨ac, cap', rfl, h1', h2', h3'⟩ := hrc.ints
  unfold maxLen at h2 h2'
  obtain ⟨i0, hi, hz0, hz1, hz2⟩ := info_parts infoInt
  have hbp : (0 : Int) < b := by omega
  have HA := Lib.hid ha; have HC := Lib.hid hc
  obtain ⟨n, hn⟩ : ∃ n, n = a.length + c.length + 1 := ⟨_, rfl⟩
  have hn2 : (a.length : Int) + c.length + 1 = (n : Int) := by omega
  have hn9 : n ≤ 20001 := by omega
  have HN := Lib.hid hn
  clear h3' hrc hra ha hc hn
  go_enter Try.func51, Try.ntmps51
  go_wp2_with (at_make; refine wpList_make_full _ rfl _ _ 22 rfl w.heap.size 3 i0 (.int .i64 0) 1 Try.underlying22 hi hz0 hz1 _ _ _ _ n rfl rfl rfl rfl ?c1 ?c2 ?c3 ?_)
  case c1 => rw [hz2]; omega
  case c2 => unfold maxLen; omega
  case c3 => exact Nat.le_refl _
  intro w1 hown hgrow
  have hown1 : w1.ownsRow w.heap.size 3 1 (.slice (some ⟨w.heap.size, 0, none⟩) n n) n (intsOf (List.replicate n 0)) := by
    rw [toList_madeCells_one] at hown; rw [intsOf_zeros]; simpa using hown
  have hB1 : Below w.heap.size w w1 := (Below.refl _ _).grown hgrow (Nat.le_refl _) (fun k hk => by cases hk)
  have HO1 := Lib.hid hown1
  clear hown hgrow hown1
  go_wp2
  go_loopg [22] a.length (fun g t wr => ∃ (i : Nat) (O : List Int), i ≤ a.length ∧ g = a.length - i ∧ t = .int .i64 i ∧ O.length = n ∧ AllD b O ∧ (∀ j (hj : j < O.length), i + c.length ≤ j → O[j] = 0) ∧ hv b O = hv b (a.take i) * hv b c ∧ wr.ownsRow w.heap.size 3 1 (.slice (some ⟨w.heap.size, 0, none⟩) n n) n (intsOf O) ∧ Below w.heap.size w wr)
  case atStart =>
    refine ⟨0, List.replicate n 0, Nat.zero_le _, rfl, rfl, by simp, fun d hd => ?_, fun j hj _ => by simp, ?_, HO1.out, hB1⟩
    · have := (List.mem_replicate.1 hd).2; subst this; omega
    · rw [hv_zeros b (fun d hd => (List.mem_replicate.1 hd).2)]; simp [hv_nil]
  case round =>
    obtain ⟨i, O, hi9, rfl, rfl, hOl, hOA, hOz, hOv, hown, hB⟩ := hrel
    clear hB1 HO1
    by_cases hlt : i < a.length
    · obtain ⟨ba, off, rfl, hbb, hcell⟩ := h3.resolve_left (fun e => by rw [e] at hlt; simp at hlt)
      have hcx : wr.cell? ⟨ba, off + i, none⟩ = some (.int .i64 a[i]) := by rw [hB.cell (p := ⟨ba, off + i, none⟩) hbb]; exact hcell i hlt
      obtain ⟨x, hx⟩ : ∃ x, x = a[i] := ⟨_, rfl⟩
      have hxr := HA.out _ (List.getElem_mem hlt)
      rw [← hx] at hcx hxr
      have HV := Lib.hid (show hv b (a.take (i + 1)) = hv b (a.take i) + b ^ i * x by rw [hv_take_succ, at0_lt hlt, hx])
      have HOA := Lib.hid hOA; have HOZ := Lib.hid hOz; have HOV := Lib.hid hOv; have HO := Lib.hid hown; have HOL := Lib.hid hOl
      have hB' := Lib.hid hB
      clear hcell hx hOA hOz hOv hown hOl
      go_wp2
      go_loopg [10, 11] (c.length + 1) (fun g cy t wi => ∃ (k : Nat) (P : List Int) (y : Int), g = c.length + 1 - k ∧ t = .int .i64 k ∧ cy = .int .i64 y ∧ 0 ≤ y ∧ y ≤ (b : Int) - 1 ∧ P.length = n ∧ AllD b P ∧ (k ≤ c.length ∧ (∀ j (hj : j < P.length), i + c.length ≤ j → P[j] = 0) ∨ k = c.length + 1 ∧ y = 0 ∧ (∀ j (hj : j < P.length), i + c.length + 1 ≤ j → P[j] = 0)) ∧ hv b P + (b : Int) ^ (i + k) * y = hv b (a.take i) * hv b c + b ^ i * (x * hv b (c.take k)) ∧ wi.ownsRow w.heap.size 3 1 (.slice (some ⟨w.heap.size, 0, none⟩) n n) n (intsOf P) ∧ Below w.heap.size w wi)
      case atStart =>
        refine ⟨0, O, 0, rfl, rfl, rfl, Int.le_refl _, by omega, HOL.out, HOA.out, .inl ⟨Nat.zero_le _, HOZ.out⟩, ?_, HO.out, hB⟩
        rw [HOV.out]; simp [hv_nil]
      case round =>
        obtain ⟨k, P, y, rfl, rfl, rfl, hy0, hy1, hPl, hPA, hPz, hPv, hown, hBi⟩ := hrel
        by_cases hgo : k < c.length ∨ 0 < y
        · have hk9 : k ≤ c.length := by
            rcases hPz with ⟨h, _⟩ | ⟨h, h', _⟩ <;> omega
          have hZ := (hPz.resolve_right (fun h => by omega)).2
          obtain ⟨p, hp⟩ : ∃ p, p = i + k := ⟨_, rfl⟩
          have hpl : p < P.length := by have := HN.out; omega
          have hpi : (i : Int) + k = (p : Int) := by omega
          have rc := at0_range hb HC.out k
          obtain ⟨q, hq⟩ : ∃ q, q = at0 c k := ⟨_, rfl⟩
          have hpr := hPA _ (List.getElem_mem hpl)
          obtain ⟨o, ho⟩ : ∃ o, o = P[p] := ⟨_, rfl⟩
          rw [← hq] at rc
          rw [← ho] at hpr
          obtain ⟨m0, m1, m2, m3⟩ := mul_bound (show (2 : Int) ≤ b by omega) hxr rc hpr ⟨hy0, hy1⟩
          have hst := mul_step hb hp hpl (by rw [hp]; exact hPv) (show hv b (c.take (k + 1)) = hv b (c.take k) + b ^ k * q by rw [hv_take_succ, hq]) (show o + x * q + y = P[p] + x * q + y by rw [ho])
          obtain ⟨t, ht⟩ : ∃ t, t = o + x * q + y := ⟨_, rfl⟩
          rw [← ht] at m2 m3 hst
          have hm0 : 0 ≤ t % b := Int.emod_nonneg _ (by omega)
          have hm1 : t % b < b := Int.emod_lt_of_pos _ hbp
          have hd0 : 0 ≤ t / b := Int.ediv_nonneg m2 (by omega)
          have hd1 : t / b < b := Int.ediv_lt_of_lt_mul hbp m3
          have HAD := Lib.hid (allD_set (j := p) hPA hm0 (show t % b ≤ (b : Int) - 1 by omega))
          have HNX := Lib.hid (show (k + 1 ≤ c.length ∧ (∀ j (hj : j < (P.set p (t % b)).length), i + c.length ≤ j → (P.set p (t % b))[j] = 0)) ∨ k + 1 = c.length + 1 ∧ t / b = 0 ∧ (∀ j (hj : j < (P.set p (t % b)).length), i + c.length + 1 ≤ j → (P.set p (t % b))[j] = 0) by
            by_cases hkc : k < c.length
            · refine .inl ⟨hkc, fun j hj h => ?_⟩
              rw [List.getElem_set, if_neg (by omega)]
              exact hZ j (by simpa using hj) h
            · have e1 : q = 0 := by rw [hq]; exact at0_ge (by omega)
              have e2 : o = 0 := by rw [ho]; exact hZ p hpl (by omega)
              refine .inr ⟨by omega, ?_, fun j hj h => ?_⟩
              · rw [ht, e1, e2, Int.mul_zero]; exact Int.ediv_eq_zero_of_lt (by omega) (by omega)
              · rw [List.getElem_set, if_neg (by omega)]
                exact hZ j (by simpa using hj) (by omega))
          have hcp : wr.cell? ⟨w.heap.size, p, none⟩ = some (.int .i64 o) := by
            rw [hown.cellAt p (by omega), ho]; exact intsOf_get hpl
          have hfp : wr.frozen? ⟨w.heap.size, p, none⟩ = false := hown.frozenAt p
          have hsd := (hown.stored p (.int .i64 (t % b))).1
          rw [intsOf_set] at hsd
          have HSD := Lib.hid hsd
          have HST := Lib.hid (show hv b (P.set p (t % b)) + (b : Int) ^ (i + (k + 1)) * (t / b) = hv b (a.take i) * hv b c + b ^ i * (x * hv b (c.take (k + 1))) by rw [← hst, hp]; rfl)
          have HQC := Lib.hid (fun n => specAt_q (.slice ac c.length cap') c k wr n (HRC.out.below hBi) (by omega) (by omega))
          rw [← hq] at HQC
          have hpn : (p : Int) < n := by omega
          have HPL := Lib.hid hPl
          have go2 : (k : Int) < c.length ∨ (¬ (k : Int) < c.length ∧ 0 < y) := by omega
          have HXQ := Lib.hid (And.intro m0 m1)
          have hxq1 : x * q ≤ 225 := by
            have := Int.mul_le_mul (show x ≤ 15 by omega) (show q ≤ 15 by omega) rc.1 (by omega)
            omega
          clear hp hq ho hst hsd hown hPv hPz hPA hZ hgo m1 hPl
          subst ht
          rcases go2 with g1 | ⟨g1, g2⟩
          all_goals
            go_wp2
            go_quiet ((go_at_call 70; exact Calls.quiet_of_same (HQC.out _)))
            go_wp2
            go_roundg (c.length + 1 - (k + 1))
            case measure => omega
            case rel => exact ⟨k + 1, P.set p ((o + x * q + y) % b), (o + x * q + y) / b, rfl, by go_num, rfl, hd0, by omega, by rw [List.length_set]; exact HPL.out, HAD.out, HNX.out, HST.out, HSD.out, (below_drewN hBi nq).setCell (p := ⟨w.heap.size, p, none⟩) (Nat.le_refl _) _⟩
        · have hy : y = 0 := by omega
          have hkc : c.length ≤ k := by omega
          subst hy
          have hZ : ∀ j (hj : j < P.length), i + 1 + c.length ≤ j → P[j] = 0 := fun j hj h => by
            rcases hPz with ⟨_, z⟩ | ⟨_, _, z⟩
            · exact z j hj (by omega)
            · exact z j hj (by omega)
          have HZ := Lib.hid hZ
          have HVV := Lib.hid (show hv b P = hv b (a.take (i + 1)) * hv b c by
            rw [List.take_of_length_le hkc] at hPv
            rw [HV.out, Int.add_mul, Int.mul_assoc]
            rw [Int.mul_zero, Int.add_zero] at hPv
            exact hPv)
          have HPA := Lib.hid hPA
          have HPL := Lib.hid hPl
          have HOW := Lib.hid hown
          have n1 : ¬ (k : Int) < c.length := by omega
          clear hPz hPv hPA hown hZ hgo hPl
          go_wp2
          go_roundg (a.length - (i + 1))
          case measure => omega
          case rel => exact ⟨i + 1, P, by omega, rfl, by go_num, HPL.out, HPA.out, HZ.out, HVV.out, HOW.out, hBi⟩
    · have hia : i = a.length := by omega
      subst hia
      rw [List.take_length] at hOv
      have hV : vl b O = vl b a * vl b c := by
        have e1 := vl_cast HA.out; have e2 := vl_cast HC.out; have e3 := vl_cast hOA
        have : ((vl b O : Nat) : Int) = ((vl b a * vl b c : Nat) : Int) := by rw [e3, hOv, Int.natCast_mul, e1, e2]
        exact_mod_cast this
      rw [← hOl] at hown
      have HTC := Lib.hid (specTrim_own _ O b w.heap.size wr hb hOA hown (by omega))
      rw [hV] at HTC
      rw [hOl] at HTC
      clear hV hOv hOA hown h3 hOz hOl
      go_wp2_with fail
      refine HTC.out.mono ?_
      rintro e w' ⟨v', rfl, ho, rfl⟩
      have HO := Lib.hid ho
      clear ho
      go_wp2_with fail
      go_ret
      exact ⟨_, rfl, HO.out, hB⟩

end Go.Proofs.Ytdflpocnfodbhab
