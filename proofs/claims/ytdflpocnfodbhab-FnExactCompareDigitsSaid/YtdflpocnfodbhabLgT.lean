/- Long numbers: the program multiplies two numbers. -/
import Derived.Test.YtdflpocnfodbhabLgMul
import Derived.Test.YtdflpocnfodbhabLgL
import Derived.Lib.SliceRun
import Derived.RangeFuncCalls
import Derived.StillTailTactics
set_option linter.unusedVariables false
set_option linter.unusedSimpArgs false
set_option maxRecDepth 100000
namespace Go.Proofs.Ytdflpocnfodbhab
open Go.ChangeShapes Go.WideShapes Go.ChangeAt Go.RowKit

set_option maxHeartbeats 8000000 in
theorem implTimes_any (va vc : Value) (a c : List Int) (b : Nat) (w : World) (hb : 2 ≤ b) (hb16 : b ≤ 16) (ha : AllD b a) (hc : AllD b c) (hra : RowAt w va (intsOf a)) (hrc : RowAt w vc (intsOf c)) (hl : a.length ≤ 10000) (hl' : c.length ≤ 10000) :
    Calls Try.prog 52 #[va, vc, .int .i64 b] w fun e w' => ∃ v, e = .returned v ∧ w'.ownsRow w.heap.size 3 1 v (dg b (vl b a * vl b c)).length (intsOf (dg b (vl b a * vl b c))) ∧ Below w.heap.size w w' := by
  obtain ⟨aa, cap, rfl, h1, h2, h3⟩ := hra.ints
  obtain ⟨ac, cap', rfl, h1', h2', h3'⟩ := hrc.ints
  unfold maxLen at h2 h2'
  obtain ⟨i0, hi, hz0, hz1, hz2⟩ := info_parts infoInt
  have hbp : (0 : Int) < b := by omega
  have HA := Lib.hid ha; have HC := Lib.hid hc
  obtain ⟨n, hn⟩ : ∃ n, n = a.length + c.length := ⟨_, rfl⟩
  have hn2 : (a.length : Int) + c.length = (n : Int) := by omega
  have hn9 : n ≤ 20001 := by omega
  have HN := Lib.hid hn
  clear hrc hra ha hc hn
  go_enter Try.func52, Try.ntmps52
  go_wp2_with (at_make; refine wpList_make_full _ rfl _ _ 39 rfl w.heap.size 3 i0 (.int .i64 0) 1 Try.underlying39 hi hz0 hz1 _ _ _ _ n rfl rfl rfl rfl ?c1 ?c2 ?c3 ?_)
  case c1 => rw [hz2]; omega
  case c2 => unfold maxLen; omega
  case c3 => exact Nat.le_refl _
  intro w1 hown hgrow
  have hown1 : w1.ownsRow w.heap.size 3 1 (.slice (some ⟨w.heap.size, 0, none⟩) n n) n (intsOf (List.replicate n 0)) := by
    rw [toList_madeCells_one] at hown; rw [intsOf_zeros]; simpa using hown
  have hB1 : Below w.heap.size w w1 := (Below.refl _ _).grown hgrow (Nat.le_refl _) (fun k hk => by cases hk)
  have HO1 := Lib.hid hown1
  clear hown hgrow hown1
  go_wp2
  go_loopg [21] a.length (fun g t wr => ∃ (i : Nat) (O : List Int), i ≤ a.length ∧ g = a.length - i ∧ t = .int .i64 i ∧ O.length = n ∧ AllD b O ∧ (∀ j (hj : j < O.length), i + c.length ≤ j → O[j] = 0) ∧ hv b O = hv b (a.take i) * hv b c ∧ wr.ownsRow w.heap.size 3 1 (.slice (some ⟨w.heap.size, 0, none⟩) n n) n (intsOf O) ∧ Below w.heap.size w wr)
  case atStart =>
    refine ⟨0, List.replicate n 0, Nat.zero_le _, rfl, rfl, by simp, fun d hd => ?_, fun j hj _ => by simp, ?_, HO1.out, hB1⟩
    · have := (List.mem_replicate.1 hd).2; subst this; omega
    · rw [hv_zeros b (fun d hd => (List.mem_replicate.1 hd).2)]; simp [hv_nil]
  case round =>
    obtain ⟨i, O, hi9, rfl, rfl, hOl, hOA, hOz, hOv, hown, hB⟩ := hrel
    clear hB1 HO1
    by_cases hlt : i < a.length
    · obtain ⟨ba, off, rfl, hbb, hcell⟩ := h3.resolve_left (fun e => by rw [e] at hlt; simp at hlt)
      have hcx : wr.cell? ⟨ba, off + i, none⟩ = some (.int .i64 a[i]) := by rw [hB.cell (p := ⟨ba, off + i, none⟩) hbb]; exact hcell i hlt
      obtain ⟨x, hx⟩ : ∃ x, x = a[i] := ⟨_, rfl⟩
      have hxr := HA.out _ (List.getElem_mem hlt)
      rw [← hx] at hcx hxr
      have HV := Lib.hid (show hv b (a.take (i + 1)) = hv b (a.take i) + b ^ i * x by rw [hv_take_succ, at0_lt hlt, hx])
      have HOA := Lib.hid hOA; have HOZ := Lib.hid hOz; have HOV := Lib.hid hOv; have HO := Lib.hid hown; have HOL := Lib.hid hOl
      have hB' := Lib.hid hB
      have H3' := Lib.hid h3'
      clear hcell hx hOA hOz hOv hown hOl h3'
      go_wp2
      go_loopg [10, 28] c.length (fun g cy t wi => ∃ (k : Nat) (P : List Int) (y : Int), g = c.length - k ∧ k ≤ c.length ∧ t = .int .i64 k ∧ cy = .int .i64 y ∧ 0 ≤ y ∧ y ≤ (b : Int) - 1 ∧ P.length = n ∧ AllD b P ∧ (∀ j (hj : j < P.length), i + c.length ≤ j → P[j] = 0) ∧ hv b P + (b : Int) ^ (i + k) * y = hv b (a.take i) * hv b c + b ^ i * (x * hv b (c.take k)) ∧ wi.ownsRow w.heap.size 3 1 (.slice (some ⟨w.heap.size, 0, none⟩) n n) n (intsOf P) ∧ Below w.heap.size w wi)
      case atStart =>
        refine ⟨0, O, 0, rfl, Nat.zero_le _, rfl, rfl, Int.le_refl _, by omega, HOL.out, HOA.out, HOZ.out, ?_, HO.out, hB⟩
        rw [HOV.out]; simp [hv_nil]
      case round =>
        obtain ⟨k, P, y, rfl, hkc, rfl, rfl, hy0, hy1, hPl, hPA, hPz, hPv, hown, hBi⟩ := hrel
        by_cases hgo : k < c.length
        · obtain ⟨p, hp⟩ : ∃ p, p = i + k := ⟨_, rfl⟩
          have hpl : p < P.length := by have := HN.out; omega
          have hpi : (i : Int) + k = (p : Int) := by omega
          obtain ⟨bc, offc, rfl, hbc, hcell⟩ := H3'.out.resolve_left (fun e => by rw [e] at hgo; simp at hgo)
          have hcq : wr.cell? ⟨bc, offc + k, none⟩ = some (.int .i64 c[k]) := by rw [hBi.cell (p := ⟨bc, offc + k, none⟩) hbc]; exact hcell k hgo
          have rc := HC.out _ (List.getElem_mem hgo)
          obtain ⟨q, hq⟩ : ∃ q, q = c[k] := ⟨_, rfl⟩
          have hpr := hPA _ (List.getElem_mem hpl)
          obtain ⟨o, ho⟩ : ∃ o, o = P[p] := ⟨_, rfl⟩
          rw [← hq] at rc hcq
          rw [← ho] at hpr
          obtain ⟨m0, m1, m2, m3⟩ := mul_bound (show (2 : Int) ≤ b by omega) hxr rc hpr ⟨hy0, hy1⟩
          have hst := mul_step hb hp hpl (by rw [hp]; exact hPv) (show hv b (c.take (k + 1)) = hv b (c.take k) + b ^ k * q by rw [hv_take_succ, at0_lt hgo, hq]) (show y + (o + x * q) = P[p] + x * q + y by rw [← ho]; omega)
          have m2' : 0 ≤ y + (o + x * q) := by omega
          have m3' : y + (o + x * q) < b * b := by omega
          have hm0 : 0 ≤ (y + (o + x * q)) % b := Int.emod_nonneg _ (by omega)
          have hm1 : (y + (o + x * q)) % b < b := Int.emod_lt_of_pos _ hbp
          have hd0 : 0 ≤ (y + (o + x * q)) / b := Int.ediv_nonneg m2' (by omega)
          have hd1 : (y + (o + x * q)) / b < b := Int.ediv_lt_of_lt_mul hbp m3'
          have HAD := Lib.hid (allD_set (j := p) hPA hm0 (show (y + (o + x * q)) % b ≤ (b : Int) - 1 by omega))
          have HZ := Lib.hid (show ∀ j (hj : j < (P.set p ((y + (o + x * q)) % b)).length), i + c.length ≤ j → (P.set p ((y + (o + x * q)) % b))[j] = 0 from fun j hj h => by
            rw [List.getElem_set, if_neg (by omega)]
            exact hPz j (by simpa using hj) h)
          have hcp : wr.cell? ⟨w.heap.size, p, none⟩ = some (.int .i64 o) := by
            rw [hown.cellAt p (by omega), ho]; exact intsOf_get hpl
          have hfp : wr.frozen? ⟨w.heap.size, p, none⟩ = false := hown.frozenAt p
          have hsd := (hown.stored p (.int .i64 ((y + (o + x * q)) % b))).1
          rw [intsOf_set] at hsd
          have HSD := Lib.hid hsd
          have HST := Lib.hid (show hv b (P.set p ((y + (o + x * q)) % b)) + (b : Int) ^ (i + (k + 1)) * ((y + (o + x * q)) / b) = hv b (a.take i) * hv b c + b ^ i * (x * hv b (c.take (k + 1))) by rw [← hst, hp]; rfl)
          have hpn : (p : Int) < n := by omega
          have hxq1 : x * q ≤ 225 := by
            have := Int.mul_le_mul (show x ≤ 15 by omega) (show q ≤ 15 by omega) rc.1 (by omega)
            omega
          have HPL := Lib.hid hPl
          clear hp hq ho hst hsd hown hPv hPz hPA m1 m2 m3 hPl hcell
          go_wp2
          go_roundg (c.length - (k + 1))
          case measure => omega
          case rel => exact ⟨k + 1, P.set p ((y + (o + x * q)) % b), (y + (o + x * q)) / b, rfl, by omega, by go_num, rfl, hd0, by omega, by rw [List.length_set]; exact HPL.out, HAD.out, HZ.out, HST.out, HSD.out, hBi.setCell (p := ⟨w.heap.size, p, none⟩) (Nat.le_refl _) _⟩
        · have hkc2 : k = c.length := by omega
          subst hkc2
          rw [List.take_of_length_le (Nat.le_refl _)] at hPv
          obtain ⟨p, hp⟩ : ∃ p, p = i + c.length := ⟨_, rfl⟩
          have hpl : p < P.length := by have := HN.out; omega
          have hpi : (i : Int) + c.length = (p : Int) := by omega
          have hz0' := hPz p hpl (by omega)
          have hvs := hv_set (b : Int) P p y hpl
          rw [hz0', Int.sub_zero] at hvs
          have HVV := Lib.hid (show hv b (P.set p y) = hv b (a.take (i + 1)) * hv b c by
            rw [hvs, HV.out, Int.add_mul, Int.mul_assoc, hp]
            exact hPv)
          have HPA := Lib.hid (allD_set (j := p) hPA hy0 hy1)
          have HZ := Lib.hid (show ∀ j (hj : j < (P.set p y).length), i + 1 + c.length ≤ j → (P.set p y)[j] = 0 from fun j hj h => by
            rw [List.getElem_set, if_neg (by omega)]
            exact hPz j (by simpa using hj) (by omega))
          have hcp : wr.cell? ⟨w.heap.size, p, none⟩ = some (.int .i64 0) := by
            rw [hown.cellAt p (by omega), ← hz0']; exact intsOf_get hpl
          have hfp : wr.frozen? ⟨w.heap.size, p, none⟩ = false := hown.frozenAt p
          have hsd := (hown.stored p (.int .i64 y)).1
          rw [intsOf_set] at hsd
          have HSD := Lib.hid hsd
          have HPL := Lib.hid hPl
          have hpn : (p : Int) < n := by omega
          have n1 : ¬ (c.length : Int) < c.length := by omega
          clear hPz hPv hPA hown hvs hz0' hsd hp hPl hgo
          go_wp2
          go_roundg (a.length - (i + 1))
          case measure => omega
          case rel => exact ⟨i + 1, P.set p y, by omega, rfl, by go_num, by rw [List.length_set]; exact HPL.out, HPA.out, HZ.out, HVV.out, HSD.out, hBi.setCell (p := ⟨w.heap.size, p, none⟩) (Nat.le_refl _) _⟩
    · have hia : i = a.length := by omega
      subst hia
      rw [List.take_length] at hOv
      have hV : vl b O = vl b a * vl b c := by
        have e1 := vl_cast HA.out; have e2 := vl_cast HC.out; have e3 := vl_cast hOA
        have : ((vl b O : Nat) : Int) = ((vl b a * vl b c : Nat) : Int) := by rw [e3, hOv, Int.natCast_mul, e1, e2]
        exact_mod_cast this
      rw [← hOl] at hown
      have HT := Lib.hid (implTrim_own _ O b w.heap.size wr hb hOA hown (by omega))
      rw [hV] at HT
      rw [hOl] at HT
      clear hV hOv hOA hown hOz h3 h3'
      go_wp2_with fail
      refine HT.out.mono ?_
      rintro e w' ⟨v', rfl, ho, rfl⟩
      have HO := Lib.hid ho
      clear ho
      go_wp2_with fail
      go_ret
      exact ⟨_, rfl, HO.out, hB⟩

end Go.Proofs.Ytdflpocnfodbhab
