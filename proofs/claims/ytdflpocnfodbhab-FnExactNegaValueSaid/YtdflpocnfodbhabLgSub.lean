/- Long numbers: the model subtracts. -/
import Derived.Test.YtdflpocnfodbhabLgCmp
set_option linter.unusedVariables false
set_option linter.unusedSimpArgs false
set_option maxRecDepth 100000
namespace Go.Proofs.Ytdflpocnfodbhab
open Go.ChangeShapes Go.WideShapes Go.ChangeAt Go.RowKit

theorem specAt_q (v : Value) (l : List Int) (k : Nat) (w : World) (n : Nat) (hr : RowAt w v (intsOf l)) (hl : l.length ≤ 1048576) (hk : k ≤ 2000000) :
    Calls Try.prog 70 #[v, .int .i64 k] (w.drewN n) fun e w' => e = .returned (.int .i64 (at0 l k)) ∧ w' = w.drewN n := by
  refine (specAt_any v l k (w.drewN n) (hr.drewN n) hl hk).mono ?_
  rintro e w' ⟨rfl, rfl⟩
  exact ⟨rfl, rfl⟩

theorem owns_drewN {w : World} {base : Nat} {e : TypeId} {v : Value} {n : Nat} {xs : List Value} (h : w.ownsRow base e 1 v n xs) (q : Nat) : (w.drewN q).ownsRow base e 1 v n xs := h

set_option maxRecDepth 100000 in
set_option maxHeartbeats 4000000 in
theorem specMinus_any (va vc : Value) (a c : List Int) (b : Nat) (w : World) (hb : 2 ≤ b) (hb16 : b ≤ 16) (ha : Nrm b a) (hc : Nrm b c) (hle : vl b c ≤ vl b a) (hra : RowAt w va (intsOf a)) (hrc : RowAt w vc (intsOf c)) (hl : a.length ≤ 100000) :
    Calls Try.prog 78 #[va, vc, .int .i64 b] w fun e w' => ∃ g cap, e = .returned (.slice (some ⟨g, 0, none⟩) (dg b (vl b a - vl b c)).length cap) ∧ w'.ownsRow w.heap.size 3 1 (.slice (some ⟨g, 0, none⟩) (dg b (vl b a - vl b c)).length cap) (dg b (vl b a - vl b c)).length (intsOf (dg b (vl b a - vl b c))) ∧ Below w.heap.size w w' := by
  have hlen : c.length ≤ a.length := by
    rcases Nat.lt_or_ge a.length c.length with h | h
    · have := lt_of_len hb ha hc h; omega
    · exact h
  have HRC := Lib.hid hrc
  obtain ⟨aa, cap, rfl, h1, h2, h3⟩ := hra.ints
  obtain ⟨ac, cap', rfl, h1', h2', h3'⟩ := hrc.ints
  obtain ⟨S, hS⟩ : ∃ S : Int, S = hv b a - hv b c := ⟨_, rfl⟩
  have hSv : S.toNat = vl b a - vl b c ∧ 0 ≤ S := by
    have e1 := vl_cast ha.1; have e2 := vl_cast hc.1; omega
  have HSV := Lib.hid hSv
  have HS := Lib.hid hS
  clear h3' hrc hS hSv
  unfold maxLen at h2 h2'
  obtain ⟨i0, hi, hz0, hz1, hz2⟩ := info_parts infoInt
  have hbp : (0 : Int) < b := by omega
  go_enter Try.func78, Try.ntmps78
  go_wp2
  go_loopw [7, 8, 14] (fun v cy i wr => ∃ (k : Nat) (o : List Int) (y : Int), o.length = k ∧ k ≤ a.length ∧ i = .int .i64 k ∧ cy = .int .i64 y ∧ 0 ≤ y ∧ y ≤ 1 ∧ AllD b o ∧ S = hv b o + (b : Int) ^ k * (hv b (a.drop k) - hv b (c.drop k) - y) ∧ v ≠ .slice none 0 0 ∧ wr.ownsRow w.heap.size 3 1 v o.length (intsOf o) ∧ Below w.heap.size w wr)
    (fun _ _ i _ => a.length - (intOf i).toNat)
  case atStart =>
    refine ⟨0, [], 0, rfl, Nat.zero_le _, rfl, rfl, by omega, by omega, fun d hd => by simp at hd, ?_, by simp, World.ownsRow_lit w #[] 0 (Nat.le_refl _) (by decide) rfl, (Below.refl _ _).alloc (Nat.le_refl _) _⟩
    rw [HS.out]; simp [hv_nil]
  case round =>
    obtain ⟨k, o, y, hok, hk, rfl, rfl, hy0, hy1, hA, hE, hnn, hown, hB⟩ := hrel
    have HNN := Lib.hid hnn; clear hnn
    subst hok
    have hsz := hB.size
    by_cases hlt : o.length < a.length
    · obtain ⟨ba, off, rfl, hbb, hcell⟩ := h3.resolve_left (fun e => by rw [e] at hlt; simp at hlt)
      have hc1 : wr.cell? ⟨ba, off + o.length, none⟩ = some (.int .i64 a[o.length]) := by rw [hB.cell (p := ⟨ba, off + o.length, none⟩) hbb]; exact hcell _ hlt
      have ra := at0_range hb ha.1 o.length
      have rc := at0_range hb hc.1 o.length
      obtain ⟨p, hp⟩ : ∃ p, p = at0 a o.length := ⟨_, rfl⟩
      obtain ⟨q, hq⟩ : ∃ q, q = at0 c o.length := ⟨_, rfl⟩
      rw [show a[o.length] = p by rw [hp, at0_lt hlt]] at hc1
      rw [← hp] at ra
      rw [← hq] at rc
      have hpa := hv_at b a o.length
      have hqc := hv_at b c o.length
      rw [← hp] at hpa
      rw [← hq] at hqc
      have HQC := Lib.hid (fun n => specAt_q (.slice ac c.length cap') c o.length wr n (HRC.out.below hB) (by omega) (by omega))
      rw [← hq] at HQC
      have hlt' : (o.length : Int) < a.length := by omega
      clear h3 hcell hp hq
      by_cases hneg : p - q - y < 0
      · have hstep := sub_step (b := b) hE hpa hqc (show p - q - y + b = p - q - y + b * 1 by omega)
        have HST := Lib.hid (show S = hv b (o ++ [p - q - y + b]) + (b : Int) ^ (o.length + 1) * (hv b (a.drop (o.length + 1)) - hv b (c.drop (o.length + 1)) - 1) by rw [hv_snoc]; exact hstep)
        have HAD := Lib.hid (allD_snoc hA (show 0 ≤ p - q - y + b by omega) (by omega))
        clear hstep hE hA hpa hqc
        go_wp2
        go_quiet ((go_at_call 70; exact Calls.quiet_of_same (HQC.out _)))
        go_wp2_with (at_builtin; refine wpList_append_own _ rfl _ _ 22 rfl w.heap.size 3 i0 (.int .i64 0) 1 8 Try.underlying22 hi hz0 hz1 hz2 rfl (by decide) _ _ _ rfl (World.ownsRow.alloc (owns_drewN hown nq) _) ⟨(wr.drewN nq).heap.size, 0, none⟩ 1 1 [.int .i64 (p - q - y + b)] rfl rfl ?c1 ?c2 ?c3 ?c4 ?c5 ?_)
        case c1 => exact one_cell _ _ _
        case c2 => intro u hu; simp at hu; subst hu; rfl
        case c3 => unfold maxLen; omega
        case c4 => omega
        case c5 => simp; omega
        intro v' w1 hown' hgrow hnl
        have HN2 := Lib.hid (show v' ≠ .slice none 0 0 by first | exact hnl | exact fun e => HNN.out (hnl.1 e).1)
        clear hnl
        have hB1 := ((below_drewN hB nq).alloc hsz (.cells #[.int .i64 (p - q - y + b)] 3)).grown hgrow (by simp; omega) (fun j hj => (hown.lt j hj).1)
        have HO := Lib.hid (show w1.ownsRow w.heap.size 3 1 v' (o ++ [p - q - y + b]).length (intsOf (o ++ [p - q - y + b])) by simpa [intsOf] using hown')
        clear hown' hgrow
        go_wp2
        go_roundw
        case rel => exact ⟨o.length + 1, o ++ [p - q - y + b], 1, by simp, by omega, by go_num, rfl, by omega, by omega, HAD.out, HST.out, HN2.out, HO.out, hB1⟩
        case measure => simp [intOf]; omega
      · have hstep := sub_step (b := b) (bw' := 0) hE hpa hqc (show p - q - y = p - q - y + b * 0 by omega)
        have HST := Lib.hid (show S = hv b (o ++ [p - q - y]) + (b : Int) ^ (o.length + 1) * (hv b (a.drop (o.length + 1)) - hv b (c.drop (o.length + 1)) - 0) by rw [hv_snoc]; exact hstep)
        have HAD := Lib.hid (allD_snoc hA (show 0 ≤ p - q - y by omega) (by omega))
        clear hstep hE hA hpa hqc
        go_wp2
        go_quiet ((go_at_call 70; exact Calls.quiet_of_same (HQC.out _)))
        go_wp2_with (at_builtin; refine wpList_append_own _ rfl _ _ 22 rfl w.heap.size 3 i0 (.int .i64 0) 1 8 Try.underlying22 hi hz0 hz1 hz2 rfl (by decide) _ _ _ rfl (World.ownsRow.alloc (owns_drewN hown nq) _) ⟨(wr.drewN nq).heap.size, 0, none⟩ 1 1 [.int .i64 (p - q - y)] rfl rfl ?c1 ?c2 ?c3 ?c4 ?c5 ?_)
        case c1 => exact one_cell _ _ _
        case c2 => intro u hu; simp at hu; subst hu; rfl
        case c3 => unfold maxLen; omega
        case c4 => omega
        case c5 => simp; omega
        intro v' w1 hown' hgrow hnl
        have HN2 := Lib.hid (show v' ≠ .slice none 0 0 by first | exact hnl | exact fun e => HNN.out (hnl.1 e).1)
        clear hnl
        have hB1 := ((below_drewN hB nq).alloc hsz (.cells #[.int .i64 (p - q - y)] 3)).grown hgrow (by simp; omega) (fun j hj => (hown.lt j hj).1)
        have HO := Lib.hid (show w1.ownsRow w.heap.size 3 1 v' (o ++ [p - q - y]).length (intsOf (o ++ [p - q - y])) by simpa [intsOf] using hown')
        clear hown' hgrow
        go_wp2
        go_roundw
        case rel => exact ⟨o.length + 1, o ++ [p - q - y], 0, by simp, by omega, by go_num, rfl, by omega, by omega, HAD.out, HST.out, HN2.out, HO.out, hB1⟩
        case measure => simp [intOf]; omega
    · have hka : o.length = a.length := by omega
      rw [List.drop_of_length_le (by omega), List.drop_of_length_le (by omega), hv_nil] at hE
      have hy : y = 0 := by
        by_cases h0 : y = 0
        · exact h0
        · have e1 : y = 1 := by omega
          have h1 := hv_lt hb hA
          have h2 := HSV.out.2
          subst e1
          rw [show (0 : Int) - 0 - 1 = -1 by omega, Int.mul_neg, Int.mul_one] at hE
          omega
      subst hy
      have hV : vl b o = vl b a - vl b c := by
        rw [← HSV.out.1, hE]; unfold vl; simp
      obtain ⟨g, capv, rfl⟩ := owns_some hown HNN.out
      have HC := Lib.hid (specTrim_at _ capv o b w.heap.size wr hb hA hown (by omega))
      rw [hV] at HC
      clear hV hE hA hown h3 hka
      go_wp2_with fail
      refine HC.out.mono ?_
      rintro e w' ⟨rfl, ho, rfl⟩
      have HO := Lib.hid ho
      clear ho
      go_wp2_with fail
      go_ret
      exact ⟨_, _, rfl, HO.out, hB⟩

end Go.Proofs.Ytdflpocnfodbhab
