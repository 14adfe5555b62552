/- Mixed places: the model's tests, ranges, places, digits and values. -/
import Derived.Test.YtleadjkndciniaaDoorRow
import Derived.Test.YtleadjkndciniaaDoorDgSpec
import Derived.Test.YtleadjkndciniaaDoorMxM
set_option linter.unusedVariables false
set_option linter.unusedSimpArgs false
set_option maxRecDepth 100000
namespace Go.Proofs.YtleadjkndciniaaDoor
open Go.ChangeShapes Go.WideShapes Go.ChangeAt Go.RowKit

/-- one more radix keeps within 64 bits -/
theorem rp_step_le {P x : Int} (h0 : 1 ≤ P) (h1 : P ≤ 1000000000000) (h2 : 2 ≤ x) (h3 : x ≤ 60) : 0 ≤ P * x ∧ P * x ≤ 60000000000000 := by
  have e1 : P * x ≤ 1000000000000 * 60 := Int.mul_le_mul h1 h3 (by omega) (by omega)
  have e2 : 0 ≤ P * x := Int.mul_nonneg (by omega) (by omega)
  omega

set_option maxHeartbeats 2000000 in
theorem specRd_eq (v : Value) (r : List Int) (w : World) (hr : RowAt w v (intsOf r)) (hl : r.length ≤ 1048576) (hi : ∀ n ∈ r, in64 n) :
    Calls Tryd.prog 30 #[v] w fun e w' => e = .returned (.bool (okR r)) ∧ w = w' := by
  obtain ⟨a, cap, rfl, h1, h2, h3⟩ := hr.ints
  unfold maxLen at h2
  have HI := Lib.hid hi
  have HL := Lib.hid (sIn_any (r.length : Int) 1 10 w)
  clear hi
  cases hln : inB (r.length : Int) 1 10
  · have HK := Lib.hid (okR_len hln)
    rw [hln] at HL
    clear hln h3
    go_enter Tryd.func30, Tryd.ntmps30
    go_wp2_with fail
    refine HL.out.mono ?_
    rintro e w' ⟨rfl, rfl⟩
    go_wp2_with fail
    go_ret
    exact ⟨ret_bool HK.out.symm, rfl⟩
  · obtain ⟨hn1, hn2⟩ := inB_yes hln
    rw [hln] at HL
    clear hln
    go_enter Tryd.func30, Tryd.ntmps30
    go_wp2_with fail
    refine HL.out.mono ?_
    rintro e w' ⟨rfl, rfl⟩
    go_wp2_with fail
    go_loop [3, 12] (fun n i => ∃ k : Nat, k ≤ r.length ∧ i = .int .i64 k ∧ n = .int .i64 (rp (r.take k)) ∧ AllR (r.take k) ∧ rp (r.take k) ≤ 1000000000000) (fun _ i => r.length - (intOf i).toNat)
    case atStart => exact ⟨0, Nat.zero_le _, rfl, rfl, fun x hx => by simp at hx, by simp [rp]⟩
    case round =>
      obtain ⟨k, hk, rfl, rfl, hA, hP⟩ := hrel
      have hP1 := rp_pos hA
      have HA := Lib.hid hA; clear hA
      by_cases hlt : k < r.length
      · obtain ⟨b', off, rfl, hbb, hcell⟩ := h3.resolve_left (fun e => by rw [e] at hlt; simp at hlt)
        have hc := hcell k hlt
        have hin := HI.out _ (List.getElem_mem hlt)
        have HT := Lib.hid (rp_take hlt)
        have HAT := Lib.hid (okR_at hlt)
        have HBG := Lib.hid (okR_big (r := r) (k := k + 1))
        have HTK := Lib.hid (List.take_succ_eq_append_getElem hlt)
        obtain ⟨P, hPe⟩ : ∃ P, P = rp (r.take k) := ⟨_, rfl⟩
        obtain ⟨x, hxe⟩ : ∃ x, x = r[k] := ⟨_, rfl⟩
        rw [← hPe] at hP hP1 HT ⊢
        rw [← hxe] at hc hin HT HAT HTK
        clear h3 hcell hPe hxe
        have HS := Lib.hid (fun W => sIn_any x 2 60 W)
        cases hd : inB x 2 60
        · have HK := Lib.hid (HAT.out hd)
          rw [hd] at HS
          clear hd
          go_wp2_with (go_at_call 42; refine (HS.out _).mono ?_; rintro e w' ⟨rfl, rfl⟩)
          go_ret
          exact ⟨ret_bool HK.out.symm, rfl⟩
        · obtain ⟨x2, x60⟩ := inB_yes hd
          obtain ⟨g1, g2⟩ := rp_step_le hP1 hP x2 x60
          rw [hd] at HS
          have HA2 := Lib.hid (show AllR (r.take (k + 1)) by
            rw [HTK.out]
            intro y hy
            rcases List.mem_append.1 hy with h | h
            · exact HA.out y h
            · simp at h; subst h; exact ⟨x2, x60⟩)
          clear hd
          by_cases hbig : 1000000000000 < P * x
          · have HK := Lib.hid (HBG.out (by rw [HT.out]; exact hbig))
            go_wp2_with (go_at_call 42; refine (HS.out _).mono ?_; rintro e w' ⟨rfl, rfl⟩)
            go_ret
            exact ⟨ret_bool HK.out.symm, rfl⟩
          · go_wp2_with (go_at_call 42; refine (HS.out _).mono ?_; rintro e w' ⟨rfl, rfl⟩)
            go_round
            case rel => exact ⟨k + 1, hlt, by go_num, by rw [HT.out], HA2.out, by rw [HT.out]; omega⟩
            case measure => simp [intOf]; omega
      · have hkl : k = r.length := by omega
        subst hkl
        have HK := Lib.hid (show okR r = true by
          have hA := HA.out
          rw [List.take_length] at hA hP
          exact okR_mk (by omega) (by omega) hA hP)
        clear h3
        go_wp2
        go_ret
        exact ⟨ret_bool HK.out.symm, rfl⟩

def rRadicesOk0 (r : List Int) : Bool := okR r
def rRangeOf0 (r : List Int) : Int := if okR r then rp r else 0
def rPlacesOf0 (r : List Int) : List Int := if okR r then plF 1 r else []
def rMixedDigits0 (n : Int) (r : List Int) : List Int := if okR r && inB n 0 (rp r - 1) then md n r else []
def okM (l r : List Int) : Bool := okR r && (decide (l.length = r.length) && decide (∀ j (h1 : j < l.length) (h2 : j < r.length), 0 ≤ l[j] ∧ l[j] ≤ r[j] - 1))
def rMixedOk0 (l r : List Int) : Bool := okM l r
def rMixedValue0 (l r : List Int) : Int := if okM l r then mv l r else -1
theorem okM_yes {l r : List Int} (h : okM l r = true) : okR r = true ∧ FitM l r := by
  simp only [okM, Bool.and_eq_true, decide_eq_true_eq] at h
  exact ⟨h.1, fitM_of h.2.1 h.2.2⟩
theorem okM_mk {l r : List Int} (h1 : okR r = true) (h2 : FitM l r) : okM l r = true := by
  simp only [okM, Bool.and_eq_true, decide_eq_true_eq]
  exact ⟨h1, fitM_len h2, fitM_at h2⟩
theorem okM_base {l r : List Int} (h : okR r = false) : okM l r = false := by simp [okM, h]
theorem okM_len {l r : List Int} (h : l.length ≠ r.length) : okM l r = false := by simp [okM, h]
theorem okM_at {l r : List Int} {j : Nat} (h1 : j < l.length) (h2 : j < r.length) (h : inB l[j] 0 (r[j] - 1) = false) : okM l r = false := by
  cases e : okM l r
  · rfl
  · have := fitM_at (okM_yes e).2 j h1 h2
    rw [show inB l[j] 0 (r[j] - 1) = true by simp [inB]; omega] at h; simp at h
theorem rPlacesOf0_len (r : List Int) : (rPlacesOf0 r).length ≤ 1048577 := by
  unfold rPlacesOf0; split
  · rename_i h
    have := okR_yes h
    rw [plF_len]; omega
  · simp
theorem rMixedDigits0_len (n : Int) (r : List Int) : (rMixedDigits0 n r).length ≤ 1048577 := by
  unfold rMixedDigits0; split
  · rename_i h
    simp only [Bool.and_eq_true] at h
    have := okR_yes h.1
    rw [md_len]; omega
  · simp

theorem specRadicesOk_any (v : Value) (r : List Int) (w : World) (hr : RowAt w v (intsOf r)) (hl : r.length ≤ 1048576) (hi : ∀ n ∈ r, in64 n) :
    Calls Tryd.prog 30 #[v] w fun e w' => e = .returned (.bool (rRadicesOk0 r)) ∧ Below w.heap.size w w' := by
  refine (specRd_eq v r w hr hl hi).mono ?_
  rintro e w' ⟨rfl, rfl⟩
  exact ⟨rfl, Below.refl _ _⟩

set_option maxHeartbeats 1000000 in
theorem specRg_any (v : Value) (r : List Int) (w : World) (hr : RowAt w v (intsOf r)) (hok : okR r = true) :
    Calls Tryd.prog 31 #[v] w fun e w' => e = .returned (.int .i64 (rp r)) ∧ w = w' := by
  obtain ⟨a, cap, rfl, h1, h2, h3⟩ := hr.ints
  unfold maxLen at h2
  obtain ⟨o1, o2, o3, o4⟩ := okR_yes hok
  have HB := Lib.hid (fun k => And.intro (rp_pos (allR_take o3 k)) (Int.le_trans (rp_take_le o3 k) o4))
  have HALL := Lib.hid o3
  clear hok hr o3
  go_enter Tryd.func31, Tryd.ntmps31
  go_wp2
  go_loop [3, 8] (fun n i => ∃ k : Nat, k ≤ r.length ∧ i = .int .i64 k ∧ n = .int .i64 (rp (r.take k))) (fun _ i => r.length - (intOf i).toNat)
  case atStart => exact ⟨0, Nat.zero_le _, rfl, rfl⟩
  case round =>
    obtain ⟨k, hk, rfl, rfl⟩ := hrel
    obtain ⟨g1, g2⟩ := HB.out k
    by_cases hlt : k < r.length
    · obtain ⟨b', off, rfl, hbb, hcell⟩ := h3.resolve_left (fun e => by rw [e] at hlt; simp at hlt)
      have hc := hcell k hlt
      obtain ⟨x2, x60⟩ := HALL.out _ (List.getElem_mem hlt)
      have HT := Lib.hid (rp_take hlt)
      obtain ⟨P, hPe⟩ : ∃ P, P = rp (r.take k) := ⟨_, rfl⟩
      obtain ⟨x, hxe⟩ : ∃ x, x = r[k] := ⟨_, rfl⟩
      rw [← hPe] at g1 g2 HT ⊢
      rw [← hxe] at hc x2 x60 HT
      obtain ⟨g3, g4⟩ := rp_step_le g1 g2 x2 x60
      clear h3 hcell hPe hxe
      go_wp2_with fail
      go_round
      case rel => exact ⟨k + 1, hlt, by go_num, by rw [HT.out]⟩
      case measure => simp [intOf]; omega
    · have hkl : k = r.length := by omega
      subst hkl
      have HV := Lib.hid (show rp (r.take r.length) = rp r by rw [List.take_length])
      clear h3
      go_wp2
      go_ret
      exact ⟨by rw [← HV.out]; rfl, rfl⟩

set_option maxHeartbeats 1000000 in
theorem specRangeOf_any (v : Value) (r : List Int) (w : World) (hr : RowAt w v (intsOf r)) (hl : r.length ≤ 1048576) (hi : ∀ n ∈ r, in64 n) :
    Calls Tryd.prog 11 #[v] w fun e w' => e = .returned (.int .i64 (rRangeOf0 r)) ∧ Below w.heap.size w w' := by
  have H1 := Lib.hid (specRd_eq v r w hr hl hi)
  have HR := Lib.hid (fun h => specRg_any v r w hr h)
  clear hr hi
  cases h : okR r
  · rw [h] at H1
    have E0 := Lib.hid (show rRangeOf0 r = 0 by rw [rRangeOf0, h]; rfl)
    clear h
    go_enter Tryd.func11, Tryd.ntmps11
    go_wp2_with fail
    refine H1.out.mono ?_
    rintro e w' ⟨rfl, rfl⟩
    go_wp2_with fail
    go_ret
    exact ⟨by rw [E0.out]; rfl, Below.refl _ _⟩
  · rw [h] at H1
    have E0 := Lib.hid (show rRangeOf0 r = rp r by rw [rRangeOf0, h]; rfl)
    have HG := Lib.hid (HR.out h)
    clear h
    go_enter Tryd.func11, Tryd.ntmps11
    go_wp2_with fail
    refine H1.out.mono ?_
    rintro e w' ⟨rfl, rfl⟩
    go_wp2_with fail
    refine HG.out.mono ?_
    rintro e w' ⟨rfl, rfl⟩
    go_wp2_with fail
    go_ret
    exact ⟨by rw [E0.out]; rfl, Below.refl _ _⟩

end Go.Proofs.YtleadjkndciniaaDoor
