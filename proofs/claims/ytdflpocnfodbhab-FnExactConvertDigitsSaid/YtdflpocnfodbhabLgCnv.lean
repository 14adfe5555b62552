/- Long numbers: the model turns a number into another base. -/
import Derived.Test.YtdflpocnfodbhabDgDig
import Derived.Test.YtdflpocnfodbhabLgMul
import Derived.Test.YtdflpocnfodbhabLgPub
import Derived.Deep.RegionHeld3
set_option linter.unusedVariables false
set_option linter.unusedSimpArgs false
set_option maxRecDepth 100000
namespace Go.Proofs.Ytdflpocnfodbhab
open Go.ChangeShapes Go.WideShapes Go.ChangeAt Go.RowKit

theorem heldI_keep {w W w1 : World} {a : Addr} {v : Value} (hs : W.cell? a = some v ∧ Below w.heap.size w W) (hb : Below W.heap.size W w1) : w1.cell? a = some v ∧ Below w.heap.size w w1 :=
  ⟨(hb.cell (World.block_lt_of_cell? W a hs.1)).trans hs.1, hs.2.trans (hb.mono hs.2.size)⟩
theorem heldI_row {w W : World} {a : Addr} {v x : Value} {xs : List Value} (hs : W.cell? a = some v ∧ Below w.heap.size w W) (hr : RowAt w x xs) : RowAt W x xs := hr.below hs.2

/-- how many digits a number has in another base -/
theorem conv_len {f t : Nat} {l : List Int} (hf : 2 ≤ f) (hf16 : f ≤ 16) (ht : 2 ≤ t) (h : AllD f l) (hl : l.length ≤ 60) : (dg t (vl f l)).length ≤ 240 := by
  refine dg_len_pow ht ?_
  have h1 := vl_lt_pow hf h
  have h2 : f ^ l.length ≤ 16 ^ l.length := Nat.pow_le_pow_left hf16 _
  have h3 : 16 ^ l.length ≤ 16 ^ 60 := Nat.pow_le_pow_right (by omega) hl
  have h4 : (16 : Nat) ^ 60 = 2 ^ 240 := by rw [show (16 : Nat) = 2 ^ 4 from rfl, ← Nat.pow_mul]
  have h5 : 2 ^ 240 ≤ t ^ 240 := Nat.pow_le_pow_left ht _
  exact Nat.lt_of_lt_of_le (Nat.lt_of_lt_of_le h1 (Nat.le_trans h2 (h4 ▸ h3))) h5
theorem conv_len' {f t n : Nat} {l : List Int} (hf : 2 ≤ f) (hf16 : f ≤ 16) (ht : 2 ≤ t) (h : AllD f l) (hl : l.length ≤ 60) (hn : n ≤ vl f l) : (dg t n).length ≤ 240 := by
  have h1 := conv_len (t := t) hf hf16 ht h hl
  have h2 := dg_mono ht (nrm_dg ht (vl f l)) (n := n) (by rw [vl_dg ht]; exact hn)
  omega
theorem okN_small {n t : Nat} (ht : 2 ≤ t) (ht16 : t ≤ 16) (hn : n ≤ 16) : rDigitsOf0 (n : Int) (t : Int) = dg t n := by
  have h : okN (n : Int) (t : Int) = true := by
    simp only [okN, okB, inB, Bool.and_eq_true, decide_eq_true_eq]; omega
  rw [rDigitsOf0, if_pos h]; rfl
theorem dg_small_len {n t : Nat} (ht : 2 ≤ t) (hn : n ≤ 16) : (dg t n).length ≤ 240 := by
  refine dg_len_pow ht ?_
  have h5 : 2 ^ 240 ≤ t ^ 240 := Nat.pow_le_pow_left ht _
  have : (16 : Nat) < 2 ^ 240 := by decide
  omega

set_option maxHeartbeats 4000000 in
theorem specConvertDigits_any (va : Value) (a : List Int) (f t : Int) (w : World) (hra : RowAt w va (intsOf a)) (hl : a.length ≤ 1048576) (hia : ∀ n ∈ a, in64 n) (hf : in64 f) (ht : in64 t) :
    Calls Try.prog 27 #[va, .int .i64 f, .int .i64 t] w fun e w' => ∃ v, e = .returned (.tuple #[v, .bool (rConvertDigits1 a f t)]) ∧ w'.ownsRow w.heap.size 3 1 v (rConvertDigits0 a f t).length (intsOf (rConvertDigits0 a f t)) ∧ Below w.heap.size w w' := by
  have H1 := Lib.hid (specDigitsOk_any va a f w hra hl hia hf)
  have H2 := Lib.hid (specBaseOk_any t w ht)
  have HNO := Lib.hid (fun w' (hB : Below w.heap.size w w') (h : rConvertDigits1 a f t = false) => show ∃ v, Ending.returned (.tuple #[.slice none 0 0, .bool false]) = .returned (.tuple #[v, .bool (rConvertDigits1 a f t)]) ∧ w'.ownsRow w.heap.size 3 1 v (rConvertDigits0 a f t).length (intsOf (rConvertDigits0 a f t)) ∧ Below w.heap.size w w' from
    ⟨_, by rw [h], by rw [rConvertDigits0, h]; exact World.ownsRow_nil _ _ _ _, hB⟩)
  have HT := Lib.hid ht; have HF := Lib.hid hf
  obtain ⟨aa, cap, rfl, h1, h2, h3⟩ := hra.ints
  unfold maxLen at h2
  clear ht hf hra
  cases h : okD a f
  · rw [h] at H1
    have E := Lib.hid (HNO.out w (Below.refl _ _) (by rw [rConvertDigits1, h]; rfl))
    clear h
    go_enter Try.func27, Try.ntmps27
    go_wp2_with fail
    refine H1.out.mono ?_
    rintro e w' ⟨rfl, rfl⟩
    go_wp2_with fail
    go_ret2
    exact E.out
  · rw [h] at H1
    cases hin : okB t
    · rw [hin] at H2
      have E := Lib.hid (HNO.out w (Below.refl _ _) (by rw [rConvertDigits1, h, hin]; rfl))
      clear h hin
      go_enter Try.func27, Try.ntmps27
      go_wp2_with fail
      refine H1.out.mono ?_
      rintro e w' ⟨rfl, rfl⟩
      go_wp2_with fail
      refine H2.out.mono ?_
      rintro e w' ⟨rfl, rfl⟩
      go_wp2_with fail
      go_ret2
      exact E.out
    · rw [hin] at H2
      obtain ⟨hb2, hb16⟩ := okB_yes hin
      obtain ⟨t, rfl⟩ : ∃ t' : Nat, t = t' := ⟨t.toNat, by omega⟩
      obtain ⟨f, rfl, hf2, hf16, hNa, hla⟩ := nat_of_ok h
      have ht2 : 2 ≤ t := by omega
      have ht16 : t ≤ 16 := by omega
      have HE := Lib.hid (show rConvertDigits1 a f t = fits (dg t (vl f a)) by rw [rConvertDigits1, h, hin, Bool.true_and, Bool.true_and, vlI_nat, dgI_nat])
      have HE0 := Lib.hid (show rConvertDigits0 a f t = if fits (dg t (vl f a)) then dg t (vl f a) else [] by rw [rConvertDigits0, HE.out, vlI_nat, dgI_nat])
      have HTI := Lib.hid (fun v1 v2 n m W (hr1 : RowAt W v1 (intsOf (dg t n))) (hr2 : RowAt W v2 (intsOf (dg t m))) (h1 : (dg t n).length ≤ 240) (h2 : (dg t m).length ≤ 240) => by
        have := specTimes_any v1 v2 (dg t n) (dg t m) t W ht2 ht16 (nrm_dg ht2 n).1 (nrm_dg ht2 m).1 hr1 hr2 (by omega) (by omega)
        rw [vl_dg ht2, vl_dg ht2] at this
        exact this)
      have HAD := Lib.hid (fun v1 v2 n m W (hr1 : RowAt W v1 (intsOf (dg t n))) (hr2 : RowAt W v2 (intsOf (dg t m))) (h1 : (dg t n).length ≤ 240) (h2 : (dg t m).length ≤ 240) => by
        have := specAdd_any v1 v2 (dg t n) (dg t m) t W ht2 ht16 (nrm_dg ht2 n).1 (nrm_dg ht2 m).1 hr1 hr2 (by omega) (by omega)
        rw [vl_dg ht2, vl_dg ht2] at this
        exact this)
      have HD := Lib.hid (fun (n : Nat) (hn : n ≤ 16) W => specDigits_any n t W ht2 ht16 (by omega))
      have HNA := Lib.hid hNa
      have HLEN := Lib.hid (fun n (hn : n ≤ vl f a) => conv_len' (t := t) hf2 hf16 ht2 hNa.1 hla hn)
      have HDL := Lib.hid (fun n (hn : n ≤ 16) => dg_small_len (t := t) ht2 hn)
      clear h hin hNa hia hb2 hb16
      go_enter Try.func27, Try.ntmps27
      go_wp2_with fail
      refine H1.out.mono ?_
      rintro e w' ⟨rfl, rfl⟩
      go_wp2_with fail
      refine H2.out.mono ?_
      rintro e w' ⟨rfl, rfl⟩
      go_wp2_with fail
      go_loopw [8, 9] (fun v i wr => ∃ k : Nat, k ≤ a.length ∧ i = .int .i64 ((k : Int) - 1) ∧ vl f (a.drop k) ≤ vl f a ∧ wr.ownsRow w.heap.size 3 1 v (dg t (vl f (a.drop k))).length (intsOf (dg t (vl f (a.drop k)))) ∧ Below w.heap.size w wr) (fun _ i _ => (intOf i + 1).toNat)
      case atStart =>
        refine ⟨a.length, Nat.le_refl _, rfl, ?_, ?_, (Below.refl _ _).alloc (Nat.le_refl _) _⟩
        · simp [vl, hv_nil]
        · rw [List.drop_length, show vl f [] = 0 by simp [vl, hv_nil], dg_zero]
          exact World.ownsRow_lit w #[] 0 (Nat.le_refl _) (by decide) rfl
      case round =>
        obtain ⟨k, hk, rfl, hle, hown, hB⟩ := hrel
        have hsz := hB.size
        cases k with
        | zero =>
          rw [List.drop_zero] at hown
          have HD := Lib.hid (specDone_any _ t w.heap.size (vl f a) wr ht2 hown (by have := HLEN.out _ (Nat.le_refl _); omega))
          clear hown hle h3
          go_wp2_with fail
          refine HD.out.mono ?_
          rintro e w2 ⟨v', rfl, ho, rfl⟩
          have HO := Lib.hid ho
          clear ho
          go_wp2_with fail
          go_ret2
          exact ⟨_, by rw [HE.out]; rfl, by rw [HE0.out]; exact HO.out, hB⟩
        | succ j =>
          rw [show ((j + 1 : Nat) : Int) - 1 = (j : Int) by omega]
          have hja : j < a.length := by omega
          obtain ⟨ba, off, rfl, hbb, hcell⟩ := h3.resolve_left (fun e => by rw [e] at hja; simp at hja)
          have hcx : wr.cell? ⟨ba, off + j, none⟩ = some (.int .i64 a[j]) := by rw [hB.cell (p := ⟨ba, off + j, none⟩) hbb]; exact hcell j hja
          have hxr := HNA.out.1 _ (List.getElem_mem hja)
          have hvd := vl_drop HNA.out.1 hja
          obtain ⟨x, hx⟩ : ∃ x : Nat, a[j] = (x : Int) := ⟨a[j].toNat, by omega⟩
          rw [hx] at hcx hxr hvd
          rw [Int.toNat_natCast] at hvd
          have hx16 : x ≤ 16 := by omega
          obtain ⟨V, hV⟩ : ∃ V, V = vl f (a.drop (j + 1)) := ⟨_, rfl⟩
          rw [← hV] at hvd hown hle
          have hlej : vl f (a.drop j) ≤ vl f a := by
            have h1 := vl_cast HNA.out.1
            have h2 := vl_cast (b := f) (l := a.drop j) (fun d hd => HNA.out.1 d (List.mem_of_mem_drop hd))
            have h3 := hv_drop_le (b := (f : Int)) (by omega) a (fun d hd => (HNA.out.1 d hd).1) j (by omega)
            omega
          have HVD := Lib.hid (show V * f + x = vl f (a.drop j) by rw [hvd, Nat.mul_comm, Nat.add_comm])
          have HLJ := Lib.hid hlej
          have HL1 := Lib.hid (HLEN.out V hle)
          have HL2 := Lib.hid (HLEN.out (V * f) (by have := HVD.out; omega))
          have HL3 := Lib.hid (HDL.out f hf16)
          have HL4 := Lib.hid (HDL.out x hx16)
          have HRow := Lib.hid (RowAt.of_owns hown)
          clear h3 hcell hx hvd hown hle hlej hV
          go_wp2_with fail
          go_region_held3 (fun W => W.cell? ⟨ba, off + j, none⟩ = some (.int .i64 x) ∧ Below wr.heap.size wr W) (first | exact ⟨by simpa using hcx, (Below.refl _ _).drew⟩ | exact heldI_keep (by assumption) hba | exact heldI_keep (by assumption) hbq | exact heldI_keep (by assumption) hbt)
            (first
              | (go_at_call 58; refine (HD.out _ (by assumption) _).mono ?_; rintro e w1 ⟨vq, rfl, hq, hbq⟩; have hs1 := hbq.size)
              | (go_at_call 51; refine (HTI.out _ vq V f _ (heldI_row (a := ⟨ba, off + j, none⟩) (v := .int .i64 x) (by assumption) HRow.out) (RowAt.of_owns hq) HL1.out HL3.out).mono ?_; rintro e w2 ⟨vt, rfl, hT, hbt⟩; have hs2 := hbt.size)
              | (go_at_call 57; refine (HAD.out vt vq (V * f) x _ ((RowAt.of_owns hT).below hbq) (RowAt.of_owns hq) HL2.out HL4.out).mono ?_; rintro e w4 ⟨vs, rfl, hS, hba⟩; have hs3 := hba.size))
          rename_i hH
          have hB1 := hB.trans (hH.2.mono hsz)
          have HS := Lib.hid (owns_mono hS (show w.heap.size ≤ _ by first | omega | (simp at *; omega)))
          clear hH hS
          go_wp2_with fail
          go_roundw
          case rel => exact ⟨j, by omega, by go_num, HLJ.out, by rw [← HVD.out]; exact HS.out, hB1⟩
          case measure => simp [intOf]

end Go.Proofs.Ytdflpocnfodbhab
