/- Negative bases: the model's digits and values. -/
import Derived.Test.YtdflpocnfodbhabInts
import Derived.Test.YtdflpocnfodbhabDgSpec
import Derived.Test.YtdflpocnfodbhabLgR
import Derived.Test.YtdflpocnfodbhabNgM
import Derived.Deep.LoopGhost
set_option linter.unusedVariables false
set_option linter.unusedSimpArgs false
set_option maxRecDepth 100000
namespace Go.Proofs.Ytdflpocnfodbhab
open Go.ChangeShapes Go.WideShapes Go.ChangeAt Go.RowKit

/-- the remainder as Go takes it -/
theorem tmod_fix {b : Nat} (hb : 2 ≤ b) (n : Int) : (n.tmod b < 0 → n.tmod b + b = n % b) ∧ (¬ n.tmod b < 0 → n.tmod b = n % b) ∧ -((b : Int) - 1) ≤ n.tmod b ∧ n.tmod b ≤ (b : Int) - 1 := by
  obtain ⟨d1, d2, d3⟩ := div_facts hb n
  have e := Int.tmod_add_mul_tdiv n b
  have h1 : n.tmod b < b := Int.tmod_lt_of_pos _ (by omega)
  have h2 : -(b : Int) < n.tmod b := by
    have h3 := Int.natAbs_tmod n b
    have h4 := Nat.mod_lt n.natAbs (show 0 < (b : Int).natAbs by omega)
    omega
  obtain ⟨r, hr⟩ : ∃ r, r = n.tmod b := ⟨_, rfl⟩
  obtain ⟨q, hq⟩ : ∃ q, q = n.tdiv b := ⟨_, rfl⟩
  obtain ⟨p, hp⟩ : ∃ p, p = n / (b : Int) := ⟨_, rfl⟩
  obtain ⟨s, hs⟩ : ∃ s, s = n % (b : Int) := ⟨_, rfl⟩
  rw [← hr] at e h1 h2 ⊢
  rw [← hq] at e
  rw [← hp, ← hs] at d1
  rw [← hs] at d2 d3 ⊢
  have key : s - r = b * (q - p) := by rw [Int.mul_sub]; omega
  have e0 : q - p = 0 ∨ q - p = 1 := by
    rcases ltgeZ (q - p) 0 with h | h
    · exfalso
      have : (b : Int) * (q - p) ≤ b * (-1) := Int.mul_le_mul_of_nonneg_left (by omega) (by omega)
      omega
    · rcases ltgeZ 1 (q - p) with h' | h'
      · exfalso
        have : (b : Int) * 2 ≤ b * (q - p) := Int.mul_le_mul_of_nonneg_left (by omega) (by omega)
        omega
      · omega
  rcases e0 with h | h <;> rw [h] at key <;> refine ⟨fun h => ?_, fun h => ?_, by omega, by omega⟩ <;> omega

theorem quo_exact {b : Nat} (hb : 2 ≤ b) (n : Int) : (n % b - n).tdiv b = -(n / b) := by
  obtain ⟨d1, _, _⟩ := div_facts hb n
  rw [show n % (b : Int) - n = b * (-(n / b)) by rw [Int.mul_neg]; omega]
  exact Int.mul_tdiv_cancel_left _ (by omega)

set_option maxHeartbeats 4000000 in
theorem specNgDigits_any (n : Int) (b : Nat) (w : World) (hb : 2 ≤ b) (hb16 : b ≤ 16) (hn1 : -1000000000000 ≤ n) (hn2 : n ≤ 1000000000000) :
    Calls Try.prog 64 #[.int .i64 n, .int .i64 b] w fun e w' => ∃ v, e = .returned v ∧ w'.ownsRow w.heap.size 3 1 v (ng b n).length (intsOf (ng b n)) ∧ Below w.heap.size w w' := by
  obtain ⟨i0, hi, hz0, hz1, hz2⟩ := info_parts infoInt
  have hbp : (0 : Int) < b := by omega
  have HLN := Lib.hid (ng_len42 hb hn1 hn2)
  obtain ⟨L, hL⟩ : ∃ L, L = ng b n := ⟨_, rfl⟩
  rw [← hL] at HLN
  have HL := Lib.hid hL
  go_enter Try.func64, Try.ntmps64
  go_wp2
  go_loopw [0, 5] (fun i v wr => ∃ (x : Int) (o : List Int), i = .int .i64 x ∧ -1000000000000 ≤ x ∧ x ≤ 1000000000000 ∧ o ++ ng b x = L ∧ wr.ownsRow w.heap.size 3 1 v o.length (intsOf o) ∧ Below w.heap.size w wr) (fun i _ _ => mu (intOf i))
  case atStart => exact ⟨n, [], rfl, hn1, hn2, by rw [HL.out]; rfl, World.ownsRow_lit w #[] 0 (Nat.le_refl _) (by decide) rfl, (Below.refl _ _).alloc (Nat.le_refl _) _⟩
  case round =>
    obtain ⟨x, o, rfl, hx1, hx2, he, hown, hB⟩ := hrel
    have hsz := hB.size
    by_cases h0 : x = 0
    · subst h0
      rw [ng_zero, List.append_nil] at he
      have HE := Lib.hid (show o = ng b n by rw [he, HL.out])
      have HO := Lib.hid hown
      clear he hown hL
      go_wp2
      go_ret
      exact ⟨_, rfl, by rw [← HE.out]; exact HO.out, hB⟩
    · have hq : (x != 0) = true := by simp [h0]
      rw [ng_step hb h0] at he
      have hmu := mu_lt hb h0
      obtain ⟨f1, f2, f3, f4⟩ := tmod_fix hb x
      have hqe := quo_exact hb x
      obtain ⟨d1, d2, d3⟩ := div_facts hb x
      have hqb := quo_bounds hb (Nat.le_refl x.natAbs)
      have hol : o.length ≤ 42 := by have := HLN.out; rw [← he] at this; simp at this; omega
      have HST := Lib.hid (show (o ++ [x % (b : Int)]) ++ ng b (-(x / b)) = L by rw [← he]; simp)
      have HMU := Lib.hid hmu
      obtain ⟨d, hd⟩ : ∃ d, d = x % (b : Int) := ⟨_, rfl⟩
      obtain ⟨p, hp⟩ : ∃ p, p = -(x / (b : Int)) := ⟨_, rfl⟩
      rw [← hd] at f1 f2 d1 d2 d3 hqe HST
      rw [← hp] at hqe hqb HST HMU
      have hp1 : -1000000000000 ≤ p := by omega
      have hp2 : p ≤ 1000000000000 := by omega
      clear hmu he hL d1
      by_cases hneg : x.tmod b < 0
      · have e1 := f1 hneg
        clear f1 f2 hd hp
        go_wp2_with (at_builtin; refine wpList_append_own _ rfl _ _ 22 rfl w.heap.size 3 i0 (.int .i64 0) 1 8 Try.underlying22 hi hz0 hz1 hz2 rfl (by decide) _ _ _ rfl (hown.alloc _) ⟨wr.heap.size, 0, none⟩ 1 1 [.int .i64 d] rfl rfl ?c1 ?c2 ?c3 ?c4 ?c5 ?_)
        case c1 => exact one_cell _ _ _
        case c2 => intro u hu; simp at hu; subst hu; rfl
        case c3 => unfold maxLen; omega
        case c4 => omega
        case c5 => simp; omega
        intro v' w1 hown' hgrow _
        have hB1 := (hB.alloc hsz (.cells #[.int .i64 d] 3)).grown hgrow (by simp; omega) (fun j hj => (hown.lt j hj).1)
        have HO := Lib.hid (show w1.ownsRow w.heap.size 3 1 v' (o ++ [d]).length (intsOf (o ++ [d])) by simpa [intsOf] using hown')
        clear hown' hgrow
        go_wp2_with fail
        go_roundw
        case rel => exact ⟨p, o ++ [d], rfl, hp1, hp2, HST.out, HO.out, hB1⟩
        case measure => simpa [intOf] using HMU.out
      · have e1 := f2 hneg
        clear f1 f2 hd hp
        go_wp2_with (at_builtin; refine wpList_append_own _ rfl _ _ 22 rfl w.heap.size 3 i0 (.int .i64 0) 1 8 Try.underlying22 hi hz0 hz1 hz2 rfl (by decide) _ _ _ rfl (hown.alloc _) ⟨wr.heap.size, 0, none⟩ 1 1 [.int .i64 d] rfl rfl ?c1 ?c2 ?c3 ?c4 ?c5 ?_)
        case c2 => first | rfl | (intro u hu; simp at hu; subst hu; rfl)
        case c3 => unfold maxLen; omega
        case c4 => omega
        case c5 => first | omega | (simp; omega)
        intro v' w1 hown' hgrow _
        have hB1 := (hB.alloc hsz (.cells #[.int .i64 d] 3)).grown hgrow (by simp; omega) (fun j hj => (hown.lt j hj).1)
        have HO := Lib.hid (show w1.ownsRow w.heap.size 3 1 v' (o ++ [d]).length (intsOf (o ++ [d])) by simpa [intsOf] using hown')
        clear hown' hgrow
        go_wp2_with fail
        go_roundw
        case rel => exact ⟨p, o ++ [d], rfl, hp1, hp2, HST.out, HO.out, hB1⟩
        case measure => simpa [intOf] using HMU.out

/-- the value, or that it is far beyond -/
def valOk (b : Nat) (l : List Int) (x : Int) (r : Bool) : Prop := r = inN (nv b l) ∧ (r = true → x = nv b l)

set_option maxHeartbeats 4000000 in
theorem specNgValue_any (va : Value) (l : List Int) (b : Nat) (w : World) (hb : 2 ≤ b) (hb16 : b ≤ 16) (hA : AllD b l) (hr : RowAt w va (intsOf l)) (hl : l.length ≤ 1000000) :
    Calls Try.prog 62 #[va, .int .i64 b] w fun e w' => ∃ x r, e = .returned (.tuple #[.int .i64 x, .bool r]) ∧ valOk b l x r ∧ w = w' := by
  obtain ⟨a, cap, rfl, h1, h2, h3⟩ := hr.ints
  unfold maxLen at h2
  have HA := Lib.hid hA
  have HFAR := Lib.hid (nv_far hb hb16 hA)
  have HIN := Lib.hid (fun n lo hi => sIn_any n lo hi w)
  clear hA hr
  go_enter Try.func62, Try.ntmps62
  go_wp2
  go_loop [6, 7] (fun x i => ∃ (k : Nat) (y : Int), k ≤ l.length ∧ i = .int .i64 ((k : Int) - 1) ∧ x = .int .i64 y ∧ y = nv b (l.drop k) ∧ -100000000000000 ≤ y ∧ y ≤ 100000000000000) (fun _ i => (intOf i + 1).toNat)
  case atStart => exact ⟨l.length, 0, Nat.le_refl _, rfl, rfl, by rw [List.drop_length, nv_nil], by omega, by omega⟩
  case round =>
    obtain ⟨k, y, hk, rfl, rfl, hy, hy1, hy2⟩ := hrel
    cases k with
    | zero =>
      rw [List.drop_zero] at hy
      have HV := Lib.hid (show valOk b l y (inB y (-1000000000000) 1000000000000) from ⟨by rw [hy]; rfl, fun _ => hy⟩)
      clear h3 hy
      go_wp2_with fail
      refine (HIN.out _ _ _).mono ?_
      rintro e w' ⟨rfl, rfl⟩
      go_wp2_with fail
      go_ret2
      exact ⟨_, _, rfl, HV.out, rfl⟩
    | succ j =>
      rw [show ((j + 1 : Nat) : Int) - 1 = (j : Int) by omega]
      have hjl : j < l.length := by omega
      obtain ⟨b', off, rfl, hbb, hcell⟩ := h3.resolve_left (fun e => by rw [e] at hjl; simp at hjl)
      have hc := hcell j hjl
      have hd := HA.out _ (List.getElem_mem hjl)
      have hat := nv_at b l j
      rw [at0_lt hjl, ← hy] at hat
      obtain ⟨d, hd'⟩ : ∃ d, d = l[j] := ⟨_, rfl⟩
      rw [← hd'] at hc hd hat
      have hby1 : y * b ≤ 1600000000000000 := by
        have : y * b ≤ 100000000000000 * b := Int.mul_le_mul_of_nonneg_right hy2 (by omega)
        omega
      have hby2 : -1600000000000000 ≤ y * b := by
        have : -100000000000000 * b ≤ y * b := Int.mul_le_mul_of_nonneg_right hy1 (by omega)
        omega
      rw [Int.mul_comm (b : Int) y] at hat
      have HAT := Lib.hid hat
      clear h3 hcell hd' hy hat
      cases hin : inB (d - y * b) (-100000000000000) 100000000000000
      · have HC := Lib.hid (HIN.out (d - y * b) (-100000000000000) 100000000000000)
        rw [hin] at HC
        have HNO := Lib.hid (show valOk b l 0 false by
          have h4 := HFAR.out j (by rw [HAT.out]; simp [inB] at hin; omega)
          refine ⟨?_, fun h => by simp at h⟩
          simp [inN, inB]; omega)
        clear hin
        go_wp2_with fail
        refine HC.out.mono ?_
        rintro e w' ⟨rfl, rfl⟩
        go_wp2_with fail
        go_ret2
        exact ⟨_, _, rfl, HNO.out, rfl⟩
      · have HC := Lib.hid (HIN.out (d - y * b) (-100000000000000) 100000000000000)
        rw [hin] at HC
        have HB := Lib.hid (inB_yes hin)
        clear hin
        go_wp2_with fail
        refine HC.out.mono ?_
        rintro e w' ⟨rfl, rfl⟩
        go_wp2_with fail
        go_round
        case rel => exact ⟨j, _, by omega, by go_num, rfl, HAT.out.symm, HB.out.1, HB.out.2⟩
        case measure => simp [intOf]

set_option maxHeartbeats 1000000 in
theorem specNegaVal_eq (v : Value) (l : List Int) (b : Int) (w : World) (hr : RowAt w v (intsOf l)) (hl : l.length ≤ 1048576) (hi : ∀ n ∈ l, in64 n) (hb : in64 b) :
    Calls Try.prog 29 #[v, .int .i64 b] w fun e w' => e = .returned (.tuple #[.int .i64 (rNegaValue0 l b), .bool (rNegaValue1 l b)]) ∧ w = w' := by
  have H1 := Lib.hid (specDigitsOk_any v l b w hr hl hi hb)
  cases h : okD l b
  · rw [h] at H1
    have E1 := Lib.hid (show rNegaValue1 l b = false by rw [rNegaValue1, h]; rfl)
    have E0 := Lib.hid (show rNegaValue0 l b = 0 by rw [rNegaValue0, E1.out]; rfl)
    clear h
    go_enter Try.func29, Try.ntmps29
    go_wp2_with fail
    refine H1.out.mono ?_
    rintro e w' ⟨rfl, rfl⟩
    go_wp2_with fail
    go_ret2
    exact ⟨by rw [E1.out, E0.out]; rfl, rfl⟩
  · rw [h] at H1
    obtain ⟨b, rfl, hb2, hb16, hN, hla⟩ := nat_of_ok h
    have HV := Lib.hid (specNgValue_any v l b w hb2 hb16 hN.1 hr (by omega))
    have HE1 := Lib.hid (show rNegaValue1 l b = inN (nv b l) by rw [rNegaValue1, h, nvI_nat]; rfl)
    have HE0 := Lib.hid (show rNegaValue0 l b = if inN (nv b l) then nv b l else 0 by rw [rNegaValue0, HE1.out, nvI_nat])
    clear h hN hr hi hb
    go_enter Try.func29, Try.ntmps29
    go_wp2_with fail
    refine H1.out.mono ?_
    rintro e w' ⟨rfl, rfl⟩
    go_wp2_with fail
    refine HV.out.mono ?_
    rintro e w' ⟨x, r, rfl, ⟨hr1, hr2⟩, rfl⟩
    cases r with
    | false =>
      have HK := Lib.hid (show rNegaValue1 l b = false by rw [HE1.out, ← hr1])
      have HK0 := Lib.hid (show rNegaValue0 l b = 0 by rw [HE0.out, ← hr1]; rfl)
      clear hr1 hr2
      go_wp2_with fail
      go_ret2
      exact ⟨by rw [HK.out, HK0.out]; rfl, rfl⟩
    | true =>
      have HK := Lib.hid (show rNegaValue1 l b = true by rw [HE1.out, ← hr1])
      have HK0 := Lib.hid (show rNegaValue0 l b = x by rw [HE0.out, ← hr1, hr2 rfl]; rfl)
      clear hr1 hr2
      go_wp2_with fail
      go_ret2
      exact ⟨by rw [HK.out, HK0.out]; rfl, rfl⟩

end Go.Proofs.Ytdflpocnfodbhab
