/- Signed binary digits: the program's tests, values, sparse digits, weights and steps. -/
import Derived.Test.YtiemhhkoegkleaaWithin
import Derived.Test.YtiemhhkoegkleaaSgSpec
import Derived.Test.YtiemhhkoegkleaaSgCnt
import Derived.Test.YtiemhhkoegkleaaIntOf
import Derived.RangeFuncCalls
set_option linter.unusedVariables false
set_option linter.unusedSimpArgs false
set_option maxRecDepth 100000
namespace Go.Proofs.Ytiemhhkoegkleaa
open Go.ChangeShapes Go.WideShapes Go.ChangeAt Go.RowKit

theorem and3 (n : Int) : bits .and .i64 n 3 = n % 4 := by
  have h3 : (BitVec.ofInt 64 3).toNat = 2 ^ 2 - 1 := by decide
  have key : (BitVec.ofInt 64 n &&& BitVec.ofInt 64 3).toNat = (n % ((2 ^ 64 : Nat) : Int)).toNat % 2 ^ 2 := by
    rw [BitVec.toNat_and, BitVec.toNat_ofInt, h3, Nat.and_two_pow_sub_one_eq_mod]
  show IntKind.i64.wrap ((BitVec.ofInt 64 n &&& BitVec.ofInt 64 3).toNat : Nat) = n % 4
  rw [key, IntKind.wrap_i64]
  omega

theorem spdig_any (n : Int) (w : World) :
    Calls Try.prog 60 #[.int .i64 n] w fun e w' => e = .returned (.int .i64 (sdig n)) ∧ w = w' := by
  obtain ⟨a1, a2, a3, a4⟩ := tmod_fix (b := 2) (by omega) n
  rw [show ((2 : Nat) : Int) = 2 from rfl] at a1 a2 a3 a4
  by_cases h : n % 2 = 0
  · have q1 : (n.tmod 2 == 0) = true := by rw [beq_iff_eq]; omega
    have HV := Lib.hid (sdig_even h)
    clear h a1 a2 a3 a4
    go_enter Try.func60, Try.ntmps60
    go_wp2
    go_ret
    exact ⟨by rw [HV.out]; rfl, rfl⟩
  · have q1 : (n.tmod 2 == 0) = false := by rw [beq_eq_false_iff_ne]; omega
    obtain ⟨r, hr⟩ : ∃ r, r = n % 4 := ⟨_, rfl⟩
    have q2 : bits .and .i64 n 3 = r := by rw [and3, hr]
    have hr1 : 1 ≤ r := by omega
    have hr3 : r ≤ 3 := by omega
    have HV := Lib.hid (show sdig n = 2 - r by
      unfold sdig
      rw [if_neg h]
      split <;> omega)
    clear h a1 a2 a3 a4 hr
    go_enter Try.func60, Try.ntmps60
    go_wp2
    go_ret
    exact ⟨by rw [HV.out]; rfl, rfl⟩

theorem implSg_eq (v : Value) (l : List Int) (w : World) (hr : RowAt w v (intsOf l)) (hl : l.length ≤ 1048576) :
    Calls Try.prog 22 #[v] w fun e w' => e = .returned (.bool (okS l)) ∧ w = w' := by
  have HC := Lib.hid (withinR_any v l (-1) 1 w hr hl)
  have HV := Lib.hid (show okS l = okIn l (-1) 1 from rfl)
  obtain ⟨a, cap, rfl, h1, h2, h3⟩ := hr.ints
  clear h3 hr
  go_enter Try.func22, Try.ntmps22
  go_wp2_with fail
  refine HC.out.mono ?_
  rintro e w' ⟨rfl, rfl⟩
  go_wp2_with fail
  go_ret
  exact ⟨by rw [HV.out]; rfl, rfl⟩

theorem implSignedOk_any (v : Value) (l : List Int) (w : World) (hr : RowAt w v (intsOf l)) (hl : l.length ≤ 1048576) (hi : ∀ n ∈ l, in64 n) :
    Calls Try.prog 22 #[v] w fun e w' => e = .returned (.bool (rSignedOk0 l)) ∧ Below w.heap.size w w' := by
  refine (implSg_eq v l w hr hl).mono ?_
  rintro e w' ⟨rfl, rfl⟩
  exact ⟨rfl, Below.refl _ _⟩

set_option maxHeartbeats 1000000 in
theorem implSignedValue_any (v : Value) (l : List Int) (w : World) (hr : RowAt w v (intsOf l)) (hl : l.length ≤ 1048576) (hi : ∀ n ∈ l, in64 n) :
    Calls Try.prog 20 #[v] w fun e w' => e = .returned (.tuple #[.int .i64 (rSignedValue0 l), .bool (rSignedValue1 l)]) ∧ Below w.heap.size w w' := by
  have H1 := Lib.hid (implSg_eq v l w hr hl)
  have HR := Lib.hid hr
  obtain ⟨a, cap, rfl, h1, h2, h3⟩ := hr.ints
  clear h3 hr hi
  cases h : okS l
  · rw [h] at H1
    have E1 := Lib.hid (show rSignedValue1 l = false by rw [rSignedValue1, h]; rfl)
    have E0 := Lib.hid (show rSignedValue0 l = 0 by rw [rSignedValue0, E1.out]; rfl)
    clear h
    go_enter Try.func20, Try.ntmps20
    go_wp2_with fail
    refine H1.out.mono ?_
    rintro e w' ⟨rfl, rfl⟩
    go_wp2_with fail
    go_ret2
    exact ⟨by rw [E0.out, E1.out]; rfl, Below.refl _ _⟩
  · rw [h] at H1
    obtain ⟨hN, hl60⟩ := okS_yes h
    have HC := Lib.hid (integerOf_any _ l 2 w HR.out hl60 (by decide) (by decide) (fun d hd => by have := hN.1 d hd; omega))
    have HE1 := Lib.hid (show rSignedValue1 l = inN (hv 2 l) by rw [rSignedValue1, h]; rfl)
    have HE0 := Lib.hid (show rSignedValue0 l = if inN (hv 2 l) then hv 2 l else 0 by rw [rSignedValue0, HE1.out]; rfl)
    rw [← HE0.out, ← HE1.out] at HC
    clear h hN
    go_enter Try.func20, Try.ntmps20
    go_wp2_with fail
    refine H1.out.mono ?_
    rintro e w' ⟨rfl, rfl⟩
    go_wp2_with fail
    refine HC.out.mono ?_
    rintro e w' ⟨rfl, hB⟩
    go_wp2_with fail
    go_ret2
    exact ⟨rfl, hB⟩

set_option maxHeartbeats 2000000 in
theorem implSparse_run (n : Int) (w : World) (hn1 : -1000000000000 ≤ n) (hn2 : n ≤ 1000000000000) :
    Calls Try.prog 24 #[.int .i64 n] w fun e w' => ∃ v, e = .returned v ∧ w'.ownsRow w.heap.size 3 1 v (spd n).length (intsOf (spd n)) ∧ Below w.heap.size w w' := by
  have H2 := Lib.hid (within_any n w (by unfold in64; omega))
  rw [inN_mk hn1 hn2] at H2
  obtain ⟨i0, hi, hz0, hz1, hz2⟩ := info_parts infoInt
  have HLN := Lib.hid (spd_len42 hn1 hn2)
  obtain ⟨L, hL⟩ : ∃ L, L = spd n := ⟨_, rfl⟩
  rw [← hL] at HLN
  have HL := Lib.hid hL
  have HSD := Lib.hid (fun x W => spdig_any x W)
  go_enter Try.func24, Try.ntmps24
  go_wp2_with (go_at_call 63; refine H2.out.mono ?_; rintro e w' ⟨rfl, rfl⟩)
  go_loopw [3, 4] (fun v i wr => ∃ (x : Int) (o : List Int), i = .int .i64 x ∧ -1000000000000 ≤ x ∧ x ≤ 1000000000000 ∧ o ++ spd x = L ∧ wr.ownsRow w.heap.size 3 1 v o.length (intsOf o) ∧ Below w.heap.size w wr) (fun _ i _ => (intOf i).natAbs)
  case atStart => exact ⟨n, [], rfl, hn1, hn2, by rw [HL.out]; rfl, World.ownsRow_lit w #[] 0 (Nat.le_refl _) (by decide) rfl, (Below.refl _ _).alloc (Nat.le_refl _) _⟩
  case round =>
    obtain ⟨x, o, rfl, hx1, hx2, he, hown, hB⟩ := hrel
    have hsz := hB.size
    by_cases h0 : x = 0
    · subst h0
      rw [spd_zero, List.append_nil] at he
      have HE := Lib.hid (show o = spd n by rw [he, HL.out])
      have HO := Lib.hid hown
      obtain ⟨av, cv, e3, _, _⟩ := owns_form hown
      subst e3
      clear he hown hL
      go_wp2_with fail
      go_ret
      exact ⟨_, rfl, by rw [← HE.out]; exact HO.out, hB⟩
    · have hq : (x != 0) = true := by simp [h0]
      rw [spd_step h0] at he
      have hmu := sdig_lt h0
      have hqe := shalf_go x
      obtain ⟨d1, d2, d3, _⟩ := sdig_facts x
      have hqb := sdig_half x
      have hol : o.length ≤ 42 := by have := HLN.out; rw [← he] at this; simp at this; omega
      have HST := Lib.hid (show (o ++ [sdig x]) ++ spd ((x - sdig x) / 2) = L by rw [← he]; simp)
      have HMU := Lib.hid hmu
      have HC := Lib.hid (HSD.out x wr)
      obtain ⟨d, hd⟩ : ∃ d, d = sdig x := ⟨_, rfl⟩
      rw [← hd] at d1 d2 d3 hqe hqb HST HMU HC
      obtain ⟨p, hp⟩ : ∃ p, p = (x - d) / 2 := ⟨_, rfl⟩
      rw [← hp] at hqe hqb HST HMU d1
      have hp1 : -1000000000000 ≤ p := by omega
      have hp2 : p ≤ 1000000000000 := by omega
      clear hmu he hL d1 hd hp hqb
      go_wp2_with fail
      refine HC.out.mono ?_
      rintro e w' ⟨rfl, rfl⟩
      go_wp2_with (at_builtin; refine wpList_append_own _ rfl _ _ 24 rfl w.heap.size 3 i0 (.int .i64 0) 1 8 Try.underlying24 hi hz0 hz1 hz2 rfl (by decide) _ _ _ rfl (hown.alloc _) ⟨wr.heap.size, 0, none⟩ 1 1 [.int .i64 d] rfl rfl (one_cell _ _ _) (by intro u hu; simp at hu; subst hu; rfl) (by unfold maxLen; omega) (by omega) (by simp; omega) ?_)
      intro v' w1 hown' hgrow _
      have hB1 := (hB.alloc hsz _).grown hgrow (by simp; omega) (fun j hj => (hown.lt j hj).1)
      have HO := Lib.hid hown'
      clear hown' hgrow
      go_wp2_with fail
      go_roundw
      case rel => exact ⟨p, o ++ [_], rfl, hp1, hp2, HST.out, by simpa [intsOf] using HO.out, hB1⟩
      case measure => simpa [intOf] using HMU.out

set_option maxHeartbeats 1000000 in
theorem implSparseDigits_any (n : Int) (w : World) (hn : in64 n) :
    Calls Try.prog 24 #[.int .i64 n] w fun e w' => ∃ v, e = .returned v ∧ w'.ownsRow w.heap.size 3 1 v (rSparseDigits0 n).length (intsOf (rSparseDigits0 n)) ∧ Below w.heap.size w w' := by
  cases h2 : inN n
  · have H2 := Lib.hid (within_any n w hn)
    rw [h2] at H2
    have E0 := Lib.hid (show rSparseDigits0 n = [] by rw [rSparseDigits0, h2]; rfl)
    clear h2 hn
    go_enter Try.func24, Try.ntmps24
    go_wp2_with fail
    refine H2.out.mono ?_
    rintro e w' ⟨rfl, rfl⟩
    go_wp2_with fail
    go_ret
    exact ⟨_, rfl, by rw [E0.out]; exact World.ownsRow_nil _ _ _ _, Below.refl _ _⟩
  · obtain ⟨h1, h3⟩ := inN_yes h2
    rw [show rSparseDigits0 n = spd n by rw [rSparseDigits0, h2]; rfl]
    exact implSparse_run n w h1 h3

set_option maxHeartbeats 2000000 in
theorem implIsSparse_any (v : Value) (l : List Int) (w : World) (hr : RowAt w v (intsOf l)) (hl : l.length ≤ 1048576) (hi : ∀ n ∈ l, in64 n) :
    Calls Try.prog 25 #[v] w fun e w' => e = .returned (.bool (rIsSparse0 l)) ∧ Below w.heap.size w w' := by
  have H1 := Lib.hid (implSg_eq v l w hr hl)
  obtain ⟨a, cap, rfl, h1, h2, h3⟩ := hr.ints
  unfold maxLen at h2
  obtain ⟨ok, hok⟩ : ∃ ok, ok = okS l := ⟨_, rfl⟩
  rw [← hok] at H1
  have E0 := Lib.hid (show rIsSparse0 l = (ok && sprB l) by rw [rIsSparse0, hok])
  clear hr hi hok
  go_enter Try.func25, Try.ntmps25
  go_wp2_with fail
  go_loop [3] (fun i => ∃ k : Nat, 1 ≤ k ∧ k ≤ l.length + 1 ∧ i = .int .i64 k ∧ ∀ j (hj : j + 1 < l.length), j + 1 < k → l[j] = 0 ∨ l[j + 1] = 0) (fun i => l.length + 1 - (intOf i).toNat)
  case atStart => exact ⟨1, Nat.le_refl _, by omega, rfl, fun j hj k => by omega⟩
  case round =>
    obtain ⟨k', hk1, hk, rfl, hall⟩ := hrel
    have HA := Lib.hid hall; clear hall
    obtain ⟨k, rfl⟩ : ∃ k, k' = k + 1 := ⟨k' - 1, by omega⟩
    have hks : (k : Int) + 1 - 1 = k := by omega
    have hke : ((k + 1 : Nat) : Int) = (k : Int) + 1 := by omega
    by_cases hlt : k + 1 < l.length
    · obtain ⟨b', off, rfl, hbb, hcell⟩ := h3.resolve_left (fun e => by rw [e] at hlt; simp at hlt)
      have hc := hcell (k + 1) hlt
      have hc2 := hcell k (by omega)
      obtain ⟨y, hy⟩ : ∃ y, y = l[k + 1] := ⟨_, rfl⟩
      obtain ⟨x, hx⟩ : ∃ x, x = l[k] := ⟨_, rfl⟩
      rw [← hy] at hc
      rw [← hx] at hc2
      have HYY := Lib.hid hy; have HXX := Lib.hid hx
      have hlt' : (k : Int) + 1 < l.length := by omega
      rw [hke]
      clear h3 hcell hy hx hke
      by_cases hx0 : x = 0
      · have qx : (x != 0) = false := by simp [hx0]
        have HOR := Lib.hid (show l[k] = 0 ∨ l[k + 1] = 0 by left; rw [← HXX.out]; exact hx0)
        clear hx0
        go_wp2_with fail
        go_round
        case rel =>
          refine ⟨k + 2, by omega, by omega, by go_num, fun j hj h => ?_⟩
          rcases Nat.lt_or_ge (j + 1) (k + 1) with h4 | h4
          · exact HA.out j hj h4
          · have : j = k := by omega
            subst this; exact HOR.out
        case measure => simp [intOf]; omega
      · have qx : (x != 0) = true := by simp [hx0]
        by_cases hy0 : y = 0
        · have qy : (y != 0) = false := by simp [hy0]
          have HOR := Lib.hid (show l[k] = 0 ∨ l[k + 1] = 0 by right; rw [← HYY.out]; exact hy0)
          clear hy0 hx0
          go_wp2_with fail
          go_round
          case rel =>
            refine ⟨k + 2, by omega, by omega, by go_num, fun j hj h => ?_⟩
            rcases Nat.lt_or_ge (j + 1) (k + 1) with h4 | h4
            · exact HA.out j hj h4
            · have : j = k := by omega
              subst this; exact HOR.out
          case measure => simp [intOf]; omega
        · have qy : (y != 0) = true := by simp [hy0]
          have HV := Lib.hid (spr_not (l := l) (j := k) hlt (by rw [← HXX.out]; exact hx0) (by rw [← HYY.out]; exact hy0))
          clear hy0 hx0
          go_wp2_with fail
          go_ret
          exact ⟨by rw [E0.out, HV.out, Bool.and_false]; rfl, Below.refl _ _⟩
    · have HV := Lib.hid (spr_of (l := l) (fun j hj => HA.out j hj (by omega)))
      have hlt' : ¬ (k : Int) + 1 < l.length := by omega
      rw [hke]
      clear h3 hke
      go_wp2_with fail
      refine H1.out.mono ?_
      rintro e w' ⟨rfl, rfl⟩
      go_wp2_with fail
      go_ret
      exact ⟨by rw [E0.out, HV.out, Bool.and_true]; rfl, Below.refl _ _⟩

/-- a digit's weight -/
def dwt (d : Int) : Nat := if d = 0 then 0 else 1
theorem dweight_any (d : Int) (w : World) (h1 : -1 ≤ d) (h2 : d ≤ 1) :
    Calls Try.prog 64 #[.int .i64 d] w fun e w' => e = .returned (.int .i64 (dwt d)) ∧ w = w' := by
  rcases (show d = 0 ∨ d = 1 ∨ d = -1 by omega) with rfl | rfl | rfl
  all_goals
    clear h1 h2
    go_enter Try.func64, Try.ntmps64
    go_wp2
    go_ret
    exact ⟨rfl, rfl⟩

set_option maxHeartbeats 2000000 in
theorem implWt_eq (v : Value) (l : List Int) (w : World) (hr : RowAt w v (intsOf l)) (hl : l.length ≤ 1048576) :
    Calls Try.prog 26 #[v] w fun e w' => e = .returned (.int .i64 (rWeightOf0 l)) ∧ w = w' := by
  have H1 := Lib.hid (implSg_eq v l w hr hl)
  obtain ⟨a, cap, rfl, h1, h2, h3⟩ := hr.ints
  unfold maxLen at h2
  clear hr
  cases h : okS l
  · rw [h] at H1
    have E0 := Lib.hid (show rWeightOf0 l = -1 by rw [rWeightOf0, h]; rfl)
    clear h h3
    go_enter Try.func26, Try.ntmps26
    go_wp2_with fail
    refine H1.out.mono ?_
    rintro e w' ⟨rfl, rfl⟩
    go_wp2_with fail
    go_ret
    exact ⟨by rw [E0.out]; rfl, rfl⟩
  · rw [h] at H1
    have E0 := Lib.hid (show rWeightOf0 l = wt l by rw [rWeightOf0, h]; rfl)
    have HALL := Lib.hid (okS_yes h).1.1
    clear h
    go_enter Try.func26, Try.ntmps26
    go_wp2_with (go_at_call 22; refine H1.out.mono ?_; rintro e w' ⟨rfl, rfl⟩)
    go_loop [3, 11] (fun x i => ∃ k : Nat, k ≤ l.length ∧ i = .int .i64 k ∧ x = .int .i64 (wt (l.take k))) (fun _ i => l.length - (intOf i).toNat)
    case atStart => exact ⟨0, Nat.zero_le _, rfl, rfl⟩
    case round =>
      obtain ⟨k, hk, rfl, rfl⟩ := hrel
      by_cases hlt : k < l.length
      · obtain ⟨b', off, rfl, hbb, hcell⟩ := h3.resolve_left (fun e => by rw [e] at hlt; simp at hlt)
        have hc := hcell k hlt
        have HX := Lib.hid (wt_take hlt)
        have hd := HALL.out _ (List.getElem_mem hlt)
        have hwl : wt (l.take k) ≤ 1048576 := by have := wt_le (l.take k); rw [List.length_take] at this; omega
        obtain ⟨q, hq⟩ : ∃ q, q = wt (l.take k) := ⟨_, rfl⟩
        obtain ⟨y, hy⟩ : ∃ y, y = l[k] := ⟨_, rfl⟩
        rw [← hq] at HX hwl ⊢
        rw [← hy] at HX hc hd
        have HC := Lib.hid (dweight_any y w hd.1 hd.2)
        obtain ⟨u, hu⟩ : ∃ u, u = dwt y := ⟨_, rfl⟩
        rw [← hu] at HC
        have HV := Lib.hid (show wt (l.take (k + 1)) = q + u by rw [HX.out, hu]; rfl)
        have hu1 : u ≤ 1 := by rw [hu]; unfold dwt; split <;> omega
        clear h3 hcell hq hy hu hd
        go_wp2_with fail
        refine HC.out.mono ?_
        rintro e w' ⟨rfl, rfl⟩
        go_wp2_with fail
        go_round
        case rel => exact ⟨k + 1, by omega, by go_num, by rw [HV.out]; go_num⟩
        case measure => simp [intOf]; omega
      · have hkl : k = l.length := by omega
        subst hkl
        have HV := Lib.hid (show wt (l.take l.length) = wt l by rw [List.take_length])
        clear h3
        go_wp2_with fail
        go_ret
        exact ⟨by rw [E0.out, ← HV.out]; rfl, rfl⟩

theorem implWeightOf_any (v : Value) (l : List Int) (w : World) (hr : RowAt w v (intsOf l)) (hl : l.length ≤ 1048576) (hi : ∀ n ∈ l, in64 n) :
    Calls Try.prog 26 #[v] w fun e w' => e = .returned (.int .i64 (rWeightOf0 l)) ∧ Below w.heap.size w w' := by
  refine (implWt_eq v l w hr hl).mono ?_
  rintro e w' ⟨rfl, rfl⟩
  exact ⟨rfl, Below.refl _ _⟩

theorem rWeight_sp {n : Int} (h1 : -1000000000000 ≤ n) (h2 : n ≤ 1000000000000) : rWeightOf0 (spd n) = wt (spd n) := by
  rw [rWeightOf0, okS_mk (nrmS_sp n) (by have := spd_len42 h1 h2; omega)]; rfl

set_option maxHeartbeats 1000000 in
theorem implLeastWeight_any (n : Int) (w : World) (hn : in64 n) :
    Calls Try.prog 27 #[.int .i64 n] w fun e w' => e = .returned (.int .i64 (rLeastWeight0 n)) ∧ Below w.heap.size w w' := by
  have H2 := Lib.hid (within_any n w hn)
  clear hn
  cases h2 : inN n
  · rw [h2] at H2
    have E0 := Lib.hid (show rLeastWeight0 n = -1 by rw [rLeastWeight0, h2]; rfl)
    clear h2
    go_enter Try.func27, Try.ntmps27
    go_wp2_with fail
    refine H2.out.mono ?_
    rintro e w' ⟨rfl, rfl⟩
    go_wp2_with fail
    go_ret
    exact ⟨by rw [E0.out]; rfl, Below.refl _ _⟩
  · rw [h2] at H2
    obtain ⟨hn1, hn2⟩ := inN_yes h2
    have E0 := Lib.hid (show rLeastWeight0 n = rWeightOf0 (spd n) by rw [rLeastWeight0, h2, rWeight_sp hn1 hn2]; rfl)
    have HD := Lib.hid (implSparse_run n w hn1 hn2)
    have HLN := Lib.hid (spd_len42 hn1 hn2)
    obtain ⟨L, hL⟩ : ∃ L, L = spd n := ⟨_, rfl⟩
    rw [← hL] at E0 HD HLN
    clear h2 hL
    go_enter Try.func27, Try.ntmps27
    go_wp2_with fail
    refine H2.out.mono ?_
    rintro e w' ⟨rfl, rfl⟩
    go_wp2_with fail
    refine HD.out.mono ?_
    rintro e w1 ⟨v, rfl, ho, hB⟩
    have HW := Lib.hid (implWt_eq v L w1 (RowAt.of_owns ho) (by have := HLN.out; omega))
    obtain ⟨av, cv, e2, _, _⟩ := owns_form ho
    clear ho
    subst e2
    go_wp2_with fail
    refine HW.out.mono ?_
    rintro e w2 ⟨rfl, rfl⟩
    go_wp2_with fail
    go_ret
    exact ⟨by rw [E0.out]; rfl, hB⟩

set_option maxHeartbeats 1000000 in
theorem implStepsOf_any (n : Int) (w : World) (hn : in64 n) :
    Calls Try.prog 30 #[.int .i64 n] w fun e w' => e = .returned (.int .i64 (rStepsOf0 n)) ∧ Below w.heap.size w w' := by
  cases h2 : inB n 0 1000000000000
  · have E0 := Lib.hid (show rStepsOf0 n = -1 by rw [rStepsOf0, h2]; rfl)
    have hcase : n < 0 ∨ (¬ n < 0 ∧ 1000000000000 < n) := by
      simp only [inB, Bool.and_eq_false_iff, decide_eq_false_iff_not] at h2
      omega
    clear h2 hn
    rcases hcase with hc | ⟨hc, hc'⟩
    all_goals
      go_enter Try.func30, Try.ntmps30
      go_wp2_with fail
      go_ret
      exact ⟨by rw [E0.out]; rfl, Below.refl _ _⟩
  · obtain ⟨hn1, hn2⟩ := inB_yes h2
    have HD := Lib.hid (implSparse_run n w (by omega) hn2)
    have HLN := Lib.hid (spd_len42 (show -1000000000000 ≤ n by omega) hn2)
    have HZ := Lib.hid (fun h : (spd n).length = 0 => show rStepsOf0 n = 0 by
      have e : n = 0 := by have := sv_sp n; rw [List.eq_nil_of_length_eq_zero h] at this; exact this.symm
      rw [rStepsOf0, h2, if_pos rfl, if_pos e])
    have HY := Lib.hid (fun h : (spd n).length ≠ 0 => show rStepsOf0 n = ((spd n).length : Int) + wt (spd n) - 2 by
      have e : n ≠ 0 := fun e => by rw [e, spd_zero] at h; simp at h
      rw [rStepsOf0, h2, if_pos rfl, if_neg e]; rfl)
    have HRW := Lib.hid (rWeight_sp (show -1000000000000 ≤ n by omega) hn2)
    obtain ⟨L, hL⟩ : ∃ L, L = spd n := ⟨_, rfl⟩
    rw [← hL] at HZ HY HD HLN HRW
    clear h2 hL hn
    go_enter Try.func30, Try.ntmps30
    go_wp2_with fail
    refine HD.out.mono ?_
    rintro e w1 ⟨v, rfl, ho, hB⟩
    have HW := Lib.hid (implWt_eq v L w1 (RowAt.of_owns ho) (by have := HLN.out; omega))
    rw [HRW.out] at HW
    obtain ⟨av, cv, e2, hc1, hc2⟩ := owns_form ho
    clear ho
    subst e2
    unfold maxLen at hc2
    have hLl := HLN.out
    have hwl := wt_le L
    obtain ⟨k, hk⟩ : ∃ k, k = L.length := ⟨_, rfl⟩
    obtain ⟨q, hq⟩ : ∃ q, q = wt L := ⟨_, rfl⟩
    rw [← hk] at HZ HY HW hLl hc1 hwl ⊢
    rw [← hq] at HW HY hwl
    clear hk hq HLN HRW
    by_cases h0 : k = 0
    · have E0 := Lib.hid (HZ.out h0)
      have hb : ((k : Int) == 0) = true := by simp [h0]
      clear h0 HZ HY
      go_wp2_with fail
      go_ret
      exact ⟨by rw [E0.out]; rfl, hB⟩
    · have E0 := Lib.hid (HY.out h0)
      have hb : ((k : Int) == 0) = false := by simp [h0]
      clear h0 HZ HY
      go_wp2_with fail
      refine HW.out.mono ?_
      rintro e w2 ⟨rfl, rfl⟩
      go_wp2_with fail
      go_ret
      exact ⟨by rw [E0.out]; go_num, hB⟩

end Go.Proofs.Ytiemhhkoegkleaa
