/- Subsets: the model's masks and other subsets. -/
import Derived.Test.YtjdijmccpihkhaaSbRank
set_option linter.unusedVariables false
set_option linter.unusedSimpArgs false
set_option maxRecDepth 100000
namespace Go.Proofs.Ytjdijmccpihkhaa
open Go.ChangeShapes Go.WideShapes Go.ChangeAt Go.RowKit

theorem pow_sm {x : Nat} (h : x ≤ 19) : 1 ≤ 2 ^ x ∧ 2 ^ x ≤ 524288 := by
  refine ⟨Nat.one_le_two_pow, ?_⟩
  have : 2 ^ x ≤ 2 ^ 19 := Nat.pow_le_pow_right (by omega) h
  omega
theorem mk_small {l : List Int} (h : okS l 20 = true) : mk l < 1048576 := by
  have := mk_lt (m := 20) h
  omega

set_option maxHeartbeats 2000000 in
theorem specMask_any (v : Value) (l : List Int) (w : World) (hr : RowAt w v (intsOf l)) (hl : l.length ≤ 1048577) :
    Calls Try.prog 33 #[v] w fun e w' => e = .returned (.int .i64 (rMaskOf0 l)) ∧ w = w' := by
  have HS := Lib.hid (specSb_any v l 20 w hr hl)
  obtain ⟨a, cap, rfl, h1, h2, h3⟩ := hr.ints
  unfold maxLen at h2
  clear hr
  cases h : okS l 20
  · rw [h] at HS
    have E0 := Lib.hid (show rMaskOf0 l = -1 by rw [rMaskOf0, h]; rfl)
    clear h h3
    go_enter Try.func33, Try.ntmps33
    go_wp2_with fail
    refine HS.out.mono ?_
    rintro e w' ⟨rfl, rfl⟩
    go_wp2_with fail
    go_ret
    exact ⟨by rw [E0.out]; rfl, rfl⟩
  · rw [h] at HS
    have E0 := Lib.hid (show rMaskOf0 l = mk l by rw [rMaskOf0, h]; rfl)
    have HSM := Lib.hid (fun k => mk_small (okS_take h k))
    have HX := Lib.hid (okS_yes h).2.1
    have hl20 := okS_len (m := 20) h
    clear h
    go_enter Try.func33, Try.ntmps33
    go_wp2_with fail
    refine HS.out.mono ?_
    rintro e w' ⟨rfl, rfl⟩
    go_wp2_with fail
    go_loop [3, 11] (fun s i => ∃ k : Nat, k ≤ l.length ∧ i = .int .i64 k ∧ s = .int .i64 (mk (l.take k))) (fun _ i => l.length - (intOf i).toNat)
    case atStart => exact ⟨0, Nat.zero_le _, rfl, by simp [mk]⟩
    case round =>
      obtain ⟨k, hk, rfl, rfl⟩ := hrel
      have hs := HSM.out k
      by_cases hlt : k < l.length
      · obtain ⟨b', off, rfl, hbb, hcell⟩ := h3.resolve_left (fun e => by rw [e] at hlt; simp at hlt)
        have hc := hcell k hlt
        obtain ⟨x0, x1⟩ := HX.out _ (List.getElem_mem hlt)
        have hs2 := HSM.out (k + 1)
        have hsn := mk_snoc (l.take k) l[k]
        rw [← List.take_succ_eq_append_getElem hlt] at hsn
        obtain ⟨x, hx⟩ : ∃ x : Nat, l[k] = x := ⟨l[k].toNat, by omega⟩
        rw [hx] at hc hsn x1
        rw [Int.toNat_natCast] at hsn
        obtain ⟨p1, p2⟩ := pow_sm (x := x) (by omega)
        have hpc : ((2 ^ x : Nat) : Int) = (2 : Int) ^ x := Int.natCast_pow _ _
        obtain ⟨Q, hQ⟩ : ∃ Q, Q = 2 ^ x := ⟨_, rfl⟩
        rw [← hQ] at hsn p1 p2 hpc
        have s2 : IntKind.i64.wrap ((2 : Int) ^ x) = Q := by rw [IntKind.wrap_i64, ← hpc]; omega
        obtain ⟨S, hS⟩ : ∃ S, S = mk (l.take k) := ⟨_, rfl⟩
        rw [← hS] at hsn hs ⊢
        have HSN := Lib.hid hsn
        have hB2 : S + Q < 1048576 := by omega
        clear h3 hcell hx hQ hS hsn hs2 x0 hpc
        go_wp2_with fail
        go_round
        case rel => exact ⟨k + 1, hlt, by go_num, by rw [HSN.out]; go_num⟩
        case measure => simp [intOf]; omega
      · have hkl : k = l.length := by omega
        have HE := Lib.hid (show mk (l.take k) = mk l by rw [hkl, List.take_length])
        obtain ⟨S, hS⟩ : ∃ S, S = mk (l.take k) := ⟨_, rfl⟩
        rw [← hS] at HE hs ⊢
        have hn9 : ¬ (k : Int) < l.length := by omega
        clear h3 hS
        go_wp2_with fail
        go_ret
        exact ⟨by rw [E0.out, ← HE.out]; rfl, rfl⟩

theorem specMaskOf_any (v : Value) (l : List Int) (w : World) (hr : RowAt w v (intsOf l)) (hl : l.length ≤ 1048576) (hi : ∀ n ∈ l, in64 n) :
    Calls Try.prog 33 #[v] w fun e w' => e = .returned (.int .i64 (rMaskOf0 l)) ∧ Below w.heap.size w w' := by
  refine (specMask_any v l w hr (by omega)).mono ?_
  rintro e w' ⟨rfl, rfl⟩
  exact ⟨rfl, Below.refl _ _⟩

/-! ### the subset of a mask -/
def soJ (n j : Nat) : List Int := (iot j).filter fun x => decide (n / 2 ^ x.toNat % 2 = 1)
theorem iot_succ (j : Nat) : iot (j + 1) = iot j ++ [(j : Int)] := by simp [iot, List.range_succ]
theorem soJ_yes {n j : Nat} (h : n / 2 ^ j % 2 = 1) : soJ n (j + 1) = soJ n j ++ [(j : Int)] := by
  unfold soJ
  rw [iot_succ, List.filter_append]
  congr 1
  simp [h]
theorem soJ_no {n j : Nat} (h : n / 2 ^ j % 2 ≠ 1) : soJ n (j + 1) = soJ n j := by
  unfold soJ
  rw [iot_succ, List.filter_append]
  have : List.filter (fun x : Int => decide (n / 2 ^ x.toNat % 2 = 1)) [(j : Int)] = [] := by
    rw [List.filter_cons_of_neg (by simpa using h)]; rfl
  rw [this, List.append_nil]
theorem soJ_len (n j : Nat) : (soJ n j).length ≤ j := by
  have := List.length_filter_le (fun x : Int => decide (n / 2 ^ x.toNat % 2 = 1)) (iot j)
  rw [show (iot j).length = j by simp [iot]] at this
  exact this
theorem and_pow2 (m x : Nat) : m &&& 2 ^ x = (m.testBit x).toNat * 2 ^ x := by
  refine Nat.eq_of_testBit_eq (fun i => ?_)
  rw [Nat.testBit_and, Nat.testBit_two_pow]
  by_cases h : x = i
  · subst h
    cases m.testBit x <;> simp [Nat.testBit_two_pow]
  · rw [decide_eq_false h, Bool.and_false]
    cases m.testBit x <;> simp [Nat.testBit_two_pow, h]
theorem and_bit {m x : Nat} (hm : m < 1048576) (hx : x ≤ 19) : bits .and .i64 (m : Int) ((2 ^ x : Nat) : Int) = if m / 2 ^ x % 2 = 1 then ((2 ^ x : Nat) : Int) else 0 := by
  obtain ⟨p1, p2⟩ := pow_sm hx
  have e1 : (BitVec.ofInt 64 (m : Int)).toNat = m := by rw [BitVec.toNat_ofInt]; omega
  have e2 : (BitVec.ofInt 64 ((2 ^ x : Nat) : Int)).toNat = 2 ^ x := by rw [BitVec.toNat_ofInt]; omega
  have key : (BitVec.ofInt 64 (m : Int) &&& BitVec.ofInt 64 ((2 ^ x : Nat) : Int)).toNat = (m.testBit x).toNat * 2 ^ x := by
    rw [BitVec.toNat_and, e1, e2, and_pow2]
  show IntKind.i64.wrap ((BitVec.ofInt 64 (m : Int) &&& BitVec.ofInt 64 ((2 ^ x : Nat) : Int)).toNat : Nat) = _
  rw [key, IntKind.wrap_i64, Nat.testBit_eq_decide_div_mod_eq]
  by_cases h : m / 2 ^ x % 2 = 1
  · rw [decide_eq_true h, if_pos h]
    simp only [Bool.toNat_true, Nat.one_mul]
    omega
  · rw [decide_eq_false h, if_neg h]; simp

set_option maxHeartbeats 4000000 in
theorem specSubsetOf_any (m : Int) (w : World) (hm : in64 m) :
    Calls Try.prog 34 #[.int .i64 m] w fun e w' => ∃ v', e = .returned v' ∧ w'.ownsRow w.heap.size 3 1 v' (rSubsetOf0 m).length (intsOf (rSubsetOf0 m)) ∧ Below w.heap.size w w' := by
  obtain ⟨i0, hi, hz0, hz1, hz2⟩ := info_parts infoInt
  have HS := Lib.hid (fun W => sIn_any m 0 1048575 W)
  cases h : inB m 0 1048575
  · rw [h] at HS
    have HNO := Lib.hid (show ∃ v', Ending.returned (.slice none 0 0) = .returned v' ∧ w.ownsRow w.heap.size 3 1 v' (rSubsetOf0 m).length (intsOf (rSubsetOf0 m)) ∧ Below w.heap.size w w from by
      refine ⟨_, rfl, ?_, Below.refl _ _⟩
      rw [rSubsetOf0, h]; exact World.ownsRow_nil _ _ _ _)
    clear h
    go_enter Try.func34, Try.ntmps34
    go_wp2_with fail
    refine (HS.out _).mono ?_
    rintro e w' ⟨rfl, rfl⟩
    go_wp2_with fail
    go_ret
    exact HNO.out
  · rw [h] at HS
    obtain ⟨m0, m1⟩ := inB_yes h
    obtain ⟨M, rfl⟩ : ∃ M : Nat, m = M := ⟨m.toNat, by omega⟩
    have E0 := Lib.hid (show rSubsetOf0 M = soJ M 20 by rw [rSubsetOf0, h, Int.toNat_natCast]; rfl)
    have HBIT := Lib.hid (fun (x : Nat) (hx : x ≤ 19) => and_bit (m := M) (x := x) (by omega) hx)
    clear h hm
    go_enter Try.func34, Try.ntmps34
    go_wp2_with fail
    refine (HS.out _).mono ?_
    rintro e w' ⟨rfl, rfl⟩
    go_wp2_with fail
    go_loopw [3, 4] (fun v i wr => ∃ j : Nat, j ≤ 20 ∧ i = .int .i64 j ∧ wr.ownsRow w.heap.size 3 1 v (soJ M j).length (intsOf (soJ M j)) ∧ Below w.heap.size w wr) (fun _ i _ => 20 - (intOf i).toNat)
    case atStart =>
      refine ⟨0, by omega, rfl, ?_, (Below.refl _ _).alloc (Nat.le_refl _) _⟩
      exact World.ownsRow_lit w #[] 0 (Nat.le_refl _) (by decide) rfl
    case round =>
      obtain ⟨j, hj, rfl, hown, hB⟩ := hrel
      have hsz := hB.size
      by_cases hlt : j < 20
      · have hbit := HBIT.out j (by omega)
        obtain ⟨p1, p2⟩ := pow_sm (x := j) (by omega)
        have hpc : ((2 ^ j : Nat) : Int) = (2 : Int) ^ j := Int.natCast_pow _ _
        have hsl := soJ_len M j
        by_cases hb : M / 2 ^ j % 2 = 1
        · rw [if_pos hb] at hbit
          have HN := Lib.hid (soJ_yes hb)
          obtain ⟨Q, hQ⟩ : ∃ Q, Q = 2 ^ j := ⟨_, rfl⟩
          rw [← hQ] at p1 p2 hpc hbit
          have s2 : IntKind.i64.wrap ((2 : Int) ^ j) = Q := by rw [IntKind.wrap_i64, ← hpc]; omega
          have hq0 : ((Q : Int) == 0) = false := by simp; omega
          have hq1 : ((Q : Int) != 0) = true := by simp; omega
          obtain ⟨L, hL⟩ : ∃ L, L = soJ M j := ⟨_, rfl⟩
          rw [← hL] at hown HN hsl
          clear hb hQ hpc hL
          go_wp2_with (at_builtin; refine wpList_append_own_at _ rfl _ _ 23 rfl w.heap.size 3 i0 (.int .i64 0) 1 8 Try.underlying23 hi hz0 hz1 hz2 rfl (by decide) _ _ _ rfl (hown.alloc _) ⟨wr.heap.size, 0, none⟩ 1 1 [.int .i64 j] rfl rfl (one_cell _ _ _) (by intro u hu; simp at hu; subst hu; rfl) (by unfold maxLen; omega) (by omega) (by simp; omega) ?_)
          intro v' w1 hown' hgrow _ _
          have hB1 := (hB.alloc hsz _).grown hgrow (by simp; omega) (fun j hj => (hown.lt j hj).1)
          have HO := Lib.hid (show w1.ownsRow w.heap.size 3 1 v' (L ++ [(j : Int)]).length (intsOf (L ++ [(j : Int)])) by simpa [intsOf] using hown')
          clear hown' hgrow hown
          go_wp2_with fail
          go_roundw
          case rel => exact ⟨j + 1, by omega, by go_num, by rw [HN.out]; exact HO.out, hB1⟩
          case measure => simp [intOf]; omega
        · rw [if_neg hb] at hbit
          have HN := Lib.hid (soJ_no hb)
          obtain ⟨Q, hQ⟩ : ∃ Q, Q = 2 ^ j := ⟨_, rfl⟩
          rw [← hQ] at p1 p2 hpc hbit
          have s2 : IntKind.i64.wrap ((2 : Int) ^ j) = Q := by rw [IntKind.wrap_i64, ← hpc]; omega
          have HO := Lib.hid hown
          clear hb hQ hpc hown
          go_wp2_with fail
          go_roundw
          case rel => exact ⟨j + 1, by omega, by go_num, by rw [HN.out]; exact HO.out, hB⟩
          case measure => simp [intOf]; omega
      · have hjn : j = 20 := by omega
        subst hjn
        have HO := Lib.hid (show wr.ownsRow w.heap.size 3 1 _ (rSubsetOf0 M).length (intsOf (rSubsetOf0 M)) by rw [E0.out]; exact hown)
        obtain ⟨av, cv, e3, _, _⟩ := owns_form hown
        obtain ⟨ln, hln⟩ : ∃ ln, ln = (soJ M 20).length := ⟨_, rfl⟩
        rw [← hln] at e3
        subst e3
        clear hown hln
        go_wp2_with fail
        go_ret
        exact ⟨_, rfl, HO.out, hB⟩

/-! ### the other subset -/
structure OtS (l : List Int) (j c : Nat) : Prop where
  le : c ≤ l.length
  lt : ∀ i (h : i < l.length), i < c → l[i] < j
  ge : ∀ i (h : i < l.length), c ≤ i → (j : Int) ≤ l[i]
theorem otS_start {l : List Int} (h : ∀ x ∈ l, 0 ≤ x) : OtS l 0 0 := ⟨Nat.zero_le _, fun i _ h => by omega, fun i hi _ => by simpa using h _ (List.getElem_mem hi)⟩
theorem otS_hit {l : List Int} {j c : Nat} (ha : Asc l) (h : OtS l j c) (hc : c < l.length) (e : l[c] = j) : OtS l (j + 1) (c + 1) ∧ (j : Int) ∈ l := by
  refine ⟨⟨by omega, fun i hi h1 => ?_, fun i hi h1 => ?_⟩, by rw [← e]; exact List.getElem_mem hc⟩
  · rcases Nat.lt_or_ge i c with h2 | h2
    · have := h.lt i hi h2; omega
    · have : i = c := by omega
      subst this; omega
  · have := List.pairwise_iff_getElem.1 ha c i hc hi (by omega)
    omega
theorem otS_miss {l : List Int} {j c : Nat} (ha : Asc l) (h : OtS l j c) (hc : ∀ h : c < l.length, l[c] ≠ j) : OtS l (j + 1) c ∧ (j : Int) ∉ l := by
  have hge : ∀ i (hi : i < l.length), c ≤ i → (j : Int) + 1 ≤ l[i] := fun i hi h1 => by
    have h2 := h.ge c (by omega) (Nat.le_refl _)
    have h3 := hc (by omega)
    rcases Nat.lt_or_ge c i with h4 | h4
    · have := List.pairwise_iff_getElem.1 ha c i (by omega) hi h4
      omega
    · have : i = c := by omega
      subst this; omega
  refine ⟨⟨h.le, fun i hi h1 => by have := h.lt i hi h1; omega, fun i hi h1 => by have := hge i hi h1; omega⟩, fun hm => ?_⟩
  obtain ⟨i, hi, e⟩ := List.getElem_of_mem hm
  rcases Nat.lt_or_ge i c with h4 | h4
  · have := h.lt i hi h4; omega
  · have := hge i hi h4; omega
theorem oth_yes {l : List Int} {j : Nat} (h : (j : Int) ∉ l) : oth l (j + 1) = oth l j ++ [(j : Int)] := by
  unfold oth
  rw [iot_succ, List.filter_append]
  congr 1
  simp [h]
theorem oth_no {l : List Int} {j : Nat} (h : (j : Int) ∈ l) : oth l (j + 1) = oth l j := by
  unfold oth
  rw [iot_succ, List.filter_append]
  simp [h]
theorem oth_small (l : List Int) (j : Nat) : (oth l j).length ≤ j := by
  have := List.length_filter_le (fun x : Int => decide (x ∉ l)) (iot j)
  rw [show (iot j).length = j by simp [iot]] at this
  exact this

set_option maxHeartbeats 4000000 in
theorem specOtherSubset_any (v : Value) (l : List Int) (m : Int) (w : World) (hr : RowAt w v (intsOf l)) (hl : l.length ≤ 1048576) (hi : ∀ n ∈ l, in64 n) (hm : in64 m) :
    Calls Try.prog 35 #[v, .int .i64 m] w fun e w' => ∃ v', e = .returned (.tuple #[v', .bool (rOtherSubset1 l m)]) ∧ w'.ownsRow w.heap.size 3 1 v' (rOtherSubset0 l m).length (intsOf (rOtherSubset0 l m)) ∧ Below w.heap.size w w' := by
  obtain ⟨i0, hif, hz0, hz1, hz2⟩ := info_parts infoInt
  have HS := Lib.hid (specSb_any v l m w hr (by omega))
  obtain ⟨a, cap, rfl, h1, h2, h3⟩ := hr.ints
  unfold maxLen at h2
  clear hr hi
  cases h : okS l m
  · rw [h] at HS
    have HNO := Lib.hid (show ∃ v', Ending.returned (.tuple #[.slice none 0 0, .bool false]) = .returned (.tuple #[v', .bool (rOtherSubset1 l m)]) ∧ w.ownsRow w.heap.size 3 1 v' (rOtherSubset0 l m).length (intsOf (rOtherSubset0 l m)) ∧ Below w.heap.size w w from by
      refine ⟨_, by rw [rOtherSubset1, h], ?_, Below.refl _ _⟩
      rw [rOtherSubset0, h]; exact World.ownsRow_nil _ _ _ _)
    clear h h3
    go_enter Try.func35, Try.ntmps35
    go_wp2_with fail
    refine HS.out.mono ?_
    rintro e w' ⟨rfl, rfl⟩
    go_wp2_with fail
    go_ret2
    exact HNO.out
  · rw [h] at HS
    obtain ⟨⟨m0, m20⟩, hx, ha⟩ := okS_yes h
    obtain ⟨M, rfl⟩ : ∃ M : Nat, m = M := ⟨m.toNat, by omega⟩
    have hlM := okS_len h
    have E0 := Lib.hid (show rOtherSubset0 l M = oth l M by rw [rOtherSubset0, h, Int.toNat_natCast]; rfl)
    have E1 := Lib.hid (show rOtherSubset1 l M = true from h)
    have HA := Lib.hid ha
    have HST := Lib.hid (otS_start (l := l) (fun x hx' => (hx x hx').1))
    clear h hx ha hm
    go_enter Try.func35, Try.ntmps35
    go_wp2_with fail
    refine HS.out.mono ?_
    rintro e w' ⟨rfl, rfl⟩
    go_wp2_with fail
    go_loopw [6, 7, 8] (fun v i x wr => ∃ j c : Nat, j ≤ M ∧ x = .int .i64 j ∧ i = .int .i64 c ∧ OtS l j c ∧ wr.ownsRow w.heap.size 3 1 v (oth l j).length (intsOf (oth l j)) ∧ Below w.heap.size w wr) (fun _ _ x _ => M - (intOf x).toNat)
    case atStart =>
      refine ⟨0, 0, Nat.zero_le _, rfl, rfl, HST.out, ?_, (Below.refl _ _).alloc (Nat.le_refl _) _⟩
      exact World.ownsRow_lit w #[] 0 (Nat.le_refl _) (by decide) rfl
    case round =>
      obtain ⟨j, c, hj, rfl, rfl, hot, hown, hB⟩ := hrel
      have hsz := hB.size
      have HOT := Lib.hid hot
      have hcl := hot.le
      have hos := oth_small l j
      clear hot
      by_cases hlt : j < M
      · by_cases hc : c < l.length
        · obtain ⟨b', off, rfl, hbb, hcell⟩ := h3.resolve_left (fun e => by rw [e] at hc; simp at hc)
          have hcc : wr.cell? ⟨b', off + c, none⟩ = some (.int .i64 l[c]) := by rw [hB.cell (p := ⟨b', off + c, none⟩) hbb]; exact hcell c hc
          by_cases he : l[c] = j
          · have HN := Lib.hid (otS_hit HA.out HOT.out hc he)
            have HON := Lib.hid (oth_no HN.out.2)
            rw [he] at hcc
            have HO := Lib.hid hown
            clear h3 hcell he hown
            go_wp2_with fail
            go_roundw
            case rel => exact ⟨j + 1, c + 1, hlt, by go_num, by go_num, HN.out.1, by rw [HON.out]; exact HO.out, hB⟩
            case measure => simp [intOf]; omega
          · have HN := Lib.hid (otS_miss HA.out HOT.out (fun _ => he))
            have HON := Lib.hid (oth_yes HN.out.2)
            obtain ⟨x, hxe⟩ : ∃ x, x = l[c] := ⟨_, rfl⟩
            rw [← hxe] at hcc he
            have heb : (x == (j : Int)) = false := by simpa using he
            obtain ⟨L, hL⟩ : ∃ L, L = oth l j := ⟨_, rfl⟩
            rw [← hL] at hown HON hos
            clear h3 hcell he hxe hL
            go_wp2_with (at_builtin; refine wpList_append_own_at _ rfl _ _ 23 rfl w.heap.size 3 i0 (.int .i64 0) 1 8 Try.underlying23 hif hz0 hz1 hz2 rfl (by decide) _ _ _ rfl (hown.alloc _) ⟨wr.heap.size, 0, none⟩ 1 1 [.int .i64 j] rfl rfl (one_cell _ _ _) (by intro u hu; simp at hu; subst hu; rfl) (by unfold maxLen; omega) (by omega) (by simp; omega) ?_)
            intro v' w1 hown' hgrow _ _
            have hB1 := (hB.alloc hsz _).grown hgrow (by simp; omega) (fun j hj => (hown.lt j hj).1)
            have HO := Lib.hid (show w1.ownsRow w.heap.size 3 1 v' (L ++ [(j : Int)]).length (intsOf (L ++ [(j : Int)])) by simpa [intsOf] using hown')
            clear hown' hgrow hown
            go_wp2_with fail
            go_roundw
            case rel => exact ⟨j + 1, c, hlt, by go_num, rfl, HN.out.1, by rw [HON.out]; exact HO.out, hB1⟩
            case measure => simp [intOf]; omega
        · have HN := Lib.hid (otS_miss HA.out HOT.out (fun h => absurd h hc))
          have HON := Lib.hid (oth_yes HN.out.2)
          have hn9 : ¬ (c : Int) < l.length := by omega
          obtain ⟨L, hL⟩ : ∃ L, L = oth l j := ⟨_, rfl⟩
          rw [← hL] at hown HON hos
          clear h3 hL
          go_wp2_with (at_builtin; refine wpList_append_own_at _ rfl _ _ 23 rfl w.heap.size 3 i0 (.int .i64 0) 1 8 Try.underlying23 hif hz0 hz1 hz2 rfl (by decide) _ _ _ rfl (hown.alloc _) ⟨wr.heap.size, 0, none⟩ 1 1 [.int .i64 j] rfl rfl (one_cell _ _ _) (by intro u hu; simp at hu; subst hu; rfl) (by unfold maxLen; omega) (by omega) (by simp; omega) ?_)
          intro v' w1 hown' hgrow _ _
          have hB1 := (hB.alloc hsz _).grown hgrow (by simp; omega) (fun j hj => (hown.lt j hj).1)
          have HO := Lib.hid (show w1.ownsRow w.heap.size 3 1 v' (L ++ [(j : Int)]).length (intsOf (L ++ [(j : Int)])) by simpa [intsOf] using hown')
          clear hown' hgrow hown
          go_wp2_with fail
          go_roundw
          case rel => exact ⟨j + 1, c, hlt, by go_num, rfl, HN.out.1, by rw [HON.out]; exact HO.out, hB1⟩
          case measure => simp [intOf]; omega
      · have hjn : j = M := by omega
        have HO := Lib.hid (show wr.ownsRow w.heap.size 3 1 _ (rOtherSubset0 l M).length (intsOf (rOtherSubset0 l M)) by rw [E0.out, ← hjn]; exact hown)
        obtain ⟨av, cv, e3, _, _⟩ := owns_form hown
        obtain ⟨ln, hln⟩ : ∃ ln, ln = (oth l j).length := ⟨_, rfl⟩
        rw [← hln] at e3
        subst e3
        have hn9 : ¬ (j : Int) < M := by omega
        clear hown hln h3 hjn
        go_wp2_with fail
        go_ret2
        exact ⟨_, by rw [E1.out]; rfl, HO.out, hB⟩

end Go.Proofs.Ytjdijmccpihkhaa
