/- Fibonacci places: the model's places, tests and values. -/
import Derived.Test.YtkimojjhmllnfaaRow
import Derived.Test.YtkimojjhmllnfaaDgSpec
import Derived.Test.YtkimojjhmllnfaaFbW
import Derived.Test.YtkimojjhmllnfaaMpNext
set_option linter.unusedVariables false
set_option linter.unusedSimpArgs false
set_option maxRecDepth 100000
namespace Go.Proofs.Ytkimojjhmllnfaa
open Go.ChangeShapes Go.WideShapes Go.ChangeAt Go.RowKit

/-- two digits x that follow each other, as a test -/
def prs (x : Int) : List Int → Bool
  | a :: b :: t => (a == x && b == x) || prs x (b :: t)
  | _ => false
def okF (l : List Int) : Bool := decide (l.length ≤ 58) && (decide (∀ d ∈ l, 0 ≤ d ∧ d ≤ 1) && decide (l = [] ∨ l.getLast? ≠ some 0))
/-- sparse and dense digits, the least place first -/
def sp (n : Nat) : List Int := (trT (gs 58 n)).reverse
def dn (n : Nat) : List Int := (trT (gd 58 n)).reverse
def rFibPlace0 (k : Int) : Int := if inB k 0 58 then fp k.toNat else 0
def rFibOk0 (l : List Int) : Bool := okF l
def fvOk (l : List Int) : Bool := okF l && decide (vL 0 l ≤ 1000000000000)
def rFibValue0 (l : List Int) : Int := if fvOk l then vL 0 l else 0
def rFibValue1 (l : List Int) : Bool := fvOk l
def rSparseFib0 (n : Int) : List Int := if inB n 0 500000000000 then sp n.toNat else []
def rDenseFib0 (n : Int) : List Int := if inB n 0 500000000000 then dn n.toNat else []
def rIsSparseFib0 (l : List Int) : Bool := okF l && !prs 1 l
def rIsDenseFib0 (l : List Int) : Bool := okF l && !prs 0 l

theorem fp_tops : fp 29 = 1346269 ∧ fp 50 = 32951280099 ∧ fp 56 = 591286729879 ∧ fp 60 = 4052739537881 := by
  have h : ∀ k : Nat, fp (k + 2) = fp k + fp (k + 1) := fp_s
  have f0 : fp 0 = 1 := rfl
  have f1 : fp 1 = 2 := rfl
  have f2 : fp 2 = 3 := by rw [h 0, f0, f1]
  have f3 : fp 3 = 5 := by rw [h 1, f1, f2]
  have f4 : fp 4 = 8 := by rw [h 2, f2, f3]
  have f5 : fp 5 = 13 := by rw [h 3, f3, f4]
  have f6 : fp 6 = 21 := by rw [h 4, f4, f5]
  have f7 : fp 7 = 34 := by rw [h 5, f5, f6]
  have f8 : fp 8 = 55 := by rw [h 6, f6, f7]
  have f9 : fp 9 = 89 := by rw [h 7, f7, f8]
  have f10 : fp 10 = 144 := by rw [h 8, f8, f9]
  have f11 : fp 11 = 233 := by rw [h 9, f9, f10]
  have f12 : fp 12 = 377 := by rw [h 10, f10, f11]
  have f13 : fp 13 = 610 := by rw [h 11, f11, f12]
  have f14 : fp 14 = 987 := by rw [h 12, f12, f13]
  have f15 : fp 15 = 1597 := by rw [h 13, f13, f14]
  have f16 : fp 16 = 2584 := by rw [h 14, f14, f15]
  have f17 : fp 17 = 4181 := by rw [h 15, f15, f16]
  have f18 : fp 18 = 6765 := by rw [h 16, f16, f17]
  have f19 : fp 19 = 10946 := by rw [h 17, f17, f18]
  have f20 : fp 20 = 17711 := by rw [h 18, f18, f19]
  have f21 : fp 21 = 28657 := by rw [h 19, f19, f20]
  have f22 : fp 22 = 46368 := by rw [h 20, f20, f21]
  have f23 : fp 23 = 75025 := by rw [h 21, f21, f22]
  have f24 : fp 24 = 121393 := by rw [h 22, f22, f23]
  have f25 : fp 25 = 196418 := by rw [h 23, f23, f24]
  have f26 : fp 26 = 317811 := by rw [h 24, f24, f25]
  have f27 : fp 27 = 514229 := by rw [h 25, f25, f26]
  have f28 : fp 28 = 832040 := by rw [h 26, f26, f27]
  have f29 : fp 29 = 1346269 := by rw [h 27, f27, f28]
  have f30 : fp 30 = 2178309 := by rw [h 28, f28, f29]
  have f31 : fp 31 = 3524578 := by rw [h 29, f29, f30]
  have f32 : fp 32 = 5702887 := by rw [h 30, f30, f31]
  have f33 : fp 33 = 9227465 := by rw [h 31, f31, f32]
  have f34 : fp 34 = 14930352 := by rw [h 32, f32, f33]
  have f35 : fp 35 = 24157817 := by rw [h 33, f33, f34]
  have f36 : fp 36 = 39088169 := by rw [h 34, f34, f35]
  have f37 : fp 37 = 63245986 := by rw [h 35, f35, f36]
  have f38 : fp 38 = 102334155 := by rw [h 36, f36, f37]
  have f39 : fp 39 = 165580141 := by rw [h 37, f37, f38]
  have f40 : fp 40 = 267914296 := by rw [h 38, f38, f39]
  have f41 : fp 41 = 433494437 := by rw [h 39, f39, f40]
  have f42 : fp 42 = 701408733 := by rw [h 40, f40, f41]
  have f43 : fp 43 = 1134903170 := by rw [h 41, f41, f42]
  have f44 : fp 44 = 1836311903 := by rw [h 42, f42, f43]
  have f45 : fp 45 = 2971215073 := by rw [h 43, f43, f44]
  have f46 : fp 46 = 4807526976 := by rw [h 44, f44, f45]
  have f47 : fp 47 = 7778742049 := by rw [h 45, f45, f46]
  have f48 : fp 48 = 12586269025 := by rw [h 46, f46, f47]
  have f49 : fp 49 = 20365011074 := by rw [h 47, f47, f48]
  have f50 : fp 50 = 32951280099 := by rw [h 48, f48, f49]
  have f51 : fp 51 = 53316291173 := by rw [h 49, f49, f50]
  have f52 : fp 52 = 86267571272 := by rw [h 50, f50, f51]
  have f53 : fp 53 = 139583862445 := by rw [h 51, f51, f52]
  have f54 : fp 54 = 225851433717 := by rw [h 52, f52, f53]
  have f55 : fp 55 = 365435296162 := by rw [h 53, f53, f54]
  have f56 : fp 56 = 591286729879 := by rw [h 54, f54, f55]
  have f57 : fp 57 = 956722026041 := by rw [h 55, f55, f56]
  have f58 : fp 58 = 1548008755920 := by rw [h 56, f56, f57]
  have f59 : fp 59 = 2504730781961 := by rw [h 57, f57, f58]
  exact ⟨f29, f50, f56, by rw [h 58, f58, f59]⟩
theorem fp_56 : fp 56 = 591286729879 := fp_tops.2.2.1
theorem fp_50 : fp 50 = 32951280099 := fp_tops.2.1
theorem fp_29 : fp 29 = 1346269 := fp_tops.1
theorem fp_top : fp 60 = 4052739537881 := fp_tops.2.2.2
theorem fp_60 {k : Nat} (h : k ≤ 60) : fp k ≤ 4052739537881 := by rw [← fp_top]; exact fp_mono h

set_option maxHeartbeats 1000000 in
theorem specPlace_any (k : Nat) (w : World) (hk : k ≤ 58) :
    Calls Try.prog 32 #[.int .i64 k] w fun e w' => e = .returned (.int .i64 (fp k)) ∧ w = w' := by
  have HS := Lib.hid (fun W => sIn_any (k : Int) 0 58 W)
  rw [inB_of (by omega) (by omega)] at HS
  have HB := Lib.hid (fun (j : Nat) (hj : j ≤ 60) => fp_60 hj)
  go_enter Try.func32, Try.ntmps32
  go_wp2_with fail
  refine (HS.out _).mono ?_
  rintro e w' ⟨rfl, rfl⟩
  go_wp2_with fail
  go_loop [3, 4, 5] (fun a b i => ∃ j : Nat, j ≤ k ∧ i = .int .i64 j ∧ a = .int .i64 (fp j) ∧ b = .int .i64 (fp (j + 1))) (fun _ _ i => k - (intOf i).toNat)
  case atStart => exact ⟨0, Nat.zero_le _, rfl, rfl, rfl⟩
  case round =>
    obtain ⟨j, hj, rfl, rfl, rfl⟩ := hrel
    have b1 := HB.out j (by omega)
    have b2 := HB.out (j + 1) (by omega)
    by_cases hlt : j < k
    · have HN := Lib.hid (fp_s j)
      obtain ⟨A, hA⟩ : ∃ A, A = fp j := ⟨_, rfl⟩
      obtain ⟨B, hB⟩ : ∃ B, B = fp (j + 1) := ⟨_, rfl⟩
      rw [← hA, ← hB] at HN
      rw [← hA] at b1
      rw [← hB] at b2
      rw [← hA, ← hB]
      have HBB := Lib.hid hB
      clear hA hB
      go_wp2
      go_round
      case rel => exact ⟨j + 1, hlt, by go_num, by rw [HBB.out], by rw [HN.out]; go_num⟩
      case measure => simp [intOf]; omega
    · have hjk : j = k := by omega
      subst hjk
      obtain ⟨A, hA⟩ : ∃ A, A = fp j := ⟨_, rfl⟩
      rw [← hA] at b1 ⊢
      have hn9 : ¬ (j : Int) < j := by omega
      have HAE := Lib.hid hA
      clear hA
      go_wp2
      go_ret
      exact ⟨by rw [← HAE.out]; rfl, rfl⟩

theorem specFibPlace_any (k : Int) (w : World) (hk : in64 k) :
    Calls Try.prog 32 #[.int .i64 k] w fun e w' => e = .returned (.int .i64 (rFibPlace0 k)) ∧ Below w.heap.size w w' := by
  cases h : inB k 0 58
  · have HS := Lib.hid (fun W => sIn_any k 0 58 W)
    rw [h] at HS
    have E0 := Lib.hid (show rFibPlace0 k = 0 by rw [rFibPlace0, h]; rfl)
    clear h
    go_enter Try.func32, Try.ntmps32
    go_wp2_with fail
    refine (HS.out _).mono ?_
    rintro e w' ⟨rfl, rfl⟩
    go_wp2_with fail
    go_ret
    exact ⟨by rw [E0.out]; rfl, Below.refl _ _⟩
  · obtain ⟨k0, k1⟩ := inB_yes h
    obtain ⟨j, rfl⟩ : ∃ j : Nat, k = j := ⟨k.toNat, by omega⟩
    refine (specPlace_any j w (by omega)).mono ?_
    rintro e w' ⟨rfl, rfl⟩
    exact ⟨by rw [show rFibPlace0 j = fp j by rw [rFibPlace0, h]; rfl], Below.refl _ _⟩

/-! ### the test -/
theorem okF_yes {l : List Int} (h : okF l = true) : l.length ≤ 58 ∧ B01 l ∧ (l = [] ∨ l.getLast? ≠ some 0) := by
  simp only [okF, Bool.and_eq_true, decide_eq_true_eq] at h
  exact ⟨h.1, fun d hd => by have := h.2.1 d hd; omega, h.2.2⟩
theorem okF_long {l : List Int} (h : 58 < l.length) : okF l = false := by
  rw [okF, decide_eq_false (by omega)]; rfl
theorem okF_at {l : List Int} {k : Nat} (hk : k < l.length) (h : inB l[k] 0 1 = false) : okF l = false := by
  cases e : okF l
  · rfl
  · have := (okF_yes e).2.1 l[k] (List.getElem_mem hk)
    rcases this with h' | h' <;> simp [inB, h'] at h
theorem okF_end {l : List Int} (h1 : l.length ≤ 58) (h2 : ∀ d ∈ l, 0 ≤ d ∧ d ≤ 1) : okF l = decide (l = [] ∨ l.getLast? ≠ some 0) := by
  simp only [okF, decide_eq_true h1, decide_eq_true h2, Bool.true_and]

set_option maxHeartbeats 2000000 in
theorem specFb_any (v : Value) (l : List Int) (w : World) (hr : RowAt w v (intsOf l)) (hl : l.length ≤ 1048577) (hi : ∀ n ∈ l, in64 n) :
    Calls Try.prog 33 #[v] w fun e w' => e = .returned (.bool (okF l)) ∧ w = w' := by
  obtain ⟨a, cap, rfl, h1, h2, h3⟩ := hr.ints
  unfold maxLen at h2
  have HI := Lib.hid hi
  clear hi hr
  by_cases h58 : 58 < l.length
  · have HK := Lib.hid (okF_long h58)
    go_enter Try.func33, Try.ntmps33
    go_wp2
    go_ret
    exact ⟨ret_bool HK.out.symm, rfl⟩
  · have h58' : l.length ≤ 58 := by omega
    go_enter Try.func33, Try.ntmps33
    go_wp2
    go_loop [10] (fun i => ∃ k : Nat, k ≤ l.length ∧ i = .int .i64 k ∧ ∀ j (h : j < l.length), j < k → 0 ≤ l[j] ∧ l[j] ≤ 1) (fun i => l.length - (intOf i).toNat)
    case atStart => exact ⟨0, Nat.zero_le _, rfl, fun j h k => by omega⟩
    case round =>
      obtain ⟨k, hk, rfl, hall⟩ := hrel
      have HA := Lib.hid hall; clear hall
      by_cases hlt : k < l.length
      · obtain ⟨b', off, rfl, hbb, hcell⟩ := h3.resolve_left (fun e => by rw [e] at hlt; simp at hlt)
        have hc := hcell k hlt
        have hin := HI.out _ (List.getElem_mem hlt)
        clear h3 hcell
        have HS := Lib.hid (fun W => sIn_any l[k] 0 1 W)
        cases hd : inB l[k] 0 1
        · have HK := Lib.hid (okF_at hlt hd)
          rw [hd] at HS
          obtain ⟨x, hx⟩ : ∃ x, x = l[k] := ⟨_, rfl⟩
          rw [← hx] at hc HS
          clear hd hx hin
          go_wp2_with (go_at_call 58; refine (HS.out _).mono ?_; rintro e w' ⟨rfl, rfl⟩)
          go_ret
          exact ⟨ret_bool HK.out.symm, rfl⟩
        · have HD := Lib.hid (inB_yes hd)
          rw [hd] at HS
          have HN := Lib.hid (show ∀ j (h : j < l.length), j < k + 1 → 0 ≤ l[j] ∧ l[j] ≤ 1 from fun j h hj => by
            by_cases e : j = k
            · subst e; exact HD.out
            · exact HA.out j h (by omega))
          obtain ⟨x, hx⟩ : ∃ x, x = l[k] := ⟨_, rfl⟩
          rw [← hx] at hc HS
          clear hd hx hin
          go_wp2_with (go_at_call 58; refine (HS.out _).mono ?_; rintro e w' ⟨rfl, rfl⟩)
          go_round
          case rel => exact ⟨k + 1, hlt, by go_num, HN.out⟩
          case measure => simp [intOf]; omega
      · have HE := Lib.hid (okF_end h58' (fun d hd => by
          obtain ⟨j, hj, rfl⟩ := List.getElem_of_mem hd
          exact HA.out j hj (by omega)))
        by_cases h0 : l.length = 0
        · have hnil : l = [] := List.eq_nil_of_length_eq_zero h0
          have HF := Lib.hid (show okF l = true by rw [HE.out]; simp [hnil])
          have hz : ((l.length : Int) == 0) = true := by simp [hnil]
          clear h3 hnil h0
          go_wp2
          go_ret
          exact ⟨ret_bool HF.out.symm, rfl⟩
        · obtain ⟨m, hm⟩ : ∃ m, l.length = m + 1 := ⟨l.length - 1, by omega⟩
          obtain ⟨b', off, rfl, hbb, hcell⟩ := h3.resolve_left (fun e => by rw [e] at h0; simp at h0)
          have hml : m < l.length := by omega
          have hc := hcell m hml
          have HF := Lib.hid (show okF l = (l[m] != 0) by
            rw [HE.out]; exact last_test hm hml)
          have hz : ((m : Int) + 1 == 0) = false := beq_false_of_ne (by omega)
          have hpos : (1 : Int) ≤ l.length := by omega
          have hix : ((l.length : Int) - 1).toNat = m := by omega
          clear h3 hcell
          go_wp2
          go_ret
          exact ⟨ret_bool HF.out.symm, rfl⟩

theorem specFibOk_any (v : Value) (l : List Int) (w : World) (hr : RowAt w v (intsOf l)) (hl : l.length ≤ 1048576) (hi : ∀ n ∈ l, in64 n) :
    Calls Try.prog 33 #[v] w fun e w' => e = .returned (.bool (rFibOk0 l)) ∧ Below w.heap.size w w' := by
  refine (specFb_any v l w hr (by omega) hi).mono ?_
  rintro e w' ⟨rfl, rfl⟩
  exact ⟨rfl, Below.refl _ _⟩

/-! ### values -/
theorem vL_append : ∀ (a b : List Int) (k : Nat), vL k (a ++ b) = vL k a + vL (k + a.length) b
  | [], _, _ => by simp [vL]
  | x :: a, b, k => by
    rw [List.cons_append, vL, vL, vL_append a b (k + 1), List.length_cons]
    rw [show k + 1 + a.length = k + (a.length + 1) by omega]; omega
theorem vL_take {l : List Int} {k : Nat} (h : k < l.length) : vL 0 (l.take (k + 1)) = vL 0 (l.take k) + l[k].toNat * fp k := by
  rw [List.take_succ_eq_append_getElem h, vL_append, List.length_take, Nat.min_eq_left (by omega), Nat.zero_add]; simp [vL]
theorem vL_le : ∀ {l : List Int} (k : Nat), B01 l → vL k l + fp (k + 1) ≤ fp (k + l.length + 1)
  | [], k, _ => by simp [vL]
  | x :: t, k, h => by
    have ih := vL_le (k + 1) (b01_tail h)
    rw [List.length_cons, vL]
    rw [fp_s, show k + 1 + t.length + 1 = k + (t.length + 1) + 1 by omega] at ih
    rcases b01_head h with rfl | rfl
    · have := fp_pos k
      simp; omega
    · simp; omega

set_option maxHeartbeats 2000000 in
theorem specFv_any (v : Value) (l : List Int) (w : World) (hr : RowAt w v (intsOf l)) (hl : l.length ≤ 59) (hb : B01 l) :
    Calls Try.prog 59 #[v] w fun e w' => e = .returned (.int .i64 (vL 0 l)) ∧ w = w' := by
  obtain ⟨a, cap, rfl, h1, h2, h3⟩ := hr.ints
  unfold maxLen at h2
  have HB := Lib.hid (fun (j : Nat) (hj : j ≤ 60) => fp_60 hj)
  have HV := Lib.hid (fun (k : Nat) (hk : k ≤ l.length) => show vL 0 (l.take k) ≤ 4052739537881 by
    have h := vL_le (l := l.take k) 0 (fun d hd => hb d (List.mem_of_mem_take hd))
    rw [List.length_take, Nat.min_eq_left hk] at h
    have := fp_60 (show 0 + k + 1 ≤ 60 by omega)
    omega)
  have H01 := Lib.hid hb
  clear hr hb
  go_enter Try.func59, Try.ntmps59
  go_wp2
  go_loop [3, 4, 5, 11] (fun n a b i => ∃ k : Nat, k ≤ l.length ∧ i = .int .i64 k ∧ n = .int .i64 (vL 0 (l.take k)) ∧ a = .int .i64 (fp k) ∧ b = .int .i64 (fp (k + 1))) (fun _ _ _ i => l.length - (intOf i).toNat)
  case atStart => exact ⟨0, Nat.zero_le _, rfl, rfl, rfl, rfl⟩
  case round =>
    obtain ⟨k, hk, rfl, rfl, rfl, rfl⟩ := hrel
    have v1 := HV.out k hk
    by_cases hlt : k < l.length
    · obtain ⟨b', off, rfl, hbb, hcell⟩ := h3.resolve_left (fun e => by rw [e] at hlt; simp at hlt)
      have hc := hcell k hlt
      have hd := H01.out _ (List.getElem_mem hlt)
      have b1 := HB.out k (by omega)
      have b2 := HB.out (k + 1) (by omega)
      have v2 := HV.out (k + 1) hlt
      have hvt := vL_take hlt
      have HN := Lib.hid (fp_s k)
      obtain ⟨A, hA⟩ : ∃ A, A = fp k := ⟨_, rfl⟩
      obtain ⟨B, hB⟩ : ∃ B, B = fp (k + 1) := ⟨_, rfl⟩
      obtain ⟨N, hNe⟩ : ∃ N, N = vL 0 (l.take k) := ⟨_, rfl⟩
      obtain ⟨N2, hN2⟩ : ∃ N, N = vL 0 (l.take (k + 1)) := ⟨_, rfl⟩
      rw [← hA, ← hB] at HN
      rw [← hA] at b1 hvt
      rw [← hB] at b2
      rw [← hNe] at v1 hvt
      rw [← hN2] at v2 hvt
      rw [← hA, ← hB, ← hNe]
      have HBB := Lib.hid hB
      have HN2 := Lib.hid hN2
      obtain ⟨x, hx⟩ : ∃ x, x = l[k] := ⟨_, rfl⟩
      rw [← hx] at hc hd hvt
      clear h3 hcell hA hB hNe hN2 hx
      rcases hd with rfl | rfl
      · have hN2v : N2 = N := by simpa using hvt
        have HNV := Lib.hid hN2v
        clear hvt hN2v
        go_wp2
        go_round
        case rel => exact ⟨k + 1, hlt, by go_num, by rw [← HN2.out, HNV.out], by rw [HBB.out], by rw [HN.out]; go_num⟩
        case measure => simp [intOf]; omega
      · have hN2v : N2 = N + A := by simpa using hvt
        have HNV := Lib.hid hN2v
        have hs : N + A ≤ 4052739537881 := by omega
        clear hvt hN2v
        go_wp2
        go_round
        case rel => exact ⟨k + 1, hlt, by go_num, by rw [← HN2.out, HNV.out]; go_num, by rw [HBB.out], by rw [HN.out]; go_num⟩
        case measure => simp [intOf]; omega
    · have hkl : k = l.length := by omega
      have HE := Lib.hid (show vL 0 (l.take k) = vL 0 l by rw [hkl, List.take_length])
      obtain ⟨N, hNe⟩ : ∃ N, N = vL 0 (l.take k) := ⟨_, rfl⟩
      rw [← hNe] at HE v1 ⊢
      have hn9 : ¬ (k : Int) < l.length := by omega
      clear h3 hNe
      go_wp2
      go_ret
      exact ⟨by rw [← HE.out]; rfl, rfl⟩

theorem specFibValue_any (v : Value) (l : List Int) (w : World) (hr : RowAt w v (intsOf l)) (hl : l.length ≤ 1048576) (hi : ∀ n ∈ l, in64 n) :
    Calls Try.prog 36 #[v] w fun e w' => e = .returned (.tuple #[.int .i64 (rFibValue0 l), .bool (rFibValue1 l)]) ∧ Below w.heap.size w w' := by
  have HK := Lib.hid (specFb_any v l w hr (by omega) hi)
  have HV := Lib.hid (fun h1 h2 => specFv_any v l w hr h1 h2)
  obtain ⟨a, cap, rfl, h1, h2, h3⟩ := hr.ints
  clear h3 hr hi
  cases h : okF l
  · rw [h] at HK
    have E0 := Lib.hid (show rFibValue0 l = 0 ∧ rFibValue1 l = false by rw [rFibValue0, rFibValue1, fvOk, h]; exact ⟨rfl, rfl⟩)
    clear h
    go_enter Try.func36, Try.ntmps36
    go_wp2_with fail
    refine HK.out.mono ?_
    rintro e w' ⟨rfl, rfl⟩
    go_wp2_with fail
    go_ret2
    exact ⟨by rw [E0.out.1, E0.out.2]; rfl, Below.refl _ _⟩
  · rw [h] at HK
    obtain ⟨k1, k2, _⟩ := okF_yes h
    have HVV := Lib.hid (HV.out (by omega) k2)
    have hvl : vL 0 l ≤ 4052739537881 := by
      have h' := vL_le (l := l) 0 k2
      have := fp_60 (show 0 + l.length + 1 ≤ 60 by omega)
      omega
    by_cases hb : vL 0 l ≤ 1000000000000
    · have E0 := Lib.hid (show rFibValue0 l = vL 0 l ∧ rFibValue1 l = true by rw [rFibValue0, rFibValue1, fvOk, h, decide_eq_true hb]; exact ⟨rfl, rfl⟩)
      obtain ⟨N, hNe⟩ : ∃ N, N = vL 0 l := ⟨_, rfl⟩
      rw [← hNe] at E0 HVV hb hvl
      have hbI : ¬ (1000000000000 : Int) < N := by omega
      clear h hNe
      go_enter Try.func36, Try.ntmps36
      go_wp2_with fail
      refine HK.out.mono ?_
      rintro e w' ⟨rfl, rfl⟩
      go_wp2_with fail
      refine HVV.out.mono ?_
      rintro e w' ⟨rfl, rfl⟩
      go_wp2_with fail
      go_ret2
      exact ⟨by rw [E0.out.1, E0.out.2]; rfl, Below.refl _ _⟩
    · have E0 := Lib.hid (show rFibValue0 l = 0 ∧ rFibValue1 l = false by rw [rFibValue0, rFibValue1, fvOk, h, decide_eq_false hb]; exact ⟨rfl, rfl⟩)
      obtain ⟨N, hNe⟩ : ∃ N, N = vL 0 l := ⟨_, rfl⟩
      rw [← hNe] at HVV hb hvl
      have hbI : (1000000000000 : Int) < N := by omega
      clear h hNe
      go_enter Try.func36, Try.ntmps36
      go_wp2_with fail
      refine HK.out.mono ?_
      rintro e w' ⟨rfl, rfl⟩
      go_wp2_with fail
      refine HVV.out.mono ?_
      rintro e w' ⟨rfl, rfl⟩
      go_wp2_with fail
      go_ret2
      exact ⟨by rw [E0.out.1, E0.out.2]; rfl, Below.refl _ _⟩

end Go.Proofs.Ytkimojjhmllnfaa
