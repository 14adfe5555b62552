/- Binomial places and subsets: the model's coefficients, test, rank and mask. -/
import Derived.Test.YtjdijmccpihkhaaRow
import Derived.Test.YtjdijmccpihkhaaDgSpec
import Derived.Test.YtjdijmccpihkhaaSbM
set_option linter.unusedVariables false
set_option linter.unusedSimpArgs false
set_option maxRecDepth 100000
namespace Go.Proofs.Ytjdijmccpihkhaa
open Go.ChangeShapes Go.WideShapes Go.ChangeAt Go.RowKit

def rBinomial0 (n k : Int) : Int := if inB n 0 30 && inB k 0 30 then bn n.toNat k.toNat else -1
def rSubsetOk0 (l : List Int) (m : Int) : Bool := okS l m
def rSubsetRank0 (l : List Int) : Int := if okS l 20 then rk l else -1
def atOk (n k : Int) : Bool := inB k 0 8 && inB n 0 ((bn 20 k.toNat : Int) - 1)
def rSubsetAt0 (n k : Int) : List Int := if atOk n k then (gr k.toNat n.toNat).reverse else []
def rSubsetAt1 (n k : Int) : Bool := atOk n k
def nxOk (l : List Int) : Bool := okS l 20 && decide (l.length ≤ 8)
def rNextSubset0 (l : List Int) : List Int := if nxOk l then rSubsetAt0 ((rk l : Int) + 1) l.length else []
def rNextSubset1 (l : List Int) : Bool := nxOk l && rSubsetAt1 ((rk l : Int) + 1) l.length
def rMaskOf0 (l : List Int) : Int := if okS l 20 then mk l else -1
def rSubsetOf0 (m : Int) : List Int := if inB m 0 1048575 then so m.toNat else []
def rOtherSubset0 (l : List Int) (m : Int) : List Int := if okS l m then oth l m.toNat else []
def rOtherSubset1 (l : List Int) (m : Int) : Bool := okS l m

theorem bn_30 {n k : Nat} (hn : n ≤ 30) : bn n k ≤ 1073741824 := by
  have h1 := bn_le n k
  have h2 : 2 ^ n ≤ 2 ^ 30 := Nat.pow_le_pow_right (by omega) hn
  omega

set_option maxHeartbeats 1000000 in
theorem specBn_any (n k : Nat) (w : World) (hn : n ≤ 30) (hk : k ≤ 30) :
    Calls Try.prog 46 #[.int .i64 n, .int .i64 k] w fun e w' => e = .returned (.int .i64 (bn n k)) ∧ w = w' := by
  by_cases hkn : n < k
  · have HZ := Lib.hid (bn_zero hkn)
    go_enter Try.func46, Try.ntmps46
    go_wp2
    go_ret
    exact ⟨by rw [HZ.out]; rfl, rfl⟩
  · have HB := Lib.hid (fun (j : Nat) (hj : j ≤ k) => bn_30 (n := n - k + j) (k := j) (by omega))
    have HN := Lib.hid (fun (j : Nat) (hj : j < k) => bn_next (n := n) (k := k) (i := j) (by omega) hj)
    have HE := Lib.hid (show bn (n - k + k) k = bn n k by rw [show n - k + k = n by omega])
    go_enter Try.func46, Try.ntmps46
    go_wp2
    go_loop [5, 6] (fun x i => ∃ j : Nat, j ≤ k ∧ i = .int .i64 ((j : Int) + 1) ∧ x = .int .i64 (bn (n - k + j) j)) (fun _ i => k + 1 - (intOf i).toNat)
    case atStart => exact ⟨0, Nat.zero_le _, rfl, by rw [bn_0]; rfl⟩
    case round =>
      obtain ⟨j, hj, rfl, rfl⟩ := hrel
      have hx := HB.out j hj
      by_cases hlt : j < k
      · have hN := HN.out j hlt
        obtain ⟨X, hX⟩ : ∃ X, X = bn (n - k + j) j := ⟨_, rfl⟩
        rw [← hX] at hx hN ⊢
        obtain ⟨Y, hY⟩ : ∃ Y, Y = bn (n - k + (j + 1)) (j + 1) := ⟨_, rfl⟩
        rw [← hY] at hN
        obtain ⟨T, hT⟩ : ∃ T, T = X * (n - k + (j + 1)) := ⟨_, rfl⟩
        rw [← hT] at hN
        have hTl : T ≤ 1073741824 * 31 := by rw [hT]; exact Nat.mul_le_mul hx (by omega)
        have hTi : (X : Int) * ((n : Int) - k + ((j : Int) + 1)) = T := by
          rw [hT, Int.natCast_mul]; congr 1; omega
        have hwt : IntKind.i64.wrap ((X : Int) * ((n : Int) - k + ((j : Int) + 1))) = T := by rw [IntKind.wrap_i64, hTi]; omega
        have hq : (T : Int).tdiv ((j : Int) + 1) = Y := by
          rw [Int.tdiv_eq_ediv_of_nonneg (by omega), ← hN, Int.natCast_ediv]; rfl
        have HY := Lib.hid hY
        have HXL := Lib.hid (show Y ≤ T from hN ▸ Nat.div_le_self _ _)
        clear hT hTi hN hX hY
        have hjn : ¬ (j : Int) + 1 = 0 := by omega
        have hYT := HXL.out
        go_wp2
        go_round
        case rel => exact ⟨j + 1, hlt, by go_num, by rw [← HY.out]⟩
        case measure => simp [intOf]; omega
      · have hjk : j = k := by omega
        subst hjk
        rw [HE.out] at hx ⊢
        go_wp2
        go_ret
        exact ⟨rfl, rfl⟩

theorem specBinomial_any (n k : Int) (w : World) (hn : in64 n) (hk : in64 k) :
    Calls Try.prog 24 #[.int .i64 n, .int .i64 k] w fun e w' => e = .returned (.int .i64 (rBinomial0 n k)) ∧ Below w.heap.size w w' := by
  have HS1 := Lib.hid (fun W => sIn_any n 0 30 W)
  have HS2 := Lib.hid (fun W => sIn_any k 0 30 W)
  cases h1 : inB n 0 30
  · rw [h1] at HS1
    have E0 := Lib.hid (show rBinomial0 n k = -1 by rw [rBinomial0, h1]; rfl)
    clear h1
    go_enter Try.func24, Try.ntmps24
    go_wp2_with fail
    refine (HS1.out _).mono ?_
    rintro e w' ⟨rfl, rfl⟩
    go_wp2_with fail
    go_ret
    exact ⟨by rw [E0.out]; rfl, Below.refl _ _⟩
  · rw [h1] at HS1
    cases h2 : inB k 0 30
    · rw [h2] at HS2
      have E0 := Lib.hid (show rBinomial0 n k = -1 by rw [rBinomial0, h1, h2]; rfl)
      clear h1 h2
      go_enter Try.func24, Try.ntmps24
      go_wp2_with fail
      refine (HS1.out _).mono ?_
      rintro e w' ⟨rfl, rfl⟩
      go_wp2_with fail
      refine (HS2.out _).mono ?_
      rintro e w' ⟨rfl, rfl⟩
      go_wp2_with fail
      go_ret
      exact ⟨by rw [E0.out]; rfl, Below.refl _ _⟩
    · rw [h2] at HS2
      obtain ⟨n0, n1⟩ := inB_yes h1
      obtain ⟨k0, k1⟩ := inB_yes h2
      obtain ⟨a, rfl⟩ : ∃ a : Nat, n = a := ⟨n.toNat, by omega⟩
      obtain ⟨b, rfl⟩ : ∃ b : Nat, k = b := ⟨k.toNat, by omega⟩
      have E0 := Lib.hid (show rBinomial0 a b = bn a b by rw [rBinomial0, h1, h2]; rfl)
      have HB := Lib.hid (fun W => specBn_any a b W (by omega) (by omega))
      clear h1 h2
      go_enter Try.func24, Try.ntmps24
      go_wp2_with fail
      refine (HS1.out _).mono ?_
      rintro e w' ⟨rfl, rfl⟩
      go_wp2_with fail
      refine (HS2.out _).mono ?_
      rintro e w' ⟨rfl, rfl⟩
      go_wp2_with fail
      refine (HB.out _).mono ?_
      rintro e w' ⟨rfl, rfl⟩
      go_wp2_with fail
      go_ret
      exact ⟨by rw [E0.out]; rfl, Below.refl _ _⟩

/-! ### the test -/
theorem okS_m {l : List Int} {m : Int} (h : inB m 0 20 = false) : okS l m = false := by rw [okS, h]; rfl
theorem okS_at {l : List Int} {m : Int} {k : Nat} (hk : k < l.length) (h : inB l[k] 0 (m - 1) = false) : okS l m = false := by
  cases e : okS l m
  · rfl
  · have := (okS_yes e).2.1 _ (List.getElem_mem hk)
    rw [show inB l[k] 0 (m - 1) = true by simp [inB, this.1, this.2]] at h; simp at h
theorem okS_desc2 {l : List Int} {m : Int} {k : Nat} (hk : k + 1 < l.length) (h : l[k + 1] ≤ l[k]) : okS l m = false := by
  cases e : okS l m
  · rfl
  · have h3 := (okS_yes e).2.2
    have := List.pairwise_iff_getElem.1 h3 k (k + 1) (by omega) hk (by omega)
    omega
theorem asc_take {l : List Int} {k : Nat} (hk : k + 1 < l.length) (h : Asc (l.take (k + 1))) (hlt : l[k] < l[k + 1]) : Asc (l.take (k + 2)) := by
  rw [List.take_succ_eq_append_getElem hk]
  refine asc_snoc.2 ⟨h, fun y hy => ?_⟩
  rw [List.take_succ_eq_append_getElem (show k < l.length by omega)] at h hy
  rcases List.mem_append.1 hy with hy | hy
  · have := (asc_snoc.1 h).2 y hy; omega
  · simp at hy; omega
theorem asc_take1 {l : List Int} (hk : 0 < l.length) : Asc (l.take 1) := by
  cases l with
  | nil => simp at hk
  | cons x l => simp [Asc]

set_option maxHeartbeats 4000000 in
theorem specSb_any (v : Value) (l : List Int) (m : Int) (w : World) (hr : RowAt w v (intsOf l)) (hl : l.length ≤ 1048577) :
    Calls Try.prog 25 #[v, .int .i64 m] w fun e w' => e = .returned (.bool (okS l m)) ∧ w = w' := by
  have HS := Lib.hid (fun W => sIn_any m 0 20 W)
  obtain ⟨a, cap, rfl, h1, h2, h3⟩ := hr.ints
  unfold maxLen at h2
  clear hr
  obtain ⟨RES, hRES⟩ : ∃ RES, RES = okS l m := ⟨_, rfl⟩
  rw [← hRES]
  have HR := Lib.hid hRES
  clear hRES
  cases h : inB m 0 20
  · rw [h] at HS
    have HK := Lib.hid (okS_m (l := l) h)
    clear h h3
    go_enter Try.func25, Try.ntmps25
    go_wp2_with fail
    refine (HS.out _).mono ?_
    rintro e w' ⟨rfl, rfl⟩
    go_wp2_with fail
    go_ret
    exact ⟨by rw [HR.out, HK.out]; rfl, rfl⟩
  · rw [h] at HS
    obtain ⟨m0, m20⟩ := inB_yes h
    have HM := Lib.hid h
    clear h
    go_enter Try.func25, Try.ntmps25
    go_wp2_with fail
    refine (HS.out _).mono ?_
    rintro e w' ⟨rfl, rfl⟩
    go_wp2_with fail
    go_loop [12] (fun i => ∃ k : Nat, k ≤ l.length ∧ i = .int .i64 k ∧ (∀ x ∈ l.take k, 0 ≤ x ∧ x ≤ m - 1) ∧ Asc (l.take k)) (fun i => l.length - (intOf i).toNat)
    case atStart => exact ⟨0, Nat.zero_le _, rfl, by simp, by simp [Asc]⟩
    case round =>
      obtain ⟨k, hk, rfl, hin, hasc⟩ := hrel
      have HIN := Lib.hid hin
      have HAS := Lib.hid hasc
      clear hin hasc
      by_cases hlt : k < l.length
      · obtain ⟨b', off, rfl, hbb, hcell⟩ := h3.resolve_left (fun e => by rw [e] at hlt; simp at hlt)
        have hc := hcell k hlt
        have HSX := Lib.hid (fun W => sIn_any l[k] 0 (m - 1) W)
        cases hd : inB l[k] 0 (m - 1)
        · rw [hd] at HSX
          have HK := Lib.hid (okS_at hlt hd)
          obtain ⟨x, hx⟩ : ∃ x, x = l[k] := ⟨_, rfl⟩
          rw [← hx] at hc HSX
          clear h3 hcell hd hx
          go_wp2_with (go_at_call 45; refine (HSX.out _).mono ?_; rintro e w' ⟨rfl, rfl⟩)
          go_ret
          exact ⟨by rw [HR.out, HK.out]; rfl, rfl⟩
        · rw [hd] at HSX
          obtain ⟨x0, x1⟩ := inB_yes hd
          have HN1 := Lib.hid (show ∀ x ∈ l.take (k + 1), 0 ≤ x ∧ x ≤ m - 1 from fun x hx => by
            rw [List.take_succ_eq_append_getElem hlt] at hx
            rcases List.mem_append.1 hx with hx | hx
            · exact HIN.out x hx
            · simp at hx; subst hx; exact ⟨x0, x1⟩)
          cases k with
          | zero =>
            have HN2 := Lib.hid (asc_take1 hlt)
            obtain ⟨x, hx⟩ : ∃ x, x = l[0] := ⟨_, rfl⟩
            rw [← hx] at hc HSX x0 x1
            rw [Nat.add_zero] at hc
            clear h3 hcell hd hx
            go_wp2_with (go_at_call 45; refine (HSX.out _).mono ?_; rintro e w' ⟨rfl, rfl⟩)
            go_round
            case rel => exact ⟨1, by omega, by go_num, HN1.out, HN2.out⟩
            case measure => simp [intOf]; omega
          | succ j =>
            have hc0 := hcell j (by omega)
            by_cases hle : l[j + 1] ≤ l[j]
            · have HK := Lib.hid (okS_desc2 (m := m) hlt hle)
              obtain ⟨x, hx⟩ : ∃ x, x = l[j + 1] := ⟨_, rfl⟩
              obtain ⟨y, hy⟩ : ∃ y, y = l[j] := ⟨_, rfl⟩
              rw [← hx] at hc HSX x0 x1 hle
              rw [← hy] at hc0 hle
              clear h3 hcell hd hx hy
              go_wp2_with (go_at_call 45; refine (HSX.out _).mono ?_; rintro e w' ⟨rfl, rfl⟩)
              go_ret
              exact ⟨by rw [HR.out, HK.out]; rfl, rfl⟩
            · have HN2 := Lib.hid (asc_take hlt HAS.out (by omega))
              obtain ⟨x, hx⟩ : ∃ x, x = l[j + 1] := ⟨_, rfl⟩
              obtain ⟨y, hy⟩ : ∃ y, y = l[j] := ⟨_, rfl⟩
              rw [← hx] at hc HSX x0 x1 hle
              rw [← hy] at hc0 hle
              clear h3 hcell hd hx hy
              go_wp2_with (go_at_call 45; refine (HSX.out _).mono ?_; rintro e w' ⟨rfl, rfl⟩)
              go_round
              case rel => exact ⟨j + 2, by omega, by go_num, HN1.out, HN2.out⟩
              case measure => simp [intOf]; omega
      · have hkl : k = l.length := by omega
        have HK := Lib.hid (show okS l m = true by
          have h4 := HIN.out
          have h5 := HAS.out
          rw [hkl, List.take_length] at h4 h5
          exact okS_of m0 m20 h4 h5)
        have hn9 : ¬ (k : Int) < l.length := by omega
        clear h3
        go_wp2_with fail
        go_ret
        exact ⟨by rw [HR.out, HK.out]; rfl, rfl⟩

theorem specSubsetOk_any (v : Value) (l : List Int) (m : Int) (w : World) (hr : RowAt w v (intsOf l)) (hl : l.length ≤ 1048576) (hi : ∀ n ∈ l, in64 n) (hm : in64 m) :
    Calls Try.prog 25 #[v, .int .i64 m] w fun e w' => e = .returned (.bool (rSubsetOk0 l m)) ∧ Below w.heap.size w w' := by
  refine (specSb_any v l m w hr (by omega)).mono ?_
  rintro e w' ⟨rfl, rfl⟩
  exact ⟨rfl, Below.refl _ _⟩

end Go.Proofs.Ytjdijmccpihkhaa
