/- Balanced digits: the model negates, adds, drops places, weighs. -/
import Derived.Test.YtdflpocnfodbhacInts
import Derived.Test.YtdflpocnfodbhacLgSpec
import Derived.Test.YtdflpocnfodbhacBaSpec
set_option linter.unusedVariables false
set_option linter.unusedSimpArgs false
set_option maxRecDepth 100000
namespace Go.Proofs.Ytdflpocnfodbhac
open Go.ChangeShapes Go.WideShapes Go.ChangeAt Go.RowKit

/-- the negative, in 64 bits -/
def neg64 (d : Int) : Int := if d = -9223372036854775808 then -9223372036854775808 else -d
theorem neg64_in {d : Int} (h : in64 d) : in64 (neg64 d) := by
  unfold neg64 in64 at *; split <;> omega
def rNegateDigits0 (l : List Int) : List Int := if l.length ≤ 1048576 then l.map neg64 else []
theorem rNegateDigits0_len (l : List Int) : (rNegateDigits0 l).length ≤ 1048577 := by
  unfold rNegateDigits0; split
  · rw [List.length_map]; omega
  · simp

/-- one place of a sum: the digit and the carry -/
theorem bal_step {h : Nat} {S o A C A' C' d cy : Int} {k : Nat} {ka kc : Int} (hs : S = o + (2 * (h : Int) + 1) ^ k * (cy + A + C)) (hA : A = ka + (2 * h + 1) * A') (hC : C = kc + (2 * h + 1) * C') {c' : Int} (hx : ka + kc + cy = d + (2 * h + 1) * c') :
    S = (o + (2 * (h : Int) + 1) ^ k * d) + (2 * (h : Int) + 1) ^ (k + 1) * (c' + A' + C') := by
  have e2 : cy + A + C = d + (2 * (h : Int) + 1) * (c' + A' + C') := by
    rw [Int.mul_add, Int.mul_add]; omega
  rw [hs, e2, Int.pow_succ, Int.mul_add, Int.mul_assoc]
  omega
theorem bv_snoc (h : Nat) (l : List Int) (d : Int) : bv h (l ++ [d]) = bv h l + (2 * (h : Int) + 1) ^ l.length * d := hv_snoc _ l d
theorem allB_snoc {h : Nat} {l : List Int} {d : Int} (hl : AllB h l) (h0 : -(h : Int) ≤ d) (h1 : d ≤ h) : AllB h (l ++ [d]) := fun x hx => by
  rcases List.mem_append.1 hx with hx | hx
  · exact hl x hx
  · simp at hx; subst hx; exact ⟨h0, h1⟩
/-- without the zeros at the end -/
theorem trim_eqB {h : Nat} (hh : 1 ≤ h) {l : List Int} (hl : AllB h l) {n : Nat} (hn : n ≤ l.length) (hz : ∀ j (hj : j < l.length), n ≤ j → l[j] = 0) (hla : ∀ (hj : n - 1 < l.length), n = 0 ∨ l[n - 1] ≠ 0) :
    l.take n = bd h (bv h l) := by
  have hd : hv (2 * (h : Int) + 1) (l.drop n) = 0 := hv_zeros _ (fun d hd => by
    obtain ⟨j, hj, rfl⟩ := List.getElem_of_mem hd
    rw [List.getElem_drop]
    exact hz _ _ (by omega))
  have e : bv h l = bv h (l.take n) := by
    have := hv_append (2 * (h : Int) + 1) (l.take n) (l.drop n)
    rw [List.take_append_drop, hd] at this
    unfold bv; rw [this]; simp
  have hN : NrmB h (l.take n) := by
    refine ⟨fun d hd => hl d (List.mem_of_mem_take hd), ?_⟩
    by_cases h0 : n = 0
    · left; subst h0; simp
    · by_cases h1 : n - 1 < l.length
      · right
        have := (hla h1).resolve_left h0
        rw [List.getLast?_eq_getElem?, List.length_take, Nat.min_eq_left hn, List.getElem?_take, if_pos (by omega), List.getElem?_eq_getElem h1]
        simpa using this
      · left
        have : l.length = 0 := by omega
        rw [List.eq_nil_of_length_eq_zero this]; simp
  rw [e]
  exact (bd_bv hh hN).symm

set_option maxHeartbeats 1000000 in
/-- what l03Done hands back of a row of balanced digits -/
theorem spec5Done_any (v : Value) (l : List Int) (h base : Nat) (w : World) (hh : 1 ≤ h) (hA : AllB h l) (hown : w.ownsRow base 3 1 v l.length (intsOf l)) (hl : l.length ≤ 100000) :
    Calls Try.prog 45 #[v] w fun e w' => ∃ v', e = .returned (.tuple #[v', .bool (fits (bd h (bv h l)))]) ∧ w.ownsRow base 3 1 v' (if fits (bd h (bv h l)) then bd h (bv h l) else []).length (intsOf (if fits (bd h (bv h l)) then bd h (bv h l) else [])) ∧ w = w' := by
  obtain ⟨a, cap, rfl, h1, h2⟩ := owns_form hown
  unfold maxLen at h2
  have HT := Lib.hid (specTrim_any a cap l w (RowAt.of_owns hown) (by omega))
  have HW := Lib.hid (fun n (hn : n ≤ l.length) => owns_take hown hn)
  have HEQ := Lib.hid (fun n hn hz hla => trim_eqB hh hA (n := n) hn hz hla)
  obtain ⟨L, hL⟩ : ∃ L, L = bd h (bv h l) := ⟨_, rfl⟩
  rw [← hL] at HEQ ⊢
  obtain ⟨R, hR⟩ : ∃ R, R = (if fits L then L else []) := ⟨_, rfl⟩
  rw [← hR]
  obtain ⟨f, hf⟩ : ∃ f, f = fits L := ⟨_, rfl⟩
  rw [← hf]
  have HRf := Lib.hid hf; have HRR := Lib.hid hR
  clear hL hown hA hR hf
  go_enter Try.func45, Try.ntmps45
  go_wp2_with fail
  refine HT.out.mono ?_
  rintro e w' ⟨n, rfl, hn, hz, hlast, rfl⟩
  have e := HEQ.out n hn hz hlast
  have en : L.length = n := by rw [← e, List.length_take, Nat.min_eq_left hn]
  have HO := Lib.hid (show w.ownsRow base 3 1 (.slice a n cap) L.length (intsOf L) by rw [en, ← e, ← intsOf_take]; exact HW.out n hn)
  by_cases hf : n ≤ 60
  · have HF := Lib.hid (show f = true by rw [HRf.out]; simp [fits, en]; omega)
    have HR := Lib.hid (show R = L by rw [HRR.out, ← HRf.out, HF.out]; rfl)
    clear hz hlast e en HT HEQ HRf HRR
    go_wp2_with fail
    go_ret2
    exact ⟨_, by rw [HF.out]; rfl, by rw [HR.out]; exact HO.out, rfl⟩
  · have HF := Lib.hid (show f = false by rw [HRf.out]; simp [fits, en]; omega)
    have HR := Lib.hid (show R = [] by rw [HRR.out, ← HRf.out, HF.out]; rfl)
    clear hz hlast e en HT HEQ HRf HRR
    go_wp2_with fail
    go_ret2
    exact ⟨_, by rw [HF.out]; rfl, by rw [HR.out]; exact World.ownsRow_nil _ _ _ _, rfl⟩

set_option maxHeartbeats 4000000 in
theorem specBalancedAdd_any (va : Value) (a : List Int) (vc : Value) (c : List Int) (b : Int) (w : World) (hra : RowAt w va (intsOf a)) (hl : a.length ≤ 1048576) (hia : ∀ n ∈ a, in64 n) (hrc : RowAt w vc (intsOf c)) (hl' : c.length ≤ 1048576) (hic : ∀ n ∈ c, in64 n) (hb : in64 b) :
    Calls Try.prog 15 #[va, vc, .int .i64 b] w fun e w' => ∃ v, e = .returned (.tuple #[v, .bool (rBalancedAdd1 a c b)]) ∧ w'.ownsRow w.heap.size 3 1 v (rBalancedAdd0 a c b).length (intsOf (rBalancedAdd0 a c b)) ∧ Below w.heap.size w w' := by
  have H1 := Lib.hid (specBal_eq va a b w hra hl hia hb)
  have H2 := Lib.hid (specBal_eq vc c b w hrc hl' hic hb)
  have HRA := Lib.hid hra; have HRC := Lib.hid hrc
  obtain ⟨aa, cap, rfl, h1, h2, h3⟩ := hra.ints
  obtain ⟨ac, cap', rfl, h1', h2', h3'⟩ := hrc.ints
  unfold maxLen at h2 h2'
  obtain ⟨i0, hi, hz0, hz1, hz2⟩ := info_parts infoInt
  clear h3 h3' hra hrc
  cases h : okW a b
  · rw [h] at H1
    have E1 := Lib.hid (show rBalancedAdd1 a c b = false by rw [rBalancedAdd1, h]; rfl)
    have E0 := Lib.hid (show rBalancedAdd0 a c b = [] by rw [rBalancedAdd0, E1.out]; rfl)
    clear h
    go_enter Try.func15, Try.ntmps15
    go_wp2_with fail
    refine H1.out.mono ?_
    rintro e w' ⟨rfl, rfl⟩
    go_wp2_with fail
    go_ret2
    exact ⟨_, by rw [E1.out]; rfl, by rw [E0.out]; exact World.ownsRow_nil _ _ _ _, Below.refl _ _⟩
  · rw [h] at H1
    cases hc : okW c b
    · rw [hc] at H2
      have E1 := Lib.hid (show rBalancedAdd1 a c b = false by rw [rBalancedAdd1, h, hc]; rfl)
      have E0 := Lib.hid (show rBalancedAdd0 a c b = [] by rw [rBalancedAdd0, E1.out]; rfl)
      clear h hc
      go_enter Try.func15, Try.ntmps15
      go_wp2_with fail
      refine H1.out.mono ?_
      rintro e w' ⟨rfl, rfl⟩
      go_wp2_with fail
      refine H2.out.mono ?_
      rintro e w' ⟨rfl, rfl⟩
      go_wp2_with fail
      go_ret2
      exact ⟨_, by rw [E1.out]; rfl, by rw [E0.out]; exact World.ownsRow_nil _ _ _ _, Below.refl _ _⟩
    · rw [hc] at H2
      obtain ⟨n, hbe, hn1, hn7, hNa, hla⟩ := okW_yes h
      obtain ⟨n', hbe', _, _, hNc, hlc⟩ := okW_yes hc
      obtain rfl : n = n' := by omega
      obtain ⟨S, hS⟩ : ∃ S : Int, S = bv n a + bv n c := ⟨_, rfl⟩
      have HE1 := Lib.hid (show rBalancedAdd1 a c b = fits (bd n S) by rw [rBalancedAdd1, h, hc, hbe, hOf_eq, ← hS]; rfl)
      have HE0 := Lib.hid (show rBalancedAdd0 a c b = if fits (bd n S) then bd n S else [] by rw [rBalancedAdd0, HE1.out, hbe, hOf_eq, ← hS])
      have HNA := Lib.hid hNa; have HNC := Lib.hid hNc
      have HS := Lib.hid hS
      have HBE := Lib.hid hbe
      have q1 : b / 2 = (n : Int) := by omega
      have q2 : b.tdiv 2 = (n : Int) := by rw [Int.tdiv_eq_ediv_of_nonneg (by omega)]; exact q1
      have hb1 : 3 ≤ b := by omega
      have hb2 : b ≤ 15 := by omega
      obtain ⟨M, hM⟩ : ∃ M, M = max a.length c.length := ⟨_, rfl⟩
      have hMa : a.length ≤ M := by omega
      have hMc : c.length ≤ M := by omega
      have hM9 : M ≤ 60 := by omega
      have HM := Lib.hid (show ∀ k : Nat, ¬ k < a.length → ¬ k < c.length → M ≤ k from fun k _ _ => by omega)
      clear h hc hNa hNc hia hic hM hb hbe hbe' hS
      go_enter Try.func15, Try.ntmps15
      go_wp2_with fail
      refine H1.out.mono ?_
      rintro e w' ⟨rfl, rfl⟩
      go_wp2_with fail
      refine H2.out.mono ?_
      rintro e w' ⟨rfl, rfl⟩
      go_wp2_with fail
      go_loopw [8, 9, 10] (fun v cy i wr => ∃ (k : Nat) (o : List Int) (y : Int), o.length = k ∧ (k ≤ M ∨ k = M + 1 ∧ y = 0) ∧ i = .int .i64 k ∧ cy = .int .i64 y ∧ -1 ≤ y ∧ y ≤ 1 ∧ AllB n o ∧ S = bv n o + (2 * (n : Int) + 1) ^ k * (y + bv n (a.drop k) + bv n (c.drop k)) ∧ wr.ownsRow w.heap.size 3 1 v o.length (intsOf o) ∧ Below w.heap.size w wr)
        (fun _ cy i _ => (M - (intOf i).toNat) * 2 + (intOf cy).natAbs)
      case atStart =>
        refine ⟨0, [], 0, rfl, .inl (Nat.zero_le _), rfl, rfl, by omega, by omega, fun d hd => by simp at hd, ?_, World.ownsRow_lit w #[] 0 (Nat.le_refl _) (by decide) rfl, (Below.refl _ _).alloc (Nat.le_refl _) _⟩
        rw [HS.out]; simp [bv_nil]
      case round =>
        obtain ⟨k, o, y, hok, hk, rfl, rfl, hy0, hy1, hA, hE, hown, hB⟩ := hrel
        subst hok
        have hsz := hB.size
        by_cases hgo : o.length < a.length ∨ o.length < c.length ∨ y ≠ 0
        · have ra := at0_rangeB HNA.out.1 o.length
          have rc := at0_rangeB HNC.out.1 o.length
          obtain ⟨p, hp⟩ : ∃ p, p = at0 a o.length := ⟨_, rfl⟩
          obtain ⟨q, hq⟩ : ∃ q, q = at0 c o.length := ⟨_, rfl⟩
          rw [← hp] at ra
          rw [← hq] at rc
          have hpa := bv_at n a o.length
          have hqc := bv_at n c o.length
          rw [← hp] at hpa
          rw [← hq] at hqc
          -- the digit d and the carry z
          obtain ⟨d, z, hdz, hd1, hd2, hz1', hz2', hcase⟩ : ∃ d z : Int, p + q + y = d + (2 * (n : Int) + 1) * z ∧ -(n : Int) ≤ d ∧ d ≤ n ∧ -1 ≤ z ∧ z ≤ 1 ∧ (((n : Int) < p + q + y ∧ p + q + y - b = d ∧ z = 1) ∨ (¬ (n : Int) < p + q + y ∧ p + q + y < -(n : Int) ∧ p + q + y + b = d ∧ z = -1) ∨ (¬ (n : Int) < p + q + y ∧ ¬ p + q + y < -(n : Int) ∧ p + q + y = d ∧ z = 0)) := by
            have := HBE.out
            by_cases g1 : (n : Int) < p + q + y
            · exact ⟨p + q + y - b, 1, by omega, by omega, by omega, by omega, by omega, .inl ⟨g1, rfl, rfl⟩⟩
            · by_cases g2 : p + q + y < -(n : Int)
              · exact ⟨p + q + y + b, -1, by omega, by omega, by omega, by omega, by omega, .inr (.inl ⟨g1, g2, rfl, rfl⟩)⟩
              · exact ⟨p + q + y, 0, by omega, by omega, by omega, by omega, by omega, .inr (.inr ⟨g1, g2, rfl, rfl⟩)⟩
          have hst := bal_step hE hpa hqc hdz
          have HST := Lib.hid (show S = bv n (o ++ [d]) + (2 * (n : Int) + 1) ^ (o.length + 1) * (z + bv n (a.drop (o.length + 1)) + bv n (c.drop (o.length + 1))) by rw [bv_snoc]; exact hst)
          have HAD := Lib.hid (allB_snoc hA hd1 hd2)
          have hz0' : ¬ o.length < a.length → ¬ o.length < c.length → z = 0 := fun n1 n2 => by
            have e1 : p = 0 := by rw [hp]; exact at0_ge (by omega)
            have e2 : q = 0 := by rw [hq]; exact at0_ge (by omega)
            omega
          have HNX := Lib.hid (show (o.length + 1 ≤ M ∨ o.length + 1 = M + 1 ∧ z = 0) ∧ ((M - (o.length + 1)) * 2 + z.natAbs < (M - o.length) * 2 + y.natAbs) by
            by_cases hlt : o.length < a.length ∨ o.length < c.length
            · exact ⟨.inl (by omega), by omega⟩
            · have n1 : ¬ o.length < a.length := fun hx => hlt (.inl hx)
              have n2 : ¬ o.length < c.length := fun hx => hlt (.inr hx)
              have e := hz0' n1 n2
              have := HM.out _ n1 n2
              have hyy : y ≠ 0 := by omega
              exact ⟨.inr ⟨by omega, e⟩, by omega⟩)
          have hk9 : o.length ≤ 61 := by omega
          have HQA := Lib.hid (fun W hW => specAt_any (.slice aa a.length cap) a o.length W (HRA.out.below hW) hl (by omega))
          have HQC := Lib.hid (fun W hW => specAt_any (.slice ac c.length cap') c o.length W (HRC.out.below hW) hl' (by omega))
          rw [← hp] at HQA
          rw [← hq] at HQC
          have go3 : (o.length : Int) < a.length ∨ (¬ (o.length : Int) < a.length ∧ (o.length : Int) < c.length) ∨ (¬ (o.length : Int) < a.length ∧ ¬ (o.length : Int) < c.length ∧ (y != 0) = true) := by
            by_cases g1 : o.length < a.length
            · exact .inl (by omega)
            · by_cases g2 : o.length < c.length
              · exact .inr (.inl ⟨by omega, by omega⟩)
              · exact .inr (.inr ⟨by omega, by omega, by simp; omega⟩)
          have hnd : ¬ d < -(n : Int) := by omega
          have hsum1 : -46 ≤ p + q := by omega
          have hsum2 : p + q ≤ 46 := by omega
          clear hp hq hst hE hA hpa hqc hdz hz0' hgo
          rcases go3 with g1 | ⟨g1, g2⟩ | ⟨g1, g2, g3⟩
          · rcases hcase with ⟨k1, k2, rfl⟩ | ⟨k1, k2, k3, rfl⟩ | ⟨k1, k2, k3, rfl⟩
            · go_wp2_with fail
              refine (HQA.out _ hB).mono ?_
              rintro e w' ⟨rfl, rfl⟩
              go_wp2_with fail
              refine (HQC.out _ hB).mono ?_
              rintro e w' ⟨rfl, rfl⟩
              go_wp2_with (at_builtin; refine wpList_append_own _ rfl _ _ 22 rfl w.heap.size 3 i0 (.int .i64 0) 1 8 Try.underlying22 hi hz0 hz1 hz2 rfl (by decide) _ _ _ rfl (hown.alloc _) ⟨wr.heap.size, 0, none⟩ 1 1 [.int .i64 (d)] rfl rfl ?a00_1 ?a00_2 ?a00_3 ?a00_4 ?a00_5 ?_)
              case a00_1 => exact one_cell _ _ _
              case a00_2 => first | rfl | (intro u hu; simp at hu; subst hu; rfl)
              case a00_3 => unfold maxLen; omega
              case a00_4 => omega
              case a00_5 => first | omega | (simp; omega)
              intro v' w1 hown' hgrow _
              have hB1 := (hB.alloc hsz (.cells #[.int .i64 (d)] 3)).grown hgrow (by simp; omega) (fun j hj => (hown.lt j hj).1)
              have HO := Lib.hid (show w1.ownsRow w.heap.size 3 1 v' (o ++ [d]).length (intsOf (o ++ [d])) by simpa [intsOf] using hown')
              clear hown' hgrow
              go_wp2_with fail
              go_roundw
              case rel => exact ⟨o.length + 1, o ++ [d], _, by simp, (by first | exact HNX.out.1 | exact HNX.out.1.imp id fun h => ⟨h.1, rfl⟩), by go_num, rfl, by omega, by omega, HAD.out, HST.out, HO.out, hB1⟩
              case measure => have := HNX.out.2; simpa [intOf] using this
            · go_wp2_with fail
              refine (HQA.out _ hB).mono ?_
              rintro e w' ⟨rfl, rfl⟩
              go_wp2_with fail
              refine (HQC.out _ hB).mono ?_
              rintro e w' ⟨rfl, rfl⟩
              go_wp2_with (at_builtin; refine wpList_append_own _ rfl _ _ 22 rfl w.heap.size 3 i0 (.int .i64 0) 1 8 Try.underlying22 hi hz0 hz1 hz2 rfl (by decide) _ _ _ rfl (hown.alloc _) ⟨wr.heap.size, 0, none⟩ 1 1 [.int .i64 (d)] rfl rfl ?a01_1 ?a01_2 ?a01_3 ?a01_4 ?a01_5 ?_)
              case a01_1 => exact one_cell _ _ _
              case a01_2 => first | rfl | (intro u hu; simp at hu; subst hu; rfl)
              case a01_3 => unfold maxLen; omega
              case a01_4 => omega
              case a01_5 => first | omega | (simp; omega)
              intro v' w1 hown' hgrow _
              have hB1 := (hB.alloc hsz (.cells #[.int .i64 (d)] 3)).grown hgrow (by simp; omega) (fun j hj => (hown.lt j hj).1)
              have HO := Lib.hid (show w1.ownsRow w.heap.size 3 1 v' (o ++ [d]).length (intsOf (o ++ [d])) by simpa [intsOf] using hown')
              clear hown' hgrow
              go_wp2_with fail
              go_roundw
              case rel => exact ⟨o.length + 1, o ++ [d], _, by simp, (by first | exact HNX.out.1 | exact HNX.out.1.imp id fun h => ⟨h.1, rfl⟩), by go_num, rfl, by omega, by omega, HAD.out, HST.out, HO.out, hB1⟩
              case measure => have := HNX.out.2; simpa [intOf] using this
            · go_wp2_with fail
              refine (HQA.out _ hB).mono ?_
              rintro e w' ⟨rfl, rfl⟩
              go_wp2_with fail
              refine (HQC.out _ hB).mono ?_
              rintro e w' ⟨rfl, rfl⟩
              go_wp2_with (at_builtin; refine wpList_append_own _ rfl _ _ 22 rfl w.heap.size 3 i0 (.int .i64 0) 1 8 Try.underlying22 hi hz0 hz1 hz2 rfl (by decide) _ _ _ rfl (hown.alloc _) ⟨wr.heap.size, 0, none⟩ 1 1 [.int .i64 (d)] rfl rfl ?a02_1 ?a02_2 ?a02_3 ?a02_4 ?a02_5 ?_)
              case a02_1 => exact one_cell _ _ _
              case a02_2 => first | rfl | (intro u hu; simp at hu; subst hu; rfl)
              case a02_3 => unfold maxLen; omega
              case a02_4 => omega
              case a02_5 => first | omega | (simp; omega)
              intro v' w1 hown' hgrow _
              have hB1 := (hB.alloc hsz (.cells #[.int .i64 (d)] 3)).grown hgrow (by simp; omega) (fun j hj => (hown.lt j hj).1)
              have HO := Lib.hid (show w1.ownsRow w.heap.size 3 1 v' (o ++ [d]).length (intsOf (o ++ [d])) by simpa [intsOf] using hown')
              clear hown' hgrow
              go_wp2_with fail
              go_roundw
              case rel => exact ⟨o.length + 1, o ++ [d], _, by simp, (by first | exact HNX.out.1 | exact HNX.out.1.imp id fun h => ⟨h.1, rfl⟩), by go_num, rfl, by omega, by omega, HAD.out, HST.out, HO.out, hB1⟩
              case measure => have := HNX.out.2; simpa [intOf] using this
          · rcases hcase with ⟨k1, k2, rfl⟩ | ⟨k1, k2, k3, rfl⟩ | ⟨k1, k2, k3, rfl⟩
            · go_wp2_with fail
              refine (HQA.out _ hB).mono ?_
              rintro e w' ⟨rfl, rfl⟩
              go_wp2_with fail
              refine (HQC.out _ hB).mono ?_
              rintro e w' ⟨rfl, rfl⟩
              go_wp2_with (at_builtin; refine wpList_append_own _ rfl _ _ 22 rfl w.heap.size 3 i0 (.int .i64 0) 1 8 Try.underlying22 hi hz0 hz1 hz2 rfl (by decide) _ _ _ rfl (hown.alloc _) ⟨wr.heap.size, 0, none⟩ 1 1 [.int .i64 (d)] rfl rfl ?a10_1 ?a10_2 ?a10_3 ?a10_4 ?a10_5 ?_)
              case a10_1 => exact one_cell _ _ _
              case a10_2 => first | rfl | (intro u hu; simp at hu; subst hu; rfl)
              case a10_3 => unfold maxLen; omega
              case a10_4 => omega
              case a10_5 => first | omega | (simp; omega)
              intro v' w1 hown' hgrow _
              have hB1 := (hB.alloc hsz (.cells #[.int .i64 (d)] 3)).grown hgrow (by simp; omega) (fun j hj => (hown.lt j hj).1)
              have HO := Lib.hid (show w1.ownsRow w.heap.size 3 1 v' (o ++ [d]).length (intsOf (o ++ [d])) by simpa [intsOf] using hown')
              clear hown' hgrow
              go_wp2_with fail
              go_roundw
              case rel => exact ⟨o.length + 1, o ++ [d], _, by simp, (by first | exact HNX.out.1 | exact HNX.out.1.imp id fun h => ⟨h.1, rfl⟩), by go_num, rfl, by omega, by omega, HAD.out, HST.out, HO.out, hB1⟩
              case measure => have := HNX.out.2; simpa [intOf] using this
            · go_wp2_with fail
              refine (HQA.out _ hB).mono ?_
              rintro e w' ⟨rfl, rfl⟩
              go_wp2_with fail
              refine (HQC.out _ hB).mono ?_
              rintro e w' ⟨rfl, rfl⟩
              go_wp2_with (at_builtin; refine wpList_append_own _ rfl _ _ 22 rfl w.heap.size 3 i0 (.int .i64 0) 1 8 Try.underlying22 hi hz0 hz1 hz2 rfl (by decide) _ _ _ rfl (hown.alloc _) ⟨wr.heap.size, 0, none⟩ 1 1 [.int .i64 (d)] rfl rfl ?a11_1 ?a11_2 ?a11_3 ?a11_4 ?a11_5 ?_)
              case a11_1 => exact one_cell _ _ _
              case a11_2 => first | rfl | (intro u hu; simp at hu; subst hu; rfl)
              case a11_3 => unfold maxLen; omega
              case a11_4 => omega
              case a11_5 => first | omega | (simp; omega)
              intro v' w1 hown' hgrow _
              have hB1 := (hB.alloc hsz (.cells #[.int .i64 (d)] 3)).grown hgrow (by simp; omega) (fun j hj => (hown.lt j hj).1)
              have HO := Lib.hid (show w1.ownsRow w.heap.size 3 1 v' (o ++ [d]).length (intsOf (o ++ [d])) by simpa [intsOf] using hown')
              clear hown' hgrow
              go_wp2_with fail
              go_roundw
              case rel => exact ⟨o.length + 1, o ++ [d], _, by simp, (by first | exact HNX.out.1 | exact HNX.out.1.imp id fun h => ⟨h.1, rfl⟩), by go_num, rfl, by omega, by omega, HAD.out, HST.out, HO.out, hB1⟩
              case measure => have := HNX.out.2; simpa [intOf] using this
            · go_wp2_with fail
              refine (HQA.out _ hB).mono ?_
              rintro e w' ⟨rfl, rfl⟩
              go_wp2_with fail
              refine (HQC.out _ hB).mono ?_
              rintro e w' ⟨rfl, rfl⟩
              go_wp2_with (at_builtin; refine wpList_append_own _ rfl _ _ 22 rfl w.heap.size 3 i0 (.int .i64 0) 1 8 Try.underlying22 hi hz0 hz1 hz2 rfl (by decide) _ _ _ rfl (hown.alloc _) ⟨wr.heap.size, 0, none⟩ 1 1 [.int .i64 (d)] rfl rfl ?a12_1 ?a12_2 ?a12_3 ?a12_4 ?a12_5 ?_)
              case a12_1 => exact one_cell _ _ _
              case a12_2 => first | rfl | (intro u hu; simp at hu; subst hu; rfl)
              case a12_3 => unfold maxLen; omega
              case a12_4 => omega
              case a12_5 => first | omega | (simp; omega)
              intro v' w1 hown' hgrow _
              have hB1 := (hB.alloc hsz (.cells #[.int .i64 (d)] 3)).grown hgrow (by simp; omega) (fun j hj => (hown.lt j hj).1)
              have HO := Lib.hid (show w1.ownsRow w.heap.size 3 1 v' (o ++ [d]).length (intsOf (o ++ [d])) by simpa [intsOf] using hown')
              clear hown' hgrow
              go_wp2_with fail
              go_roundw
              case rel => exact ⟨o.length + 1, o ++ [d], _, by simp, (by first | exact HNX.out.1 | exact HNX.out.1.imp id fun h => ⟨h.1, rfl⟩), by go_num, rfl, by omega, by omega, HAD.out, HST.out, HO.out, hB1⟩
              case measure => have := HNX.out.2; simpa [intOf] using this
          · rcases hcase with ⟨k1, k2, rfl⟩ | ⟨k1, k2, k3, rfl⟩ | ⟨k1, k2, k3, rfl⟩
            · go_wp2_with fail
              refine (HQA.out _ hB).mono ?_
              rintro e w' ⟨rfl, rfl⟩
              go_wp2_with fail
              refine (HQC.out _ hB).mono ?_
              rintro e w' ⟨rfl, rfl⟩
              go_wp2_with (at_builtin; refine wpList_append_own _ rfl _ _ 22 rfl w.heap.size 3 i0 (.int .i64 0) 1 8 Try.underlying22 hi hz0 hz1 hz2 rfl (by decide) _ _ _ rfl (hown.alloc _) ⟨wr.heap.size, 0, none⟩ 1 1 [.int .i64 (d)] rfl rfl ?a20_1 ?a20_2 ?a20_3 ?a20_4 ?a20_5 ?_)
              case a20_1 => exact one_cell _ _ _
              case a20_2 => first | rfl | (intro u hu; simp at hu; subst hu; rfl)
              case a20_3 => unfold maxLen; omega
              case a20_4 => omega
              case a20_5 => first | omega | (simp; omega)
              intro v' w1 hown' hgrow _
              have hB1 := (hB.alloc hsz (.cells #[.int .i64 (d)] 3)).grown hgrow (by simp; omega) (fun j hj => (hown.lt j hj).1)
              have HO := Lib.hid (show w1.ownsRow w.heap.size 3 1 v' (o ++ [d]).length (intsOf (o ++ [d])) by simpa [intsOf] using hown')
              clear hown' hgrow
              go_wp2_with fail
              go_roundw
              case rel => exact ⟨o.length + 1, o ++ [d], _, by simp, (by first | exact HNX.out.1 | exact HNX.out.1.imp id fun h => ⟨h.1, rfl⟩), by go_num, rfl, by omega, by omega, HAD.out, HST.out, HO.out, hB1⟩
              case measure => have := HNX.out.2; simpa [intOf] using this
            · go_wp2_with fail
              refine (HQA.out _ hB).mono ?_
              rintro e w' ⟨rfl, rfl⟩
              go_wp2_with fail
              refine (HQC.out _ hB).mono ?_
              rintro e w' ⟨rfl, rfl⟩
              go_wp2_with (at_builtin; refine wpList_append_own _ rfl _ _ 22 rfl w.heap.size 3 i0 (.int .i64 0) 1 8 Try.underlying22 hi hz0 hz1 hz2 rfl (by decide) _ _ _ rfl (hown.alloc _) ⟨wr.heap.size, 0, none⟩ 1 1 [.int .i64 (d)] rfl rfl ?a21_1 ?a21_2 ?a21_3 ?a21_4 ?a21_5 ?_)
              case a21_1 => exact one_cell _ _ _
              case a21_2 => first | rfl | (intro u hu; simp at hu; subst hu; rfl)
              case a21_3 => unfold maxLen; omega
              case a21_4 => omega
              case a21_5 => first | omega | (simp; omega)
              intro v' w1 hown' hgrow _
              have hB1 := (hB.alloc hsz (.cells #[.int .i64 (d)] 3)).grown hgrow (by simp; omega) (fun j hj => (hown.lt j hj).1)
              have HO := Lib.hid (show w1.ownsRow w.heap.size 3 1 v' (o ++ [d]).length (intsOf (o ++ [d])) by simpa [intsOf] using hown')
              clear hown' hgrow
              go_wp2_with fail
              go_roundw
              case rel => exact ⟨o.length + 1, o ++ [d], _, by simp, (by first | exact HNX.out.1 | exact HNX.out.1.imp id fun h => ⟨h.1, rfl⟩), by go_num, rfl, by omega, by omega, HAD.out, HST.out, HO.out, hB1⟩
              case measure => have := HNX.out.2; simpa [intOf] using this
            · go_wp2_with fail
              refine (HQA.out _ hB).mono ?_
              rintro e w' ⟨rfl, rfl⟩
              go_wp2_with fail
              refine (HQC.out _ hB).mono ?_
              rintro e w' ⟨rfl, rfl⟩
              go_wp2_with (at_builtin; refine wpList_append_own _ rfl _ _ 22 rfl w.heap.size 3 i0 (.int .i64 0) 1 8 Try.underlying22 hi hz0 hz1 hz2 rfl (by decide) _ _ _ rfl (hown.alloc _) ⟨wr.heap.size, 0, none⟩ 1 1 [.int .i64 (d)] rfl rfl ?a22_1 ?a22_2 ?a22_3 ?a22_4 ?a22_5 ?_)
              case a22_1 => exact one_cell _ _ _
              case a22_2 => first | rfl | (intro u hu; simp at hu; subst hu; rfl)
              case a22_3 => unfold maxLen; omega
              case a22_4 => omega
              case a22_5 => first | omega | (simp; omega)
              intro v' w1 hown' hgrow _
              have hB1 := (hB.alloc hsz (.cells #[.int .i64 (d)] 3)).grown hgrow (by simp; omega) (fun j hj => (hown.lt j hj).1)
              have HO := Lib.hid (show w1.ownsRow w.heap.size 3 1 v' (o ++ [d]).length (intsOf (o ++ [d])) by simpa [intsOf] using hown')
              clear hown' hgrow
              go_wp2_with fail
              go_roundw
              case rel => exact ⟨o.length + 1, o ++ [d], _, by simp, (by first | exact HNX.out.1 | exact HNX.out.1.imp id fun h => ⟨h.1, rfl⟩), by go_num, rfl, by omega, by omega, HAD.out, HST.out, HO.out, hB1⟩
              case measure => have := HNX.out.2; simpa [intOf] using this
        · have n1 : ¬ (o.length : Int) < a.length := by omega
          have n2 : ¬ (o.length : Int) < c.length := by omega
          have hy : y = 0 := by omega
          subst hy
          rw [List.drop_of_length_le (by omega), List.drop_of_length_le (by omega), bv_nil] at hE
          have hV : bv n o = S := by rw [hE]; simp
          have HC := Lib.hid (spec5Done_any _ o n w.heap.size wr hn1 hA hown (by omega))
          rw [hV] at HC
          obtain ⟨av, capv, rfl, _, _⟩ := owns_form hown
          clear hV hE hA hown hgo
          go_wp2_with fail
          refine HC.out.mono ?_
          rintro e w' ⟨v', rfl, ho, rfl⟩
          have HO := Lib.hid ho
          clear ho
          go_wp2_with fail
          go_ret2
          exact ⟨_, by rw [HE1.out]; rfl, by rw [HE0.out]; exact HO.out, hB⟩

end Go.Proofs.Ytdflpocnfodbhac
