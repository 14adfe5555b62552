/- Factorial places and permutations: the model's factorials and factorial digits. -/
import Derived.Test.YtdpeleepfjhefaaInts
import Derived.Test.YtdpeleepfjhefaaDgSpec
import Derived.Test.YtdpeleepfjhefaaLgSpec
import Derived.Test.YtdpeleepfjhefaaMpM
set_option linter.unusedVariables false
set_option linter.unusedSimpArgs false
set_option maxRecDepth 100000
namespace Go.Proofs.Ytdpeleepfjhefaa
open Go.ChangeShapes Go.WideShapes Go.ChangeAt Go.RowKit

theorem fct_le {k : Nat} (h : k ≤ 12) : 1 ≤ fct k ∧ fct k ≤ 479001600 := by
  have h4 : ∀ m : Fin 13, 1 ≤ fct m.1 ∧ fct m.1 ≤ 479001600 := by decide
  exact h4 ⟨k, by omega⟩
theorem fct_succ (k : Nat) : fct (k + 1) = fct k * ((k : Int) + 1) := by rw [fct, Int.mul_comm]

set_option maxHeartbeats 1000000 in
theorem specFct_any (n : Nat) (w : World) (hn : n ≤ 12) :
    Calls Try.prog 49 #[.int .i64 n] w fun e w' => e = .returned (.int .i64 (fct n)) ∧ w = w' := by
  have HL := Lib.hid (fun k (h : k ≤ 12) => fct_le h)
  go_enter Try.func49, Try.ntmps49
  go_wp2
  go_loop [3, 4] (fun x i => ∃ k : Nat, 1 ≤ k ∧ (k ≤ n ∨ k = 1) ∧ i = .int .i64 ((k : Int) + 1) ∧ x = .int .i64 (fct k)) (fun _ i => n + 1 - (intOf i).toNat)
  case atStart => exact ⟨1, by omega, .inr rfl, rfl, rfl⟩
  case round =>
    obtain ⟨k, hk1, hk, rfl, rfl⟩ := hrel
    by_cases hlt : k + 1 ≤ n
    · obtain ⟨f1, f2⟩ := HL.out k (by omega)
      obtain ⟨g1, g2⟩ := HL.out (k + 1) (by omega)
      have HS := Lib.hid (fct_succ k)
      rw [HS.out] at g1 g2
      obtain ⟨F, hF⟩ : ∃ F, F = fct k := ⟨_, rfl⟩
      rw [← hF] at f1 f2 g1 g2 HS ⊢
      clear hF
      go_wp2
      go_round
      case rel => exact ⟨k + 1, by omega, .inl hlt, by go_num, by rw [HS.out]⟩
      case measure => simp [intOf]; omega
    · have HF := Lib.hid (show fct k = fct n by
        rcases hk with h | h
        · have : k = n := by omega
          rw [this]
        · subst h
          have : n = 0 ∨ n = 1 := by omega
          rcases this with rfl | rfl <;> rfl)
      obtain ⟨F, hF⟩ : ∃ F, F = fct k := ⟨_, rfl⟩
      rw [← hF] at HF ⊢
      clear hF
      go_wp2
      go_ret
      exact ⟨by rw [← HF.out]; rfl, rfl⟩

def rFactorial0 (n : Int) : Int := if inB n 0 12 then fct n.toNat else -1
def rFactorialDigits0 (n m : Int) : List Int := if inB m 1 8 && inB n 0 (fct m.toNat - 1) then md n (fr m.toNat) else []
def okD8 (l : List Int) : Bool := decide (1 ≤ l.length) && (decide (l.length ≤ 8) && decide (∀ j (h : j < l.length), 0 ≤ l[j] ∧ l[j] ≤ j))
def rFactorialValue0 (l : List Int) : Int := if okD8 l then mv l (fr l.length) else -1
def okP (l : List Int) : Bool := decide (1 ≤ l.length) && (decide (l.length ≤ 8) && (decide (∀ x ∈ l, 0 ≤ x ∧ x ≤ (l.length : Int) - 1) && decide l.Nodup))
def rPermutationOk0 (l : List Int) : Bool := okP l
def rLehmerOf0 (l : List Int) : List Int := if okP l then leh l else []
def rRankOf0 (l : List Int) : Int := if okP l then mv (leh l) (fr l.length) else -1
def iot (m : Nat) : List Int := (List.range m).map fun k : Nat => (k : Int)
def rPermutationAt0 (n m : Int) : List Int := if inB m 1 8 && inB n 0 (fct m.toNat - 1) then pat (md n (fr m.toNat)).reverse (iot m.toNat) else []
def rNextPermutation0 (l : List Int) : List Int := if okP l then rPermutationAt0 (mv (leh l) (fr l.length) + 1) l.length else []
def rNextPermutation1 (l : List Int) : Bool := okP l && decide (mv (leh l) (fr l.length) + 1 < fct l.length)
def rCountInversions0 (l : List Int) : Int := if okP l then inv l else -1

theorem specFactorial_any (n : Int) (w : World) (hn : in64 n) :
    Calls Try.prog 26 #[.int .i64 n] w fun e w' => e = .returned (.int .i64 (rFactorial0 n)) ∧ Below w.heap.size w w' := by
  have HS := Lib.hid (fun W => sIn_any n 0 12 W)
  cases h : inB n 0 12
  · rw [h] at HS
    have E0 := Lib.hid (show rFactorial0 n = -1 by rw [rFactorial0, h]; rfl)
    clear h
    go_enter Try.func26, Try.ntmps26
    go_wp2_with fail
    refine (HS.out _).mono ?_
    rintro e w' ⟨rfl, rfl⟩
    go_wp2_with fail
    go_ret
    exact ⟨by rw [E0.out]; rfl, Below.refl _ _⟩
  · rw [h] at HS
    obtain ⟨n0, n12⟩ := inB_yes h
    obtain ⟨k, rfl⟩ : ∃ k : Nat, n = k := ⟨n.toNat, by omega⟩
    have E0 := Lib.hid (show rFactorial0 k = fct k by rw [rFactorial0, h]; rfl)
    have HF := Lib.hid (fun W => specFct_any k W (by omega))
    clear h
    go_enter Try.func26, Try.ntmps26
    go_wp2_with fail
    refine (HS.out _).mono ?_
    rintro e w' ⟨rfl, rfl⟩
    go_wp2_with fail
    refine (HF.out _).mono ?_
    rintro e w' ⟨rfl, rfl⟩
    go_wp2_with fail
    go_ret
    exact ⟨by rw [E0.out]; rfl, Below.refl _ _⟩

set_option maxHeartbeats 4000000 in
theorem specFactorialDigits_any (n m : Int) (w : World) (hn : in64 n) (hm : in64 m) :
    Calls Try.prog 27 #[.int .i64 n, .int .i64 m] w fun e w' => ∃ v', e = .returned v' ∧ w'.ownsRow w.heap.size 3 1 v' (rFactorialDigits0 n m).length (intsOf (rFactorialDigits0 n m)) ∧ Below w.heap.size w w' := by
  obtain ⟨i0, hi, hz0, hz1, hz2⟩ := info_parts infoInt
  have HS := Lib.hid (fun W => sIn_any m 1 8 W)
  have HNO := Lib.hid (fun w' (hB : Below w.heap.size w w') (h : (inB m 1 8 && inB n 0 (fct m.toNat - 1)) = false) => show ∃ v', Ending.returned (.slice none 0 0) = .returned v' ∧ w'.ownsRow w.heap.size 3 1 v' (rFactorialDigits0 n m).length (intsOf (rFactorialDigits0 n m)) ∧ Below w.heap.size w w' from by
    refine ⟨_, rfl, ?_, hB⟩
    rw [rFactorialDigits0, h]; exact World.ownsRow_nil _ _ _ _)
  cases h : inB m 1 8
  · rw [h] at HS
    have E0 := Lib.hid (show (inB m 1 8 && inB n 0 (fct m.toNat - 1)) = false by rw [h]; rfl)
    clear h
    go_enter Try.func27, Try.ntmps27
    go_wp2_with fail
    refine (HS.out _).mono ?_
    rintro e w' ⟨rfl, rfl⟩
    go_wp2_with fail
    go_ret
    exact HNO.out _ (Below.refl _ _) E0.out
  · rw [h] at HS
    obtain ⟨m1, m8⟩ := inB_yes h
    obtain ⟨k, rfl⟩ : ∃ k : Nat, m = k := ⟨m.toNat, by omega⟩
    obtain ⟨f1, f2⟩ := fct_le (show k ≤ 12 by omega)
    have HF := Lib.hid (fun W => specFct_any k W (by omega))
    have HM := Lib.hid h
    rw [Int.toNat_natCast] at HNO
    have ER := Lib.hid (show (inB n 0 (fct k - 1)) = true → rFactorialDigits0 n k = md n (fr k) from fun h2 => by rw [rFactorialDigits0, Int.toNat_natCast, h, h2]; rfl)
    have HNO' := Lib.hid (fun w' hB (h2 : inB n 0 (fct k - 1) = false) => HNO.out w' hB (by rw [h2, Bool.and_false]))
    have HQ := Lib.hid (fun j (hj : j < k) => And.intro (md_takeP (allP_fr k) (show j < (fr k).length by rw [fr_len]; exact hj) n) (And.intro (fr_get k (show j < (fr k).length by rw [fr_len]; exact hj)) (show rp ((fr k).take j) = fct j by rw [fr_take (by omega), rp_fr])))
    obtain ⟨F, hFe⟩ : ∃ F, F = fct k := ⟨_, rfl⟩
    rw [← hFe] at f1 f2 HF ER HNO'
    have HSN := Lib.hid (fun W => sIn_any n 0 (F - 1) W)
    clear h HNO hFe
    cases h2 : inB n 0 (F - 1)
    · rw [h2] at HSN
      have E1 := Lib.hid h2
      clear h2
      go_enter Try.func27, Try.ntmps27
      go_wp2_with fail
      refine (HS.out _).mono ?_
      rintro e w' ⟨rfl, rfl⟩
      go_wp2_with fail
      refine (HF.out _).mono ?_
      rintro e w' ⟨rfl, rfl⟩
      go_wp2_with fail
      refine (HSN.out _).mono ?_
      rintro e w' ⟨rfl, rfl⟩
      go_wp2_with fail
      go_ret
      exact HNO'.out _ (Below.refl _ _) E1.out
    · rw [h2] at HSN
      obtain ⟨n0, n1⟩ := inB_yes h2
      have E1 := Lib.hid (ER.out h2)
      clear h2
      go_enter Try.func27, Try.ntmps27
      go_wp2_with fail
      refine (HS.out _).mono ?_
      rintro e w' ⟨rfl, rfl⟩
      go_wp2_with fail
      refine (HF.out _).mono ?_
      rintro e w' ⟨rfl, rfl⟩
      go_wp2_with fail
      refine (HSN.out _).mono ?_
      rintro e w' ⟨rfl, rfl⟩
      go_wp2_with fail
      go_loopw [0, 5, 6] (fun x v i wr => ∃ j : Nat, 1 ≤ j ∧ j ≤ k ∧ i = .int .i64 j ∧ x = .int .i64 (n / fct j) ∧ wr.ownsRow w.heap.size 3 1 v j (intsOf (md n ((fr k).take j))) ∧ Below w.heap.size w wr) (fun _ _ i _ => k - (intOf i).toNat)
      case atStart =>
        refine ⟨1, by omega, by omega, rfl, by simp [fct], ?_, (Below.refl _ _).alloc (Nat.le_refl _) _⟩
        rw [fr_take (show 1 ≤ k by omega)]
        have := World.ownsRow_lit (base := w.heap.size) (e := 3) (size := 1) w #[.int .i64 0] 1 (Nat.le_refl _) (by decide) rfl
        simpa [fr, md, intsOf] using this
      case round =>
        obtain ⟨j, hj1, hjk, rfl, rfl, hown, hB⟩ := hrel
        have hsz := hB.size
        by_cases hlt : j < k
        · obtain ⟨h1, h2, h3⟩ := HQ.out j hlt
          have hfj := (fct_le (show j ≤ 12 by omega)).1
          have hq0 : 0 ≤ n / fct j := Int.ediv_nonneg n0 (by omega)
          have hq1 : n / fct j ≤ n := Int.ediv_le_self _ n0
          rw [h2, h3] at h1
          have HMD := Lib.hid h1
          have HDD := Lib.hid (show n / fct j / ((j : Int) + 1) = n / fct (j + 1) by rw [fct_succ, Int.ediv_ediv_of_nonneg (by omega)])
          obtain ⟨q, hq⟩ : ∃ q, q = n / fct j := ⟨_, rfl⟩
          rw [← hq] at hq0 hq1 HMD HDD ⊢
          obtain ⟨Q, hQ⟩ : ∃ Q, Q = md n ((fr k).take j) := ⟨_, rfl⟩
          rw [← hQ] at hown HMD
          have hqm : q.tmod ((j : Int) + 1) = q % ((j : Int) + 1) := Int.tmod_eq_emod_of_nonneg hq0
          have hqd : q.tdiv ((j : Int) + 1) = q / ((j : Int) + 1) := Int.tdiv_eq_ediv_of_nonneg hq0
          have g0 : 0 ≤ q % ((j : Int) + 1) := Int.emod_nonneg _ (by omega)
          have g1 : q % ((j : Int) + 1) < (j : Int) + 1 := Int.emod_lt_of_pos _ (by omega)
          have g2 : 0 ≤ q / ((j : Int) + 1) := Int.ediv_nonneg hq0 (by omega)
          have g3 : q / ((j : Int) + 1) ≤ q := Int.ediv_le_self _ hq0
          obtain ⟨Y, hY⟩ : ∃ Y, Y = q % ((j : Int) + 1) := ⟨_, rfl⟩
          obtain ⟨Z, hZ⟩ : ∃ Z, Z = q / ((j : Int) + 1) := ⟨_, rfl⟩
          rw [← hY] at hqm g0 g1 HMD
          rw [← hZ] at hqd g2 g3 HDD
          have hjn : ¬ (j : Int) + 1 = 0 := by omega
          have hjw : IntKind.i64.wrap ((j : Int) + 1) = (j : Int) + 1 := by rw [IntKind.wrap_i64]; omega
          clear h1 h2 h3 hq hQ hY hZ hfj
          go_wp2_with (at_builtin; refine wpList_append_own_at _ rfl _ _ 23 rfl w.heap.size 3 i0 (.int .i64 0) 1 8 Try.underlying23 hi hz0 hz1 hz2 rfl (by decide) _ _ _ rfl (hown.alloc _) ⟨wr.heap.size, 0, none⟩ 1 1 [.int .i64 Y] rfl rfl (one_cell _ _ _) (by intro u hu; simp at hu; subst hu; rfl) (by unfold maxLen; omega) (by omega) (by simp; omega) ?_)
          intro v' w1 hown' hgrow _ _
          have hB1 := (hB.alloc hsz _).grown hgrow (by simp; omega) (fun j hj => (hown.lt j hj).1)
          have HO := Lib.hid (show w1.ownsRow w.heap.size 3 1 v' (j + 1) (intsOf (Q ++ [Y])) by simpa [intsOf] using hown')
          clear hown' hgrow hown
          go_wp2_with fail
          go_roundw
          case rel => exact ⟨j + 1, by omega, hlt, by go_num, by rw [HDD.out], by rw [HMD.out]; exact HO.out, hB1⟩
          case measure => simp [intOf]; omega
        · have hjl : j = k := by omega
          subst hjl
          rw [show (fr j).take j = fr j from fr_take (Nat.le_refl _)] at hown
          have HO := Lib.hid (show wr.ownsRow w.heap.size 3 1 _ (rFactorialDigits0 n j).length (intsOf (rFactorialDigits0 n j)) by rw [E1.out, md_len, fr_len]; exact hown)
          obtain ⟨av, cv, e3, _, _⟩ := owns_form hown
          subst e3
          clear hown
          go_wp2_with fail
          go_ret
          exact ⟨_, rfl, HO.out, hB⟩

end Go.Proofs.Ytdpeleepfjhefaa
