/- Long numbers: the program divides two lists of digits. -/
import Derived.Test.YtdflpocnfodbhabDgImp
import Derived.Test.YtdflpocnfodbhabLgV
set_option linter.unusedVariables false
set_option linter.unusedSimpArgs false
set_option maxRecDepth 100000
namespace Go.Proofs.Ytdflpocnfodbhab
open Go.ChangeShapes Go.WideShapes Go.ChangeAt Go.RowKit

set_option maxHeartbeats 2000000 in
theorem implDivideDigits_any (va : Value) (a : List Int) (vc : Value) (c : List Int) (b : Int) (w : World) (hra : RowAt w va (intsOf a)) (hl : a.length ≤ 1048576) (hia : ∀ n ∈ a, in64 n) (hrc : RowAt w vc (intsOf c)) (hl' : c.length ≤ 1048576) (hic : ∀ n ∈ c, in64 n) (hb : in64 b) :
    Calls Try.prog 20 #[va, vc, .int .i64 b] w fun e w' => ∃ v0 v1, e = .returned (.tuple #[v0, v1, .bool (rDivideDigits2 a c b)]) ∧ w'.ownsRow w.heap.size 3 1 v0 (rDivideDigits0 a c b).length (intsOf (rDivideDigits0 a c b)) ∧ w'.ownsRow w.heap.size 3 1 v1 (rDivideDigits1 a c b).length (intsOf (rDivideDigits1 a c b)) ∧ Apart v0 v1 ∧ Below w.heap.size w w' := by
  have H1 := Lib.hid (implDigitsOk_any va a b w hra hl hia hb)
  have H2 := Lib.hid (implDigitsOk_any vc c b w hrc hl' hic hb)
  have none : ∀ w', Below w.heap.size w w' → rDivideDigits2 a c b = false → ∃ v0 v1, Ending.returned (.tuple #[.slice none 0 0, .slice none 0 0, .bool false]) = .returned (.tuple #[v0, v1, .bool (rDivideDigits2 a c b)]) ∧ w'.ownsRow w.heap.size 3 1 v0 (rDivideDigits0 a c b).length (intsOf (rDivideDigits0 a c b)) ∧ w'.ownsRow w.heap.size 3 1 v1 (rDivideDigits1 a c b).length (intsOf (rDivideDigits1 a c b)) ∧ Apart v0 v1 ∧ Below w.heap.size w w' := fun w' hB h =>
    ⟨_, _, by rw [h], by rw [rDivideDigits0, h]; exact World.ownsRow_nil _ _ _ _, by rw [rDivideDigits1, h]; exact World.ownsRow_nil _ _ _ _, fun k hk => by simp [Value.ownBlock] at hk, hB⟩
  have HNO := Lib.hid none
  clear none
  have HRC := Lib.hid hrc
  obtain ⟨ac, cap', rfl, h1', h2', h3'⟩ := hrc.ints
  unfold maxLen at h2'
  clear h3' hrc
  cases h : okD a b
  · rw [h] at H1
    have E := Lib.hid (HNO.out w (Below.refl _ _) (by rw [rDivideDigits2, h]; rfl))
    clear h
    go_enter Try.func20, Try.ntmps20
    go_wp2_with fail
    refine H1.out.mono ?_
    rintro e w' ⟨rfl, rfl⟩
    go_wp2_with fail
    go_ret3
    exact E.out
  · rw [h] at H1
    cases h2 : okD c b
    · rw [h2] at H2
      have E := Lib.hid (HNO.out w (Below.refl _ _) (by rw [rDivideDigits2, h, h2]; rfl))
      clear h h2
      go_enter Try.func20, Try.ntmps20
      go_wp2_with fail
      refine H1.out.mono ?_
      rintro e w' ⟨rfl, rfl⟩
      go_wp2_with fail
      refine H2.out.mono ?_
      rintro e w' ⟨rfl, rfl⟩
      go_wp2_with fail
      go_ret3
      exact E.out
    · rw [h2] at H2
      by_cases h0 : c.length = 0
      · have hq : ((c.length : Int) == 0) = true := by simp [h0]
        have E := Lib.hid (HNO.out w (Below.refl _ _) (by rw [rDivideDigits2, h, h2, Bool.true_and, Bool.true_and]; exact decide_eq_false (fun e => e (List.eq_nil_of_length_eq_zero h0))))
        clear h h2 h0
        go_enter Try.func20, Try.ntmps20
        go_wp2_with fail
        refine H1.out.mono ?_
        rintro e w' ⟨rfl, rfl⟩
        go_wp2_with fail
        refine H2.out.mono ?_
        rintro e w' ⟨rfl, rfl⟩
        go_wp2_with fail
        go_ret3
        exact E.out
      · have hq : ((c.length : Int) == 0) = false := by simpa using h0
        have hne : c ≠ [] := fun e => h0 (by rw [e]; rfl)
        obtain ⟨n, rfl, hn2, hn16, hNa, hla⟩ := nat_of_ok h
        have hNc := okD_nrm h2
        have hlc := (okD_yes h2).2.1
        have hpos : 0 < vl n c := by
          have h1 := hv_ge hn2 hNc.1 hne (hNc.2.resolve_left hne)
          have h2 := pow_pos' hn2 (c.length - 1)
          have h3 := vl_cast hNc.1
          omega
        have HDV := Lib.hid (implDivide_any va (.slice ac c.length cap') a c n w hn2 hn16 hNa hNc hpos hra HRC.out (by omega) (by omega))
        have E2 := Lib.hid (show rDivideDigits2 a c n = true by rw [rDivideDigits2, h, h2, Bool.true_and, Bool.true_and]; exact decide_eq_true hne)
        have E0 := Lib.hid (show rDivideDigits0 a c n = dg n (vl n a / vl n c) by rw [rDivideDigits0, E2.out, vlI_nat, vlI_nat, dgI_nat]; rfl)
        have E1 := Lib.hid (show rDivideDigits1 a c n = dg n (vl n a % vl n c) by rw [rDivideDigits1, E2.out, vlI_nat, vlI_nat, dgI_nat]; rfl)
        rw [← E0.out, ← E1.out] at HDV
        clear h h2 hNa hNc hra hia hic h0 hne hpos
        go_enter Try.func20, Try.ntmps20
        go_wp2_with fail
        refine H1.out.mono ?_
        rintro e w' ⟨rfl, rfl⟩
        go_wp2_with fail
        refine H2.out.mono ?_
        rintro e w' ⟨rfl, rfl⟩
        go_wp2_with fail
        refine HDV.out.mono ?_
        rintro e w1 ⟨q, r, rfl, hoq, hor, hap, hB⟩
        have HOQ := Lib.hid hoq; have HOR := Lib.hid hor; have HAP := Lib.hid hap
        clear hoq hor hap
        go_wp2_with fail
        go_ret3
        exact ⟨_, _, by rw [E2.out]; rfl, HOQ.out, HOR.out, HAP.out, hB⟩

end Go.Proofs.Ytdflpocnfodbhab
