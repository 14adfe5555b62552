/- Balanced digits: the program's test of digits, and the digits of an integer. -/
import Derived.Test.YtdflpocnfodbhaaWithin
import Derived.Test.YtdflpocnfodbhaaNgNext
import Derived.Test.YtdflpocnfodbhaaBaI1
set_option linter.unusedVariables false
set_option linter.unusedSimpArgs false
set_option maxRecDepth 100000
namespace Go.Proofs.Ytdflpocnfodbhaa
open Go.ChangeShapes Go.WideShapes Go.ChangeAt Go.RowKit

theorem greatest_some (b : Int) (w : World) :
    Calls Try.prog 109 #[.int .i64 b] w fun e w' => ∃ h, e = .returned (.int .i64 h) ∧ w' = w := by
  go_enter Try.func109, Try.ntmps109
  go_wp2
  go_ret
  exact ⟨_, rfl, rfl⟩
theorem okW_okR {l : List Int} {b : Int} {h : Nat} (hok : okE b = true) (hb : b = 2 * (h : Int) + 1) : okW l b = okIn l (-(h : Int)) h := by
  subst hb
  simp only [okW, okIn, hok, Bool.true_and, half_eq]

set_option maxHeartbeats 1000000 in
theorem implBal_eq (v : Value) (l : List Int) (b : Int) (w : World) (hr : RowAt w v (intsOf l)) (hl : l.length ≤ 1048576) (hi : ∀ n ∈ l, in64 n) (hb : in64 b) :
    Calls Try.prog 50 #[v, .int .i64 b] w fun e w' => e = .returned (.bool (okW l b)) ∧ w = w' := by
  have HC := Lib.hid (fun W => baseB_any b W hb)
  have HWI := Lib.hid (fun h : Nat => withinR_any v l (-(h : Int)) h w hr hl)
  obtain ⟨a, cap, rfl, h1, h2, h3⟩ := hr.ints
  clear h3 hr hi hb
  cases hok : okE b
  · have HK := Lib.hid (okW_base (l := l) hok)
    have HG := Lib.hid (fun W => greatest_some b W)
    rw [hok] at HC
    clear hok
    go_enter Try.func50, Try.ntmps50
    go_wp2_with fail
    refine (HG.out _).mono ?_
    rintro e w' ⟨g, rfl, rfl⟩
    go_wp2_with fail
    refine (HC.out _).mono ?_
    rintro e w' ⟨rfl, rfl⟩
    go_wp2_with fail
    go_ret
    exact ⟨ret_bool HK.out.symm, rfl⟩
  · obtain ⟨h, hbe, hh1, hh7⟩ := okE_yes hok
    have HK := Lib.hid (okW_okR (l := l) hok hbe)
    have HG := Lib.hid (fun W => greatest_any h b W hbe hh7)
    have HW := Lib.hid (HWI.out h)
    rw [hok] at HC
    clear hok hbe
    go_enter Try.func50, Try.ntmps50
    go_wp2_with fail
    refine (HG.out _).mono ?_
    rintro e w' ⟨rfl, rfl⟩
    go_wp2_with fail
    refine (HC.out _).mono ?_
    rintro e w' ⟨rfl, rfl⟩
    go_wp2_with fail
    refine HW.out.mono ?_
    rintro e w' ⟨rfl, rfl⟩
    go_wp2_with fail
    go_ret
    exact ⟨ret_bool HK.out.symm, rfl⟩

theorem implBalancedOk_any (v : Value) (l : List Int) (b : Int) (w : World) (hr : RowAt w v (intsOf l)) (hl : l.length ≤ 1048576) (hi : ∀ n ∈ l, in64 n) (hb : in64 b) :
    Calls Try.prog 50 #[v, .int .i64 b] w fun e w' => e = .returned (.bool (rBalancedOk0 l b)) ∧ Below w.heap.size w w' := by
  refine (implBal_eq v l b w hr hl hi hb).mono ?_
  rintro e w' ⟨rfl, rfl⟩
  exact ⟨rfl, Below.refl _ _⟩

set_option maxHeartbeats 4000000 in
theorem implBalancedDigits_any (n b : Int) (w : World) (hn : in64 n) (hb : in64 b) :
    Calls Try.prog 45 #[.int .i64 n, .int .i64 b] w fun e w' => ∃ v, e = .returned v ∧ w'.ownsRow w.heap.size 3 1 v (rBalancedDigits0 n b).length (intsOf (rBalancedDigits0 n b)) ∧ Below w.heap.size w w' := by
  have H1 := Lib.hid (baseB_any b w hb)
  have H2 := Lib.hid (within_any n w hn)
  have HI := Lib.hid (And.intro hn hb)
  clear hn hb
  cases h : okE b
  · rw [h] at H1
    have E0 := Lib.hid (show rBalancedDigits0 n b = [] by rw [rBalancedDigits0, h]; rfl)
    clear h
    go_enter Try.func45, Try.ntmps45
    go_wp2_with (go_at_call 105; refine H1.out.mono ?_; rintro e w' ⟨rfl, rfl⟩)
    go_ret
    exact ⟨_, rfl, by rw [E0.out]; exact World.ownsRow_nil _ _ _ _, Below.refl _ _⟩
  · rw [h] at H1
    cases h2 : inN n
    · rw [h2] at H2
      have E0 := Lib.hid (show rBalancedDigits0 n b = [] by rw [rBalancedDigits0, h, h2]; rfl)
      clear h h2
      go_enter Try.func45, Try.ntmps45
      go_wp2_with (first
        | (go_at_call 105; refine H1.out.mono ?_; rintro e w' ⟨rfl, rfl⟩)
        | (go_at_call 98; refine H2.out.mono ?_; rintro e w' ⟨rfl, rfl⟩))
      go_ret
      exact ⟨_, rfl, by rw [E0.out]; exact World.ownsRow_nil _ _ _ _, Below.refl _ _⟩
    · rw [h2] at H2
      obtain ⟨k, hbe, h1, h7⟩ := okE_yes h
      obtain ⟨hn1, hn2⟩ := inN_yes h2
      have E0 := Lib.hid (show rBalancedDigits0 n b = bd k n by rw [rBalancedDigits0, h, h2, hbe, hOf_eq]; rfl)
      have HLN := Lib.hid (bd_len41 h1 hn1 hn2)
      obtain ⟨L, hL⟩ : ∃ L, L = bd k n := ⟨_, rfl⟩
      rw [← hL] at HLN E0
      have HL := Lib.hid hL
      have HBE := Lib.hid hbe
      have HPL := Lib.hid (fun x W hx1 hx2 => placeB_any x k b W h1 h7 hbe hx1 hx2)
      obtain ⟨i0, hi, hz0, hz1, hz2⟩ := info_parts infoInt
      clear h h2 hL hbe
      go_enter Try.func45, Try.ntmps45
      go_wp2_with (first
        | (go_at_call 105; refine H1.out.mono ?_; rintro e w' ⟨rfl, rfl⟩)
        | (go_at_call 98; refine H2.out.mono ?_; rintro e w' ⟨rfl, rfl⟩))
      go_loopw [5, 6] (fun v m wr => ∃ (x : Int) (o : List Int), m = .int .i64 x ∧ -1000000000000 ≤ x ∧ x ≤ 1000000000000 ∧ o ++ bd k x = L ∧ wr.ownsRow w.heap.size 3 1 v o.length (intsOf o) ∧ Below w.heap.size w wr) (fun _ m _ => (intOf m).natAbs)
      case atStart => exact ⟨n, [], rfl, hn1, hn2, by rw [HL.out]; rfl, World.ownsRow_lit w #[] 0 (Nat.le_refl _) (by decide) rfl, (Below.refl _ _).alloc (Nat.le_refl _) _⟩
      case round =>
        obtain ⟨x, o, rfl, hx1, hx2, he, hown, hB⟩ := hrel
        have hsz := hB.size
        by_cases h0 : x = 0
        · subst h0
          rw [bd_zero, List.append_nil] at he
          have HE := Lib.hid (show o = L from he)
          have HO := Lib.hid hown
          obtain ⟨av, cv, e3, _, _⟩ := owns_form hown
          subst e3
          clear he hown
          go_wp2_with fail
          go_ret
          exact ⟨_, rfl, by rw [E0.out, ← HE.out]; exact HO.out, hB⟩
        · have hq : (x != 0) = true := by simp [h0]
          have hqb := bd_quo h1 x
          have hlt := bd_lt h1 h0
          rw [bd_step h1 h0] at he
          have hol : o.length < L.length := by rw [← he]; simp
          have hol2 : o.length ≤ 42 := by have := HLN.out; omega
          have HSTP := Lib.hid (show (o ++ [pdg k x]) ++ bd k (pqo k x) = L by rw [← he, List.append_assoc]; rfl)
          obtain ⟨p, hp⟩ : ∃ p, p = pqo k x := ⟨_, rfl⟩
          rw [show (x + (k : Int)) / (2 * (k : Int) + 1) = p from hp.symm] at hqb hlt
          have HCL := Lib.hid (HPL.out x wr (by omega) (by omega))
          obtain ⟨d, hd⟩ : ∃ d, d = pdg k x := ⟨_, rfl⟩
          rw [← hp, ← hd] at HSTP HCL
          have hp1 : -1000000000000 ≤ p := by omega
          have hp2 : p ≤ 1000000000000 := by omega
          have HP := Lib.hid hp
          clear he hd hp hqb
          go_wp2_with fail
          refine HCL.out.mono ?_
          rintro e w1 ⟨rfl, nq, rfl⟩
          have hBd := below_drewN hB nq
          have hownd : (wr.drewN nq).ownsRow w.heap.size 3 1 _ o.length (intsOf o) := hown
          go_wp2_with (at_builtin; refine wpList_append_own _ rfl _ _ 24 rfl w.heap.size 3 i0 (.int .i64 0) 1 8 Try.underlying24 hi hz0 hz1 hz2 rfl (by decide) _ _ _ rfl (hownd.alloc _) ⟨(wr.drewN nq).heap.size, 0, none⟩ 1 1 [.int .i64 d] rfl rfl ?c1 ?c2 ?c3 ?c4 ?c5 ?_)
          case c1 => exact one_cell _ _ _
          case c2 => intro u hu; simp at hu; subst hu; rfl
          case c3 => unfold maxLen; omega
          case c4 => omega
          case c5 => simp; omega
          intro v' w2 hown' hgrow _
          have hB2 := (hBd.alloc hsz (.cells #[.int .i64 d] 3)).grown hgrow (by simp; omega) (fun j hj => (hown.lt j hj).1)
          have HO2 := Lib.hid (show w2.ownsRow w.heap.size 3 1 v' (o ++ [d]).length (intsOf (o ++ [d])) by simpa [intsOf] using hown')
          clear hown' hgrow hown hownd hB hBd
          go_wp2_with fail
          go_roundw
          case rel => exact ⟨p, o ++ [d], rfl, hp1, hp2, HSTP.out, HO2.out, hB2⟩
          case measure => simpa [intOf] using hlt

end Go.Proofs.Ytdflpocnfodbhaa
