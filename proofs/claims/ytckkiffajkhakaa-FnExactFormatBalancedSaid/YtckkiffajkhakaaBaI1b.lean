/- Balanced digits: the program's test of digits, and the digits of an integer. -/
import Derived.Test.YtckkiffajkhakaaInts
import Derived.Test.YtckkiffajkhakaaDgSpec
import Derived.Test.YtckkiffajkhakaaLgSpec
import Derived.Test.YtckkiffajkhakaaNgNext
import Derived.Test.YtckkiffajkhakaaBaI1
set_option linter.unusedVariables false
set_option linter.unusedSimpArgs false
namespace Go.Proofs.Ytckkiffajkhakaa
open Go.ChangeShapes Go.WideShapes Go.ChangeAt Go.RowKit

set_option maxHeartbeats 2000000 in
theorem implBal_eq (v : Value) (l : List Int) (b : Int) (w : World) (hr : RowAt w v (intsOf l)) (hl : l.length ≤ 1048576) (hi : ∀ n ∈ l, in64 n) (hb : in64 b) :
    Calls Try.prog 34 #[v, .int .i64 b] w fun e w' => e = .returned (.bool (okW l b)) ∧ w = w' := by
  obtain ⟨a, cap, rfl, h1, h2, h3⟩ := hr.ints
  unfold maxLen at h2
  have HI := Lib.hid hi
  have HC := Lib.hid (fun W => baseB_any b W hb)
  clear hi
  cases hok : okE b
  · have HK := Lib.hid (okW_base (l := l) hok)
    rw [hok] at HC
    clear hok
    go_enter Try.func34, Try.ntmps34
    go_wp2_with (go_at_call 68; refine (HC.out _).mono ?_; rintro e w' ⟨rfl, rfl⟩)
    go_ret
    exact ⟨ret_bool HK.out.symm, rfl⟩
  · obtain ⟨h, hbe, hh1, hh7⟩ := okE_yes hok
    have q1 : b / 2 = (h : Int) := by omega
    rw [hok] at HC
    have HG := Lib.hid (fun W => greatest_any h b W hbe hh7)
    have HOK := Lib.hid hok
    have HBE := Lib.hid hbe
    clear hok hbe hb
    by_cases h60 : 60 < l.length
    · have HK := Lib.hid (okW_long (b := b) h60)
      go_enter Try.func34, Try.ntmps34
      go_wp2_with (go_at_call 68; refine (HC.out _).mono ?_; rintro e w' ⟨rfl, rfl⟩)
      go_ret
      exact ⟨ret_bool HK.out.symm, rfl⟩
    · have h60' : l.length ≤ 60 := by omega
      go_enter Try.func34, Try.ntmps34
      go_wp2_with (first
        | (go_at_call 68; refine (HC.out _).mono ?_; rintro e w' ⟨rfl, rfl⟩)
        | (go_at_call 74; refine (HG.out _).mono ?_; rintro e w' ⟨rfl, rfl⟩))
      go_loop [20] (fun i => ∃ k : Nat, k ≤ l.length ∧ i = .int .i64 k ∧ ∀ j (hj : j < l.length), j < k → -(h : Int) ≤ l[j] ∧ l[j] ≤ h) (fun i => l.length - (intOf i).toNat)
      case atStart => exact ⟨0, Nat.zero_le _, rfl, fun j hj k => by omega⟩
      case round =>
        obtain ⟨k, hk, rfl, hall⟩ := hrel
        have HA := Lib.hid hall; clear hall
        by_cases hlt : k < l.length
        · obtain ⟨b', off, rfl, hbb, hcell⟩ := h3.resolve_left (fun e => by rw [e] at hlt; simp at hlt)
          have hc := hcell k hlt
          have hin := HI.out _ (List.getElem_mem hlt)
          clear h3 hcell
          by_cases d1 : l[k] < -(h : Int)
          · have HK := Lib.hid (okW_at (b := b) hlt (by rw [q1]; simp [inB]; omega))
            obtain ⟨d, hd'⟩ : ∃ d, d = l[k] := ⟨_, rfl⟩
            rw [← hd'] at hc hin d1
            have hin1 := hin.1
            clear hd' hin
            go_wp2
            go_ret
            exact ⟨ret_bool HK.out.symm, rfl⟩
          · by_cases d2 : (h : Int) < l[k]
            · have HK := Lib.hid (okW_at (b := b) hlt (by rw [q1]; simp [inB]; omega))
              obtain ⟨d, hd'⟩ : ∃ d, d = l[k] := ⟨_, rfl⟩
              rw [← hd'] at hc hin d1 d2
              have hin1 := hin.2
              clear hd' hin
              go_wp2
              go_ret
              exact ⟨ret_bool HK.out.symm, rfl⟩
            · have HD := Lib.hid (show -(h : Int) ≤ l[k] ∧ l[k] ≤ h by omega)
              obtain ⟨d, hd'⟩ : ∃ d, d = l[k] := ⟨_, rfl⟩
              rw [← hd'] at hc hin d1 d2 HD
              have HD' := Lib.hid hd'
              clear hd' hin
              go_wp2
              go_round
              case rel =>
                refine ⟨k + 1, hlt, by go_num, fun j hj' hj => ?_⟩
                by_cases e : j = k
                · subst e; have := HD.out; rw [HD'.out] at this; exact this
                · exact HA.out j hj' (by omega)
              case measure => simp [intOf]; omega
        · have HE := Lib.hid (okW_end (l := l) HOK.out h60' (fun d hd => by
            obtain ⟨j, hj, rfl⟩ := List.getElem_of_mem hd
            rw [q1]
            exact HA.out j hj (by omega)))
          by_cases h0 : l.length = 0
          · have hnil : l = [] := List.eq_nil_of_length_eq_zero h0
            have HF := Lib.hid (show okW l b = true by rw [HE.out]; simp [hnil])
            have hz : ((l.length : Int) == 0) = true := by simp [hnil]
            clear h3 hnil h0
            go_wp2
            go_ret
            exact ⟨ret_bool HF.out.symm, rfl⟩
          · obtain ⟨m, hm⟩ : ∃ m, l.length = m + 1 := ⟨l.length - 1, by omega⟩
            obtain ⟨b', off, rfl, hbb, hcell⟩ := h3.resolve_left (fun e => by rw [e] at h0; simp at h0)
            have hml : m < l.length := by omega
            have hc := hcell m hml
            have HF := Lib.hid (show okW l b = (l[m] != 0) by
              rw [HE.out]; exact last_test hm hml)
            have hz : ((m : Int) + 1 == 0) = false := beq_false_of_ne (by omega)
            have hpos : (1 : Int) ≤ l.length := by omega
            have hix : ((l.length : Int) - 1).toNat = m := by omega
            clear h3 hcell
            go_wp2
            go_ret
            exact ⟨ret_bool HF.out.symm, rfl⟩

theorem implBalancedOk_any (v : Value) (l : List Int) (b : Int) (w : World) (hr : RowAt w v (intsOf l)) (hl : l.length ≤ 1048576) (hi : ∀ n ∈ l, in64 n) (hb : in64 b) :
    Calls Try.prog 34 #[v, .int .i64 b] w fun e w' => e = .returned (.bool (rBalancedOk0 l b)) ∧ Below w.heap.size w w' := by
  refine (implBal_eq v l b w hr hl hi hb).mono ?_
  rintro e w' ⟨rfl, rfl⟩
  exact ⟨rfl, Below.refl _ _⟩

set_option maxHeartbeats 4000000 in
theorem implBalancedDigits_any (n b : Int) (w : World) (hn : in64 n) (hb : in64 b) :
    Calls Try.prog 28 #[.int .i64 n, .int .i64 b] w fun e w' => ∃ v, e = .returned v ∧ w'.ownsRow w.heap.size 3 1 v (rBalancedDigits0 n b).length (intsOf (rBalancedDigits0 n b)) ∧ Below w.heap.size w w' := by
  have H1 := Lib.hid (baseB_any b w hb)
  have H2 := Lib.hid (within_any n w hn)
  have HI := Lib.hid (And.intro hn hb)
  clear hn hb
  cases h : okE b
  · rw [h] at H1
    have E0 := Lib.hid (show rBalancedDigits0 n b = [] by rw [rBalancedDigits0, h]; rfl)
    clear h
    go_enter Try.func28, Try.ntmps28
    go_wp2_with (go_at_call 68; refine H1.out.mono ?_; rintro e w' ⟨rfl, rfl⟩)
    go_ret
    exact ⟨_, rfl, by rw [E0.out]; exact World.ownsRow_nil _ _ _ _, Below.refl _ _⟩
  · rw [h] at H1
    cases h2 : inN n
    · rw [h2] at H2
      have E0 := Lib.hid (show rBalancedDigits0 n b = [] by rw [rBalancedDigits0, h, h2]; rfl)
      clear h h2
      go_enter Try.func28, Try.ntmps28
      go_wp2_with (first
        | (go_at_call 68; refine H1.out.mono ?_; rintro e w' ⟨rfl, rfl⟩)
        | (go_at_call 61; refine H2.out.mono ?_; rintro e w' ⟨rfl, rfl⟩))
      go_ret
      exact ⟨_, rfl, by rw [E0.out]; exact World.ownsRow_nil _ _ _ _, Below.refl _ _⟩
    · rw [h2] at H2
      obtain ⟨k, hbe, h1, h7⟩ := okE_yes h
      obtain ⟨hn1, hn2⟩ := inN_yes h2
      have E0 := Lib.hid (show rBalancedDigits0 n b = bd k n by rw [rBalancedDigits0, h, h2, hbe, hOf_eq]; rfl)
      have HLN := Lib.hid (bd_len41 h1 hn1 hn2)
      obtain ⟨L, hL⟩ : ∃ L, L = bd k n := ⟨_, rfl⟩
      rw [← hL] at HLN E0
      have HL := Lib.hid hL
      have HBE := Lib.hid hbe
      have HPL := Lib.hid (fun x W hx1 hx2 => placeB_any x k b W h1 h7 hbe hx1 hx2)
      obtain ⟨i0, hi, hz0, hz1, hz2⟩ := info_parts infoInt
      clear h h2 hL hbe
      go_enter Try.func28, Try.ntmps28
      go_wp2_with (first
        | (go_at_call 68; refine H1.out.mono ?_; rintro e w' ⟨rfl, rfl⟩)
        | (go_at_call 61; refine H2.out.mono ?_; rintro e w' ⟨rfl, rfl⟩))
      go_loopw [5, 6] (fun v m wr => ∃ (x : Int) (o : List Int), m = .int .i64 x ∧ -1000000000000 ≤ x ∧ x ≤ 1000000000000 ∧ o ++ bd k x = L ∧ wr.ownsRow w.heap.size 3 1 v o.length (intsOf o) ∧ Below w.heap.size w wr) (fun _ m _ => (intOf m).natAbs)
      case atStart => exact ⟨n, [], rfl, hn1, hn2, by rw [HL.out]; rfl, World.ownsRow_lit w #[] 0 (Nat.le_refl _) (by decide) rfl, (Below.refl _ _).alloc (Nat.le_refl _) _⟩
      case round =>
        obtain ⟨x, o, rfl, hx1, hx2, he, hown, hB⟩ := hrel
        have hsz := hB.size
        by_cases h0 : x = 0
        · subst h0
          rw [bd_zero, List.append_nil] at he
          have HE := Lib.hid (show o = L from he)
          have HO := Lib.hid hown
          obtain ⟨av, cv, e3, _, _⟩ := owns_form hown
          subst e3
          clear he hown
          go_wp2_with fail
          go_ret
          exact ⟨_, rfl, by rw [E0.out, ← HE.out]; exact HO.out, hB⟩
        · have hq : (x != 0) = true := by simp [h0]
          have hqb := bd_quo h1 x
          have hlt := bd_lt h1 h0
          rw [bd_step h1 h0] at he
          have hol : o.length < L.length := by rw [← he]; simp
          have hol2 : o.length ≤ 42 := by have := HLN.out; omega
          have HSTP := Lib.hid (show (o ++ [pdg k x]) ++ bd k (pqo k x) = L by rw [← he, List.append_assoc]; rfl)
          obtain ⟨p, hp⟩ : ∃ p, p = pqo k x := ⟨_, rfl⟩
          rw [show (x + (k : Int)) / (2 * (k : Int) + 1) = p from hp.symm] at hqb hlt
          have HCL := Lib.hid (HPL.out x wr (by omega) (by omega))
          obtain ⟨d, hd⟩ : ∃ d, d = pdg k x := ⟨_, rfl⟩
          rw [← hp, ← hd] at HSTP HCL
          have hp1 : -1000000000000 ≤ p := by omega
          have hp2 : p ≤ 1000000000000 := by omega
          have HP := Lib.hid hp
          clear he hd hp hqb
          go_wp2_with fail
          refine HCL.out.mono ?_
          rintro e w1 ⟨rfl, nq, rfl⟩
          have hBd := below_drewN hB nq
          have hownd : (wr.drewN nq).ownsRow w.heap.size 3 1 _ o.length (intsOf o) := hown
          go_wp2_with (at_builtin; refine wpList_append_own _ rfl _ _ 24 rfl w.heap.size 3 i0 (.int .i64 0) 1 8 Try.underlying24 hi hz0 hz1 hz2 rfl (by decide) _ _ _ rfl (hownd.alloc _) ⟨(wr.drewN nq).heap.size, 0, none⟩ 1 1 [.int .i64 d] rfl rfl ?c1 ?c2 ?c3 ?c4 ?c5 ?_)
          case c1 => exact one_cell _ _ _
          case c2 => intro u hu; simp at hu; subst hu; rfl
          case c3 => unfold maxLen; omega
          case c4 => omega
          case c5 => simp; omega
          intro v' w2 hown' hgrow _
          have hB2 := (hBd.alloc hsz (.cells #[.int .i64 d] 3)).grown hgrow (by simp; omega) (fun j hj => (hown.lt j hj).1)
          have HO2 := Lib.hid (show w2.ownsRow w.heap.size 3 1 v' (o ++ [d]).length (intsOf (o ++ [d])) by simpa [intsOf] using hown')
          clear hown' hgrow hown hownd hB hBd
          go_wp2_with fail
          go_roundw
          case rel => exact ⟨p, o ++ [d], rfl, hp1, hp2, HSTP.out, HO2.out, hB2⟩
          case measure => simpa [intOf] using hlt

end Go.Proofs.Ytckkiffajkhakaa
