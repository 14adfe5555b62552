/- Permutations: the program's factorials, factorial digits and their value. -/
import Derived.Test.YtdpeleepfjhefaaMpVal
import Derived.Test.YtdpeleepfjhefaaMpLk
set_option linter.unusedVariables false
set_option linter.unusedSimpArgs false
set_option maxRecDepth 100000
namespace Go.Proofs.Ytdpeleepfjhefaa
open Go.ChangeShapes Go.WideShapes Go.ChangeAt Go.RowKit

set_option maxHeartbeats 1000000 in
theorem implFct_any (n : Nat) (w : World) (hn : n ≤ 12) :
    Calls Try.prog 17 #[.int .i64 n] w fun e w' => e = .returned (.int .i64 (fct n)) ∧ w = w' := by
  have HL := Lib.hid (fun k (h : k ≤ 12) => fct_le h)
  have hn12 : (n : Int) ≤ 12 := by omega
  go_enter Try.func17, Try.ntmps17
  go_wp2
  go_loop [3, 4] (fun x i => ∃ k : Nat, 1 ≤ k ∧ (k ≤ n ∨ k = 1) ∧ i = .int .i64 ((k : Int) + 1) ∧ x = .int .i64 (fct k)) (fun _ i => n + 1 - (intOf i).toNat)
  case atStart => exact ⟨1, by omega, .inr rfl, rfl, rfl⟩
  case round =>
    obtain ⟨k, hk1, hk, rfl, rfl⟩ := hrel
    by_cases hlt : k + 1 ≤ n
    · obtain ⟨f1, f2⟩ := HL.out k (by omega)
      obtain ⟨g1, g2⟩ := HL.out (k + 1) (by omega)
      have HS := Lib.hid (fct_succ k)
      rw [HS.out] at g1 g2
      obtain ⟨F, hF⟩ : ∃ F, F = fct k := ⟨_, rfl⟩
      rw [← hF] at f1 f2 g1 g2 HS ⊢
      clear hF
      go_wp2
      go_round
      case rel => exact ⟨k + 1, by omega, .inl hlt, by go_num, by rw [HS.out]⟩
      case measure => simp [intOf]; omega
    · have HF := Lib.hid (show fct k = fct n by
        rcases hk with h | h
        · have : k = n := by omega
          rw [this]
        · subst h
          have : n = 0 ∨ n = 1 := by omega
          rcases this with rfl | rfl <;> rfl)
      obtain ⟨F, hF⟩ : ∃ F, F = fct k := ⟨_, rfl⟩
      rw [← hF] at HF ⊢
      clear hF
      go_wp2
      go_ret
      exact ⟨by rw [← HF.out]; rfl, rfl⟩

theorem implFactorial_any (n : Int) (w : World) (hn : in64 n) :
    Calls Try.prog 17 #[.int .i64 n] w fun e w' => e = .returned (.int .i64 (rFactorial0 n)) ∧ Below w.heap.size w w' := by
  obtain ⟨hn0, hn1⟩ := hn
  cases h : inB n 0 12
  · have E0 := Lib.hid (show rFactorial0 n = -1 by rw [rFactorial0, h]; rfl)
    by_cases h0 : n < 0
    · clear h
      go_enter Try.func17, Try.ntmps17
      go_wp2
      go_ret
      exact ⟨by rw [E0.out]; rfl, Below.refl _ _⟩
    · have h12 : 12 < n := by simp [inB] at h; omega
      clear h
      go_enter Try.func17, Try.ntmps17
      go_wp2
      go_ret
      exact ⟨by rw [E0.out]; rfl, Below.refl _ _⟩
  · obtain ⟨n0, n12⟩ := inB_yes h
    obtain ⟨k, rfl⟩ : ∃ k : Nat, n = k := ⟨n.toNat, by omega⟩
    refine (implFct_any k w (by omega)).mono ?_
    rintro e w' ⟨rfl, rfl⟩
    exact ⟨by rw [show rFactorial0 k = fct k by rw [rFactorial0, h]; rfl], Below.refl _ _⟩

set_option maxHeartbeats 4000000 in
/-- the digits; nil where there are none -/
theorem facDigits_any (n m : Int) (w : World) (hn : in64 n) (hm : in64 m) :
    Calls Try.prog 20 #[.int .i64 n, .int .i64 m] w fun e w' => ∃ v', e = .returned v' ∧ w'.ownsRow w.heap.size 3 1 v' (rFactorialDigits0 n m).length (intsOf (rFactorialDigits0 n m)) ∧ Below w.heap.size w w' := by
  obtain ⟨i0, hi, hz0, hz1, hz2⟩ := info_parts infoInt
  obtain ⟨n0', n1'⟩ := hn
  have HS := Lib.hid (fun W => itemCount_any m W hm)
  clear hm
  have HNO := Lib.hid (fun w' (hB : Below w.heap.size w w') (h : (inB m 1 8 && inB n 0 (fct m.toNat - 1)) = false) => show ∃ v', Ending.returned (.slice none 0 0) = .returned v' ∧ w'.ownsRow w.heap.size 3 1 v' (rFactorialDigits0 n m).length (intsOf (rFactorialDigits0 n m)) ∧ Below w.heap.size w w' from by
    refine ⟨_, rfl, ?_, hB⟩
    rw [rFactorialDigits0, h]; exact World.ownsRow_nil _ _ _ _)
  cases h : inB m 1 8
  · rw [h] at HS
    have E0 := Lib.hid (show (inB m 1 8 && inB n 0 (fct m.toNat - 1)) = false by rw [h]; rfl)
    clear h
    go_enter Try.func20, Try.ntmps20
    go_wp2_with fail
    refine (HS.out _).mono ?_
    rintro e w' ⟨rfl, rfl⟩
    go_wp2_with fail
    go_ret
    exact HNO.out _ (Below.refl _ _) E0.out
  · rw [h] at HS
    obtain ⟨m1, m8⟩ := inB_yes h
    obtain ⟨k, rfl⟩ : ∃ k : Nat, m = k := ⟨m.toNat, by omega⟩
    obtain ⟨f1, f2⟩ := fct_le (show k ≤ 12 by omega)
    have HFJ := Lib.hid (fun j (hj : j < k) W => implFct_any j W (by omega))
    have HF := Lib.hid (fun W => implFct_any k W (by omega))
    rw [Int.toNat_natCast] at HNO
    have ER := Lib.hid (show (inB n 0 (fct k - 1)) = true → rFactorialDigits0 n k = md n (fr k) from fun h2 => by rw [rFactorialDigits0, Int.toNat_natCast, h, h2]; rfl)
    have HNO' := Lib.hid (fun w' hB (h2 : inB n 0 (fct k - 1) = false) => HNO.out w' hB (by rw [h2, Bool.and_false]))
    have HQ := Lib.hid (fun j (hj : j < k) => And.intro (md_takeP (allP_fr k) (show j < (fr k).length by rw [fr_len]; exact hj) n) (And.intro (fr_get k (show j < (fr k).length by rw [fr_len]; exact hj)) (show rp ((fr k).take j) = fct j by rw [fr_take (by omega), rp_fr])))
    obtain ⟨F, hFe⟩ : ∃ F, F = fct k := ⟨_, rfl⟩
    rw [← hFe] at f1 f2 HF ER HNO'
    clear h HNO hFe
    by_cases hneg : n < 0
    · have E1 := Lib.hid (show inB n 0 (F - 1) = false by simp [inB]; omega)
      go_enter Try.func20, Try.ntmps20
      go_wp2_with fail
      refine (HS.out _).mono ?_
      rintro e w' ⟨rfl, rfl⟩
      go_wp2_with fail
      go_ret
      exact HNO'.out _ (Below.refl _ _) E1.out
    · by_cases hbig : F ≤ n
      · have E1 := Lib.hid (show inB n 0 (F - 1) = false by simp [inB]; omega)
        go_enter Try.func20, Try.ntmps20
        go_wp2_with fail
        refine (HS.out _).mono ?_
        rintro e w' ⟨rfl, rfl⟩
        go_wp2_with fail
        refine (HF.out _).mono ?_
        rintro e w' ⟨rfl, rfl⟩
        go_wp2_with fail
        go_ret
        exact HNO'.out _ (Below.refl _ _) E1.out
      · have n0 : 0 ≤ n := by omega
        have E1 := Lib.hid (ER.out (show inB n 0 (F - 1) = true by simp [inB]; omega))
        go_enter Try.func20, Try.ntmps20
        go_wp2_with fail
        refine (HS.out _).mono ?_
        rintro e w' ⟨rfl, rfl⟩
        go_wp2_with fail
        refine (HF.out _).mono ?_
        rintro e w' ⟨rfl, rfl⟩
        go_wp2_with (at_make; refine wpList_make_full _ rfl _ _ 23 rfl w.heap.size 3 i0 (.int .i64 0) 1 Try.underlying23 hi hz0 hz1 _ _ _ _ k rfl rfl rfl rfl ?c1 ?c2 ?c3 ?_)
        case c1 => rw [hz2]; omega
        case c2 => unfold maxLen; omega
        case c3 => exact Nat.le_refl _
        intro w1 hown hgrow
        have hown1 : w1.ownsRow w.heap.size 3 1 (.slice (some ⟨w.heap.size, 0, none⟩) k k) k (intsOf (md n ((fr k).take 0)) ++ List.replicate (k - 0) (.int .i64 0)) := by
          rw [toList_madeCells_one] at hown; simpa [intsOf, md] using hown
        have hB1 : Below w.heap.size w w1 := (Below.refl _ _).grown hgrow (Nat.le_refl _) (fun k hk => by cases hk)
        clear hown hgrow
        go_wp2_with fail
        go_loopw [6, 24] (fun x i wr => ∃ j : Nat, j ≤ k ∧ i = .int .i64 j ∧ Below w.heap.size w wr ∧ wr.ownsRow w.heap.size 3 1 (.slice (some ⟨w.heap.size, 0, none⟩) k k) k (intsOf (md n ((fr k).take j)) ++ List.replicate (k - j) (.int .i64 0))) (fun _ i _ => k - (intOf i).toNat)
        case atStart => exact ⟨0, Nat.zero_le _, rfl, hB1, hown1⟩
        case round =>
          obtain ⟨j, hj, rfl, hB, hown⟩ := hrel
          clear hown1 hB1
          by_cases hlt : j < k
          · obtain ⟨h1, h2, h3⟩ := HQ.out j hlt
            have hml : (md n ((fr k).take j)).length = j := by rw [md_len, List.length_take, fr_len]; omega
            have hc2 : wr.cell? ⟨w.heap.size, j, none⟩ = some (.int .i64 0) := by
              rw [hown.cellAt j (by omega), List.getElem?_append_right (by rw [intsOf_length, hml]; exact Nat.le_refl _)]
              rw [show j - (intsOf (md n ((fr k).take j))).length = 0 by rw [intsOf_length, hml]; omega, List.getElem?_replicate, if_pos (by omega)]
            have hf2 : wr.frozen? ⟨w.heap.size, j, none⟩ = false := hown.frozenAt j
            obtain ⟨fj1, fj2⟩ := fct_le (show j ≤ 12 by omega)
            rw [h2, h3] at h1
            have HK := Lib.hid (fun W => HFJ.out j hlt W)
            obtain ⟨G, hG⟩ : ∃ G, G = fct j := ⟨_, rfl⟩
            rw [← hG] at h1 fj1 fj2 HK
            have hq0 : 0 ≤ n / G := Int.ediv_nonneg n0 (by omega)
            have hq1 : n / G ≤ n := Int.ediv_le_self _ n0
            have hqd : n.tdiv G = n / G := Int.tdiv_eq_ediv_of_nonneg n0
            obtain ⟨q, hq⟩ : ∃ q, q = n / G := ⟨_, rfl⟩
            rw [← hq] at h1 hq0 hq1 hqd
            have hqm : q.tmod ((j : Int) + 1) = q % ((j : Int) + 1) := Int.tmod_eq_emod_of_nonneg hq0
            have g0 : 0 ≤ q % ((j : Int) + 1) := Int.emod_nonneg _ (by omega)
            have g1 : q % ((j : Int) + 1) < (j : Int) + 1 := Int.emod_lt_of_pos _ (by omega)
            obtain ⟨Y, hY⟩ : ∃ Y, Y = q % ((j : Int) + 1) := ⟨_, rfl⟩
            rw [← hY] at h1 hqm g0 g1
            have hst := (hown.stored j (.int .i64 Y)).1
            have hset : (intsOf (md n ((fr k).take j)) ++ List.replicate (k - j) (Value.int .i64 0)).set j (Value.int .i64 Y) = intsOf (md n ((fr k).take (j + 1))) ++ List.replicate (k - (j + 1)) (Value.int .i64 0) := by
              obtain ⟨p, hp⟩ : ∃ p, k - j = p + 1 := ⟨k - j - 1, by omega⟩
              have e1 := set_fill (intsOf (md n ((fr k).take j))) (Value.int .i64 0) (Value.int .i64 Y) p
              rw [intsOf_length, hml] at e1
              rw [hp, e1, show k - (j + 1) = p by omega, h1]; simp [intsOf]
            rw [hset] at hst
            have HST := Lib.hid hst
            have hGn : ¬ G = 0 := by omega
            have hjn : ¬ (j : Int) + 1 = 0 := by omega
            have hjw : IntKind.i64.wrap ((j : Int) + 1) = (j : Int) + 1 := by rw [IntKind.wrap_i64]; omega
            clear hset hst hown h1 h2 h3 hG hq hY hml
            go_wp2_with (go_at_call 17; refine (HK.out _).mono ?_; rintro e w' ⟨rfl, rfl⟩)
            go_roundw
            case rel => exact ⟨j + 1, by omega, by go_num, hB.setCell (p := ⟨w.heap.size, j, none⟩) (Nat.le_refl _) _, HST.out⟩
            case measure => simp [intOf]; omega
          · have hjk : j = k := by omega
            subst hjk
            have HO := Lib.hid (show wr.ownsRow w.heap.size 3 1 (.slice (some ⟨w.heap.size, 0, none⟩) j j) (rFactorialDigits0 n j).length (intsOf (rFactorialDigits0 n j)) by
              rw [E1.out, md_len, fr_len]
              rw [show (fr j).take j = fr j from fr_take (Nat.le_refl _)] at hown
              simpa using hown)
            clear hown
            go_wp2_with fail
            go_ret
            exact ⟨_, rfl, HO.out, hB⟩

theorem implFactorialDigits_any (n m : Int) (w : World) (hn : in64 n) (hm : in64 m) :
    Calls Try.prog 20 #[.int .i64 n, .int .i64 m] w fun e w' => ∃ v', e = .returned v' ∧ w'.ownsRow w.heap.size 3 1 v' (rFactorialDigits0 n m).length (intsOf (rFactorialDigits0 n m)) ∧ Below w.heap.size w w' := facDigits_any n m w hn hm

set_option maxHeartbeats 4000000 in
theorem implFactorialValue_any (v : Value) (l : List Int) (w : World) (hr : RowAt w v (intsOf l)) (hl : l.length ≤ 1048576) (hi : ∀ n ∈ l, in64 n) :
    Calls Try.prog 21 #[v] w fun e w' => e = .returned (.int .i64 (rFactorialValue0 l)) ∧ Below w.heap.size w w' := by
  have HS := Lib.hid (fun W => itemCount_any (l.length : Int) W ⟨by omega, by omega⟩)
  have HI := Lib.hid hi
  obtain ⟨a, cap, rfl, h1, h2, h3⟩ := hr.ints
  unfold maxLen at h2
  clear hr hi
  cases h : inB (l.length : Int) 1 8
  · rw [h] at HS
    have HK := Lib.hid (show rFactorialValue0 l = -1 by rw [rFactorialValue0, okD8_len h]; rfl)
    clear h h3
    go_enter Try.func21, Try.ntmps21
    go_wp2_with fail
    refine (HS.out _).mono ?_
    rintro e w' ⟨rfl, rfl⟩
    go_wp2_with fail
    go_ret
    exact ⟨by rw [HK.out]; rfl, Below.refl _ _⟩
  · rw [h] at HS
    obtain ⟨n1, n8⟩ := inB_yes h
    clear h
    have HF := Lib.hid (fun k (hk : k ≤ 8) W => implFct_any k W (by omega))
    have HFL := Lib.hid (fun k (hk : k ≤ 8) => fct_le (show k ≤ 12 by omega))
    go_enter Try.func21, Try.ntmps21
    go_wp2_with fail
    refine (HS.out _).mono ?_
    rintro e w' ⟨rfl, rfl⟩
    go_wp2_with fail
    go_loop [3, 12] (fun s i => ∃ k : Nat, k ≤ l.length ∧ i = .int .i64 k ∧ s = .int .i64 (mv (l.take k) (fr k)) ∧ ∀ j (h : j < l.length), j < k → 0 ≤ l[j] ∧ l[j] ≤ j) (fun _ i => l.length - (intOf i).toNat)
    case atStart => exact ⟨0, Nat.zero_le _, rfl, by simp [mv_nil], fun j h1 h2 => by omega⟩
    case round =>
      obtain ⟨k, hk, rfl, rfl, hall⟩ := hrel
      obtain ⟨m0, m1⟩ := mv_rangeP (allP_fr k) (fit8 k hk hall)
      rw [rp_fr] at m1
      obtain ⟨f1, f2⟩ := HFL.out k (by omega)
      have HALL := Lib.hid hall
      clear hall
      by_cases hlt : k < l.length
      · obtain ⟨b', off, rfl, hbb, hcell⟩ := h3.resolve_left (fun e => by rw [e] at hlt; simp at hlt)
        have hc := hcell k hlt
        obtain ⟨y0, y1⟩ := HI.out _ (List.getElem_mem hlt)
        cases hd : inB l[k] 0 k
        · have HK := Lib.hid (show rFactorialValue0 l = -1 by rw [rFactorialValue0, okD8_at hlt hd]; rfl)
          have hdc : l[k] < 0 ∨ (k : Int) < l[k] := by simp [inB] at hd; omega
          obtain ⟨x, hx⟩ : ∃ x, x = l[k] := ⟨_, rfl⟩
          rw [← hx] at hc hdc y0 y1
          clear h3 hcell hd hx
          rcases hdc with hdc | hdc
          · go_wp2_with fail
            go_ret
            exact ⟨by rw [HK.out]; rfl, Below.refl _ _⟩
          · have hn0 : ¬ x < 0 := by omega
            go_wp2_with fail
            go_ret
            exact ⟨by rw [HK.out]; rfl, Below.refl _ _⟩
        · obtain ⟨x0, x1⟩ := inB_yes hd
          have HT := Lib.hid (mvf_take hlt)
          have HNX := Lib.hid (show ∀ j (h : j < l.length), j < k + 1 → 0 ≤ l[j] ∧ l[j] ≤ j from fun j h1 h2 => by
            by_cases e : j = k
            · subst e; exact ⟨x0, x1⟩
            · exact HALL.out j h1 (by omega))
          have HFK := Lib.hid (fun W => HF.out k (by omega) W)
          obtain ⟨x, hx⟩ : ∃ x, x = l[k] := ⟨_, rfl⟩
          obtain ⟨M, hM⟩ : ∃ M, M = mv (l.take k) (fr k) := ⟨_, rfl⟩
          obtain ⟨F, hFe⟩ : ∃ F, F = fct k := ⟨_, rfl⟩
          rw [← hx, ← hM, ← hFe] at HT
          rw [← hx] at hc x0 x1 y0 y1
          rw [← hM] at m0 m1 ⊢
          rw [← hFe] at f1 f2 m1 HFK
          have t1 : x * F ≤ 8 * 479001600 := Int.mul_le_mul (by omega) f2 (by omega) (by omega)
          have t0 : 0 ≤ x * F := Int.mul_nonneg x0 (by omega)
          obtain ⟨t, ht⟩ : ∃ t, t = x * F := ⟨_, rfl⟩
          have hwt : IntKind.i64.wrap (x * F) = t := by rw [IntKind.wrap_i64, ← ht]; omega
          rw [← ht] at t0 t1 HT
          clear h3 hcell hd hx hM hFe ht
          go_wp2_with (go_at_call 17; refine (HFK.out _).mono ?_; rintro e w' ⟨rfl, rfl⟩)
          go_round
          case rel => exact ⟨k + 1, hlt, by go_num, by rw [HT.out], HNX.out⟩
          case measure => simp [intOf]; omega
      · have hkl : k = l.length := by omega
        have HK := Lib.hid (show rFactorialValue0 l = mv (l.take k) (fr k) by
          have h1 := HALL.out
          rw [hkl] at h1 ⊢
          rw [rFactorialValue0, show okD8 l = true by
            simp only [okD8, Bool.and_eq_true, decide_eq_true_eq]
            exact ⟨by omega, by omega, fun j h => h1 j h (by omega)⟩, List.take_length]; rfl)
        obtain ⟨M, hM⟩ : ∃ M, M = mv (l.take k) (fr k) := ⟨_, rfl⟩
        rw [← hM] at HK m0 m1 ⊢
        have hn9 : ¬ (k : Int) < l.length := by omega
        clear h3 hM
        go_wp2_with fail
        go_ret
        exact ⟨by rw [HK.out]; rfl, Below.refl _ _⟩

end Go.Proofs.Ytdpeleepfjhefaa
