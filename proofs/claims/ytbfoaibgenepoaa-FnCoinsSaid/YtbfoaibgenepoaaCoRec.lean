/- Places of coins: coins by a recurrence, of the model. -/
import Derived.Test.YtbfoaibgenepoaaCoSpec
set_option linter.unusedVariables false
set_option linter.unusedSimpArgs false
set_option maxRecDepth 100000
namespace Go.Proofs.Ytbfoaibgenepoaa
open Go.ChangeShapes Go.WideShapes Go.ChangeAt Go.RowKit

def lenSl : Value → Nat
  | .slice _ n _ => n
  | _ => 0
def rc1 (a b : Int) : Nat → Int
  | 0 => 1
  | 1 => a + 1
  | n + 2 => a * rc1 a b (n + 1) + b * rc1 a b n
def rcT (a b : Int) (m : Nat) : List Int := (List.range m).map (rc1 a b)
theorem rcT_len (a b : Int) (m : Nat) : (rcT a b m).length = m := by simp [rcT]
theorem rcT_succ (a b : Int) (m : Nat) : rcT a b (m + 1) = rcT a b m ++ [rc1 a b m] := by simp [rcT, List.range_succ]
theorem rcT_at {a b : Int} {m i : Nat} (h : i < m) : (intsOf (rcT a b m))[i]? = some (.int .i64 (rc1 a b i)) := by
  simp only [intsOf, rcT, List.getElem?_map, List.getElem?_range h]; rfl
theorem rcT_mem {a b : Int} {m i : Nat} (h : i < m) : rc1 a b i ∈ rcT a b m := List.mem_map.mpr ⟨i, List.mem_range.mpr h, rfl⟩
theorem rcT_big {a b : Int} {m i : Nat} (h : i < m) (hb : 1000 < rc1 a b i) : okC (rcT a b m) = false := by
  have hi : i < (rcT a b m).length := by rw [rcT_len]; exact h
  exact okC_at hi (by simp only [rcT, List.getElem_map, List.getElem_range]; omega)
def okRec (a b k : Int) : Bool := inB a 1 9 && (inB b 0 9 && (inB k 1 10 && okC (rcT a b k.toNat)))
def rRecurrentCoins0 (a b k : Int) : List Int := if okRec a b k then rcT a b k.toNat else []
def rRecurrentCoins1 (a b k : Int) : Bool := okRec a b k
theorem rec_no {a b k : Int} {w W : World} (hB : Below w.heap.size w W) (h : okRec a b k = false) : ∃ v', Ending.returned (.tuple #[.slice none 0 0, .bool false]) = .returned (.tuple #[v', .bool (rRecurrentCoins1 a b k)]) ∧ W.ownsRow w.heap.size 3 1 v' (rRecurrentCoins0 a b k).length (intsOf (rRecurrentCoins0 a b k)) ∧ Below w.heap.size w W := by
  refine ⟨.slice none 0 0, by rw [rRecurrentCoins1, h], ?_, hB⟩
  rw [rRecurrentCoins0, h]; exact World.ownsRow_nil _ _ _ _

theorem owns_drewN_r {w : World} {base : Nat} {e : TypeId} {v : Value} {n : Nat} {xs : List Value} (h : w.ownsRow base e 1 v n xs) (q : Nat) : (w.drewN q).ownsRow base e 1 v n xs := h
set_option maxHeartbeats 8000000 in
theorem specRecurrentCoins_any (a b k : Int) (w : World) (ha : in64 a) (hb : in64 b) (hk : in64 k) :
    Calls Try.prog 37 #[.int .i64 a, .int .i64 b, .int .i64 k] w fun e w' => ∃ v', e = .returned (.tuple #[v', .bool (rRecurrentCoins1 a b k)]) ∧ w'.ownsRow w.heap.size 3 1 v' (rRecurrentCoins0 a b k).length (intsOf (rRecurrentCoins0 a b k)) ∧ Below w.heap.size w w' := by
  obtain ⟨i0, hi0, hz0, hz1, hz2⟩ := info_parts infoInt
  have HA := Lib.hid (fun W => sIn_any a 1 9 W)
  have HB := Lib.hid (fun W => sIn_any b 0 9 W)
  have HK := Lib.hid (fun W => sIn_any k 1 10 W)
  cases h1 : inB a 1 9
  · rw [h1] at HA
    have HNO := Lib.hid (fun W : World => rec_no (Below.refl W.heap.size W) (show okRec a b k = false by rw [okRec, h1]; rfl))
    clear h1
    go_enter Try.func37, Try.ntmps37
    go_wp2_with fail
    refine (HA.out _).mono ?_
    rintro e w' ⟨rfl, rfl⟩
    go_wp2_with fail
    go_ret2
    exact HNO.out _
  rw [h1] at HA
  cases h2 : inB b 0 9
  · rw [h2] at HB
    have HNO := Lib.hid (fun W : World => rec_no (Below.refl W.heap.size W) (show okRec a b k = false by rw [okRec, h1, h2]; rfl))
    clear h1 h2
    go_enter Try.func37, Try.ntmps37
    go_wp2_with fail
    refine (HA.out _).mono ?_
    rintro e w' ⟨rfl, rfl⟩
    go_wp2_with fail
    refine (HB.out _).mono ?_
    rintro e w' ⟨rfl, rfl⟩
    go_wp2_with fail
    go_ret2
    exact HNO.out _
  rw [h2] at HB
  cases h3 : inB k 1 10
  · rw [h3] at HK
    have HNO := Lib.hid (fun W : World => rec_no (Below.refl W.heap.size W) (show okRec a b k = false by rw [okRec, h1, h2, h3]; rfl))
    clear h1 h2 h3
    go_enter Try.func37, Try.ntmps37
    go_wp2_with fail
    refine (HA.out _).mono ?_
    rintro e w' ⟨rfl, rfl⟩
    go_wp2_with fail
    refine (HB.out _).mono ?_
    rintro e w' ⟨rfl, rfl⟩
    go_wp2_with fail
    refine (HK.out _).mono ?_
    rintro e w' ⟨rfl, rfl⟩
    go_wp2_with fail
    go_ret2
    exact HNO.out _
  rw [h3] at HK
  obtain ⟨a1, a2⟩ := inB_yes h1
  obtain ⟨b1, b2⟩ := inB_yes h2
  obtain ⟨k1, k2⟩ := inB_yes h3
  obtain ⟨n, rfl⟩ : ∃ n : Nat, k = n := ⟨k.toNat, by omega⟩
  have EOK := Lib.hid (show okRec a b n = okC (rcT a b n) by rw [okRec, h1, h2, h3]; rfl)
  have HNO := Lib.hid (fun (W : World) (hW : Below w.heap.size w W) (h : okC (rcT a b n) = false) => rec_no hW (EOK.out.trans h))
  have HBIG := Lib.hid (fun i (h1 : i < n) h2 => rcT_big (a := a) (b := b) h1 h2)
  have hO0 := World.ownsRow_lit (base := w.heap.size) (e := 3) (size := 1) w #[.int .i64 1] 1 (Nat.le_refl _) (by decide) rfl
  have hB0 : Below w.heap.size w (w.alloc (.cells #[.int .i64 1] 3)) := (Below.refl _ _).alloc (Nat.le_refl _) _
  have HO0 := Lib.hid (And.intro hO0 hB0)
  clear h1 h2 h3 hO0 hB0
  go_enter Try.func37, Try.ntmps37
  go_wp2_with fail
  refine (HA.out _).mono ?_
  rintro e w' ⟨rfl, rfl⟩
  go_wp2_with fail
  refine (HB.out _).mono ?_
  rintro e w' ⟨rfl, rfl⟩
  go_wp2_with fail
  refine (HK.out _).mono ?_
  rintro e w' ⟨rfl, rfl⟩
  go_wp2_with fail
  go_loopw [8] (fun o wr => ∃ m : Nat, 1 ≤ m ∧ m ≤ n ∧ (∀ i < m, 0 ≤ rc1 a b i ∧ rc1 a b i ≤ 1000) ∧ wr.ownsRow w.heap.size 3 1 o m (intsOf (rcT a b m)) ∧ Below w.heap.size w wr) (fun o _ => n - lenSl o)
  case atStart => exact ⟨1, Nat.le_refl _, by omega, fun i hi => by rw [show i = 0 by omega]; show 0 ≤ (1 : Int) ∧ (1 : Int) ≤ 1000; decide, HO0.out.1, HO0.out.2⟩
  case round =>
    obtain ⟨m, hm1, hmn, hbd, hown, hB⟩ := hrel
    have hsz := hB.size
    obtain ⟨ao, capo, e5, _, p2, p3⟩ := (RowAt.of_owns hown).ints
    have hrl := rcT_len a b m
    rw [hrl] at e5
    subst e5
    obtain ⟨bo, oo, rfl, hbo, hcello⟩ := p3.resolve_left (fun e => by rw [e] at hrl; simp at hrl; omega)
    have HCE := Lib.hid (fun i (hi : i < m) => show wr.cell? ⟨bo, oo + i, none⟩ = some (.int .i64 (rc1 a b i)) by
      rw [hcello i (by rw [hrl]; exact hi)]; simp [rcT])
    have HBD := Lib.hid hbd
    by_cases hlt : m < n
    · have hmi : (m : Int) < n := by omega
      by_cases hm : m = 1
      · subst hm
        have hx0 : IntKind.i64.wrap (a + 1) = a + 1 := by rw [IntKind.wrap_i64]; omega
        clear hbd p2 p3 hcello hrl
        go_wp2_with (at_builtin; refine wpList_append_own_at _ rfl _ _ 23 rfl w.heap.size 3 i0 (.int .i64 0) 1 8 Try.underlying23 hi0 hz0 hz1 hz2 rfl (by decide) _ _ _ rfl (hown.alloc _) ⟨wr.heap.size, 0, none⟩ 1 1 [.int .i64 (a + 1)] rfl rfl (one_cell _ _ _) (by intro u hu; simp at hu; subst hu; rfl) (by unfold maxLen; omega) (by omega) (by simp; omega) ?_)
        intro v' w2 hown' hgrow _ hat
        have hB2 := (hB.alloc hsz (.cells #[.int .i64 (a + 1)] 3)).grown hgrow (by simp; omega) (fun j hj => (hown.lt j hj).1)
        have HO := Lib.hid (show w2.ownsRow w.heap.size 3 1 v' (1 + 1) (intsOf (rcT a b (1 + 1))) by rw [rcT_succ]; simpa [intsOf, rc1] using hown')
        have hno : ¬ 1000 < a + 1 := by omega
        clear hown' hgrow hown hB hat
        go_wp2_with fail
        go_roundw
        case rel =>
          refine ⟨2, by omega, by omega, fun i hi => ?_, HO.out, hB2⟩
          rcases Nat.lt_or_ge i 1 with h | h
          · exact HBD.out i h
          · rw [show i = 1 by omega]; show 0 ≤ a + 1 ∧ a + 1 ≤ 1000; omega
        case measure =>
          obtain ⟨a9, c9, e9, _, _⟩ := owns_form HO.out
          subst e9
          simp [lenSl]; omega
      · obtain ⟨i, rfl⟩ : ∃ i, m = i + 2 := ⟨m - 2, by omega⟩
        have hcp := HCE.out (i + 1) (by omega)
        have hcq := HCE.out i (by omega)
        have hbp := hbd (i + 1) (by omega)
        have hbq := hbd i (by omega)
        have hxe : rc1 a b (i + 2) = a * rc1 a b (i + 1) + b * rc1 a b i := rfl
        obtain ⟨P, hP⟩ : ∃ P, P = rc1 a b (i + 1) := ⟨_, rfl⟩
        obtain ⟨Q, hQ⟩ : ∃ Q, Q = rc1 a b i := ⟨_, rfl⟩
        rw [← hP] at hcp hbp hxe
        rw [← hQ] at hcq hbq hxe
        have hap := Int.mul_le_mul a2 hbp.2 hbp.1 (by omega)
        have hbq2 := Int.mul_le_mul b2 hbq.2 hbq.1 (by omega)
        have hap0 := Int.mul_nonneg (show 0 ≤ a by omega) hbp.1
        have hbq0 := Int.mul_nonneg b1 hbq.1
        obtain ⟨AP, hAP⟩ : ∃ AP, a * P = AP := ⟨_, rfl⟩
        obtain ⟨BQ, hBQ⟩ : ∃ BQ, b * Q = BQ := ⟨_, rfl⟩
        rw [hAP] at hap hap0 hxe
        rw [hBQ] at hbq2 hbq0 hxe
        obtain ⟨X, hX⟩ : ∃ X, X = rc1 a b (i + 2) := ⟨_, rfl⟩
        rw [← hX] at hxe
        have wAP : IntKind.i64.wrap AP = AP := by rw [IntKind.wrap_i64]; omega
        have wBQ : IntKind.i64.wrap BQ = BQ := by rw [IntKind.wrap_i64]; omega
        have wX : IntKind.i64.wrap (AP + BQ) = X := by rw [IntKind.wrap_i64]; omega
        have w1 : IntKind.i64.wrap (((i + 2 : Nat) : Int) - 1) = ((i + 1 : Nat) : Int) := by rw [IntKind.wrap_i64]; omega
        have w2 : IntKind.i64.wrap (((i + 2 : Nat) : Int) - 2) = (i : Int) := by rw [IntKind.wrap_i64]; omega
        have HXE := Lib.hid hX
        have hxa : 0 ≤ X := by omega
        have hxb : X ≤ 18000 := by omega
        clear hbd p2 p3 hcello hrl hxe hX hP hQ hap hap0 hbq2 hbq0 hbp hbq hm
        go_wp2_with fail
        go_quiet (fail)
        by_cases hbig : 1000 < X
        · go_wp2_with (at_builtin; refine wpList_append_own_at _ rfl _ _ 23 rfl w.heap.size 3 i0 (.int .i64 0) 1 8 Try.underlying23 hi0 hz0 hz1 hz2 rfl (by decide) _ _ _ rfl (World.ownsRow.alloc (owns_drewN_r hown nq) _) ⟨(wr.drewN nq).heap.size, 0, none⟩ 1 1 [.int .i64 X] rfl rfl (one_cell _ _ _) (by intro u hu; simp at hu; subst hu; rfl) (by unfold maxLen; omega) (by omega) (by simp; omega) ?_)
          intro v' w2 hown' hgrow _ hat
          have hB2 := ((below_drewN hB nq).alloc hsz (.cells #[.int .i64 X] 3)).grown hgrow (by simp; omega) (fun j hj => (hown.lt j hj).1)
          have HN2 := Lib.hid (HNO.out w2 hB2 (HBIG.out (i + 2) hlt (by rw [← HXE.out]; exact hbig)))
          clear hown' hgrow hown hB hat hB2
          go_wp2_with fail
          go_ret2
          exact HN2.out
        · go_wp2_with (at_builtin; refine wpList_append_own_at _ rfl _ _ 23 rfl w.heap.size 3 i0 (.int .i64 0) 1 8 Try.underlying23 hi0 hz0 hz1 hz2 rfl (by decide) _ _ _ rfl (World.ownsRow.alloc (owns_drewN_r hown nq) _) ⟨(wr.drewN nq).heap.size, 0, none⟩ 1 1 [.int .i64 X] rfl rfl (one_cell _ _ _) (by intro u hu; simp at hu; subst hu; rfl) (by unfold maxLen; omega) (by omega) (by simp; omega) ?_)
          intro v' w2 hown' hgrow _ hat
          have hB2 := ((below_drewN hB nq).alloc hsz (.cells #[.int .i64 X] 3)).grown hgrow (by simp; omega) (fun j hj => (hown.lt j hj).1)
          have HO := Lib.hid (show w2.ownsRow w.heap.size 3 1 v' (i + 2 + 1) (intsOf (rcT a b (i + 2 + 1))) by rw [rcT_succ, ← HXE.out]; simpa [intsOf] using hown')
          clear hown' hgrow hown hB hat
          go_wp2_with fail
          go_roundw
          case rel =>
            refine ⟨i + 2 + 1, by omega, hlt, fun j hj => ?_, HO.out, hB2⟩
            rcases Nat.lt_or_ge j (i + 2) with h | h
            · exact HBD.out j h
            · rw [show j = i + 2 by omega, ← HXE.out]; omega
          case measure =>
            obtain ⟨a9, c9, e9, _, _⟩ := owns_form HO.out
            subst e9
            simp [lenSl]; omega
    · have hme : m = n := by omega
      subst hme
      have HSC := Lib.hid (specCo_any _ (rcT a b m) wr (RowAt.of_owns hown) (by rw [hrl]; omega) (fun x hx => by
        obtain ⟨i, hi, rfl⟩ := List.mem_map.mp hx
        have := hbd i (List.mem_range.mp hi)
        constructor <;> omega))
      have hn9 : ¬ (m : Int) < m := by omega
      have HOB := Lib.hid (And.intro hown hB)
      cases hok : okC (rcT a b m)
      · have HN2 := Lib.hid (HNO.out wr hB hok)
        rw [hok] at HSC
        clear hbd p2 p3 hcello hrl hok hown
        go_wp2_with fail
        refine HSC.out.mono ?_
        rintro e w' ⟨rfl, rfl⟩
        go_wp2_with fail
        go_ret2
        exact HN2.out
      · rw [hok] at HSC EOK
        clear hbd p2 p3 hcello hrl hok hown
        go_wp2_with fail
        refine HSC.out.mono ?_
        rintro e w' ⟨rfl, rfl⟩
        go_wp2_with fail
        go_ret2
        exact ⟨_, by rw [rRecurrentCoins1, EOK.out]; rfl, by rw [rRecurrentCoins0, EOK.out, if_pos rfl, Int.toNat_natCast, rcT_len]; exact HOB.out.1, hB⟩

end Go.Proofs.Ytbfoaibgenepoaa
