/- Signed binary digits: the program rewrites signed digits by carries. -/
import Derived.Test.YtiemhhkoegkleaaLgMul
import Derived.Test.YtiemhhkoegkleaaSgRw
import Derived.Test.YtiemhhkoegkleaaRfB
import Derived.Test.YtiemhhkoegkleaaLgA
import Derived.Test.YtiemhhkoegkleaaSgI1
import Derived.Test.YtiemhhkoegkleaaBaAddI
set_option linter.unusedVariables false
set_option linter.unusedSimpArgs false
set_option maxRecDepth 100000
namespace Go.Proofs.Ytiemhhkoegkleaa
open Go.ChangeShapes Go.WideShapes Go.ChangeAt Go.RowKit

/-- trimming a row of sparse digits that is owned -/
theorem implTrimS_own (v : Value) (l : List Int) (base : Nat) (w : World) (hA : AllS l) (hS : Spr l) (hown : w.ownsRow base 3 1 v l.length (intsOf l)) (hl : l.length ≤ 1048576) :
    Calls Try.prog 61 #[v] w fun e w' => ∃ v', e = .returned v' ∧ w.ownsRow base 3 1 v' (spd (sv l)).length (intsOf (spd (sv l))) ∧ w = w' := by
  obtain ⟨a, cap, rfl, h1, h2⟩ := owns_form hown
  refine (implTrim_any a cap l w (RowAt.of_owns hown) hl).mono ?_
  rintro e w' ⟨n, rfl, hn, hz, hlast, rfl⟩
  have e := trim_eqS hA hS hn hz hlast
  have en : (spd (sv l)).length = n := by rw [← e, List.length_take, Nat.min_eq_left hn]
  refine ⟨_, rfl, ?_, rfl⟩
  rw [en, ← e, ← intsOf_take]
  exact owns_take hown hn

/-- the digit and the carry of a round -/
theorem rw_round {q c y d c' : Int} (h : (q + c = 0 ∧ d = 0 ∧ c' = 0) ∨ (q + c = 2 ∧ d = 0 ∧ c' = 1) ∨ (q + c = -2 ∧ d = 0 ∧ c' = -1) ∨
      (q + c = 1 ∧ y = 0 ∧ d = 1 ∧ c' = 0) ∨ (q + c = 1 ∧ y = 1 ∧ d = -1 ∧ c' = 1) ∨ (q + c = 1 ∧ y = -1 ∧ d = -1 ∧ c' = 1) ∨
      (q + c = -1 ∧ y = 0 ∧ d = -1 ∧ c' = 0) ∨ (q + c = -1 ∧ y = 1 ∧ d = 1 ∧ c' = -1) ∨ (q + c = -1 ∧ y = -1 ∧ d = 1 ∧ c' = -1)) :
    sdig (q + c + 2 * y) = d ∧ (q + c - d).tdiv 2 = c' := by
  have e : q + c - d = 2 * c' := by omega
  refine ⟨?_, by rw [e]; exact Int.mul_tdiv_cancel_left _ (by omega)⟩
  unfold sdig
  split
  · omega
  · split <;> omega

set_option maxHeartbeats 8000000 in
theorem implRewriteSigned_any (v : Value) (l : List Int) (w : World) (hr : RowAt w v (intsOf l)) (hl : l.length ≤ 1048576) (hin : ∀ n ∈ l, in64 n) :
    Calls Try.prog 21 #[v] w fun e w' => ∃ v', e = .returned (.tuple #[v', .bool (rRewriteSigned1 l)]) ∧ w'.ownsRow w.heap.size 3 1 v' (rRewriteSigned0 l).length (intsOf (rRewriteSigned0 l)) ∧ Below w.heap.size w w' := by
  have H1 := Lib.hid (implSg_eq v l w hr hl)
  have HRow := Lib.hid hr
  obtain ⟨a, cap, rfl, h1, h2, h3⟩ := hr.ints
  unfold maxLen at h2
  clear h3 hr hin
  cases h : okS l
  · rw [h] at H1
    have E1 := Lib.hid (show rRewriteSigned1 l = false by rw [rRewriteSigned1, h]; rfl)
    have E0 := Lib.hid (show rRewriteSigned0 l = [] by rw [rRewriteSigned0, E1.out]; rfl)
    clear h
    go_enter Try.func21, Try.ntmps21
    go_wp2_with fail
    refine H1.out.mono ?_
    rintro e w' ⟨rfl, rfl⟩
    go_wp2_with fail
    go_ret2
    exact ⟨_, by rw [E1.out]; rfl, by rw [E0.out]; exact World.ownsRow_nil _ _ _ _, Below.refl _ _⟩
  · rw [h] at H1
    obtain ⟨hN, hl60⟩ := okS_yes h
    have HALL := Lib.hid hN.1
    have HE1 := Lib.hid (show rRewriteSigned1 l = fits (spd (sv l)) by rw [rRewriteSigned1, h]; rfl)
    have HE0 := Lib.hid (show rRewriteSigned0 l = if fits (spd (sv l)) then spd (sv l) else [] by rw [rRewriteSigned0, HE1.out])
    have HAT := Lib.hid (fun k W (hk : k ≤ 2000000) (hW : Below w.heap.size w W) => implAt_any _ l k W (HRow.out.below hW) hl hk)
    have HSD := Lib.hid (fun x W => spdig_any x W)
    obtain ⟨i0, hi, hz0, hz1, hz2⟩ := info_parts infoInt
    obtain ⟨n, hn⟩ : ∃ n, n = l.length + 1 := ⟨_, rfl⟩
    have hn2 : (l.length : Int) + 1 = (n : Int) := by omega
    have hn9 : n ≤ 61 := by omega
    have HN := Lib.hid hn
    clear h hN hn
    go_enter Try.func21, Try.ntmps21
    go_wp2_with fail
    refine H1.out.mono ?_
    rintro e w' ⟨rfl, rfl⟩
    go_wp2_with (at_make; refine wpList_make_full _ rfl _ _ 74 rfl w.heap.size 3 i0 (.int .i64 0) 1 Try.underlying74 hi hz0 hz1 _ _ _ _ n rfl rfl rfl rfl ?c1 ?c2 ?c3 ?_)
    case c1 => rw [hz2]; omega
    case c2 => unfold maxLen; omega
    case c3 => exact Nat.le_refl _
    intro w1 hown hgrow
    have hown1 : w1.ownsRow w.heap.size 3 1 (.slice (some ⟨w.heap.size, 0, none⟩) n n) n (intsOf (List.replicate n 0)) := by
      rw [toList_madeCells_one] at hown; rw [intsOf_zeros]; simpa using hown
    have hB1 : Below w.heap.size w w1 := (Below.refl _ _).grown hgrow (Nat.le_refl _) (fun k hk => by cases hk)
    have HO1 := Lib.hid hown1
    clear hown hgrow hown1
    go_wp2
    go_loopw [6, 19] (fun cy i wr => ∃ (k : Nat) (o : List Int) (c : Int), i = .int .i64 k ∧ cy = .int .i64 c ∧ RwI l k o c ∧ wr.ownsRow w.heap.size 3 1 (.slice (some ⟨w.heap.size, 0, none⟩) n n) n (intsOf (o ++ List.replicate (n - o.length) 0)) ∧ Below w.heap.size w wr)
      (fun _ i _ => n - (intOf i).toNat)
    case atStart => exact ⟨0, [], 0, rfl, rfl, RwI.init l, by simpa using HO1.out, hB1⟩
    case round =>
      obtain ⟨k, o, c, rfl, rfl, hI, hown, hB⟩ := hrel
      have hsz := hB.size
      have hc0 := hI.c0; have hc1 := hI.c1
      have hok := hI.len
      subst hok
      clear hB1 HO1
      by_cases hgo : o.length < n
      · obtain ⟨d, c', hI', g1, g2, g3, g4, hcase⟩ := hI.step HALL.out (by have := HN.out; omega)
        obtain ⟨e1, e2⟩ := rw_round hcase
        have hq := allS_at HALL.out o.length
        have hy := allS_at HALL.out (o.length + 1)
        have HA1 := Lib.hid (HAT.out o.length wr (by omega) hB)
        have HA2 := Lib.hid (HAT.out (o.length + 1) wr (by omega) hB)
        obtain ⟨q, hqe⟩ : ∃ q, q = at0 l o.length := ⟨_, rfl⟩
        obtain ⟨y, hye⟩ : ∃ y, y = at0 l (o.length + 1) := ⟨_, rfl⟩
        rw [← hqe] at hq HA1 e1 e2
        rw [← hye] at hy HA2 e1
        have HC := Lib.hid (HSD.out (q + c + 2 * y) wr)
        rw [e1] at HC
        have HI' := Lib.hid hI'
        have hks : ((o.length + 1 : Nat) : Int) = (o.length : Int) + 1 := by omega
        rw [hks] at HA2
        have hcp : wr.cell? ⟨w.heap.size, o.length, none⟩ = some (.int .i64 0) := by
          rw [hown.cellAt o.length (by omega)]
          have := fill_get o hgo
          simp only [intsOf, List.getElem?_map, this]; rfl
        have hfp : wr.frozen? ⟨w.heap.size, o.length, none⟩ = false := hown.frozenAt o.length
        have hsd := (hown.stored o.length (.int .i64 d)).1
        rw [intsOf_set, fill_step o _ hgo] at hsd
        have HSD2 := Lib.hid hsd
        have hgo' : (o.length : Int) < n := by omega
        obtain ⟨hq1, hq2⟩ := hq
        obtain ⟨hy1, hy2⟩ := hy
        clear hI hI' hqe hye hks hsd hown hcase e1 HSD
        go_wp2_with fail
        refine HA1.out.mono ?_
        rintro e w' ⟨rfl, rfl⟩
        go_wp2_with fail
        refine HA2.out.mono ?_
        rintro e w' ⟨rfl, rfl⟩
        go_wp2_with fail
        refine HC.out.mono ?_
        rintro e w' ⟨rfl, rfl⟩
        go_wp2_with fail
        go_roundw
        case rel => exact ⟨o.length + 1, o ++ [d], c', by go_num, rfl, HI'.out, HSD2.out, hB.setCell (p := ⟨w.heap.size, o.length, none⟩) (Nat.le_refl _) _⟩
        case measure => simp [intOf]; omega
      · have hle := hI.le
        have hkn : o.length = n := by have := HN.out; omega
        have hc0 := hI.fin (by have := HN.out; omega)
        subst hc0
        have hval := hI.val
        rw [List.drop_of_length_le (by have := HN.out; omega), sv_nil, Int.zero_add, Int.mul_zero, Int.add_zero] at hval
        rw [hkn, Nat.sub_self, List.replicate_zero, List.append_nil] at hown
        have HC2 := Lib.hid (implTrimS_own _ o w.heap.size wr hI.all hI.spr (by rw [hkn]; exact hown) (by omega))
        rw [hval] at HC2
        obtain ⟨L, hL⟩ : ∃ L, L = spd (sv l) := ⟨_, rfl⟩
        rw [← hL] at HC2 HE1 HE0
        have hgo' : ¬ (o.length : Int) < n := by omega
        clear hI hval hown hgo hL hkn hle
        go_wp2_with fail
        refine HC2.out.mono ?_
        rintro e w' ⟨v', rfl, ho, rfl⟩
        have HRS := Lib.hid (implRes_row v' L w.heap.size wr ho)
        clear ho
        obtain ⟨fl, hfl⟩ : ∃ fl, fl = fits L := ⟨_, rfl⟩
        obtain ⟨R, hR⟩ : ∃ R, R = (if fits L then L else []) := ⟨_, rfl⟩
        rw [← hR, ← hfl] at HRS
        have F0 := Lib.hid (show rRewriteSigned0 l = R by rw [HE0.out, hR])
        have F1 := Lib.hid (show rRewriteSigned1 l = fl by rw [HE1.out, hfl])
        clear hfl hR
        go_wp2_with fail
        refine HRS.out.mono ?_
        rintro e w' ⟨v'', rfl, ho2, rfl⟩
        have HO := Lib.hid ho2
        clear ho2
        obtain ⟨av, cv, e3, _, _⟩ := owns_form HO.out
        subst e3
        go_wp2_with fail
        go_ret2
        exact ⟨_, by rw [F1.out]; rfl, by rw [F0.out]; exact HO.out, hB⟩

end Go.Proofs.Ytiemhhkoegkleaa
