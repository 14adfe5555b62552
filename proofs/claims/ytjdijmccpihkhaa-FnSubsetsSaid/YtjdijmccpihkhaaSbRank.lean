/- Subsets: the model's rank, the subset at a rank, the next one. -/
import Derived.Test.YtjdijmccpihkhaaLgSpec
import Derived.Test.YtjdijmccpihkhaaSbSpec
import Derived.Test.YtjdijmccpihkhaaDgVal
import Derived.Deep.LoopGhost
set_option linter.unusedVariables false
set_option linter.unusedSimpArgs false
set_option maxRecDepth 100000
namespace Go.Proofs.Ytjdijmccpihkhaa
open Go.ChangeShapes Go.WideShapes Go.ChangeAt Go.RowKit

theorem okS_take {l : List Int} {m : Int} (h : okS l m = true) (k : Nat) : okS (l.take k) m = true := by
  obtain ⟨h1, h2, h3⟩ := okS_yes h
  exact okS_of h1.1 h1.2 (fun x hx => h2 x (List.mem_of_mem_take hx)) (h3.sublist (List.take_sublist k l))
theorem rk_small {l : List Int} (h : okS l 20 = true) : rk l < 1048576 := by
  have h1 := rkD_lt (okS_desc (m := 20) h)
  have h2 := bn_le 20 l.reverse.length
  unfold rk; omega

set_option maxHeartbeats 2000000 in
theorem specSbRank_any (v : Value) (l : List Int) (w : World) (hr : RowAt w v (intsOf l)) (hl : l.length ≤ 1048577) :
    Calls Try.prog 28 #[v] w fun e w' => e = .returned (.int .i64 (rSubsetRank0 l)) ∧ w = w' := by
  have HS := Lib.hid (specSb_any v l 20 w hr hl)
  obtain ⟨a, cap, rfl, h1, h2, h3⟩ := hr.ints
  unfold maxLen at h2
  clear hr
  cases h : okS l 20
  · rw [h] at HS
    have E0 := Lib.hid (show rSubsetRank0 l = -1 by rw [rSubsetRank0, h]; rfl)
    clear h h3
    go_enter Try.func28, Try.ntmps28
    go_wp2_with fail
    refine HS.out.mono ?_
    rintro e w' ⟨rfl, rfl⟩
    go_wp2_with fail
    go_ret
    exact ⟨by rw [E0.out]; rfl, rfl⟩
  · rw [h] at HS
    have E0 := Lib.hid (show rSubsetRank0 l = rk l by rw [rSubsetRank0, h]; rfl)
    have HSM := Lib.hid (fun k => rk_small (okS_take h k))
    have HX := Lib.hid (okS_yes h).2.1
    have hl20 := okS_len (m := 20) h
    have HB := Lib.hid (fun (x k : Nat) (hx : x ≤ 30) (hk : k ≤ 30) W => specBn_any x k W hx hk)
    clear h
    go_enter Try.func28, Try.ntmps28
    go_wp2_with fail
    refine HS.out.mono ?_
    rintro e w' ⟨rfl, rfl⟩
    go_wp2_with fail
    go_loop [3, 11] (fun s i => ∃ k : Nat, k ≤ l.length ∧ i = .int .i64 k ∧ s = .int .i64 (rk (l.take k))) (fun _ i => l.length - (intOf i).toNat)
    case atStart => exact ⟨0, Nat.zero_le _, rfl, by simp [rk, rkD]⟩
    case round =>
      obtain ⟨k, hk, rfl, rfl⟩ := hrel
      have hs := HSM.out k
      by_cases hlt : k < l.length
      · obtain ⟨b', off, rfl, hbb, hcell⟩ := h3.resolve_left (fun e => by rw [e] at hlt; simp at hlt)
        have hc := hcell k hlt
        obtain ⟨x0, x1⟩ := HX.out _ (List.getElem_mem hlt)
        have hs2 := HSM.out (k + 1)
        have hsn := rk_snoc (l.take k) l[k]
        rw [← List.take_succ_eq_append_getElem hlt, List.length_take, Nat.min_eq_left hk] at hsn
        obtain ⟨x, hx⟩ : ∃ x : Nat, l[k] = x := ⟨l[k].toNat, by omega⟩
        rw [hx] at hc hsn x1
        rw [Int.toNat_natCast] at hsn
        have HBX := Lib.hid (fun W => HB.out x (k + 1) (by omega) (by omega) W)
        obtain ⟨B, hB⟩ : ∃ B, B = bn x (k + 1) := ⟨_, rfl⟩
        rw [← hB] at hsn HBX
        obtain ⟨S, hS⟩ : ∃ S, S = rk (l.take k) := ⟨_, rfl⟩
        rw [← hS] at hsn hs ⊢
        have HSN := Lib.hid hsn
        have hB2 : S + B < 1048576 := by omega
        have hkc : (((k + 1 : Nat) : Nat) : Int) = (k : Int) + 1 := rfl
        simp only [hkc] at HBX
        clear h3 hcell hx hB hS hsn hs2 x0
        go_wp2_with (go_at_call 46; refine (HBX.out _).mono ?_; rintro e w' ⟨rfl, rfl⟩)
        go_round
        case rel => exact ⟨k + 1, hlt, by go_num, by rw [HSN.out]; go_num⟩
        case measure => simp [intOf]; omega
      · have hkl : k = l.length := by omega
        have HE := Lib.hid (show rk (l.take k) = rk l by rw [hkl, List.take_length])
        obtain ⟨S, hS⟩ : ∃ S, S = rk (l.take k) := ⟨_, rfl⟩
        rw [← hS] at HE hs ⊢
        have hn9 : ¬ (k : Int) < l.length := by omega
        clear h3 hS
        go_wp2_with fail
        go_ret
        exact ⟨by rw [E0.out, ← HE.out]; rfl, rfl⟩

theorem specSubsetRank_any (v : Value) (l : List Int) (w : World) (hr : RowAt w v (intsOf l)) (hl : l.length ≤ 1048576) (hi : ∀ n ∈ l, in64 n) :
    Calls Try.prog 28 #[v] w fun e w' => e = .returned (.int .i64 (rSubsetRank0 l)) ∧ Below w.heap.size w w' := by
  refine (specSbRank_any v l w hr (by omega)).mono ?_
  rintro e w' ⟨rfl, rfl⟩
  exact ⟨rfl, Below.refl _ _⟩

/-- where the greedy search stands -/
structure AtI (K N0 g m : Nat) (P : List Int) : Prop where
  le : g ≤ K
  lt : m < bn 20 g
  mN : m ≤ N0
  len : P.length = K - g
  eq : P ++ gr g m = gr K N0

theorem atI_next {K N0 j m : Nat} {P : List Int} (h : AtI K N0 (j + 1) m P) : AtI K N0 j (m - bn (tp (j + 1) m) (j + 1)) (P ++ [(tp (j + 1) m : Int)]) := by
  obtain ⟨t1, t2, t3⟩ := tp_next (k := j) (Nat.le_refl 20) h.lt
  refine ⟨by have := h.le; omega, Nat.lt_of_lt_of_le t3 (bn_mono (show tp (j + 1) m ≤ 20 by omega) j), by have := h.mN; omega, ?_, ?_⟩
  · have := h.len; have := h.le
    rw [List.length_append, List.length_singleton]; omega
  · rw [← h.eq, gr, List.append_assoc]; rfl

set_option maxHeartbeats 4000000 in
theorem specSubsetAt_any (n k : Int) (w : World) (hn : in64 n) (hk : in64 k) :
    Calls Try.prog 29 #[.int .i64 n, .int .i64 k] w fun e w' => ∃ v', e = .returned (.tuple #[v', .bool (rSubsetAt1 n k)]) ∧ w'.ownsRow w.heap.size 3 1 v' (rSubsetAt0 n k).length (intsOf (rSubsetAt0 n k)) ∧ Below w.heap.size w w' := by
  obtain ⟨i0, hi, hz0, hz1, hz2⟩ := info_parts infoInt
  have HS := Lib.hid (fun W => sIn_any k 0 8 W)
  have HNO := Lib.hid (fun w' (hB : Below w.heap.size w w') (h : atOk n k = false) => show ∃ v', Ending.returned (.tuple #[.slice none 0 0, .bool false]) = .returned (.tuple #[v', .bool (rSubsetAt1 n k)]) ∧ w'.ownsRow w.heap.size 3 1 v' (rSubsetAt0 n k).length (intsOf (rSubsetAt0 n k)) ∧ Below w.heap.size w w' from by
    refine ⟨_, by rw [rSubsetAt1, h], ?_, hB⟩
    rw [rSubsetAt0, h]; exact World.ownsRow_nil _ _ _ _)
  cases h : inB k 0 8
  · rw [h] at HS
    have E0 := Lib.hid (show atOk n k = false by rw [atOk, h]; rfl)
    clear h
    go_enter Try.func29, Try.ntmps29
    go_wp2_with fail
    refine (HS.out _).mono ?_
    rintro e w' ⟨rfl, rfl⟩
    go_wp2_with fail
    go_ret2
    exact HNO.out _ (Below.refl _ _) E0.out
  · rw [h] at HS
    obtain ⟨k0, k8⟩ := inB_yes h
    obtain ⟨K, rfl⟩ : ∃ K : Nat, k = K := ⟨k.toNat, by omega⟩
    have HB20 := Lib.hid (fun W => show Calls Try.prog 46 #[.int .i64 20, .int .i64 K] W fun e w' => e = .returned (.int .i64 (bn 20 K)) ∧ W = w' from specBn_any 20 K W (by omega) (by omega))
    have hb20 := bn_30 (n := 20) (k := K) (by omega)
    have HSN := Lib.hid (fun W => sIn_any n 0 ((bn 20 K : Int) - 1) W)
    have HAT := Lib.hid (show atOk n K = inB n 0 ((bn 20 K : Int) - 1) by rw [atOk, h, Int.toNat_natCast]; rfl)
    cases h2 : inB n 0 ((bn 20 K : Int) - 1)
    · rw [h2] at HSN
      have E0 := Lib.hid (HAT.out.trans h2)
      obtain ⟨B, hB⟩ : ∃ B, B = bn 20 K := ⟨_, rfl⟩
      rw [← hB] at HB20 HSN hb20
      clear h h2 HAT hB
      go_enter Try.func29, Try.ntmps29
      go_wp2_with fail
      refine (HS.out _).mono ?_
      rintro e w' ⟨rfl, rfl⟩
      go_wp2_with fail
      refine (HB20.out _).mono ?_
      rintro e w' ⟨rfl, rfl⟩
      go_wp2_with fail
      refine (HSN.out _).mono ?_
      rintro e w' ⟨rfl, rfl⟩
      go_wp2_with fail
      go_ret2
      exact HNO.out _ (Below.refl _ _) E0.out
    · rw [h2] at HSN
      obtain ⟨n0, n1⟩ := inB_yes h2
      obtain ⟨N0, rfl⟩ : ∃ N0 : Nat, n = N0 := ⟨n.toNat, by omega⟩
      have E1 := Lib.hid (show rSubsetAt1 N0 K = true from HAT.out.trans h2)
      have E0 := Lib.hid (show rSubsetAt0 N0 K = (gr K N0).reverse by rw [rSubsetAt0, HAT.out, h2, Int.toNat_natCast, Int.toNat_natCast]; rfl)
      have HN0 := Lib.hid (show N0 < bn 20 K by omega)
      have HB := Lib.hid (fun (x k : Nat) (hx : x ≤ 30) (hk : k ≤ 30) W => specBn_any x k W hx hk)
      obtain ⟨B, hB⟩ : ∃ B, B = bn 20 K := ⟨_, rfl⟩
      rw [← hB] at HB20 HSN hb20 n1
      clear h h2 HAT hB
      go_enter Try.func29, Try.ntmps29
      go_wp2_with fail
      refine (HS.out _).mono ?_
      rintro e w' ⟨rfl, rfl⟩
      go_wp2_with fail
      refine (HB20.out _).mono ?_
      rintro e w' ⟨rfl, rfl⟩
      go_wp2_with fail
      refine (HSN.out _).mono ?_
      rintro e w' ⟨rfl, rfl⟩
      go_wp2_with fail
      go_loopg [0, 6, 7] K (fun g nv v t wr => ∃ (m : Nat) (P : List Int), t = .int .i64 g ∧ nv = .int .i64 m ∧ AtI K N0 g m P ∧ wr.ownsRow w.heap.size 3 1 v P.length (intsOf P) ∧ Below w.heap.size w wr)
      case atStart =>
        refine ⟨N0, [], rfl, rfl, ⟨Nat.le_refl _, HN0.out, Nat.le_refl _, by simp, rfl⟩, ?_, (Below.refl _ _).alloc (Nat.le_refl _) _⟩
        exact World.ownsRow_lit w #[] 0 (Nat.le_refl _) (by decide) rfl
      case round =>
        obtain ⟨m, P, rfl, rfl, hAt, hown, hBl⟩ := hrel
        obtain ⟨hk, hm, hmN, hPl, hPg⟩ := hAt
        have hsz := hBl.size
        by_cases h0 : gk = 0
        · have hPe : P = gr K N0 := by rw [h0] at hPg; simpa [gr] using hPg
          have HT := Lib.hid (fun v W (hr : RowAt W v (intsOf P)) => specTurn_any v P W hr (by omega))
          have HPE := Lib.hid (show P.reverse = rSubsetAt0 N0 K by rw [E0.out, hPe])
          have HOW := Lib.hid (HT.out _ wr (RowAt.of_owns hown))
          obtain ⟨av, cv, e3, _, _⟩ := owns_form hown
          subst e3
          have hn9 : ¬ (1 : Int) ≤ (gk : Int) := by omega
          have HBL := Lib.hid (And.intro hBl hsz)
          clear hown h0 hPe hPg hBl hsz hPl hm hmN
          go_wp2_with fail
          refine HOW.out.mono ?_
          rintro e w2 ⟨v2, rfl, hO2, hB2⟩
          rw [HPE.out] at hO2
          have HO2 := Lib.hid (owns_mono hO2 HBL.out.2)
          have HB2 := Lib.hid (HBL.out.1.trans (hB2.mono HBL.out.2))
          clear hO2 hB2
          go_wp2_with fail
          go_ret2
          exact ⟨_, by rw [E1.out]; rfl, HO2.out, HB2.out⟩
        · obtain ⟨j, rfl⟩ : ∃ j, gk = j + 1 := ⟨gk - 1, by omega⟩
          have HA := Lib.hid (AtI.mk hk hm hmN hPl hPg)
          have hjc : (((j + 1 : Nat) : Nat) : Int) = (j : Int) + 1 := rfl
          have HOWN := Lib.hid hown
          have HBL := Lib.hid (And.intro hBl hsz)
          have hP8 : P.length ≤ 8 := by omega
          clear hown hPg hm hBl hsz h0 hPl
          have HJC := Lib.hid hjc
          simp only [hjc]
          clear hjc
          go_wp2_with fail
          rw [show decide ((1 : Int) ≤ (j : Int) + 1) = true from decide_eq_true (by omega)]
          go_loopg [8] (20 - j) (fun g2 x wi => ∃ y : Nat, g2 = 20 - y ∧ x = .int .i64 y ∧ y ≤ 19 ∧ bn y (j + 1) ≤ m ∧ wi = wr)
          case atStart => exact ⟨j, rfl, by go_num, by omega, by rw [bn_zero (by omega)]; omega, rfl⟩
          case round =>
            obtain ⟨y, rfl, rfl, hy19, hym, rfl⟩ := hrel
            have HB1 := Lib.hid (fun W => HB.out (y + 1) (j + 1) (by omega) (by omega) W)
            have hjc := HJC.out
            simp only [hjc, show (((y + 1 : Nat) : Nat) : Int) = (y : Int) + 1 from rfl] at HB1
            clear hjc
            have hb1 := bn_30 (n := y + 1) (k := j + 1) (by omega)
            by_cases hle : bn (y + 1) (j + 1) ≤ m
            · have HY2 := Lib.hid (show y + 1 ≤ 19 by
                rcases Nat.lt_or_ge (y + 1) 20 with h' | h'
                · omega
                · have := bn_mono h' (j + 1)
                  have := HA.out.lt; omega)
              have HLE := Lib.hid hle
              obtain ⟨B1, hB1⟩ : ∃ B1, B1 = bn (y + 1) (j + 1) := ⟨_, rfl⟩
              rw [← hB1] at HB1 hb1 hle
              clear hB1 hym
              go_wp2_with (go_at_call 46; refine (HB1.out _).mono ?_; rintro e w' ⟨rfl, rfl⟩)
              go_roundg (20 - (y + 1))
              case rel => exact ⟨y + 1, rfl, by go_num, HY2.out, HLE.out, rfl⟩
              case measure => omega
            · have HTP := Lib.hid (show tp (j + 1) m = y from tpD_eq (by omega) hy19 hym (by omega))
              have HB2 := Lib.hid (fun W => HB.out y (j + 1) (by omega) (by omega) W)
              simp only [HJC.out] at HB2
              have hb2 : bn y (j + 1) ≤ m := hym
              have HNX := atI_next HA.out
              rw [HTP.out] at HNX
              obtain ⟨B1, hB1⟩ : ∃ B1, B1 = bn (y + 1) (j + 1) := ⟨_, rfl⟩
              obtain ⟨B2, hB2⟩ : ∃ B2, B2 = bn y (j + 1) := ⟨_, rfl⟩
              rw [← hB1] at HB1 hb1 hle
              rw [← hB2] at HB2 hb2 HNX
              have HG := Lib.hid HNX
              have hown := HOWN.out
              have hm30 : m ≤ 1073741824 := by omega
              have hBl := HBL.out.1
              have hsz := HBL.out.2
              clear hB1 hB2 hym HNX
              go_wp2_with fail
              refine (HB1.out _).mono ?_
              rintro e w' ⟨rfl, rfl⟩
              go_wp2_with fail
              refine (HB2.out _).mono ?_
              rintro e w' ⟨rfl, rfl⟩
              go_wp2_with (at_builtin; refine wpList_append_own_at _ rfl _ _ 23 rfl w.heap.size 3 i0 (.int .i64 0) 1 8 Try.underlying23 hi hz0 hz1 hz2 rfl (by decide) _ _ _ rfl (hown.alloc _) ⟨wr.heap.size, 0, none⟩ 1 1 [.int .i64 y] rfl rfl (one_cell _ _ _) (by intro u hu; simp at hu; subst hu; rfl) (by unfold maxLen; omega) (by omega) (by simp; omega) ?_)
              intro v' w1 hown' hgrow _ _
              have hB1 := (hBl.alloc hsz _).grown hgrow (by simp; omega) (fun j hj => (hown.lt j hj).1)
              have HO := Lib.hid (show w1.ownsRow w.heap.size 3 1 v' (P ++ [(y : Int)]).length (intsOf (P ++ [(y : Int)])) by simpa [intsOf] using hown')
              clear hown' hgrow hown hBl
              have hmc : ((m - B2 : Nat) : Int) = (m : Int) - B2 := by omega
              go_wp2_with fail
              go_roundg j
              case rel => exact ⟨m - B2, P ++ [(y : Int)], by go_num, by rw [hmc], HG.out, HO.out, hB1⟩
              case measure => omega

set_option maxHeartbeats 2000000 in
theorem specNextSubset_any (v : Value) (l : List Int) (w : World) (hr : RowAt w v (intsOf l)) (hl : l.length ≤ 1048576) (hi : ∀ n ∈ l, in64 n) :
    Calls Try.prog 32 #[v] w fun e w' => ∃ v', e = .returned (.tuple #[v', .bool (rNextSubset1 l)]) ∧ w'.ownsRow w.heap.size 3 1 v' (rNextSubset0 l).length (intsOf (rNextSubset0 l)) ∧ Below w.heap.size w w' := by
  have HS := Lib.hid (specSb_any v l 20 w hr (by omega))
  have HR := Lib.hid (specSbRank_any v l w hr (by omega))
  have HNO := Lib.hid (fun w' (hB : Below w.heap.size w w') (h : nxOk l = false) => show ∃ v', Ending.returned (.tuple #[.slice none 0 0, .bool false]) = .returned (.tuple #[v', .bool (rNextSubset1 l)]) ∧ w'.ownsRow w.heap.size 3 1 v' (rNextSubset0 l).length (intsOf (rNextSubset0 l)) ∧ Below w.heap.size w w' from by
    refine ⟨_, by rw [rNextSubset1, h]; rfl, ?_, hB⟩
    rw [rNextSubset0, h]; exact World.ownsRow_nil _ _ _ _)
  obtain ⟨a, cap, rfl, h1, h2, h3⟩ := hr.ints
  unfold maxLen at h2
  clear h3 hr hi
  cases h : okS l 20
  · rw [h] at HS
    have E0 := Lib.hid (show nxOk l = false by rw [nxOk, h]; rfl)
    clear h
    go_enter Try.func32, Try.ntmps32
    go_wp2_with fail
    refine HS.out.mono ?_
    rintro e w' ⟨rfl, rfl⟩
    go_wp2_with fail
    go_ret2
    exact HNO.out _ (Below.refl _ _) E0.out
  · rw [h] at HS
    by_cases h8 : l.length ≤ 8
    · have hrk := rk_small h
      have E1 := Lib.hid (show nxOk l = true by rw [nxOk, h, decide_eq_true h8]; rfl)
      rw [show rSubsetRank0 l = rk l by rw [rSubsetRank0, h]; rfl] at HR
      have EX := Lib.hid (And.intro (show rNextSubset0 l = rSubsetAt0 ((rk l : Int) + 1) l.length by rw [rNextSubset0, E1.out]; rfl) (show rNextSubset1 l = rSubsetAt1 ((rk l : Int) + 1) l.length by rw [rNextSubset1, E1.out]; rfl))
      obtain ⟨R, hR⟩ : ∃ R, R = rk l := ⟨_, rfl⟩
      rw [← hR] at HR EX hrk
      have HA := Lib.hid (fun W => specSubsetAt_any ((R : Int) + 1) l.length W ⟨by omega, by omega⟩ ⟨by omega, by omega⟩)
      rw [EX.out.1, EX.out.2]
      clear h hR
      go_enter Try.func32, Try.ntmps32
      go_wp2_with fail
      refine HS.out.mono ?_
      rintro e w' ⟨rfl, rfl⟩
      go_wp2_with fail
      refine HR.out.mono ?_
      rintro e w' ⟨rfl, rfl⟩
      go_wp2_with fail
      refine (HA.out _).mono ?_
      rintro e w2 ⟨v2, rfl, hO, hB⟩
      have HO := Lib.hid hO
      obtain ⟨av, cv, e3, _, _⟩ := owns_form hO
      obtain ⟨ln, hln⟩ : ∃ ln, ln = (rSubsetAt0 ((R : Int) + 1) l.length).length := ⟨_, rfl⟩
      rw [← hln] at e3
      subst e3
      clear hO hln
      go_wp2_with fail
      go_ret2
      exact ⟨_, rfl, HO.out, hB⟩
    · have E0 := Lib.hid (show nxOk l = false by rw [nxOk, decide_eq_false h8, Bool.and_false])
      clear h
      go_enter Try.func32, Try.ntmps32
      go_wp2_with fail
      refine HS.out.mono ?_
      rintro e w' ⟨rfl, rfl⟩
      go_wp2_with fail
      go_ret2
      exact HNO.out _ (Below.refl _ _) E0.out

end Go.Proofs.Ytjdijmccpihkhaa
