/- Places of coins: the model's first failure of greedy digits. -/
import Derived.Test.YtbfoaibgenepoaaCoFewS
import Derived.Test.YtbfoaibgenepoaaCur
set_option linter.unusedVariables false
set_option linter.unusedSimpArgs false
set_option maxRecDepth 100000
namespace Go.Proofs.Ytbfoaibgenepoaa
open Go.ChangeShapes Go.WideShapes Go.ChangeAt Go.RowKit

/-- the first of m numbers, from k on, for which p holds -/
def fuN (p : Nat → Bool) : Nat → Nat → Int
  | 0, _ => -1
  | m + 1, k => if p k then k else fuN p m (k + 1)
theorem fuN_yes {p : Nat → Bool} : ∀ {m k : Nat}, 0 ≤ fuN p m k → ∃ j : Nat, fuN p m k = j ∧ k ≤ j ∧ j < k + m ∧ p j = true ∧ ∀ i, k ≤ i → i < j → p i = false
  | 0, k, h => by simp [fuN] at h
  | m + 1, k, h => by
    rw [fuN] at h ⊢
    cases e : p k
    · rw [e] at h
      rw [if_neg (by simp)] at h ⊢
      obtain ⟨j, h1, h2, h3, h4, h5⟩ := fuN_yes h
      refine ⟨j, h1, by omega, by omega, h4, fun i hi hj => ?_⟩
      rcases Nat.eq_or_lt_of_le hi with rfl | hi
      · exact e
      · exact h5 i hi hj
    · exact ⟨k, by simp, Nat.le_refl _, by omega, e, fun i hi hj => by omega⟩
theorem fuN_no {p : Nat → Bool} : ∀ {m k : Nat}, fuN p m k < 0 → ∀ i, k ≤ i → i < k + m → p i = false
  | 0, k, h, i, hi, hj => by omega
  | m + 1, k, h, i, hi, hj => by
    rw [fuN] at h
    cases e : p k
    · rw [e, if_neg (by simp)] at h
      rcases Nat.eq_or_lt_of_le hi with rfl | hi
      · exact e
      · exact fuN_no h i hi (by omega)
    · rw [e, if_pos rfl] at h; omega
def badG (l : List Int) (n : Nat) : Bool := decide (fw1 l n < (gz n l).sum)
def rFirstUngreedy0 (l : List Int) (most : Int) : Int := if okC l && inB most 0 400 then fuN (badG l) (most.toNat + 1) 0 else -1

theorem sum_take_boundC {l : List Int} (hd : ∀ d ∈ l, 0 ≤ d ∧ d ≤ 100000) : ∀ k, k ≤ l.length → 0 ≤ (l.take k).sum ∧ (l.take k).sum ≤ 100000 * k
  | 0, _ => by simp
  | k + 1, h => by
    have ih := sum_take_boundC hd k (by omega)
    have := hd l[k] (List.getElem_mem (by omega))
    rw [List.take_succ_eq_append_getElem (by omega), List.sum_append]
    simp; omega

set_option maxHeartbeats 2000000 in
theorem specSumC_any (v : Value) (l : List Int) (w : World) (hr : RowAt w v (intsOf l)) (hl : l.length ≤ 1000000) (hd : ∀ d ∈ l, 0 ≤ d ∧ d ≤ 100000) :
    Calls Try.prog 62 #[v] w fun e w' => e = .returned (.int .i64 l.sum) ∧ w = w' := by
  obtain ⟨a, cap, rfl, h1, h2, h3⟩ := hr.ints
  unfold maxLen at h2
  have HD := Lib.hid hd; clear hd
  go_enter Try.func62, Try.ntmps62
  go_wp2
  go_loop [3, 8] (fun x i => ∃ k : Nat, k ≤ l.length ∧ i = .int .i64 k ∧ x = .int .i64 (l.take k).sum) (fun _ i => l.length - (intOf i).toNat)
  case atStart => exact ⟨0, Nat.zero_le _, rfl, rfl⟩
  case round =>
    obtain ⟨k, hk, rfl, rfl⟩ := hrel
    obtain ⟨hs0, hs1⟩ := sum_take_boundC HD.out k hk
    by_cases hlt : k < l.length
    · obtain ⟨b', off, rfl, hbb, hcell⟩ := h3.resolve_left (fun e => by rw [e] at hlt; simp at hlt)
      have hc := hcell k hlt
      have hdj := HD.out _ (List.getElem_mem hlt)
      have HX := Lib.hid (show (l.take k).sum + l[k] = (l.take (k + 1)).sum by
        rw [List.take_succ_eq_append_getElem hlt, List.sum_append]; simp)
      clear h3 hcell
      go_wp2
      go_round
      case rel => exact ⟨k + 1, by omega, by go_num, by rw [HX.out]⟩
      case measure => simp [intOf]; omega
    · have hkl : k = l.length := by omega
      subst hkl
      have HV := Lib.hid (show (l.take l.length).sum = l.sum by rw [List.take_length])
      clear h3
      go_wp2
      go_ret
      exact ⟨by rw [← HV.out]; rfl, rfl⟩


set_option maxHeartbeats 4000000 in
theorem specFirstUngreedy_any (v : Value) (l : List Int) (most : Int) (w : World) (hr : RowAt w v (intsOf l)) (hl : l.length ≤ 1048576) (hi : ∀ n ∈ l, in64 n) (hm : in64 most) :
    Calls Try.prog 35 #[v, .int .i64 most] w fun e w' => e = .returned (.int .i64 (rFirstUngreedy0 l most)) ∧ Below w.heap.size w w' := by
  have HC := Lib.hid (specCo_any v l w hr (by omega) hi)
  have HS := Lib.hid (fun W => sIn_any most 0 400 W)
  have HG := Lib.hid (fun (k : Nat) h1 h2 => specFew_any k v l w hr h1 h2)
  have HGR := Lib.hid (fun (k : Nat) W (hb : Below w.heap.size w W) h1 h2 => specGr_any k v l W (hr.below hb) h1 (by omega) h2)
  obtain ⟨a, cap, rfl, q1, q2, q3⟩ := hr.ints
  obtain ⟨ll, hll⟩ : ∃ ll, ll = l.length := ⟨_, rfl⟩
  rw [← hll] at HC HG HGR ⊢
  clear hr q1 q2 q3 hll hi hl
  have E := Lib.hid (show rFirstUngreedy0 l most = if okC l && inB most 0 400 then fuN (badG l) (most.toNat + 1) 0 else -1 from rfl)
  obtain ⟨RES, hRES⟩ : ∃ RES, RES = rFirstUngreedy0 l most := ⟨_, rfl⟩
  rw [← hRES] at E ⊢
  clear hRES
  cases hc : okC l
  · rw [hc] at HC E
    clear hc
    go_enter Try.func35, Try.ntmps35
    go_wp2_with fail
    refine HC.out.mono ?_
    rintro e w' ⟨rfl, rfl⟩
    go_wp2_with fail
    go_ret
    exact ⟨by rw [E.out]; rfl, Below.refl _ _⟩
  · rw [hc] at HC E
    cases h : inB most 0 400
    · rw [h] at HS E
      clear hc h
      go_enter Try.func35, Try.ntmps35
      go_wp2_with fail
      refine HC.out.mono ?_
      rintro e w' ⟨rfl, rfl⟩
      go_wp2_with fail
      refine (HS.out _).mono ?_
      rintro e w' ⟨rfl, rfl⟩
      go_wp2_with fail
      go_ret
      exact ⟨by rw [E.out]; rfl, Below.refl _ _⟩
    · rw [h] at HS E
      obtain ⟨n0, n1⟩ := inB_yes h
      obtain ⟨n, rfl⟩ : ∃ k : Nat, most = k := ⟨most.toNat, by omega⟩
      have hn4 : n ≤ 400 := by omega
      have hco := okC_yes hc
      have HGG := Lib.hid (HG.out n hco (by omega))
      have HGK := Lib.hid (fun (k : Nat) (hk : k ≤ n) W hb => HGR.out k W hb hco (by omega))
      have HGB := Lib.hid (fun (k : Nat) => show (∀ d ∈ gz k l, 0 ≤ d ∧ d ≤ k) from fun d hd => gz_bd hco (by omega) d hd)
      have HGL := Lib.hid (show ∀ k : Nat, (gz k l).length ≤ 10 from fun k => by rw [gz_len]; exact hco.len)
      have HST := Lib.hid (show fuN (badG l) (n + 1 - 0) 0 = RES by rw [E.out]; simp)
      have HLN := Lib.hid (fewL_len l n)
      have HGT := Lib.hid (fun (k : Nat) (hk : k ≤ n) => fewL_get l n k hk)
      have HFB := Lib.hid (fun (k : Nat) => fw1_bd l k)
      obtain ⟨G, hG⟩ : ∃ G, G = fewL l n := ⟨_, rfl⟩
      rw [← hG] at HGG HLN HGT
      clear hc h hG hco HG HGR
      go_enter Try.func35, Try.ntmps35
      go_wp2_with fail
      refine HC.out.mono ?_
      rintro e w' ⟨rfl, rfl⟩
      go_wp2_with fail
      refine (HS.out _).mono ?_
      rintro e w' ⟨rfl, rfl⟩
      go_wp2_with fail
      refine HGG.out.mono ?_
      rintro e w2 ⟨v2, rfl, hO, hB⟩
      have HO := Lib.hid (fun W (hb : Below w2.heap.size w2 W) => owns_below hO hb)
      obtain ⟨a3, c3, e3, _, _⟩ := owns_form hO
      subst e3
      have HB := Lib.hid hB
      clear hO hB
      go_wp2_with fail
      go_loopw [19] (fun i wr => ∃ k : Nat, k ≤ n + 1 ∧ i = .int .i64 k ∧ fuN (badG l) (n + 1 - k) k = RES ∧ Below w2.heap.size w2 wr) (fun i _ => n + 1 - (intOf i).toNat)
      case atStart => exact ⟨0, Nat.zero_le _, rfl, HST.out, Below.refl _ _⟩
      case round =>
        obtain ⟨k, hk, rfl, hfu, hBr⟩ := hrel
        by_cases hlt : k < n + 1
        · rw [show n + 1 - k = (n - k) + 1 by omega, fuN] at hfu
          have how := HO.out _ hBr
          obtain ⟨a4, c4, e4, _, _, q3⟩ := (RowAt.of_owns how).ints
          rw [HLN.out] at e4
          injection e4 with e4 _ e5
          subst e4 e5
          have hlk : k < G.length := by rw [HLN.out]; exact hlt
          obtain ⟨b', off, rfl, hbb, hcell⟩ := q3.resolve_left (fun e => by rw [e] at hlk; simp at hlk)
          have hcl := hcell k hlk
          rw [show G[k] = fw1 l k by rw [← HGT.out k (by omega), List.getD_eq_getElem?_getD, List.getElem?_eq_getElem hlk]; rfl] at hcl
          have HBW := Lib.hid (HB.out.trans (hBr.mono HB.out.size))
          have HGC := Lib.hid (HGK.out k (by omega) wr HBW.out)
          have HSU := Lib.hid (fun vg W hg => specSumC_any vg (gz k l) W hg (by have := HGL.out k; omega) (fun d hd => by have := HGB.out k d hd; omega))
          have hbad : badG l k = decide (fw1 l k < (gz k l).sum) := rfl
          obtain ⟨F, hF⟩ : ∃ F, F = fw1 l k := ⟨_, rfl⟩
          obtain ⟨GZ, hGZ⟩ : ∃ L, L = gz k l := ⟨_, rfl⟩
          obtain ⟨SM, hSM⟩ : ∃ s, s = (gz k l).sum := ⟨_, rfl⟩
          rw [← hF] at hcl hbad
          rw [← hSM] at hbad HSU
          rw [← hGZ] at HGC HSU
          rw [hbad] at hfu
          have HBR := Lib.hid hBr
          clear how q3 hcell hlk hF hGZ hSM hbad hBr
          by_cases hlt2 : F < SM
          · rw [decide_eq_true hlt2, if_pos rfl] at hfu
            have HFU := Lib.hid hfu
            clear hfu
            go_wp2_with fail
            refine HGC.out.mono ?_
            rintro e w4 ⟨v4, rfl, hO4, hB4⟩
            have HSS := Lib.hid (HSU.out _ _ (RowAt.of_owns hO4))
            obtain ⟨a5, c5, e6, _, _⟩ := owns_form hO4
            obtain ⟨ln3, hln3⟩ : ∃ ln, ln = GZ.length := ⟨_, rfl⟩
            rw [← hln3] at e6
            subst e6
            clear hO4 hln3
            go_wp2_with fail
            refine HSS.out.mono ?_
            rintro e w5 ⟨rfl, rfl⟩
            go_wp2_with fail
            go_ret
            exact ⟨by rw [← HFU.out]; rfl, HBW.out.trans (hB4.mono HBW.out.size)⟩
          · rw [decide_eq_false hlt2, if_neg (by simp)] at hfu
            have HFU := Lib.hid hfu
            clear hfu
            go_wp2_with fail
            refine HGC.out.mono ?_
            rintro e w4 ⟨v4, rfl, hO4, hB4⟩
            have HSS := Lib.hid (HSU.out _ _ (RowAt.of_owns hO4))
            obtain ⟨a5, c5, e6, _, _⟩ := owns_form hO4
            obtain ⟨ln3, hln3⟩ : ∃ ln, ln = GZ.length := ⟨_, rfl⟩
            rw [← hln3] at e6
            subst e6
            have HB4 := Lib.hid (HBR.out.trans (hB4.mono HBR.out.size))
            clear hO4 hln3 hB4
            go_wp2_with fail
            refine HSS.out.mono ?_
            rintro e w5 ⟨rfl, rfl⟩
            go_wp2_with fail
            go_roundw
            case rel => exact ⟨k + 1, hlt, by go_num, by rw [← HFU.out]; congr 1; omega, HB4.out⟩
            case measure => simp [intOf]; omega
        · have hkn : k = n + 1 := by omega
          have HFU := Lib.hid (show RES = -1 by rw [← hfu, hkn, Nat.sub_self, fuN])
          have hn9 : ¬ (k : Int) < (n : Int) + 1 := by omega
          clear hfu hkn
          go_wp2_with fail
          go_ret
          exact ⟨by rw [HFU.out]; rfl, HB.out.trans (hBr.mono HB.out.size)⟩

end Go.Proofs.Ytbfoaibgenepoaa
