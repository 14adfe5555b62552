/- Places of coins, the program: the fewest coins, counts, the first failure of greedy digits. -/
import Derived.Test.YtbfoaibgenepoaaCoI2
import Derived.Test.YtbfoaibgenepoaaCoWf
import Derived.Test.YtbfoaibgenepoaaCoWc
import Derived.Test.YtbfoaibgenepoaaCoFir
import Derived.Test.YtbfoaibgenepoaaCoSum
set_option linter.unusedVariables false
set_option linter.unusedSimpArgs false
set_option maxRecDepth 100000
namespace Go.Proofs.Ytbfoaibgenepoaa
open Go.ChangeShapes Go.WideShapes Go.ChangeAt Go.RowKit

theorem few_any (n : Nat) (v : Value) (l : List Int) (w : World) (hr : RowAt w v (intsOf l)) (hco : Coins l) (hn : n ≤ 400) :
    Calls Try.prog 44 #[.int .i64 n, v] w fun e w' => ∃ v', e = .returned v' ∧ w'.ownsRow w.heap.size 3 1 v' (n + 1) (intsOf (tblC n (fw1 l))) ∧ Below w.heap.size w w' := by
  obtain ⟨q, hq⟩ : ∃ q, l.length = q + 1 := by obtain ⟨t, ht⟩ := hco.one; exact ⟨t.length, by rw [ht]; rfl⟩
  have HW := Lib.hid (wfways_any n v l q w hr hco hn hq)
  rw [tblC_same (f := wFw l q) (g := fw1 l) (fun x _ => wFw_few hco hq x)] at HW
  obtain ⟨a, cap, rfl, h1, h2, h3⟩ := hr.ints
  clear h3 hr hco hq
  obtain ⟨T, hT⟩ : ∃ T, T = tblC n (fw1 l) := ⟨_, rfl⟩
  rw [← hT] at HW ⊢
  clear hT
  go_enter Try.func44, Try.ntmps44
  go_wp2_with fail
  refine HW.out.mono ?_
  rintro e w1 ⟨v1, rfl, hO, hB⟩
  obtain ⟨a3, c3, e3, _, _⟩ := owns_form hO
  subst e3
  have HO := Lib.hid hO
  clear hO
  go_wp2_with fail
  go_ret
  exact ⟨_, rfl, HO.out, hB⟩

theorem cell_tbl {w : World} {base n : Nat} {v : Value} {f : Nat → Int} (h : w.ownsRow base 3 1 v (n + 1) (intsOf (tblC n f))) : ∃ g off cap, v = .slice (some ⟨g, off, none⟩) (n + 1) cap ∧ ∀ x ≤ n, w.cell? ⟨g, off + x, none⟩ = some (.int .i64 (f x)) := by
  obtain ⟨a3, c3, e3, q1, q2, q3⟩ := (RowAt.of_owns h).ints
  have hl : (tblC n f).length = n + 1 := tblC_len n f
  rw [hl] at e3
  obtain ⟨b', off, rfl, hbb, hcell⟩ := q3.resolve_left (fun e => by rw [e] at hl; simp at hl)
  refine ⟨b', off, c3, e3, fun x hx => ?_⟩
  rw [hcell x (by omega)]
  simp [tblC]

theorem implFewestCoins_any (n : Int) (v : Value) (l : List Int) (w : World) (hn : in64 n) (hr : RowAt w v (intsOf l)) (hl : l.length ≤ 1048576) (hi : ∀ n ∈ l, in64 n) :
    Calls Try.prog 16 #[.int .i64 n, v] w fun e w' => e = .returned (.int .i64 (rFewestCoins0 n l)) ∧ Below w.heap.size w w' := by
  have HS := Lib.hid (search_any n v l w hr (by omega))
  have HG := Lib.hid (fun (k : Nat) q h1 h2 => few_any k v l (w.drewN q) (hr.below (below_drewN (Below.refl _ _) q)) h1 h2)
  have E := Lib.hid (show rFewestCoins0 n l = if okC l && inB n 0 400 then fw1 l n.toNat else -1 from rfl)
  obtain ⟨a, cap, rfl, q1, q2, q3⟩ := hr.ints
  obtain ⟨ll, hll⟩ : ∃ ll, ll = l.length := ⟨_, rfl⟩
  rw [← hll] at HS HG ⊢
  clear hr q1 q2 q3 hll hi hl
  cases hc : (okC l && inB n 0 400)
  · rw [hc] at HS E
    clear hc
    go_enter Try.func16, Try.ntmps16
    go_wp2_with fail
    refine HS.out.mono ?_
    rintro e w' ⟨rfl, q, rfl⟩
    go_wp2_with fail
    go_ret
    exact ⟨by rw [E.out]; rfl, below_drewN (Below.refl _ _) _⟩
  · rw [hc] at HS E
    rw [Bool.and_eq_true] at hc
    obtain ⟨n0, n1⟩ := inB_yes hc.2
    obtain ⟨k, rfl⟩ : ∃ k : Nat, n = k := ⟨n.toNat, by omega⟩
    have HGG := Lib.hid (fun q => HG.out k q (okC_yes hc.1) (by omega))
    have E2 := Lib.hid (show rFewestCoins0 k l = fw1 l k by rw [E.out]; rfl)
    clear hc
    go_enter Try.func16, Try.ntmps16
    go_wp2_with fail
    refine HS.out.mono ?_
    rintro e w' ⟨rfl, q, rfl⟩
    go_wp2_with fail
    refine (HGG.out _).mono ?_
    rintro e w2 ⟨v2, rfl, hO, hB⟩
    obtain ⟨g, off, c3, rfl, hcell⟩ := cell_tbl hO
    have hcl := hcell k (Nat.le_refl _)
    obtain ⟨F, hF⟩ : ∃ F, F = fw1 l k := ⟨_, rfl⟩
    rw [← hF] at hcl E2
    have HB := Lib.hid (show Below w.heap.size w w2 from (below_drewN (Below.refl _ _) q).trans hB)
    clear hO hcell hF hB
    go_wp2_with fail
    go_ret
    exact ⟨by rw [E2.out]; rfl, HB.out⟩

theorem implCountCoins_any (n : Int) (v : Value) (l : List Int) (w : World) (hn : in64 n) (hr : RowAt w v (intsOf l)) (hl : l.length ≤ 1048576) (hi : ∀ n ∈ l, in64 n) :
    Calls Try.prog 24 #[.int .i64 n, v] w fun e w' => e = .returned (.int .i64 (rCountCoins0 n l)) ∧ Below w.heap.size w w' := by
  have HS := Lib.hid (search_any n v l w hr (by omega))
  have HG := Lib.hid (fun (k : Nat) q p h1 h2 h3 => wcways_any k v l p (w.drewN q) (hr.below (below_drewN (Below.refl _ _) q)) h1 h2 h3)
  have E := Lib.hid (show rCountCoins0 n l = if okC l && inB n 0 400 then cwF l n.toNat else -1 from rfl)
  have HLL := Lib.hid (show ∀ p, l.length = p + 1 → l.take (p + 1) = l from fun p h => by rw [← h, List.take_length])
  obtain ⟨a, cap, rfl, q1, q2, q3⟩ := hr.ints
  obtain ⟨ll, hll⟩ : ∃ ll, ll = l.length := ⟨_, rfl⟩
  rw [← hll] at HS HG ⊢
  clear hr q1 q2 q3 hi hl
  cases hc : (okC l && inB n 0 400)
  · rw [hc] at HS E
    clear hc hll
    go_enter Try.func24, Try.ntmps24
    go_wp2_with fail
    refine HS.out.mono ?_
    rintro e w' ⟨rfl, q, rfl⟩
    go_wp2_with fail
    go_ret
    exact ⟨by rw [E.out]; rfl, below_drewN (Below.refl _ _) _⟩
  · rw [hc] at HS E
    rw [Bool.and_eq_true] at hc
    obtain ⟨n0, n1⟩ := inB_yes hc.2
    obtain ⟨k, rfl⟩ : ∃ k : Nat, n = k := ⟨n.toNat, by omega⟩
    have hco := okC_yes hc.1
    obtain ⟨p, hp⟩ : ∃ p, l.length = p + 1 := by obtain ⟨t, ht⟩ := hco.one; exact ⟨t.length, by rw [ht]; rfl⟩
    have HGG := Lib.hid (fun q => HG.out k q p hco (by omega) (by omega))
    have E2 := Lib.hid (show rCountCoins0 k l = wCt l p k by rw [E.out, wCt_cw hco p (by omega), HLL.out p hp]; rfl)
    clear hc hco hll hp HG
    go_enter Try.func24, Try.ntmps24
    go_wp2_with fail
    refine HS.out.mono ?_
    rintro e w' ⟨rfl, q, rfl⟩
    go_wp2_with fail
    refine (HGG.out _).mono ?_
    rintro e w2 ⟨v2, rfl, hO, hB⟩
    obtain ⟨g, off, c3, rfl, hcell⟩ := cell_tbl hO
    have hcl := hcell k (Nat.le_refl _)
    obtain ⟨F, hF⟩ : ∃ F, F = wCt l p k := ⟨_, rfl⟩
    rw [← hF] at hcl E2
    have HB := Lib.hid (show Below w.heap.size w w2 from (below_drewN (Below.refl _ _) q).trans hB)
    clear hO hcell hF hB
    go_wp2_with fail
    go_ret
    exact ⟨by rw [E2.out]; rfl, HB.out⟩

set_option maxHeartbeats 4000000 in
theorem implFirstUngreedy_any (v : Value) (l : List Int) (most : Int) (w : World) (hr : RowAt w v (intsOf l)) (hl : l.length ≤ 1048576) (hi : ∀ n ∈ l, in64 n) (hm : in64 most) :
    Calls Try.prog 17 #[v, .int .i64 most] w fun e w' => e = .returned (.int .i64 (rFirstUngreedy0 l most)) ∧ Below w.heap.size w w' := by
  have HS := Lib.hid (search_any most v l w hr (by omega))
  have HG := Lib.hid (fun (k : Nat) q h1 h2 => few_any k v l (w.drewN q) (hr.below (below_drewN (Below.refl _ _) q)) h1 h2)
  have HGR := Lib.hid (fun (k : Nat) W (hb : Below w.heap.size w W) h1 h2 => implGr_any k v l W (hr.below hb) h1 (by omega) h2)
  have E := Lib.hid (show rFirstUngreedy0 l most = if okC l && inB most 0 400 then fuN (badG l) (most.toNat + 1) 0 else -1 from rfl)
  obtain ⟨a, cap, rfl, q1, q2, q3⟩ := hr.ints
  obtain ⟨ll, hll⟩ : ∃ ll, ll = l.length := ⟨_, rfl⟩
  rw [← hll] at HS HG HGR ⊢
  clear hr q1 q2 q3 hll hi hl
  obtain ⟨RES, hRES⟩ : ∃ RES, RES = rFirstUngreedy0 l most := ⟨_, rfl⟩
  rw [← hRES] at E ⊢
  clear hRES
  cases hc : (okC l && inB most 0 400)
  · rw [hc] at HS E
    clear hc
    go_enter Try.func17, Try.ntmps17
    go_wp2_with fail
    refine HS.out.mono ?_
    rintro e w' ⟨rfl, q, rfl⟩
    go_wp2_with fail
    go_ret
    exact ⟨by rw [E.out]; rfl, below_drewN (Below.refl _ _) _⟩
  · rw [hc] at HS E
    rw [Bool.and_eq_true] at hc
    obtain ⟨n0, n1⟩ := inB_yes hc.2
    obtain ⟨n, rfl⟩ : ∃ k : Nat, most = k := ⟨most.toNat, by omega⟩
    have hn4 : n ≤ 400 := by omega
    have hco := okC_yes hc.1
    have HGG := Lib.hid (fun q => HG.out n q hco (by omega))
    have HGK := Lib.hid (fun (k : Nat) (hk : k ≤ n) W hb => HGR.out k W hb hco (by omega))
    have HGB := Lib.hid (fun (k : Nat) => show (∀ d ∈ gz k l, 0 ≤ d ∧ d ≤ k) from fun d hd => gz_bd hco (by omega) d hd)
    have HGL := Lib.hid (show ∀ k : Nat, (gz k l).length ≤ 10 from fun k => by rw [gz_len]; exact hco.len)
    have HST := Lib.hid (show fuN (badG l) (n + 1 - 0) 0 = RES by rw [E.out]; simp)
    have HFB := Lib.hid (fun (k : Nat) => fw1_bd l k)
    clear hc hco HG HGR
    go_enter Try.func17, Try.ntmps17
    go_wp2_with fail
    refine HS.out.mono ?_
    rintro e w' ⟨rfl, q, rfl⟩
    go_wp2_with fail
    refine (HGG.out _).mono ?_
    rintro e w2 ⟨v2, rfl, hO, hB⟩
    have HO := Lib.hid (fun W (hb : Below w2.heap.size w2 W) => owns_below hO hb)
    obtain ⟨g, off, c3, rfl, _⟩ := cell_tbl hO
    have HB := Lib.hid (show Below w.heap.size w w2 from (below_drewN (Below.refl _ _) q).trans hB)
    clear hO hB
    go_wp2_with fail
    go_loopw [15] (fun i wr => ∃ k : Nat, k ≤ n + 1 ∧ i = .int .i64 k ∧ fuN (badG l) (n + 1 - k) k = RES ∧ Below w2.heap.size w2 wr) (fun i _ => n + 1 - (intOf i).toNat)
    case atStart => exact ⟨0, Nat.zero_le _, rfl, HST.out, Below.refl _ _⟩
    case round =>
      obtain ⟨k, hk, rfl, hfu, hBr⟩ := hrel
      by_cases hlt : k < n + 1
      · rw [show n + 1 - k = (n - k) + 1 by omega, fuN] at hfu
        have how := HO.out _ hBr
        obtain ⟨g2, off2, c2, e4, hcell⟩ := cell_tbl how
        injection e4 with e4 _ e5
        injection e4 with e4
        injection e4 with e4 e6
        subst e4 e5 e6
        have hcl := hcell k (by omega)
        have HBW := Lib.hid (HB.out.trans (hBr.mono HB.out.size))
        have HGC := Lib.hid (HGK.out k (by omega) wr HBW.out)
        have HVA := Lib.hid (fun vg W hg => values_anyC vg (gz k l) W W (by have := HGL.out k; omega) (fun d hd => by have := HGB.out k d hd; omega) hg (Below.refl _ _))
        have HSU := Lib.hid (fun Bs W n₀ h1 h2 => sumVals_anyC Bs n₀ (gz k l) W W (by have := HGL.out k; omega) h1 h2)
        have hbad : badG l k = decide (fw1 l k < (gz k l).sum) := rfl
        obtain ⟨F, hF⟩ : ∃ F, F = fw1 l k := ⟨_, rfl⟩
        obtain ⟨GZ, hGZ⟩ : ∃ L, L = gz k l := ⟨_, rfl⟩
        obtain ⟨SM, hSM⟩ : ∃ s, s = (gz k l).sum := ⟨_, rfl⟩
        rw [← hF] at hcl hbad
        rw [← hSM] at hbad HSU
        rw [← hGZ] at HGC HSU HVA
        rw [hbad] at hfu
        have HBR := Lib.hid hBr
        have hki : (k : Int) < (n : Int) + 1 := by omega
        clear how hcell hF hGZ hSM hbad hBr
        by_cases hlt2 : F < SM
        · rw [decide_eq_true hlt2, if_pos rfl] at hfu
          have HFU := Lib.hid hfu
          clear hfu
          go_wp2_with fail
          refine HGC.out.mono ?_
          rintro e w4 ⟨v4, rfl, hO4, hB4⟩
          have HVV := Lib.hid (HVA.out _ _ (RowAt.of_owns hO4))
          obtain ⟨a5, c5, e6, _, _⟩ := owns_form hO4
          obtain ⟨ln3, hln3⟩ : ∃ ln, ln = GZ.length := ⟨_, rfl⟩
          rw [← hln3] at e6
          subst e6
          have HB4 := Lib.hid hB4
          clear hO4 hln3 hB4
          go_wp2_with fail
          refine HVV.out.mono ?_
          rintro e w5 ⟨rfl, hB5, hs5, hseq⟩
          have HSS := Lib.hid (HSU.out _ _ _ (by omega) hseq)
          have HB5 := Lib.hid hB5
          clear hseq hs5 hB5
          go_wp2_with fail
          refine HSS.out.mono ?_
          rintro e w6 ⟨rfl, hB6⟩
          go_wp2_with fail
          go_ret
          have h45 := HB4.out.trans (HB5.out.mono HB4.out.size)
          exact ⟨by rw [← HFU.out]; rfl, HBW.out.trans ((h45.trans (hB6.mono h45.size)).mono HBW.out.size)⟩
        · rw [decide_eq_false hlt2, if_neg (by simp)] at hfu
          have HFU := Lib.hid hfu
          clear hfu
          go_wp2_with fail
          refine HGC.out.mono ?_
          rintro e w4 ⟨v4, rfl, hO4, hB4⟩
          have HVV := Lib.hid (HVA.out _ _ (RowAt.of_owns hO4))
          obtain ⟨a5, c5, e6, _, _⟩ := owns_form hO4
          obtain ⟨ln3, hln3⟩ : ∃ ln, ln = GZ.length := ⟨_, rfl⟩
          rw [← hln3] at e6
          subst e6
          have HB4 := Lib.hid hB4
          clear hO4 hln3 hB4
          go_wp2_with fail
          refine HVV.out.mono ?_
          rintro e w5 ⟨rfl, hB5, hs5, hseq⟩
          have HSS := Lib.hid (HSU.out _ _ _ (by omega) hseq)
          have HB5 := Lib.hid hB5
          clear hseq hs5 hB5
          go_wp2_with fail
          refine HSS.out.mono ?_
          rintro e w6 ⟨rfl, hB6⟩
          have h45 := HB4.out.trans (HB5.out.mono HB4.out.size)
          have HBE := Lib.hid (HBR.out.trans ((h45.trans (hB6.mono h45.size)).mono HBR.out.size))
          clear hB6 h45
          go_wp2_with fail
          go_roundw
          case rel => exact ⟨k + 1, hlt, by go_num, by rw [← HFU.out]; congr 1; omega, HBE.out⟩
          case measure => simp [intOf]; omega
      · have hkn : k = n + 1 := by omega
        have HFU := Lib.hid (show RES = -1 by rw [← hfu, hkn, Nat.sub_self, fuN])
        have hn9 : ¬ (k : Int) < (n : Int) + 1 := by omega
        clear hfu hkn
        go_wp2_with fail
        go_ret
        exact ⟨by rw [HFU.out]; rfl, HB.out.trans (hBr.mono HB.out.size)⟩

end Go.Proofs.Ytbfoaibgenepoaa
