/- Places of coins: the model's least digits. -/
import Derived.Test.YtbfoaibgenepoaaCoFewS
import Derived.Test.YtbfoaibgenepoaaCoLsM
import Derived.Test.YtbfoaibgenepoaaCoLstA
import Derived.Test.YtbfoaibgenepoaaCoLstB
set_option linter.unusedVariables false
set_option linter.unusedSimpArgs false
set_option maxRecDepth 100000
namespace Go.Proofs.Ytbfoaibgenepoaa
open Go.ChangeShapes Go.WideShapes Go.ChangeAt Go.RowKit

theorem specLst_any (l : List Int) (hco : Coins l) (v : Value) : ∀ (m i : Nat), i + m = l.length → ∀ (n left : Int) (w : World), 0 ≤ n → n ≤ 400 → 0 ≤ left → left ≤ 400 → RowAt w v (intsOf l) → LstAt l v i n left w
  | 0, i, hi, n, left, w, _, _, _, _, hr => by
    obtain rfl : i = l.length := by omega
    exact specLst_end l v n left w hr
  | m + 1, i, hi, n, left, w, h1, h2, h3, h4, hr => by
    have ih := specLst_any l hco v m (i + 1) (by omega)
    by_cases h : i + 1 < l.length
    · exact specLst_mid l hco v i h ih n left w h1 h2 h3 h4 hr
    · exact specLst_last l hco v i (by omega) ih n left w h1 h2 h3 h4 hr

set_option maxHeartbeats 2000000 in
theorem specLeastDigits_any (n : Int) (v : Value) (l : List Int) (w : World) (hn : in64 n) (hr : RowAt w v (intsOf l)) (hl : l.length ≤ 1048576) (hi : ∀ n ∈ l, in64 n) :
    Calls Try.prog 38 #[.int .i64 n, v] w fun e w' => ∃ v', e = .returned v' ∧ w'.ownsRow w.heap.size 3 1 v' (rLeastDigits0 n l).length (intsOf (rLeastDigits0 n l)) ∧ Below w.heap.size w w' := by
  have HF := Lib.hid (specFewestCoins_any n v l w hn hr hl hi)
  have E := Lib.hid (show rFewestCoins0 n l = if okC l && inB n 0 400 then fw1 l n.toNat else -1 from rfl)
  have HL := Lib.hid (fun (hco : Coins l) (left : Int) (W : World) (hb : Below w.heap.size w W) h1 h2 h3 h4 => specLst_any l hco v l.length 0 (by omega) n left W h1 h2 h3 h4 (hr.below hb))
  obtain ⟨a, cap, rfl, q1, q2, q3⟩ := hr.ints
  cases hc : (okC l && inB n 0 400)
  · rw [hc] at E
    have E2 : rFewestCoins0 n l = -1 := E.out
    rw [E2] at HF
    rw [rLeast_no hc]
    obtain ⟨ll, hll⟩ : ∃ ll, ll = l.length := ⟨_, rfl⟩
    rw [← hll] at HF ⊢
    clear hc hr q1 q2 q3 hll hi hl HL E E2
    go_enter Try.func38, Try.ntmps38
    go_wp2_with fail
    refine HF.out.mono ?_
    rintro e w' ⟨rfl, hB⟩
    go_wp2_with fail
    go_ret
    exact ⟨_, rfl, World.ownsRow_nil _ _ _ _, hB⟩
  · rw [hc] at E
    have hc2 := hc
    rw [Bool.and_eq_true] at hc2
    obtain ⟨n0, n1⟩ := inB_yes hc2.2
    obtain ⟨k, rfl⟩ : ∃ k : Nat, n = k := ⟨n.toNat, by omega⟩
    have hco := okC_yes hc2.1
    obtain ⟨q, hq⟩ : ∃ q, l.length = q + 1 := by obtain ⟨t, ht⟩ := hco.one; exact ⟨t.length, by rw [ht]; rfl⟩
    have E2 : rFewestCoins0 k l = fw1 l k := E.out
    rw [E2] at HF
    have hfb := (fw1_bd l k).2
    have HLD := Lib.hid (ld_is hco hq k)
    have HLL := Lib.hid (fun W hb => HL.out hco (fw1 l k) W hb n0 n1 hfb.1 (by omega))
    rw [rLeast_len hc hq, rLeast_yes hc hq]
    have HTN := Lib.hid ((wDg_lst hco q (by omega) k).sol.len)
    obtain ⟨F, hF⟩ : ∃ F, F = fw1 l k := ⟨_, rfl⟩
    obtain ⟨D, hD⟩ : ∃ D, D = wDg l q k := ⟨_, rfl⟩
    rw [← hF] at HF HLL HLD hfb
    rw [← hD] at HLD HTN ⊢
    have HCC := Lib.hid (fun W hb => show Calls Try.prog 63 #[.int .i64 k, .slice a l.length cap, .int .i64 0, .int .i64 F] W (fun e w' => ∃ g c2, e = .returned (.tuple #[.slice (some ⟨g, 0, none⟩) l.length c2, .bool true]) ∧ w'.ownsRow W.heap.size 3 1 (.slice (some ⟨g, 0, none⟩) l.length c2) l.length (intsOf D) ∧ Below W.heap.size W w') from by
      have h := HLL.out W hb
      unfold LstAt at h
      rw [List.drop_zero, HLD.out] at h
      refine h.mono ?_
      rintro e w' ⟨⟨t, g, c2, h1, rfl, h3⟩ | ⟨_, _, _, h1, _⟩, hB⟩
      · injection h1 with h1
        subst h1
        rw [HTN.out] at h3 ⊢
        exact ⟨g, c2, rfl, h3, hB⟩
      · cases h1)
    obtain ⟨ll, hll⟩ : ∃ ll, ll = l.length := ⟨_, rfl⟩
    rw [← hll] at HF HCC ⊢
    have hf0 := hfb.1
    clear hc hr q1 q2 q3 hll hi hl HL E E2 hc2 hco hq hF hD HLL HLD hfb HTN
    go_enter Try.func38, Try.ntmps38
    go_wp2_with fail
    refine HF.out.mono ?_
    rintro e w1 ⟨rfl, hB⟩
    go_wp2_with fail
    refine (HCC.out _ hB).mono ?_
    rintro e w2 ⟨g, c2, rfl, hO, hB2⟩
    have HO := Lib.hid (owns_mono hO hB.size)
    have HB2 := Lib.hid (hB.trans (hB2.mono hB.size))
    clear hO hB2
    go_wp2_with fail
    go_ret
    exact ⟨_, rfl, HO.out, HB2.out⟩

end Go.Proofs.Ytbfoaibgenepoaa
