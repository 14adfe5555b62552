/- Places of coins, the program: the least digits. -/
import Derived.Test.YtbfoaibgenepoaaCoI1
import Derived.Test.YtbfoaibgenepoaaCoI7
import Derived.Test.YtbfoaibgenepoaaCoLsM
set_option linter.unusedVariables false
set_option linter.unusedSimpArgs false
set_option maxRecDepth 100000
namespace Go.Proofs.Ytbfoaibgenepoaa
open Go.ChangeShapes Go.WideShapes Go.ChangeAt Go.RowKit

set_option maxHeartbeats 4000000 in
theorem implLeastDigits_any (n : Int) (v : Value) (l : List Int) (w : World) (hn : in64 n) (hr : RowAt w v (intsOf l)) (hl : l.length ≤ 1048576) (hi : ∀ n ∈ l, in64 n) :
    Calls Try.prog 18 #[.int .i64 n, v] w fun e w' => ∃ v', e = .returned v' ∧ w'.ownsRow w.heap.size 3 1 v' (rLeastDigits0 n l).length (intsOf (rLeastDigits0 n l)) ∧ Below w.heap.size w w' := by
  obtain ⟨i0, hi0, hz0, hz1, hz2⟩ := info_parts infoInt
  have HS := Lib.hid (search_any n v l w hr (by omega))
  have HW := Lib.hid (fun (k : Nat) vz q W (hb : Below w.heap.size w W) hco h1 h2 h3 => wayL_any w.heap.size k v vz l q W (hr.below hb) hco h1 h2 h3 hb.size)
  obtain ⟨a, cap, rfl, q1, q2, q3⟩ := hr.ints
  cases hc : (okC l && inB n 0 400)
  · rw [hc] at HS
    rw [rLeast_no hc]
    obtain ⟨ll, hll⟩ : ∃ ll, ll = l.length := ⟨_, rfl⟩
    rw [← hll] at HS ⊢
    clear hc hr q1 q2 q3 hll hi hl HW
    go_enter Try.func18, Try.ntmps18
    go_wp2_with fail
    refine HS.out.mono ?_
    rintro e w' ⟨rfl, q, rfl⟩
    go_wp2_with fail
    go_ret
    exact ⟨_, rfl, World.ownsRow_nil _ _ _ _, below_drewN (Below.refl _ _) _⟩
  · rw [hc] at HS
    have hc2 := hc
    rw [Bool.and_eq_true] at hc2
    obtain ⟨n0, n1⟩ := inB_yes hc2.2
    obtain ⟨k, rfl⟩ : ∃ k : Nat, n = k := ⟨n.toNat, by omega⟩
    have hco := okC_yes hc2.1
    have hl10 := hco.len
    obtain ⟨q, hq⟩ : ∃ q, l.length = q + 1 := by obtain ⟨t, ht⟩ := hco.one; exact ⟨t.length, by rw [ht]; rfl⟩
    rw [rLeast_len hc hq, rLeast_yes hc hq]
    have HWW := Lib.hid (fun vz W hb h3 => HW.out k vz q W hb hco (by omega) hq h3)
    have h0 : 0 < l.length := by omega
    obtain ⟨D, hD⟩ : ∃ D, D = wDg l q k := ⟨_, rfl⟩
    rw [← hD] at HWW ⊢
    have hzr : intsOf (List.replicate l.length 0) = List.replicate l.length (Value.int .i64 0) := intsOf_zeros _
    obtain ⟨ll, hll⟩ : ∃ ll, ll = l.length := ⟨_, rfl⟩
    rw [← hll] at HS HWW hl10 h0 hzr ⊢
    have HZR := Lib.hid hzr
    have k1 : (k : Int) < (k : Int) + 1 := by omega
    have k2 : k < k + 1 := by omega
    clear hc hr q1 q2 q3 hll hi hl HW hco hc2 hq hD hzr
    go_enter Try.func18, Try.ntmps18
    go_wp2_with fail
    refine HS.out.mono ?_
    rintro e w' ⟨rfl, p, rfl⟩
    go_wp2_with (at_make; refine wpList_make_full _ rfl _ _ 23 rfl w.heap.size 3 i0 (.int .i64 0) 1 Try.underlying23 hi0 hz0 hz1 _ _ _ _ ll rfl rfl rfl rfl ?c1 ?c2 ?c3 ?_)
    case c1 => rw [hz2]; omega
    case c2 => unfold maxLen; omega
    case c3 => exact Nat.le_refl _
    intro w1 hown hgrow
    have hB1 : Below w.heap.size w w1 := (below_drewN (Below.refl _ w) p).grown hgrow (Nat.le_refl _) (fun k hk => by cases hk)
    have hown1 : w1.ownsRow w.heap.size 3 1 (.slice (some ⟨w.heap.size, 0, none⟩) ll ll) ll (intsOf (List.replicate ll 0)) := by
      rw [HZR.out]; rw [toList_madeCells_one] at hown; simpa using hown
    have HC := Lib.hid (HWW.out _ w1 hB1 hown1)
    have HB1 := Lib.hid hB1
    clear hown hown1 hgrow hB1
    go_wp2_with fail
    refine HC.out.mono ?_
    rintro e w2 ⟨g, c2, u, rfl, hcell, hO, hB2⟩
    obtain ⟨a3, c3, e3, _, _⟩ := owns_form hO
    subst e3
    have HO := Lib.hid hO
    have HB2 := Lib.hid (HB1.out.trans (hB2.mono HB1.out.size))
    clear hO hB2
    go_wp2_with fail
    go_ret
    exact ⟨_, rfl, HO.out, HB2.out⟩

end Go.Proofs.Ytbfoaibgenepoaa
