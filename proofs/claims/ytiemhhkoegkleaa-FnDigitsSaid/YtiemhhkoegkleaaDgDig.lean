/- Digits: the model's list of digits, and the functions that read it. -/
import Derived.Test.YtiemhhkoegkleaaInts
import Derived.Test.YtiemhhkoegkleaaDgS
set_option linter.unusedVariables false
set_option linter.unusedSimpArgs false
set_option maxRecDepth 100000
namespace Go.Proofs.Ytiemhhkoegkleaa
open Go.ChangeShapes Go.WideShapes Go.ChangeAt Go.RowKit

set_option maxHeartbeats 2000000 in
theorem specDigits_any (n b : Nat) (w : World) (hb : 2 ≤ b) (hb16 : b ≤ 16) (hn : n ≤ 1000000000000) :
    Calls Try.prog 76 #[.int .i64 n, .int .i64 b] w fun e w' => ∃ v, e = .returned v ∧ w'.ownsRow w.heap.size 3 1 v (dg b n).length (intsOf (dg b n)) ∧ Below w.heap.size w w' := by
  have h40 := dg_len40 hb hn
  obtain ⟨R, hR⟩ : ∃ R, R = dg b n := ⟨_, rfl⟩
  rw [← hR] at h40 ⊢
  obtain ⟨i0, hi, hz0, hz1, hz2⟩ := info_parts infoInt
  have HR := Lib.hid hR; clear hR
  go_enter Try.func76, Try.ntmps76
  go_wp2
  go_loopw [0, 5] (fun x v wr => ∃ (m : Nat) (L : List Int), m ≤ n ∧ x = .int .i64 m ∧ R = L ++ dg b m ∧ wr.ownsRow w.heap.size 3 1 v L.length (intsOf L) ∧ Below w.heap.size w wr) (fun x _ _ => (intOf x).toNat)
  case atStart => exact ⟨n, [], Nat.le_refl _, rfl, HR.out, World.ownsRow_lit w #[] 0 (Nat.le_refl _) (by decide) rfl, (Below.refl _ _).alloc (Nat.le_refl _) _⟩
  case round =>
    obtain ⟨m, L, hm, rfl, hRL, hown, hB⟩ := hrel
    clear hi hz0 hz1 hz2
    obtain ⟨i0, hi, hz0, hz1, hz2⟩ := info_parts infoInt
    by_cases h0 : m = 0
    · subst h0
      have HE := Lib.hid (show R = L by rw [hRL, dg_zero, List.append_nil])
      have HO := Lib.hid hown; clear hown hRL
      go_wp2
      go_ret
      refine ⟨_, rfl, ?_, hB⟩
      rw [HE.out]; exact HO.out
    · have hLR : R.length = L.length + (dg b (m / b)).length + 1 := by
        rw [hRL, dg_step hb h0, List.length_append, List.length_cons]; omega
      have hL : L.length ≤ 39 := by omega
      have hlt := div_lt' hb h0
      have HS := Lib.hid (show R = (L ++ [((m % b : Nat) : Int)]) ++ dg b (m / b) by
        rw [hRL, dg_step hb h0, List.append_assoc]; rfl)
      have hsz := hB.size
      clear hRL hLR
      have hbp : (0 : Int) < b := by omega
      have hmp : (0 : Int) < m := by omega
      go_wp2_with (at_builtin; refine wpList_append_own _ rfl _ _ 24 rfl w.heap.size 3 i0 (.int .i64 0) 1 8 Try.underlying24 hi hz0 hz1 hz2 rfl (by decide) _ _ _ rfl (hown.alloc _) ⟨wr.heap.size, 0, none⟩ 1 1 [.int .i64 ((m : Int) % b)] rfl rfl ?c1 ?c2 ?c3 ?c4 ?c5 ?_)
      case c1 => exact one_cell _ _ _
      case c2 => intro u hu; simp at hu; subst hu; rfl
      case c3 => unfold maxLen; omega
      case c4 => omega
      case c5 => simp; omega
      intro v' w1 hown' hgrow _
      have hB1 := (hB.alloc hsz (.cells #[.int .i64 ((m : Int) % b)] 3)).grown hgrow (by simp; omega) (fun j hj => (hown.lt j hj).1)
      have hO : w1.ownsRow w.heap.size 3 1 v' (L ++ [((m % b : Nat) : Int)]).length (intsOf (L ++ [((m % b : Nat) : Int)])) := by
        simpa [intsOf] using hown'
      have HO' := Lib.hid hO
      have hdv : (m : Int) / b = ((m / b : Nat) : Int) := rfl
      have HDV := Lib.hid hdv
      have hdb : (m : Int) / b ≤ m := by rw [hdv]; omega
      have hd0 : 0 ≤ (m : Int) / b := Int.ediv_nonneg (by omega) (by omega)
      clear hown' hgrow hown hB hO hdv
      go_wp2
      refine ⟨⟨m / b, L ++ [((m % b : Nat) : Int)], by omega, by rw [HDV.out], HS.out, HO'.out, hB1⟩, ?_⟩
      simp only [intOf]
      simp
      rw [HDV.out, Int.toNat_natCast]; exact hlt

end Go.Proofs.Ytiemhhkoegkleaa
