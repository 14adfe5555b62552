/- Gray codes: the model's cycles and rings. -/
import Derived.Test.YtleadjkndciniaaDoorInts
import Derived.Test.YtleadjkndciniaaDoorLgSpec
import Derived.Test.YtleadjkndciniaaDoorGrSpec
set_option linter.unusedVariables false
set_option linter.unusedSimpArgs false
set_option maxRecDepth 100000
namespace Go.Proofs.YtleadjkndciniaaDoor
open Go.ChangeShapes Go.WideShapes Go.ChangeAt Go.RowKit

theorem pow_s16 {x : Nat} (h : x ≤ 16) : 1 ≤ 2 ^ x ∧ 2 ^ x ≤ 65536 := by
  have h1 : 0 < 2 ^ x := Nat.two_pow_pos x
  have h2 : 2 ^ x ≤ 2 ^ 16 := Nat.pow_le_pow_right (by omega) h
  have h3 : (2 : Nat) ^ 16 = 65536 := by decide
  omega

/-! ### rings -/
def rRingSteps0 (s k : Int) : Int := if inB k 1 16 && inB s 0 (((2 ^ k.toNat : Nat) : Int) - 1) then ((ug s.toNat : Nat) : Int) else -1
/-! ### cycles made -/
def cycP (m : Nat) : List Int := (List.range m).map (fun n => ((gc n : Nat) : Int))
theorem cycP_len (m : Nat) : (cycP m).length = m := by simp [cycP]
theorem cycP_succ (m : Nat) : cycP (m + 1) = cycP m ++ [((gc m : Nat) : Int)] := by simp [cycP, List.range_succ]
def rGrayCycle0 (k : Int) : List Int := if inB k 1 6 then cyc k.toNat else []
set_option maxHeartbeats 2000000 in
theorem specGrayCycle_any (k : Int) (w : World) (hk : in64 k) :
    Calls Tryd.prog 20 #[.int .i64 k] w fun e w' => ∃ v', e = .returned v' ∧ w'.ownsRow w.heap.size 3 1 v' (rGrayCycle0 k).length (intsOf (rGrayCycle0 k)) ∧ Below w.heap.size w w' := by
  obtain ⟨i0, hi, hz0, hz1, hz2⟩ := info_parts infoInt
  have HK := Lib.hid (fun W => sIn_any k 1 6 W)
  cases h : inB k 1 6
  · have E : rGrayCycle0 k = [] := by rw [rGrayCycle0, h]; rfl
    rw [h] at HK
    rw [E]
    clear h E
    go_enter Tryd.func20, Tryd.ntmps20
    go_wp2_with fail
    refine (HK.out _).mono ?_
    rintro e w' ⟨rfl, rfl⟩
    go_wp2_with fail
    go_ret
    exact ⟨_, rfl, World.ownsRow_nil _ _ _ _, Below.refl _ _⟩
  · rw [h] at HK
    obtain ⟨k0, k1⟩ := inB_yes h
    obtain ⟨j, rfl⟩ : ∃ j : Nat, k = j := ⟨k.toNat, by omega⟩
    have E : rGrayCycle0 j = cycP (2 ^ j) := by rw [rGrayCycle0, h]; rfl
    obtain ⟨p1, p2⟩ := pow_s16 (x := j) (by omega)
    have hpc : ((2 ^ j : Nat) : Int) = (2 : Int) ^ j := Int.natCast_pow _ _
    obtain ⟨Q, hQ⟩ : ∃ Q, Q = 2 ^ j := ⟨_, rfl⟩
    rw [← hQ] at p1 p2 hpc E
    rw [E, cycP_len]
    have s2 : IntKind.i64.wrap ((2 : Int) ^ j) = Q := by rw [IntKind.wrap_i64, ← hpc]; omega
    have HG := Lib.hid (fun (n : Nat) (hn : n < Q) W => sGray_any n W (by omega))
    have HGB := Lib.hid (fun (n : Nat) (hn : n < 65536) => show gc n < 65536 from gc_lt (k := 16) (by simpa using hn))
    clear h hQ hpc E
    go_enter Tryd.func20, Tryd.ntmps20
    go_wp2_with fail
    refine (HK.out _).mono ?_
    rintro e w' ⟨rfl, rfl⟩
    go_wp2_with fail
    go_loopw [3, 4] (fun v i wr => ∃ n : Nat, n ≤ Q ∧ i = .int .i64 n ∧ wr.ownsRow w.heap.size 3 1 v n (intsOf (cycP n)) ∧ Below w.heap.size w wr) (fun _ i _ => Q - (intOf i).toNat)
    case atStart => exact ⟨0, Nat.zero_le _, rfl, World.ownsRow_lit w #[] 0 (Nat.le_refl _) (by decide) rfl, (Below.refl _ _).alloc (Nat.le_refl _) _⟩
    case round =>
      obtain ⟨n, hn, rfl, hown, hB⟩ := hrel
      have hsz := hB.size
      by_cases hlt : n < Q
      · have HGG := Lib.hid (fun W => HG.out n hlt W)
        have hgb := HGB.out n (by omega)
        have HS := Lib.hid (cycP_succ n)
        obtain ⟨y, hy⟩ : ∃ y, y = gc n := ⟨_, rfl⟩
        rw [← hy] at HGG hgb HS
        have hni : (n : Int) < Q := by omega
        clear hy
        go_wp2_with (first
          | (go_at_call 44; refine (HGG.out _).mono ?_; rintro e w' ⟨rfl, rfl⟩)
          | (at_builtin; refine wpList_append_own_at _ rfl _ _ 25 rfl w.heap.size 3 i0 (.int .i64 0) 1 8 Tryd.underlying25 hi hz0 hz1 hz2 rfl (by decide) _ _ _ rfl (hown.alloc _) ⟨wr.heap.size, 0, none⟩ 1 1 [.int .i64 y] rfl rfl (one_cell _ _ _) (by intro u hu; simp at hu; subst hu; rfl) (by unfold maxLen; omega) (by omega) (by simp; omega) ?_))
        intro v' w1 hown' hgrow _ _
        have hB1 := (hB.alloc hsz _).grown hgrow (by simp; omega) (fun j hj => (hown.lt j hj).1)
        have HO := Lib.hid (show w1.ownsRow w.heap.size 3 1 v' (n + 1) (intsOf (cycP (n + 1))) by rw [HS.out]; simpa [intsOf] using hown')
        clear hown' hgrow hown
        go_wp2_with fail
        go_roundw
        case rel => exact ⟨n + 1, hlt, by go_num, HO.out, hB1⟩
        case measure => simp [intOf]; omega
      · have hnq : n = Q := by omega
        subst hnq
        have HO := Lib.hid hown
        obtain ⟨av, cap, rfl, _, _⟩ := owns_form hown
        have hn9 : ¬ (n : Int) < n := by omega
        clear hown
        go_wp2_with fail
        go_ret
        exact ⟨_, rfl, HO.out, hB⟩

/-! ### cycles tested -/
end Go.Proofs.YtleadjkndciniaaDoor
