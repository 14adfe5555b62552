/- FormatInt: the model writes an integer as the library's Itoa does. -/
import Derived.Test.YtbnkdcfmllblkaaDoorNum
import Derived.Test.YtbnkdcfmllblkaaDoorRow
import Derived.Deep.RegionWith
set_option linter.unusedVariables false
set_option linter.unusedSimpArgs false
namespace Go.Proofs.YtbnkdcfmllblkaaDoor
open Go.ChangeShapes Go.WideShapes Go.ChangeAt Go.RowKit

theorem dec_len : ∀ (k u : Nat), u ≤ k → (Lib.decDigits u).length ≤ u + 1
  | 0, u, h => by rw [dec_small (by omega)]; simp
  | k + 1, u, h => by
    by_cases hu : u < 10
    · rw [dec_small hu]; simp
    · rw [dec_big hu, List.length_append]
      have := dec_len k (u / 10) (by omega)
      simp; omega

set_option maxHeartbeats 1000000 in
theorem specFormat_nat (n : Nat) (w : World) (hn : (n : Int) ≤ 9223372036854775807) :
    Calls Tryd.prog 15 #[.int .i64 n] w fun e w' => e = .returned (.string (bs (Lib.decDigits n))) ∧ Below w.heap.size w w' := by
  go_enter Tryd.func15, Tryd.ntmps15
  go_wp2
  go_loopw [0, 3] (fun m o wr => ∃ (j : Nat) (x : List UInt8), m = .int .i64 j ∧ o = .string (bs x) ∧ j ≤ 9223372036854775807 ∧ (x.length = 0 ∨ 1 ≤ j) ∧ x.length + j ≤ n ∧ Lib.decDigits j ++ x = Lib.decDigits n ∧ Below w.heap.size w wr) (fun m _ _ => (intOf m).toNat)
  case atStart => exact ⟨n, [], rfl, rfl, by omega, .inl rfl, by simp, by simp, Below.refl _ _⟩
  case round =>
    obtain ⟨j, x, rfl, rfl, hj1, hj3, hj2, hd, hB⟩ := hrel
    have HD := Lib.hid hd; clear hd
    have hsz := hB.size
    have hx1 : (bs x).size ≤ 9223372036854775806 := by rw [bs_size]; omega
    by_cases hz : j < 10
    · have hcv := conv1 wr (48 + (j : Int))
      obtain ⟨c, hc⟩ : ∃ c, c = UInt8.ofNat (48 + (j : Int)).toNat := ⟨_, rfl⟩
      rw [← hc] at hcv
      have HC := Lib.hid hc; clear hc
      have hs2 : (bs [c]).size ≤ 1 := Nat.le_refl _
      go_wp2
      go_ret
      refine ⟨ret_string ?_, hB.alloc hsz _⟩
      rw [← HD.out, dec_small hz, bs_add, data_bs, HC.out]; congr 3
    · have hcv := conv1 wr (48 + (j : Int) % 10)
      obtain ⟨c, hc⟩ : ∃ c, c = UInt8.ofNat (48 + (j : Int) % 10).toNat := ⟨_, rfl⟩
      rw [← hc] at hcv
      have HC := Lib.hid hc; clear hc
      have hs2 : (bs [c]).size ≤ 1 := Nat.le_refl _
      have hjp : (9 : Int) < j := by omega
      go_wp2
      go_roundw
      case rel =>
        refine ⟨j / 10, c :: x, by go_num, by rw [bs_add, data_bs]; rfl, by omega, .inr (by omega), by simp; omega, ?_, hB.alloc hsz _⟩
        have := HD.out
        rw [dec_big hz] at this
        rw [HC.out, ← this, show (48 + (j : Int) % 10).toNat = 48 + j % 10 by omega]; simp
      case measure => simp [intOf]; omega

theorem conv1_at (w : World) (a : Nat) (x : Int) (h : w.cell? ⟨a, 0, none⟩ = some (.int .u8 x)) :
    (convert 42 9 (.slice (some ⟨a, 0, none⟩) 1 1)).run Tryd.prog w = .ok (.string (bs [UInt8.ofNat x.toNat])) w :=
  run_convert_bytes_arg _ 42 5 Tryd.underlying42 Tryd.underlying5 a 0 1 1 [x] rfl (fun i hi => by
    obtain rfl : i = 0 := by omega
    simpa using h) 9 Tryd.underlying9

theorem cell_new (w : World) (v : Value) (e : TypeId) : (w.alloc (.cells #[v] e)).cell? ⟨w.heap.size, 0, none⟩ = some v := by
  simp only [World.cell?, heap_alloc_new]
  rfl

theorem neg_quo (m : Nat) : (-(m : Int)).tdiv 10 = -((m / 10 : Nat) : Int) := by
  rw [Int.neg_tdiv, Int.tdiv_eq_ediv_of_nonneg (by omega)]; omega
theorem neg_rem (m : Nat) : (-(m : Int)).tmod 10 = -((m % 10 : Nat) : Int) := by
  rw [Int.neg_tmod, Int.tmod_eq_emod_of_nonneg (by omega)]; omega

set_option maxHeartbeats 1000000 in
theorem specFormat_neg (k : Nat) : ∀ (m : Nat) (w : World), m ≤ k → 1 ≤ m → m ≤ 9223372036854775808 →
    Calls Tryd.prog 15 #[.int .i64 (-(m : Int))] w fun e w' => e = .returned (.string (bs (45 :: Lib.decDigits m))) ∧ Below w.heap.size w w' := by
  induction k with
  | zero => intro m w h0 h1; omega
  | succ k ih =>
    intro m w hmk h1 h2
    have hneg : -(m : Int) < 0 := by omega
    by_cases hs : m < 10
    · have hq : (-(m : Int)).tdiv 10 = 0 := by rw [neg_quo]; omega
      have hcv := conv1 w (48 + (m : Int))
      obtain ⟨c, hc⟩ : ∃ c, c = UInt8.ofNat (48 + (m : Int)).toNat := ⟨_, rfl⟩
      rw [← hc] at hcv
      have HC := Lib.hid hc; clear hc
      have hs2 : (bs [c]).size ≤ 1 := Nat.le_refl _
      go_enter Tryd.func15, Tryd.ntmps15
      go_wp2_with fail
      go_ret
      refine ⟨ret_string ?_, (Below.refl _ _).alloc (Nat.le_refl _) _⟩
      rw [HC.out, dec_small hs]; rfl
    · have hq := neg_quo m
      have hr := neg_rem m
      have hcv := fun W => conv1 W (48 + (m : Int) % 10)
      have hcv2 := fun W : World => conv1_at ((W.alloc (.cells #[.int .u8 (48 + (m : Int) % 10)] 5)).drew) W.heap.size (48 + (m : Int) % 10) (cell_new W _ _)
      obtain ⟨c, hc⟩ : ∃ c, c = UInt8.ofNat (48 + (m : Int) % 10).toNat := ⟨_, rfl⟩
      rw [← hc] at hcv hcv2
      have HC := Lib.hid hc; clear hc
      have hs2 : (bs [c]).size ≤ 1 := Nat.le_refl _
      have hs3 : (bs (45 :: Lib.decDigits (m / 10))).size ≤ 922337203685477590 := by
        rw [bs_size]; have := dec_len (m / 10) (m / 10) (Nat.le_refl _); simp only [List.length_cons]; omega
      have ihm : ∀ W, Calls Tryd.prog 15 #[.int .i64 (-((m : Int) / 10))] W fun e w' => e = .returned (.string (bs (45 :: Lib.decDigits (m / 10)))) ∧ Below W.heap.size W w' := fun W => by
        have := ih (m / 10) W (by omega) (by omega) (by omega)
        rwa [Int.natCast_ediv] at this
      have IH := Lib.hid ihm; clear ihm ih
      go_enter Tryd.func15, Tryd.ntmps15
      go_wp2_with fail
      have hw0 : IntKind.i64.wrap (-((m : Int) / 10)) = -((m : Int) / 10) := IntWalk.i64_in _ (by omega)
      have hw3 : IntKind.i64.wrap (-((m : Int) % 10)) = -((m : Int) % 10) := IntWalk.i64_in _ (by omega)
      have hw1 : IntKind.i64.wrap (48 + (m : Int) % 10) = 48 + (m : Int) % 10 := IntWalk.i64_in _ (by omega)
      have hw2 : IntKind.u8.wrap (48 + (m : Int) % 10) = 48 + (m : Int) % 10 := IntWalk.u8_in _ (by omega)
      go_region_with (first | (go_at_call 15; refine (IH.out _).mono ?_; rintro e w1 ⟨rfl, hb⟩; try (have hcB := conv1_at w1 w.heap.size (48 + (m : Int) % 10) ((hb.cell (p := ⟨w.heap.size, 0, none⟩) (by simp)).trans (cell_new w _ _)); rw [← HC.out] at hcB)))
      all_goals
        have hb0 : Below w.heap.size w w1 := by
          first
          | exact ((Below.refl w.heap.size w).drew).trans hb
          | exact ((((Below.refl w.heap.size w).alloc (Nat.le_refl _) _)).drew).trans (hb.mono (by show w.heap.size ≤ (w.heap.push _).size; simp))
        have hz0 := hb0.size
        have HD := Lib.hid (dec_big hs)
        clear hcv hcv2
        go_wp2
        go_ret
        refine ⟨ret_string ?_, by first | exact hb0 | exact hb0.alloc hz0 _⟩
        rw [HD.out, HC.out, bs_add, data_bs, show (48 + (m : Int) % 10).toNat = 48 + m % 10 by omega]; simp

/-- the model writes every integer as the library's numeral -/
theorem specFormat_any (n : Int) (w : World) (h0 : -9223372036854775808 ≤ n) (h1 : n ≤ 9223372036854775807) :
    Calls Tryd.prog 15 #[.int .i64 n] w fun e w' => e = .returned (.string (bs (Lib.itoa n))) ∧ Below w.heap.size w w' := by
  by_cases h : n < 0
  · obtain ⟨m, rfl⟩ : ∃ m : Nat, n = -(m : Int) := ⟨n.natAbs, by omega⟩
    have := specFormat_neg m m w (Nat.le_refl _) (by omega) (by omega)
    rw [Lib.itoa, if_pos h, show (-(m : Int)).natAbs = m by omega]
    exact this
  · obtain ⟨m, rfl⟩ : ∃ m : Nat, n = (m : Int) := ⟨n.toNat, by omega⟩
    have := specFormat_nat m w (by omega)
    rw [Lib.itoa, if_neg h, show ((m : Nat) : Int).toNat = m by omega]
    exact this

end Go.Proofs.YtbnkdcfmllblkaaDoor
