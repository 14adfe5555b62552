/- Gray codes, the program: the flips (the library's own text of TrailingZeros, over its table). -/
import Derived.Test.YtleadjkndciniaaDoorRow
import Derived.Test.YtleadjkndciniaaDoorGrSpec
import Derived.Laws.Bits64b
import Derived.Lib.LaidTab
import Derived.Lib.TrailingZeros
set_option linter.unusedVariables false
set_option linter.unusedSimpArgs false
set_option maxRecDepth 100000
namespace Go.Proofs.YtleadjkndciniaaDoor
open Go.ChangeShapes Go.WideShapes Go.ChangeAt Go.RowKit

/-- the library's table in its variable -/
def tab64 : List Int := Lib.deBruijn64tab.map fun (n : Nat) => (n : Int)
def Tab (w : World) : Prop := Lib.TabIs Tryd.prog w "math/bits.deBruijn64tab" .u8 tab64
theorem gTab : Tryd.prog.globalNamed "math/bits.deBruijn64tab" = some 1 := by kernel_rfl
theorem var_belowG {P : Program} {w w' : World} {name : String} {x : Array Value} (h : w.var? P name = some x) (hb : Below w.heap.size w w') : w'.var? P name = some x := by
  unfold World.var? at *
  obtain ⟨g, hg, hx⟩ := Option.bind_eq_some_iff.1 h
  rw [hg]
  show (match w'.heap[g]? with | some (.cells cs _ _) => some cs | _ => none) = some x
  have hlt : g < w.heap.size := by
    rcases Nat.lt_or_ge g w.heap.size with h' | h'
    · exact h'
    · simp [Array.getElem?_eq_none h'] at hx
  rw [hb.block g hlt]
  exact hx
/-- the table stands while nothing that was there turns -/
theorem Tab.below {w w' : World} (h : Tab w) (hb : Below w.heap.size w w') : Tab w' := var_belowG h hb
theorem Tab.at {w : World} (h : Tab w) {i k : Nat} (hi : i < 64) (hk : Lib.deBruijn64tab.getD i 0 = k) : w.cell? ⟨1, i, none⟩ = some (.int .u8 k) := by
  have h1 := Lib.TabIs.cell h gTab i (by simpa [tab64, Lib.deBruijn64tab] using hi)
  have h2 : tab64.getD i 0 = (k : Int) := by
    have hl : i < Lib.deBruijn64tab.length := by simpa [Lib.deBruijn64tab] using hi
    rw [← hk, tab64, List.getD_eq_getElem?_getD, List.getD_eq_getElem?_getD, List.getElem?_map, List.getElem?_eq_getElem hl]
    rfl
  rwa [h2] at h1

theorem ctzF_lo : ∀ (f x : Nat), 0 < x → x < 2 ^ f → Lib.ctzFrom f x = loB x
  | 0, x, h0, h => by simp at h; omega
  | f + 1, x, h0, h => by
    unfold Lib.ctzFrom
    split
    · rename_i h1; rw [loB_odd h1]
    · rename_i h1
      rw [ctzF_lo f (x / 2) (by omega) (by rw [Nat.pow_succ] at h; omega), loB_even (n := x) (by omega) (by omega)]
      omega
theorem ctz_lo {x : Nat} (h0 : 0 < x) (h : x < 18446744073709551616) : Lib.ctz 64 x = loB x := by
  rw [Lib.ctz, if_neg (by omega)]; exact ctzF_lo 64 x h0 (by simpa using h)

set_option maxHeartbeats 1000000 in
theorem trail64_any (x : Nat) (w : World) (h0 : 0 < x) (hx : x < 18446744073709551616) (ht : Tab w) :
    Calls Tryd.prog 47 #[.int .u64 x] w fun e w' => e = .returned (.int .i64 (loB x : Nat)) ∧ w = w' := by
  obtain ⟨hlow, hk⟩ := Lib.lowest_bit 64 x (by omega) hx
  obtain ⟨hi, htab⟩ := Lib.deBruijn64_at _ hk
  rw [← hlow] at hi htab
  have hcell := ht.at hi htab
  rw [ctz_lo h0 hx] at hcell hk
  have hA := bits_and_u64_nat x (18446744073709551616 - x) hx (by omega)
  have hM : IntKind.u64.wrap (-(x : Int)) = ((18446744073709551616 - x : Nat) : Int) := by rw [IntKind.wrap_u64]; omega
  obtain ⟨M, eM⟩ : ∃ M, M = 18446744073709551616 - x := ⟨_, rfl⟩
  obtain ⟨A, eA⟩ : ∃ A, A = x &&& M := ⟨_, rfl⟩
  rw [show (2 : Nat) ^ 64 = 18446744073709551616 from rfl, ← eM, ← eA] at hi hcell
  rw [← eM] at hA hM
  rw [← eA] at hA
  obtain ⟨I, eI⟩ : ∃ I, I = A * 285870213051353865 % 18446744073709551616 / 288230376151711744 := ⟨_, rfl⟩
  have hI : IntKind.u64.wrap ((A : Int) * 285870213051353865) / 288230376151711744 = (I : Int) := by
    rw [IntKind.wrap_u64, eI, Int.natCast_ediv, Int.natCast_emod, Int.natCast_mul]; rfl
  rw [← eI] at hi hcell
  have hxb : ((x : Int) == 0) = false := by simp; omega
  obtain ⟨K, eK⟩ : ∃ K, K = loB x := ⟨_, rfl⟩
  rw [← eK] at hk hcell ⊢
  clear hlow htab eM eA eI eK ht
  go_enter Tryd.func47, Tryd.ntmps47
  go_wp2
  go_ret
  exact ⟨rfl, rfl⟩

theorem trail_any (x : Nat) (w : World) (h0 : 0 < x) (hx : x < 18446744073709551616) (ht : Tab w) :
    Calls Tryd.prog 28 #[.int .u64 x] w fun e w' => e = .returned (.int .i64 (loB x : Nat)) ∧ w = w' := by
  have HC := Lib.hid (trail64_any x w h0 hx ht)
  go_enter Tryd.func28, Tryd.ntmps28
  go_wp2_with (go_at_call 47; refine HC.out.mono ?_; rintro e w' ⟨rfl, rfl⟩)
  go_ret
  exact ⟨rfl, rfl⟩

theorem flipIx_any (n : Int) (w : World) (hn : in64 n) (ht : Tab w) :
    Calls Tryd.prog 8 #[.int .i64 n] w fun e w' => e = .returned (.int .i64 (rFlipIndex0 n)) ∧ w = w' := by
  by_cases h1 : n < 1
  · have E := Lib.hid (show rFlipIndex0 n = -1 by rw [rFlipIndex0, show inB n 1 1000000000000 = false by simp [inB]; omega]; rfl)
    go_enter Tryd.func8, Tryd.ntmps8
    go_wp2
    go_ret
    exact ⟨by rw [E.out]; rfl, rfl⟩
  by_cases h2 : 1000000000000 < n
  · have E := Lib.hid (show rFlipIndex0 n = -1 by rw [rFlipIndex0, show inB n 1 1000000000000 = false by simp [inB]; omega]; rfl)
    go_enter Tryd.func8, Tryd.ntmps8
    go_wp2
    go_ret
    exact ⟨by rw [E.out]; rfl, rfl⟩
  obtain ⟨k, rfl⟩ : ∃ k : Nat, n = k := ⟨n.toNat, by omega⟩
  have E := Lib.hid (show rFlipIndex0 k = (loB k : Nat) by rw [rFlipIndex0, show inB (k : Int) 1 1000000000000 = true by simp [inB]; omega]; rfl)
  have HC := Lib.hid (trail_any k w (by omega) (by omega) ht)
  have hwk : IntKind.u64.wrap (k : Int) = k := by rw [IntKind.wrap_u64]; omega
  clear ht
  go_enter Tryd.func8, Tryd.ntmps8
  go_wp2_with (go_at_call 28; refine HC.out.mono ?_; rintro e w' ⟨rfl, rfl⟩)
  go_ret
  exact ⟨by rw [E.out]; rfl, rfl⟩

theorem implFlipIndex_any (n : Int) (w : World) (hn : in64 n) (ht : Tab w) :
    Calls Tryd.prog 8 #[.int .i64 n] w fun e w' => e = .returned (.int .i64 (rFlipIndex0 n)) ∧ Below w.heap.size w w' :=
  (flipIx_any n w hn ht).mono (fun e w' h => ⟨h.1, by rw [← h.2]; exact Below.refl _ _⟩)

end Go.Proofs.YtleadjkndciniaaDoor
