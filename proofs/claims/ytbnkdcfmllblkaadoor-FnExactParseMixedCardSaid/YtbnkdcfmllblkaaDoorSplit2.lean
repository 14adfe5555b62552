/- SplitAny: the program marks the bytes in an array of 256 bools, and cuts at the marked ones. -/
import Derived.Test.YtbnkdcfmllblkaaDoorSplitS
import Derived.Lib.Builder
set_option linter.unusedVariables false
set_option linter.unusedSimpArgs false
namespace Go.Proofs.YtbnkdcfmllblkaaDoor
open Go.ChangeShapes Go.WideShapes Go.ChangeAt Go.RowKit

/-- the block of marks behind the first k bytes of b -/
def Marks (w : World) (g : Nat) (b : ByteArray) (k : Nat) : Prop :=
  ∃ C : Array Value, ∃ T : TypeId, w.heap[g]? = some (.cells C T (0, 0)) ∧ C.size = 256 ∧ ∀ c : UInt8, C[c.toNat]? = some (.bool (occB b k c))

def no256 : Array Value := Array.replicate 256 (.bool false)
theorem zero256_run : ∀ w, (zeroValue 48).run Tryd.prog w = .ok (.agg no256) w := fun w => by kernel_rfl
theorem no256_size : no256.size = 256 := by simp [no256]
theorem no256_get (c : UInt8) : no256[c.toNat]? = some (.bool false) := by
  have := c.toNat_lt
  rw [no256, Array.getElem?_replicate, if_pos (by omega)]

theorem marks_start (w : World) (b : ByteArray) : Marks (w.alloc (.cells no256 48)) w.heap.size b 0 :=
  ⟨no256, _, heap_alloc_new w _, no256_size, fun c => by rw [no256_get, occB_zero]⟩

theorem marks_lt {w : World} {g : Nat} {b : ByteArray} {k : Nat} (h : Marks w g b k) : g + 1 ≤ w.heap.size := by
  obtain ⟨C, T, hh, _⟩ := h; exact heap_lt_of_some hh
theorem marks_cell {w : World} {g : Nat} {b : ByteArray} {k : Nat} (h : Marks w g b k) (c : UInt8) : w.cell? ⟨g, c.toNat, none⟩ = some (.bool (occB b k c)) ∧ w.frozen? ⟨g, c.toNat, none⟩ = false := by
  obtain ⟨C, T, hh, hs, hc⟩ := h
  exact ⟨by rw [Lib.cell_of_heap hh]; exact hc c, Lib.frozen_of_heap hh _⟩
theorem marks_step {w : World} {g : Nat} {b : ByteArray} {k : Nat} (h : Marks w g b k) (hk : k < b.size) : Marks (w.setCell ⟨g, b[k].toNat, none⟩ (.bool true)) g b (k + 1) := by
  obtain ⟨C, T, hh, hs, hc⟩ := h
  refine ⟨_, T, heap_setCell_same w g b[k].toNat C T (.bool true) hh, by simpa using hs, fun c => ?_⟩
  have hlt := b[k].toNat_lt
  rw [Array.getElem?_setIfInBounds, occB_succ hk]
  by_cases e : c = b[k]
  · rw [e, if_pos rfl, if_pos (by omega)]; simp
  · rw [if_neg (fun e2 => e (UInt8.toNat_inj.1 e2.symm)), hc c]
    simp [e]
theorem marks_kept {w w' : World} {g : Nat} {b : ByteArray} {k : Nat} {row : Option Nat} (h : Marks w g b k) (hg : w.grownBy w' row) (hne : some g ≠ row) : Marks w' g b k := by
  obtain ⟨C, T, hh, hs, hc⟩ := h
  exact ⟨C, T, by rw [hg.block g (heap_lt_of_some hh) hne]; exact hh, hs, hc⟩


set_option maxHeartbeats 4000000 in
theorem implSplitAny_any (s b : ByteArray) (w : World) (hs : s.size ≤ 1048576) (hb : b.size ≤ 1048576) :
    Calls Tryd.prog 23 #[.string s, .string b] w fun e w' => ∃ v, e = .returned v ∧ w'.ownsRow w.heap.size 9 1 v (pieces s b).length (strsOf (pieces s b)) ∧ Below w.heap.size w w' := by
  obtain ⟨i0, hi, hz0, hz1, hz2⟩ := info_parts infoStr
  have hz36 := zero256_run
  go_enter Tryd.func23, Tryd.ntmps23
  go_wp2
  go_loopw [12] (fun i wr => ∃ m : Nat, m ≤ b.size ∧ i = .int .i64 m ∧ Marks wr w.heap.size b m ∧ Below w.heap.size w wr) (fun i _ => b.size - (intOf i).toNat)
  case atStart => exact ⟨0, Nat.zero_le _, rfl, marks_start w b, (Below.refl _ _).alloc (Nat.le_refl _) _⟩
  case round =>
    obtain ⟨m, hm, rfl, hM, hB⟩ := hrel
    by_cases hlt : m < b.size
    · have h256 : (b[m].toNat : Int) < 256 := by have := b[m].toNat_lt; omega
      have h0 : (0 : Int) ≤ (b[m].toNat : Int) := by omega
      obtain ⟨hc, hf⟩ := marks_cell hM b[m]
      have HM := Lib.hid (marks_step hM hlt)
      clear hM
      go_wp2
      go_roundw
      case rel => exact ⟨m + 1, by omega, by go_num, HM.out, hB.setCell (p := ⟨w.heap.size, b[m].toNat, none⟩) (Nat.le_refl _) _⟩
      case measure => simp [intOf]; omega
    · have hmb : m = b.size := by omega
      subst hmb
      have hsz0 := marks_lt hM
      go_wp2
      go_loopw [7, 8, 23] (fun v f i wr => ∃ k : Nat, k ≤ s.size ∧ i = .int .i64 k ∧ f = .int .i64 (sp s b k).2 ∧ wr.ownsRow (w.heap.size + 1) 9 1 v (sp s b k).1.length (strsOf (sp s b k).1) ∧ Marks wr w.heap.size b b.size ∧ Below w.heap.size w wr) (fun _ _ i _ => s.size - (intOf i).toNat)
      case atStart =>
        refine ⟨0, Nat.zero_le _, rfl, rfl, ?_, marks_kept hM (World.grownBy_alloc _ _ none) (by simp), hB.alloc hB.size _⟩
        exact World.ownsRow_lit wr #[] 0 hsz0 (by decide) rfl
      case round =>
        clear hM hB hsz0
        obtain ⟨k, hk, rfl, rfl, hown, hM, hB⟩ := hrel
        have hF := sp_from s b k
        have hL := sp_len s b k
        have hsz := hB.size
        have hsz1 := marks_lt hM
        by_cases hlt : k < s.size
        · have hY := Lib.hid (sp_yes (b := b) hlt)
          have hN := Lib.hid (sp_no (b := b) hlt)
          have h256 : (s[k].toNat : Int) < 256 := by have := s[k].toNat_lt; omega
          have h0 : (0 : Int) ≤ (s[k].toNat : Int) := by omega
          obtain ⟨hc, _⟩ := marks_cell hM s[k]
          obtain ⟨L, F, hLF⟩ : ∃ L F, sp s b k = (L, F) := ⟨_, _, rfl⟩
          rw [hLF] at hF hL hown hY hN ⊢
          simp only at hF hL hown hY
          clear hLF
          cases ho : occB b b.size s[k]
          · rw [ho] at hc
            have HN := Lib.hid (hN.out ho); clear hY hN ho
            have H3 := Lib.hid hown; have H4 := Lib.hid hM
            clear hown hM
            go_wp2
            go_roundw
            case rel => exact ⟨k + 1, by omega, by go_num, by rw [HN.out], by rw [HN.out]; exact H3.out, H4.out, hB⟩
            case measure => simp [intOf]; omega
          · rw [ho] at hc
            have HY := Lib.hid (hY.out ho); clear hY hN ho
            go_wp2_with (at_builtin; refine wpList_append_own _ rfl _ _ 32 rfl (w.heap.size + 1) 9 i0 (.string ⟨#[]⟩) 1 16 Tryd.underlying32 hi hz0 hz1 hz2 rfl (by decide) _ _ _ rfl (hown.alloc _) ⟨wr.heap.size, 0, none⟩ 1 1 [.string (s.extract F k)] rfl rfl ?c1 ?c2 ?c3 ?c4 ?c5 ?_)
            case c1 => exact one_cell _ _ _
            case c2 => intro u hu; simp at hu; subst hu; rfl
            case c3 => unfold maxLen; omega
            case c4 => omega
            case c5 => simp; omega
            intro v' w1 hown' hgrow _
            have hB1 := (hB.alloc hsz (.cells #[.string (s.extract F k)] 9)).grown hgrow (by simp; omega) (fun j hj => by have := (hown.lt j hj).1; omega)
            have hM1 := marks_kept (marks_kept hM (World.grownBy_alloc wr (.cells #[.string (s.extract F k)] 9) none) (by simp)) hgrow (fun e => by have := (hown.lt _ e.symm).1; omega)
            have HO' := Lib.hid hown'
            have HM' := Lib.hid hM1
            clear hown' hgrow hown hB hM hM1 hc
            go_wp2
            go_roundw
            case rel => exact ⟨k + 1, by omega, by go_num, by rw [HY.out]; go_num, by rw [HY.out]; simpa [strsOf] using HO'.out, HM'.out, hB1⟩
            case measure => simp [intOf]; omega
        · have hks : k = s.size := by omega
          subst hks
          have HP := Lib.hid (show pieces s b = (sp s b s.size).1 ++ [s.extract (sp s b s.size).2 s.size] from rfl)
          obtain ⟨L, F, hLF⟩ : ∃ L F, sp s b s.size = (L, F) := ⟨_, _, rfl⟩
          rw [hLF] at hF hL hown HP ⊢
          simp only at hF hL hown HP
          clear hLF hM
          go_wp2_with (at_builtin; refine wpList_append_own _ rfl _ _ 32 rfl (w.heap.size + 1) 9 i0 (.string ⟨#[]⟩) 1 16 Tryd.underlying32 hi hz0 hz1 hz2 rfl (by decide) _ _ _ rfl (hown.alloc _) ⟨wr.heap.size, 0, none⟩ 1 1 [.string (s.extract F s.size)] rfl rfl ?c1 ?c2 ?c3 ?c4 ?c5 ?_)
          case c1 => exact one_cell _ _ _
          case c2 => intro u hu; simp at hu; subst hu; rfl
          case c3 => unfold maxLen; omega
          case c4 => omega
          case c5 => simp; omega
          intro v' w1 hown' hgrow _
          have hB1 := (hB.alloc hsz (.cells #[.string (s.extract F s.size)] 9)).grown hgrow (by simp; omega) (fun j hj => by have := (hown.lt j hj).1; omega)
          have HO' := Lib.hid (owns_mono hown' (Nat.le_succ _))
          clear hown' hgrow hown hB
          go_wp2
          go_ret
          refine ⟨_, rfl, ?_, hB1⟩
          rw [HP.out]; simpa [strsOf] using HO'.out

end Go.Proofs.YtbnkdcfmllblkaaDoor
