/- Gray codes, the program: the cycle, made of flips that are received. -/
import Derived.Test.YtleadjkndciniaaDoorGrI1
import Derived.Test.YtleadjkndciniaaDoorGrI7
set_option linter.unusedVariables false
set_option linter.unusedSimpArgs false
set_option maxRecDepth 100000
namespace Go.Proofs.YtleadjkndciniaaDoor
open Go.ChangeShapes Go.WideShapes Go.ChangeAt Go.RowKit Go.Conc

theorem gc_next (m : Nat) (h : 1 ≤ m) : gc (m - 1) ^^^ 2 ^ loB m = gc m := by
  rw [← gc_flip m h, ← Nat.xor_assoc, Nat.xor_self, Nat.zero_xor]
/-- how long a list is -/
def lenV : Value → Nat
  | .slice _ n _ => n
  | _ => 0
/-- what the loop knows of the next flip -/
def FlipAt (wr : World) (c L m : Nat) (fv mv : Value) : Prop :=
  (m < L + 1 ∧ fv = .int .i64 ((loB m : Nat) : Int) ∧ mv = .bool true ∧ ChanG wr c L ((flL L).drop m)) ∨ (m = L + 1 ∧ fv = .int .i64 0 ∧ mv = .bool false)

set_option maxHeartbeats 4000000 in
theorem implGrayCycle_any (k : Int) (w : World) (hk : in64 k) (ht : Tab w) :
    Calls Tryd.prog 16 #[.int .i64 k] w fun e w' => ∃ v', e = .returned v' ∧ w'.ownsRow w.heap.size 3 1 v' (rGrayCycle0 k).length (intsOf (rGrayCycle0 k)) ∧ Below w.heap.size w w' := by
  obtain ⟨i0, hi, hz0, hz1, hz2⟩ := info_parts infoInt
  have HK := Lib.hid (fun W => cycleOk_any k W)
  cases h : inB k 1 6
  · have E : rGrayCycle0 k = [] := by rw [rGrayCycle0, h]; rfl
    rw [h] at HK
    rw [E]
    clear h E
    go_enter Tryd.func16, Tryd.ntmps16
    go_wp2_with fail
    refine (HK.out _).mono ?_
    rintro e w' ⟨rfl, rfl⟩
    go_wp2_with fail
    go_ret
    exact ⟨_, rfl, World.ownsRow_nil _ _ _ _, Below.refl _ _⟩
  · rw [h] at HK
    obtain ⟨k0, k1⟩ := inB_yes h
    obtain ⟨j, rfl⟩ : ∃ j : Nat, k = j := ⟨k.toNat, by omega⟩
    have E : rGrayCycle0 j = cycP (2 ^ j) := by rw [rGrayCycle0, h]; rfl
    have p1 : 2 ≤ 2 ^ j := Nat.le_trans (by decide) (Nat.pow_le_pow_right (show 0 < 2 by omega) (show 1 ≤ j by omega))
    have p2 : 2 ^ j ≤ 64 := Nat.le_trans (Nat.pow_le_pow_right (by omega) (show j ≤ 6 by omega)) (by decide)
    have hpc : ((2 ^ j : Nat) : Int) = (2 : Int) ^ j := Int.natCast_pow _ _
    obtain ⟨L, hL⟩ : ∃ L, L + 1 = 2 ^ j := ⟨2 ^ j - 1, by omega⟩
    rw [← hL] at p1 p2 hpc E
    rw [E, cycP_len]
    have s2 : IntKind.i64.wrap ((2 : Int) ^ j) = (L : Int) + 1 := by rw [IntKind.wrap_i64, ← hpc]; omega
    have s3 : (L : Int) + 1 - 1 = L := by omega
    have HFL := Lib.hid (fun W (hb : Below w.heap.size w W) => flips_any L W (by omega) (ht.below hb))
    have HGB := Lib.hid (fun (n : Nat) (hn : n < 64) => show gc n < 64 from gc_lt (k := 6) (by simpa using hn))
    have HLB := Lib.hid (fun (n : Nat) (h0 : 0 < n) (hn : n < 64) => show loB n ≤ 5 from loB_le h0 (by simpa using hn))
    clear h hL hpc E ht
    go_enter Tryd.func16, Tryd.ntmps16
    go_wp2_with fail
    refine (HK.out _).mono ?_
    rintro e w' ⟨rfl, rfl⟩
    go_wp2_with fail
    have hB1 : Below w.heap.size w (w.alloc (.cells #[.int .i64 0] 3)) := (Below.refl _ _).alloc (Nat.le_refl _) _
    have hown1 : (w.alloc (.cells #[.int .i64 0] 3)).ownsRow w.heap.size 3 1 (.slice (some ⟨w.heap.size, 0, none⟩) 1 1) 1 (intsOf (cycP 1)) := World.ownsRow_lit w #[.int .i64 0] 1 (Nat.le_refl _) (by decide) rfl
    refine (HFL.out _ hB1).mono ?_
    rintro e w2 ⟨c, rfl, hcw, hch, hb2⟩
    have hown2 := owns_below hown1 hb2
    have hB2 := hB1.trans (hb2.mono (by simp))
    have hcw' : w.heap.size ≤ c := by simp at hcw; omega
    clear hown1 hB1 hb2 hcw
    have hch1 : ChanG w2 c L (((loB 1 : Nat) : Int) :: (flL L).drop 1) := by
      have := hch
      rwa [← List.drop_zero (l := flL L), flL_drop (by omega)] at this
    have HN1 := Lib.hid (nextFlip_yes c L _ _ w2 (by have := HLB.out 1 (by omega) (by omega); unfold in64; omega) hch1)
    obtain ⟨F1, hF1⟩ : ∃ F, F = loB 1 := ⟨_, rfl⟩
    rw [← hF1] at HN1
    have HO2 := Lib.hid hown2
    have HB2 := Lib.hid hB2
    have HC2 := Lib.hid hch
    have HF1 := Lib.hid hF1
    clear hown2 hB2 hch hch1 hF1
    go_wp2_with fail
    refine HN1.out.mono ?_
    rintro e w3 ⟨rfl, s, r, rfl⟩
    have hch3 : ChanG (w2.setChan c L (intsOf ((flL L).drop 1)).toArray false s r false) c L ((flL L).drop 1) := ⟨s, r, heap_setChan _ _ _ _ _ _ _ _ HC2.out.lt⟩
    have hown3 := owns_chanG HO2.out HC2.out L (intsOf ((flL L).drop 1)).toArray false s r false
    have hB3 := below_setChan HB2.out hcw' L (intsOf ((flL L).drop 1)).toArray false s r false
    obtain ⟨w3, hw3⟩ : ∃ w3, w3 = w2.setChan c L (intsOf ((flL L).drop 1)).toArray false s r false := ⟨_, rfl⟩
    rw [← hw3] at hch3 hown3 hB3 ⊢
    have HFA := Lib.hid (show FlipAt w3 c L 1 (.int .i64 (F1 : Int)) (.bool true) from .inl ⟨by omega, by rw [HF1.out], rfl, hch3⟩)
    have HO3 := Lib.hid hown3
    have HB3 := Lib.hid hB3
    clear hw3 hch3 hown3 hB3 HO2 HB2 HC2 HN1 HF1
    go_wp2_with fail
    go_loopw [3, 4, 6, 7] (fun cv v fv mv wr => ∃ m : Nat, 1 ≤ m ∧ m ≤ L + 1 ∧ cv = .int .i64 ((gc (m - 1) : Nat) : Int) ∧ wr.ownsRow w.heap.size 3 1 v m (intsOf (cycP m)) ∧ FlipAt wr c L m fv mv ∧ Below w.heap.size w wr) (fun _ v _ _ _ => L + 1 - lenV v)
    case atStart => exact ⟨1, Nat.le_refl _, by omega, rfl, HO3.out, HFA.out, HB3.out⟩
    case round =>
      obtain ⟨m, hm1, hm, rfl, hown, hfa, hB⟩ := hrel
      clear HO3 HFA HB3
      have hsz := hB.size
      obtain ⟨av, cap, rfl, _, _⟩ := owns_form hown
      rcases hfa with ⟨hlt, rfl, rfl, hch⟩ | ⟨rfl, rfl, rfl⟩
      · have hg1 := HGB.out (m - 1) (by omega)
        have hg2 := HGB.out m (by omega)
        have hf := HLB.out m (by omega) (by omega)
        have hxe := gc_next m hm1
        have hpf : 2 ^ loB m ≤ 32 := Nat.le_trans (Nat.pow_le_pow_right (by omega) hf) (by decide)
        have hxx := xor_i64 (gc (m - 1)) (2 ^ loB m) (by omega) (by omega)
        rw [hxe] at hxx
        have HS := Lib.hid (cycP_succ m)
        have hpc : ((2 ^ loB m : Nat) : Int) = (2 : Int) ^ loB m := Int.natCast_pow _ _
        obtain ⟨F, hF⟩ : ∃ F, F = loB m := ⟨_, rfl⟩
        rw [← hF] at hxx hf hpf hpc ⊢
        obtain ⟨y, hy⟩ : ∃ y, y = gc m := ⟨_, rfl⟩
        rw [← hy] at hxx hg2 HS
        obtain ⟨x, hx⟩ : ∃ x, x = gc (m - 1) := ⟨_, rfl⟩
        rw [← hx] at hxx hg1 ⊢
        obtain ⟨P, hP⟩ : ∃ P, P = 2 ^ F := ⟨_, rfl⟩
        rw [← hP] at hxx hpf hpc
        have s4 : IntKind.i64.wrap ((2 : Int) ^ F) = P := by rw [IntKind.wrap_i64, ← hpc]; omega
        have HY := Lib.hid hy
        have HCH := Lib.hid hch
        have HBR := Lib.hid hB
        have HOW := Lib.hid hown
        clear hxe hF hy hx hP hpc hch hB
        go_wp2_with (at_builtin; refine wpList_append_own_at _ rfl _ _ 25 rfl w.heap.size 3 i0 (.int .i64 0) 1 8 Tryd.underlying25 hi hz0 hz1 hz2 rfl (by decide) _ _ _ rfl (hown.alloc _) ⟨wr.heap.size, 0, none⟩ 1 1 [.int .i64 y] rfl rfl (one_cell _ _ _) (by intro u hu; simp at hu; subst hu; rfl) (by unfold maxLen; omega) (by omega) (by simp; omega) ?_)
        intro v' w1 hown' hgrow _ _
        have hB1 : Below w.heap.size w w1 := (HBR.out.alloc hsz _).grown hgrow (by simp; omega) (fun j hj => (hown.lt j hj).1)
        have hch0 : ChanG (wr.alloc (.cells #[.int .i64 y] 3)) c L ((flL L).drop m) := by
          obtain ⟨s, r, h⟩ := HCH.out
          exact ⟨s, r, by rw [Below.heap_alloc wr _ c (heap_lt_of_some h)]; exact h⟩
        have hch1 : ChanG w1 c L ((flL L).drop m) := hch0.grown (hown.alloc _) hgrow
        have hO1 : w1.ownsRow w.heap.size 3 1 v' (m + 1) (intsOf (cycP (m + 1))) := by rw [HS.out]; simpa [intsOf] using hown'
        obtain ⟨av', cap', rfl, _, _⟩ := owns_form hO1
        have HY1 := Lib.hid (show y = gc (m + 1 - 1) by rw [Nat.add_sub_cancel]; exact HY.out)
        clear hch0 hgrow hown'
        by_cases hmL : m < L
        · rw [flL_drop hmL] at hch1
          have HN := Lib.hid (nextFlip_yes c L _ _ w1 (by have := HLB.out (m + 1) (by omega) (by omega); unfold in64; omega) hch1)
          obtain ⟨G, hG⟩ : ∃ G, G = loB (m + 1) := ⟨_, rfl⟩
          rw [← hG] at HN
          have HG := Lib.hid hG
          have HC1 := Lib.hid hch1
          have HO1 := Lib.hid hO1
          have HB1 := Lib.hid hB1
          clear hG hch1 hO1 hB1 hown
          go_wp2_with fail
          refine HN.out.mono ?_
          rintro e w3 ⟨rfl, s, r, rfl⟩
          have hch3 : ChanG (w1.setChan c L (intsOf ((flL L).drop (m + 1))).toArray false s r false) c L ((flL L).drop (m + 1)) := ⟨s, r, heap_setChan _ _ _ _ _ _ _ _ HC1.out.lt⟩
          have hown3 := owns_chanG HO1.out HC1.out L (intsOf ((flL L).drop (m + 1))).toArray false s r false
          have hB3 := below_setChan HB1.out hcw' L (intsOf ((flL L).drop (m + 1))).toArray false s r false
          obtain ⟨w3, hw3⟩ : ∃ w3, w3 = w1.setChan c L (intsOf ((flL L).drop (m + 1))).toArray false s r false := ⟨_, rfl⟩
          rw [← hw3] at hch3 hown3 hB3 ⊢
          have HFA := Lib.hid (show FlipAt w3 c L (m + 1) (.int .i64 (G : Int)) (.bool true) from .inl ⟨by omega, by rw [HG.out], rfl, hch3⟩)
          have HO3 := Lib.hid hown3
          have HB3 := Lib.hid hB3
          clear hw3 hch3 hown3 hB3
          go_wp2_with fail
          go_roundw
          case rel => exact ⟨m + 1, by omega, by omega, by rw [← HY1.out], HO3.out, HFA.out, HB3.out⟩
          case measure => simp [lenV]; omega
        · have hmE : m = L := by omega
          rw [List.drop_of_length_le (by rw [flL_len]; omega)] at hch1
          have HN := Lib.hid (nextFlip_no c L w1 hch1)
          have HO1 := Lib.hid hO1
          have HB1 := Lib.hid hB1
          have HFA := Lib.hid (show FlipAt w1 c L (m + 1) (.int .i64 0) (.bool false) from .inr ⟨by omega, rfl, rfl⟩)
          clear hch1 hO1 hB1 hown hmE hmL
          go_wp2_with fail
          refine HN.out.mono ?_
          rintro e w3 ⟨rfl, rfl⟩
          go_wp2_with fail
          go_roundw
          case rel => exact ⟨m + 1, by omega, by omega, by rw [← HY1.out], HO1.out, HFA.out, HB1.out⟩
          case measure => simp [lenV]; omega
      · have HO := Lib.hid hown
        have HB := Lib.hid hB
        clear hown hB
        go_wp2_with fail
        go_ret
        exact ⟨_, rfl, HO.out, HB.out⟩

end Go.Proofs.YtleadjkndciniaaDoor
