/- Negative bases: the program's digits of an integer. -/
import Derived.Test.YtdflpocnfodbhabDgImp
import Derived.Test.YtdflpocnfodbhabNgNext
set_option linter.unusedVariables false
set_option linter.unusedSimpArgs false
set_option maxRecDepth 100000
namespace Go.Proofs.Ytdflpocnfodbhab
open Go.ChangeShapes Go.WideShapes Go.ChangeAt Go.RowKit

def sliceLen : Value → Nat | .slice _ n _ => n | _ => 0
theorem sliceLen_owns {w : World} {base : Nat} {e : TypeId} {v : Value} {n : Nat} {xs : List Value} (h : w.ownsRow base e 1 v n xs) : sliceLen v = n := by
  obtain ⟨a, cap, rfl, _, _⟩ := owns_form h
  rfl

set_option maxHeartbeats 4000000 in
theorem implNegaDigits_any (n b : Int) (w : World) (hn : in64 n) (hb : in64 b) :
    Calls Try.prog 67 #[.int .i64 n, .int .i64 b] w fun e w' => ∃ v, e = .returned v ∧ w'.ownsRow w.heap.size 3 1 v (rNegaDigits0 n b).length (intsOf (rNegaDigits0 n b)) ∧ Below w.heap.size w w' := by
  have H1 := Lib.hid (implBaseOk_any b w hb)
  have H2 := Lib.hid (within_any n w hn)
  have HI := Lib.hid (And.intro hn hb)
  clear hn hb
  cases h : okB b
  · rw [h] at H1
    have E0 := Lib.hid (show rNegaDigits0 n b = [] by rw [rNegaDigits0, h]; rfl)
    clear h
    go_enter Try.func67, Try.ntmps67
    go_wp2_with (go_at_call 60; refine H1.out.mono ?_; rintro e w' ⟨rfl, rfl⟩)
    go_ret
    exact ⟨_, rfl, by rw [E0.out]; exact World.ownsRow_nil _ _ _ _, Below.refl _ _⟩
  · rw [h] at H1
    cases h2 : inN n
    · rw [h2] at H2
      have E0 := Lib.hid (show rNegaDigits0 n b = [] by rw [rNegaDigits0, h, h2]; rfl)
      clear h h2
      go_enter Try.func67, Try.ntmps67
      go_wp2_with (first
        | (go_at_call 60; refine H1.out.mono ?_; rintro e w' ⟨rfl, rfl⟩)
        | (go_at_call 66; refine H2.out.mono ?_; rintro e w' ⟨rfl, rfl⟩))
      go_ret
      exact ⟨_, rfl, by rw [E0.out]; exact World.ownsRow_nil _ _ _ _, Below.refl _ _⟩
    · rw [h2] at H2
      obtain ⟨hb2, hb16⟩ := okB_yes h
      obtain ⟨hn1, hn2⟩ := inN_yes h2
      obtain ⟨b, rfl⟩ : ∃ b' : Nat, b = b' := ⟨b.toNat, by omega⟩
      have hb2' : 2 ≤ b := by omega
      have hb16' : b ≤ 16 := by omega
      have E0 := Lib.hid (show rNegaDigits0 n b = ng b n by rw [rNegaDigits0, h, h2, ngI_nat]; rfl)
      have HLN := Lib.hid (ng_len42 hb2' hn1 hn2)
      obtain ⟨L, hL⟩ : ∃ L, L = ng b n := ⟨_, rfl⟩
      rw [← hL] at HLN E0
      have HL := Lib.hid hL
      obtain ⟨i0, hi, hz0, hz1, hz2⟩ := info_parts infoInt
      obtain ⟨W0, hW0⟩ : ∃ W0, (((w.alloc (.cells #[] 3)).alloc (.cells #[.int .i64 b] 3)).alloc (.cells #[.int .i64 n] 3)) = W0 := ⟨_, rfl⟩
      have hs0 : W0.heap.size = w.heap.size + 3 := by rw [← hW0]; simp
      have bb0 : Boxed W0 (w.heap.size + 1) 3 (.int .i64 b) := by rw [← hW0]; exact (boxed_at _ _ _ (by simp)).alloc _
      have bn0 : Boxed W0 (w.heap.size + 2) 3 (.int .i64 n) := by rw [← hW0]; exact boxed_at _ _ _ (by simp)
      have hB0 : Below w.heap.size w W0 := by
        rw [← hW0]
        exact (((Below.refl _ w).alloc (Nat.le_refl _) _).alloc (by simp) _).alloc (by simp; omega) _
      have ho0 : W0.ownsRow w.heap.size 3 1 (.slice (some ⟨w.heap.size, 0, none⟩) 0 0) 0 [] := by
        rw [← hW0]
        refine World.ownsRow.alloc (World.ownsRow.alloc ?_ _) _
        have := World.ownsRow_lit (base := w.heap.size) (e := 3) (size := 1) w #[] 0 (Nat.le_refl _) (by decide) rfl
        simpa using this
      have HMK := Lib.hid (fun W => maker_any n b W)
      have HNX := Lib.hid (fun x W hx1 hx2 hn hB => next_all (w.heap.size + 2) (w.heap.size + 1) x b W hb2' hb16' hx1 hx2 (by omega) hn hB)
      have HST := Lib.hid (HNX.out n W0 hn1 hn2 bn0 bb0)
      have HIN := Lib.hid (And.intro hB0 (And.intro ho0 bb0))
      clear h h2 hL bn0 hB0 ho0 bb0
      go_enter Try.func67, Try.ntmps67
      go_wp2_with (first
        | (go_at_call 60; refine H1.out.mono ?_; rintro e w' ⟨rfl, rfl⟩)
        | (go_at_call 66; refine H2.out.mono ?_; rintro e w' ⟨rfl, rfl⟩)
        | (go_at_call 83; refine (HMK.out _).mono ?_; rintro e w' ⟨rfl, rfl⟩))
      refine HST.out.mono ?_
      rintro e w1 ⟨rfl, bn1, hg1, hs1⟩
      obtain ⟨hB0, ho0, bb0⟩ := HIN.out
      have hB1 := hB0.grown hg1 (by omega) (fun j hj => by cases hj; omega)
      have ho1 := ho0.kept hg1 (.inr (by simp [Value.ownBlock]))
      have bb1 := bb0.kept hg1 (by simp)
      clear hg1 hB0 ho0 bb0 HST HIN hW0
      go_wp2_with fail
      go_loopw [5, 7, 8] (fun v d m wr => ∃ (x : Int) (o : List Int), d = .int .i64 (x % (b : Int)) ∧ m = .bool (x != 0) ∧ -1000000000000 ≤ x ∧ x ≤ 1000000000000 ∧ o ++ ng b x = L ∧ wr.ownsRow w.heap.size 3 1 v o.length (intsOf o) ∧ Below w.heap.size w wr ∧ Boxed wr (w.heap.size + 1) 3 (.int .i64 b) ∧ Boxed wr (w.heap.size + 2) 3 (.int .i64 (-(x / (b : Int)))) ∧ v.ownBlock ≠ some (w.heap.size + 1) ∧ v.ownBlock ≠ some (w.heap.size + 2)) (fun v _ _ _ => L.length - sliceLen v)
      case atStart => exact ⟨n, [], rfl, rfl, hn1, hn2, by rw [HL.out]; rfl, ho1, hB1, bb1, bn1, by simp [Value.ownBlock], by simp [Value.ownBlock]⟩
      case round =>
        obtain ⟨x, o, rfl, rfl, hx1, hx2, he, hown, hB, bb, bn, hv1, hv2⟩ := hrel
        clear hB1 ho1 bb1 bn1
        have hsz := hB.size
        by_cases h0 : x = 0
        · subst h0
          rw [ng_zero, List.append_nil] at he
          have HE := Lib.hid (show o = L from he)
          have HO := Lib.hid hown
          have hq : ((0 : Int) != 0) = false := rfl
          clear he hown
          rw [hq]
          go_wp2_with fail
          go_ret
          exact ⟨_, rfl, by rw [E0.out, ← HE.out]; exact HO.out, hB⟩
        · have hq : (x != 0) = true := by simp [h0]
          rw [ng_step hb2' h0] at he
          have hqb := quo_bounds hb2' (Nat.le_refl x.natAbs)
          have hol : o.length < L.length := by rw [← he]; simp
          have hol2 : o.length ≤ 42 := by have := HLN.out; omega
          have HSTP := Lib.hid (show (o ++ [x % (b : Int)]) ++ ng b (-(x / b)) = L by rw [← he]; simp)
          have HSL := Lib.hid (sliceLen_owns hown)
          obtain ⟨d, hd⟩ : ∃ d, d = x % (b : Int) := ⟨_, rfl⟩
          obtain ⟨p, hp⟩ : ∃ p, p = -(x / (b : Int)) := ⟨_, rfl⟩
          rw [← hp] at hqb HSTP bn
          rw [← hd] at HSTP ⊢
          have hp1 : -1000000000000 ≤ p := by omega
          have hp2 : p ≤ 1000000000000 := by omega
          rw [hq]
          clear he hd hp hqb
          go_wp2_with (at_builtin; refine wpList_append_own_at _ rfl _ _ 22 rfl w.heap.size 3 i0 (.int .i64 0) 1 8 Try.underlying22 hi hz0 hz1 hz2 rfl (by decide) _ _ _ rfl (hown.alloc _) ⟨wr.heap.size, 0, none⟩ 1 1 [.int .i64 d] rfl rfl ?c1 ?c2 ?c3 ?c4 ?c5 ?_)
          case c1 => exact one_cell _ _ _
          case c2 => intro u hu; simp at hu; subst hu; rfl
          case c3 => unfold maxLen; omega
          case c4 => omega
          case c5 => simp; omega
          intro v' w2 hown' hgrow _ hat
          have hB2 := (hB.alloc hsz (.cells #[.int .i64 d] 3)).grown hgrow (by simp; omega) (fun j hj => (hown.lt j hj).1)
          have bb2 := (bb.alloc (.cells #[.int .i64 d] 3)).kept hgrow (fun e => hv1 e.symm)
          have bn2 := (bn.alloc (.cells #[.int .i64 d] 3)).kept hgrow (fun e => hv2 e.symm)
          have hl1 := bb.lt; have hl2 := bn.lt
          have hv1' : v'.ownBlock ≠ some (w.heap.size + 1) := by
            rcases hat with e | e <;> rw [e]
            · exact hv1
            · simp; omega
          have hv2' : v'.ownBlock ≠ some (w.heap.size + 2) := by
            rcases hat with e | e <;> rw [e]
            · exact hv2
            · simp; omega
          have ho2 : w2.ownsRow w.heap.size 3 1 v' (o ++ [d]).length (intsOf (o ++ [d])) := by simpa [intsOf] using hown'
          have HO2 := Lib.hid ho2
          have HR := Lib.hid (And.intro hB2 (And.intro bb2 (And.intro hv1' hv2')))
          have HCL := Lib.hid (HNX.out p w2 hp1 hp2 bn2 bb2)
          clear hown' hgrow hat hB2 bb2 bn2 hv1' hv2' ho2 bb bn hB hown hv1 hv2 hl1 hl2
          go_wp2_with fail
          refine HCL.out.mono ?_
          rintro e w3 ⟨rfl, bn3, hg3, hs3⟩
          obtain ⟨hB2, bb2, hv1', hv2'⟩ := HR.out
          have hB3 := hB2.grown hg3 (by have := hB2.size; omega) (fun j hj => by cases hj; omega)
          have ho3 := HO2.out.kept hg3 (.inr hv2')
          have bb3 := bb2.kept hg3 (by simp)
          have HLL := Lib.hid (sliceLen_owns ho3)
          have HF := Lib.hid (And.intro hB3 (And.intro ho3 (And.intro bb3 (And.intro bn3 (And.intro hv1' hv2')))))
          clear hg3 hB2 bb2 hv1' hv2' hB3 ho3 bb3 bn3
          go_wp2_with fail
          go_roundw
          case rel => exact ⟨p, o ++ [d], rfl, rfl, hp1, hp2, HSTP.out, HF.out.2.1, HF.out.1, HF.out.2.2.1, HF.out.2.2.2.1, HF.out.2.2.2.2.1, HF.out.2.2.2.2.2⟩
          case measure => rw [HLL.out, HSL.out]; simp; omega

end Go.Proofs.Ytdflpocnfodbhab
