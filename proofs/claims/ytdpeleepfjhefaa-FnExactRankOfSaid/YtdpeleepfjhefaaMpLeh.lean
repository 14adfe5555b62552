/- Permutations: the model's Lehmer digits. -/
import Derived.Test.YtdpeleepfjhefaaInts
import Derived.Test.YtdpeleepfjhefaaLgSpec
import Derived.Test.YtdpeleepfjhefaaMpM
import Derived.Deep.CutBlock
import Derived.Deep.CutRange
import Derived.Deep.DeepCutAuto
import Derived.OwnWalk
set_option linter.unusedVariables false
set_option linter.unusedSimpArgs false
set_option maxRecDepth 100000
namespace Go.Proofs.Ytdpeleepfjhefaa
open Go.ChangeShapes Go.WideShapes Go.ChangeAt Go.RowKit

set_option maxHeartbeats 4000000 in
theorem specLeh_any (v : Value) (l : List Int) (w : World) (hr : RowAt w v (intsOf l)) (hl : l.length ≤ 8) :
    Calls Try.prog 50 #[v] w fun e w' => ∃ v', e = .returned v' ∧ w'.ownsRow w.heap.size 3 1 v' (leh l).length (intsOf (leh l)) ∧ Below w.heap.size w w' := by
  obtain ⟨i0, hi, hz0, hz1, hz2⟩ := info_parts infoInt
  obtain ⟨a, cap, rfl, h1, h2, h3⟩ := hr.ints
  unfold maxLen at h2
  clear hr
  go_enter Try.func50, Try.ntmps50
  go_wp2
  go_loopg [3, 4] l.length (fun g v t wr => g ≤ l.length ∧ t = .int .i64 ((g : Int) - 1) ∧ wr.ownsRow w.heap.size 3 1 v (l.length - g) (intsOf (leh (l.drop g))) ∧ Below w.heap.size w wr)
  case atStart =>
    refine ⟨Nat.le_refl _, rfl, ?_, (Below.refl _ _).alloc (Nat.le_refl _) _⟩
    rw [List.drop_length, Nat.sub_self]
    exact World.ownsRow_lit w #[] 0 (Nat.le_refl _) (by decide) rfl
  case round =>
    obtain ⟨hk, rfl, hown, hB⟩ := hrel
    have hsz := hB.size
    by_cases h0 : gk = 0
    · have HO := Lib.hid (show wr.ownsRow w.heap.size 3 1 _ (leh l).length (intsOf (leh l)) by rw [leh_len]; rw [h0] at hown; simpa using hown)
      obtain ⟨av, cv, e3, _, _⟩ := owns_form hown
      subst e3
      have hn9 : ¬ (0 : Int) ≤ (gk : Int) - 1 := by omega
      clear hown h3 h0
      go_wp2
      go_ret
      exact ⟨_, rfl, HO.out, hB⟩
    · obtain ⟨j, rfl⟩ : ∃ j, gk = j + 1 := ⟨gk - 1, by omega⟩
      rw [show ((j + 1 : Nat) : Int) - 1 = (j : Int) by omega]
      have hjl : j < l.length := by omega
      obtain ⟨b', off, rfl, hbb, hcell⟩ := h3.resolve_left (fun e => by rw [e] at hjl; simp at hjl)
      have hc : ∀ i (h : i < l.length), wr.cell? ⟨b', off + i, none⟩ = some (.int .i64 l[i]) := fun i hi => by
        rw [hB.cell (p := ⟨b', off + i, none⟩) hbb]; exact hcell i hi
      have hcx := hc j hjl
      obtain ⟨T, hT⟩ : ∃ T, T = l.drop (j + 1) := ⟨_, rfl⟩
      have hTl : T.length = l.length - (j + 1) := by rw [hT, List.length_drop]
      obtain ⟨oA, hA, hcA⟩ : ∃ oA, (if cap = j + 1 then some ⟨b', off, none⟩ else some ⟨b', off + (j + 1), none⟩ : Option Addr) = some ⟨b', oA, none⟩ ∧ ∀ i (h : i < T.length), wr.cell? ⟨b', oA + i, none⟩ = some (.int .i64 T[i]) := by
        by_cases e : cap = j + 1
        · exact ⟨off, by rw [if_pos e], fun i h => by omega⟩
        · refine ⟨off + (j + 1), by rw [if_neg e], fun i h => ?_⟩
          rw [Nat.add_assoc, hc (j + 1 + i) (by omega)]
          subst hT
          rw [List.getElem_drop]
      have HCA := Lib.hid hcA
      have HLE := Lib.hid (show leh (l.drop j) = leh T ++ [(cntL l[j] T : Int)] by rw [List.drop_eq_getElem_cons hjl, leh, hT])
      obtain ⟨x, hx⟩ : ∃ x, x = l[j] := ⟨_, rfl⟩
      rw [← hx] at hcx HLE
      have hq1 : IntKind.i64.wrap ((j : Int) + 1) = (j : Int) + 1 := by rw [IntKind.wrap_i64]; omega
      rw [← hT] at hown
      have HOWN := Lib.hid hown
      have hr0 : ((l.length : Int) - ((j : Int) + 1)) = (T.length : Int) := by omega
      have HTL := Lib.hid hTl
      have hT8 : T.length ≤ 8 := by omega
      clear h3 hcell hc hcA hown hT hx hTl
      go_wp2_with fail
      simp only [← HTL.out]
      clear hr0
      go_loopg [5, 21] T.length (fun g n t wi => ∃ k : Nat, g = T.length - k ∧ k ≤ T.length ∧ t = .int .i64 k ∧ n = .int .i64 (cntL x (T.take k)) ∧ wi = wr)
      case atStart => exact ⟨0, rfl, Nat.zero_le _, rfl, rfl, rfl⟩
      case round =>
        obtain ⟨k, rfl, hk', rfl, rfl, rfl⟩ := hrel
        have hcl := cntL_le x (T.take k)
        rw [List.length_take] at hcl
        by_cases hlt : k < T.length
        · have hcy := HCA.out k hlt
          have HT := Lib.hid (show cntL x (T.take (k + 1)) = cntL x (T.take k) + if T[k] < x then 1 else 0 by
            rw [List.take_succ_eq_append_getElem hlt]
            simp only [cntL, List.countP_append, List.countP_cons, List.countP_nil]
            simp)
          obtain ⟨y, hy⟩ : ∃ y, y = T[k] := ⟨_, rfl⟩
          obtain ⟨C, hC⟩ : ∃ C, C = cntL x (T.take k) := ⟨_, rfl⟩
          rw [← hy, ← hC] at HT
          rw [← hy] at hcy
          rw [← hC] at hcl ⊢
          clear hy hC
          by_cases d : y < x
          · have HT2 := Lib.hid (show cntL x (T.take (k + 1)) = C + 1 by rw [HT.out, if_pos d])
            go_wp2_with fail
            go_roundg (T.length - (k + 1))
            case rel => exact ⟨k + 1, rfl, hlt, by go_num, by rw [HT2.out]; go_num, rfl⟩
            case measure => omega
          · have HT2 := Lib.hid (show cntL x (T.take (k + 1)) = C by rw [HT.out, if_neg d]; rfl)
            go_wp2_with fail
            go_roundg (T.length - (k + 1))
            case rel => exact ⟨k + 1, rfl, hlt, by go_num, by rw [HT2.out], rfl⟩
            case measure => omega
        · have hkT : k = T.length := by omega
          have HCN := Lib.hid (show cntL x (T.take k) = cntL x T by rw [hkT, List.take_length])
          obtain ⟨C, hC⟩ : ∃ C, C = cntL x (T.take k) := ⟨_, rfl⟩
          rw [← hC] at hcl HCN ⊢
          have hown := HOWN.out
          obtain ⟨L, hL⟩ : ∃ L, L = leh T := ⟨_, rfl⟩
          rw [← hL] at hown HLE
          have hln : l.length - (j + 1) + 1 = l.length - j := by omega
          have HLN := Lib.hid hln
          obtain ⟨ln, hlne⟩ : ∃ ln, ln = l.length - (j + 1) := ⟨_, rfl⟩
          rw [← hlne] at hown HLN
          have hl8 : ln ≤ 8 := by omega
          have hn9 : ¬ (k : Int) < T.length := by omega
          clear hC hL hlne hln hkT
          go_wp2_with (at_builtin; refine wpList_append_own_at _ rfl _ _ 23 rfl w.heap.size 3 i0 (.int .i64 0) 1 8 Try.underlying23 hi hz0 hz1 hz2 rfl (by decide) _ _ _ rfl (hown.alloc _) ⟨wr.heap.size, 0, none⟩ 1 1 [.int .i64 C] rfl rfl (one_cell _ _ _) (by intro u hu; simp at hu; subst hu; rfl) (by unfold maxLen; omega) (by omega) (by simp; omega) ?_)
          intro v' w1 hown' hgrow _ _
          have hB1 := (hB.alloc hsz _).grown hgrow (by simp; omega) (fun j hj => (hown.lt j hj).1)
          have HO := Lib.hid (show w1.ownsRow w.heap.size 3 1 v' (l.length - j) (intsOf (leh (l.drop j))) by
            rw [HLE.out, ← HCN.out, ← HLN.out]; simpa [intsOf] using hown')
          clear hown' hgrow hown
          go_wp2_with fail
          go_roundg j
          case rel => exact ⟨by omega, by go_num, HO.out, hB1⟩
          case measure => omega

end Go.Proofs.Ytdpeleepfjhefaa
