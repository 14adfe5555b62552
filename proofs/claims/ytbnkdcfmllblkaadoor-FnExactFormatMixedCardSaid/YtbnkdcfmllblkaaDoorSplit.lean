/- SplitAny: the model. -/
import Derived.Test.YtbnkdcfmllblkaaDoorSplitS
set_option linter.unusedVariables false
set_option linter.unusedSimpArgs false
namespace Go.Proofs.YtbnkdcfmllblkaaDoor
open Go.ChangeShapes Go.WideShapes Go.ChangeAt Go.RowKit

set_option maxHeartbeats 4000000 in
theorem specSplitAny_any (s b : ByteArray) (w : World) (hs : s.size ≤ 1048576) (hb : b.size ≤ 1048576) :
    Calls Tryd.prog 21 #[.string s, .string b] w fun e w' => ∃ v, e = .returned v ∧ w'.ownsRow w.heap.size 9 1 v (pieces s b).length (strsOf (pieces s b)) ∧ Below w.heap.size w w' := by
  obtain ⟨i0, hi, hz0, hz1, hz2⟩ := info_parts infoStr
  go_enter Tryd.func21, Tryd.ntmps21
  go_wp2
  go_loopw [5, 6, 7] (fun v f i wr => ∃ k : Nat, k ≤ s.size ∧ i = .int .i64 k ∧ f = .int .i64 (sp s b k).2 ∧ wr.ownsRow w.heap.size 9 1 v (sp s b k).1.length (strsOf (sp s b k).1) ∧ Below w.heap.size w wr) (fun _ _ i _ => s.size - (intOf i).toNat)
  case atStart =>
    refine ⟨0, Nat.zero_le _, rfl, rfl, ?_, (Below.refl _ _).alloc (Nat.le_refl _) _⟩
    exact World.ownsRow_lit w #[] 0 (Nat.le_refl _) (by decide) rfl
  case round =>
    obtain ⟨k, hk, rfl, rfl, hown, hB⟩ := hrel
    obtain ⟨wo, rfl⟩ : ∃ wo : World, wo = wr := ⟨_, rfl⟩
    have hF := sp_from s b k
    have hL := sp_len s b k
    by_cases hlt : k < s.size
    · have hY := Lib.hid (sp_yes (b := b) hlt)
      have hN := Lib.hid (sp_no (b := b) hlt)
      obtain ⟨L, F, hLF⟩ : ∃ L F, sp s b k = (L, F) := ⟨_, _, rfl⟩
      rw [hLF] at hF hL hown hY hN ⊢
      have HLF := Lib.hid hLF; clear hLF
      simp only at hF hL hown hY
      go_wp2
      go_loopw [5, 6, 8] (fun v f j wr => ∃ m : Nat, m ≤ b.size ∧ j = .int .i64 m ∧ f = .int .i64 F ∧ occB b m s[k] = false ∧ wr.ownsRow w.heap.size 9 1 v L.length (strsOf L) ∧ Below w.heap.size w wr) (fun _ _ j _ => b.size - (intOf j).toNat)
      case atStart => exact ⟨0, Nat.zero_le _, rfl, rfl, occB_zero _ _, hown, hB⟩
      case round =>
        obtain ⟨m, hm, rfl, rfl, hocc, hown2, hB2⟩ := hrel
        clear hown hB
        have hsz := hB2.size
        by_cases hltm : m < b.size
        · have hS := Lib.hid (occB_succ hltm s[k])
          have HO := Lib.hid hocc; clear hocc
          by_cases he : s[k] = b[m]
          · have hq : ((s[k].toNat : Int) == (b[m].toNat : Int)) = true := by rw [he]; simp
            have HY := Lib.hid (hY.out (occB_hit hltm he)); clear hY hN he
            go_wp2
            go_quiet (fail)
            have hown3 := owns_below hown2 (below_drewN (Below.refl _ _) nq)
            have hB3 := below_drewN hB2 nq
            generalize wr.drewN nq = wd at *
            have hsz3 := hB3.size
            go_wp2_with (at_builtin; refine wpList_append_own _ rfl _ _ 32 rfl w.heap.size 9 i0 (.string ⟨#[]⟩) 1 16 Tryd.underlying32 hi hz0 hz1 hz2 rfl (by decide) _ _ _ rfl (hown3.alloc _) ⟨wd.heap.size, 0, none⟩ 1 1 [.string (s.extract F k)] rfl rfl ?c1 ?c2 ?c3 ?c4 ?c5 ?_)
            case c1 => exact one_cell _ _ _
            case c2 => intro u hu; simp at hu; subst hu; rfl
            case c3 => unfold maxLen; omega
            case c4 => omega
            case c5 => simp; omega
            intro v' w1 hown' hgrow _
            have hB1 := (hB3.alloc hsz3 (.cells #[.string (s.extract F k)] 9)).grown hgrow (by simp; omega) (fun j hj => (hown3.lt j hj).1)
            have HO' := Lib.hid hown'
            clear hown' hgrow hown3 hB3 hown2 hB2
            go_wp2
            refine ⟨⟨k + 1, by omega, by go_num, by rw [HY.out]; go_num, by rw [HY.out]; simpa [strsOf] using HO'.out, hB1⟩, by simp [intOf]; omega⟩
          · have hq := toNat_ne he
            have hO2 := Lib.hid (show occB b (m + 1) s[k] = false by rw [hS.out, HO.out]; simpa using he)
            clear he hY hN
            have hown3 := fun q => owns_below hown2 (below_drewN (Below.refl _ _) q)
            have hB3 := fun q => below_drewN hB2 q
            have H3 := Lib.hid hown3; have H4 := Lib.hid hB3
            clear hown3 hB3 hown2 hB2
            go_wp2
            go_quiet (fail)
            go_wp2
            exact ⟨⟨m + 1, by omega, by go_num, rfl, hO2.out, H3.out _, H4.out _⟩, by simp [intOf]; omega⟩
        · have hmm : m = b.size := by omega
          have HN := Lib.hid (hN.out (by rw [← hmm]; exact hocc)); clear hocc hY hN
          have H3 := Lib.hid hown2
          clear hown2
          go_wp2
          exact ⟨⟨k + 1, by omega, by go_num, by rw [HN.out], by rw [HN.out]; exact H3.out, hB2⟩, by simp [intOf]; omega⟩
    · have hks : k = s.size := by omega
      subst hks
      have hsz := hB.size
      have HP := Lib.hid (show pieces s b = (sp s b s.size).1 ++ [s.extract (sp s b s.size).2 s.size] from rfl)
      obtain ⟨L, F, hLF⟩ : ∃ L F, sp s b s.size = (L, F) := ⟨_, _, rfl⟩
      rw [hLF] at hF hL hown HP ⊢
      simp only at hF hL hown HP
      clear hLF
      go_wp2_with (at_builtin; refine wpList_append_own _ rfl _ _ 32 rfl w.heap.size 9 i0 (.string ⟨#[]⟩) 1 16 Tryd.underlying32 hi hz0 hz1 hz2 rfl (by decide) _ _ _ rfl (hown.alloc _) ⟨wo.heap.size, 0, none⟩ 1 1 [.string (s.extract F s.size)] rfl rfl ?c1 ?c2 ?c3 ?c4 ?c5 ?_)
      case c1 => exact one_cell _ _ _
      case c2 => intro u hu; simp at hu; subst hu; rfl
      case c3 => unfold maxLen; omega
      case c4 => omega
      case c5 => simp; omega
      intro v' w1 hown' hgrow _
      have hB1 := (hB.alloc hsz (.cells #[.string (s.extract F s.size)] 9)).grown hgrow (by simp; omega) (fun j hj => (hown.lt j hj).1)
      have HO' := Lib.hid hown'
      clear hown' hgrow hown hB
      go_wp2
      go_ret
      refine ⟨_, rfl, ?_, hB1⟩
      rw [HP.out]; simpa [strsOf] using HO'.out

end Go.Proofs.YtbnkdcfmllblkaaDoor
