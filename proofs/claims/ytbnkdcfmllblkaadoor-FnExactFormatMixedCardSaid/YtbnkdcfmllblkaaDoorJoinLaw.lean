/- Join: the model and the law: the program joins as the model does. -/
import Derived.Test.YtbnkdcfmllblkaaDoorJoin
import Derived.Test.YtbnkdcfmllblkaaDoorStrs
set_option linter.unusedVariables false
set_option linter.unusedSimpArgs false
namespace Go.Proofs.YtbnkdcfmllblkaaDoor
open Go.ChangeShapes Go.WideShapes Go.ChangeAt Go.RowKit

theorem jn_len (b : ByteArray) (l : List ByteArray) : ∀ k, k ≤ l.length → (jn b l k).length ≤ sizes (l.take k) + k * b.size
  | 0, _ => by simp [jn]
  | k + 1, h => by
    have ih := jn_len b l k (by omega)
    have e := sizes_snoc (l := l) (k := k) (by omega)
    rw [e, Nat.succ_mul]
    by_cases hz : 0 < k
    · rw [jn_pos b l hz (by omega)]
      simp only [List.length_append, size_data]; omega
    · obtain rfl : k = 0 := by omega
      rw [jn_zero b l (by omega), size_data]; omega

theorem jn_bound {b : ByteArray} {l : List ByteArray} (hb : b.size ≤ 1048576) (hl : l.length + sizes l ≤ 1048576) : (jn b l l.length).length ≤ 140737488355328 := by
  have h := jn_len b l l.length (Nat.le_refl _)
  rw [List.take_length] at h
  have : l.length * b.size ≤ 1048576 * 1048576 := Nat.mul_le_mul (by omega) hb
  omega

set_option maxHeartbeats 1000000 in
theorem specJoin_any (by' : ByteArray) (v : Value) (l : List ByteArray) (w : World) (hrow : RowAt w v (strsOf l)) (hlen : (jn by' l l.length).length ≤ 140737488355328) :
    Calls Tryd.prog 16 #[v, .string by'] w fun e w' => e = .returned (.string (bs (jn by' l l.length))) ∧ w = w' := by
  obtain ⟨a, cap, rfl, h1, h2, h3⟩ := hrow.strs
  unfold maxLen at h2
  go_enter Tryd.func16, Tryd.ntmps16
  go_wp2
  go_loop [5, 10] (fun s i => ∃ k : Nat, k ≤ l.length ∧ i = .int .i64 k ∧ s = .string (bs (jn by' l k))) (fun _ i => l.length - (intOf i).toNat)
  case atStart => exact ⟨0, Nat.zero_le _, rfl, rfl⟩
  case round =>
    obtain ⟨k, hk, rfl, rfl⟩ := hrel
    have m0 := jn_le by' l hk
    obtain ⟨z, hz⟩ : ∃ z, z = bs (jn by' l k) := ⟨_, rfl⟩
    have hzs : z.size ≤ 140737488355328 := by rw [hz, bs_size]; omega
    rw [← hz]
    by_cases hlt : k < l.length
    · have hne : l ≠ [] := fun e => by rw [e] at hlt; simp at hlt
      obtain ⟨b, off, rfl, hb, hcell⟩ := h3.resolve_left hne
      have hc := hcell k hlt
      have m2 := jn_le by' l (show k + 1 ≤ l.length from hlt)
      by_cases hz0 : k = 0
      · subst hz0
        have e1 := jn_zero by' l hlt
        have hb2 : z.size + l[0].size ≤ 140737488355328 := by rw [e1, size_data] at m2; rw [hz, bs_size]; simp [jn]; omega
        have E1 := Lib.hid e1; clear e1 h3 hcell
        have HZ := Lib.hid hz; clear hz
        simp only [Nat.add_zero] at hc
        go_wp2
        go_round
        case rel => exact ⟨1, hlt, rfl, by rw [E1.out, HZ.out, bs_add]; rfl⟩
        case measure => simp [intOf]; omega
      · have hpos : 0 < k := by omega
        have e1 := jn_pos by' l hpos hlt
        rw [e1] at m2
        simp only [List.length_append, size_data] at m2
        have hb2 : z.size + by'.size ≤ 140737488355328 := by rw [hz, bs_size]; omega
        have hb3 : z.size + by'.size + l[k].size ≤ 140737488355328 := by rw [hz, bs_size]; omega
        have hb4 : (z ++ by').size = z.size + by'.size := ByteArray.size_append
        obtain ⟨y, hy⟩ : ∃ y, y = z ++ by' := ⟨_, rfl⟩
        have hys : y.size + l[k].size ≤ 140737488355328 := by rw [hy, hb4]; omega
        have hys0 : (z ++ by').size + l[k].size ≤ 140737488355328 := by rw [hb4]; omega
        have E1 := Lib.hid e1; clear e1 h3 hcell hz0
        have HZ := Lib.hid hz; clear hz
        clear hy hys hb4
        go_wp2
        go_round
        case rel => exact ⟨k + 1, hlt, by go_num, by rw [E1.out, HZ.out, bs_add, bs_add]⟩
        case measure => simp [intOf]; omega
    · have hkl : k = l.length := by omega
      subst hkl
      have HZ := Lib.hid hz; clear hz
      clear h3
      go_wp2
      go_ret
      exact ⟨ret_string HZ.out, rfl⟩

end Go.Proofs.YtbnkdcfmllblkaaDoor
