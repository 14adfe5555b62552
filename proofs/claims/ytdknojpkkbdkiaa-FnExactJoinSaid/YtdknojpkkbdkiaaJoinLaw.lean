/- Join: the model and the law: the program joins as the model does. -/
import Derived.Test.YtdknojpkkbdkiaaJoinI
import Derived.Test.YtdknojpkkbdkiaaStrs
set_option linter.unusedVariables false
namespace Go.Proofs.Ytdknojpkkbdkiaa
open Go.ChangeShapes Go.WideShapes Go.ChangeAt Go.RowKit

theorem jn_len (b : ByteArray) (l : List ByteArray) : ∀ k, k ≤ l.length → (jn b l k).length ≤ sizes (l.take k) + k * b.size
  | 0, _ => by simp [jn]
  | k + 1, h => by
    have ih := jn_len b l k (by omega)
    have e := sizes_snoc (l := l) (k := k) (by omega)
    rw [e, Nat.succ_mul]
    by_cases hz : 0 < k
    · rw [jn_pos b l hz (by omega)]
      simp only [List.length_append, size_data]; omega
    · obtain rfl : k = 0 := by omega
      rw [jn_zero b l (by omega), size_data]; omega

theorem jn_bound {b : ByteArray} {l : List ByteArray} (hb : b.size ≤ 1048576) (hl : l.length + sizes l ≤ 1048576) : (jn b l l.length).length ≤ 140737488355328 := by
  have h := jn_len b l l.length (Nat.le_refl _)
  rw [List.take_length] at h
  have : l.length * b.size ≤ 1048576 * 1048576 := Nat.mul_le_mul (by omega) hb
  omega

set_option maxHeartbeats 1000000 in
theorem specJoin_any (by' : ByteArray) (v : Value) (l : List ByteArray) (w : World) (hrow : RowAt w v (strsOf l)) (hlen : (jn by' l l.length).length ≤ 140737488355328) :
    Calls Try.prog 21 #[v, .string by'] w fun e w' => e = .returned (.string (bs (jn by' l l.length))) ∧ w = w' := by
  obtain ⟨a, cap, rfl, h1, h2, h3⟩ := hrow.strs
  unfold maxLen at h2
  go_enter Try.func21, Try.ntmps21
  go_wp2
  go_loop [5, 10] (fun s i => ∃ k : Nat, k ≤ l.length ∧ i = .int .i64 k ∧ s = .string (bs (jn by' l k))) (fun _ i => l.length - (intOf i).toNat)
  case atStart => exact ⟨0, Nat.zero_le _, rfl, rfl⟩
  case round =>
    obtain ⟨k, hk, rfl, rfl⟩ := hrel
    have m0 := jn_le by' l hk
    obtain ⟨z, hz⟩ : ∃ z, z = bs (jn by' l k) := ⟨_, rfl⟩
    have hzs : z.size ≤ 140737488355328 := by rw [hz, bs_size]; omega
    rw [← hz]
    by_cases hlt : k < l.length
    · have hne : l ≠ [] := fun e => by rw [e] at hlt; simp at hlt
      obtain ⟨b, off, rfl, hb, hcell⟩ := h3.resolve_left hne
      have hc := hcell k hlt
      have m2 := jn_le by' l (show k + 1 ≤ l.length from hlt)
      by_cases hz0 : k = 0
      · subst hz0
        have e1 := jn_zero by' l hlt
        have hb2 : z.size + l[0].size ≤ 140737488355328 := by rw [e1, size_data] at m2; rw [hz, bs_size]; simp [jn]; omega
        have E1 := Lib.hid e1; clear e1 h3 hcell
        have HZ := Lib.hid hz; clear hz
        simp only [Nat.add_zero] at hc
        go_wp2
        go_round
        case rel => exact ⟨1, hlt, rfl, by rw [E1.out, HZ.out, bs_add]; rfl⟩
        case measure => simp [intOf]; omega
      · have hpos : 0 < k := by omega
        have e1 := jn_pos by' l hpos hlt
        rw [e1] at m2
        simp only [List.length_append, size_data] at m2
        have hb2 : z.size + by'.size ≤ 140737488355328 := by rw [hz, bs_size]; omega
        have hb3 : z.size + by'.size + l[k].size ≤ 140737488355328 := by rw [hz, bs_size]; omega
        have hb4 : (z ++ by').size = z.size + by'.size := ByteArray.size_append
        obtain ⟨y, hy⟩ : ∃ y, y = z ++ by' := ⟨_, rfl⟩
        have hys : y.size + l[k].size ≤ 140737488355328 := by rw [hy, hb4]; omega
        have hys0 : (z ++ by').size + l[k].size ≤ 140737488355328 := by rw [hb4]; omega
        have E1 := Lib.hid e1; clear e1 h3 hcell hz0
        have HZ := Lib.hid hz; clear hz
        clear hy hys hb4
        go_wp2
        go_round
        case rel => exact ⟨k + 1, hlt, by go_num, by rw [E1.out, HZ.out, bs_add, bs_add]⟩
        case measure => simp [intOf]; omega
    · have hkl : k = l.length := by omega
      subst hkl
      have HZ := Lib.hid hz; clear hz
      clear h3
      go_wp2
      go_ret
      exact ⟨ret_string HZ.out, rfl⟩

set_option maxHeartbeats 2000000 in
theorem lawJoin (a : Option Addr) (len cap : Nat) (l : List ByteArray) (W : World) (hw : RowAt W (.slice a len cap) (strsOf l) ∧ ∀ s ∈ l, s.size ≤ maxLen) (b : ByteArray) (hbm : b.size ≤ maxLen) :
    Calls Try.prog 7 #[.slice a len cap, .string b] W fun e w' => e = .returned (.bool true) ∧ Below W.heap.size W w' := by
  obtain ⟨hrow, hls⟩ := hw
  have hbm' := hbm
  unfold maxLen at hbm'
  by_cases hbig : 1048576 < b.size
  · go_enter Try.func7, Try.ntmps7
    go_wp2
    go_ret
    exact ⟨rfl, Below.refl _ _⟩
  have hbs : b.size ≤ 1048576 := by omega
  go_enter Try.func7, Try.ntmps7
  go_wp2_with (go_at_call 20; refine (szStringS_any _ l _ hrow hls).mono ?_)
  rintro e w1 ⟨r, rfl, hr0, hr1, hr2, rfl⟩
  by_cases hneg : r < 0
  · go_wp2
    go_ret
    exact ⟨rfl, Below.refl _ _⟩
  have hsz := hr2 (by omega)
  have hlen := jn_bound hbs hsz
  clear hr2 hr0
  go_wp2_with (go_at_call 22; refine (toStringS_any _ l _ hrow (by omega)).mono ?_)
  rintro e w1 ⟨v1, rfl, o1, b1⟩
  go_wp2_with (go_at_call 21; refine (specJoin_any _ _ l _ (RowAt.of_owns o1) hlen).mono ?_; rintro e w2 ⟨rfl, rfl⟩)
  refine (toStringS_any _ l _ (hrow.below b1) (by omega)).mono ?_
  rintro e w2 ⟨v2, rfl, o2, b2⟩
  have b12 := b1.trans (b2.mono b1.size)
  go_wp2_with (go_at_call 23; refine (implJoin_any _ _ l _ (RowAt.of_owns o2) hlen).mono ?_)
  rintro e w3 ⟨rfl, b3⟩
  have b13 := b12.trans (b3.mono b12.size)
  go_wp2_with (go_at_call 22; refine (toStringS_any _ l _ (hrow.below b13) (by omega)).mono ?_)
  rintro e w4 ⟨v4, rfl, o4, b4⟩
  have b14 := b13.trans (b4.mono b13.size)
  have r2 := ((RowAt.of_owns o2).below b3).below b4
  go_wp2_with (go_at_call 15; refine (eqStringS_any _ _ l l _ r2 (RowAt.of_owns o4)).mono ?_; rintro e w5 ⟨rfl, b5⟩)
  go_ret
  exact ⟨rfl, b14.trans (b5.mono b14.size)⟩

end Go.Proofs.Ytdknojpkkbdkiaa
