/- PadZeros: leading zeros up to n bytes, where n is at most 2000. -/
import Derived.Test.YtdknojpkkbdkiaaJoin
set_option linter.unusedVariables false
namespace Go.Proofs.Ytdknojpkkbdkiaa
open Go.ChangeShapes Go.WideShapes Go.ChangeAt Go.RowKit

def zer (k : Nat) (s : ByteArray) : ByteArray := bs (List.replicate k 48 ++ s.data.toList)
theorem zer_zero (s : ByteArray) : zer 0 s = s := by simp [zer, bs]
theorem zer_size (k : Nat) (s : ByteArray) : (zer k s).size = k + s.size := by simp only [zer, bs_size, List.length_append, List.length_replicate, size_data]
theorem zer_succ (k : Nat) (s : ByteArray) : (⟨#[48]⟩ : ByteArray) ++ zer k s = zer (k + 1) s := by
  apply bs_ext; simp [zer, bs, List.replicate_succ]
theorem repeatL_zeros (k : Nat) : Lib.repeatL [48] k = List.replicate k 48 := by
  induction k with
  | zero => rfl
  | succ k ih => simp [Lib.repeatL, ih, List.replicate_succ]

theorem implPad_same (s : ByteArray) (n : Int) (w : World) (hs : s.size ≤ maxLen) (h : n ≤ (s.size : Int) ∨ 2000 < n) :
    Calls Try.prog 25 #[.string s, .int .i64 n] w fun e w' => e = .returned (.string s) ∧ w = w' := by
  unfold maxLen at hs
  by_cases h1 : n ≤ (s.size : Int)
  · clear h
    go_enter Try.func25, Try.ntmps25
    go_wp2
    go_ret
    exact ⟨rfl, rfl⟩
  · have h2 : 2000 < n := by omega
    have h1' : decide (n ≤ (s.size : Int)) = false := by simpa using h1
    clear h h1
    go_enter Try.func25, Try.ntmps25
    go_wp2
    go_ret
    exact ⟨rfl, rfl⟩

set_option maxHeartbeats 1000000 in
theorem implPad_more (s : ByteArray) (n : Nat) (w : World) (h : s.size < n) (h2 : n ≤ 2000) :
    Calls Try.prog 25 #[.string s, .int .i64 n] w fun e w' => e = .returned (.string (zer (n - s.size) s)) ∧ Below w.heap.size w w' := by
  have h1' : decide ((n : Int) ≤ (s.size : Int)) = false := by simp; omega
  have h2' : (n : Int) ≤ 2000 := by omega
  obtain ⟨k, hk⟩ : ∃ k : Nat, k = n - s.size := ⟨_, rfl⟩
  have HE := Lib.hid (show (n : Int) - (s.size : Int) = (k : Int) by omega)
  have HK := Lib.hid hk; clear hk
  go_enter Try.func25, Try.ntmps25
  go_wp2_with fail
  rw [HE.out]
  go_wp2_with (go_at_call 31; refine (Try.strings_Repeat _ k _ (by have := HK.out; omega) (by have := HK.out; have e : (⟨#[48]⟩ : ByteArray).size = 1 := rfl; rw [e]; omega)).mono ?_)
  rintro e W1 rfl b1
  have hz := b1.size
  have hr : RowAt (W1.alloc (.cells #[.string ⟨(Lib.repeatL [48] k).toArray⟩, .string s] 9)) (.slice (some ⟨W1.heap.size, 0, none⟩) 2 2) (strsOf [⟨(Lib.repeatL [48] k).toArray⟩, s]) :=
    RowAt.of_owns (World.ownsRow_lit (base := 0) (size := 1) W1 #[.string ⟨(Lib.repeatL [48] k).toArray⟩, .string s] 2 (Nat.zero_le _) (by decide) rfl)
  have hj : jn ⟨#[]⟩ [⟨(Lib.repeatL [48] k).toArray⟩, s] 2 = List.replicate k 48 ++ s.data.toList := by simp [jn, repeatL_zeros]
  have HJ := Lib.hid hj; clear hj
  go_wp2_with (go_at_call 30; refine (joinTexts_any _ _ _ _ hr (by
    rw [show [(⟨(Lib.repeatL [48] k).toArray⟩ : ByteArray), s].length = 2 from rfl, HJ.out]; simp only [List.length_append, List.length_replicate, size_data]; have := HK.out; omega)).mono ?_)
  rintro e W2 ⟨rfl, b2⟩
  go_wp2
  go_ret
  refine ⟨ret_string ?_, b1.trans (((Below.refl _ _).alloc (Nat.le_refl _) _).trans (b2.mono (by simp)) |>.mono hz)⟩
  rw [HJ.out, HK.out]; rfl

set_option maxHeartbeats 1000000 in
theorem specPad_same (s : ByteArray) (n : Int) (w : World) (hs : s.size ≤ maxLen) (h : n ≤ (s.size : Int) ∨ 2000 < n) :
    Calls Try.prog 24 #[.string s, .int .i64 n] w fun e w' => e = .returned (.string s) ∧ w = w' := by
  unfold maxLen at hs
  by_cases h1 : 2000 < n
  · clear h
    go_enter Try.func24, Try.ntmps24
    go_wp2
    go_ret
    exact ⟨rfl, rfl⟩
  · have h2 : n ≤ (s.size : Int) := by omega
    clear h
    go_enter Try.func24, Try.ntmps24
    go_wp2
    go_loop [0] (fun t => t = .string s) (fun _ => 0)
    case atStart => rfl
    case round =>
      subst hrel
      go_wp2
      go_ret
      exact ⟨rfl, rfl⟩

set_option maxHeartbeats 1000000 in
theorem specPad_more (s : ByteArray) (n : Nat) (w : World) (h : s.size < n) (h2 : n ≤ 2000) :
    Calls Try.prog 24 #[.string s, .int .i64 n] w fun e w' => e = .returned (.string (zer (n - s.size) s)) ∧ w = w' := by
  have h2' : (n : Int) ≤ 2000 := by omega
  go_enter Try.func24, Try.ntmps24
  go_wp2
  go_loop [0] (fun t => ∃ k : Nat, k + s.size ≤ n ∧ t = .string (zer k s)) (fun t => match t with | .string x => n - x.size | _ => 0)
  case atStart => exact ⟨0, by omega, by rw [zer_zero]⟩
  case round =>
    obtain ⟨k, hk, rfl⟩ := hrel
    obtain ⟨z, hz⟩ : ∃ z, z = zer k s := ⟨_, rfl⟩
    have hzs : z.size = k + s.size := by rw [hz]; exact zer_size k s
    rw [← hz]
    by_cases hlt : k + s.size < n
    · have hl1 : z.size < n := by omega
      have HZ := Lib.hid hz; have HS := Lib.hid hzs; clear hz hzs
      have hbd : z.size ≤ 2000 := by omega
      go_wp2
      rw [HZ.out, zer_succ]
      refine ⟨⟨k + 1, by omega, rfl⟩, ?_⟩
      show n - (zer (k + 1) s).size < n - (zer k s).size
      rw [zer_size, zer_size]; omega
    · have hl1 : ¬ z.size < n := by omega
      have HZ := Lib.hid hz; have HS := Lib.hid hzs; clear hz hzs
      have hbd : z.size ≤ 2000 := by have := HS.out; omega
      go_wp2
      go_ret
      refine ⟨ret_string ?_, rfl⟩
      rw [HZ.out]; congr 1; have := HS.out; omega

set_option maxHeartbeats 400000 in
theorem lawPadZeros (s : ByteArray) (hs : s.size ≤ maxLen) (n : Int) (hn : (Lit.int .i64 n).wf = true) (w : World) :
    Calls Try.prog 8 #[.string s, .int .i64 n] w fun e w' => e = .returned (.bool true) ∧ Below w.heap.size w w' := by
  have hs' := hs
  unfold maxLen at hs'
  by_cases h : n ≤ (s.size : Int) ∨ 2000 < n
  · have H := Lib.hid h; clear h
    go_enter Try.func8, Try.ntmps8
    go_wp2_with (first | (go_at_call 24; refine (specPad_same _ _ _ hs H.out).mono ?_; rintro e w' ⟨rfl, rfl⟩) | (go_at_call 25; refine (implPad_same _ _ _ hs H.out).mono ?_; rintro e w' ⟨rfl, rfl⟩))
    all_goals (go_ret; exact ⟨rfl, Below.refl _ _⟩)
  · obtain ⟨m, rfl⟩ : ∃ m : Nat, n = m := ⟨n.toNat, by omega⟩
    have H1 : s.size < m := by omega
    have H2 : m ≤ 2000 := by omega
    clear h hn
    go_enter Try.func8, Try.ntmps8
    go_wp2_with (first | (go_at_call 24; refine (specPad_more _ _ _ H1 H2).mono ?_; rintro e w' ⟨rfl, rfl⟩) | (go_at_call 25; refine (implPad_more _ _ _ H1 H2).mono ?_; rintro e w' ⟨rfl, hb⟩))
    all_goals (go_ret; exact ⟨rfl, hb⟩)

end Go.Proofs.Ytdknojpkkbdkiaa
