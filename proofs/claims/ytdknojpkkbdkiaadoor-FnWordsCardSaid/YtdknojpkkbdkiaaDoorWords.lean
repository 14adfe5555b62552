/- The law on words: an integer is read back from its text, and a text is put together again from its parts. -/
import Derived.Test.YtdknojpkkbdkiaaDoorDraw
import Derived.Test.YtdknojpkkbdkiaaDoorParse
import Derived.Test.YtdknojpkkbdkiaaDoorJoinI
import Derived.Test.YtdknojpkkbdkiaaDoorLinesI
import Derived.Test.YtdknojpkkbdkiaaDoorName
set_option linter.unusedVariables false
namespace Go.Proofs.YtdknojpkkbdkiaaDoor
open Go.ChangeShapes Go.WideShapes Go.ChangeAt Go.RowKit

theorem jn_prefix (b : ByteArray) (L M : List ByteArray) : ∀ k, k ≤ L.length → jn b (L ++ M) k = jn b L k
  | 0, _ => rfl
  | k + 1, h => by
    simp only [jn]
    rw [jn_prefix b L M k (by omega)]
    congr 2
    rw [List.getD_eq_getElem?_getD, List.getD_eq_getElem?_getD, List.getElem?_append_left (by omega)]

theorem jn_snoc (b : ByteArray) (L : List ByteArray) (x : ByteArray) : jn b (L ++ [x]) (L.length + 1) = (if 0 < L.length then jn b L L.length ++ b.data.toList else []) ++ x.data.toList := by
  simp only [jn]
  rw [jn_prefix b L [x] L.length (Nat.le_refl _), List.getD_eq_getElem?_getD, List.getElem?_append_right (Nat.le_refl _)]
  simp only [Nat.sub_self, List.getElem?_cons_zero, Option.getD_some]
  by_cases h : 0 < L.length
  · rw [if_pos h, if_pos h]
  · rw [if_neg h, if_neg h]
    have : L.length = 0 := by omega
    rw [this]; rfl

def sp32 : ByteArray := ⟨#[32]⟩

theorem cut_data (s : ByteArray) {a c : Nat} (h : a ≤ c) (hc : c ≤ s.size) : s.data.toList.take a ++ (s.extract a c).data.toList = s.data.toList.take c := by
  rw [Lib.extract_data]
  have e : s.data.toList.take c = (s.data.toList.take c).take a ++ (s.data.toList.take c).drop a := (List.take_append_drop _ _).symm
  rw [e, List.take_take, Nat.min_eq_left h, List.drop_take]

theorem occ32 {c : UInt8} (h : occB sp32 sp32.size c = true) : c = 32 := by
  have e : sp32.data.toList.take sp32.size = [32] := rfl
  simp only [occB] at h
  rw [e] at h
  simpa using h

theorem sp_joined (s : ByteArray) : ∀ i, i ≤ s.size → ((sp s sp32 i).1 = [] ∧ (sp s sp32 i).2 = 0) ∨ (0 < (sp s sp32 i).1.length ∧ jn sp32 (sp s sp32 i).1 (sp s sp32 i).1.length ++ sp32.data.toList = s.data.toList.take (sp s sp32 i).2)
  | 0, _ => .inl ⟨rfl, rfl⟩
  | i + 1, h => by
    have ih := sp_joined s i (by omega)
    have hf := sp_from s sp32 i
    cases ho : occB sp32 sp32.size (s[i]'(by omega)) with
    | false => rw [sp_no (by omega) ho]; exact ih
    | true =>
      have hc := occ32 ho
      right
      rw [sp_yes (by omega) ho]
      simp only [List.length_append, List.length_cons, List.length_nil, Nat.zero_add]
      refine ⟨by omega, ?_⟩
      rw [jn_snoc]
      have hi : i < s.data.toList.length := by rw [size_data]; omega
      have last : s.data.toList.take (i + 1) = s.data.toList.take i ++ sp32.data.toList := by
        rw [List.take_succ_eq_append_getElem hi, data_get s i (by omega), hc]; rfl
      rw [last]
      congr 1
      rcases ih with ⟨h1, h2⟩ | ⟨h1, h2⟩
      · rw [if_neg (by rw [h1]; simp), h2, List.nil_append]
        simp
      · rw [if_pos h1, h2]
        exact cut_data s hf (by omega)

theorem joined_again (s : ByteArray) : bs (jn sp32 (pieces s sp32) (pieces s sp32).length) = s := by
  apply bs_ext
  rw [data_bs]
  have hf := sp_from s sp32 s.size
  have hl : (pieces s sp32).length = (sp s sp32 s.size).1.length + 1 := by simp [pieces]
  rw [hl, pieces, jn_snoc]
  have full : s.data.toList.take s.size = s.data.toList := List.take_of_length_le (by rw [size_data]; exact Nat.le_refl _)
  rcases sp_joined s s.size (Nat.le_refl _) with ⟨h1, h2⟩ | ⟨h1, h2⟩
  · rw [if_neg (by rw [h1]; simp), h2, List.nil_append]
    simp
  · rw [if_pos h1, h2, cut_data s hf (Nat.le_refl _), full]

theorem parse_back (n : Int) (hn : inI n) (w : World) (hs : (bs (Lib.itoa n)).size ≤ 1048576) (ht : Tab w) (he : Errs w) :
    Calls Tryd.prog 7 #[.string (bs (Lib.itoa n))] w fun e w' => e = .returned (.tuple #[.int .i64 n, .bool true]) ∧ Below w.heap.size w w' := by
  have h := implParse_any (bs (Lib.itoa n)) w hs ht he
  rw [data_bs, pRes_true hn rfl] at h
  exact h

theorem nam_x1 : isNam ⟨#[120, 49]⟩ = true := by decide +kernel
theorem two_lines : (lines ⟨#[97, 10, 98, 10]⟩).length = 2 := by decide +kernel

/-- a text of some bytes, made of new memory alone -/
def TextIn (w : World) (e : Ending) (w' : World) : Prop := ∃ s : ByteArray, s.size ≤ 1000 ∧ e = .returned (.string s) ∧ Below w.heap.size w w'

def five : List ByteArray := [⟨#[97]⟩, ⟨#[98, 99]⟩, ⟨#[32]⟩, ⟨#[44]⟩, ⟨#[120, 49]⟩]
theorem five_size : ∀ s ∈ five, s.size ≤ 2 := by decide

set_option maxRecDepth 100000 in
set_option maxHeartbeats 2000000 in
theorem makeText_any (v : Value) (w : World) (hv : BytesAt w v) :
    Calls Tryd.prog 9 #[v] w (TextIn w) := by
  have HV := Lib.hid hv
  obtain ⟨a, len, cap, zs, rfl, _⟩ := hv
  go_enter Tryd.func9, Tryd.ntmps9
  go_wp2_with (go_at_call 20; refine (new_any _ _ HV.out).mono ?_; rintro e w1 ⟨g, rfl, hg0, hc1, hb1⟩)
  refine (below_any g 8 _ hc1 (by omega) (by omega)).mono ?_
  rintro e w2 ⟨x, ⟨hx0, hx1⟩, rfl, hc2, hg2⟩
  have hb2 := below_cur hb1 hg2 hg0
  clear hb1 hc1 hg2
  go_wp2
  go_loopw [4, 5] (fun t i wr => ∃ (k : Nat) (s : ByteArray), k ≤ 8 ∧ i = .int .i64 k ∧ t = .string s ∧ s.size + 2 * k ≤ 16 ∧ Cur wr g ∧ Below w.heap.size w wr) (fun _ i _ => (intOf i).toNat)
  case atStart =>
    obtain ⟨k, rfl⟩ : ∃ k : Nat, x = k := ⟨x.toNat, by omega⟩
    exact ⟨k, ⟨#[]⟩, by omega, rfl, rfl, by show 0 + 2 * k ≤ 16; omega, hc2, hb2⟩
  case round =>
    obtain ⟨k, s, hk, rfl, rfl, hsz, hc, hB⟩ := hrel
    clear hc2 hb2
    have hs16 : s.size ≤ 16 := by omega
    by_cases hk0 : k = 0
    · subst hk0
      have HT := Lib.hid (show s.size ≤ 1000 by omega)
      go_wp2
      go_ret
      exact ⟨s, HT.out, rfl, hB⟩
    · have hkp : (0 : Int) < k := by omega
      have hsz0 := hB.size
      have hlt := hc.lt
      have hcA : Cur (wr.alloc (.cells #[.string ⟨#[97]⟩, .string ⟨#[98, 99]⟩, .string ⟨#[32]⟩, .string ⟨#[44]⟩, .string ⟨#[120, 49]⟩] 9)) g := hc.below ((Below.refl _ _).alloc (Nat.le_refl _) _)
      have hBA : Below w.heap.size w (wr.alloc (.cells #[.string ⟨#[97]⟩, .string ⟨#[98, 99]⟩, .string ⟨#[32]⟩, .string ⟨#[44]⟩, .string ⟨#[120, 49]⟩] 9)) := hB.alloc hsz0 _
      have hst := str_any g ⟨wr.heap.size, 0, none⟩ five _ hcA (by decide) (by decide) (by simp; omega) rfl (fun j hj => by
        rw [Nat.zero_add]
        rw [Lib.cell_of_heap (heap_alloc_new wr _)]
        have hj5 : j < 5 := hj
        have : j = 0 ∨ j = 1 ∨ j = 2 ∨ j = 3 ∨ j = 4 := by omega
        rcases this with rfl | rfl | rfl | rfl | rfl <;> rfl)
      have HST := Lib.hid hst
      clear hst
      go_wp2_with (go_at_call 22; refine HST.out.mono ?_; rintro e w3 ⟨y, hy, rfl, hc3, hg3⟩; have hy2 := five_size y hy; clear hy)
      go_roundw
      case rel => exact ⟨k - 1, s ++ y, by omega, by go_num, rfl, by rw [ByteArray.size_append]; omega, hc3, below_cur hBA hg3 hg0⟩
      case measure => simp [intOf]; omega

set_option maxHeartbeats 2000000 in
theorem lawWords (a : Option Addr) (len cap : Nat) (zs : List Int) (w : World) (hz : IsRow .u8 w a len cap zs) (ht : Tab w) (he : Errs w) :
    Calls Tryd.prog 3 #[.slice a len cap] w fun e w' => e = .returned (.bool true) ∧ Below w.heap.size w w' := by
  have hv := bytesAt_of hz
  have hl : len ≤ 9223372036854775807 := by
    obtain ⟨a', n, cap', zs', e, h1, h2, _⟩ := hv
    injection e with _ e1 e2
    unfold maxLen at h2; omega
  clear hz
  by_cases hbig : 1048576 < len
  · clear hv
    go_enter Tryd.func3, Tryd.ntmps3
    go_wp2
    go_ret
    exact ⟨rfl, Below.refl _ _⟩
  go_enter Tryd.func3, Tryd.ntmps3
  go_wp2_with (go_at_call 6; refine (makeNum_any _ 1 _ hv (by omega)).mono ?_)
  rintro e w1 ⟨x, ⟨hx0, hx1⟩, rfl, b1⟩
  obtain ⟨n, hn⟩ : ∃ n, n = x - 30000 := ⟨_, rfl⟩
  have hI : inI n := ⟨by omega, by omega⟩
  have hsz : (bs (Lib.itoa n)).size ≤ 1048576 := by
    rw [bs_size, Lib.itoa]; split
    · have := dec_len n.natAbs n.natAbs (Nat.le_refl _); simp only [List.length_cons]; omega
    · have := dec_len n.toNat n.toNat (Nat.le_refl _); omega
  have HN := Lib.hid hn
  have t1 := ht.below b1
  have HF := Lib.hid (implFormat_any n w1 hI.1 hI.2 t1)
  clear hn
  go_wp2_with fail
  rw [← HN.out]
  refine HF.out.mono ?_
  rintro e w2 ⟨rfl, b2⟩
  have b12 := b1.trans (b2.mono b1.size)
  have t2 := t1.below b2
  have e2 := he.below b12
  go_wp2_with (go_at_call 7; refine (parse_back n hI _ hsz t2 e2).mono ?_; rintro e w3 ⟨rfl, b3⟩)
  have b13 := b12.trans (b3.mono b12.size)
  refine (makeText_any _ _ (hv.below b13)).mono ?_
  rintro e w4 ⟨s, hs, rfl, b4⟩
  have b14 := b13.trans (b4.mono b13.size)
  have hs2 : s.size ≤ 1048576 := by omega
  go_wp2_with (go_at_call 11; refine (implSplitAny_any s sp32 _ hs2 (by decide)).mono ?_)
  rintro e w5 ⟨v5, rfl, o5, b5⟩
  have b15 := b14.trans (b5.mono b14.size)
  have HJ := Lib.hid (implJoin_any sp32 v5 (pieces s sp32) w5 (RowAt.of_owns o5) (by rw [← bs_size, joined_again]; omega))
  rw [joined_again] at HJ
  go_wp2_with (go_at_call 10; refine HJ.out.mono ?_; rintro e w6 ⟨rfl, b6⟩)
  have b16 := b15.trans (b6.mono b15.size)
  have HX := Lib.hid (implIsName_any ⟨#[120, 49]⟩ w6 (by decide))
  rw [nam_x1] at HX
  refine HX.out.mono ?_
  rintro e w7 ⟨rfl, b7⟩
  have b17 := b16.trans (b7.mono b16.size)
  have HL := Lib.hid (implLines_any ⟨#[97, 10, 98, 10]⟩ w7 (by decide))
  go_wp2_with (go_at_call 13; refine HL.out.mono ?_)
  rintro e w8 ⟨v8, rfl, o8, b8⟩
  have b18 := b17.trans (b8.mono b17.size)
  rw [two_lines] at o8
  obtain ⟨g8, c8, rfl, _, _⟩ := owns_shape o8
  clear o8
  go_wp2
  go_ret
  exact ⟨rfl, b18⟩

end Go.Proofs.YtdknojpkkbdkiaaDoor
