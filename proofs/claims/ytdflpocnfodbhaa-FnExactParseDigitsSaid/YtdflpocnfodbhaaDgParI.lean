/- Digits: the program's reading of a text. -/
import Derived.Test.YtdflpocnfodbhaaDgImp
import Derived.Test.YtdflpocnfodbhaaDgParse
import Derived.Test.YtdflpocnfodbhaaShelf
set_option linter.unusedVariables false
set_option linter.unusedSimpArgs false
set_option maxRecDepth 100000
namespace Go.Proofs.Ytdflpocnfodbhaa
open Go.ChangeShapes Go.WideShapes Go.ChangeAt Go.RowKit

/-- the program's digit of a character, or -1 -/
def ixc (c : UInt8) : Int := Lib.indexByte [48, 49, 50, 51, 52, 53, 54, 55, 56, 57, 97, 98, 99, 100, 101, 102] c

theorem ixc_fin : ∀ k : Fin 256, ixc (UInt8.ofNat k.1) = (if rdc k.1 = 16 then -1 else rdc k.1) ∧ (rdc k.1 ≠ 16 → sgc (rdc k.1) = UInt8.ofNat k.1) := by decide +kernel
theorem ixc_eq (c : UInt8) : ixc c = (if rdc c.toNat = 16 then -1 else rdc c.toNat) ∧ (rdc c.toNat ≠ 16 → sgc (rdc c.toNat) = c) := by
  have h := ixc_fin ⟨c.toNat, c.toNat_lt⟩
  simpa using h
theorem rdc_range (c : UInt8) : 0 ≤ rdc c.toNat ∧ rdc c.toNat ≤ 16 := by
  unfold rdc
  split
  · omega
  · split <;> omega

/-- the program's list, from the last character on -/
def ixl (s : ByteArray) : List Int := (s.data.toList.map ixc).reverse
theorem ixl_length (s : ByteArray) : (ixl s).length = s.size := by
  simp only [ixl, List.length_reverse, List.length_map, Array.length_toList]; rfl
theorem ixl_get {s : ByteArray} {k : Nat} (h : k < (ixl s).length) (hk : s.size - 1 - k < s.size) : (ixl s)[k] = ixc s[s.size - 1 - k] := by
  simp only [ixl, List.getElem_reverse, List.getElem_map, List.length_map]
  congr 1
theorem ixl_in {s : ByteArray} : ∀ d ∈ ixl s, in64 d := by
  intro d hd
  simp only [ixl, List.mem_reverse, List.mem_map] at hd
  obtain ⟨c, _, rfl⟩ := hd
  have h1 := (ixc_eq c).1
  have h2 := rdc_range c
  rw [h1]; unfold in64; split <;> omega

theorem rdl_zero (s : ByteArray) : rdl s 0 = (s.data.toList.map fun c => rdc c.toNat).reverse := rfl

/-- where all digits are digits, the two readings agree, and the text is the one that was read -/
theorem map_same {b : Int} (hb : b ≤ 16) : ∀ l : List UInt8, (∀ d ∈ l.map ixc, 0 ≤ d ∧ d ≤ b - 1) → l.map ixc = l.map (fun c => rdc c.toNat) ∧ (l.map fun c => rdc c.toNat).map sgc = l
  | [], _ => ⟨rfl, rfl⟩
  | c :: l, h => by
    obtain ⟨i1, i2⟩ := map_same hb l (fun d hd => h d (List.mem_cons_of_mem _ hd))
    have hc := h (ixc c) (by simp)
    obtain ⟨e1, e2⟩ := ixc_eq c
    by_cases h16 : rdc c.toNat = 16
    · rw [e1, if_pos h16] at hc; omega
    · rw [if_neg h16] at e1
      simp only [List.map_cons]
      rw [e1, i1, e2 h16, i2]
      exact ⟨rfl, rfl⟩
theorem map_back {b : Int} (hb : b ≤ 16) : ∀ l : List UInt8, (∀ d ∈ l.map (fun c => rdc c.toNat), 0 ≤ d ∧ d ≤ b - 1) → l.map ixc = l.map (fun c => rdc c.toNat)
  | [], _ => rfl
  | c :: l, h => by
    have i1 := map_back hb l (fun d hd => h d (List.mem_cons_of_mem _ hd))
    have hc := h (rdc c.toNat) (by simp)
    have e1 := (ixc_eq c).1
    rw [if_neg (by omega)] at e1
    simp only [List.map_cons]
    rw [e1, i1]

theorem par_yes {s : ByteArray} {b : Int} (hz : s ≠ bs [48]) (he : s ≠ bs []) (h : okD (ixl s) b = true) : rParseDigits1 s b = true ∧ rParseDigits0 s b = ixl s := by
  obtain ⟨⟨_, hb⟩, _, hd, _⟩ := okD_yes h
  obtain ⟨e1, e2⟩ := map_same hb s.data.toList (fun d hd' => hd d (by rw [ixl]; exact List.mem_reverse.2 hd'))
  have hl : rdl s 0 = ixl s := by rw [rdl_zero, ixl, e1]
  have hp : pdl s = ixl s := by rw [pdl, if_neg hz, hl]
  have hne : ixl s ≠ [] := fun e => he (by
    have := ixl_length s
    rw [e] at this
    apply bs_ext
    rw [data_bs]
    exact List.eq_nil_of_length_eq_zero (by rw [size_data]; exact this.symm))
  have hf : rFormatDigits0 (ixl s) b = s := by
    rw [rFormatDigits0, if_pos h, if_neg hne]
    apply bs_ext
    rw [data_bs, txt, ← hl, rdl_zero, List.map_reverse, List.reverse_reverse, e2]
  have h1 : rParseDigits1 s b = true := by
    rw [rParseDigits1, hp, decide_eq_true he, decide_eq_true hf]; rfl
  exact ⟨h1, by rw [rParseDigits0, h1, if_pos rfl, hp]⟩

theorem fmt_size (l : List Int) (b : Int) : (rFormatDigits0 l b).size ≤ 60 ∧ (okD l b = false → rFormatDigits0 l b = bs []) := by
  rw [rFormatDigits0]
  cases h : okD l b
  · exact ⟨by simp [bs_size], fun _ => rfl⟩
  · have := (okD_yes h).2.1
    refine ⟨?_, fun e => by cases e⟩
    simp only [if_true]
    split
    · rw [bs_size]; simp
    · rw [bs_size, txt_length]; exact this

theorem par_no {s : ByteArray} {b : Int} (hz : s ≠ bs [48]) (he : s ≠ bs []) (h : okD (ixl s) b = false) : rParseDigits1 s b = false ∧ rParseDigits0 s b = [] := by
  have h1 : rParseDigits1 s b = false := by
    rw [rParseDigits1, pdl, if_neg hz, decide_eq_true he, Bool.true_and]
    refine decide_eq_false fun hf => ?_
    cases hk : okD (rdl s 0) b
    · rw [(fmt_size _ _).2 hk] at hf
      exact he hf.symm
    · obtain ⟨⟨_, hb⟩, _, hd, _⟩ := okD_yes hk
      have e1 := map_back hb s.data.toList (fun d hd' => hd d (by rw [rdl_zero]; exact List.mem_reverse.2 hd'))
      have : ixl s = rdl s 0 := by rw [rdl_zero, ixl, e1]
      rw [this, hk] at h; cases h
  exact ⟨h1, by rw [rParseDigits0, h1]; rfl⟩

theorem par_long {s : ByteArray} {b : Int} (h : 60 < s.size) : rParseDigits1 s b = false ∧ rParseDigits0 s b = [] := by
  have h1 : rParseDigits1 s b = false := by
    have : rFormatDigits0 (pdl s) b ≠ s := fun e => by
      have := (fmt_size (pdl s) b).1
      rw [e] at this; omega
    rw [rParseDigits1, decide_eq_false this, Bool.and_false]
  exact ⟨h1, by rw [rParseDigits0, h1]; rfl⟩
theorem par_empty {b : Int} : rParseDigits1 (bs []) b = false ∧ rParseDigits0 (bs []) b = [] := by
  have h1 : rParseDigits1 (bs []) b = false := by rw [rParseDigits1, decide_eq_false (fun h => h rfl), Bool.false_and]
  exact ⟨h1, by rw [rParseDigits0, h1]; rfl⟩
theorem par_zero {b : Int} : rParseDigits1 (bs [48]) b = okB b ∧ rParseDigits0 (bs [48]) b = [] := by
  have hp : pdl (bs [48]) = [] := by rw [pdl, if_pos rfl]
  have hk : okD [] b = okB b := by simp [okD]
  have h1 : rParseDigits1 (bs [48]) b = okB b := by
    rw [rParseDigits1, hp, rFormatDigits0, hk]
    cases okB b <;> rfl
  exact ⟨h1, by rw [rParseDigits0, hp]; split <;> rfl⟩

set_option maxHeartbeats 2000000 in
theorem implParseDigits_any (s : ByteArray) (b : Int) (w : World) (hs : s.size ≤ 1048576) (hb : in64 b) :
    Calls Try.prog 72 #[.string s, .int .i64 b] w fun e w' => ∃ v, e = .returned (.tuple #[v, .bool (rParseDigits1 s b)]) ∧ w'.ownsRow w.heap.size 3 1 v (rParseDigits0 s b).length (intsOf (rParseDigits0 s b)) ∧ Below w.heap.size w w' := by
  have HB := Lib.hid hb; clear hb
  by_cases hz : s = bs [48]
  · have h48 : (s.toList == [48]) = true := by rw [hz, ByteArray.toList_eq, data_bs]; rfl
    obtain ⟨p1, p0⟩ := par_zero (b := b)
    have H1 := Lib.hid (show rParseDigits1 s b = okB b by rw [hz]; exact p1)
    have H0 := Lib.hid (show rParseDigits0 s b = [] by rw [hz]; exact p0)
    clear hz p0 p1
    go_enter Try.func72, Try.ntmps72
    go_wp2_with (go_at_call 21; refine (implBaseOk_any b _ HB.out).mono ?_; rintro e w1 ⟨rfl, rfl⟩)
    go_ret2
    exact ⟨_, by rw [H1.out]; rfl, by rw [H0.out]; exact World.ownsRow_nil _ _ _ _, Below.refl _ _⟩
  · have h48 : (s.toList == [48]) = false := by
      have e := str_beq_no hz
      rwa [show (bs [48]).toList = [48] by rw [ByteArray.toList_eq, data_bs]] at e
    by_cases he : s = bs []
    · have hE : s.toList = [] := by rw [he, ByteArray.toList_eq, data_bs]
      obtain ⟨p1, p0⟩ := par_empty (b := b)
      have H1 := Lib.hid (show rParseDigits1 s b = false by rw [he]; exact p1)
      have H0 := Lib.hid (show rParseDigits0 s b = [] by rw [he]; exact p0)
      clear he hz p0 p1 h48
      go_enter Try.func72, Try.ntmps72
      go_wp2
      go_ret2
      exact ⟨_, by rw [H1.out]; rfl, by rw [H0.out]; exact World.ownsRow_nil _ _ _ _, Below.refl _ _⟩
    · have hnE : s.toList.isEmpty = false := by
        rw [ByteArray.toList_eq]
        cases e : s.data.toList with
        | nil => exact absurd (by rw [← bs_data s, e]) he
        | cons => rfl
      by_cases hl : 60 < s.size
      · obtain ⟨p1, p0⟩ := par_long (b := b) hl
        have H1 := Lib.hid p1
        have H0 := Lib.hid p0
        clear he hz p0 p1
        go_enter Try.func72, Try.ntmps72
        go_wp2
        go_ret2
        exact ⟨_, by rw [H1.out]; rfl, by rw [H0.out]; exact World.ownsRow_nil _ _ _ _, Below.refl _ _⟩
      · have hl' : s.size ≤ 60 := by omega
        have HZ := Lib.hid hz; have HE := Lib.hid he
        clear hz he
        have hll := ixl_length s
        obtain ⟨n, hn⟩ : ∃ n, n = s.size := ⟨_, rfl⟩
        have HN := Lib.hid hn
        obtain ⟨i0, hi, hz0, hz1, hz2⟩ := info_parts infoInt
        clear hn
        go_enter Try.func72, Try.ntmps72
        go_wp2_with (at_make; refine wpList_make_full _ rfl _ _ 24 rfl w.heap.size 3 i0 (.int .i64 0) 1 Try.underlying24 hi hz0 hz1 _ _ _ _ s.size rfl rfl rfl rfl ?c1 ?c2 ?c3 ?_)
        case c1 => rw [hz2]; omega
        case c2 => unfold maxLen; omega
        case c3 => exact Nat.le_refl _
        intro w1 hown hgrow
        have hown1 : w1.ownsRow w.heap.size 3 1 (.slice (some ⟨w.heap.size, 0, none⟩) s.size s.size) s.size (intsOf ((ixl s).take 0) ++ List.replicate (s.size - 0) (.int .i64 0)) := by
          rw [toList_madeCells_one] at hown; simpa [intsOf] using hown
        have hB1 : Below w.heap.size w w1 := (Below.refl _ _).grown hgrow (Nat.le_refl _) (fun k hk => by cases hk)
        clear hown hgrow
        go_wp2
        go_loopw [24] (fun i wr => ∃ k : Nat, k ≤ s.size ∧ i = .int .i64 k ∧ Below w.heap.size w wr ∧ wr.ownsRow w.heap.size 3 1 (.slice (some ⟨w.heap.size, 0, none⟩) s.size s.size) s.size (intsOf ((ixl s).take k) ++ List.replicate (s.size - k) (.int .i64 0))) (fun i _ => s.size - (intOf i).toNat)
        case atStart => exact ⟨0, Nat.zero_le _, rfl, hB1, hown1⟩
        case round =>
          obtain ⟨k, hk, rfl, hB, hown⟩ := hrel
          clear hown1 hB1
          by_cases hlt : k < s.size
          · have hlk : k < (ixl s).length := by omega
            have hix : s.size - 1 - k < s.size := by omega
            have hg := ixl_get hlk hix
            have hc2 : wr.cell? ⟨w.heap.size, k, none⟩ = some (.int .i64 0) := by
              rw [hown.cellAt k (by omega), List.getElem?_append_right (by simp [intsOf]; omega)]
              rw [show k - (intsOf ((ixl s).take k)).length = 0 by simp [intsOf]; omega, List.getElem?_replicate, if_pos (by omega)]
            have hf2 : wr.frozen? ⟨w.heap.size, k, none⟩ = false := hown.frozenAt k
            have hst := (hown.stored k (.int .i64 (ixl s)[k])).1
            have hset : (intsOf ((ixl s).take k) ++ List.replicate (s.size - k) (Value.int .i64 0)).set k (Value.int .i64 (ixl s)[k]) = intsOf ((ixl s).take (k + 1)) ++ List.replicate (s.size - (k + 1)) (Value.int .i64 0) := by
              obtain ⟨m, hm⟩ : ∃ m, s.size - k = m + 1 := ⟨s.size - k - 1, by omega⟩
              have e1 := set_fill (intsOf ((ixl s).take k)) (Value.int .i64 0) (Value.int .i64 (ixl s)[k]) m
              rw [show (intsOf ((ixl s).take k)).length = k by simp [intsOf]; omega] at e1
              rw [hm, e1, show s.size - (k + 1) = m by omega, intsOf_snoc hlk]
            rw [hset] at hst
            have HST := Lib.hid hst
            have HG := Lib.hid hg
            have hsub : (s.size : Int) - 1 - k = ((s.size - 1 - k : Nat) : Int) := by omega
            have HSUB := Lib.hid hsub
            clear hset hst hown hg hsub
            go_wp2_with fail
            refine (Try.strings_IndexByte _ _ wr).mono ?_
            rintro e w' ⟨rfl, rfl⟩
            rw [show Lib.indexByte (⟨#[48, 49, 50, 51, 52, 53, 54, 55, 56, 57, 97, 98, 99, 100, 101, 102]⟩ : ByteArray).data.toList ((s[s.size - 1 - k].toNat : Int)).toNat.toUInt8 = (ixl s)[k] by
              rw [HG.out, Int.toNat_natCast, ixc]; congr 1; simp]
            go_wp2_with fail
            go_roundw
            case rel => exact ⟨k + 1, by omega, by go_num, hB.setCell (p := ⟨w.heap.size, k, none⟩) (Nat.le_refl _) _, HST.out⟩
            case measure => simp [intOf]; omega
          · have hkn : k = s.size := by omega
            subst hkn
            have hO : wr.ownsRow w.heap.size 3 1 (.slice (some ⟨w.heap.size, 0, none⟩) s.size s.size) (ixl s).length (intsOf (ixl s)) := by
              rw [hll]
              rw [List.take_of_length_le (by omega)] at hown; simpa using hown
            clear hown
            have HO := Lib.hid hO; clear hO
            have HC := Lib.hid (implDigitsOk_any _ (ixl s) b wr (RowAt.of_owns HO.out) (by omega) ixl_in HB.out)
            cases hok : okD (ixl s) b
            · rw [hok] at HC
              obtain ⟨p1, p0⟩ := par_no HZ.out HE.out hok
              have H1 := Lib.hid p1
              have H0 := Lib.hid p0
              clear p1 p0 hok
              go_wp2_with (go_at_call 20; refine HC.out.mono ?_; rintro e w1 ⟨rfl, rfl⟩)
              go_ret2
              exact ⟨_, by rw [H1.out]; rfl, by rw [H0.out]; exact World.ownsRow_nil _ _ _ _, hB⟩
            · rw [hok] at HC
              obtain ⟨p1, p0⟩ := par_yes HZ.out HE.out hok
              have H1 := Lib.hid p1
              have H0 := Lib.hid p0
              clear p1 p0 hok
              go_wp2_with (go_at_call 20; refine HC.out.mono ?_; rintro e w1 ⟨rfl, rfl⟩)
              go_ret2
              exact ⟨_, by rw [H1.out]; rfl, by rw [H0.out]; exact HO.out, hB⟩

end Go.Proofs.Ytdflpocnfodbhaa
