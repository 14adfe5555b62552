/- Balanced digits: the program's reading of a text. -/
import Derived.Test.YtdflpocnfodbhacBaParse
import Derived.Test.YtdflpocnfodbhacBaI1b
import Derived.Test.YtdflpocnfodbhacShelf
set_option linter.unusedVariables false
set_option linter.unusedSimpArgs false
set_option maxRecDepth 100000
namespace Go.Proofs.Ytdflpocnfodbhac
open Go.ChangeShapes Go.WideShapes Go.ChangeAt Go.RowKit

/-- where a character stands, or -1 -/
def ix3 (c : UInt8) : Int := Lib.indexByte [45, 48, 43] c
/-- the program's digit of a character, or -2 -/
def ixB (c : UInt8) : Int := ix3 c + -1
theorem ixB_fin : ∀ k : Fin 256, -1 ≤ ix3 (UInt8.ofNat k.1) ∧ ix3 (UInt8.ofNat k.1) ≤ 2 ∧ (ixB (UInt8.ofNat k.1) ≠ -2 → ixB (UInt8.ofNat k.1) = rdcB k.1 ∧ sgB (rdcB k.1) = UInt8.ofNat k.1) ∧ (sgB (rdcB k.1) = UInt8.ofNat k.1 → ixB (UInt8.ofNat k.1) = rdcB k.1) := by decide +kernel
theorem ixB_eq (c : UInt8) : -1 ≤ ix3 c ∧ ix3 c ≤ 2 ∧ (ixB c ≠ -2 → ixB c = rdcB c.toNat ∧ sgB (rdcB c.toNat) = c) ∧ (sgB (rdcB c.toNat) = c → ixB c = rdcB c.toNat) := by
  have h := ixB_fin ⟨c.toNat, c.toNat_lt⟩
  simpa using h

/-- the program's list, from the last character on -/
def ixlB (s : ByteArray) : List Int := (s.data.toList.map ixB).reverse
theorem ixlB_length (s : ByteArray) : (ixlB s).length = s.size := by
  simp only [ixlB, List.length_reverse, List.length_map, Array.length_toList]; rfl
theorem ixlB_get {s : ByteArray} {k : Nat} (h : k < (ixlB s).length) (hk : s.size - 1 - k < s.size) : (ixlB s)[k] = ixB s[s.size - 1 - k] := by
  simp only [ixlB, List.getElem_reverse, List.getElem_map, List.length_map]
  congr 1
theorem ixlB_in {s : ByteArray} : ∀ d ∈ ixlB s, in64 d := by
  intro d hd
  simp only [ixlB, List.mem_reverse, List.mem_map] at hd
  obtain ⟨c, _, rfl⟩ := hd
  obtain ⟨h1, h2, _⟩ := ixB_eq c
  unfold ixB in64; omega
theorem rdlB_zero (s : ByteArray) : rdlB s 0 = (s.data.toList.map fun c => rdcB c.toNat).reverse := rfl

theorem mapB_same : ∀ l : List UInt8, (∀ d ∈ l.map ixB, -1 ≤ d) → l.map ixB = l.map (fun c => rdcB c.toNat) ∧ (l.map fun c => rdcB c.toNat).map sgB = l
  | [], _ => ⟨rfl, rfl⟩
  | c :: l, h => by
    obtain ⟨i1, i2⟩ := mapB_same l (fun d hd => h d (List.mem_cons_of_mem _ hd))
    have hc := h (ixB c) (by simp)
    obtain ⟨e1, e2⟩ := (ixB_eq c).2.2.1 (by omega)
    simp only [List.map_cons]
    rw [e1, i1, e2, i2]
    exact ⟨rfl, rfl⟩
theorem mapB_back : ∀ l : List UInt8, (l.map fun c => rdcB c.toNat).map sgB = l → l.map ixB = l.map (fun c => rdcB c.toNat)
  | [], _ => rfl
  | c :: l, h => by
    simp only [List.map_cons] at h
    injection h with h1 h2
    have i1 := mapB_back l h2
    have e1 := (ixB_eq c).2.2.2 h1
    simp only [List.map_cons]
    rw [e1, i1]

theorem fmtB_size (l : List Int) : (rFormatBalanced0 l).size ≤ 60 ∧ (okW l 3 = false → rFormatBalanced0 l = bs []) := by
  rw [rFormatBalanced0]
  cases h : okW l 3
  · exact ⟨by simp [bs_size], fun _ => rfl⟩
  · obtain ⟨_, _, _, _, _, h6⟩ := okW_yes h
    refine ⟨?_, fun e => by cases e⟩
    simp only [if_true]
    split
    · rw [bs_size]; simp
    · rw [bs_size, txtB_length]; exact h6

theorem parB_yes {s : ByteArray} (hz : s ≠ bs [48]) (he : s ≠ bs []) (h : okW (ixlB s) 3 = true) : rParseBalanced1 s = true ∧ rParseBalanced0 s = ixlB s := by
  obtain ⟨g, hbe, _, _, hN, _⟩ := okW_yes h
  obtain rfl : g = 1 := by omega
  obtain ⟨e1, e2⟩ := mapB_same s.data.toList (fun d hd' => by have := hN.1 d (by rw [ixlB]; exact List.mem_reverse.2 hd'); omega)
  have hl : rdlB s 0 = ixlB s := by rw [rdlB_zero, ixlB, e1]
  have hp : pdlB s = ixlB s := by rw [pdlB, if_neg hz, hl]
  have hne : ixlB s ≠ [] := fun e => he (by
    have := ixlB_length s
    rw [e] at this
    apply bs_ext
    rw [data_bs]
    exact List.eq_nil_of_length_eq_zero (by rw [size_data]; exact this.symm))
  have hf : rFormatBalanced0 (ixlB s) = s := by
    rw [rFormatBalanced0, if_pos h, if_neg hne]
    apply bs_ext
    rw [data_bs, txtB, ← hl, rdlB_zero, List.map_reverse, List.reverse_reverse, e2]
  have h1 : rParseBalanced1 s = true := by
    rw [rParseBalanced1, hp, decide_eq_true he, decide_eq_true hf]; rfl
  exact ⟨h1, by rw [rParseBalanced0, h1, if_pos rfl, hp]⟩

theorem parB_no {s : ByteArray} (hz : s ≠ bs [48]) (he : s ≠ bs []) (h : okW (ixlB s) 3 = false) : rParseBalanced1 s = false ∧ rParseBalanced0 s = [] := by
  have h1 : rParseBalanced1 s = false := by
    rw [rParseBalanced1, pdlB, if_neg hz, decide_eq_true he, Bool.true_and]
    refine decide_eq_false fun hf => ?_
    cases hk : okW (rdlB s 0) 3
    · rw [(fmtB_size _).2 hk] at hf
      exact he hf.symm
    · rw [rFormatBalanced0, if_pos hk] at hf
      by_cases hn : rdlB s 0 = []
      · rw [if_pos hn] at hf; exact hz hf.symm
      · rw [if_neg hn] at hf
        have e := congrArg (fun x : ByteArray => x.data.toList) hf
        rw [data_bs, txtB, rdlB_zero, List.map_reverse, List.reverse_reverse] at e
        have e1 := mapB_back s.data.toList e
        have : ixlB s = rdlB s 0 := by rw [rdlB_zero, ixlB, e1]
        rw [this, hk] at h; cases h
  exact ⟨h1, by rw [rParseBalanced0, h1]; rfl⟩

theorem parB_long {s : ByteArray} (h : 60 < s.size) : rParseBalanced1 s = false ∧ rParseBalanced0 s = [] := by
  have h1 : rParseBalanced1 s = false := by
    have : rFormatBalanced0 (pdlB s) ≠ s := fun e => by
      have := (fmtB_size (pdlB s)).1
      rw [e] at this; omega
    rw [rParseBalanced1, decide_eq_false this, Bool.and_false]
  exact ⟨h1, by rw [rParseBalanced0, h1]; rfl⟩
theorem parB_empty : rParseBalanced1 (bs []) = false ∧ rParseBalanced0 (bs []) = [] := by
  have h1 : rParseBalanced1 (bs []) = false := by rw [rParseBalanced1, decide_eq_false (fun h => h rfl), Bool.false_and]
  exact ⟨h1, by rw [rParseBalanced0, h1]; rfl⟩
theorem parB_zero : rParseBalanced1 (bs [48]) = true ∧ rParseBalanced0 (bs [48]) = [] := by
  have hp : pdlB (bs [48]) = [] := by rw [pdlB, if_pos rfl]
  have hk : okW [] 3 = true := by decide
  have h1 : rParseBalanced1 (bs [48]) = true := by
    rw [rParseBalanced1, hp, rFormatBalanced0, hk, if_pos rfl, if_pos rfl, decide_eq_true rfl, Bool.and_true]
    refine decide_eq_true fun e => ?_
    have := congrArg ByteArray.size e
    rw [bs_size, bs_size] at this; simp at this
  exact ⟨h1, by rw [rParseBalanced0, hp]; split <;> rfl⟩

set_option maxHeartbeats 2000000 in
theorem implParseBalanced_any (s : ByteArray) (w : World) (hs : s.size ≤ 1048576) :
    Calls Try.prog 28 #[.string s] w fun e w' => ∃ v, e = .returned (.tuple #[v, .bool (rParseBalanced1 s)]) ∧ w'.ownsRow w.heap.size 3 1 v (rParseBalanced0 s).length (intsOf (rParseBalanced0 s)) ∧ Below w.heap.size w w' := by
  have H3 := Lib.hid (show in64 3 by unfold in64; omega)
  by_cases hz : s = bs [48]
  · have h48 : (s.toList == [48]) = true := by rw [hz, ByteArray.toList_eq, data_bs]; rfl
    obtain ⟨p1, p0⟩ := parB_zero
    have H1 := Lib.hid (show rParseBalanced1 s = true by rw [hz]; exact p1)
    have H0 := Lib.hid (show rParseBalanced0 s = [] by rw [hz]; exact p0)
    clear hz p0 p1
    go_enter Try.func28, Try.ntmps28
    go_wp2
    go_ret2
    exact ⟨_, by rw [H1.out]; rfl, by rw [H0.out]; exact World.ownsRow_nil _ _ _ _, Below.refl _ _⟩
  · have h48 : (s.toList == [48]) = false := by
      have e := str_beq_no hz
      rwa [show (bs [48]).toList = [48] by rw [ByteArray.toList_eq, data_bs]] at e
    by_cases he : s = bs []
    · have hE : s.toList = [] := by rw [he, ByteArray.toList_eq, data_bs]
      obtain ⟨p1, p0⟩ := parB_empty
      have H1 := Lib.hid (show rParseBalanced1 s = false by rw [he]; exact p1)
      have H0 := Lib.hid (show rParseBalanced0 s = [] by rw [he]; exact p0)
      clear he hz p0 p1 h48
      go_enter Try.func28, Try.ntmps28
      go_wp2
      go_ret2
      exact ⟨_, by rw [H1.out]; rfl, by rw [H0.out]; exact World.ownsRow_nil _ _ _ _, Below.refl _ _⟩
    · have hnE : s.toList.isEmpty = false := by
        rw [ByteArray.toList_eq]
        cases e : s.data.toList with
        | nil => exact absurd (by rw [← bs_data s, e]) he
        | cons => rfl
      by_cases hl : 60 < s.size
      · obtain ⟨p1, p0⟩ := parB_long hl
        have H1 := Lib.hid p1
        have H0 := Lib.hid p0
        clear he hz p0 p1
        go_enter Try.func28, Try.ntmps28
        go_wp2
        go_ret2
        exact ⟨_, by rw [H1.out]; rfl, by rw [H0.out]; exact World.ownsRow_nil _ _ _ _, Below.refl _ _⟩
      · have hl' : s.size ≤ 60 := by omega
        have HZ := Lib.hid hz; have HE := Lib.hid he
        clear hz he
        have hll := ixlB_length s
        obtain ⟨n, hn⟩ : ∃ n, n = s.size := ⟨_, rfl⟩
        have HN := Lib.hid hn
        obtain ⟨i0, hi, hz0, hz1, hz2⟩ := info_parts infoInt
        clear hn
        go_enter Try.func28, Try.ntmps28
        go_wp2_with (at_make; refine wpList_make_full _ rfl _ _ 22 rfl w.heap.size 3 i0 (.int .i64 0) 1 Try.underlying22 hi hz0 hz1 _ _ _ _ s.size rfl rfl rfl rfl ?c1 ?c2 ?c3 ?_)
        case c1 => rw [hz2]; omega
        case c2 => unfold maxLen; omega
        case c3 => exact Nat.le_refl _
        intro w1 hown hgrow
        have hown1 : w1.ownsRow w.heap.size 3 1 (.slice (some ⟨w.heap.size, 0, none⟩) s.size s.size) s.size (intsOf ((ixlB s).take 0) ++ List.replicate (s.size - 0) (.int .i64 0)) := by
          rw [toList_madeCells_one] at hown; simpa [intsOf] using hown
        have hB1 : Below w.heap.size w w1 := (Below.refl _ _).grown hgrow (Nat.le_refl _) (fun k hk => by cases hk)
        clear hown hgrow
        go_wp2
        go_loopw [20] (fun i wr => ∃ k : Nat, k ≤ s.size ∧ i = .int .i64 k ∧ Below w.heap.size w wr ∧ wr.ownsRow w.heap.size 3 1 (.slice (some ⟨w.heap.size, 0, none⟩) s.size s.size) s.size (intsOf ((ixlB s).take k) ++ List.replicate (s.size - k) (.int .i64 0))) (fun i _ => s.size - (intOf i).toNat)
        case atStart => exact ⟨0, Nat.zero_le _, rfl, hB1, hown1⟩
        case round =>
          obtain ⟨k, hk, rfl, hB, hown⟩ := hrel
          clear hown1 hB1
          by_cases hlt : k < s.size
          · have hlk : k < (ixlB s).length := by omega
            have hix : s.size - 1 - k < s.size := by omega
            have hg := ixlB_get hlk hix
            have hc2 : wr.cell? ⟨w.heap.size, k, none⟩ = some (.int .i64 0) := by
              rw [hown.cellAt k (by omega), List.getElem?_append_right (by simp [intsOf]; omega)]
              rw [show k - (intsOf ((ixlB s).take k)).length = 0 by simp [intsOf]; omega, List.getElem?_replicate, if_pos (by omega)]
            have hf2 : wr.frozen? ⟨w.heap.size, k, none⟩ = false := hown.frozenAt k
            have hst := (hown.stored k (.int .i64 (ixlB s)[k])).1
            have hset : (intsOf ((ixlB s).take k) ++ List.replicate (s.size - k) (Value.int .i64 0)).set k (Value.int .i64 (ixlB s)[k]) = intsOf ((ixlB s).take (k + 1)) ++ List.replicate (s.size - (k + 1)) (Value.int .i64 0) := by
              obtain ⟨m, hm⟩ : ∃ m, s.size - k = m + 1 := ⟨s.size - k - 1, by omega⟩
              have e1 := set_fill (intsOf ((ixlB s).take k)) (Value.int .i64 0) (Value.int .i64 (ixlB s)[k]) m
              rw [show (intsOf ((ixlB s).take k)).length = k by simp [intsOf]; omega] at e1
              rw [hm, e1, show s.size - (k + 1) = m by omega, intsOf_snoc hlk]
            rw [hset] at hst
            have HST := Lib.hid hst
            have HG := Lib.hid hg
            have hsub : (s.size : Int) - 1 - k = ((s.size - 1 - k : Nat) : Int) := by omega
            have HSUB := Lib.hid hsub
            clear hset hst hown hg hsub
            go_wp2_with fail
            refine (Try.strings_IndexByte _ _ wr).mono ?_
            rintro e w' ⟨rfl, rfl⟩
            obtain ⟨hi1, hi2, _, _⟩ := ixB_eq s[s.size - 1 - k]
            rw [show Lib.indexByte (⟨#[45, 48, 43]⟩ : ByteArray).data.toList ((s[s.size - 1 - k].toNat : Int)).toNat.toUInt8 = ix3 s[s.size - 1 - k] by
              rw [Int.toNat_natCast, ix3]; congr 1; simp]
            obtain ⟨x, hx⟩ : ∃ x, x = ix3 s[s.size - 1 - k] := ⟨_, rfl⟩
            rw [← hx] at hi1 hi2 ⊢
            have HXG := Lib.hid (show (ixlB s)[k] = x + -1 by rw [HG.out, ixB, hx])
            rw [HXG.out] at HST
            clear hx
            go_wp2_with fail
            go_roundw
            case rel => exact ⟨k + 1, by omega, by go_num, hB.setCell (p := ⟨w.heap.size, k, none⟩) (Nat.le_refl _) _, HST.out⟩
            case measure => simp [intOf]; omega
          · have hkn : k = s.size := by omega
            subst hkn
            have hO : wr.ownsRow w.heap.size 3 1 (.slice (some ⟨w.heap.size, 0, none⟩) s.size s.size) (ixlB s).length (intsOf (ixlB s)) := by
              rw [hll]
              rw [List.take_of_length_le (by omega)] at hown; simpa using hown
            clear hown
            have HO := Lib.hid hO; clear hO
            have HC := Lib.hid (implBal_eq _ (ixlB s) 3 wr (RowAt.of_owns HO.out) (by omega) ixlB_in H3.out)
            cases hok : okW (ixlB s) 3
            · rw [hok] at HC
              obtain ⟨p1, p0⟩ := parB_no HZ.out HE.out hok
              have H1 := Lib.hid p1
              have H0 := Lib.hid p0
              clear p1 p0 hok
              go_wp2_with (go_at_call 46; refine HC.out.mono ?_; rintro e w1 ⟨rfl, rfl⟩)
              go_ret2
              exact ⟨_, by rw [H1.out]; rfl, by rw [H0.out]; exact World.ownsRow_nil _ _ _ _, hB⟩
            · rw [hok] at HC
              obtain ⟨p1, p0⟩ := parB_yes HZ.out HE.out hok
              have H1 := Lib.hid p1
              have H0 := Lib.hid p0
              clear p1 p0 hok
              go_wp2_with (go_at_call 46; refine HC.out.mono ?_; rintro e w1 ⟨rfl, rfl⟩)
              go_ret2
              exact ⟨_, by rw [H1.out]; rfl, by rw [H0.out]; exact HO.out, hB⟩

end Go.Proofs.Ytdflpocnfodbhac
