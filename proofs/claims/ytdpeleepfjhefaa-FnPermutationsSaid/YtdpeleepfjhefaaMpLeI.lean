/- Permutations: the program's Lehmer digits, test and rank. -/
import Derived.Test.YtdpeleepfjhefaaLgMul
import Derived.Test.YtdpeleepfjhefaaMpAt
import Derived.Test.YtdpeleepfjhefaaMpFac
import Derived.Test.YtdpeleepfjhefaaMxI0
import Derived.WalkSpells
set_option linter.unusedVariables false
set_option linter.unusedSimpArgs false
set_option maxRecDepth 100000
namespace Go.Proofs.Ytdpeleepfjhefaa
open Go.ChangeShapes Go.WideShapes Go.ChangeAt Go.RowKit

theorem perm_of_sub : ∀ (t R : List Int), t.Nodup → (∀ x ∈ t, x ∈ R) → t.length = R.length → t.Perm R
  | [], R, _, _, hl => by
    have : R = [] := List.eq_nil_of_length_eq_zero hl.symm
    rw [this]
  | x :: t, R, hn, hs, hl => by
    obtain ⟨h1, h2⟩ := List.nodup_cons.1 hn
    have hx := hs x (by simp)
    have hle : (R.erase x).length = R.length - 1 := List.length_erase_of_mem hx
    have ih := perm_of_sub t (R.erase x) h2 (fun y hy => (List.mem_erase_of_ne (fun e => h1 (by rw [← e]; exact hy))).2 (hs y (by simp [hy]))) (by rw [hle, ← hl]; simp)
    exact (ih.cons x).trans (List.perm_cons_erase hx).symm
theorem okP_perm {l : List Int} (h : okP l = true) : l.Perm (iot l.length) := by
  obtain ⟨h1, h2, h3, h4⟩ := okP_yes h
  refine perm_of_sub l _ h4 (fun x hx => ?_) (iot_len _).symm
  have := h3 x hx
  unfold iot
  exact List.mem_map.2 ⟨x.toNat, List.mem_range.2 (by omega), by omega⟩

/-- what is left when k items were taken -/
def LeftOf (l R : List Int) (k : Nat) : Prop := Asc R ∧ (l.take k ++ R).Perm (iot l.length)
theorem left_start (l : List Int) : LeftOf l (iot l.length) 0 := ⟨iot_asc _, by simp⟩
theorem left_len {l R : List Int} {k : Nat} (h : LeftOf l R k) (hk : k ≤ l.length) : R.length = l.length - k := by
  have := h.2.length_eq
  rw [List.length_append, List.length_take, iot_len] at this
  omega
theorem left_perm {l R : List Int} {k : Nat} (h : LeftOf l R k) (hp : l.Perm (iot l.length)) : R.Perm (l.drop k) := by
  have h1 : (l.take k ++ R).Perm (l.take k ++ l.drop k) := by rw [List.take_append_drop]; exact h.2.trans hp.symm
  exact (List.perm_append_left_iff _).1 h1
theorem left_next {l R : List Int} {k : Nat} (h : LeftOf l R k) (hk : k < l.length) (hx : l[k] ∈ R) : LeftOf l (R.eraseIdx (cntL l[k] R)) (k + 1) ∧ cntL l[k] R < R.length := by
  obtain ⟨i1, i2, i3⟩ := asc_find h.1 hx
  refine ⟨⟨asc_erase h.1 _, ?_⟩, i1⟩
  rw [i3, List.take_succ_eq_append_getElem hk, List.append_assoc]
  exact (((List.perm_cons_erase hx).symm).append_left _).trans h.2
theorem left_digit {l R : List Int} {k : Nat} (h : LeftOf l R k) (hk : k < l.length) (hp : l.Perm (iot l.length)) : (leh l).drop (l.length - (k + 1)) = (cntL l[k] R : Int) :: (leh l).drop (l.length - k) := by
  have hl := leh_len l
  have hi : l.length - (k + 1) < (leh l).length := by omega
  rw [List.drop_eq_getElem_cons hi, show l.length - (k + 1) + 1 = l.length - k by omega]
  have h1 := leh_at l k hk (by omega)
  have e : (leh l)[l.length - (k + 1)] = (leh l)[l.length - 1 - k]'(by omega) := by congr 1; omega
  rw [e, h1, cntL_perm (left_perm h hp), List.drop_eq_getElem_cons hk, cntL_cons, if_neg (by omega)]; rfl
theorem left_done {l R : List Int} (h : LeftOf l R l.length) : l.Perm (iot l.length) := by
  have hR := left_len h (Nat.le_refl _)
  have : R = [] := List.eq_nil_of_length_eq_zero (by omega)
  have h2 := h.2
  rw [this, List.take_length, List.append_nil] at h2
  exact h2
theorem fill8_rev (o : List Int) (x : Int) {n k : Nat} (hk : k < n) (ho : o.length = k) : (List.replicate (n - k) 0 ++ o).set (n - 1 - k) x = List.replicate (n - (k + 1)) 0 ++ (x :: o) := by
  obtain ⟨m, hm⟩ : ∃ m, n - k = m + 1 := ⟨n - k - 1, by omega⟩
  rw [hm, show n - 1 - k = m by omega, show n - (k + 1) = m by omega, List.set_append_left _ _ (by simp)]
  have : (List.replicate (m + 1) (0 : Int)).set m x = List.replicate m 0 ++ [x] := by
    rw [List.replicate_succ', List.set_append_right _ _ (by simp)]
    simp
  rw [this]; simp
theorem fill8_zero (o : List Int) {n k : Nat} (hk : k < n) : (List.replicate (n - k) (0 : Int) ++ o)[n - 1 - k]? = some 0 := by
  rw [List.getElem?_append_left (by simp; omega), List.getElem?_replicate, if_pos (by omega)]

set_option maxHeartbeats 8000000 in
/-- the digits; nil where the list is no permutation -/
theorem lehmer_any (v : Value) (l : List Int) (w : World) (hr : RowAt w v (intsOf l)) (hl : l.length ≤ 1048577) :
    Calls Try.prog 15 #[v] w fun e w' => ∃ v', e = .returned v' ∧ w'.ownsRow w.heap.size 3 1 v' (rLehmerOf0 l).length (intsOf (rLehmerOf0 l)) ∧ Below w.heap.size w w' ∧ (okP l = false → v' = .slice none 0 0) := by
  obtain ⟨i0, hi, hz0, hz1, hz2⟩ := info_parts infoInt
  have HS := Lib.hid (fun W => itemCount_any (l.length : Int) W ⟨by omega, by omega⟩)
  have HNO := Lib.hid (fun w' (hB : Below w.heap.size w w') (h : okP l = false) => show ∃ v', Ending.returned (.slice none 0 0) = .returned v' ∧ w'.ownsRow w.heap.size 3 1 v' (rLehmerOf0 l).length (intsOf (rLehmerOf0 l)) ∧ Below w.heap.size w w' ∧ (okP l = false → v' = .slice none 0 0) from by
    refine ⟨_, rfl, ?_, hB, fun _ => rfl⟩
    rw [rLehmerOf0, h]; exact World.ownsRow_nil _ _ _ _)
  obtain ⟨a, cap, rfl, h1, h2, h3⟩ := hr.ints
  unfold maxLen at h2
  clear hr
  cases h : inB (l.length : Int) 1 8
  · rw [h] at HS
    have HK := Lib.hid (okP_len h)
    clear h h3
    go_enter Try.func15, Try.ntmps15
    go_wp2_with fail
    refine (HS.out _).mono ?_
    rintro e w' ⟨rfl, rfl⟩
    go_wp2_with fail
    go_ret
    exact HNO.out _ (Below.refl _ _) HK.out
  · rw [h] at HS
    obtain ⟨n1, n8⟩ := inB_yes h
    clear h
    have HLI := Lib.hid (fun W => linked_any l.length W (by omega))
    have HCB := Lib.hid (fun W (A Z s : Nat) (R : List Int) x (h : Items W A Z s R) (hR : R.length ≤ 8) (ha : Asc R) => countBefore_any W A Z s R x h hR ha)
    have HTK := Lib.hid (fun W (A Z s : Nat) (R : List Int) k (h : Items W A Z s R) (hR : R.length ≤ 8) (hk : k < R.length) => take_any W A Z s R k h hR hk)
    have HST := Lib.hid (left_start l)
    go_enter Try.func15, Try.ntmps15
    go_wp2_with fail
    refine (HS.out _).mono ?_
    rintro e w' ⟨rfl, rfl⟩
    go_wp2_with fail
    refine (HLI.out _).mono ?_
    rintro e w1 ⟨rfl, hI1, hB1⟩
    have hsz1 := hB1.size
    have HI1 := Lib.hid hI1
    have HB1 := Lib.hid hB1
    clear hI1 hB1
    go_wp2_with (at_make; refine wpList_make_full _ rfl _ _ 23 rfl w1.heap.size 3 i0 (.int .i64 0) 1 Try.underlying23 hi hz0 hz1 _ _ _ _ l.length rfl rfl rfl rfl ?c1 ?c2 ?c3 ?_)
    case c1 => rw [hz2]; omega
    case c2 => unfold maxLen; omega
    case c3 => exact Nat.le_refl _
    intro w2 hown hgrow
    have hown2 : w2.ownsRow w1.heap.size 3 1 (.slice (some ⟨w1.heap.size, 0, none⟩) l.length l.length) l.length (intsOf (List.replicate (l.length - 0) 0 ++ [])) := by
      rw [toList_madeCells_one] at hown; simpa [intsOf] using hown
    have hB2 : Below w1.heap.size w1 w2 := (Below.refl _ _).grown hgrow (Nat.le_refl _) (fun k hk => by cases hk)
    have hs2 := hB2.size
    have HB2 := Lib.hid (HB1.out.trans (hB2.mono hsz1))
    have HI2 := Lib.hid (HI1.out.below hB2 (Nat.le_refl _))
    have HO2 := Lib.hid hown2
    clear hown hgrow hown2 hB2
    go_wp2_with fail
    go_loopw [21] (fun i wr => ∃ (k : Nat) (R ds : List Int), k ≤ l.length ∧ i = .int .i64 k ∧ Below w.heap.size w wr ∧ w1.heap.size ≤ wr.heap.size ∧ Items wr w.heap.size w1.heap.size w.heap.size R ∧ LeftOf l R k ∧ wr.ownsRow w1.heap.size 3 1 (.slice (some ⟨w1.heap.size, 0, none⟩) l.length l.length) l.length (intsOf (List.replicate (l.length - k) 0 ++ ds)) ∧ ds.length = k ∧ (l.Perm (iot l.length) → ds = (leh l).drop (l.length - k))) (fun i _ => l.length - (intOf i).toNat)
    case atStart => exact ⟨0, iot l.length, [], Nat.zero_le _, rfl, HB2.out, hs2, HI2.out, HST.out, HO2.out, rfl, fun _ => by rw [Nat.sub_zero, List.drop_of_length_le (by rw [leh_len]; exact Nat.le_refl _)]⟩
    case round =>
      obtain ⟨k, R, ds, hk, rfl, hB, hsr, hI, hL, hown, hdl, hds⟩ := hrel
      have hRl := left_len hL hk
      have HL := Lib.hid hL
      have HDS := Lib.hid hds
      have HI := Lib.hid hI
      have HB := Lib.hid hB
      clear hL hds hI hB HI2 HO2 HB2
      by_cases hlt : k < l.length
      · obtain ⟨b', off, rfl, hbb, hcell⟩ := h3.resolve_left (fun e => by rw [e] at hlt; simp at hlt)
        have hc := (HB.out.cell (p := ⟨b', off + k, none⟩) hbb).trans (hcell k hlt)
        have HC := Lib.hid (HCB.out wr _ _ _ R l[k] HI.out (by omega) HL.out.1)
        by_cases hx : l[k] ∈ R
        · have HNX := Lib.hid (left_next HL.out hlt hx)
          have HDG := Lib.hid (fun hp => left_digit HL.out hlt hp)
          rw [if_pos hx, decide_eq_true hx] at HC
          have HT := Lib.hid (HTK.out wr _ _ _ R _ HI.out (by omega) HNX.out.2)
          have hcl := HNX.out.2
          obtain ⟨c, hce⟩ : ∃ c, c = cntL l[k] R := ⟨_, rfl⟩
          rw [← hce] at HNX HDG HC HT hcl
          obtain ⟨x, hxe⟩ : ∃ x, x = l[k] := ⟨_, rfl⟩
          rw [← hxe] at hc HC
          obtain ⟨g, hg⟩ : ∃ g, g = R.getD c 0 := ⟨_, rfl⟩
          rw [← hg] at HT
          have q1 : IntKind.i64.wrap ((l.length : Int) - 1) = (l.length : Int) - 1 := by rw [IntKind.wrap_i64]; omega
          have q2 : ((l.length : Int) - 1 - k) = ((l.length - 1 - k : Nat) : Int) := by omega
          obtain ⟨j, hj⟩ : ∃ j, j = l.length - 1 - k := ⟨_, rfl⟩
          rw [← hj] at q2
          have hjl : j < l.length := by omega
          have hjl' : (j : Int) < l.length := by omega
          have HO := Lib.hid hown
          have HJ := Lib.hid hj
          clear hown hx hce hxe hg h3 hcell hj hRl
          go_wp2_with (go_at_call 43; refine HC.out.mono ?_; rintro e w' ⟨rfl, rfl⟩)
          refine HT.out.mono ?_
          rintro e w4 ⟨rfl, b, hb, ⟨u, hw4⟩, hI4⟩
          have hB4 : Below w.heap.size w w4 := by rw [hw4]; exact HB.out.setCell (p := ⟨b, 1, none⟩) hb.1 u
          have hs4 : w4.heap.size = wr.heap.size := by rw [hw4]; simp
          have hown4 : w4.ownsRow w1.heap.size 3 1 (.slice (some ⟨w1.heap.size, 0, none⟩) l.length l.length) l.length (intsOf (List.replicate (l.length - k) 0 ++ ds)) := by
            rw [hw4]; exact owns_setOffM HO.out ⟨b, 1, none⟩ u (fun e => by simp [Value.ownBlock] at e; omega)
          have hcp : w4.cell? ⟨w1.heap.size, j, none⟩ = some (.int .i64 0) := by
            rw [hown4.cellAt j (by omega)]
            have := fill8_zero ds hlt
            rw [← HJ.out] at this
            simp only [intsOf, List.getElem?_map, this]; rfl
          have hfp : w4.frozen? ⟨w1.heap.size, j, none⟩ = false := hown4.frozenAt j
          have hsd := (hown4.stored j (.int .i64 c)).1
          rw [intsOf_set, HJ.out, fill8_rev ds c hlt hdl, ← HJ.out] at hsd
          have HSD := Lib.hid hsd
          have HI5 := Lib.hid (hI4.other (w' := w4.setCell ⟨w1.heap.size, j, none⟩ (.int .i64 c)) (fun b _ h2 => Below.heap_setCell w4 ⟨w1.heap.size, j, none⟩ _ b (fun e => by have e' : b = w1.heap.size := e; omega)))
          have HB5 := Lib.hid (hB4.setCell (p := ⟨w1.heap.size, j, none⟩) hsz1 (.int .i64 c))
          have HD5 := Lib.hid (show l.Perm (iot l.length) → (c : Int) :: ds = (leh l).drop (l.length - (k + 1)) from fun hp => by rw [HDG.out hp, HDS.out hp])
          have hs5 : w1.heap.size ≤ w4.heap.size := by omega
          have HS4 := Lib.hid hs4
          have HW4 := Lib.hid hw4
          clear hsd hown4 hB4 hI4 hb hs4 hw4
          go_wp2_with fail
          go_roundw
          case rel => exact ⟨k + 1, _, c :: ds, hlt, by go_num, HB5.out, by simpa using hs5, HI5.out, HNX.out.1, HSD.out, by simp [hdl], HD5.out⟩
          case measure => simp [intOf]; omega
        · have HNP := Lib.hid (show okP l = false by
            cases e : okP l
            · rfl
            · have := (left_perm HL.out (okP_perm e)).symm.subset (a := l[k]) (by rw [List.drop_eq_getElem_cons hlt]; exact List.mem_cons_self)
              exact absurd this hx)
          rw [if_neg hx, decide_eq_false hx] at HC
          obtain ⟨x, hxe⟩ : ∃ x, x = l[k] := ⟨_, rfl⟩
          rw [← hxe] at hc HC
          clear hown hx hxe h3 hcell hRl
          go_wp2_with (go_at_call 43; refine HC.out.mono ?_; rintro e w' ⟨rfl, rfl⟩)
          go_ret
          exact HNO.out _ HB.out HNP.out
      · have hkl : k = l.length := by omega
        have HF := Lib.hid (show ∃ v', Ending.returned (.slice (some ⟨w1.heap.size, 0, none⟩) l.length l.length) = .returned v' ∧ wr.ownsRow w.heap.size 3 1 v' (rLehmerOf0 l).length (intsOf (rLehmerOf0 l)) ∧ Below w.heap.size w wr ∧ (okP l = false → v' = .slice none 0 0) from by
          have hL := HL.out
          have hD := HDS.out
          rw [hkl] at hL hD hown
          have hp := left_done hL
          have hok := perm_okP hp (by omega) (by omega)
          rw [Nat.sub_self, List.replicate_zero, List.nil_append, hD hp, Nat.sub_self, List.drop_zero] at hown
          refine ⟨_, rfl, ?_, HB.out, fun h => by rw [hok] at h; simp at h⟩
          rw [rLehmerOf0, hok, if_pos rfl, leh_len]
          exact owns_mono hown (by omega))
        have hn9 : ¬ (k : Int) < l.length := by omega
        clear hown h3 hRl
        go_wp2_with fail
        go_ret
        exact HF.out

theorem implLehmerOf_any (v : Value) (l : List Int) (w : World) (hr : RowAt w v (intsOf l)) (hl : l.length ≤ 1048576) (hi : ∀ n ∈ l, in64 n) :
    Calls Try.prog 15 #[v] w fun e w' => ∃ v', e = .returned v' ∧ w'.ownsRow w.heap.size 3 1 v' (rLehmerOf0 l).length (intsOf (rLehmerOf0 l)) ∧ Below w.heap.size w w' := by
  refine (lehmer_any v l w hr (by omega)).mono ?_
  rintro e w' ⟨v', h1, h2, h3, _⟩
  exact ⟨v', h1, h2, h3⟩

/-- an owned row with an element is not nil -/
theorem owns_some8 {w : World} {base : Nat} {e : TypeId} {v : Value} {n : Nat} {xs : List Value} (h : w.ownsRow base e 1 v n xs) (hn : 1 ≤ n) : ∃ p cap, v = .slice (some p) n cap := by
  rcases h.2 with ⟨rfl, h0⟩ | ⟨g, cap, cur, rfl, _⟩
  · omega
  · exact ⟨_, _, rfl⟩

theorem implPermutationOk_any (v : Value) (l : List Int) (w : World) (hr : RowAt w v (intsOf l)) (hl : l.length ≤ 1048576) (hi : ∀ n ∈ l, in64 n) :
    Calls Try.prog 16 #[v] w fun e w' => e = .returned (.bool (rPermutationOk0 l)) ∧ Below w.heap.size w w' := by
  have HC := Lib.hid (lehmer_any v l w hr (by omega))
  obtain ⟨a, cap, rfl, h1, h2, h3⟩ := hr.ints
  clear h3 hr hi
  cases h : okP l
  · have HK := Lib.hid (show rPermutationOk0 l = false from h)
    have HH := Lib.hid h
    clear h
    go_enter Try.func16, Try.ntmps16
    go_wp2_with fail
    refine HC.out.mono ?_
    rintro e w1 ⟨v1, rfl, hO, hB, hv⟩
    obtain rfl := hv HH.out
    have q1 := run_neq_slice_nil_any (P := Try.prog) w1 23 3 none 0 0 0 0 Try.underlying23
    clear hO hv
    go_wp2_with fail
    go_ret
    exact ⟨by rw [HK.out]; rfl, hB⟩
  · have HK := Lib.hid (show rPermutationOk0 l = true from h)
    have HLn := Lib.hid (show 1 ≤ (rLehmerOf0 l).length by
      have := okP_yes h
      rw [rLehmerOf0, h, if_pos rfl, leh_len]; omega)
    clear h
    go_enter Try.func16, Try.ntmps16
    go_wp2_with fail
    refine HC.out.mono ?_
    rintro e w1 ⟨v1, rfl, hO, hB, hv⟩
    obtain ⟨p, cp, rfl⟩ := owns_some8 hO HLn.out
    have q1 := run_neq_slice_nil_any (P := Try.prog) w1 23 3 (some p) (rLehmerOf0 l).length cp 0 0 Try.underlying23
    clear hO hv
    go_wp2_with fail
    go_ret
    exact ⟨by rw [HK.out]; rfl, hB⟩

theorem implRankOf_any (v : Value) (l : List Int) (w : World) (hr : RowAt w v (intsOf l)) (hl : l.length ≤ 1048576) (hi : ∀ n ∈ l, in64 n) :
    Calls Try.prog 14 #[v] w fun e w' => e = .returned (.int .i64 (rRankOf0 l)) ∧ Below w.heap.size w w' := by
  have HC := Lib.hid (lehmer_any v l w hr (by omega))
  have HE := Lib.hid (show rFactorialValue0 (rLehmerOf0 l) = rRankOf0 l by
    cases h : okP l
    · rw [rLehmerOf0, rRankOf0, h]; rfl
    · have h8 := leh_okD8 h
      rw [rLehmerOf0, rRankOf0, h, if_pos rfl, if_pos rfl, rFactorialValue0, h8, if_pos rfl, leh_len])
  have HV := Lib.hid (fun v1 W (h : RowAt W v1 (intsOf (rLehmerOf0 l))) => implFactorialValue_any v1 _ W h (by
    cases h : okP l
    · rw [rLehmerOf0, h]; simp
    · have := okP_yes h
      rw [rLehmerOf0, h, if_pos rfl, leh_len]; omega) (fun n hn => by
    cases h : okP l
    · rw [rLehmerOf0, h] at hn; simp at hn
    · rw [rLehmerOf0, h, if_pos rfl] at hn
      have := leh_bits h n hn
      exact ⟨by omega, by omega⟩))
  obtain ⟨a, cap, rfl, h1, h2, h3⟩ := hr.ints
  obtain ⟨L, hLe⟩ : ∃ L, L = rLehmerOf0 l := ⟨_, rfl⟩
  rw [← hLe] at HE HV HC
  clear h3 hr hi hLe
  go_enter Try.func14, Try.ntmps14
  go_wp2_with fail
  refine HC.out.mono ?_
  rintro e w1 ⟨v1, rfl, hO, hB, hv⟩
  have HVV := Lib.hid (HV.out v1 w1 (RowAt.of_owns hO))
  obtain ⟨av, cv, e3, _, _⟩ := owns_form hO
  subst e3
  clear hO hv
  go_wp2_with fail
  refine HVV.out.mono ?_
  rintro e w2 ⟨rfl, hB2⟩
  go_wp2_with fail
  go_ret
  exact ⟨by rw [HE.out]; rfl, hB.trans (hB2.mono hB.size)⟩

end Go.Proofs.Ytdpeleepfjhefaa
