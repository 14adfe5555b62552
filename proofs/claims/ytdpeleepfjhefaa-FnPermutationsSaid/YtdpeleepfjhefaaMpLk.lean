/- Permutations: the program's items that are left, each linked to the next greater one by a pointer. -/
import Derived.Test.YtdpeleepfjhefaaMpPerm
import Derived.Test.YtdpeleepfjhefaaCur
import Derived.Deep.LoopGhost
import Derived.Deep.RegionHeld3
import Derived.RangeFuncNested
set_option linter.unusedVariables false
set_option linter.unusedSimpArgs false
set_option maxRecDepth 100000
namespace Go.Proofs.Ytdpeleepfjhefaa
open Go.ChangeShapes Go.WideShapes Go.ChangeAt Go.RowKit

/-- the pointer p leads to items in the blocks bs, with the numbers l -/
def Chain (w : World) : Option Addr → List Nat → List Int → Prop
  | p, [], [] => p = none
  | p, b :: bs, n :: l => p = some ⟨b, 0, none⟩ ∧ ∃ q, w.heap[b]? = some (.cells #[.int .i64 n, .pointer q] 54 (0, 0)) ∧ Chain w q bs l
  | _, _, _ => False
theorem chain_len {w : World} : ∀ {p : Option Addr} {bs : List Nat} {l : List Int}, Chain w p bs l → bs.length = l.length
  | _, [], [], _ => rfl
  | _, b :: bs, n :: l, ⟨_, q, _, h⟩ => by rw [List.length_cons, List.length_cons, chain_len h]
  | _, [], _ :: _, h => h.elim
  | _, _ :: _, [], h => h.elim
theorem chain_other {w w' : World} : ∀ {p : Option Addr} {bs : List Nat} {l : List Int}, Chain w p bs l → (∀ b ∈ bs, w'.heap[b]? = w.heap[b]?) → Chain w' p bs l
  | _, [], [], h, _ => h
  | _, b :: bs, n :: l, ⟨h1, q, h2, h3⟩, hb => ⟨h1, q, by rw [hb b (by simp)]; exact h2, chain_other h3 (fun c hc => hb c (by simp [hc]))⟩
  | _, [], _ :: _, h, _ => h.elim
  | _, _ :: _, [], h, _ => h.elim
theorem chain_drop {w : World} : ∀ (j : Nat) {p : Option Addr} {bs : List Nat} {l : List Int}, Chain w p bs l → j ≤ l.length → ∃ q, Chain w q (bs.drop j) (l.drop j)
  | 0, p, _, _, h, _ => ⟨p, by simpa using h⟩
  | j + 1, _, b :: bs, n :: l, ⟨_, q, _, h⟩, hj => by simpa using chain_drop j h (by simpa using hj)
  | j + 1, _, [], [], _, hj => by simp at hj
  | _ + 1, _, [], _ :: _, h, _ => h.elim
  | _ + 1, _, _ :: _, [], h, _ => h.elim
/-- the item at a place -/
theorem chain_step {w : World} {q : Option Addr} {bs : List Nat} {l : List Int} {j : Nat} (h : Chain w q (bs.drop j) (l.drop j)) (hj : j < bs.length) (hl : j < l.length) :
    ∃ b q', bs[j]? = some b ∧ q = some ⟨b, 0, none⟩ ∧ w.heap[b]? = some (.cells #[.int .i64 l[j], .pointer q'] 54 (0, 0)) ∧ Chain w q' (bs.drop (j + 1)) (l.drop (j + 1)) := by
  rw [List.drop_eq_getElem_cons hj, List.drop_eq_getElem_cons hl] at h
  obtain ⟨h1, q', h2, h3⟩ := h
  exact ⟨_, q', List.getElem?_eq_getElem hj, h1, h2, h3⟩
theorem chain_end {w : World} {q : Option Addr} {bs : List Nat} {l : List Int} {j : Nat} (h : Chain w q (bs.drop j) (l.drop j)) (hj : bs.length ≤ j) : q = none := by
  rw [List.drop_of_length_le hj] at h
  cases h' : l.drop j with
  | nil => rw [h'] at h; exact h
  | cons _ _ => rw [h'] at h; exact h.elim
/-- an item unlinked -/
theorem chain_take {w : World} {q2 : Option Addr} {n2 : Int} {b1 b2 : Nat} : ∀ (k : Nat) {p : Option Addr} {bs : List Nat} {l : List Int} (h : Chain w p bs l) (hn : bs.Nodup) (e1 : bs[k]? = some b1) (e2 : bs[k + 1]? = some b2)
    (h2 : w.heap[b2]? = some (.cells #[.int .i64 n2, .pointer q2] 54 (0, 0))), Chain (w.setCell ⟨b1, 1, none⟩ (.pointer q2)) p (bs.eraseIdx (k + 1)) (l.eraseIdx (k + 1))
  | 0, p, b :: c :: r, n :: m :: l, ⟨h1, q1, h2, h3, q2', h4, h5⟩, hn, e1, e2, hc => by
    obtain rfl : b = b1 := by simpa using e1
    obtain rfl : c = b2 := by simpa using e2
    rw [h4] at hc
    have e : q2' = q2 := (show m = n2 ∧ q2' = q2 by simpa using hc).2
    subst e
    obtain ⟨hb, hn2⟩ := List.nodup_cons.1 hn
    refine ⟨h1, q2', ?_, chain_other h5 (fun d hd => Below.heap_setCell _ _ _ _ (fun e => hb (by rw [← show d = b from e]; exact List.mem_cons_of_mem _ hd)))⟩
    rw [heap_setCell_same w b 1 _ _ _ h2]; rfl
  | k + 1, p, b :: r, n :: l, ⟨h1, q1, h2, h3⟩, hn, e1, e2, hc => by
    obtain ⟨hb, hn2⟩ := List.nodup_cons.1 hn
    have e1' : r[k]? = some b1 := by simpa using e1
    have ih := chain_take k h3 hn2 e1' (by simpa using e2) hc
    refine ⟨h1, q1, ?_, ih⟩
    have hne : b ≠ b1 := fun e => hb (by rw [e]; exact List.mem_of_getElem? e1')
    rw [Below.heap_setCell w ⟨b1, 1, none⟩ (.pointer q2) b hne]; exact h2
  | 0, _, [_], _, _, _, _, e2, _ => by simp at e2
  | 0, _, [], _, _, _, _, e2, _ => by simp at e2
  | _ + 1, _, [], _, _, _, _, e2, _ => by simp at e2
  | 0, _, _ :: _ :: _, [], h, _, _, _, _ => h.elim
  | 0, _, _ :: _ :: _, [_], ⟨_, _, _, h⟩, _, _, _, _ => h.elim
  | _ + 1, _, _ :: _, [], h, _, _, _, _ => h.elim
theorem nodup_two {bs : List Nat} {i j b : Nat} (hn : bs.Nodup) (h1 : bs[i]? = some b) (h2 : bs[j]? = some b) : i = j := by
  obtain ⟨g1, e1⟩ := List.getElem?_eq_some_iff.1 h1
  obtain ⟨g2, e2⟩ := List.getElem?_eq_some_iff.1 h2
  exact (List.getElem_inj (h₀ := g1) (h₁ := g2) hn).1 (e1.trans e2.symm)

/-- the items that are left behind the start in block s, all in blocks from A up to Z -/
def Items (w : World) (A Z s : Nat) (l : List Int) : Prop := ∃ bs : List Nat, Chain w (some ⟨s, 0, none⟩) (s :: bs) (0 :: l) ∧ (s :: bs).Nodup ∧ ∀ b ∈ s :: bs, A ≤ b ∧ b < Z
theorem Items.other {w w' : World} {A Z s : Nat} {l : List Int} (h : Items w A Z s l) (hk : ∀ b, A ≤ b → b < Z → w'.heap[b]? = w.heap[b]?) : Items w' A Z s l := by
  obtain ⟨bs, h1, h2, h3⟩ := h
  exact ⟨bs, chain_other h1 (fun b hb => hk b (h3 b hb).1 (h3 b hb).2), h2, h3⟩
theorem Items.below {w w' : World} {A Z s n : Nat} {l : List Int} (h : Items w A Z s l) (hb : Below n w w') (hn : Z ≤ n) : Items w' A Z s l :=
  h.other (fun b _ h2 => hb.block b (by omega))
theorem chain_cells {w : World} : ∀ {p : Option Addr} {bs : List Nat} {l : List Int}, Chain w p bs l → ∀ b ∈ bs, ∃ o : Obj, w.heap[b]? = some o ∧ o.isCells = true
  | _, [], [], _, b, hb => by simp at hb
  | _, c :: bs, n :: l, ⟨_, q, h2, h3⟩, b, hb => by
    rcases List.mem_cons.1 hb with rfl | hb
    · exact ⟨_, h2, rfl⟩
    · exact chain_cells h3 b hb
  | _, [], _ :: _, h, _, _ => h.elim
  | _, _ :: _, [], h, _, _ => h.elim
theorem Items.kept {w w' : World} {A Z s : Nat} {l : List Int} {row : Option Nat} (h : Items w A Z s l) (hg : w.grownBy w' row) (hr : ∀ r, row = some r → ∃ o : Obj, w.heap[r]? = some o ∧ o.isCells = false) : Items w' A Z s l := by
  obtain ⟨bs, h1, h2, h3⟩ := h
  refine ⟨bs, chain_other h1 (fun b hb => ?_), h2, h3⟩
  obtain ⟨o, ho, hc⟩ := chain_cells h1 b hb
  refine hg.block b (heap_lt_of_some ho) (fun e => ?_)
  obtain ⟨o', ho', hc'⟩ := hr b e.symm
  rw [ho] at ho'; cases ho'; rw [hc] at hc'; cases hc'
theorem Items.lt {w : World} {A Z s : Nat} {l : List Int} (h : Items w A Z s l) : A ≤ s ∧ s < Z := by
  obtain ⟨bs, _, _, h3⟩ := h; exact h3 s (by simp)

/-- the cells of an item -/
theorem item_cells {w : World} {b : Nat} {n : Int} {q : Value} (h : w.heap[b]? = some (.cells #[.int .i64 n, q] 54 (0, 0))) : w.cell? ⟨b, 0, none⟩ = some (.int .i64 n) ∧ w.cell? ⟨b, 1, none⟩ = some q ∧ w.frozen? ⟨b, 1, none⟩ = false := by
  refine ⟨?_, ?_, ?_⟩ <;> simp [World.cell?, World.frozen?, h]

theorem itemCount_any (m : Int) (w : World) (hm : in64 m) :
    Calls Try.prog 41 #[.int .i64 m] w fun e w' => e = .returned (.bool (inB m 1 8)) ∧ w = w' := by
  obtain ⟨m0, m1⟩ := hm
  by_cases h : 1 ≤ m
  · have HK := Lib.hid (show inB m 1 8 = decide (m ≤ 8) by simp [inB, h])
    go_enter Try.func41, Try.ntmps41
    go_wp2
    all_goals (go_ret; exact ⟨ret_bool HK.out.symm, rfl⟩)
  · have h' : m < 1 := by omega
    have HK := Lib.hid (show inB m 1 8 = false by simp [inB, h])
    go_enter Try.func41, Try.ntmps41
    go_wp2
    all_goals (go_ret; exact ⟨ret_bool HK.out.symm, rfl⟩)

set_option maxHeartbeats 2000000 in
/-- how many lesser items are left -/
theorem countBefore_any (w : World) (A Z s : Nat) (l : List Int) (x : Int) (h : Items w A Z s l) (hl : l.length ≤ 8) (ha : Asc l) :
    Calls Try.prog 43 #[.pointer (some ⟨s, 0, none⟩), .int .i64 x] w fun e w' =>
      e = .returned (.tuple #[.int .i64 (if x ∈ l then (cntL x l : Int) else 0), .bool (decide (x ∈ l))]) ∧ w = w' := by
  obtain ⟨RC, hRC⟩ : ∃ RC : Int, RC = if x ∈ l then (cntL x l : Int) else 0 := ⟨_, rfl⟩
  obtain ⟨RB, hRB⟩ : ∃ RB : Bool, RB = decide (x ∈ l) := ⟨_, rfl⟩
  rw [← hRC, ← hRB]
  have HRC := Lib.hid (And.intro hRC hRB)
  clear hRC hRB
  obtain ⟨bs, ⟨_, q0, h0, hc⟩, hnd, hin⟩ := h
  obtain ⟨s0, s1, s2⟩ := item_cells h0
  have hbl := chain_len hc
  have HC0 := Lib.hid hc
  have HA := Lib.hid ha
  clear h0 hnd hin ha hc
  go_enter Try.func43, Try.ntmps43
  go_wp2
  go_loop [6, 7] (fun c p => ∃ (j : Nat) (q : Option Addr), j ≤ l.length ∧ c = .int .i64 j ∧ p = .pointer q ∧ Chain w q (bs.drop j) (l.drop j) ∧ ∀ i (hi : i < l.length), i < j → l[i] ≠ x) (fun c _ => l.length - (intOf c).toNat)
  case atStart => exact ⟨0, q0, Nat.zero_le _, rfl, rfl, by simpa using HC0.out, fun i hi h => by omega⟩
  case round =>
    obtain ⟨j, q, hj, rfl, rfl, hch, hno⟩ := hrel
    by_cases hlt : j < l.length
    · obtain ⟨b, q', hbe, rfl, hb, hc2⟩ := chain_step hch (by omega) hlt
      obtain ⟨k0, k1, k2⟩ := item_cells hb
      have HC2 := Lib.hid hc2
      have HNO := Lib.hid hno
      clear hb hch hc2 hno hbe
      by_cases hx : l[j] = x
      · have hxb : (l[j] == x) = true := by simpa using hx
        have HR := Lib.hid (show (if x ∈ l then (cntL x l : Int) else 0) = j ∧ decide (x ∈ l) = true by
          have hm : x ∈ l := by rw [← hx]; exact List.getElem_mem hlt
          rw [if_pos hm, decide_eq_true hm]
          obtain ⟨i1, i2, _⟩ := asc_find HA.out hm
          refine ⟨?_, rfl⟩
          rcases Nat.lt_trichotomy (cntL x l) j with hh | hh | hh
          · have := HNO.out _ i1 hh
            rw [List.getD_eq_getElem?_getD, List.getElem?_eq_getElem i1] at i2
            exact absurd i2 this
          · rw [hh]
          · have := asc_mono HA.out hh i1
            rw [i2, List.getD_eq_getElem?_getD, List.getElem?_eq_getElem hlt] at this
            simp only [Option.getD_some, hx] at this
            omega)
        clear hx
        go_wp2
        go_ret2
        exact ⟨by rw [HRC.out.1, HRC.out.2, HR.out.1, HR.out.2]; rfl, rfl⟩
      · have hxb : (l[j] == x) = false := by simpa using hx
        have HN2 := Lib.hid (show ∀ i (hi : i < l.length), i < j + 1 → l[i] ≠ x from fun i hi h => by
          rcases Nat.lt_or_ge i j with h' | h'
          · exact HNO.out i hi h'
          · have : i = j := by omega
            subst this; exact hx)
        clear hx
        go_wp2
        go_round
        case rel => exact ⟨j + 1, _, hlt, by go_num, rfl, HC2.out, HN2.out⟩
        case measure => simp [intOf]; omega
    · have hqn := chain_end hch (by omega)
      subst hqn
      have HR := Lib.hid (show x ∉ l from fun hm => by
        obtain ⟨i, hi, e⟩ := List.getElem_of_mem hm
        exact hno i hi (by omega) e)
      clear hch hno
      go_wp2
      go_ret2
      exact ⟨by rw [HRC.out.1, HRC.out.2, if_neg HR.out, decide_eq_false HR.out]; rfl, rfl⟩

set_option maxHeartbeats 2000000 in
/-- an item unlinked, and its number -/
theorem take_any (w : World) (A Z s : Nat) (l : List Int) (k : Nat) (h : Items w A Z s l) (hl : l.length ≤ 8) (hk : k < l.length) :
    Calls Try.prog 44 #[.pointer (some ⟨s, 0, none⟩), .int .i64 k] w fun e w' =>
      e = .returned (.int .i64 (l.getD k 0)) ∧ ∃ b, (A ≤ b ∧ b < Z) ∧ (∃ u, w' = w.setCell ⟨b, 1, none⟩ u) ∧ Items w' A Z s (l.eraseIdx k) := by
  obtain ⟨bs, hc, hnd, hin⟩ := h
  have hbl := chain_len hc
  simp only [List.length_cons] at hbl
  have HC := Lib.hid hc
  obtain ⟨Bs, hB⟩ : ∃ Bs, Bs = s :: bs := ⟨_, rfl⟩
  obtain ⟨L, hL⟩ : ∃ L, L = (0 : Int) :: l := ⟨_, rfl⟩
  have hBl : Bs.length = l.length + 1 := by rw [hB, List.length_cons]; omega
  have hLl : L.length = l.length + 1 := by rw [hL, List.length_cons]
  rw [← hB, ← hL] at HC
  rw [← hB] at hnd hin
  have HB := Lib.hid hB
  have HND := Lib.hid hnd
  have HIN := Lib.hid hin
  have HLg := Lib.hid (show ∀ i (hi : i < l.length) (hi' : i + 1 < L.length), L[i + 1] = l[i] from fun i hi hi' => by subst hL; rfl)
  have HLe := Lib.hid (show L.eraseIdx (k + 1) = 0 :: l.eraseIdx k from by subst hL; rfl)
  have HG := Lib.hid (show l.getD k 0 = l[k] by rw [List.getD_eq_getElem?_getD, List.getElem?_eq_getElem hk]; rfl)
  rw [HG.out]
  clear hc hnd hin hL hB
  go_enter Try.func44, Try.ntmps44
  go_wp2
  go_loop [5, 9] (fun p i => ∃ (j : Nat) (q : Option Addr), j ≤ k ∧ i = .int .i64 j ∧ p = .pointer q ∧ Chain w q (Bs.drop j) (L.drop j)) (fun _ i => k - (intOf i).toNat)
  case atStart => exact ⟨0, _, Nat.zero_le _, rfl, rfl, by simpa using HC.out⟩
  case round =>
    obtain ⟨j, q, hj, rfl, rfl, hch⟩ := hrel
    obtain ⟨b1, q', hb1, rfl, hb, hc2⟩ := chain_step hch (by omega) (by omega)
    obtain ⟨k0, k1, k2⟩ := item_cells hb
    by_cases hlt : j < k
    · have HC2 := Lib.hid hc2
      clear hb hch hc2 hb1
      go_wp2
      go_round
      case rel => exact ⟨j + 1, _, hlt, by go_num, rfl, HC2.out⟩
      case measure => simp [intOf]; omega
    · have hjk : j = k := by omega
      subst hjk
      obtain ⟨b2, q2, hb2, rfl, hbb, hc3⟩ := chain_step hc2 (by omega) (by omega)
      obtain ⟨m0, m1, m2⟩ := item_cells hbb
      have hT := chain_take j HC.out HND.out hb1 hb2 hbb
      have hne : b2 ≠ b1 := fun e => by
        have := nodup_two HND.out hb1 (e ▸ hb2)
        omega
      have e0 : (w.setCell ⟨b1, 1, none⟩ (.pointer q2)).cell? ⟨b2, 0, none⟩ = some (.int .i64 l[j]) := by
        rw [← HLg.out j hk (by omega)]
        simp only [World.cell?, Below.heap_setCell w ⟨b1, 1, none⟩ (.pointer q2) b2 hne, hbb]; rfl
      have HI := Lib.hid (show ∃ b, (A ≤ b ∧ b < Z) ∧ (∃ u, w.setCell ⟨b1, 1, none⟩ (.pointer q2) = w.setCell ⟨b, 1, none⟩ u) ∧ Items (w.setCell ⟨b1, 1, none⟩ (.pointer q2)) A Z s (l.eraseIdx j) from by
        refine ⟨_, HIN.out _ (List.mem_of_getElem? hb1), ⟨_, rfl⟩, bs.eraseIdx j, ?_, ?_, ?_⟩
        · rw [HLe.out] at hT
          have eB := HB.out
          subst eB
          exact hT
        · have eB := HB.out
          subst eB
          exact HND.out.sublist (List.eraseIdx_sublist (s :: bs) (j + 1))
        · have eB := HB.out
          subst eB
          exact fun b hb => HIN.out b ((List.eraseIdx_sublist (s :: bs) (j + 1)).subset hb))
      clear hb hch hc2 hb2 hc3 hT hbb hb1 hne
      go_wp2
      go_ret
      exact ⟨rfl, HI.out⟩

set_option maxHeartbeats 2000000 in
/-- the items from 0 up to m, behind a start -/
theorem linked_any (m : Nat) (w : World) (hm : m ≤ 8) :
    Calls Try.prog 42 #[.int .i64 m] w fun e w' =>
      e = .returned (.pointer (some ⟨w.heap.size, 0, none⟩)) ∧ Items w' w.heap.size w'.heap.size w.heap.size (iot m) ∧ Below w.heap.size w w' := by
  have hil := iot_len m
  have HIO := Lib.hid (show ∀ j (hj : j < (iot m).length), (iot m)[j] = (j : Int) from fun j hj => by simp [iot])
  go_enter Try.func42, Try.ntmps42
  go_wp2
  go_loopw [4] (fun n wr => ∃ j : Nat, j ≤ m ∧ n = .int .i64 ((j : Int) - 1) ∧ Below w.heap.size w wr ∧ Items wr w.heap.size wr.heap.size w.heap.size ((iot m).drop j)) (fun n _ => (intOf n + 1).toNat)
  case atStart =>
    refine ⟨m, Nat.le_refl _, rfl, (Below.refl _ _).alloc (Nat.le_refl _) _, [], ⟨rfl, none, heap_alloc_new w _, ?_⟩, by simp, fun b hb => ?_⟩
    · rw [List.drop_of_length_le (by omega)]; rfl
    · simp at hb; subst hb; simp
  case round =>
    obtain ⟨j, hj, rfl, hB, bs, ⟨_, q, h0, hc⟩, hnd, hin⟩ := hrel
    obtain ⟨s0, s1, s2⟩ := item_cells h0
    have hsz := hB.size
    cases j with
    | zero =>
      have HI := Lib.hid (show Items wr w.heap.size wr.heap.size w.heap.size (iot m) from ⟨bs, ⟨rfl, q, h0, by simpa using hc⟩, hnd, hin⟩)
      clear h0 hc hnd hin
      go_wp2
      go_ret
      exact ⟨rfl, HI.out, hB⟩
    | succ i =>
      rw [show ((i + 1 : Nat) : Int) - 1 = (i : Int) by omega]
      have hs := heap_lt_of_some h0
      obtain ⟨W1, hW1⟩ : ∃ W1, W1 = wr.setCell ⟨w.heap.size, 1, none⟩ (.pointer (some ⟨wr.heap.size, 0, none⟩)) := ⟨_, rfl⟩
      have hs1 : W1.heap.size = wr.heap.size := by rw [hW1]; simp
      have hW0 : W1.heap[w.heap.size]? = some (.cells #[.int .i64 0, .pointer (some ⟨wr.heap.size, 0, none⟩)] 54 (0, 0)) := by
        rw [hW1, heap_setCell_same wr _ 1 _ _ _ h0]; rfl
      have hWo : ∀ b, b ≠ w.heap.size → W1.heap[b]? = wr.heap[b]? := fun b hb => by
        rw [hW1]; exact Below.heap_setCell wr ⟨w.heap.size, 1, none⟩ _ b hb
      obtain ⟨v, hv⟩ : ∃ v, v = W1.alloc (.cells #[.int .i64 (i : Int), .pointer q] 54) := ⟨_, rfl⟩
      have hbv : Below W1.heap.size W1 v := by rw [hv]; exact (Below.refl _ _).alloc (Nat.le_refl _) _
      have hvs : v.heap.size = wr.heap.size + 1 := by rw [hv]; simp [hs1]
      have hvn : v.heap[wr.heap.size]? = some (.cells #[.int .i64 (i : Int), .pointer q] 54 (0, 0)) := by rw [hv, ← hs1]; exact heap_alloc_new W1 _
      have HI := Lib.hid (show Items v w.heap.size v.heap.size w.heap.size ((iot m).drop i) from by
        have hne : wr.heap.size ≠ w.heap.size := by omega
        refine ⟨wr.heap.size :: bs, ⟨rfl, _, by rw [hbv.block _ (by omega)]; exact hW0, ?_⟩, ?_, ?_⟩
        · rw [List.drop_eq_getElem_cons (show i < (iot m).length by omega), HIO.out i (by omega)]
          refine ⟨rfl, q, hvn, chain_other hc (fun b hb => ?_)⟩
          have hb1 := hin b (by simp [hb])
          have hbs : b ≠ w.heap.size := fun e => (List.nodup_cons.1 hnd).1 (by rw [← e]; exact hb)
          rw [hbv.block b (by omega), hWo b hbs]
        · obtain ⟨n1, n2⟩ := List.nodup_cons.1 hnd
          refine List.nodup_cons.2 ⟨fun hm => ?_, List.nodup_cons.2 ⟨fun hm => ?_, n2⟩⟩
          · rcases List.mem_cons.1 hm with e | hm
            · omega
            · exact n1 hm
          · have := hin _ (List.mem_cons_of_mem _ hm)
            omega
        · intro b hb
          rw [hvs]
          rcases List.mem_cons.1 hb with rfl | hb
          · omega
          · rcases List.mem_cons.1 hb with rfl | hb
            · omega
            · have := hin b (by simp [hb]); omega)
      have HBB := Lib.hid (show Below w.heap.size w v from (hW1 ▸ hB.setCell (p := ⟨w.heap.size, 1, none⟩) (Nat.le_refl _) _ : Below w.heap.size w W1).trans (hbv.mono (by omega)))
      rw [hv, hW1] at HI HBB
      clear hc hnd hin h0 hbv hvs hvn hv hW0 hWo hs1 hW1
      go_wp2
      go_roundw
      case rel => exact ⟨i, by omega, by go_num, HBB.out, HI.out⟩
      case measure => simp [intOf]

end Go.Proofs.Ytdpeleepfjhefaa
