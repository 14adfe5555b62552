/- Permutations: the model's test. -/
import Derived.Test.YtdpeleepfjhefaaMpSpec
import Derived.OwnWalk
set_option linter.unusedVariables false
set_option linter.unusedSimpArgs false
set_option maxRecDepth 100000
namespace Go.Proofs.Ytdpeleepfjhefaa
open Go.ChangeShapes Go.WideShapes Go.ChangeAt Go.RowKit

theorem infoBool : (Try.prog.info? 4).map (fun i => (i.zero, i.size, i.bytes)) = some (some (.bool false), 1, 1) := by kernel_rfl
theorem okP_yes {l : List Int} (h : okP l = true) : 1 ≤ l.length ∧ l.length ≤ 8 ∧ (∀ x ∈ l, 0 ≤ x ∧ x ≤ (l.length : Int) - 1) ∧ l.Nodup := by
  simp only [okP, Bool.and_eq_true, decide_eq_true_eq] at h
  exact h
theorem okP_len {l : List Int} (h : inB (l.length : Int) 1 8 = false) : okP l = false := by
  cases e : okP l
  · rfl
  · obtain ⟨h1, h2, _⟩ := okP_yes e
    rw [show inB (l.length : Int) 1 8 = true by simp [inB]; omega] at h; simp at h
theorem okP_at {l : List Int} {k : Nat} (hk : k < l.length) (h : inB l[k] 0 ((l.length : Int) - 1) = false) : okP l = false := by
  cases e : okP l
  · rfl
  · have := (okP_yes e).2.2.1 _ (List.getElem_mem hk)
    rw [show inB l[k] 0 ((l.length : Int) - 1) = true by simp [inB]; omega] at h; simp at h
theorem nodup_snoc {l : List Int} {k : Nat} (hk : k < l.length) : (l.take (k + 1)).Nodup ↔ (l.take k).Nodup ∧ l[k] ∉ l.take k := by
  rw [List.take_succ_eq_append_getElem hk, List.nodup_append]
  simp only [List.mem_singleton, List.nodup_cons, List.not_mem_nil, not_false_iff, List.nodup_nil, and_true, true_and]
  constructor
  · rintro ⟨h1, h2⟩; exact ⟨h1, fun hm => h2 _ hm _ rfl rfl⟩
  · rintro ⟨h1, h2⟩; exact ⟨h1, fun a ha b hb e => by subst hb; subst e; exact h2 ha⟩
theorem okP_twice {l : List Int} {k : Nat} (hk : k < l.length) (h : l[k] ∈ l.take k) : okP l = false := by
  cases e : okP l
  · rfl
  · have h1 := (okP_yes e).2.2.2
    have h2 : (l.take (k + 1)).Nodup := h1.sublist (List.take_sublist _ _)
    exact absurd h ((nodup_snoc hk).1 h2).2
def seenL (l : List Int) (k : Nat) : List Value := (List.range l.length).map fun j : Nat => .bool (decide ((j : Int) ∈ l.take k))
theorem seenL_len (l : List Int) (k : Nat) : (seenL l k).length = l.length := by simp [seenL]
theorem seenL_zero (l : List Int) : seenL l 0 = List.replicate l.length (.bool false) := by
  apply List.ext_getElem (by simp [seenL])
  intro i h1 h2
  simp [seenL]
theorem seenL_get {l : List Int} {k x : Nat} (hx : x < l.length) : (seenL l k)[x]? = some (.bool (decide ((x : Int) ∈ l.take k))) := by
  simp [seenL, hx]
theorem seenL_set {l : List Int} {k x : Nat} (hk : k < l.length) (hx : l[k] = x) : (seenL l k).set x (.bool true) = seenL l (k + 1) := by
  apply List.ext_getElem (by simp [seenL])
  intro i h1 h2
  rw [List.getElem_set]
  have hi : i < l.length := by simpa [seenL] using h2
  split
  · rename_i e
    subst e
    simp only [seenL, List.getElem_map, List.getElem_range]
    rw [List.take_succ_eq_append_getElem hk, hx]
    simp
  · rename_i e
    simp only [seenL, List.getElem_map, List.getElem_range]
    rw [List.take_succ_eq_append_getElem hk, hx]
    have : ¬ (i : Int) = x := by omega
    simp [this]

set_option maxHeartbeats 4000000 in
theorem specPm_eq (v : Value) (l : List Int) (w : World) (hr : RowAt w v (intsOf l)) (hl : l.length ≤ 1048576) :
    Calls Try.prog 33 #[v] w fun e w' => e = .returned (.bool (okP l)) ∧ Below w.heap.size w w' := by
  obtain ⟨i0, hi, hz0, hz1, hz2⟩ := info_parts infoBool
  have HS := Lib.hid (fun W => sIn_any (l.length : Int) 1 8 W)
  obtain ⟨a, cap, rfl, h1, h2, h3⟩ := hr.ints
  unfold maxLen at h2
  clear hr
  cases h : inB (l.length : Int) 1 8
  · rw [h] at HS
    have HK := Lib.hid (okP_len h)
    clear h h3
    go_enter Try.func33, Try.ntmps33
    go_wp2_with fail
    refine (HS.out _).mono ?_
    rintro e w' ⟨rfl, rfl⟩
    go_wp2_with fail
    go_ret
    exact ⟨ret_bool HK.out.symm, Below.refl _ _⟩
  · rw [h] at HS
    obtain ⟨n1, n8⟩ := inB_yes h
    clear h
    go_enter Try.func33, Try.ntmps33
    go_wp2_with fail
    refine (HS.out _).mono ?_
    rintro e w' ⟨rfl, rfl⟩
    go_wp2_with (at_make; refine wpList_make_full _ rfl _ _ 49 rfl w.heap.size 4 i0 (.bool false) 1 Try.underlying49 hi hz0 hz1 _ _ _ _ l.length rfl rfl rfl rfl ?c1 ?c2 ?c3 ?_)
    case c1 => rw [hz2]; omega
    case c2 => unfold maxLen; omega
    case c3 => exact Nat.le_refl _
    intro w1 hown hgrow
    have HO1 := Lib.hid (show w1.ownsRow w.heap.size 4 1 (.slice (some ⟨w.heap.size, 0, none⟩) l.length l.length) l.length (seenL l 0) by
      rw [toList_madeCells_one] at hown; rw [seenL_zero]; simpa using hown)
    have hB1 : Below w.heap.size w w1 := (Below.refl _ _).grown hgrow (Nat.le_refl _) (fun k hk => by cases hk)
    clear hown hgrow
    go_wp2_with fail
    go_loopw [15] (fun i wr => ∃ k : Nat, k ≤ l.length ∧ i = .int .i64 k ∧ (∀ x ∈ l.take k, 0 ≤ x ∧ x ≤ (l.length : Int) - 1) ∧ (l.take k).Nodup ∧ wr.ownsRow w.heap.size 4 1 (.slice (some ⟨w.heap.size, 0, none⟩) l.length l.length) l.length (seenL l k) ∧ Below w.heap.size w wr) (fun i _ => l.length - (intOf i).toNat)
    case atStart => exact ⟨0, Nat.zero_le _, rfl, fun x hx => by simp at hx, by simp, HO1.out, hB1⟩
    case round =>
      obtain ⟨k, hk, rfl, hall, hnd, hown, hB⟩ := hrel
      have HALL := Lib.hid hall; have HND := Lib.hid hnd
      clear hall hnd HO1 hB1
      by_cases hlt : k < l.length
      · obtain ⟨b', off, rfl, hbb, hcell⟩ := h3.resolve_left (fun e => by rw [e] at hlt; simp at hlt)
        have hc : wr.cell? ⟨b', off + k, none⟩ = some (.int .i64 l[k]) := by rw [hB.cell (p := ⟨b', off + k, none⟩) hbb]; exact hcell k hlt
        have HSX := Lib.hid (fun W => sIn_any l[k] 0 ((l.length : Int) - 1) W)
        cases hd : inB l[k] 0 ((l.length : Int) - 1)
        · rw [hd] at HSX
          have HK := Lib.hid (okP_at hlt hd)
          obtain ⟨x, hx⟩ : ∃ x, x = l[k] := ⟨_, rfl⟩
          rw [← hx] at hc HSX
          clear h3 hcell hd hx hown
          go_wp2_with (go_at_call 48; refine (HSX.out _).mono ?_; rintro e w' ⟨rfl, rfl⟩)
          go_ret
          exact ⟨ret_bool HK.out.symm, hB⟩
        · rw [hd] at HSX
          obtain ⟨x0, x1⟩ := inB_yes hd
          obtain ⟨x, hx⟩ : ∃ x : Nat, l[k] = (x : Int) := ⟨l[k].toNat, by omega⟩
          have hxl : x < l.length := by omega
          have hcs := (hown.cellAt x (by omega)).trans (seenL_get hxl)
          have HNX := Lib.hid (show ∀ y ∈ l.take (k + 1), 0 ≤ y ∧ y ≤ (l.length : Int) - 1 from fun y hy => by
            rw [List.take_succ_eq_append_getElem hlt] at hy
            rcases List.mem_append.1 hy with h | h
            · exact HALL.out y h
            · have : y = l[k] := by simpa using h
              subst this; exact ⟨x0, x1⟩)
          by_cases hm : (x : Int) ∈ l.take k
          · have HK := Lib.hid (okP_twice hlt (by rw [hx]; exact hm))
            rw [decide_eq_true hm] at hcs
            rw [hx] at hc HSX
            have hxl' : (x : Int) < l.length := by omega
            clear h3 hcell hd hx hown hm x0 x1 HNX
            go_wp2_with (go_at_call 48; refine (HSX.out _).mono ?_; rintro e w' ⟨rfl, rfl⟩)
            go_ret
            exact ⟨ret_bool HK.out.symm, hB⟩
          · rw [decide_eq_false hm] at hcs
            have HN2 := Lib.hid ((nodup_snoc hlt).2 ⟨HND.out, by rw [hx]; exact hm⟩)
            have hst := (hown.stored x (.bool true)).1
            rw [seenL_set hlt hx] at hst
            have HST := Lib.hid hst
            have hf := hown.frozenAt x
            rw [hx] at hc HSX
            have hxl' : (x : Int) < l.length := by omega
            clear h3 hcell hd hx hown hm x0 x1 hst
            go_wp2_with (go_at_call 48; refine (HSX.out _).mono ?_; rintro e w' ⟨rfl, rfl⟩)
            go_roundw
            case rel => exact ⟨k + 1, hlt, by go_num, HNX.out, HN2.out, HST.out, hB.setCell (p := ⟨w.heap.size, x, none⟩) (Nat.le_refl _) _⟩
            case measure => simp [intOf]; omega
      · have hkl : k = l.length := by omega
        have HK := Lib.hid (show okP l = true by
          have h1 := HALL.out; have h2 := HND.out
          rw [hkl, List.take_length] at h1 h2
          simp only [okP, Bool.and_eq_true, decide_eq_true_eq]
          exact ⟨by omega, by omega, h1, h2⟩)
        have hn9 : ¬ (k : Int) < l.length := by omega
        clear h3 hown
        go_wp2_with fail
        go_ret
        exact ⟨ret_bool HK.out.symm, hB⟩

end Go.Proofs.Ytdpeleepfjhefaa
