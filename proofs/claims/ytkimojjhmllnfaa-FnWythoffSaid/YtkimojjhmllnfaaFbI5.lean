/- Fibonacci digits, the program: the word. -/
import Derived.Test.YtkimojjhmllnfaaFbI2
set_option linter.unusedVariables false
set_option linter.unusedSimpArgs false
set_option maxRecDepth 100000
namespace Go.Proofs.Ytkimojjhmllnfaa
open Go.ChangeShapes Go.WideShapes Go.ChangeAt Go.RowKit

/-- letters as the numbers that are kept -/
def u8s (l : List UInt8) : List Int := l.map (fun c => (c.toNat : Int))
def bytesOf8 (l : List Int) : List Value := l.map (Value.int .u8)
/-- the row when k letters have been written -/
def fwR (N k : Nat) : List Int := u8s (fw k) ++ List.replicate (N - k) 0
theorem u8s_len (l : List UInt8) : (u8s l).length = l.length := List.length_map ..
theorem b8_len (l : List Int) : (bytesOf8 l).length = l.length := List.length_map ..
theorem fwR_len {N k : Nat} (h : k ≤ N) : (fwR N k).length = N := by rw [fwR, List.length_append, u8s_len, fw_len, List.length_replicate]; omega
theorem b8_set (l : List Int) (j : Nat) (d : Int) : (bytesOf8 l).set j (.int .u8 d) = bytesOf8 (l.set j d) := by
  unfold bytesOf8; rw [List.map_set]
theorem fwR_set {N k : Nat} (h : k < N) (c : Int) (hc : c = ((fwc k).toNat : Int)) : (fwR N k).set k c = fwR N (k + 1) := by
  obtain ⟨p, hp⟩ : ∃ p, N - k = p + 1 := ⟨N - k - 1, by omega⟩
  unfold fwR
  rw [hp, show N - (k + 1) = p by omega, List.set_append_right _ _ (by rw [u8s_len, fw_len]; exact Nat.le_refl _), u8s_len, fw_len, Nat.sub_self, List.replicate_succ, List.set_cons_zero, fw, hc]
  unfold u8s
  rw [List.map_append, List.append_assoc]
  rfl
theorem fwR_two {N k : Nat} (c d : Int) : ((fwR N k).set k c).set k d = (fwR N k).set k d := List.set_set ..

theorem infoU8 : (Try.prog.info? 5).map (fun i => (i.zero, i.size, i.bytes)) = some (some (.int .u8 0), 1, 1) := by kernel_rfl
theorem fwR_start (N : Nat) : bytesOf8 (fwR N 0) = List.replicate N (.int .u8 0) := by
  unfold fwR bytesOf8
  rw [show u8s (fw 0) = [] from rfl, List.nil_append, List.map_replicate]; rfl
theorem row_there {w : World} {base : Nat} {e : TypeId} {g n cap : Nat} {xs : List Value} (h : w.ownsRow base e 1 (.slice (some ⟨g, 0, none⟩) n cap) n xs) {j : Nat} (hj : j < n) : ∃ u, w.cell? ⟨g, j, none⟩ = some u := by
  rw [h.cellAt j (by omega)]
  have := h.1
  exact ⟨_, List.getElem?_eq_getElem (by omega)⟩
theorem word_conv (N : Nat) (g cap : Nat) (w : World) {base : Nat} (h : w.ownsRow base 5 1 (.slice (some ⟨g, 0, none⟩) N cap) N (bytesOf8 (fwR N N))) :
    (convert 22 9 (.slice (some ⟨g, 0, none⟩) N cap)).run Try.prog w = .ok (.string (bs (fw N))) w := by
  have := run_convert_bytes_back w 22 9 5 ⟨g, 0, none⟩ cap (fw N) Try.underlying22 Try.underlying5 Try.underlying9 (fun j hj => by
    have := h.cells (g := g) rfl j (.int .u8 ((fw N)[j].toNat : Int)) (by
      unfold bytesOf8 fwR u8s
      rw [Nat.sub_self, List.replicate_zero, List.append_nil, List.map_map, List.getElem?_map, List.getElem?_eq_getElem hj]; rfl)
    exact this)
  rw [fw_len] at this
  exact this

set_option maxHeartbeats 4000000 in
theorem word_any (N : Nat) (w : World) (hN : N ≤ 200) :
    Calls Try.prog 31 #[.int .i64 N] w fun e w' => e = .returned (.string (bs (fw N))) ∧ Below w.heap.size w w' := by
  obtain ⟨i0, hi, hz0, hz1, hz2⟩ := info_parts infoU8
  have HP := Lib.hid (fun (k : Nat) (hk : k ≤ 200) W => sparse_any k W (by omega))
  have hn0 : ¬ (N : Int) < 0 := by omega
  have hn1 : ¬ (200 : Int) < N := by omega
  go_enter Try.func31, Try.ntmps31
  go_wp2_with (at_make; refine wpList_make_full _ rfl _ _ 22 rfl w.heap.size 5 i0 (.int .u8 0) 1 Try.underlying22 hi hz0 hz1 _ _ _ _ N rfl rfl rfl rfl ?c1 ?c2 ?c3 ?_)
  case c1 => first | omega | (rw [hz2]; omega)
  case c2 => first | exact Nat.le_refl _ | (unfold maxLen; omega)
  try case c3 => exact Nat.le_refl _
  intro w1 hown hgrow
  have HO1 := Lib.hid (show w1.ownsRow w.heap.size 5 1 (.slice (some ⟨w.heap.size, 0, none⟩) N N) N (bytesOf8 (fwR N 0)) by
    rw [toList_madeCells_one] at hown; rw [fwR_start]; simpa using hown)
  have hB1 : Below w.heap.size w w1 := (Below.refl _ _).grown hgrow (Nat.le_refl _) (fun k hk => by cases hk)
  clear hown hgrow
  go_wp2_with fail
  go_loopw [16] (fun i wr => ∃ k : Nat, k ≤ N ∧ i = .int .i64 k ∧ wr.ownsRow w.heap.size 5 1 (.slice (some ⟨w.heap.size, 0, none⟩) N N) N (bytesOf8 (fwR N k)) ∧ Below w.heap.size w wr) (fun i _ => N - (intOf i).toNat)
  case atStart => exact ⟨0, Nat.zero_le _, rfl, HO1.out, hB1⟩
  case round =>
    obtain ⟨k, hk, rfl, hown, hB⟩ := hrel
    clear HO1 hB1
    by_cases hlt : k < N
    · obtain ⟨u, hc2⟩ := row_there hown hlt
      have hf2 : wr.frozen? ⟨w.heap.size, k, none⟩ = false := hown.frozenAt k
      have hst := (hown.stored k (.int .u8 97)).1
      rw [b8_set] at hst
      have HST := Lib.hid hst
      have HB2 := Lib.hid (hB.setCell (p := ⟨w.heap.size, k, none⟩) (Nat.le_refl _) (.int .u8 97))
      have HPK := Lib.hid (HP.out k (by omega))
      have HTWO := Lib.hid (fun c d => fwR_two (N := N) (k := k) c d)
      have HSET := Lib.hid (fun c => fwR_set hlt c)
      have hsz := hB.size
      have hfw : fwc k = if at0 (sp k) 0 = 1 then 98 else 97 := rfl
      obtain ⟨S, hS⟩ : ∃ S, S = sp k := ⟨_, rfl⟩
      rw [← hS] at HPK hfw
      clear hst hown hS
      cases S with
      | nil =>
        have HC := Lib.hid (show (97 : Int) = ((fwc k).toNat : Int) by rw [hfw]; rfl)
        clear hfw
        go_wp2_with fail
        refine (HPK.out _).mono ?_
        rintro e w2 ⟨v2, rfl, hO, hb⟩
        have HR2 := Lib.hid (show w2.ownsRow w.heap.size 5 1 (.slice (some ⟨w.heap.size, 0, none⟩) N N) N (bytesOf8 (fwR N (k + 1))) by
          rw [← HSET.out 97 HC.out]; exact owns_below HST.out hb)
        have HB3 := Lib.hid (HB2.out.trans (hb.mono HB2.out.size))
        obtain ⟨a3, c3, e3, _, _⟩ := owns_form hO
        subst e3
        clear hO hb
        go_wp2_with fail
        go_roundw
        case rel => exact ⟨k + 1, hlt, by go_num, HR2.out, HB3.out⟩
        case measure => simp [intOf]; omega
      | cons d t =>
        have HAT : at0 (d :: t) 0 = d := rfl
        rw [HAT] at hfw
        by_cases hd : d = 1
        · have HC := Lib.hid (show (98 : Int) = ((fwc k).toNat : Int) by rw [hfw, if_pos hd]; rfl)
          subst hd
          clear hfw HAT
          go_wp2_with fail
          refine (HPK.out _).mono ?_
          rintro e w2 ⟨v2, rfl, hO, hb⟩
          have hr2 := owns_below HST.out hb
          obtain ⟨u2, hc3⟩ := row_there hr2 hlt
          have hf3 : w2.frozen? ⟨w.heap.size, k, none⟩ = false := hr2.frozenAt k
          have hst2 := (hr2.stored k (.int .u8 98)).1
          rw [b8_set, HTWO.out 97 98, HSET.out 98 HC.out] at hst2
          have HST2 := Lib.hid hst2
          have HB3 := Lib.hid ((HB2.out.trans (hb.mono HB2.out.size)).setCell (p := ⟨w.heap.size, k, none⟩) (Nat.le_refl _) (.int .u8 98))
          obtain ⟨a3, cap3, rfl, q1, q2, q3⟩ := (RowAt.of_owns hO).ints
          obtain ⟨b', off, rfl, hbb, hcell⟩ := q3.resolve_left (by simp)
          have hc0 := hcell 0 (by simp)
          rw [Nat.add_zero, List.getElem_cons_zero] at hc0
          obtain ⟨ln, hln⟩ : ∃ ln, ln = (1 :: t).length := ⟨_, rfl⟩
          have hlp : 0 < ln := by rw [hln]; simp
          rw [← hln]
          clear hO hb hr2 hst2 q1 q2 q3 hcell hln
          go_wp2_with fail
          go_roundw
          case rel => exact ⟨k + 1, hlt, by go_num, HST2.out, HB3.out⟩
          case measure => simp [intOf]; omega
        · have HC := Lib.hid (show (97 : Int) = ((fwc k).toNat : Int) by rw [hfw, if_neg hd]; rfl)
          have hdq : (d == 1) = false := by simpa using hd
          clear hfw HAT hd
          go_wp2_with fail
          refine (HPK.out _).mono ?_
          rintro e w2 ⟨v2, rfl, hO, hb⟩
          have HR2 := Lib.hid (show w2.ownsRow w.heap.size 5 1 (.slice (some ⟨w.heap.size, 0, none⟩) N N) N (bytesOf8 (fwR N (k + 1))) by
            rw [← HSET.out 97 HC.out]; exact owns_below HST.out hb)
          have HB3 := Lib.hid (HB2.out.trans (hb.mono HB2.out.size))
          obtain ⟨a3, cap3, rfl, q1, q2, q3⟩ := (RowAt.of_owns hO).ints
          obtain ⟨b', off, rfl, hbb, hcell⟩ := q3.resolve_left (by simp)
          have hc0 := hcell 0 (by simp)
          rw [Nat.add_zero, List.getElem_cons_zero] at hc0
          obtain ⟨ln, hln⟩ : ∃ ln, ln = (d :: t).length := ⟨_, rfl⟩
          have hlp : 0 < ln := by rw [hln]; simp
          rw [← hln]
          clear hO hb q1 q2 q3 hcell hln
          go_wp2_with fail
          go_roundw
          case rel => exact ⟨k + 1, hlt, by go_num, HR2.out, HB3.out⟩
          case measure => simp [intOf]; omega
    · have hkl : k = N := by omega
      subst hkl
      have hcv := word_conv k w.heap.size k wr hown
      clear hown
      go_wp2_with fail
      go_ret
      exact ⟨rfl, hB⟩

theorem implFibWord_any (n : Int) (w : World) (hn : in64 n) :
    Calls Try.prog 31 #[.int .i64 n] w fun e w' => e = .returned (.string (rFibWord0 n)) ∧ Below w.heap.size w w' := by
  cases h : inB n 0 200
  · have E0 := Lib.hid (show rFibWord0 n = bs [] by rw [rFibWord0, h]; rfl)
    by_cases h0 : n < 0
    · clear h
      go_enter Try.func31, Try.ntmps31
      go_wp2
      go_ret
      exact ⟨by rw [E0.out]; rfl, Below.refl _ _⟩
    · have h58 : 200 < n := by simp [inB] at h; omega
      clear h
      go_enter Try.func31, Try.ntmps31
      go_wp2
      go_ret
      exact ⟨by rw [E0.out]; rfl, Below.refl _ _⟩
  · obtain ⟨n0, n1⟩ := inB_yes h
    obtain ⟨N, rfl⟩ : ∃ N : Nat, n = N := ⟨n.toNat, by omega⟩
    refine (word_any N w (by omega)).mono ?_
    rintro e w' ⟨rfl, hB⟩
    exact ⟨by rw [show rFibWord0 N = bs (fw N) by rw [rFibWord0, h]; rfl], hB⟩

end Go.Proofs.Ytkimojjhmllnfaa
