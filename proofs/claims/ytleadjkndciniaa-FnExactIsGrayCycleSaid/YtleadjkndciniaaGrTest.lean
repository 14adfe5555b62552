/- Gray codes: the model's test of a cycle. -/
import Derived.Test.YtleadjkndciniaaGrCyc
set_option linter.unusedVariables false
set_option linter.unusedSimpArgs false
set_option maxRecDepth 100000
namespace Go.Proofs.Ytleadjkndciniaa
open Go.ChangeShapes Go.WideShapes Go.ChangeAt Go.RowKit

theorem infoBoolG : (Try.prog.info? 4).map (fun i => (i.zero, i.size, i.bytes)) = some (some (.bool false), 1, 1) := by kernel_rfl

/-- a row of m marks -/
def tbB (m : Nat) (f : Nat → Bool) : List Value := (List.range m).map (fun j => Value.bool (f j))
theorem tbB_at {m : Nat} {f : Nat → Bool} {x : Nat} (h : x < m) : (tbB m f)[x]? = some (.bool (f x)) := by
  simp only [tbB, List.getElem?_map, List.getElem?_range h]; rfl
theorem tbB_set {m : Nat} {f : Nat → Bool} {x : Nat} (b : Bool) : (tbB m f).set x (.bool b) = tbB m (fun j => if j = x then b else f j) := by
  apply List.ext_getElem (by simp [tbB])
  intro i h1 h2
  simp only [tbB, List.getElem_set, List.getElem_map, List.getElem_range]
  by_cases h : x = i
  · subst h; simp
  · rw [if_neg h, if_neg (fun e => h e.symm)]
theorem tbB_no (m : Nat) : List.replicate m (Value.bool false) = tbB m (fun _ => false) := by
  unfold tbB; apply List.ext_getElem (by simp); intro i h1 h2; simp
theorem tbB_same {m : Nat} {f g : Nat → Bool} (h : ∀ x < m, f x = g x) : tbB m f = tbB m g := by
  unfold tbB
  exact List.map_congr_left (fun x hx => by rw [h x (List.mem_range.mp hx)])
/-- which numbers have come -/
def seenB (l : List Int) (i : Nat) (j : Nat) : Bool := (l.take i).contains (j : Int)
theorem seenB_next {l : List Int} {i x : Nat} (hi : i < l.length) (hx : l[i] = (x : Int)) (m : Nat) : tbB m (fun j => if j = x then true else seenB l i j) = tbB m (seenB l (i + 1)) := by
  refine tbB_same (fun j _ => ?_)
  unfold seenB
  rw [List.take_succ_eq_append_getElem hi, List.contains_eq_any_beq, List.contains_eq_any_beq, List.any_append, hx]
  simp only [List.any_cons, List.any_nil, Bool.or_false]
  by_cases h : j = x
  · subst h; simp
  · rw [if_neg h]
    have : ((j : Int) == (x : Int)) = false := by simp; omega
    rw [this, Bool.or_false]

def rIsGrayCycle0 (l : List Int) (k : Int) : Bool := inB k 1 6 && (decide ((l.length : Int) = ((2 ^ k.toNat : Nat) : Int)) && cycB l)
theorem cycB_no {l : List Int} {i : Nat} (h : i < l.length) (hc : cycAt l i = false) : cycB l = false := by
  cases e : cycB l
  · rfl
  · have := List.all_eq_true.1 e i (List.mem_range.2 h)
    rw [hc] at this; cases this
theorem cycB_yes {l : List Int} (h : ∀ i, i < l.length → cycAt l i = true) : cycB l = true :=
  List.all_eq_true.2 (fun i hi => h i (List.mem_range.1 hi))
theorem getD_at {l : List Int} {i : Nat} (h : i < l.length) : l.getD i 0 = l[i] := by rw [List.getD_eq_getElem?_getD, List.getElem?_eq_getElem h]; rfl

set_option maxHeartbeats 8000000 in
theorem specIsGrayCycle_any (v : Value) (l : List Int) (k : Int) (w : World) (hr : RowAt w v (intsOf l)) (hl : l.length ≤ 1048576) (hi : ∀ n ∈ l, in64 n) (hk : in64 k) :
    Calls Try.prog 24 #[v, .int .i64 k] w fun e w' => e = .returned (.bool (rIsGrayCycle0 l k)) ∧ Below w.heap.size w w' := by
  obtain ⟨i0, hi0, hz0, hz1, hz2⟩ := info_parts infoBoolG
  have HK := Lib.hid (fun W => sIn_any k 1 6 W)
  have E := Lib.hid (show rIsGrayCycle0 l k = (inB k 1 6 && (decide ((l.length : Int) = ((2 ^ k.toNat : Nat) : Int)) && cycB l)) from rfl)
  have HR := Lib.hid (fun W (hb : Below w.heap.size w W) => (hr.below hb))
  obtain ⟨RES, hRES⟩ : ∃ R, R = rIsGrayCycle0 l k := ⟨_, rfl⟩
  rw [← hRES] at E ⊢
  clear hRES
  obtain ⟨a, cap, rfl, q1, q2, q3⟩ := hr.ints
  unfold maxLen at q2
  cases h : inB k 1 6
  · rw [h] at HK E
    clear h q3 hr
    go_enter Try.func24, Try.ntmps24
    go_wp2_with fail
    refine (HK.out _).mono ?_
    rintro e w' ⟨rfl, rfl⟩
    go_wp2_with fail
    go_ret
    exact ⟨by rw [E.out]; rfl, Below.refl _ _⟩
  rw [h] at HK E
  obtain ⟨k0, k1⟩ := inB_yes h
  obtain ⟨j, rfl⟩ : ∃ j : Nat, k = j := ⟨k.toNat, by omega⟩
  rw [Int.toNat_natCast] at E
  obtain ⟨p1, p2⟩ := pow_s16 (x := j) (by omega)
  have hpc : ((2 ^ j : Nat) : Int) = (2 : Int) ^ j := Int.natCast_pow _ _
  obtain ⟨Q, hQ⟩ : ∃ Q, Q = 2 ^ j := ⟨_, rfl⟩
  rw [← hQ] at p1 p2 hpc E
  have s2 : IntKind.i64.wrap ((2 : Int) ^ j) = Q := by rw [IntKind.wrap_i64, ← hpc]; omega
  clear h hQ hpc
  by_cases hlen : l.length = Q
  · have HLQ := Lib.hid hlen
    have E2 := Lib.hid (show RES = cycB l by rw [E.out, hlen]; simp)
    have HI := Lib.hid hi
    have HCN := Lib.hid (fun i (h : i < l.length) hc => cycB_no h hc)
    obtain ⟨n, hn⟩ : ∃ n, n = l.length := ⟨_, rfl⟩
    have HN := Lib.hid hn
    rw [← hn] at hlen hl q1 HR ⊢
    subst hlen
    clear E hn hi q3 hr
    go_enter Try.func24, Try.ntmps24
    go_wp2_with fail
    refine (HK.out _).mono ?_
    rintro e w' ⟨rfl, rfl⟩
    go_wp2_with (at_make; refine wpList_make_full _ rfl _ _ 40 rfl w.heap.size 4 i0 (.bool false) 1 Try.underlying40 hi0 hz0 hz1 _ _ _ _ n rfl rfl rfl rfl ?c1 ?c2 ?c3 ?_)
    case c1 => rw [hz2]; omega
    case c2 => unfold maxLen; omega
    case c3 => exact Nat.le_refl _
    intro w1 hown hgrow
    have hB1 : Below w.heap.size w w1 := (Below.refl _ _).grown hgrow (Nat.le_refl _) (fun k hk => by cases hk)
    have HO1 := Lib.hid (show w1.ownsRow w.heap.size 4 1 (.slice (some ⟨w.heap.size, 0, none⟩) n n) n (tbB n (seenB l 0)) by
      rw [toList_madeCells_one] at hown
      rw [show tbB n (seenB l 0) = tbB n (fun _ => false) from tbB_same (fun x _ => by simp [seenB]), ← tbB_no]; simpa using hown)
    clear hown hgrow
    go_wp2_with fail
    go_loopw [24] (fun i wr => ∃ m : Nat, m ≤ n ∧ i = .int .i64 m ∧ (∀ x, x < m → cycAt l x = true) ∧ wr.ownsRow w.heap.size 4 1 (.slice (some ⟨w.heap.size, 0, none⟩) n n) n (tbB n (seenB l m)) ∧ Below w.heap.size w wr) (fun i _ => n - (intOf i).toNat)
    case atStart => exact ⟨0, Nat.zero_le _, rfl, fun x hx => by omega, HO1.out, hB1⟩
    case round =>
      obtain ⟨m, hm, rfl, hall, hown, hB⟩ := hrel
      clear hB1 HO1
      have HA := Lib.hid hall
      clear hall
      by_cases hlt : m < n
      · have hml : m < l.length := by rw [← HN.out]; exact hlt
        obtain ⟨a3, cap3, e3, _, _, q3⟩ := (HR.out _ hB).ints
        injection e3 with e3 e5 e4
        clear e5
        subst e3 e4
        obtain ⟨b', off, rfl, hbb, hcell⟩ := q3.resolve_left (fun e => by rw [e] at hml; simp at hml)
        have hc := hcell m hml
        have hxi := HI.out _ (List.getElem_mem hml)
        have hgx := getD_at hml
        have HF := Lib.hid (HCN.out m hml)
        have hn0 : 0 < n := by omega
        have hmi : (m : Int) < n := by omega
        obtain ⟨x, hx⟩ : ∃ x, x = l[m] := ⟨_, rfl⟩
        have HX := Lib.hid hx
        rw [← hx] at hc hxi hgx
        have HS := Lib.hid (fun W => sIn_any x 0 ((n : Int) - 1) W)
        have hct : cycAt l m = (decide (0 ≤ x ∧ x ≤ (n : Int) - 1) && (!(l.take m).contains x && (decide (0 ≤ l.getD ((m + 1) % n) 0) && pw2 (x.toNat ^^^ (l.getD ((m + 1) % n) 0).toNat)))) := by
          rw [cycAt, hgx, ← HN.out]
        cases hin : inB x 0 ((n : Int) - 1)
        · have hd : ¬ (0 ≤ x ∧ x ≤ (n : Int) - 1) := fun h => by simp [inB, h.1, h.2] at hin
          have HV := Lib.hid (show RES = false by rw [E2.out]; exact HF.out (by rw [hct, decide_eq_false hd]; rfl))
          rw [hin] at HS
          clear hin hd hct hx hxi hgx q3 hcell
          go_wp2_with (go_at_call 28; refine (HS.out _).mono ?_; rintro e w' ⟨rfl, rfl⟩)
          go_ret
          exact ⟨by rw [HV.out]; rfl, hB⟩
        · obtain ⟨x0, x1⟩ := inB_yes hin
          rw [hin] at HS
          rw [decide_eq_true ⟨x0, x1⟩, Bool.true_and] at hct
          obtain ⟨X, rfl⟩ : ∃ X : Nat, x = X := ⟨x.toNat, by omega⟩
          have hXn : X < n := by omega
          rw [Int.toNat_natCast, show (l.take m).contains (X : Int) = seenB l m X from rfl] at hct
          have hcs : wr.cell? ⟨w.heap.size, X, none⟩ = some (.bool (seenB l m X)) := by
            have h1 := hown.cellAt X (by omega)
            rw [tbB_at hXn] at h1
            simpa using h1
          have hfs : wr.frozen? ⟨w.heap.size, X, none⟩ = false := by have := hown.frozenAt X; simpa using this
          have hXi : (X : Int) < n := by omega
          clear hin hgx
          cases hsn : seenB l m X
          · rw [hsn] at hcs hct
            rw [show (!false) = true from rfl, Bool.true_and] at hct
            have hst := (hown.stored X (.bool true)).1
            rw [tbB_set, seenB_next (x := X) hml (by rw [← HX.out]) n] at hst
            have hB2 := hB.setCell (p := ⟨w.heap.size, X, none⟩) (Nat.le_refl _) (.bool true)
            obtain ⟨P, hP⟩ : ∃ P, P = (m + 1) % n := ⟨_, rfl⟩
            have hPn : P < n := by rw [hP]; exact Nat.mod_lt _ hn0
            have hPl : P < l.length := by rw [← HN.out]; exact hPn
            have hrm : ((m : Int) + 1).tmod n = (P : Int) := by
              rw [Int.tmod_eq_emod_of_nonneg (by omega), hP, Int.natCast_emod, show ((m + 1 : Nat) : Int) = (m : Int) + 1 by omega]
            rw [← hP, getD_at hPl] at hct
            obtain ⟨a4, cap4, e4, _, _, q4⟩ := (HR.out _ hB2).ints
            injection e4 with e4 e6 e5
            clear e6
            subst e4 e5
            obtain ⟨b4, o4, e6, hbb4, hcell4⟩ := q4.resolve_left (fun e => by rw [e] at hml; simp at hml)
            injection e6 with e6
            injection e6 with e6 e7
            subst e6 e7
            have hcp := hcell4 P hPl
            have hyi := HI.out _ (List.getElem_mem hPl)
            obtain ⟨y, hy⟩ : ∃ y, y = l[P] := ⟨_, rfl⟩
            rw [← hy] at hcp hyi hct
            have hPi : (P : Int) < n := by omega
            have hnz : ¬ (n : Int) = 0 := by omega
            have hnzb : ((n : Int) == 0) = false := by simp; omega
            have HST := Lib.hid hst
            have HBB := Lib.hid hB2
            by_cases hy0 : y < 0
            · have HV := Lib.hid (show RES = false by rw [E2.out]; exact HF.out (by rw [hct, decide_eq_false (by omega)]; rfl))
              clear hst hB2 hct hcell hcell4 q3 q4 hown hP hy hx hsn
              go_wp2_with (go_at_call 28; refine (HS.out _).mono ?_; rintro e w' ⟨rfl, rfl⟩)
              go_ret
              exact ⟨by rw [HV.out]; rfl, HBB.out⟩
            · obtain ⟨Y, rfl⟩ : ∃ Y : Nat, y = Y := ⟨y.toNat, by omega⟩
              rw [decide_eq_true (by omega), Bool.true_and, Int.toNat_natCast] at hct
              have hY9 : Y < 9223372036854775808 := by have := hyi.2; omega
              have hxr := xor_i64 X Y (by omega) hY9
              have hz9 : X ^^^ Y < 2 ^ 63 := Nat.xor_lt_two_pow (by omega) (by omega)
              obtain ⟨Z, hZ⟩ : ∃ Z, Z = X ^^^ Y := ⟨_, rfl⟩
              rw [← hZ] at hxr hct hz9
              have HPW := Lib.hid (fun W => sPower_any Z W (by omega))
              cases hpw : pw2 Z
              · rw [hpw] at HPW hct
                have HV := Lib.hid (show RES = false by rw [E2.out]; exact HF.out hct)
                clear hst hB2 hct hcell hcell4 q3 q4 hown hP hy hx hsn hZ hz9 hpw
                go_wp2_with (first
                  | (go_at_call 28; refine (HS.out _).mono ?_; rintro e w' ⟨rfl, rfl⟩)
                  | (go_at_call 40; refine (HPW.out _).mono ?_; rintro e w' ⟨rfl, rfl⟩))
                go_ret
                exact ⟨by rw [HV.out]; rfl, HBB.out⟩
              · rw [hpw] at HPW hct
                have HA2 := Lib.hid (show ∀ x, x < m + 1 → cycAt l x = true from fun x hx => by
                  rcases Nat.lt_or_ge x m with h | h
                  · exact HA.out x h
                  · rw [show x = m by omega]; exact hct)
                clear hst hB2 hct hcell hcell4 q3 q4 hown hP hy hx hsn hZ hz9 hpw
                go_wp2_with (first
                  | (go_at_call 28; refine (HS.out _).mono ?_; rintro e w' ⟨rfl, rfl⟩)
                  | (go_at_call 40; refine (HPW.out _).mono ?_; rintro e w' ⟨rfl, rfl⟩))
                go_roundw
                case rel => exact ⟨m + 1, hlt, by go_num, HA2.out, HST.out, HBB.out⟩
                case measure => simp [intOf]; omega
          · rw [hsn] at hcs hct
            have HV := Lib.hid (show RES = false by rw [E2.out]; exact HF.out (by rw [hct]; rfl))
            clear hct hcell q3 hown hx hsn
            go_wp2_with (go_at_call 28; refine (HS.out _).mono ?_; rintro e w' ⟨rfl, rfl⟩)
            go_ret
            exact ⟨by rw [HV.out]; rfl, hB⟩
      · have HV := Lib.hid (show RES = true by rw [E2.out]; exact cycB_yes (fun i hi => HA.out i (by have := HN.out; omega)))
        have hn9 : ¬ (m : Int) < n := by omega
        go_wp2_with fail
        go_ret
        exact ⟨by rw [HV.out]; rfl, hB⟩
  · have HV := Lib.hid (show RES = false by rw [E.out, decide_eq_false (by omega)]; rfl)
    have hlI : ((l.length : Int) == Q) = false := by simp; omega
    have hlJ : ¬ (l.length : Int) = Q := by omega
    clear E q3 hr hi hlen
    go_enter Try.func24, Try.ntmps24
    go_wp2_with fail
    refine (HK.out _).mono ?_
    rintro e w' ⟨rfl, rfl⟩
    go_wp2_with fail
    go_ret
    exact ⟨by rw [HV.out]; rfl, Below.refl _ _⟩

end Go.Proofs.Ytleadjkndciniaa
