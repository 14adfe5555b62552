/- Places of coins, the program: the table of the least digits. -/
import Derived.Test.YtbfoaibgenepoaaLgCmp
import Derived.Test.YtbfoaibgenepoaaCoWt
import Derived.Test.YtbfoaibgenepoaaCoI6
set_option linter.unusedVariables false
set_option linter.unusedSimpArgs false
set_option maxRecDepth 100000
namespace Go.Proofs.Ytbfoaibgenepoaa
open Go.ChangeShapes Go.WideShapes Go.ChangeAt Go.RowKit

theorem infoSlI : (Try.prog.info? 23).map (fun i => (i.zero, i.size, i.bytes)) = some (some (.slice none 0 0), 1, 24) := by kernel_rfl

/-! ### a table of lists -/
def tblV (n : Nat) (V : Nat → Value) : List Value := (List.range (n + 1)).map V
theorem tblV_at {n : Nat} {V : Nat → Value} {x : Nat} (h : x ≤ n) : (tblV n V)[x]? = some (V x) := by
  simp only [tblV, List.getElem?_map, List.getElem?_range (show x < n + 1 by omega)]; rfl
def setV (V : Nat → Value) (x : Nat) (u : Value) (y : Nat) : Value := if y = x then u else V y
theorem tblV_set {n : Nat} {V : Nat → Value} {x : Nat} (u : Value) : (tblV n V).set x u = tblV n (setV V x u) := by
  apply List.ext_getElem (by simp [tblV])
  intro i h1 h2
  simp only [tblV, List.getElem_set, List.getElem_map, List.getElem_range, setV]
  by_cases h : x = i
  · subst h; simp
  · rw [if_neg h, if_neg (fun e => h e.symm)]
theorem tblV_rep (n : Nat) (u : Value) : List.replicate (n + 1) u = tblV n (fun _ => u) := by
  unfold tblV; apply List.ext_getElem (by simp); intro i h1 h2; simp

/-- a list of the table: it reads as d, and does not lie in block S -/
structure Gd (B S : Nat) (W : World) (u : Value) (d : List Int) : Prop where
  own : W.ownsRow B 3 1 u d.length (intsOf d)
  off : u.ownBlock ≠ some S
theorem Gd.below {B S : Nat} {W W' : World} {u : Value} {d : List Int} (h : Gd B S W u d) (hb : Below W.heap.size W W') : Gd B S W' u d := ⟨owns_below h.own hb, h.off⟩
theorem Gd.set {B S : Nat} {W : World} {u : Value} {d : List Int} (h : Gd B S W u d) (k : Nat) (z : Value) : Gd B S (W.setCell ⟨S, k, none⟩ z) u d := by
  refine ⟨?_, h.off⟩
  obtain ⟨hl, h2⟩ := h.own
  refine ⟨hl, ?_⟩
  rcases h2 with h2 | ⟨g, cap, cur, hv, hg, hh, r⟩
  · exact .inl h2
  · refine .inr ⟨g, cap, cur, hv, hg, ?_, r⟩
    rw [Below.heap_setCell W ⟨S, k, none⟩ z g (fun e => h.off (by subst hv; simp [Value.ownBlock, e]))]
    exact hh
theorem Gd.new {B S : Nat} {W W' : World} {u : Value} {d : List Int} (h : W'.ownsRow W.heap.size 3 1 u d.length (intsOf d)) (hB : B ≤ W.heap.size) (hS : S < W.heap.size) : Gd B S W' u d :=
  ⟨owns_mono h hB, fun e => by have := (h.lt S e).1; omega⟩

theorem dig_le : ∀ (d l : List Int), d.length = l.length → (∀ y ∈ d, 0 ≤ y) → (∀ c ∈ l, 1 ≤ c) → ∀ y ∈ d, y ≤ dotI d l
  | [], _, _, _, _, y, hy => by simp at hy
  | _ :: _, [], h, _, _, _, _ => by simp at h
  | a :: d, c :: l, h, hd, hl, y, hy => by
    have h1 := hd a (by simp)
    have h2 := hl c (by simp)
    have h3 := dot_nonneg d l (fun z hz => hd z (by simp [hz])) (fun z hz => hl z (by simp [hz]))
    have h4 : a * 1 ≤ a * c := Int.mul_le_mul_of_nonneg_left h2 h1
    rw [dotI]
    rcases List.mem_cons.1 hy with rfl | hy
    · omega
    · have h5 := dig_le d l (by simpa using h) (fun z hz => hd z (by simp [hz])) (fun z hz => hl z (by simp [hz])) y hy
      omega
theorem wDg_dgs {l : List Int} (h : Coins l) {j : Nat} (hj : j < l.length) {x : Nat} (hx : x ≤ 400) : Dgs (wDg l j x) ∧ (wDg l j x).length = l.length ∧ ∀ y ∈ wDg l j x, y ≤ 400 := by
  have h1 := (wDg_lst h j hj x).sol
  have h9 : ∀ y ∈ wDg l j x, y ≤ 400 := fun y hy => by
    have h2 := dig_le _ l h1.len h1.pos (fun c hc => (h.bd c hc).1) y hy
    rw [h1.val] at h2
    omega
  exact ⟨⟨by rw [h1.len]; exact h.len, fun y hy => ⟨h1.pos y hy, by have := h9 y hy; omega⟩⟩, h1.len, h9⟩
theorem inc_le {M : Int} (hM : 0 ≤ M) (k : Nat) (d : List Int) (h : ∀ y ∈ d, y ≤ M) : ∀ y ∈ inc k d, y ≤ M + 1 := fun y hy => by
  rcases List.mem_or_eq_of_mem_set hy with h1 | h1
  · have := h y h1; omega
  · rw [h1, List.getD_eq_getElem?_getD]
    cases e : d[k]? with
    | none => simp; omega
    | some z => have := h z (List.mem_of_getElem? e); simp; omega
theorem mixW_skip {α : Type} {g : α → α} {h : α → α → α} {c : Nat} {f : Nat → α} {X y : Nat} (hy : y ≠ X) : mixW g h c f (X + 1) y = mixW g h c f X y := by
  rw [mixW, mixW]
  by_cases hl : y < X
  · rw [if_pos hl, if_pos (by omega)]
  · rw [if_neg hl, if_neg (by omega)]

/-- what the table's function answers -/
def WayAns (B n L : Nat) (d : List Int) (w : World) (e : Ending) (w' : World) : Prop :=
  ∃ g cap u, e = .returned (.slice (some ⟨g, 0, none⟩) (n + 1) cap) ∧ w'.cell? ⟨g, n, none⟩ = some u ∧ w'.ownsRow B 3 1 u L (intsOf d) ∧ Below w.heap.size w w'
theorem owns_drewN_l {w : World} {base : Nat} {e : TypeId} {v : Value} {n : Nat} {xs : List Value} (h : w.ownsRow base e 1 v n xs) (q : Nat) : (w.drewN q).ownsRow base e 1 v n xs := h

set_option maxHeartbeats 16000000 in
theorem wayL_any (B n : Nat) (v vz : Value) (l : List Int) (q : Nat) (w : World) (hr : RowAt w v (intsOf l)) (hco : Coins l) (hn : n ≤ 400) (hq : l.length = q + 1)
    (hz : w.ownsRow B 3 1 vz l.length (intsOf (List.replicate l.length 0))) (hBw : B ≤ w.heap.size) :
    Calls Try.prog 51 #[.int .i64 n, v, vz, .func (.func 47) #[] #[], .func (.func 49) #[] #[]] w fun e w' => WayAns B n l.length (wDg l q n) w e w' := by
  obtain ⟨i0, hi0, hz0, hz1, hz2⟩ := info_parts infoSlI
  have hl10 := hco.len
  have HRow := Lib.hid (fun W (hb : Below w.heap.size w W) => hr.below hb)
  have HDG := Lib.hid (fun j (hj : j < l.length) x (hx : x ≤ 400) => wDg_dgs hco hj hx)
  have HLB := Lib.hid hco.bd
  have h0 : 0 < l.length := by omega
  have HZ := Lib.hid (show Gd B w.heap.size w vz (wDg l 0 0) from ⟨by
    have e : wDg l 0 0 = List.replicate l.length 0 := rfl
    rw [e, List.length_replicate]; exact hz, fun e => by have := (hz.lt _ e).2; omega⟩)
  obtain ⟨az, cz, ez, _, _⟩ := owns_form hz
  subst ez
  obtain ⟨a, cap, rfl, q1, q2, q3⟩ := hr.ints
  obtain ⟨K, hK⟩ : ∃ K : Nat, (n : Int) + 1 = K := ⟨n + 1, by omega⟩
  have hw0 : IntKind.i64.wrap (K : Int) = K := by rw [IntKind.wrap_i64]; omega
  have HM := Lib.hid (fun v d k W h1 h2 h3 => more_any v d k W h1 h2 h3)
  have HLS := Lib.hid (fun va vc a c W h1 h2 h3 h4 h5 => least_any va vc a c W h1 h2 h3 h4 h5)
  have HQ := Lib.hid hq
  clear hr q1 q2 q3 hco hz hq
  go_enter Try.func51, Try.ntmps51
  go_wp2_with (at_make; refine wpList_make_full _ rfl _ _ 53 rfl w.heap.size 23 i0 (.slice none 0 0) 1 Try.underlying53 hi0 hz0 hz1 _ _ _ _ K rfl rfl rfl rfl ?c1 ?c2 ?c3 ?_)
  case c1 => rw [hz2]; omega
  case c2 => unfold maxLen; omega
  case c3 => exact Nat.le_refl _
  intro w1 hown hgrow
  have hB1 : Below w.heap.size w w1 := (Below.refl _ _).grown hgrow (Nat.le_refl _) (fun k hk => by cases hk)
  have hKk : K = n + 1 := by omega
  have hO1 : w1.ownsRow w.heap.size 23 1 (.slice (some ⟨w.heap.size, 0, none⟩) K K) K (tblV n (fun _ => .slice none 0 0)) := by
    rw [toList_madeCells_one] at hown; rw [← tblV_rep, ← hKk]; simpa using hown
  have hc1 : w1.cell? ⟨w.heap.size, 0, none⟩ = some (.slice none 0 0) := by
    have := hO1.cellAt 0 (by omega)
    rw [this, tblV_at (Nat.zero_le _)]
  have hf1 : w1.frozen? ⟨w.heap.size, 0, none⟩ = false := hO1.frozenAt 0
  have hs1 := (hO1.stored 0 (.slice az l.length cz)).1
  rw [tblV_set] at hs1
  have HS1 := Lib.hid hs1
  have HZ1 := Lib.hid ((HZ.out.below hB1).set 0 (.slice az l.length cz))
  have hK0 : (0 : Int) < K := by omega
  have hK1 : 0 < K := by omega
  have HKk := Lib.hid hKk
  clear hs1 hown hgrow hKk hO1
  go_wp2_with fail
  go_loopw [23] (fun i wr => ∃ (x : Nat) (V : Nat → Value), x ≤ n ∧ i = .int .i64 x ∧ wr.ownsRow w.heap.size 23 1 (.slice (some ⟨w.heap.size, 0, none⟩) K K) K (tblV n V) ∧ (∀ y ≤ x, Gd B w.heap.size wr (V y) (wDg l 0 y)) ∧ Below w.heap.size w wr) (fun i _ => n - (intOf i).toNat)
  case atStart => exact ⟨0, _, Nat.zero_le _, rfl, HS1.out, fun y hy => by
    obtain rfl : y = 0 := by omega
    exact HZ1.out, hB1.setCell (p := ⟨w.heap.size, 0, none⟩) (Nat.le_refl _) _⟩
  case round =>
    obtain ⟨x, V, hx, rfl, hown, hgd, hB⟩ := hrel
    clear hB1 hc1 hf1 HS1 HZ1
    have hsz := hB.size
    have hSlt : w.heap.size < wr.heap.size := (hown.lt w.heap.size rfl).2
    by_cases hxn : x < n
    · have hKk := HKk.out
      have hgx := hgd x (Nat.le_refl _)
      obtain ⟨hdg, hlen, _⟩ := HDG.out 0 h0 x (by omega)
      obtain ⟨ax, cx, ex, _, _⟩ := owns_form hgx.own
      rw [hlen] at ex
      have hcx : wr.cell? ⟨w.heap.size, x, none⟩ = some (.slice ax l.length cx) := by
        have h1 := hown.cellAt x (by omega)
        rw [tblV_at (by omega), ex] at h1
        simpa using h1
      have HMC := HM.out (.slice ax l.length cx) (wDg l 0 x) 0 wr (by rw [← ex]; exact RowAt.of_owns hgx.own) hdg (by omega)
      rw [show inc 0 (wDg l 0 x) = wDg l 0 (x + 1) from rfl, hlen, show ((0 : Nat) : Int) = 0 from rfl] at HMC
      have HMC := Lib.hid HMC
      have HLN := Lib.hid (HDG.out 0 h0 (x + 1) (by omega)).2.1
      have HOW := Lib.hid (And.intro hown (And.intro hgd hB))
      have k1 : (x : Int) < K := by omega
      have k2 : (x : Int) + 1 < K := by omega
      have k3 : x < K := by omega
      have k4 : x + 1 < K := by omega
      have k5 : ((x : Int) + 1).toNat = x + 1 := by omega
      obtain ⟨D, hD⟩ : ∃ D, D = wDg l 0 (x + 1) := ⟨_, rfl⟩
      rw [← hD] at HMC HLN
      have HD := Lib.hid hD
      clear hKk hown hgd hgx hdg hlen hB ex hD
      go_wp2_with fail
      refine HMC.out.mono ?_
      rintro e w2 ⟨v2, rfl, hO2, hB2⟩
      have hown2 := owns_below HOW.out.1 hB2
      obtain ⟨y2, hc2⟩ : ∃ y, w2.cell? ⟨w.heap.size, x + 1, none⟩ = some y := ⟨V (x + 1), by
        have h1 := hown2.cellAt (x + 1) (by omega)
        rw [tblV_at (by omega)] at h1; simpa using h1⟩
      have hf2 : w2.frozen? ⟨w.heap.size, x + 1, none⟩ = false := by
        have h1 := hown2.frozenAt (x + 1); simpa using h1
      obtain ⟨a2, c2, e2, _, _⟩ := owns_form hO2
      subst e2
      have HO2 := Lib.hid hO2; have HB2 := Lib.hid hB2; have HW2 := Lib.hid hown2
      clear hO2 hB2 hown2
      have HGN := Lib.hid (show Gd B w.heap.size w2 (.slice a2 l.length c2) D from Gd.new (W := wr) (by rw [HLN.out]; exact HO2.out) (by omega) hSlt)
      have hst := (HW2.out.stored (x + 1) (.slice a2 l.length c2)).1
      rw [tblV_set] at hst
      have HST := Lib.hid hst
      have HGA := Lib.hid (show ∀ y ≤ x + 1, Gd B w.heap.size (w2.setCell ⟨w.heap.size, x + 1, none⟩ (.slice a2 l.length c2)) (setV V (x + 1) (.slice a2 l.length c2) y) (wDg l 0 y) from fun y hy => by
        rw [setV]
        by_cases e : y = x + 1
        · rw [if_pos e, e, ← HD.out]; exact HGN.out.set _ _
        · rw [if_neg e]; exact ((HOW.out.2.1 y (by omega)).below HB2.out).set _ _)
      have HBE := Lib.hid (show Below w.heap.size w (w2.setCell ⟨w.heap.size, x + 1, none⟩ (.slice a2 l.length c2)) from (HOW.out.2.2.trans (HB2.out.mono hsz)).setCell (p := ⟨w.heap.size, x + 1, none⟩) (Nat.le_refl _) _)
      clear hst
      go_wp2_with fail
      go_roundw
      case rel => exact ⟨x + 1, _, hxn, by go_num, HST.out, HGA.out, HBE.out⟩
      case measure => simp [intOf]; omega
    · have HO := Lib.hid (And.intro hown (And.intro (show ∀ y ≤ n, Gd B w.heap.size wr (V y) (wDg l 0 y) from fun y hy => hgd y (by omega)) hB))
      have hx9 : ¬ (x : Int) < n := by omega
      clear hown hgd hB
      go_wp2_with fail
      go_loopw [13] (fun i wr => ∃ (j : Nat) (V : Nat → Value), j < l.length ∧ i = .int .i64 ((j : Int) + 1) ∧ wr.ownsRow w.heap.size 23 1 (.slice (some ⟨w.heap.size, 0, none⟩) K K) K (tblV n V) ∧ (∀ y ≤ n, Gd B w.heap.size wr (V y) (wDg l j y)) ∧ Below w.heap.size w wr) (fun i _ => l.length - (intOf i).toNat)
      case atStart => exact ⟨0, _, h0, rfl, HO.out.1, HO.out.2.1, HO.out.2.2⟩
      case round =>
        obtain ⟨j, V, hj, rfl, hown, hgd, hB⟩ := hrel
        clear HO hsz hSlt
        by_cases hjl : j + 1 < l.length
        · have hrw := HRow.out _ hB
          obtain ⟨a3, cap3, e3, _, _, q3⟩ := hrw.ints
          injection e3 with e3 _ e4
          subst e3 e4
          obtain ⟨b', off, rfl, hbb, hcell⟩ := q3.resolve_left (fun e => by rw [e] at h0; simp at h0)
          have hc := hcell (j + 1) hjl
          have hcb := HLB.out _ (List.getElem_mem hjl)
          have HF0 := Lib.hid (fun x hx => HDG.out j hj x hx)
          have HF1 := Lib.hid (fun x hx => HDG.out (j + 1) hjl x hx)
          have HTT := Lib.hid (show wDg l (j + 1) = wU (inc (j + 1)) pickC (l.getD (j + 1) 0).toNat (wDg l j) from rfl)
          have hgd' : l.getD (j + 1) 0 = l[j + 1] := by rw [List.getD_eq_getElem?_getD, List.getElem?_eq_getElem hjl]; rfl
          rw [hgd'] at HTT
          obtain ⟨c, hce⟩ : ∃ c, c = l[j + 1].toNat := ⟨_, rfl⟩
          have hc9 : l[j + 1] = (c : Int) := by omega
          rw [← hce] at HTT
          rw [hc9] at hc hcb
          have hc0 : 0 < c := by omega
          have hc1 : c ≤ 1000 := by omega
          rw [HTT.out] at HF1
          obtain ⟨f, hf⟩ : ∃ f, f = wDg l j := ⟨_, rfl⟩
          rw [← hf] at HF0 HF1 HTT hgd
          have HOW := Lib.hid (And.intro hown (And.intro hgd hB))
          have hj1 : (j : Int) + 1 < l.length := by omega
          have hj2 : ((j : Int) + 1).toNat = j + 1 := by omega
          have wKc : IntKind.i64.wrap ((n : Int) + 1 - c) = (n : Int) + 1 - c := by rw [IntKind.wrap_i64]; omega
          have wKc2 : IntKind.i64.wrap ((K : Int) - c) = (n : Int) + 1 - c := by rw [IntKind.wrap_i64]; omega
          clear hrw q3 hce hc9 hcb hf hown hB hgd hgd'
          have HCE := Lib.hid hcell
          clear hcell
          go_wp2_with fail
          go_loopw [50] (fun x wr => ∃ (X : Nat) (V : Nat → Value), (X + c ≤ n + 1 ∨ X = 0) ∧ x = .int .i64 X ∧ wr.ownsRow w.heap.size 23 1 (.slice (some ⟨w.heap.size, 0, none⟩) K K) K (tblV n V) ∧ (∀ y ≤ n, Gd B w.heap.size wr (V y) (mixW (inc (j + 1)) pickC c f (X + c) y)) ∧ Below w.heap.size w wr) (fun x _ => n + 1 - c - (intOf x).toNat)
          case atStart => exact ⟨0, V, .inr rfl, rfl, HOW.out.1, fun y hy => by
            rw [mixW]; split
            · rw [wU_less (by omega)]; exact HOW.out.2.1 y hy
            · exact HOW.out.2.1 y hy, HOW.out.2.2⟩
          case round =>
            obtain ⟨D, V, hcX, rfl, hown, hgd, hB⟩ := hrel
            clear HOW
            have hsz := hB.size
            have hSlt : w.heap.size < wr.heap.size := (hown.lt w.heap.size rfl).2
            by_cases hx : D + c ≤ n
            · obtain ⟨X, hD⟩ : ∃ X : Nat, X = D + c := ⟨D + c, rfl⟩
              have hKk := HKk.out
              rw [← hD] at hgd
              have hgX := hgd X (by omega)
              rw [mixW, if_neg (by omega)] at hgX
              have hgD := hgd D (by omega)
              rw [mixW, if_pos (by omega)] at hgD
              obtain ⟨ax, cx, ex, _, _⟩ := owns_form hgX.own
              obtain ⟨ad, cd, ed, _, _⟩ := owns_form hgD.own
              obtain ⟨dgX, lnX, _⟩ := HF0.out X (by omega)
              obtain ⟨dgD, lnD, d4D⟩ := HF1.out D (by omega)
              obtain ⟨dgY, lnY, _⟩ := HF1.out X (by omega)
              have b3 := wU_more (g := inc (j + 1)) (h := pickC) (f := f) hc0 (show c ≤ X by omega)
              rw [show X - c = D by omega] at b3
              rw [lnX] at ex
              rw [lnD] at ed
              have hcx : wr.drew.cell? ⟨w.heap.size, X, none⟩ = some (.slice ax l.length cx) := by
                have h1 := hown.cellAt X (by omega)
                rw [tblV_at (by omega), ex] at h1
                simpa using h1
              have hcd : wr.drew.cell? ⟨w.heap.size, D, none⟩ = some (.slice ad l.length cd) := by
                have h1 := hown.cellAt D (by omega)
                rw [tblV_at (by omega), ed] at h1
                simpa using h1
              have hrw := HRow.out _ hB
              have hcc : wr.cell? ⟨b', off + (j + 1), none⟩ = some (.int .i64 c) := by
                obtain ⟨a5, cap5, e5, _, _, q5⟩ := hrw.ints
                injection e5 with e5 _ _
                subst e5
                obtain ⟨b6, o6, e6, _, h6⟩ := q5.resolve_left (fun e => by rw [e] at h0; simp at h0)
                injection e6 with e6
                injection e6 with e6 e7
                subst e6 e7
                rw [h6 (j + 1) hjl]
                exact congrArg (fun z => some (Value.int .i64 z)) (by have h7 := HCE.out (j + 1) hjl; rw [hc] at h7; injection h7 with h7; injection h7 with _ h7; exact h7.symm)
              obtain ⟨YX, hYX⟩ : ∃ d, d = f X := ⟨_, rfl⟩
              obtain ⟨YD, hYD⟩ : ∃ d, d = wU (inc (j + 1)) pickC c f D := ⟨_, rfl⟩
              obtain ⟨YN, hYN⟩ : ∃ d, d = wU (inc (j + 1)) pickC c f X := ⟨_, rfl⟩
              rw [← hYX] at hgX dgX lnX b3
              rw [← hYD] at hgD dgD lnD d4D b3
              rw [← hYN] at dgY lnY b3
              have HYN := Lib.hid hYN
              have hMC := HM.out (.slice ad l.length cd) YD (j + 1) wr.drew (by rw [← ed]; exact RowAt.of_owns (show wr.drew.ownsRow _ _ _ _ _ _ from hgD.own)) dgD (by omega)
              rw [lnD, show (((j + 1 : Nat)) : Int) = (j : Int) + 1 by omega] at hMC
              have HMC := Lib.hid hMC
              obtain ⟨NW, hNW⟩ : ∃ d, d = inc (j + 1) YD := ⟨_, rfl⟩
              rw [← hNW] at HMC b3
              have hnw : Dgs NW ∧ NW.length = l.length := by
                have e := inc_len (j + 1) YD
                rw [← hNW, lnD] at e
                refine ⟨⟨by omega, fun y hy => ?_⟩, e⟩
                rw [hNW] at hy
                exact ⟨inc_pos (fun z hz => (dgD.2 z hz).1) y hy, by have := inc_le (by omega) _ _ d4D y hy; omega⟩
              have HDX := Lib.hid hD
              have ww2 : IntKind.i64.wrap ((D : Int) + c) = X := by rw [IntKind.wrap_i64]; omega
              have ww2' : (D : Int) + c = X := by omega
              have ww3 : IntKind.i64.wrap ((D : Int) + 1) = (D : Int) + 1 := by rw [IntKind.wrap_i64]; omega
              have k1 : (X : Int) < K := by omega
              have k2 : (D : Int) < K := by omega
              have k3 : X < K := by omega
              have k4 : D < K := by omega
              have k5 : (D : Int) < (n : Int) + 1 - c := by omega
              cases hbf : bfC YX NW
              · have HB := Lib.hid (show YN = NW by rw [b3, pickC, hbf]; rfl)
                have HMC2 := Lib.hid (show Calls Try.prog 47 #[.slice ad l.length cd, .int .i64 ((j : Int) + 1)] wr.drew (fun e w2 => ∃ a2 c2, e = .returned (.slice a2 l.length c2) ∧ Hid (w2.ownsRow wr.drew.heap.size 3 1 (.slice a2 l.length c2) l.length (intsOf NW) ∧ Below wr.drew.heap.size wr.drew w2) ∧ w2.cell? ⟨w.heap.size, X, none⟩ = some (.slice ax l.length cx) ∧ Hid (Calls Try.prog 49 #[.slice ax l.length cx, .slice a2 l.length c2] w2 (fun e w3 => e = .returned (Value.slice a2 l.length c2) ∧ w3.cell? ⟨w.heap.size, X, none⟩ = some (.slice ax l.length cx) ∧ w3.frozen? ⟨w.heap.size, X, none⟩ = false ∧ Hid (Below w2.heap.size w2 w3)))) from HMC.out.mono (by
                  rintro e w2 ⟨v2, rfl, hO2, hB2⟩
                  obtain ⟨a2, c2, e2, _, _⟩ := owns_form hO2
                  subst e2
                  have hB2' : Below wr.heap.size wr w2 := (show Below wr.heap.size wr wr.drew from (Below.refl _ _).drew).trans hB2
                  have hrX : RowAt w2 (.slice ax l.length cx) (intsOf YX) := by
                    have h := owns_below hgX.own hB2'
                    rw [lnX, ex] at h
                    exact RowAt.of_owns h
                  have hl2 := HLS.out (.slice ax l.length cx) (.slice a2 l.length c2) YX NW w2 hrX (RowAt.of_owns hO2) dgX hnw.1 (by omega)
                  rw [hbf] at hl2
                  refine ⟨a2, c2, rfl, Lib.hid ⟨hO2, hB2⟩, ?_, Lib.hid (hl2.mono ?_)⟩
                  · rw [hB2'.cell (p := ⟨w.heap.size, X, none⟩) hSlt]; exact hcx
                  · rintro e w3 ⟨rfl, hB3⟩
                    have hB23 : Below wr.heap.size wr w3 := hB2'.trans (hB3.mono hB2'.size)
                    refine ⟨rfl, by rw [hB23.cell (p := ⟨w.heap.size, X, none⟩) hSlt]; exact hcx, ?_, Lib.hid hB3⟩
                    have := (owns_below hown hB23).frozenAt X
                    simpa using this))
                have HEND := Lib.hid (fun a2 c2 (w2 w3 : World) (h1 : w2.ownsRow wr.drew.heap.size 3 1 (.slice a2 l.length c2) l.length (intsOf NW)) (h2 : Below wr.drew.heap.size wr.drew w2) (h3 : Below w2.heap.size w2 w3) => show (w3.setCell ⟨w.heap.size, X, none⟩ (Value.slice a2 l.length c2)).ownsRow w.heap.size 23 1 (.slice (some ⟨w.heap.size, 0, none⟩) K K) K (tblV n (setV V X (Value.slice a2 l.length c2))) ∧ (∀ y ≤ n, Gd B w.heap.size (w3.setCell ⟨w.heap.size, X, none⟩ (Value.slice a2 l.length c2)) (setV V X (Value.slice a2 l.length c2) y) (mixW (inc (j + 1)) pickC c f (D + 1 + c) y)) ∧ Below w.heap.size w (w3.setCell ⟨w.heap.size, X, none⟩ (Value.slice a2 l.length c2)) from by
                  have hB2' : Below wr.heap.size wr w2 := (show Below wr.heap.size wr wr.drew from (Below.refl _ _).drew).trans h2
                  have hB23 : Below wr.heap.size wr w3 := hB2'.trans (h3.mono hB2'.size)
                  have hst := ((owns_below hown hB23).stored X (Value.slice a2 l.length c2)).1
                  rw [tblV_set] at hst
                  refine ⟨hst, fun y hy => ?_, (hB.trans (hB23.mono hsz)).setCell (p := ⟨w.heap.size, X, none⟩) (Nat.le_refl _) _⟩
                  rw [show D + 1 + c = X + 1 by omega, setV]
                  by_cases e : y = X
                  · subst e
                    rw [if_pos rfl, mixW, if_pos (by omega), ← HYN.out, HB.out]
                    refine Gd.set ?_ _ _
                    exact Gd.new (W := wr.drew) (by rw [hnw.2]; exact owns_below h1 h3) (show B ≤ wr.heap.size by omega) hSlt
                  · rw [if_neg e, mixW_skip e]
                    exact ((hgd y hy).below hB23).set _ _)
                clear hKk hcX hD hbf HM HLS HDG HF0 HF1 HTT HCE HMC hgX hgD dgX dgD dgY lnX lnD lnY d4D b3 hnw hYX hYD hYN hNW hown hgd hB hrw hc ex ed HB HYN
                go_wp2_with fail
                go_region_with (first
                  | (go_at_call 47; refine HMC2.out.mono ?_; rintro e w2 ⟨a2, c2, rfl, HA2, hc2, HL2⟩)
                  | (go_at_call 49; refine HL2.out.mono ?_; rintro e w3 ⟨rfl, hc3, hf3, HB3⟩))
                all_goals
                  have HE2 := Lib.hid (HEND.out a2 c2 w2 w3 HA2.out.1 HA2.out.2 HB3.out)
                  go_wp2_with fail
                  go_roundw
                  case rel => exact ⟨D + 1, _, .inl (by have := HDX.out; omega), by go_num, HE2.out.1, HE2.out.2.1, HE2.out.2.2⟩
                  case measure => simp [intOf]; omega
              · have HB := Lib.hid (show YN = YX by rw [b3, pickC, hbf]; rfl)
                have HMC2 := Lib.hid (show Calls Try.prog 47 #[.slice ad l.length cd, .int .i64 ((j : Int) + 1)] wr.drew (fun e w2 => ∃ a2 c2, e = .returned (.slice a2 l.length c2) ∧ Hid (w2.ownsRow wr.drew.heap.size 3 1 (.slice a2 l.length c2) l.length (intsOf NW) ∧ Below wr.drew.heap.size wr.drew w2) ∧ w2.cell? ⟨w.heap.size, X, none⟩ = some (.slice ax l.length cx) ∧ Hid (Calls Try.prog 49 #[.slice ax l.length cx, .slice a2 l.length c2] w2 (fun e w3 => e = .returned (Value.slice ax l.length cx) ∧ w3.cell? ⟨w.heap.size, X, none⟩ = some (.slice ax l.length cx) ∧ w3.frozen? ⟨w.heap.size, X, none⟩ = false ∧ Hid (Below w2.heap.size w2 w3)))) from HMC.out.mono (by
                  rintro e w2 ⟨v2, rfl, hO2, hB2⟩
                  obtain ⟨a2, c2, e2, _, _⟩ := owns_form hO2
                  subst e2
                  have hB2' : Below wr.heap.size wr w2 := (show Below wr.heap.size wr wr.drew from (Below.refl _ _).drew).trans hB2
                  have hrX : RowAt w2 (.slice ax l.length cx) (intsOf YX) := by
                    have h := owns_below hgX.own hB2'
                    rw [lnX, ex] at h
                    exact RowAt.of_owns h
                  have hl2 := HLS.out (.slice ax l.length cx) (.slice a2 l.length c2) YX NW w2 hrX (RowAt.of_owns hO2) dgX hnw.1 (by omega)
                  rw [hbf] at hl2
                  refine ⟨a2, c2, rfl, Lib.hid ⟨hO2, hB2⟩, ?_, Lib.hid (hl2.mono ?_)⟩
                  · rw [hB2'.cell (p := ⟨w.heap.size, X, none⟩) hSlt]; exact hcx
                  · rintro e w3 ⟨rfl, hB3⟩
                    have hB23 : Below wr.heap.size wr w3 := hB2'.trans (hB3.mono hB2'.size)
                    refine ⟨rfl, by rw [hB23.cell (p := ⟨w.heap.size, X, none⟩) hSlt]; exact hcx, ?_, Lib.hid hB3⟩
                    have := (owns_below hown hB23).frozenAt X
                    simpa using this))
                have HEND := Lib.hid (fun a2 c2 (w2 w3 : World) (h1 : w2.ownsRow wr.drew.heap.size 3 1 (.slice a2 l.length c2) l.length (intsOf NW)) (h2 : Below wr.drew.heap.size wr.drew w2) (h3 : Below w2.heap.size w2 w3) => show (w3.setCell ⟨w.heap.size, X, none⟩ (Value.slice ax l.length cx)).ownsRow w.heap.size 23 1 (.slice (some ⟨w.heap.size, 0, none⟩) K K) K (tblV n (setV V X (Value.slice ax l.length cx))) ∧ (∀ y ≤ n, Gd B w.heap.size (w3.setCell ⟨w.heap.size, X, none⟩ (Value.slice ax l.length cx)) (setV V X (Value.slice ax l.length cx) y) (mixW (inc (j + 1)) pickC c f (D + 1 + c) y)) ∧ Below w.heap.size w (w3.setCell ⟨w.heap.size, X, none⟩ (Value.slice ax l.length cx)) from by
                  have hB2' : Below wr.heap.size wr w2 := (show Below wr.heap.size wr wr.drew from (Below.refl _ _).drew).trans h2
                  have hB23 : Below wr.heap.size wr w3 := hB2'.trans (h3.mono hB2'.size)
                  have hst := ((owns_below hown hB23).stored X (Value.slice ax l.length cx)).1
                  rw [tblV_set] at hst
                  refine ⟨hst, fun y hy => ?_, (hB.trans (hB23.mono hsz)).setCell (p := ⟨w.heap.size, X, none⟩) (Nat.le_refl _) _⟩
                  rw [show D + 1 + c = X + 1 by omega, setV]
                  by_cases e : y = X
                  · subst e
                    rw [if_pos rfl, mixW, if_pos (by omega), ← HYN.out, HB.out]
                    refine Gd.set ?_ _ _
                    rw [← ex]; exact hgX.below hB23
                  · rw [if_neg e, mixW_skip e]
                    exact ((hgd y hy).below hB23).set _ _)
                clear hKk hcX hD hbf HM HLS HDG HF0 HF1 HTT HCE HMC hgX hgD dgX dgD dgY lnX lnD lnY d4D b3 hnw hYX hYD hYN hNW hown hgd hB hrw hc ex ed HB HYN
                go_wp2_with fail
                go_region_with (first
                  | (go_at_call 47; refine HMC2.out.mono ?_; rintro e w2 ⟨a2, c2, rfl, HA2, hc2, HL2⟩)
                  | (go_at_call 49; refine HL2.out.mono ?_; rintro e w3 ⟨rfl, hc3, hf3, HB3⟩))
                all_goals
                  have HE2 := Lib.hid (HEND.out a2 c2 w2 w3 HA2.out.1 HA2.out.2 HB3.out)
                  go_wp2_with fail
                  go_roundw
                  case rel => exact ⟨D + 1, _, .inl (by have := HDX.out; omega), by go_num, HE2.out.1, HE2.out.2.1, HE2.out.2.2⟩
                  case measure => simp [intOf]; omega
            · have HO := Lib.hid (And.intro hown (And.intro (show ∀ y ≤ n, Gd B w.heap.size wr (V y) (wDg l (j + 1) y) from fun y hy => by
                have h := hgd y hy
                rw [mixW, if_pos (by omega)] at h
                rw [HTT.out]; exact h) hB))
              have hx9 : ¬ (D : Int) < (n : Int) + 1 - c := by omega
              clear hown hcX hgd hB
              go_wp2_with fail
              go_roundw
              case rel => exact ⟨j + 1, V, hjl, by go_num, HO.out.1, HO.out.2.1, HO.out.2.2⟩
              case measure => simp [intOf]; omega
        · have hje : j = q := by have := HQ.out; omega
          subst hje
          have HO := Lib.hid (show WayAns B n l.length (wDg l j n) w (.returned (.slice (some ⟨w.heap.size, 0, none⟩) K K)) wr from by
            refine ⟨w.heap.size, K, V n, by rw [HKk.out], ?_, ?_, hB⟩
            · have h1 := hown.cellAt n (by have := HKk.out; omega)
              rw [tblV_at (Nat.le_refl _)] at h1
              simpa using h1
            · have h1 := (hgd n (Nat.le_refl _)).own
              rw [(HDG.out j hj n hn).2.1] at h1
              exact h1)
          have hj9 : ¬ (j : Int) + 1 < l.length := by omega
          clear hown hgd hB
          go_wp2_with fail
          go_ret
          exact HO.out

end Go.Proofs.Ytbfoaibgenepoaa
