/- The cursor out of which the laws draw their inputs: each draw is a number from 0 to 255, and only the cursor's own block turns. -/
import Derived.Test.YtleadjkndciniaaDoorRow
import Derived.Maps.AppendAt
set_option linter.unusedVariables false
set_option linter.unusedSimpArgs false
set_option maxRecDepth 100000
namespace Go.Proofs.YtleadjkndciniaaDoor
open Go.ChangeShapes Go.WideShapes Go.ChangeAt Go.RowKit

/-- block g is a cursor over bytes that lie below it -/
def Cur (w : World) (g : Nat) : Prop :=
  ∃ (a : Option Addr) (n cap i : Nat) (h : Int) (zs : List Int), w.heap[g]? = some (.cells #[.slice a n cap, .int .i64 i, .int .i64 h] 62 (0, 0)) ∧ n ≤ cap ∧ cap ≤ maxLen ∧ i ≤ n ∧ zs.length = n ∧
    (n = 0 ∨ ∃ b off, a = some ⟨b, off, none⟩ ∧ b < g ∧ ∀ k (hk : k < zs.length), w.cell? ⟨b, off + k, none⟩ = some (.int .u8 zs[k]))

def Drawn (P : Int → Prop) (g : Nat) (w : World) (e : Ending) (w' : World) : Prop := ∃ x : Int, P x ∧ e = .returned (.int .i64 x) ∧ Cur w' g ∧ w.grownBy w' (some g)

theorem and255 (n : Int) : bits .and .i64 n 255 = n % 256 := by
  have h255 : (BitVec.ofInt 64 255).toNat = 2 ^ 8 - 1 := by decide
  have key : (BitVec.ofInt 64 n &&& BitVec.ofInt 64 255).toNat = (n % ((2 ^ 64 : Nat) : Int)).toNat % 2 ^ 8 := by
    rw [BitVec.toNat_and, BitVec.toNat_ofInt, h255, Nat.and_two_pow_sub_one_eq_mod]
  show IntKind.i64.wrap ((BitVec.ofInt 64 n &&& BitVec.ofInt 64 255).toNat : Nat) = n % 256
  rw [key, IntKind.wrap_i64]
  omega
theorem and255_in (y : Int) : 0 ≤ bits .and .i64 y 255 ∧ bits .and .i64 y 255 ≤ 255 := by
  rw [and255]; omega

theorem cur_stored {w : World} {g : Nat} {a : Option Addr} {n cap i : Nat} {h : Int} {zs : List Int} (hh : w.heap[g]? = some (.cells #[.slice a n cap, .int .i64 i, .int .i64 h] 62 (0, 0))) (h1 : n ≤ cap) (h2 : cap ≤ maxLen) (hi : i ≤ n) (hz : zs.length = n)
    (hrow : n = 0 ∨ ∃ b off, a = some ⟨b, off, none⟩ ∧ b < g ∧ ∀ k (hk : k < zs.length), w.cell? ⟨b, off + k, none⟩ = some (.int .u8 zs[k]))
    {w' : World} (hg : w.grownBy w' (some g)) {i' : Nat} {h' : Int} (hi' : i' ≤ n) (hh' : w'.heap[g]? = some (.cells #[.slice a n cap, .int .i64 i', .int .i64 h'] 62 (0, 0))) : Cur w' g := by
  refine ⟨a, n, cap, i', h', zs, hh', h1, h2, hi', hz, ?_⟩
  rcases hrow with h0 | ⟨b, off, ha, hb, hc⟩
  · exact .inl h0
  · refine .inr ⟨b, off, ha, hb, fun k hk => hg.cell (hc k hk) (by simp; omega)⟩

theorem grown_store {w wd : World} {g : Nat} (h : w.grownBy wd (some g)) (q : Nat) (j : Nat) (v : Value) : w.grownBy ((wd.drewN q).setCell ⟨g, j, none⟩ v) (some g) := by
  have h0 : w.grownBy (wd.drewN q) (some g) := ⟨h.os, h.tape, h.output, h.size, h.block⟩
  refine h0.trans ⟨rfl, rfl, rfl, by simp, fun k _ hk => Below.heap_setCell _ _ _ _ (fun e => hk (by simp [e]))⟩

set_option maxHeartbeats 2000000 in
theorem byte_any (g : Nat) (w : World) (hc : Cur w g) :
    Calls Tryd.prog 32 #[.pointer (some ⟨g, 0, none⟩)] w (Drawn (fun x => 0 ≤ x ∧ x ≤ 255) g w) := by
  obtain ⟨a, n, cap, i, h, zs, hh, h1, h2, hi, hz, hrow⟩ := hc
  unfold maxLen at h2
  have c0 : w.cell? ⟨g, 0, none⟩ = some (.slice a n cap) := by simp [World.cell?, hh]
  have c1 : w.cell? ⟨g, 1, none⟩ = some (.int .i64 i) := by simp [World.cell?, hh]
  have c2 : w.cell? ⟨g, 2, none⟩ = some (.int .i64 h) := by simp [World.cell?, hh]
  have f1 : w.frozen? ⟨g, 1, none⟩ = false := by simp [World.frozen?, hh]
  have f2 : w.frozen? ⟨g, 2, none⟩ = false := by simp [World.frozen?, hh]
  go_enter Tryd.func32, Tryd.ntmps32
  go_wp2
  go_quiet (fail)
  generalize bits BinOp.xor IntKind.i64 _ _ = y
  obtain ⟨y0, y1⟩ := and255_in y
  generalize bits BinOp.and IntKind.i64 y 255 = x at *
  generalize wrap64 (wrap64 (h * 6364136223846793005) + 1442695040888963407) = h'
  have g1 : w.grownBy (w.setCell ⟨g, 2, none⟩ (.int .i64 h')) (some g) := ⟨rfl, rfl, rfl, by simp, fun k _ hk => Below.heap_setCell _ _ _ _ (fun e => hk (by simp [e]))⟩
  have hh1 : (w.setCell ⟨g, 2, none⟩ (.int .i64 h')).heap[g]? = some (.cells #[.slice a n cap, .int .i64 i, .int .i64 h'] 62 (0, 0)) := by
    rw [heap_setCell_same w g 2 _ _ _ hh]; rfl
  obtain ⟨wd, hwd⟩ : ∃ wd, wd = (w.setCell ⟨g, 2, none⟩ (.int .i64 h')).drewN nq := ⟨_, rfl⟩
  have g2 : w.grownBy wd (some g) := by rw [hwd]; exact ⟨g1.os, g1.tape, g1.output, g1.size, g1.block⟩
  have hh2 : wd.heap[g]? = some (.cells #[.slice a n cap, .int .i64 i, .int .i64 h'] 62 (0, 0)) := by rw [hwd]; exact hh1
  rw [← hwd]
  clear hwd g1 hh1 c0 c1 c2 f1 f2
  have c0 : wd.cell? ⟨g, 0, none⟩ = some (.slice a n cap) := by simp [World.cell?, hh2]
  have c1 : wd.cell? ⟨g, 1, none⟩ = some (.int .i64 i) := by simp [World.cell?, hh2]
  have f1 : wd.frozen? ⟨g, 1, none⟩ = false := by simp [World.frozen?, hh2]
  have HS := Lib.hid (fun (w' : World) (hg : w.grownBy w' (some g)) (i' : Nat) (hi' : i' ≤ n) (hh' : w'.heap[g]? = some (.cells #[.slice a n cap, .int .i64 i', .int .i64 h'] 62 (0, 0))) => cur_stored hh h1 (by unfold maxLen; exact h2) hi hz hrow hg hi' hh')
  have HG := Lib.hid g2
  have HH := Lib.hid hh2
  have HHw := Lib.hid hh
  clear hh hh2
  by_cases hlt : i < n
  · obtain ⟨b, off, rfl, hb, hcell⟩ := hrow.resolve_left (by omega)
    have hcb : wd.cell? ⟨b, off + i, none⟩ = some (.int .u8 (zs[i]'(by omega))) := g2.cell (hcell i (by omega)) (by simp; omega)
    clear hrow hcell g2
    have HCB := Lib.hid hcb
    go_wp2
    go_quiet (fail)
    obtain ⟨q1, rfl⟩ : ∃ q, q = nq := ⟨_, rfl⟩
    go_wp2
    go_quiet (fail)
    obtain ⟨z0, z1⟩ := and255_in (wrap64 (x + wrap64 (zs[i]'(by omega))))
    generalize bits BinOp.and IntKind.i64 (wrap64 (x + wrap64 (zs[i]'(by omega)))) 255 = x2 at *
    go_wp2
    go_ret
    have gg : w.grownBy ((wd.drewN (q1 + nq)).setCell ⟨g, 1, none⟩ (.int .i64 ((i : Int) + 1))) (some g) := grown_store HG.out _ _ _
    exact ⟨x2, ⟨z0, z1⟩, rfl, HS.out _ gg (i + 1) (by omega) (by
      have e := heap_setCell_same (wd.drewN (q1 + nq)) g 1 _ _ (.int .i64 ((i : Int) + 1)) HH.out
      rw [e]; rfl), gg⟩
  · have hlt' : decide ((i : Int) < (n : Int)) = false := by simp; omega
    clear hrow g2
    go_wp2
    go_quiet (fail)
    go_wp2
    go_ret
    have gg : w.grownBy (wd.drewN nq) (some g) := ⟨HG.out.os, HG.out.tape, HG.out.output, HG.out.size, HG.out.block⟩
    exact ⟨x, ⟨y0, y1⟩, rfl, HS.out _ gg i hi HH.out, gg⟩

theorem Cur.lt {w : World} {g : Nat} (h : Cur w g) : g < w.heap.size := by
  obtain ⟨a, n, cap, i, h, zs, hh, _⟩ := h; exact heap_lt_of_some hh
theorem Cur.below {w w' : World} {g : Nat} (h : Cur w g) (hb : Below w.heap.size w w') : Cur w' g := by
  have hg := h.lt
  obtain ⟨a, n, cap, i, h, zs, hh, h1, h2, hi, hz, hrow⟩ := h
  refine ⟨a, n, cap, i, h, zs, by rw [hb.block g hg]; exact hh, h1, h2, hi, hz, ?_⟩
  rcases hrow with h0 | ⟨b, off, ha, hbg, hc⟩
  · exact .inl h0
  · exact .inr ⟨b, off, ha, hbg, fun k hk => by rw [hb.cell (p := ⟨b, off + k, none⟩) (Nat.lt_trans hbg hg)]; exact hc k hk⟩

/-- a cursor that is new: nothing that was there has turned -/
def NewCur (w : World) (e : Ending) (w' : World) : Prop := ∃ g, e = .returned (.pointer (some ⟨g, 0, none⟩)) ∧ w.heap.size ≤ g ∧ Cur w' g ∧ Below w.heap.size w w'

/-- bytes that came in -/
def BytesAt (w : World) (v : Value) : Prop :=
  ∃ (a : Option Addr) (n cap : Nat) (zs : List Int), v = .slice a n cap ∧ n ≤ cap ∧ cap ≤ maxLen ∧ zs.length = n ∧ (n = 0 ∨ ∃ b off, a = some ⟨b, off, none⟩ ∧ b < w.heap.size ∧ ∀ k (hk : k < zs.length), w.cell? ⟨b, off + k, none⟩ = some (.int .u8 zs[k]))

theorem BytesAt.below {w w' : World} {v : Value} (h : BytesAt w v) (hb : Below w.heap.size w w') : BytesAt w' v := by
  obtain ⟨a, n, cap, zs, rfl, h1, h2, h3, h4⟩ := h
  refine ⟨a, n, cap, zs, rfl, h1, h2, h3, ?_⟩
  rcases h4 with h0 | ⟨b, off, ha, hbg, hc⟩
  · exact .inl h0
  · exact .inr ⟨b, off, ha, Nat.lt_of_lt_of_le hbg hb.size, fun k hk => by rw [hb.cell (p := ⟨b, off + k, none⟩) hbg]; exact hc k hk⟩

theorem bytesAt_of {w : World} {a : Option Addr} {len cap : Nat} {zs : List Int} (h : IsRow .u8 w a len cap zs) : BytesAt w (.slice a len cap) := by
  rcases h with ⟨rfl, rfl, rfl, rfl⟩ | ⟨x, rfl, hl, hm, hz, hcell, _⟩
  · exact ⟨none, 0, 0, [], rfl, Nat.le_refl _, Nat.zero_le _, rfl, .inl rfl⟩
  · refine ⟨some x, len, cap, zs.take len, rfl, hl, hm, by rw [List.length_take]; omega, ?_⟩
    by_cases h0 : len = 0
    · exact .inl h0
    · right
      have hc0 := hcell 0 (by omega)
      obtain ⟨b, off, spot⟩ := x
      have hspot : spot = none := by simpa [Addr.add] using World.cell?_spot hc0
      subst hspot
      refine ⟨b, off, rfl, World.block_lt_of_cell? w ⟨b, off, none⟩ (by simpa [Addr.add] using hc0), fun k hk => ?_⟩
      have hk' : k < len := by rw [List.length_take] at hk; omega
      have := hcell k (by omega)
      rw [show (⟨b, off, none⟩ : Addr).add k = ⟨b, off + k, none⟩ by unfold Addr.add; split <;> simp_all] at this
      rw [this, List.getElem_take, List.getD_eq_getElem?_getD, List.getElem?_eq_getElem (by omega)]; rfl

set_option maxRecDepth 100000 in
set_option maxHeartbeats 2000000 in
theorem new_any (v : Value) (w : World) (hv : BytesAt w v) :
    Calls Tryd.prog 45 #[v] w (NewCur w) := by
  obtain ⟨a, n, cap, zs, rfl, h1, h2, h3, h4⟩ := hv
  have h2' := h2
  unfold maxLen at h2
  go_enter Tryd.func45, Tryd.ntmps45
  go_wp2
  go_loop [3, 4] (fun h i => ∃ (k : Nat) (z : Int), k ≤ n ∧ i = .int .i64 k ∧ h = .int .i64 z) (fun _ i => n - (intOf i).toNat)
  case atStart => exact ⟨0, _, Nat.zero_le _, rfl, rfl⟩
  case round =>
    obtain ⟨k, z, hk, rfl, rfl⟩ := hrel
    have HE := Lib.hid (fun z : Int => show NewCur w (.returned (.pointer (some ⟨w.heap.size, 0, none⟩))) (w.alloc (.cells #[.slice a n cap, .int .i64 (0 : Nat), .int .i64 z] 62)) from
      ⟨_, rfl, Nat.le_refl _, ⟨a, n, cap, 0, z, zs, heap_alloc_new w _, h1, h2', Nat.zero_le _, h3, by
        rcases h4 with h0 | ⟨b, off, ha, hbg, hc⟩
        · exact .inl h0
        · exact .inr ⟨b, off, ha, hbg, fun k hk => by rw [((Below.refl w.heap.size w).alloc (Nat.le_refl _) _).cell (p := ⟨b, off + k, none⟩) hbg]; exact hc k hk⟩⟩, (Below.refl _ _).alloc (Nat.le_refl _) _⟩)
    by_cases hlt : k < n
    · obtain ⟨b, off, rfl, hb, hcell⟩ := h4.resolve_left (by omega)
      have hc := hcell k (by omega)
      clear h4 hcell
      by_cases h40 : k < 4000
      · go_wp2
        go_round
        case rel => exact ⟨k + 1, _, hlt, by go_num, rfl⟩
        case measure => simp [intOf]; omega
      · go_wp2
        go_ret
        exact HE.out z
    · have hlt' : decide ((k : Int) < (n : Int)) = false := by simp; omega
      clear h4
      go_wp2
      go_ret
      exact HE.out z

end Go.Proofs.YtleadjkndciniaaDoor
