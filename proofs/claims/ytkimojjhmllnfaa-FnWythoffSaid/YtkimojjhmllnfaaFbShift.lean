/- Fibonacci places: the model's shift, root, pair. -/
import Derived.Test.YtkimojjhmllnfaaFbCnt
set_option linter.unusedVariables false
set_option linter.unusedSimpArgs false
set_option maxRecDepth 100000
namespace Go.Proofs.Ytkimojjhmllnfaa
open Go.ChangeShapes Go.WideShapes Go.ChangeAt Go.RowKit


theorem cell_zero (g j : Nat) : (⟨g, 0, none⟩ : Addr).add j = ⟨g, j, none⟩ := by
  by_cases h : j = 0
  · subst h; simp [Addr.add]
  · simp [Addr.add, h]
theorem row_cells {w : World} {base : Nat} {e : TypeId} {g n cap : Nat} {xs : List Value} (h : w.ownsRow base e 1 (.slice (some ⟨g, 0, none⟩) n cap) n xs) : ∀ j u, xs[j]? = some u → w.cell? ((⟨g, 0, none⟩ : Addr).add j) = some u :=
  fun j u hj => h.cells (g := g) rfl j u hj
theorem ints_one (l : List Int) : ∀ u ∈ intsOf l, u.oneCell' = true := fun u hu => by
  simp only [intsOf, List.mem_map] at hu
  obtain ⟨x, _, rfl⟩ := hu; rfl
theorem row_some {w : World} {base : Nat} {e : TypeId} {v : Value} {n : Nat} {xs : List Value} (h : w.ownsRow base e 1 v n xs) (hv : v ≠ .slice none 0 0) : ∃ g cap, v = .slice (some ⟨g, 0, none⟩) n cap := by
  rcases h.2 with ⟨h0, _⟩ | ⟨g, cap, cur, rfl, _⟩
  · exact absurd h0 hv
  · exact ⟨g, cap, rfl⟩
theorem sp_b01 (n : Nat) : B01 (sp n) := fun d hd => trT_b01 (gs_b01 58 n) d (by rw [sp, List.mem_reverse] at hd; exact hd)

set_option maxHeartbeats 1000000 in
theorem specShiftFib_any (n : Int) (w : World) (hn : in64 n) :
    Calls Try.prog 44 #[.int .i64 n] w fun e w' => e = .returned (.int .i64 (rShiftFib0 n)) ∧ Below w.heap.size w w' := by
  have HS := Lib.hid (fun W => sIn_any n 0 100000000 W)
  cases h : inB n 0 100000000
  · rw [h] at HS
    have E0 := Lib.hid (show rShiftFib0 n = -1 by rw [rShiftFib0, h]; rfl)
    clear h
    go_enter Try.func44, Try.ntmps44
    go_wp2_with fail
    refine (HS.out _).mono ?_
    rintro e w' ⟨rfl, rfl⟩
    go_wp2_with fail
    go_ret
    exact ⟨by rw [E0.out]; rfl, Below.refl _ _⟩
  · rw [h] at HS
    obtain ⟨i0, hi, hz0, hz1, hz2⟩ := info_parts infoInt
    obtain ⟨n0, n1⟩ := inB_yes h
    obtain ⟨N, rfl⟩ : ∃ N : Nat, n = N := ⟨n.toNat, by omega⟩
    have HP := Lib.hid (fun W => specSp2_any N W (by omega))
    have hl := sp_few (show N ≤ 100000000 by omega)
    have E0 := Lib.hid (show rShiftFib0 N = vL 0 (0 :: sp N) by rw [rShiftFib0, h, vL]; simp)
    have HBB := Lib.hid (b01_cons (.inl rfl) (sp_b01 N))
    obtain ⟨L, hL⟩ : ∃ L, L = sp N := ⟨_, rfl⟩
    rw [← hL] at HP hl E0 HBB
    have HV := Lib.hid (fun v W hr => specFv_any v (0 :: L) W hr (by rw [List.length_cons]; omega) HBB.out)
    have hlit := Lib.hid (World.ownsRow_lit (base := w.heap.size) (e := 3) (size := 1) w #[.int .i64 0] 1 (Nat.le_refl _) (by decide) rfl)
    clear h hL
    go_enter Try.func44, Try.ntmps44
    go_wp2_with fail
    refine (HS.out _).mono ?_
    rintro e w' ⟨rfl, rfl⟩
    go_wp2_with fail
    refine (HP.out _).mono ?_
    rintro e w1 ⟨v1, rfl, hO, hB, hne⟩
    obtain ⟨g, c, rfl⟩ := row_some hO hne
    have hBa := (Below.refl w.heap.size w).alloc (Nat.le_refl _) (.cells #[.int .i64 0] 3)
    have hB0 := hBa.trans (hB.mono hBa.size)
    have hlit1 := owns_below hlit.out hB
    have HCL := Lib.hid (row_cells hO)
    have hsz := hB0.size
    obtain ⟨ln, hln⟩ : ∃ ln, ln = L.length := ⟨_, rfl⟩
    rw [← hln] at hl ⊢
    have HLN := Lib.hid hln
    clear hO hB hne hln hBa
    go_wp2_with (at_builtin; refine wpList_append_own _ rfl _ _ 24 rfl w.heap.size 3 i0 (.int .i64 0) 1 8 Try.underlying24 hi hz0 hz1 hz2 rfl (by decide) _ _ _ rfl hlit1 ⟨g, 0, none⟩ ln c (intsOf L) rfl ?c0 ?c1 ?c2 ?c3 ?c4 ?c5 ?_)
    case c0 => rw [HLN.out]; simp [intsOf]
    case c1 => exact HCL.out
    case c2 => exact ints_one _
    case c3 => unfold maxLen; omega
    case c4 => omega
    case c5 => exact hsz
    intro v' w2 hown' hgrow _
    have hB2 := hB0.grown hgrow hsz (fun k hk => by simp [Value.ownBlock] at hk; omega)
    have HVV := Lib.hid (HV.out v' w2 (RowAt.of_owns (base := w.heap.size) (e := 3) (n := 1 + ln) (by simpa [intsOf] using hown')))
    obtain ⟨a3, c3, e3, _, _⟩ := owns_form hown'
    subst e3
    clear hown' hgrow hlit1
    go_wp2_with fail
    refine HVV.out.mono ?_
    rintro e w3 ⟨rfl, rfl⟩
    go_wp2_with fail
    go_ret
    exact ⟨by rw [E0.out]; rfl, hB2⟩

end Go.Proofs.Ytkimojjhmllnfaa
