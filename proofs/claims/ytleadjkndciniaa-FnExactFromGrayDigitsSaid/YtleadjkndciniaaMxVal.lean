/- Mixed places: the model's test of digits, values and digits. -/
import Derived.Test.YtleadjkndciniaaInts
import Derived.Test.YtleadjkndciniaaLgSpec
import Derived.Test.YtleadjkndciniaaMxSpec
set_option linter.unusedVariables false
set_option linter.unusedSimpArgs false
set_option maxRecDepth 100000
namespace Go.Proofs.Ytleadjkndciniaa
open Go.ChangeShapes Go.WideShapes Go.ChangeAt Go.RowKit

set_option maxHeartbeats 2000000 in
theorem specMx_eq (v : Value) (l : List Int) (vr : Value) (r : List Int) (w : World) (hra : RowAt w v (intsOf l)) (hl : l.length ≤ 1048576) (hia : ∀ n ∈ l, in64 n) (hrr : RowAt w vr (intsOf r)) (hlr : r.length ≤ 1048576) (hir : ∀ n ∈ r, in64 n) :
    Calls Try.prog 36 #[v, vr] w fun e w' => e = .returned (.bool (okM l r)) ∧ w = w' := by
  have H1 := Lib.hid (specRd_eq vr r w hrr hlr hir)
  obtain ⟨a, cap, rfl, h1, h2, h3⟩ := hra.ints
  obtain ⟨ar, capr, rfl, h1', h2', h3'⟩ := hrr.ints
  unfold maxLen at h2 h2'
  have HI := Lib.hid hia
  clear hra hrr hia hir
  cases h : okR r
  · rw [h] at H1
    have E0 := Lib.hid (okM_base (l := l) h)
    clear h h3 h3'
    go_enter Try.func36, Try.ntmps36
    go_wp2_with fail
    refine H1.out.mono ?_
    rintro e w' ⟨rfl, rfl⟩
    go_wp2_with fail
    go_ret
    exact ⟨ret_bool E0.out.symm, rfl⟩
  · rw [h] at H1
    by_cases hle : l.length = r.length
    · obtain ⟨o1, o2, o3, o4⟩ := okR_yes h
      have HOK := Lib.hid h
      have HALL := Lib.hid o3
      have HLE := Lib.hid hle
      have hli : (l.length : Int) = (r.length : Int) := by omega
      have hlq : ((l.length : Int) != (r.length : Int)) = false := by simp [hli]
      have hl10 : l.length ≤ 10 := by omega
      clear h o3 hle
      go_enter Try.func36, Try.ntmps36
      go_wp2_with fail
      refine H1.out.mono ?_
      rintro e w' ⟨rfl, rfl⟩
      go_wp2_with fail
      go_loop [19] (fun i => ∃ k : Nat, k ≤ l.length ∧ i = .int .i64 k ∧ ∀ j (h1 : j < l.length) (h2 : j < r.length), j < k → 0 ≤ l[j] ∧ l[j] ≤ r[j] - 1) (fun i => l.length - (intOf i).toNat)
      case atStart => exact ⟨0, Nat.zero_le _, rfl, fun j h1 h2 hk => by omega⟩
      case round =>
        obtain ⟨k, hk, rfl, hall⟩ := hrel
        have HA := Lib.hid hall; clear hall
        by_cases hlt : k < l.length
        · have hlt2 : k < r.length := by have := HLE.out; omega
          obtain ⟨b', off, rfl, hbb, hcell⟩ := h3.resolve_left (fun e => by rw [e] at hlt; simp at hlt)
          obtain ⟨b2, off2, rfl, hbb2, hcell2⟩ := h3'.resolve_left (fun e => by rw [e] at hlt2; simp at hlt2)
          have hc := hcell k hlt
          have hc2 := hcell2 k hlt2
          obtain ⟨hd1, hd2⟩ := HI.out _ (List.getElem_mem hlt)
          obtain ⟨x2, x60⟩ := HALL.out _ (List.getElem_mem hlt2)
          have HAT := Lib.hid (okM_at hlt hlt2)
          have HD := Lib.hid (fun (h : inB l[k] 0 (r[k] - 1) = true) => inB_yes h)
          obtain ⟨d, hde⟩ : ∃ d, d = l[k] := ⟨_, rfl⟩
          obtain ⟨x, hxe⟩ : ∃ x, x = r[k] := ⟨_, rfl⟩
          rw [← hde] at hc hd1 hd2
          rw [← hxe] at hc2 x2 x60
          rw [← hde, ← hxe] at HAT
          have HDE := Lib.hid hde; have HXE := Lib.hid hxe
          have HS := Lib.hid (fun W => sIn_any d 0 (x - 1) W)
          have hkr : (k : Int) < r.length := by omega
          clear h3 h3' hcell hcell2 hde hxe
          cases hd : inB d 0 (x - 1)
          · have HK := Lib.hid (HAT.out hd)
            rw [hd] at HS
            clear hd
            go_wp2_with (go_at_call 28; refine (HS.out _).mono ?_; rintro e w' ⟨rfl, rfl⟩)
            go_ret
            exact ⟨ret_bool HK.out.symm, rfl⟩
          · have HE := Lib.hid (inB_yes hd)
            rw [hd] at HS
            clear hd
            go_wp2_with (go_at_call 28; refine (HS.out _).mono ?_; rintro e w' ⟨rfl, rfl⟩)
            go_round
            case rel =>
              refine ⟨k + 1, hlt, by go_num, fun j h1 h2 hj => ?_⟩
              by_cases e : j = k
              · subst e; rw [← HDE.out, ← HXE.out]; exact HE.out
              · exact HA.out j h1 h2 (by omega)
            case measure => simp [intOf]; omega
        · have HK := Lib.hid (okM_mk HOK.out (fitM_of HLE.out (fun j h1 h2 => HA.out j h1 h2 (by omega))))
          clear h3 h3'
          go_wp2
          go_ret
          exact ⟨ret_bool HK.out.symm, rfl⟩
    · have E0 := Lib.hid (okM_len hle)
      have hlq : ((l.length : Int) != (r.length : Int)) = true := by simp; omega
      clear h hle h3 h3'
      go_enter Try.func36, Try.ntmps36
      go_wp2_with fail
      refine H1.out.mono ?_
      rintro e w' ⟨rfl, rfl⟩
      go_wp2_with fail
      go_ret
      exact ⟨ret_bool E0.out.symm, rfl⟩

theorem specMixedOk_any (v : Value) (l : List Int) (vr : Value) (r : List Int) (w : World) (hra : RowAt w v (intsOf l)) (hl : l.length ≤ 1048576) (hia : ∀ n ∈ l, in64 n) (hrr : RowAt w vr (intsOf r)) (hlr : r.length ≤ 1048576) (hir : ∀ n ∈ r, in64 n) :
    Calls Try.prog 36 #[v, vr] w fun e w' => e = .returned (.bool (rMixedOk0 l r)) ∧ Below w.heap.size w w' := by
  refine (specMx_eq v l vr r w hra hl hia hrr hlr hir).mono ?_
  rintro e w' ⟨rfl, rfl⟩
  exact ⟨rfl, Below.refl _ _⟩

theorem fitM_drop : ∀ {l r : List Int}, FitM l r → ∀ k, FitM (l.drop k) (r.drop k)
  | l, r, h, 0 => by simpa using h
  | [], [], _, k + 1 => by simp [FitM]
  | d :: l, x :: r, h, k + 1 => by simpa using fitM_drop h.2 k
  | [], x :: r, h, _ => h.elim
  | d :: l, [], h, _ => h.elim
theorem mv_at {l r : List Int} {k : Nat} (h1 : k < l.length) (h2 : k < r.length) : mv (l.drop k) (r.drop k) = l[k] + r[k] * mv (l.drop (k + 1)) (r.drop (k + 1)) := by
  rw [List.drop_eq_getElem_cons h1, List.drop_eq_getElem_cons h2, mv]
theorem rp_drop_le {r : List Int} (h : AllR r) (k : Nat) : rp (r.drop k) ≤ rp r := by
  have h1 := rp_pos (allR_take h k)
  have h2 := rp_pos (allR_drop h k)
  have : 1 * rp (r.drop k) ≤ rp (r.take k) * rp (r.drop k) := Int.mul_le_mul_of_nonneg_right h1 (by omega)
  rw [rp_split] at this; omega

set_option maxHeartbeats 2000000 in
theorem specVal7_any (v : Value) (l : List Int) (vr : Value) (r : List Int) (w : World) (hra : RowAt w v (intsOf l)) (hrr : RowAt w vr (intsOf r)) (hok : okM l r = true) :
    Calls Try.prog 37 #[v, vr] w fun e w' => e = .returned (.int .i64 (mv l r)) ∧ Below w.heap.size w w' := by
  obtain ⟨a, cap, rfl, h1, h2, h3⟩ := hra.ints
  obtain ⟨ar, capr, rfl, h1', h2', h3'⟩ := hrr.ints
  unfold maxLen at h2 h2'
  obtain ⟨hR, hF⟩ := okM_yes hok
  obtain ⟨o1, o2, o3, o4⟩ := okR_yes hR
  have hle := fitM_len hF
  have HALL := Lib.hid o3
  have HF := Lib.hid (fitM_at hF)
  have HRG := Lib.hid (fun k => And.intro (mv_range (allR_drop o3 k) (fitM_drop hF k)) (Int.le_trans (rp_drop_le o3 k) o4))
  have HLE := Lib.hid hle
  have hl10 : l.length ≤ 10 := by omega
  clear hra hrr hok hR hF o3 hle
  go_enter Try.func37, Try.ntmps37
  go_wp2
  go_loopw [5, 6] (fun n i wr => ∃ k : Nat, k ≤ l.length ∧ i = .int .i64 ((k : Int) - 1) ∧ n = .int .i64 (mv (l.drop k) (r.drop k)) ∧ Below w.heap.size w wr) (fun _ i _ => (intOf i + 1).toNat)
  case atStart => exact ⟨l.length, Nat.le_refl _, rfl, by rw [List.drop_length, mv_nil], Below.refl _ _⟩
  case round =>
    obtain ⟨k, hk, rfl, rfl, hB⟩ := hrel
    cases k with
    | zero =>
      have HV := Lib.hid (show mv (l.drop 0) (r.drop 0) = mv l r by simp)
      clear h3 h3'
      go_wp2_with fail
      go_ret
      exact ⟨by rw [← HV.out]; rfl, hB⟩
    | succ j =>
      rw [show ((j + 1 : Nat) : Int) - 1 = (j : Int) by omega]
      have hjl : j < l.length := by omega
      have hjr : j < r.length := by have := HLE.out; omega
      obtain ⟨b', off, rfl, hbb, hcell⟩ := h3.resolve_left (fun e => by rw [e] at hjl; simp at hjl)
      obtain ⟨b2, off2, rfl, hbb2, hcell2⟩ := h3'.resolve_left (fun e => by rw [e] at hjr; simp at hjr)
      have hc : wr.cell? ⟨b', off + j, none⟩ = some (.int .i64 l[j]) := by rw [hB.cell (p := ⟨b', off + j, none⟩) hbb]; exact hcell j hjl
      have hc2 : wr.cell? ⟨b2, off2 + j, none⟩ = some (.int .i64 r[j]) := by rw [hB.cell (p := ⟨b2, off2 + j, none⟩) hbb2]; exact hcell2 j hjr
      obtain ⟨d0, d1⟩ := HF.out j hjl hjr
      obtain ⟨x2, x60⟩ := HALL.out _ (List.getElem_mem hjr)
      have hat := mv_at hjl hjr
      obtain ⟨⟨y0, y1⟩, y2⟩ := HRG.out (j + 1)
      obtain ⟨y, hy⟩ : ∃ y, y = mv (l.drop (j + 1)) (r.drop (j + 1)) := ⟨_, rfl⟩
      obtain ⟨d, hd⟩ : ∃ d, d = l[j] := ⟨_, rfl⟩
      obtain ⟨x, hx⟩ : ∃ x, x = r[j] := ⟨_, rfl⟩
      rw [← hy] at y0 y1 hat ⊢
      rw [← hd] at hc d0 d1 hat
      rw [← hx] at hc2 d1 x2 x60 hat
      have hyx1 : y * x ≤ 1000000000000 * 60 := Int.mul_le_mul (by omega) x60 (by omega) (by omega)
      have hyx0 : 0 ≤ y * x := Int.mul_nonneg y0 (by omega)
      have d59 : d ≤ 59 := by omega
      have HAT := Lib.hid (show y * x + d = mv (l.drop j) (r.drop j) by rw [hat, Int.mul_comm]; omega)
      have hjr' : (j : Int) < r.length := by omega
      clear h3 h3' hcell hcell2 hy hd hx hat y1 y2 d1
      go_wp2_with fail
      go_quiet (fail)
      go_wp2_with fail
      go_roundw
      case rel => exact ⟨j, by omega, by go_num, by rw [← HAT.out], below_drewN hB _⟩
      case measure => simp [intOf]

set_option maxHeartbeats 4000000 in
theorem specMixedDigits_any (n : Int) (vr : Value) (r : List Int) (w : World) (hn : in64 n) (hrr : RowAt w vr (intsOf r)) (hlr : r.length ≤ 1048576) (hir : ∀ n ∈ r, in64 n) :
    Calls Try.prog 32 #[.int .i64 n, vr] w fun e w' => ∃ v', e = .returned v' ∧ w'.ownsRow w.heap.size 3 1 v' (rMixedDigits0 n r).length (intsOf (rMixedDigits0 n r)) ∧ Below w.heap.size w w' := by
  have H1 := Lib.hid (specRd_eq vr r w hrr hlr hir)
  have HG := Lib.hid (fun h => specRg_any vr r w hrr h)
  obtain ⟨i0, hi, hz0, hz1, hz2⟩ := info_parts infoInt
  obtain ⟨a, cap, rfl, h1, h2, h3⟩ := hrr.ints
  unfold maxLen at h2
  clear hrr hir
  cases h : okR r
  · rw [h] at H1
    have E0 := Lib.hid (show rMixedDigits0 n r = [] by rw [rMixedDigits0, h]; rfl)
    clear h h3
    go_enter Try.func32, Try.ntmps32
    go_wp2_with fail
    refine H1.out.mono ?_
    rintro e w' ⟨rfl, rfl⟩
    go_wp2_with fail
    go_ret
    exact ⟨_, rfl, by rw [E0.out]; exact World.ownsRow_nil _ _ _ _, Below.refl _ _⟩
  · rw [h] at H1
    have HGG := Lib.hid (HG.out h)
    obtain ⟨o1, o2, o3, o4⟩ := okR_yes h
    have hp1 := rp_pos o3
    obtain ⟨R, hR⟩ : ∃ R, R = rp r := ⟨_, rfl⟩
    have HS := Lib.hid (fun W => sIn_any n 0 (R - 1) W)
    have HRE := Lib.hid hR
    rw [← hR] at HGG o4 hp1
    cases h4 : inB n 0 (R - 1)
    · rw [h4] at HS
      have E0 := Lib.hid (show rMixedDigits0 n r = [] by rw [rMixedDigits0, h, ← hR, h4]; rfl)
      clear h h3 h4 hR o3
      go_enter Try.func32, Try.ntmps32
      go_wp2_with fail
      refine H1.out.mono ?_
      rintro e w' ⟨rfl, rfl⟩
      go_wp2_with fail
      refine HGG.out.mono ?_
      rintro e w' ⟨rfl, rfl⟩
      go_wp2_with fail
      refine (HS.out _).mono ?_
      rintro e w' ⟨rfl, rfl⟩
      go_wp2_with fail
      go_ret
      exact ⟨_, rfl, by rw [E0.out]; exact World.ownsRow_nil _ _ _ _, Below.refl _ _⟩
    · rw [h4] at HS
      obtain ⟨n0, n1⟩ := inB_yes h4
      have E0 := Lib.hid (show rMixedDigits0 n r = md n r by rw [rMixedDigits0, h, ← hR, h4]; rfl)
      have HALL := Lib.hid o3
      clear h h4 hR o3
      go_enter Try.func32, Try.ntmps32
      go_wp2_with fail
      refine H1.out.mono ?_
      rintro e w' ⟨rfl, rfl⟩
      go_wp2_with fail
      refine HGG.out.mono ?_
      rintro e w' ⟨rfl, rfl⟩
      go_wp2_with fail
      refine (HS.out _).mono ?_
      rintro e w' ⟨rfl, rfl⟩
      go_wp2_with fail
      go_loopw [0, 5, 22] (fun m v i wr => ∃ k : Nat, k ≤ r.length ∧ i = .int .i64 k ∧ m = .int .i64 (n / rp (r.take k)) ∧ wr.ownsRow w.heap.size 3 1 v k (intsOf (md n (r.take k))) ∧ Below w.heap.size w wr) (fun _ _ i _ => r.length - (intOf i).toNat)
      case atStart => exact ⟨0, Nat.zero_le _, rfl, by simp [rp], World.ownsRow_lit w #[] 0 (Nat.le_refl _) (by decide) rfl, (Below.refl _ _).alloc (Nat.le_refl _) _⟩
      case round =>
        obtain ⟨k, hk, rfl, rfl, hown, hB⟩ := hrel
        have hsz := hB.size
        by_cases hlt : k < r.length
        · obtain ⟨b', off, rfl, hbb, hcell⟩ := h3.resolve_left (fun e => by rw [e] at hlt; simp at hlt)
          have hc : wr.cell? ⟨b', off + k, none⟩ = some (.int .i64 r[k]) := by rw [hB.cell (p := ⟨b', off + k, none⟩) hbb]; exact hcell k hlt
          obtain ⟨x2, x60⟩ := HALL.out _ (List.getElem_mem hlt)
          have hPp := rp_pos (allR_take HALL.out k)
          have HT := Lib.hid (rp_take hlt)
          have HMD := Lib.hid (md_take HALL.out hlt n)
          have hq0 : 0 ≤ n / rp (r.take k) := Int.ediv_nonneg n0 (by omega)
          have hq1 : n / rp (r.take k) ≤ n := Int.ediv_le_self _ n0
          have HDD := Lib.hid (show n / rp (r.take k) / r[k] = n / rp (r.take (k + 1)) by rw [HT.out, Int.ediv_ediv_of_nonneg (by omega)])
          obtain ⟨Q, hQ⟩ : ∃ Q, Q = md n (r.take k) := ⟨_, rfl⟩
          obtain ⟨q, hqe⟩ : ∃ q, q = n / rp (r.take k) := ⟨_, rfl⟩
          obtain ⟨x, hxe⟩ : ∃ x, x = r[k] := ⟨_, rfl⟩
          rw [← hqe] at hq0 hq1 HMD HDD ⊢
          rw [← hxe] at hc x2 x60 HMD HDD
          rw [← hQ] at hown HMD
          have hqm : q.tmod x = q % x := Int.tmod_eq_emod_of_nonneg hq0
          have hqd : q.tdiv x = q / x := Int.tdiv_eq_ediv_of_nonneg hq0
          have g0 : 0 ≤ q % x := Int.emod_nonneg _ (by omega)
          have g1 : q % x < x := Int.emod_lt_of_pos _ (by omega)
          have g2 : 0 ≤ q / x := Int.ediv_nonneg hq0 (by omega)
          have g3 : q / x ≤ q := Int.ediv_le_self _ hq0
          have hxn : (x == 0) = false := by simp; omega
          clear h3 hcell hPp hqe hxe hQ
          go_wp2_with (at_builtin; refine wpList_append_own_at _ rfl _ _ 24 rfl w.heap.size 3 i0 (.int .i64 0) 1 8 Try.underlying24 hi hz0 hz1 hz2 rfl (by decide) _ _ _ rfl (hown.alloc _) ⟨wr.heap.size, 0, none⟩ 1 1 [.int .i64 (q % x)] rfl rfl (one_cell _ _ _) (by intro u hu; simp at hu; subst hu; rfl) (by unfold maxLen; omega) (by omega) (by simp; omega) ?_)
          intro v' w1 hown' hgrow _ _
          have hB1 := (hB.alloc hsz _).grown hgrow (by simp; omega) (fun j hj => (hown.lt j hj).1)
          have HO := Lib.hid (show w1.ownsRow w.heap.size 3 1 v' (k + 1) (intsOf (Q ++ [q % x])) by simpa [intsOf] using hown')
          clear hown' hgrow hown
          go_wp2_with fail
          go_roundw
          case rel => exact ⟨k + 1, hlt, by go_num, by rw [HDD.out], by rw [HMD.out]; exact HO.out, hB1⟩
          case measure => simp [intOf]; omega
        · have hkl : k = r.length := by omega
          subst hkl
          rw [List.take_length] at hown
          have HO := Lib.hid (show wr.ownsRow w.heap.size 3 1 _ (rMixedDigits0 n r).length (intsOf (rMixedDigits0 n r)) by rw [E0.out, md_len]; exact hown)
          obtain ⟨av, cv, e3, _, _⟩ := owns_form hown
          subst e3
          clear h3 hown
          go_wp2_with fail
          go_ret
          exact ⟨_, rfl, HO.out, hB⟩

end Go.Proofs.Ytleadjkndciniaa
