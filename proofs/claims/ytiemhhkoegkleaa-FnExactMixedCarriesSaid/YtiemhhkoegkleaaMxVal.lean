/- Mixed places: the model's test of digits, values and digits. -/
import Derived.Test.YtiemhhkoegkleaaMxSpec
set_option linter.unusedVariables false
set_option linter.unusedSimpArgs false
set_option maxRecDepth 100000
namespace Go.Proofs.Ytiemhhkoegkleaa
open Go.ChangeShapes Go.WideShapes Go.ChangeAt Go.RowKit

set_option maxHeartbeats 2000000 in
theorem specMx_eq (v : Value) (l : List Int) (vr : Value) (r : List Int) (w : World) (hra : RowAt w v (intsOf l)) (hl : l.length ≤ 1048576) (hia : ∀ n ∈ l, in64 n) (hrr : RowAt w vr (intsOf r)) (hlr : r.length ≤ 1048576) (hir : ∀ n ∈ r, in64 n) :
    Calls Try.prog 94 #[v, vr] w fun e w' => e = .returned (.bool (okM l r)) ∧ w = w' := by
  have H1 := Lib.hid (specRd_eq vr r w hrr hlr hir)
  obtain ⟨a, cap, rfl, h1, h2, h3⟩ := hra.ints
  obtain ⟨ar, capr, rfl, h1', h2', h3'⟩ := hrr.ints
  unfold maxLen at h2 h2'
  have HI := Lib.hid hia
  clear hra hrr hia hir
  cases h : okR r
  · rw [h] at H1
    have E0 := Lib.hid (okM_base (l := l) h)
    clear h h3 h3'
    go_enter Try.func94, Try.ntmps94
    go_wp2_with fail
    refine H1.out.mono ?_
    rintro e w' ⟨rfl, rfl⟩
    go_wp2_with fail
    go_ret
    exact ⟨ret_bool E0.out.symm, rfl⟩
  · rw [h] at H1
    by_cases hle : l.length = r.length
    · obtain ⟨o1, o2, o3, o4⟩ := okR_yes h
      have HOK := Lib.hid h
      have HALL := Lib.hid o3
      have HLE := Lib.hid hle
      have hli : (l.length : Int) = (r.length : Int) := by omega
      have hlq : ((l.length : Int) != (r.length : Int)) = false := by simp [hli]
      have hl10 : l.length ≤ 10 := by omega
      clear h o3 hle
      go_enter Try.func94, Try.ntmps94
      go_wp2_with fail
      refine H1.out.mono ?_
      rintro e w' ⟨rfl, rfl⟩
      go_wp2_with fail
      go_loop [19] (fun i => ∃ k : Nat, k ≤ l.length ∧ i = .int .i64 k ∧ ∀ j (h1 : j < l.length) (h2 : j < r.length), j < k → 0 ≤ l[j] ∧ l[j] ≤ r[j] - 1) (fun i => l.length - (intOf i).toNat)
      case atStart => exact ⟨0, Nat.zero_le _, rfl, fun j h1 h2 hk => by omega⟩
      case round =>
        obtain ⟨k, hk, rfl, hall⟩ := hrel
        have HA := Lib.hid hall; clear hall
        by_cases hlt : k < l.length
        · have hlt2 : k < r.length := by have := HLE.out; omega
          obtain ⟨b', off, rfl, hbb, hcell⟩ := h3.resolve_left (fun e => by rw [e] at hlt; simp at hlt)
          obtain ⟨b2, off2, rfl, hbb2, hcell2⟩ := h3'.resolve_left (fun e => by rw [e] at hlt2; simp at hlt2)
          have hc := hcell k hlt
          have hc2 := hcell2 k hlt2
          obtain ⟨hd1, hd2⟩ := HI.out _ (List.getElem_mem hlt)
          obtain ⟨x2, x60⟩ := HALL.out _ (List.getElem_mem hlt2)
          have HAT := Lib.hid (okM_at hlt hlt2)
          have HD := Lib.hid (fun (h : inB l[k] 0 (r[k] - 1) = true) => inB_yes h)
          obtain ⟨d, hde⟩ : ∃ d, d = l[k] := ⟨_, rfl⟩
          obtain ⟨x, hxe⟩ : ∃ x, x = r[k] := ⟨_, rfl⟩
          rw [← hde] at hc hd1 hd2
          rw [← hxe] at hc2 x2 x60
          rw [← hde, ← hxe] at HAT
          have HDE := Lib.hid hde; have HXE := Lib.hid hxe
          have HS := Lib.hid (fun W => sIn_any d 0 (x - 1) W)
          have hkr : (k : Int) < r.length := by omega
          clear h3 h3' hcell hcell2 hde hxe
          cases hd : inB d 0 (x - 1)
          · have HK := Lib.hid (HAT.out hd)
            rw [hd] at HS
            clear hd
            go_wp2_with (go_at_call 93; refine (HS.out _).mono ?_; rintro e w' ⟨rfl, rfl⟩)
            go_ret
            exact ⟨ret_bool HK.out.symm, rfl⟩
          · have HE := Lib.hid (inB_yes hd)
            rw [hd] at HS
            clear hd
            go_wp2_with (go_at_call 93; refine (HS.out _).mono ?_; rintro e w' ⟨rfl, rfl⟩)
            go_round
            case rel =>
              refine ⟨k + 1, hlt, by go_num, fun j h1 h2 hj => ?_⟩
              by_cases e : j = k
              · subst e; rw [← HDE.out, ← HXE.out]; exact HE.out
              · exact HA.out j h1 h2 (by omega)
            case measure => simp [intOf]; omega
        · have HK := Lib.hid (okM_mk HOK.out (fitM_of HLE.out (fun j h1 h2 => HA.out j h1 h2 (by omega))))
          clear h3 h3'
          go_wp2
          go_ret
          exact ⟨ret_bool HK.out.symm, rfl⟩
    · have E0 := Lib.hid (okM_len hle)
      have hlq : ((l.length : Int) != (r.length : Int)) = true := by simp; omega
      clear h hle h3 h3'
      go_enter Try.func94, Try.ntmps94
      go_wp2_with fail
      refine H1.out.mono ?_
      rintro e w' ⟨rfl, rfl⟩
      go_wp2_with fail
      go_ret
      exact ⟨ret_bool E0.out.symm, rfl⟩

theorem specMixedOk_any (v : Value) (l : List Int) (vr : Value) (r : List Int) (w : World) (hra : RowAt w v (intsOf l)) (hl : l.length ≤ 1048576) (hia : ∀ n ∈ l, in64 n) (hrr : RowAt w vr (intsOf r)) (hlr : r.length ≤ 1048576) (hir : ∀ n ∈ r, in64 n) :
    Calls Try.prog 94 #[v, vr] w fun e w' => e = .returned (.bool (rMixedOk0 l r)) ∧ Below w.heap.size w w' := by
  refine (specMx_eq v l vr r w hra hl hia hrr hlr hir).mono ?_
  rintro e w' ⟨rfl, rfl⟩
  exact ⟨rfl, Below.refl _ _⟩

theorem fitM_drop : ∀ {l r : List Int}, FitM l r → ∀ k, FitM (l.drop k) (r.drop k)
  | l, r, h, 0 => by simpa using h
  | [], [], _, k + 1 => by simp [FitM]
  | d :: l, x :: r, h, k + 1 => by simpa using fitM_drop h.2 k
  | [], x :: r, h, _ => h.elim
  | d :: l, [], h, _ => h.elim
theorem mv_at {l r : List Int} {k : Nat} (h1 : k < l.length) (h2 : k < r.length) : mv (l.drop k) (r.drop k) = l[k] + r[k] * mv (l.drop (k + 1)) (r.drop (k + 1)) := by
  rw [List.drop_eq_getElem_cons h1, List.drop_eq_getElem_cons h2, mv]
theorem rp_drop_le {r : List Int} (h : AllR r) (k : Nat) : rp (r.drop k) ≤ rp r := by
  have h1 := rp_pos (allR_take h k)
  have h2 := rp_pos (allR_drop h k)
  have : 1 * rp (r.drop k) ≤ rp (r.take k) * rp (r.drop k) := Int.mul_le_mul_of_nonneg_right h1 (by omega)
  rw [rp_split] at this; omega

end Go.Proofs.Ytiemhhkoegkleaa
