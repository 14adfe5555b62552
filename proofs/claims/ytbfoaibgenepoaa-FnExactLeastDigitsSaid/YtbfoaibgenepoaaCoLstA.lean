/- Places of coins: the model's search for the least digits, at the last coin. -/
import Derived.Test.YtbfoaibgenepoaaInts
import Derived.Test.YtbfoaibgenepoaaLgSpec
import Derived.Test.YtbfoaibgenepoaaLgMul
import Derived.Test.YtbfoaibgenepoaaLgDiv
import Derived.Test.YtbfoaibgenepoaaCoLstS
set_option linter.unusedVariables false
set_option linter.unusedSimpArgs false
set_option maxRecDepth 100000
namespace Go.Proofs.Ytbfoaibgenepoaa
open Go.ChangeShapes Go.WideShapes Go.ChangeAt Go.RowKit

theorem add_addrL (b off j : Nat) : (⟨b, off, none⟩ : Addr).add j = ⟨b, off + j, none⟩ := by
  unfold Addr.add; split <;> simp_all

set_option maxHeartbeats 8000000 in
theorem specLst_last (l : List Int) (hco : Coins l) (v : Value) (i : Nat) (hi1 : i + 1 = l.length) (ih : ∀ (n left : Int) (w : World), 0 ≤ n → n ≤ 400 → 0 ≤ left → left ≤ 400 → RowAt w v (intsOf l) → LstAt l v (i + 1) n left w) (n left : Int) (w : World) (n0 : 0 ≤ n) (n1 : n ≤ 400) (l0 : 0 ≤ left) (l1 : left ≤ 400) (hr : RowAt w v (intsOf l)) : LstAt l v i n left w := by
  have HIH := Lib.hid (fun (n' left' : Int) (W : World) h1 h2 h3 h4 (hB : Below w.heap.size w W) => show Calls Try.prog 63 #[.int .i64 n', v, .int .i64 ((i : Int) + 1), .int .i64 left'] W (fun e w' => LstAns W.heap.size (ld (l.drop (i + 1)) n' left') e w' ∧ Below W.heap.size W w') from by
    have h := ih n' left' W h1 h2 h3 h4 (hr.below hB)
    unfold LstAt at h
    rwa [show ((i + 1 : Nat) : Int) = (i : Int) + 1 by omega] at h)
  unfold LstAt
  obtain ⟨i0, hi0, hz0, hz1, hz2⟩ := info_parts infoInt
  have hl10 := hco.len
  have hil : i < l.length := by omega
  have hbd := hco.bd _ (List.getElem_mem hil)
  have HCO := Lib.hid hco
  have HLD := Lib.hid (show ld (l.drop i) n left = fstD (fun d => ld (l.drop (i + 1)) (n - d * l[i]) (left - d)) (ldN l[i] n left) 0 by rw [List.drop_eq_getElem_cons hil, ld])
  have HTL := Lib.hid (show ∀ (R L : Int) t, ld (l.drop (i + 1)) R L = some t → 0 ≤ R → 0 ≤ L → t.length ≤ 10 from fun R L t ht h1 h2 => by
    have h3 := (ld_val _ R L t (fun c hc => (hco.bd c (List.mem_of_mem_drop hc)).1) h1 h2 ht).1
    rw [List.length_drop] at h3; omega)
  obtain ⟨RES, hRES⟩ : ∃ R, R = ld (l.drop i) n left := ⟨_, rfl⟩
  rw [← hRES] at HLD ⊢
  have HCE := Lib.hid (fun W (hB : Below w.heap.size w W) => (hr.below hB).ints)
  obtain ⟨a, cap, rfl, q1, q2, q3⟩ := hr.ints
  obtain ⟨b', off, rfl, hbb, hcell⟩ := q3.resolve_left (fun e => by rw [e] at hil; simp at hil)
  have HCC := Lib.hid (fun W (hB : Below w.heap.size w W) j (hj : j < l.length) => show W.cell? ⟨b', off + j, none⟩ = some (.int .i64 l[j]) by
    obtain ⟨a3, cap3, e3, _, _, q4⟩ := HCE.out W hB
    injection e3 with e3 _ _
    subst e3
    obtain ⟨b2, o2, e4, _, h4⟩ := q4.resolve_left (fun e => by rw [e] at hil; simp at hil)
    injection e4 with e4
    injection e4 with e4 e5
    subst e4 e5
    exact h4 j hj)
  obtain ⟨c, hc⟩ : ∃ c, c = l[i] := ⟨_, rfl⟩
  rw [← hc] at HLD hbd
  have HC := Lib.hid hc
  have HLT := Lib.hid (fun d => ldN_lt (c := c) (n := n) (left := left) (by omega) n0 l0 d)
  obtain ⟨N, hN⟩ : ∃ N, N = ldN c n left := ⟨_, rfl⟩
  rw [← hN] at HLD HLT
  have hii : (i : Int) < l.length := by omega
  have hin : ¬ (i : Int) = l.length := by omega
  have hinb : ((i : Int) == (l.length : Int)) = false := by simp; omega
  have HI1 := Lib.hid hi1
  clear hc hRES hcell q1 q2 q3 hr hco hN ih hi1
  go_enter Try.func63, Try.ntmps63
  go_wp2_with fail
  go_loopw [10] (fun d wr => ∃ D : Nat, D ≤ N ∧ d = .int .i64 D ∧ fstD (fun d => ld (l.drop (i + 1)) (n - d * c) (left - d)) (N - D) D = RES ∧ Below w.heap.size w wr) (fun d _ => N - (intOf d).toNat)
  case atStart => exact ⟨0, Nat.zero_le _, rfl, by rw [Nat.sub_zero]; exact HLD.out.symm, Below.refl _ _⟩
  case round =>
    obtain ⟨D, hDN, rfl, hfs, hB⟩ := hrel
    have hsz := hB.size
    have hcc := HCC.out wr hB i hil
    rw [← HC.out] at hcc
    have hiff := HLT.out D
    by_cases hD : D < N
    · obtain ⟨d1, d2⟩ := hiff.mp hD
      have hm0 : 0 ≤ (D : Int) * c := Int.mul_nonneg (by omega) (by omega)
      obtain ⟨M, hM⟩ : ∃ M, (D : Int) * c = M := ⟨_, rfl⟩
      rw [show N - D = (N - (D + 1)) + 1 by omega, fstD, hM] at hfs
      rw [hM] at hm0 d2
      obtain ⟨R, hR⟩ : ∃ R, R = n - M := ⟨_, rfl⟩
      obtain ⟨L, hL⟩ : ∃ L, L = left - (D : Int) := ⟨_, rfl⟩
      rw [← hR, ← hL] at hfs
      have wM : IntKind.i64.wrap M = M := by rw [IntKind.wrap_i64]; omega
      have wR : IntKind.i64.wrap (n - M) = R := by rw [IntKind.wrap_i64]; omega
      have wL : IntKind.i64.wrap (left - (D : Int)) = L := by rw [IntKind.wrap_i64]; omega
      have r0 : 0 ≤ R := by omega
      have r1 : R ≤ 400 := by omega
      have s0 : 0 ≤ L := by omega
      have s1 : L ≤ 400 := by omega
      have hR2 : n - M = R := hR.symm
      have hL2 : left - (D : Int) = L := hL.symm
      have HCALL := Lib.hid (HIH.out R L wr r0 r1 s0 s1 hB)
      have HFS := Lib.hid hfs
      have HTL := Lib.hid (fun t ht => HTL.out R L t ht r0 s0)
      have HNO := Lib.hid (fun (ht : ld (l.drop (i + 1)) R L = none) => show Calls Try.prog 63 #[.int .i64 R, .slice (some ⟨b', off, none⟩) l.length cap, .int .i64 ((i : Int) + 1), .int .i64 L] wr (fun e w' => ∃ a2 n2 c2, e = .returned (.tuple #[.slice a2 n2 c2, .bool false]) ∧ Below wr.heap.size wr w') from HCALL.out.mono (by
        rintro e w' ⟨⟨t, g, cp, h, _⟩ | ⟨a, n, c, h, rfl⟩, hB⟩
        · rw [ht] at h; cases h
        · exact ⟨a, n, c, rfl, hB⟩))
      have HYES := Lib.hid (fun t (ht : ld (l.drop (i + 1)) R L = some t) => show Calls Try.prog 63 #[.int .i64 R, .slice (some ⟨b', off, none⟩) l.length cap, .int .i64 ((i : Int) + 1), .int .i64 L] wr (fun e w' => ∃ g c2, e = .returned (.tuple #[.slice (some ⟨g, 0, none⟩) t.length c2, .bool true]) ∧ w'.ownsRow wr.heap.size 3 1 (.slice (some ⟨g, 0, none⟩) t.length c2) t.length (intsOf t) ∧ Below wr.heap.size wr w') from HCALL.out.mono (by
        rintro e w' ⟨⟨u, g, cp, h, rfl, hO⟩ | ⟨a, n, c, h, rfl⟩, hB⟩
        · rw [ht] at h; injection h with h; subst h; exact ⟨g, cp, rfl, hO, hB⟩
        · rw [ht] at h; cases h))
      clear hfs hR hL hiff
      have x1 : ¬ (i : Int) + 1 < l.length := by have := HI1.out; omega
      cases ht : ld (l.drop (i + 1)) R L with
      | none =>
        have HN := Lib.hid (show fstD (fun d => ld (l.drop (i + 1)) (n - d * c) (left - d)) (N - (D + 1)) (D + 1) = RES by rw [← HFS.out, ht])
        have HC2 := Lib.hid (HNO.out ht)
        clear ht
        go_wp2_with fail
        refine HC2.out.mono ?_
        rintro e w2 ⟨a2, n2, c2, rfl, hB2⟩
        have HB2 := Lib.hid (hB.trans (hB2.mono hsz))
        clear hB2
        go_wp2_with fail
        go_roundw
        case rel => exact ⟨D + 1, hD, by go_num, HN.out, HB2.out⟩
        case measure => simp [intOf]; omega
      | some t =>
        have HN := Lib.hid (show RES = some ((D : Int) :: t) by rw [← HFS.out, ht])
        have HC2 := Lib.hid (HYES.out t ht)
        have htl := HTL.out t ht
        clear ht
        go_wp2_with fail
        refine HC2.out.mono ?_
        rintro e w2 ⟨g2, c2, rfl, hO, hB2⟩
        have HB2 := Lib.hid (hB.trans (hB2.mono hsz))
        have hs2 := HB2.out.size
        obtain ⟨a5, c5, e5, q1, q2, q3⟩ := (RowAt.of_owns hO).ints
        injection e5 with e5 _ e6
        subst e5 e6
        have HCL := Lib.hid (show ∀ (k : Nat) (u : Value), (intsOf t)[k]? = some u → (w2.alloc (.cells #[.int .i64 D] 3)).cell? ((⟨g2, 0, none⟩ : Addr).add k) = some u from fun k u hu => by
          have hkl : k < t.length := by
            have := (List.getElem?_eq_some_iff.1 hu).1
            simpa [intsOf] using this
          obtain ⟨b4, o4, e4, hb4, hc4⟩ := q3.resolve_left (fun e => by rw [e] at hkl; simp at hkl)
          injection e4 with e4
          injection e4 with e4 e7
          subst e4 e7
          rw [add_addrL, ((Below.refl _ w2).alloc (Nat.le_refl _) (.cells #[.int .i64 D] 3)).cell (p := ⟨g2, 0 + k, none⟩) hb4, hc4 k hkl]
          rw [intsOf_get hkl] at hu
          exact hu)
        have hlit := World.ownsRow_lit (base := w.heap.size) (e := 3) (size := 1) w2 #[.int .i64 D] 1 hs2 (by decide) rfl
        unfold maxLen at q2
        clear hO hB2 q3
        go_wp2_with (at_builtin; refine wpList_append_own _ rfl _ _ 23 rfl w.heap.size 3 i0 (.int .i64 0) 1 8 Try.underlying23 hi0 hz0 hz1 hz2 rfl (by decide) _ _ _ rfl hlit ⟨g2, 0, none⟩ t.length c2 (intsOf t) rfl ?e0 ?e1 ?e2 ?e3 ?e4 ?e5 ?_)
        case e0 => simp [intsOf]
        case e1 => exact HCL.out
        case e2 => exact intsOf_one _
        case e3 => unfold maxLen; omega
        case e4 => omega
        case e5 => simp; omega
        intro v' w3 hown' hgrow _
        have hBw : Below w.heap.size w (w2.alloc (.cells #[.int .i64 D] 3)) := HB2.out.alloc hs2 _
        have hB3 : Below w.heap.size w w3 := hBw.grown hgrow hBw.size (fun k hk => by simp [Value.ownBlock] at hk; omega)
        have hown2 : w3.ownsRow w.heap.size 3 1 v' ((D : Int) :: t).length (intsOf ((D : Int) :: t)) := by
          have h := hown'
          simp only [intsOf, List.length_cons, List.map_cons, List.singleton_append, Nat.add_comm] at h ⊢
          exact h
        obtain ⟨a7, c7, e7, _, _⟩ := owns_form hown2
        subst e7
        obtain ⟨g7, c8, e8⟩ := owns_some hown2 (fun e => by injection e with _ e; simp at e)
        injection e8 with e8 _ e9
        subst e8 e9
        have HOE := Lib.hid (show LstAns w.heap.size RES (.returned (.tuple #[.slice (some ⟨g7, 0, none⟩) ((D : Int) :: t).length c7, .bool true])) w3 from .inl ⟨_, g7, c7, HN.out, rfl, hown2⟩)
        obtain ⟨tl, htl2⟩ : ∃ m, m = ((D : Int) :: t).length := ⟨_, rfl⟩
        rw [← htl2] at HOE ⊢
        clear hown' hgrow hown2 hBw hlit htl2
        go_wp2_with fail
        go_ret2
        exact ⟨HOE.out, hB3⟩
    · have HR := Lib.hid (show RES = none by rw [← hfs, show N - D = 0 by omega]; rfl)
      by_cases hd : (D : Int) ≤ left
      · have hm : ¬ (D : Int) * c ≤ n := fun h => hD (hiff.mpr ⟨hd, h⟩)
        have hm2 : 0 ≤ (D : Int) * c := Int.mul_nonneg (by omega) (by omega)
        have hm3 : (D : Int) * c ≤ 400 * 1000 := Int.mul_le_mul (by omega) hbd.2 (by omega) (by omega)
        obtain ⟨M, hM⟩ : ∃ M, (D : Int) * c = M := ⟨_, rfl⟩
        rw [hM] at hm hm2 hm3
        have wM : IntKind.i64.wrap M = M := by rw [IntKind.wrap_i64]; omega
        clear hfs hiff
        go_wp2_with fail
        go_ret2
        exact ⟨.inr ⟨_, _, _, HR.out, rfl⟩, hB⟩
      · clear hfs hiff
        go_wp2_with fail
        go_ret2
        exact ⟨.inr ⟨_, _, _, HR.out, rfl⟩, hB⟩

end Go.Proofs.Ytbfoaibgenepoaa
