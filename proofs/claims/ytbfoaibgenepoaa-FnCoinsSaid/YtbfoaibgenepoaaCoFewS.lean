/- Places of coins: the model's table of the fewest coins. -/
import Derived.Test.YtbfoaibgenepoaaCoSpec
import Derived.Test.YtbfoaibgenepoaaCoFew
set_option linter.unusedVariables false
set_option linter.unusedSimpArgs false
set_option maxRecDepth 100000
namespace Go.Proofs.Ytbfoaibgenepoaa
open Go.ChangeShapes Go.WideShapes Go.ChangeAt Go.RowKit

theorem bst_drop {out l : List Int} {x b : Int} {j : Nat} (h : j < l.length) : bst out x b (l.drop j) = bst out x (if l[j] ≤ x then min b (out.getD (x - l[j]).toNat 0 + 1) else b) (l.drop (j + 1)) := by
  rw [List.drop_eq_getElem_cons h, bst]

set_option maxHeartbeats 8000000 in
theorem specFew_any (n : Nat) (v : Value) (l : List Int) (w : World) (hr : RowAt w v (intsOf l)) (hco : Coins l) (hn : n ≤ 400) :
    Calls Try.prog 61 #[.int .i64 n, v] w fun e w' => ∃ v', e = .returned v' ∧ w'.ownsRow w.heap.size 3 1 v' (n + 1) (intsOf (fewL l n)) ∧ Below w.heap.size w w' := by
  obtain ⟨i0, hi, hz0, hz1, hz2⟩ := info_parts infoInt
  have hl := hco.len
  have HLB := Lib.hid hco.bd
  have HRow := Lib.hid (fun W (hb : Below w.heap.size w W) => hr.below hb)
  have h0 : 0 < l.length := by obtain ⟨t, ht⟩ := hco.one; rw [ht]; simp
  have HBD := Lib.hid (fun k => fw1_bd l k)
  obtain ⟨a, cap, rfl, q1, q2, q3⟩ := hr.ints
  have hB0 : Below w.heap.size w (w.alloc (.cells #[.int .i64 0] 3)) := (Below.refl _ _).alloc (Nat.le_refl _) _
  have hO0 := World.ownsRow_lit (base := w.heap.size) (e := 3) (size := 1) w #[.int .i64 0] 1 (Nat.le_refl _) (by decide) rfl
  have HO0 := Lib.hid (And.intro hO0 hB0)
  clear hr hco q1 q2 q3 hO0 hB0
  go_enter Try.func61, Try.ntmps61
  go_wp2_with fail
  go_loopw [5, 6] (fun o x wr => ∃ k : Nat, k ≤ n ∧ x = .int .i64 ((k : Int) + 1) ∧ wr.ownsRow w.heap.size 3 1 o (k + 1) (intsOf (fewL l k)) ∧ Below w.heap.size w wr) (fun _ x _ => n + 1 - (intOf x).toNat)
  case atStart => exact ⟨0, Nat.zero_le _, rfl, HO0.out.1, HO0.out.2⟩
  case round =>
    obtain ⟨k, hk, rfl, hown, hB⟩ := hrel
    have hsz := hB.size
    by_cases hlt : k < n
    · have hrw := HRow.out _ hB
      obtain ⟨a3, cap3, e3, _, _, q3⟩ := hrw.ints
      injection e3 with e3 _ e4
      subst e3 e4
      obtain ⟨b', off, rfl, hbb, hcell⟩ := q3.resolve_left (fun e => by rw [e] at h0; simp at h0)
      have HC := Lib.hid hcell
      obtain ⟨ao, capo, e5, _, p2, p3⟩ := (RowAt.of_owns hown).ints
      have hfl := fewL_len l k
      rw [hfl] at e5
      subst e5
      obtain ⟨bo, oo, rfl, hbo, hcello⟩ := p3.resolve_left (fun e => by rw [e] at hfl; simp at hfl)
      have HCO := Lib.hid (fun m (hm : m ≤ k) => show wr.cell? ⟨bo, oo + m, none⟩ = some (.int .i64 (fw1 l m)) by
        have h1 := hcello m (by rw [hfl]; omega)
        rw [h1, ← fewL_get l k m hm, List.getD_eq_getElem?_getD, List.getElem?_eq_getElem (by rw [hfl]; omega)]; rfl)
      have HST := Lib.hid (show bst (fewL l k) ((k : Int) + 1) ((k : Int) + 1) (l.drop 0) = fw1 l (k + 1) by rw [fw1_succ, List.drop_zero]; rfl)
      have HGT := Lib.hid (fun m (hm : m ≤ k) => fewL_get l k m hm)
      have HOW := Lib.hid (And.intro hown hB)
      obtain ⟨OUT, hOUT⟩ : ∃ O, O = fewL l k := ⟨_, rfl⟩
      rw [← hOUT] at HST HGT
      have HOUT := Lib.hid hOUT
      clear hrw hcell q3 hcello p3 hown hB p2 hfl hOUT
      go_wp2_with fail
      go_loop [7, 19] (fun bv i => ∃ (j : Nat) (b : Int), j ≤ l.length ∧ i = .int .i64 j ∧ bv = .int .i64 b ∧ 0 ≤ b ∧ b ≤ (k : Int) + 1 ∧ bst OUT ((k : Int) + 1) b (l.drop j) = fw1 l (k + 1)) (fun _ i => l.length - (intOf i).toNat)
      case atStart => exact ⟨0, (k : Int) + 1, Nat.zero_le _, rfl, rfl, by omega, Int.le_refl _, HST.out⟩
      case round =>
        obtain ⟨j, b, hj, rfl, rfl, hb0, hb1, hbs⟩ := hrel
        by_cases hjl : j < l.length
        · have hc := HC.out j hjl
          have hcb := HLB.out _ (List.getElem_mem hjl)
          rw [bst_drop hjl] at hbs
          obtain ⟨c, hce⟩ : ∃ c, c = l[j] := ⟨_, rfl⟩
          rw [← hce] at hc hcb hbs
          clear hce
          by_cases hck : c ≤ (k : Int) + 1
          · obtain ⟨m, hm⟩ : ∃ m : Nat, (k : Int) + 1 - c = m := ⟨((k : Int) + 1 - c).toNat, by omega⟩
            have hmk : m ≤ k := by omega
            have hco := HCO.out m hmk
            have hf := HBD.out m
            rw [if_pos hck, hm, Int.toNat_natCast, HGT.out m hmk] at hbs
            have hmi : (m : Int).toNat = m := Int.toNat_natCast m
            obtain ⟨F, hF⟩ : ∃ F, F = fw1 l m := ⟨_, rfl⟩
            rw [← hF] at hco hf hbs
            have hf0 := hf.2.1
            have hf1 := hf.2.2
            obtain ⟨M, hM⟩ : ∃ M, min b (F + 1) = M := ⟨_, rfl⟩
            rw [hM] at hbs
            have hM0 : 0 ≤ M := by omega
            have hM1 : M ≤ (k : Int) + 1 := by omega
            have hF9 : F ≤ 400 := by omega
            have HBS := Lib.hid hbs
            clear hF hf hbs
            go_wp2_with fail
            go_round
            case rel => exact ⟨j + 1, M, hjl, by go_num, by rw [← hM]; congr 1; split <;> omega, hM0, hM1, HBS.out⟩
            case measure => simp [intOf]; omega
          · rw [if_neg hck] at hbs
            have HBS := Lib.hid hbs
            clear hbs
            go_wp2_with fail
            go_round
            case rel => exact ⟨j + 1, b, hjl, by go_num, rfl, hb0, hb1, HBS.out⟩
            case measure => simp [intOf]; omega
        · have hbe : b = fw1 l (k + 1) := by
            rw [List.drop_eq_nil_of_le (by omega), bst] at hbs
            exact hbs
          have HNX := Lib.hid (show fewL l k ++ [b] = fewL l (k + 1) by rw [fewL, hbe, fw1_succ])
          obtain ⟨hown, hB⟩ := HOW.out
          have hn9 : ¬ (j : Int) < l.length := by omega
          clear hbs hbe
          go_wp2_with (at_builtin; refine wpList_append_own_at _ rfl _ _ 23 rfl w.heap.size 3 i0 (.int .i64 0) 1 8 Try.underlying23 hi hz0 hz1 hz2 rfl (by decide) _ _ _ rfl (hown.alloc _) ⟨wr.heap.size, 0, none⟩ 1 1 [.int .i64 b] rfl rfl (one_cell _ _ _) (by intro u hu; simp at hu; subst hu; rfl) (by unfold maxLen; omega) (by omega) (by simp; omega) ?_)
          intro v' w2 hown' hgrow _ hat
          have hB2 := (hB.alloc hsz (.cells #[.int .i64 b] 3)).grown hgrow (by simp; omega) (fun j hj => (hown.lt j hj).1)
          have HO := Lib.hid (show w2.ownsRow w.heap.size 3 1 v' (k + 1 + 1) (intsOf (fewL l (k + 1))) by rw [← HNX.out]; simpa [intsOf] using hown')
          clear hown' hgrow hown hB hat
          go_wp2_with fail
          go_roundw
          case rel => exact ⟨k + 1, hlt, by go_num, HO.out, hB2⟩
          case measure => simp [intOf]; omega
    · have hkn : k = n := by omega
      subst hkn
      have HO := Lib.hid hown
      obtain ⟨ao, capo, e5, _, _⟩ := owns_form hown
      subst e5
      have hn9 : ¬ (k : Int) + 1 ≤ k := by omega
      clear hown
      go_wp2_with fail
      go_ret
      exact ⟨_, rfl, HO.out, hB⟩

def rFewestCoins0 (n : Int) (l : List Int) : Int := if okC l && inB n 0 400 then fw1 l n.toNat else -1
theorem specFewestCoins_any (n : Int) (v : Value) (l : List Int) (w : World) (hn : in64 n) (hr : RowAt w v (intsOf l)) (hl : l.length ≤ 1048576) (hi : ∀ n ∈ l, in64 n) :
    Calls Try.prog 34 #[.int .i64 n, v] w fun e w' => e = .returned (.int .i64 (rFewestCoins0 n l)) ∧ Below w.heap.size w w' := by
  have HC := Lib.hid (specCo_any v l w hr (by omega) hi)
  have HS := Lib.hid (fun W => sIn_any n 0 400 W)
  have HG := Lib.hid (fun (k : Nat) h1 h2 => specFew_any k v l w hr h1 h2)
  obtain ⟨a, cap, rfl, q1, q2, q3⟩ := hr.ints
  obtain ⟨ll, hll⟩ : ∃ ll, ll = l.length := ⟨_, rfl⟩
  rw [← hll] at HC HG ⊢
  clear hr q1 q2 q3 hll hi hl
  have E := Lib.hid (show rFewestCoins0 n l = if okC l && inB n 0 400 then fw1 l n.toNat else -1 from rfl)
  cases hc : okC l
  · rw [hc] at HC E
    clear hc
    go_enter Try.func34, Try.ntmps34
    go_wp2_with fail
    refine HC.out.mono ?_
    rintro e w' ⟨rfl, rfl⟩
    go_wp2_with fail
    go_ret
    exact ⟨by rw [E.out]; rfl, Below.refl _ _⟩
  · rw [hc] at HC E
    cases h : inB n 0 400
    · rw [h] at HS E
      clear hc h
      go_enter Try.func34, Try.ntmps34
      go_wp2_with fail
      refine HC.out.mono ?_
      rintro e w' ⟨rfl, rfl⟩
      go_wp2_with fail
      refine (HS.out _).mono ?_
      rintro e w' ⟨rfl, rfl⟩
      go_wp2_with fail
      go_ret
      exact ⟨by rw [E.out]; rfl, Below.refl _ _⟩
    · rw [h] at HS E
      obtain ⟨n0, n1⟩ := inB_yes h
      obtain ⟨k, rfl⟩ : ∃ k : Nat, n = k := ⟨n.toNat, by omega⟩
      have HGG := Lib.hid (HG.out k (okC_yes hc) (by omega))
      have E2 := Lib.hid (show rFewestCoins0 k l = fw1 l k by rw [E.out]; rfl)
      have HLN := Lib.hid (fewL_len l k)
      obtain ⟨G, hG⟩ : ∃ G, G = fewL l k := ⟨_, rfl⟩
      have HGT := Lib.hid (show G.getD k 0 = fw1 l k by rw [hG]; exact fewL_get l k k (Nat.le_refl _))
      rw [← hG] at HGG HLN
      clear hc h hG
      go_enter Try.func34, Try.ntmps34
      go_wp2_with fail
      refine HC.out.mono ?_
      rintro e w' ⟨rfl, rfl⟩
      go_wp2_with fail
      refine (HS.out _).mono ?_
      rintro e w' ⟨rfl, rfl⟩
      go_wp2_with fail
      refine HGG.out.mono ?_
      rintro e w2 ⟨v2, rfl, hO, hB⟩
      obtain ⟨a3, c3, e3, q1, q2, q3⟩ := (RowAt.of_owns hO).ints
      have hlk : k < G.length := by have := HLN.out; omega
      rw [HLN.out] at e3
      subst e3
      obtain ⟨b', off, rfl, hbb, hcell⟩ := q3.resolve_left (fun e => by rw [e] at hlk; simp at hlk)
      have hcl := hcell k hlk
      rw [show G[k] = fw1 l k by rw [← HGT.out, List.getD_eq_getElem?_getD, List.getElem?_eq_getElem hlk]; rfl] at hcl
      obtain ⟨F, hF⟩ : ∃ F, F = fw1 l k := ⟨_, rfl⟩
      rw [← hF] at hcl E2
      clear hO q1 q2 q3 hcell hlk hF
      go_wp2_with fail
      go_ret
      exact ⟨by rw [E2.out]; rfl, hB⟩

end Go.Proofs.Ytbfoaibgenepoaa
