/- Places of coins, the program: lists compared, greedy digits tested. -/
import Derived.Test.YtbfoaibgenepoaaCoI2
set_option linter.unusedVariables false
set_option linter.unusedSimpArgs false
set_option maxRecDepth 100000
namespace Go.Proofs.Ytbfoaibgenepoaa
open Go.ChangeShapes Go.WideShapes Go.ChangeAt Go.RowKit

set_option maxHeartbeats 2000000 in
theorem slEq_any (va vc : Value) (a c : List Int) (w : World) (hra : RowAt w va (intsOf a)) (hrc : RowAt w vc (intsOf c)) (hl : a.length ≤ 1048577) (hl' : c.length ≤ 1048577) :
    Calls Try.prog 54 #[va, vc] w fun e w' => e = .returned (.bool (decide (a = c))) ∧ ∃ q, w' = w.drewN q := by
  obtain ⟨aa, cap, rfl, h1, h2, h3⟩ := hra.ints
  obtain ⟨ac, cap', rfl, h1', h2', h3'⟩ := hrc.ints
  unfold maxLen at h2 h2'
  clear hra hrc
  by_cases hlen : a.length = c.length
  · have HLE := Lib.hid hlen
    obtain ⟨m, hm⟩ : ∃ m, m = c.length := ⟨_, rfl⟩
    rw [← hm] at hlen hl' h1' ⊢
    have HM := Lib.hid hm
    obtain ⟨n, hn⟩ : ∃ n, n = a.length := ⟨_, rfl⟩
    have HN := Lib.hid hn
    rw [← hn] at hlen hl h1 ⊢
    subst hlen
    clear hm hn
    go_enter Try.func54, Try.ntmps54
    go_wp2
    go_loopw [13] (fun i wr => ∃ k q : Nat, k ≤ n ∧ i = .int .i64 k ∧ (∀ j (ha : j < a.length) (hc : j < c.length), j < k → a[j] = c[j]) ∧ wr = w.drewN q) (fun i _ => n - (intOf i).toNat)
    case atStart => exact ⟨0, 0, Nat.zero_le _, rfl, fun _ _ _ h => by omega, rfl⟩
    case round =>
      obtain ⟨k, q, hk, rfl, hall, rfl⟩ := hrel
      have HA := Lib.hid hall
      clear hall
      by_cases hlt : k < n
      · have ka : k < a.length := by rw [← HN.out]; exact hlt
        have kc : k < c.length := by rw [← HM.out]; exact hlt
        obtain ⟨b, off, rfl, hb, hcell⟩ := h3.resolve_left (fun e => by rw [e] at ka; simp at ka)
        obtain ⟨b', off', rfl, hb', hcell'⟩ := h3'.resolve_left (fun e => by rw [e] at kc; simp at kc)
        have hc := hcell k ka
        have hc' := hcell' k kc
        obtain ⟨x, hx⟩ : ∃ x, x = a[k] := ⟨_, rfl⟩
        obtain ⟨y, hy⟩ : ∃ y, y = c[k] := ⟨_, rfl⟩
        rw [← hx] at hc
        rw [← hy] at hc'
        have HX := Lib.hid hx
        have HY := Lib.hid hy
        clear h3 h3' hcell hcell' hx hy
        by_cases hxy : x = y
        · have HE := Lib.hid (show ∀ j (ha : j < a.length) (hc : j < c.length), j < k + 1 → a[j] = c[j] from fun j ha hc hj => by
            rcases Nat.lt_or_ge j k with h | h
            · exact HA.out j ha hc h
            · have : j = k := by omega
              subst this
              rw [← HX.out, ← HY.out, hxy])
          subst hxy
          go_wp2
          go_quiet (fail)
          go_wp2
          exact ⟨⟨k + 1, _, hlt, by go_num, HE.out, rfl⟩, by simp [intOf]; omega⟩
        · have HV := Lib.hid (show decide (a = c) = false from decide_eq_false (fun e => hxy (by rw [HX.out, HY.out]; subst e; rfl)))
          have hq : (x == y) = false := by simp [hxy]
          clear hxy
          go_wp2
          go_quiet (fail)
          go_wp2
          go_ret
          exact ⟨by rw [HV.out]; rfl, _, drew2C _ _ _⟩
      · have HV := Lib.hid (show decide (a = c) = true from decide_eq_true (List.ext_getElem HLE.out (fun j ha hc => HA.out j ha hc (by have := HN.out; omega))))
        clear h3 h3'
        go_wp2
        go_ret
        exact ⟨by rw [HV.out]; rfl, _, rfl⟩
  · have HV := Lib.hid (show decide (a = c) = false from decide_eq_false (fun e => hlen (by rw [e])))
    have hlI : ((a.length : Int) == c.length) = false := by simp; omega
    have hlJ : ¬ (a.length : Int) = c.length := by omega
    clear h3 h3'
    go_enter Try.func54, Try.ntmps54
    go_wp2
    go_ret
    exact ⟨by rw [HV.out]; rfl, 0, rfl⟩

theorem implGreedyCoins_any (n : Int) (v : Value) (l : List Int) (w : World) (hn : in64 n) (hr : RowAt w v (intsOf l)) (hl : l.length ≤ 1048576) (hi : ∀ n ∈ l, in64 n) :
    Calls Try.prog 15 #[.int .i64 n, v] w fun e w' => ∃ v', e = .returned v' ∧ w'.ownsRow w.heap.size 3 1 v' (rGreedyCoins0 n l).length (intsOf (rGreedyCoins0 n l)) ∧ Below w.heap.size w w' := by
  have HC := Lib.hid (implCo_any v l (w.alloc (.cells #[.int .i64 n] 3)) (hr.below ((Below.refl _ _).alloc (Nat.le_refl _) _)) (by omega))
  have HNO := Lib.hid (fun (h : (okC l && inB n 0 100000) = false) (W : World) (hB : Below w.heap.size w W) => show ∃ v', Ending.returned (.slice none 0 0) = .returned v' ∧ W.ownsRow w.heap.size 3 1 v' (rGreedyCoins0 n l).length (intsOf (rGreedyCoins0 n l)) ∧ Below w.heap.size w W from by
    refine ⟨_, rfl, ?_, hB⟩
    rw [rGreedyCoins0, h]; exact World.ownsRow_nil _ _ _ _)
  by_cases hok : okC l = true ∧ inB n 0 100000 = true
  · obtain ⟨h1, h2⟩ := hok
    obtain ⟨n0, n1⟩ := inB_yes h2
    rw [show rGreedyCoins0 n l = gz n l by rw [rGreedyCoins0, h1, h2]; rfl]
    exact implGr_any n v l w hr (okC_yes h1) n0 n1
  · have HN := Lib.hid (HNO.out (by cases h1 : okC l <;> cases h2 : inB n 0 100000 <;> simp_all))
    have hB : Below w.heap.size w (w.alloc (.cells #[.int .i64 n] 3)) := (Below.refl _ _).alloc (Nat.le_refl _) _
    obtain ⟨a, cap, rfl, q1, q2, q3⟩ := hr.ints
    obtain ⟨ll, hll⟩ : ∃ ll, ll = l.length := ⟨_, rfl⟩
    rw [← hll] at HC ⊢
    cases hc : okC l
    · rw [hc] at HC
      clear hr q1 q2 q3 hll hi hl hc hok HNO
      go_enter Try.func15, Try.ntmps15
      go_wp2_with fail
      refine HC.out.mono ?_
      rintro e w' ⟨rfl, q, rfl⟩
      go_wp2_with fail
      go_ret
      exact HN.out _ (below_drewN hB _)
    · rw [hc] at HC
      have h2 : inB n 0 100000 = false := by cases h2 : inB n 0 100000 <;> simp_all
      clear hr q1 q2 q3 hll hi hl hc hok HNO
      by_cases c1 : n < 0
      · clear h2
        go_enter Try.func15, Try.ntmps15
        go_wp2_with fail
        refine HC.out.mono ?_
        rintro e w' ⟨rfl, q, rfl⟩
        go_wp2_with fail
        go_ret
        exact HN.out _ (below_drewN hB _)
      · have c2 : 100000 < n := by simp [inB] at h2; omega
        clear h2
        go_enter Try.func15, Try.ntmps15
        go_wp2_with fail
        refine HC.out.mono ?_
        rintro e w' ⟨rfl, q, rfl⟩
        go_wp2_with fail
        go_ret
        exact HN.out _ (below_drewN hB _)

theorem rg_small (d l : List Int) (h : rCoinsValue0 d l < 0) : rIsGreedy0 d l = false := by
  have : inB (rCoinsValue0 d l) 0 100000 = false := by simp [inB]; omega
  rw [rIsGreedy0, this]; rfl
theorem rg_big (d l : List Int) (h : 0 ≤ rCoinsValue0 d l) : rIsGreedy0 d l = decide (d = rGreedyCoins0 (rCoinsValue0 d l) l) := by
  have hco := okC_of (cv_coins h)
  rw [rIsGreedy0, rGreedyCoins0, hco, Bool.true_and]
  cases e : inB (rCoinsValue0 d l) 0 100000
  · have hd : d ≠ [] := fun hd => by
      cases e2 : cvOk d l
      · rw [cv_not e2] at h; omega
      · rw [cvOk, Bool.and_eq_true, Bool.and_eq_true, decide_eq_true_eq] at e2
        obtain ⟨t, ht⟩ := (cv_coins h).one
        have := e2.2.1
        rw [hd, ht] at this; simp at this
    rw [if_neg (by simp), decide_eq_false hd]; rfl
  · rw [if_pos rfl]; rfl
theorem rg_len (n : Int) (l : List Int) (hl : l.length ≤ 1048577) : (rGreedyCoins0 n l).length ≤ 1048577 := by
  rw [rGreedyCoins0]; split
  · rw [gz_len]; exact hl
  · simp

theorem implIsGreedy_any (vd : Value) (d : List Int) (v : Value) (l : List Int) (w : World) (hrd : RowAt w vd (intsOf d)) (hld : d.length ≤ 1048576) (hid : ∀ n ∈ d, in64 n) (hr : RowAt w v (intsOf l)) (hl : l.length ≤ 1048576) (hi : ∀ n ∈ l, in64 n) :
    Calls Try.prog 21 #[vd, v] w fun e w' => e = .returned (.bool (rIsGreedy0 d l)) ∧ Below w.heap.size w w' := by
  have HV := Lib.hid (implCv_any vd v d l w hrd hr (by omega) (by omega))
  have HG := Lib.hid (fun W (hb : Below w.heap.size w W) h => implGreedyCoins_any (rCoinsValue0 d l) v l W h (hr.below hb) hl hi)
  have HM := Lib.hid (fun W vg (hb : Below w.heap.size w W) (hg : RowAt W vg (intsOf (rGreedyCoins0 (rCoinsValue0 d l) l))) => slEq_any vd vg d (rGreedyCoins0 (rCoinsValue0 d l) l) W (hrd.below hb) hg (by omega) (rg_len _ _ (by omega)))
  have HSM := Lib.hid (rg_small d l)
  have HBG := Lib.hid (rg_big d l)
  have hnb : rCoinsValue0 d l ≤ 1000000000 := by
    rw [rCoinsValue0]; split
    · rename_i e
      rw [cvOk, Bool.and_eq_true, Bool.and_eq_true, decide_eq_true_eq, decide_eq_true_eq] at e
      have h := dotI_small (d := d) (l := l) (k := l.length) (fun x hx => e.2.2 x (List.mem_of_mem_take hx)) (okC_yes e.1).bd (by have := (okC_yes e.1).len; omega)
      rw [List.take_length, List.take_of_length_le (by omega)] at h
      exact h.2
    · omega
  obtain ⟨a, cap, rfl, q1, q2, q3⟩ := hr.ints
  obtain ⟨ad, capd, rfl, p1, p2, p3⟩ := hrd.ints
  obtain ⟨n, hn⟩ : ∃ n, n = rCoinsValue0 d l := ⟨_, rfl⟩
  rw [← hn] at HV HG HM HSM HBG hnb
  obtain ⟨RES, hRES⟩ : ∃ R, R = rIsGreedy0 d l := ⟨_, rfl⟩
  rw [← hRES] at HSM HBG ⊢
  obtain ⟨ll, hll⟩ : ∃ ll, ll = l.length := ⟨_, rfl⟩
  obtain ⟨ld, hld'⟩ : ∃ ll, ll = d.length := ⟨_, rfl⟩
  rw [← hll] at HV HG ⊢
  rw [← hld'] at HV HM ⊢
  clear hr hrd q1 q2 q3 p1 p2 p3 hn hll hld' hi hid hld hl hRES
  by_cases h : n < 0
  · have E := Lib.hid (HSM.out h)
    have h' : ¬ 0 ≤ n := by omega
    clear HG HM HSM HBG
    go_enter Try.func21, Try.ntmps21
    go_wp2_with fail
    refine HV.out.mono ?_
    rintro e w' ⟨rfl, q, rfl⟩
    go_wp2_with fail
    go_ret
    exact ⟨by rw [E.out]; rfl, below_drewN (Below.refl _ _) _⟩
  · have h' : 0 ≤ n := by omega
    have E := Lib.hid (HBG.out h')
    have HGG := Lib.hid (fun W hb => HG.out W hb (show in64 n by unfold in64; omega))
    obtain ⟨G, hG⟩ : ∃ G, G = rGreedyCoins0 n l := ⟨_, rfl⟩
    rw [← hG] at HGG HM E
    obtain ⟨Q, hQ⟩ : ∃ Q, Q = decide (d = G) := ⟨_, rfl⟩
    rw [← hQ] at HM E
    clear h HG hG hQ HSM HBG
    go_enter Try.func21, Try.ntmps21
    go_wp2_with fail
    refine HV.out.mono ?_
    rintro e w' ⟨rfl, q, rfl⟩
    go_wp2_with fail
    refine (HGG.out _ (below_drewN (Below.refl _ _) _)).mono ?_
    rintro e w2 ⟨v2, rfl, hO, hB⟩
    have hB2 : Below w.heap.size w w2 := (below_drewN (Below.refl _ _) q).trans hB
    have HMM := Lib.hid (HM.out _ _ hB2 (RowAt.of_owns hO))
    have HB2 := Lib.hid hB2
    obtain ⟨a3, c3, e3, _, _⟩ := owns_form hO
    obtain ⟨ln3, hln3⟩ : ∃ ln, ln = G.length := ⟨_, rfl⟩
    rw [← hln3] at e3
    subst e3
    clear hO hln3 hB hB2
    go_wp2_with fail
    refine HMM.out.mono ?_
    rintro e w3 ⟨rfl, q3, rfl⟩
    go_wp2_with fail
    go_ret
    exact ⟨by rw [E.out]; rfl, below_drewN HB2.out _⟩

end Go.Proofs.Ytbfoaibgenepoaa
