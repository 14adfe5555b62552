/- The law on places of coins: greedy digits have the right value and are the fewest up to the first failure; the least digits; more than one way. -/
import Derived.Test.YtbfoaibgenepoaaCoI3
import Derived.Test.YtbfoaibgenepoaaLawFns
import Derived.Test.YtbfoaibgenepoaaCoI4
import Derived.Test.YtbfoaibgenepoaaCoI5
import Derived.Test.YtbfoaibgenepoaaCoI8
import Derived.Test.YtbfoaibgenepoaaCoFact
import Derived.Test.YtbfoaibgenepoaaCoDraw
set_option linter.unusedVariables false
set_option linter.unusedSimpArgs false
set_option maxRecDepth 100000
namespace Go.Proofs.Ytbfoaibgenepoaa
open Go.ChangeShapes Go.WideShapes Go.ChangeAt Go.RowKit

theorem inB_inC {x a b : Int} (h1 : a ≤ x) (h2 : x ≤ b) : inB x a b = true := by simp [inB]; omega
theorem cv_is {d l : List Int} {n : Int} (h : Coins l) (h1 : d.length = l.length) (h2 : ∀ x ∈ d, 0 ≤ x ∧ x ≤ 100000) (h3 : dotI d l = n) : rCoinsValue0 d l = n := by
  rw [rCoinsValue0, cvOk, okC_of h, decide_eq_true h1, decide_eq_true h2]; exact h3
/-- what the law needs of drawn coins and a number -/
structure CoL (l : List Int) (n q : Nat) : Prop where
  hq : l.length = q + 1
  g : rGreedyCoins0 n l = gz n l
  f : rFewestCoins0 n l = fw1 l n
  b : rFirstUngreedy0 l 90 = fuN (badG l) 91 0
  d : rLeastDigits0 n l = wDg l q n
  c : rCountCoins0 n l = cwF l n
  z : rCountCoins0 0 l = 1
  vg : rCoinsValue0 (gz n l) l = n
  vd : rCoinsValue0 (wDg l q n) l = n
  ig : rIsGreedy0 (gz n l) l = true
  gb : ∀ x ∈ gz n l, 0 ≤ x ∧ x ≤ 1000
  db : ∀ x ∈ wDg l q n, 0 ≤ x ∧ x ≤ 1000
  gl : (gz n l).length = l.length
  dl : (wDg l q n).length = l.length
  ds : (wDg l q n).sum = fw1 l n
  f0 : 0 ≤ fw1 l n
  f9 : fw1 l n ≤ n
  fs : fw1 l n ≤ (gz n l).sum
  s0 : 0 ≤ (gz n l).sum
theorem CoL.of {l : List Int} {n : Nat} (h : CoD l) (hn : n ≤ 89) : ∃ q, CoL l n q := by
  obtain ⟨q, hq⟩ : ∃ q, l.length = q + 1 := by obtain ⟨t, ht⟩ := h.co.one; exact ⟨t.length, by rw [ht]; rfl⟩
  have hok := okC_of h.co
  have e4 : (okC l && inB (n : Int) 0 400) = true := by rw [hok, inB_inC (by omega) (by omega)]; rfl
  have hgb : ∀ x ∈ gz n l, 0 ≤ x ∧ x ≤ 1000 := fun x hx => by have := gz_bd h.co (show (0 : Int) ≤ n by omega) x hx; omega
  have hw := wDg_dgs h.co (show q < l.length by omega) (show n ≤ 400 by omega)
  have hdb : ∀ x ∈ wDg l q n, 0 ≤ x ∧ x ≤ 1000 := fun x hx => hw.1.2 x hx
  have hvg := cv_is h.co (gz_len n l) (fun x hx => by have := hgb x hx; omega) (gz_val h.co n)
  have hfb := (fw1_bd l n).2
  refine ⟨q, hq, by rw [rGreedyCoins0, hok, inB_inC (by omega) (by omega)]; rfl, by rw [rFewestCoins0, e4]; rfl, ?_, rLeast_yes e4 hq, by rw [rCountCoins0, e4]; rfl, ?_, hvg,
    cv_is h.co hw.2.1 (fun x hx => by have := hdb x hx; omega) (wDg_lst h.co q (by omega) n).sol.val, ?_, hgb, hdb, gz_len _ _, hw.2.1, (wFw_sum h.co q (by omega) n).trans (wFw_few h.co hq n), hfb.1, hfb.2, gz_few h.co n, ?_⟩
  · rw [rFirstUngreedy0, hok, inB_inC (by omega) (by omega)]; rfl
  · rw [rCountCoins0, hok, inB_inC (by omega) (by omega)]; exact cw_zero h.co
  · rw [rIsGreedy0, hvg, inB_inC (by omega) (by omega), Bool.true_and, decide_eq_true rfl]
  · have := gz_few h.co n; omega
theorem gz_sum_le {l : List Int} (h : Coins l) (n : Nat) : 0 ≤ (gz n l).sum ∧ (gz n l).sum ≤ 10 * n := by
  have h1 : ∀ d : List Int, (∀ x ∈ d, 0 ≤ x ∧ x ≤ (n : Int)) → 0 ≤ d.sum ∧ d.sum ≤ d.length * n := by
    intro d
    induction d with
    | nil => intro _; simp
    | cons x d ih =>
      intro hd
      have h2 := ih (fun y hy => hd y (by simp [hy]))
      have h3 := hd x (by simp)
      rw [List.sum_cons, List.length_cons, show ((d.length + 1 : Nat) : Int) = (d.length : Int) + 1 by omega, Int.add_mul]
      omega
  have h2 := h1 (gz n l) (fun x hx => gz_bd h (by omega) x hx)
  have h3 : ((gz n l).length : Int) * n ≤ 10 * n := Int.mul_le_mul_of_nonneg_right (by rw [gz_len]; have := h.len; omega) (by omega)
  omega
/-- what the first failure tells -/
theorem bad_tells {l : List Int} {n : Nat} {B : Int} (h : Coins l) (hn : n ≤ 89) (hB : B = fuN (badG l) 91 0) :
    (B < 0 ∨ (n : Int) < B → (gz n l).sum = fw1 l n) ∧ (0 ≤ B → ∃ m : Nat, B = m ∧ m ≤ 90 ∧ fw1 l m < (gz m l).sum) := by
  have hg := gz_few h n
  refine ⟨fun hh => ?_, fun h0 => ?_⟩
  · have hb : badG l n = false := by
      rcases Int.lt_or_le B 0 with h1 | h1
      · exact fuN_no (by rw [← hB]; exact h1) n (Nat.zero_le _) (by omega)
      · obtain ⟨j, e, _, _, _, h4⟩ := fuN_yes (p := badG l) (m := 91) (k := 0) (by rw [← hB]; exact h1)
        rw [← hB] at e
        exact h4 n (Nat.zero_le _) (by omega)
    have : ¬ fw1 l n < (gz n l).sum := by simpa [badG] using hb
    omega
  · obtain ⟨j, e, _, h2, h3, _⟩ := fuN_yes (p := badG l) (m := 91) (k := 0) (by rw [← hB]; exact h0)
    rw [← hB] at e
    exact ⟨j, e, by omega, by simpa [badG] using h3⟩

set_option maxRecDepth 100000 in
set_option maxHeartbeats 32000000 in
theorem lawCoins (W : World) (a : Option Addr) (len cap : Nat) (zs : List Int) (hz : IsRow .u8 W a len cap zs) :
    Calls Try.prog 3 #[.slice a len cap] W fun e w' => e = .returned (.bool true) ∧ Below W.heap.size W w' := by
  have hv := bytesAt_of hz
  have HV := Lib.hid hv
  have hlen : len ≤ 9223372036854775807 := by
    obtain ⟨_, n, c, zs', e, h1, h2, _⟩ := hv
    injection e with _ e1 _
    unfold maxLen at h2; omega
  clear hz hv
  have HB := Below.refl W.heap.size W
  by_cases hbig : 1048576 < len
  · go_enter Try.func3, Try.ntmps3
    go_wp2
    go_ret
    exact ⟨rfl, Below.refl _ _⟩
  · go_enter Try.func3, Try.ntmps3
    go_wp2_with fail
    refine (makeCoins_any _ 0 _ (HV.out.below HB) (by omega)).mono ?_
    rintro e wa ⟨l, vl, hcd, rfl, hrow, hb⟩
    replace HB := HB.trans (hb.mono HB.size)
    have HL := Lib.hid hrow
    obtain ⟨al, cl, rfl, _, hcl9, _⟩ := hrow.ints
    clear hrow
    clear hb
    go_wp2_with fail
    refine (lawNum_any _ 20 _ (HV.out.below HB) (by omega)).mono ?_
    rintro e wb ⟨x, ⟨hx0, hx1⟩, rfl, hb⟩
    replace HL := Lib.hid (HL.out.below hb)
    replace HB := HB.trans (hb.mono HB.size)
    clear hb
    obtain ⟨n, hn, hn9⟩ : ∃ n : Nat, x.tmod 90 = n ∧ n ≤ 89 := ⟨(x % 90).toNat, by rw [Int.tmod_eq_emod_of_nonneg hx0]; omega, by omega⟩
    obtain ⟨q, hC⟩ := CoL.of hcd hn9
    have hl5 := hcd.len
    have hli : ∀ x ∈ l, in64 x := fun x hx => by have := hcd.co.bd x hx; exact ⟨by omega, by omega⟩
    have KG := Lib.hid (fun W v (h : RowAt W v (intsOf l)) => implGreedyCoins_any n v l W ⟨by omega, by omega⟩ h (by omega) hli)
    rw [hC.g] at KG
    have KF := Lib.hid (fun W v (h : RowAt W v (intsOf l)) => implFewestCoins_any n v l W ⟨by omega, by omega⟩ h (by omega) hli)
    rw [hC.f] at KF
    have KB := Lib.hid (fun W v (h : RowAt W v (intsOf l)) => implFirstUngreedy_any v l 90 W h (by omega) hli ⟨by omega, by omega⟩)
    rw [hC.b] at KB
    have KL := Lib.hid (fun W v (h : RowAt W v (intsOf l)) => implLeastDigits_any n v l W ⟨by omega, by omega⟩ h (by omega) hli)
    rw [hC.d] at KL
    have KO := Lib.hid (fun W v (h : RowAt W v (intsOf l)) => implCoinsOk_any v l W h (by omega) hli)
    rw [rCoinsOk0, okC_of hcd.co] at KO
    have KV := Lib.hid (fun W u v (h' : RowAt W u (intsOf (gz n l))) (h : RowAt W v (intsOf l)) => implCoinsValue_any u (gz n l) v l W h' (by rw [hC.gl]; omega) (fun x hx => by have := hC.gb x hx; exact ⟨by omega, by omega⟩) h (by omega) hli)
    rw [hC.vg] at KV
    have KW := Lib.hid (fun W u v (h' : RowAt W u (intsOf (wDg l q n))) (h : RowAt W v (intsOf l)) => implCoinsValue_any u (wDg l q n) v l W h' (by rw [hC.dl]; omega) (fun x hx => by have := hC.db x hx; exact ⟨by omega, by omega⟩) h (by omega) hli)
    rw [hC.vd] at KW
    have KI := Lib.hid (fun W u v (h' : RowAt W u (intsOf (gz n l))) (h : RowAt W v (intsOf l)) => implIsGreedy_any u (gz n l) v l W h' (by rw [hC.gl]; omega) (fun x hx => by have := hC.gb x hx; exact ⟨by omega, by omega⟩) h (by omega) hli)
    rw [hC.ig] at KI
    have KS := Lib.hid (fun W v (h : RowAt W v (intsOf (gz n l))) => lsum_any v (gz n l) W h (by rw [hC.gl]; omega) (fun x hx => by have := hC.gb x hx; omega))
    have KT := Lib.hid (fun W v (h : RowAt W v (intsOf (wDg l q n))) => lsum_any v (wDg l q n) W h (by rw [hC.dl]; omega) (fun x hx => by have := hC.db x hx; omega))
    rw [hC.ds] at KT
    have KC := Lib.hid (fun W v (h : RowAt W v (intsOf l)) => implCountCoins_any n v l W ⟨by omega, by omega⟩ h (by omega) hli)
    rw [hC.c] at KC
    have KZ := Lib.hid (fun W v (h : RowAt W v (intsOf l)) => implCountCoins_any 0 v l W ⟨by omega, by omega⟩ h (by omega) hli)
    rw [hC.z] at KZ
    have KR := Lib.hid (fun W => implRecurrentCoins_any 1 1 7 W ⟨by omega, by omega⟩ ⟨by omega, by omega⟩ ⟨by omega, by omega⟩)
    rw [rec_fib.1, rec_fib.2] at KR
    have K7 := Lib.hid (fun W v (h : RowAt W v (intsOf [1, 2, 3, 5, 8, 13, 21])) => implFirstUngreedy_any v [1, 2, 3, 5, 8, 13, 21] 200 W h (by decide) (by decide) ⟨by omega, by omega⟩)
    rw [fib_first] at K7
    have K3 := Lib.hid (fun W v (h : RowAt W v (intsOf [1, 3, 4])) => implFirstUngreedy_any v [1, 3, 4] 50 W h (by decide) (by decide) ⟨by omega, by omega⟩)
    rw [old_first] at K3
    have KM := Lib.hid (fun W v u (h : RowAt W v (intsOf [1, 2, 3, 5, 8, 13, 21])) (h' : RowAt W u (intsOf [1, 2, 3, 5, 8, 13, 21])) => same_any v u [1, 2, 3, 5, 8, 13, 21] [1, 2, 3, 5, 8, 13, 21] W h h' (by decide) (by decide) rfl)
    have KGX := Lib.hid (fun W v (h : RowAt W v (intsOf l)) (m : Nat) (hm : m ≤ 90) => implGr_any m v l W h hcd.co (by omega) (by omega))
    have KSX := Lib.hid (fun W v (m : Nat) (hm : m ≤ 90) (h : RowAt W v (intsOf (gz m l))) => lsum_any v (gz m l) W h (by rw [gz_len]; omega) (fun x hx => by have := gz_bd hcd.co (show (0 : Int) ≤ m by omega) x hx; omega))
    have KFX := Lib.hid (fun W v (h : RowAt W v (intsOf l)) (m : Nat) (hm : m ≤ 90) => show Calls Try.prog 16 #[.int .i64 m, v] W (fun e w' => e = .returned (.int .i64 (fw1 l m)) ∧ Below W.heap.size W w') from by
      have h1 := implFewestCoins_any m v l W ⟨by omega, by omega⟩ h (by omega) hli
      rw [show rFewestCoins0 m l = fw1 l m by rw [rFewestCoins0, okC_of hcd.co, inB_inC (by omega) (by omega)]; rfl] at h1
      exact h1)
    obtain ⟨B, hBe⟩ : ∃ B, B = fuN (badG l) 91 0 := ⟨_, rfl⟩
    rw [← hBe] at KB
    obtain ⟨t1, t2⟩ := bad_tells hcd.co hn9 hBe
    have HT2 := Lib.hid t2
    have HXB := Lib.hid (fun (m : Nat) => And.intro (gz_sum_le hcd.co m) (fw1_bd l m).2)
    have HLB := Lib.hid hcd.co.bd
    have fs := hC.fs; have f0 := hC.f0; have f9 := hC.f9; have s9 := gz_sum_le hcd.co n
    have hgl := hC.gl; have hdl := hC.dl
    have hways := cnM_pos (n := n) hcd.co
    have HCN := Lib.hid (fun k => cnM_le n (l.take k))
    have HCT := Lib.hid (fun k (h : k < l.length) => cnM_take (n := n) h)
    have HCL := Lib.hid (show ∀ k, l.length ≤ k → cnM n (l.take k) = cnM n l from fun k h => by rw [List.take_of_length_le h])
    obtain ⟨G, hG⟩ : ∃ G, G = gz n l := ⟨_, rfl⟩
    obtain ⟨D, hD⟩ : ∃ D, D = wDg l q n := ⟨_, rfl⟩
    obtain ⟨F, hF⟩ : ∃ F, F = fw1 l n := ⟨_, rfl⟩
    obtain ⟨CC, hCC⟩ : ∃ C, C = cwF l n := ⟨_, rfl⟩
    rw [← hG] at KG KV KI KS t1 fs s9 hgl
    rw [← hD] at KL KW KT hdl
    rw [← hF] at KF KT t1 fs f0 f9
    rw [← hCC] at KC hways
    obtain ⟨SG, hSG⟩ : ∃ s, s = G.sum := ⟨_, rfl⟩
    rw [← hSG] at KS t1 fs s9
    obtain ⟨LL, hLL⟩ : ∃ L, L = l.length := ⟨_, rfl⟩
    obtain ⟨LG, hLG⟩ : ∃ L, L = G.length := ⟨_, rfl⟩
    obtain ⟨LD, hLD⟩ : ∃ L, L = D.length := ⟨_, rfl⟩
    rw [← hLG] at KG hgl
    rw [← hLD] at KL hdl
    rw [← hLL] at HL hgl hdl hl5 ⊢
    have HLL := Lib.hid hLL
    obtain ⟨MM, hMM⟩ : ∃ m, m = cnM n l := ⟨_, rfl⟩
    rw [← hMM] at hways HCL
    obtain ⟨qb, hqb⟩ : ∃ b, b = decide (0 < MM) := ⟨_, rfl⟩
    have hq1 : decide (0 < MM) = qb := hqb.symm
    have hq2 : decide ((1 : Int) < CC) = qb := by rw [hqb]; congr 1; apply propext; exact hways.symm
    have HT1 := Lib.hid t1
    have hfn : ¬ F < 0 := by omega
    have hfs : ¬ SG < F := by omega
    have hdlI : (LD : Int) = LL := by omega
    have hdlN : LD = LL := hdl.trans rfl
    subst hdlN
    unfold maxLen at hcl9
    have HQ1 := Lib.hid hq1; have HQ2 := Lib.hid hq2
    clear t1 t2 hC hcd hli fs f0 f9 hgl hdl hdlI hways hBe hG hD hF hCC hSG hLL hLG hLD hMM hqb hx0 hx1 hq1 hq2
    go_wp2_with fail
    refine (KG.out _ _ HL.out).mono ?_
    rintro e wc ⟨vg, rfl, ho, hb⟩
    replace HL := Lib.hid (HL.out.below hb)
    replace HB := HB.trans (hb.mono HB.size)
    have HG := Lib.hid (RowAt.of_owns ho)
    obtain ⟨ag, cg, rfl, _, _⟩ := owns_form ho
    clear ho
    clear hb
    go_wp2_with fail
    refine (KF.out _ _ HL.out).mono ?_
    rintro e wd ⟨rfl, hb⟩
    replace HL := Lib.hid (HL.out.below hb)
    replace HG := Lib.hid (HG.out.below hb)
    replace HB := HB.trans (hb.mono HB.size)
    clear hb
    go_wp2_with fail
    refine (KB.out _ _ HL.out).mono ?_
    rintro e we ⟨rfl, hb⟩
    replace HL := Lib.hid (HL.out.below hb)
    replace HG := Lib.hid (HG.out.below hb)
    replace HB := HB.trans (hb.mono HB.size)
    clear hb
    go_wp2_with fail
    refine (KL.out _ _ HL.out).mono ?_
    rintro e wf ⟨vd, rfl, ho, hb⟩
    replace HL := Lib.hid (HL.out.below hb)
    replace HG := Lib.hid (HG.out.below hb)
    replace HB := HB.trans (hb.mono HB.size)
    have HD := Lib.hid (RowAt.of_owns ho)
    obtain ⟨ad, cd, rfl, _, _⟩ := owns_form ho
    clear ho
    clear hb
    go_wp2_with fail
    refine (KO.out _ _ HL.out).mono ?_
    rintro e wg ⟨rfl, hb⟩
    replace HL := Lib.hid (HL.out.below hb)
    replace HG := Lib.hid (HG.out.below hb)
    replace HD := Lib.hid (HD.out.below hb)
    replace HB := HB.trans (hb.mono HB.size)
    clear hb
    go_wp2_with fail
    refine (KV.out _ _ _ HG.out HL.out).mono ?_
    rintro e wh ⟨rfl, hb⟩
    replace HL := Lib.hid (HL.out.below hb)
    replace HG := Lib.hid (HG.out.below hb)
    replace HD := Lib.hid (HD.out.below hb)
    replace HB := HB.trans (hb.mono HB.size)
    clear hb
    go_wp2_with fail
    refine (KI.out _ _ _ HG.out HL.out).mono ?_
    rintro e wi ⟨rfl, hb⟩
    replace HL := Lib.hid (HL.out.below hb)
    replace HG := Lib.hid (HG.out.below hb)
    replace HD := Lib.hid (HD.out.below hb)
    replace HB := HB.trans (hb.mono HB.size)
    clear hb
    go_wp2_with fail
    refine (KS.out _ _ HG.out).mono ?_
    rintro e w' ⟨rfl, rfl⟩
    go_wp2_with fail
    refine (KW.out _ _ _ HD.out HL.out).mono ?_
    rintro e wj ⟨rfl, hb⟩
    replace HL := Lib.hid (HL.out.below hb)
    replace HG := Lib.hid (HG.out.below hb)
    replace HD := Lib.hid (HD.out.below hb)
    replace HB := HB.trans (hb.mono HB.size)
    clear hb
    go_wp2_with fail
    refine (KT.out _ _ HD.out).mono ?_
    rintro e w' ⟨rfl, rfl⟩
    clear KG KF KB KL KO KV KI KW KT HD
    by_cases hb0 : B < 0
    · skip
      have he := HT1.out (.inl hb0)
      have hb1 : ¬ 0 ≤ B := by omega
      subst he
      clear HT1 HT2 KGX KSX KFX HXB
      go_wp2_with fail
      refine (KS.out _ _ HG.out).mono ?_
      rintro e w' ⟨rfl, rfl⟩
      clear KS HG
      obtain ⟨a3, c3, e3, _, _, q3⟩ := HL.out.ints
      injection e3 with e3 e5 e4
      clear e5
      subst e3 e4
      have HCE := Lib.hid q3
      clear q3
      go_wp2_with fail
      go_loop [9, 108] (fun m i => ∃ k : Nat, k ≤ LD ∧ i = .int .i64 k ∧ m = .int .i64 (cnM n (l.take k))) (fun _ i => LD - (intOf i).toNat)
      case atStart => exact ⟨0, Nat.zero_le _, rfl, rfl⟩
      case round =>
        obtain ⟨k, hk, rfl, rfl⟩ := hrel
        have hcn := HCN.out k
        have hlk : (l.take k).length ≤ k := List.length_take_le _ _
        by_cases hlt : k < LD
        · have hll : k < l.length := by have := HLL.out; omega
          obtain ⟨b', off, rfl, hbb, hcell⟩ := HCE.out.resolve_left (fun e => by rw [e] at hll; simp at hll)
          have hcl := hcell k hll
          have hct := HCT.out k (by first | exact hlt | exact hll)
          obtain ⟨y, hy⟩ : ∃ y, y = l[k] := ⟨_, rfl⟩
          rw [← hy] at hcl hct
          obtain ⟨M0, hM0⟩ : ∃ m, m = cnM n (l.take k) := ⟨_, rfl⟩
          rw [← hM0] at hct hcn ⊢
          have hki : (k : Int) < LD := by omega
          clear hcell hy hM0
          by_cases h1 : 1 < y
          · by_cases h2 : y ≤ n
            · rw [if_pos ⟨h1, h2⟩] at hct
              have HCT1 := Lib.hid hct
              clear hct
              go_wp2_with fail
              go_round
              case rel => exact ⟨k + 1, hlt, by go_num, by rw [HCT1.out]; go_num⟩
              case measure => simp [intOf]; omega
            · rw [if_neg (fun h => h2 h.2)] at hct
              have HCT1 := Lib.hid (hct.trans (Nat.add_zero M0))
              clear hct
              go_wp2_with fail
              go_round
              case rel => exact ⟨k + 1, hlt, by go_num, by rw [HCT1.out]⟩
              case measure => simp [intOf]; omega
          · rw [if_neg (fun h => h1 h.1)] at hct
            have HCT1 := Lib.hid (hct.trans (Nat.add_zero M0))
            clear hct
            go_wp2_with fail
            go_round
            case rel => exact ⟨k + 1, hlt, by go_num, by rw [HCT1.out]⟩
            case measure => simp [intOf]; omega
        · have hkl : k = LD := by omega
          rw [HCL.out k (by have := HLL.out; omega)]
          have hn9' : ¬ (k : Int) < LD := by omega
          have hq1 := HQ1.out
          have hq2 := HQ2.out
          clear hkl hcn hlk
          go_wp2_with fail
          refine (KR.out _).mono ?_
          rintro e wp ⟨vr, rfl, ho, hb⟩
          replace HL := Lib.hid (HL.out.below hb)
          replace HB := HB.trans (hb.mono HB.size)
          have HR := Lib.hid (RowAt.of_owns ho)
          obtain ⟨ar, cr, er, _, _⟩ := owns_form ho
          subst er
          clear ho
          clear hb
          go_wp2_with fail
          refine (KC.out _ _ HL.out).mono ?_
          rintro e wq ⟨rfl, hb⟩
          replace HL := Lib.hid (HL.out.below hb)
          replace HR := Lib.hid (HR.out.below hb)
          replace HB := HB.trans (hb.mono HB.size)
          clear hb
          go_wp2_with fail
          refine (KZ.out _ _ HL.out).mono ?_
          rintro e wr ⟨rfl, hb⟩
          replace HL := Lib.hid (HL.out.below hb)
          replace HR := Lib.hid (HR.out.below hb)
          replace HB := HB.trans (hb.mono HB.size)
          have hlit := World.ownsRow_lit (base := wr.heap.size) (e := 3) (size := 1) wr #[.int .i64 1, .int .i64 2, .int .i64 3, .int .i64 5, .int .i64 8, .int .i64 13, .int .i64 21] 7 (Nat.le_refl _) (by decide) rfl
          have hb2 : Below wr.heap.size wr (wr.alloc (.cells #[.int .i64 1, .int .i64 2, .int .i64 3, .int .i64 5, .int .i64 8, .int .i64 13, .int .i64 21] 3)) := (Below.refl _ _).alloc (Nat.le_refl _) _
          have KMM := Lib.hid (KM.out _ _ _ (HR.out.below hb2) (RowAt.of_owns hlit))
          have HRR := Lib.hid (HR.out.below hb2)
          have HBB := HB.trans (hb2.mono HB.size)
          clear hlit hb2
          clear hb
          go_wp2_with fail
          refine KMM.out.mono ?_
          rintro e w' ⟨rfl, rfl⟩
          go_wp2_with fail
          refine (K7.out _ _ HRR.out).mono ?_
          rintro e ws ⟨rfl, hb⟩
          replace HB := HBB.trans (hb.mono HBB.size)
          have hlit := World.ownsRow_lit (base := ws.heap.size) (e := 3) (size := 1) ws #[.int .i64 1, .int .i64 3, .int .i64 4] 3 (Nat.le_refl _) (by decide) rfl
          have hb2 : Below ws.heap.size ws (ws.alloc (.cells #[.int .i64 1, .int .i64 3, .int .i64 4] 3)) := (Below.refl _ _).alloc (Nat.le_refl _) _
          have K33 := Lib.hid (K3.out _ _ (RowAt.of_owns hlit))
          have HB4 := HB.trans (hb2.mono HB.size)
          clear hlit hb2 hb HBB HRR
          go_wp2_with fail
          refine K33.out.mono ?_
          rintro e wt ⟨rfl, hb⟩
          have HB5 := HB4.trans (hb.mono HB4.size)
          clear hb
          go_wp2_with fail
          go_ret
          exact ⟨rfl, HB5⟩
    · skip
      obtain ⟨m, rfl, hm9, hmb⟩ := HT2.out (by omega)
      have hb1 : (0 : Int) ≤ m := by omega
      by_cases hnb : (n : Int) < m
      · skip
        have he := HT1.out (.inr hnb)
        subst he
        clear HT1 HT2
        go_wp2_with fail
        refine (KS.out _ _ HG.out).mono ?_
        rintro e w' ⟨rfl, rfl⟩
        clear KS HG
        go_wp2_with fail
        refine (KGX.out _ _ HL.out m hm9).mono ?_
        rintro e wk1 ⟨vb, rfl, ho, hb⟩
        replace HL := Lib.hid (HL.out.below hb)
        replace HB := HB.trans (hb.mono HB.size)
        have HGB := Lib.hid (RowAt.of_owns ho)
        obtain ⟨ab, cb, eb, _, _⟩ := owns_form ho
        obtain ⟨lb, hlb⟩ : ∃ x, x = (gz m l).length := ⟨_, rfl⟩
        rw [← hlb] at eb
        subst eb
        clear ho hlb
        clear hb
        have KSB := Lib.hid (KSX.out _ _ m hm9 HGB.out)
        have KFB := Lib.hid (fun W v h => KFX.out W v h m hm9)
        have hxb := HXB.out m
        obtain ⟨SB, hSB⟩ : ∃ s, s = (gz m l).sum := ⟨_, rfl⟩
        obtain ⟨FB, hFB⟩ : ∃ s, s = fw1 l m := ⟨_, rfl⟩
        rw [← hSB] at KSB hmb hxb
        rw [← hFB] at KFB hmb hxb
        have hmb' : ¬ SB ≤ FB := by omega
        clear hSB hFB HGB
        go_wp2_with fail
        refine (KSB.out).mono ?_
        rintro e w' ⟨rfl, rfl⟩
        go_wp2_with fail
        refine (KFB.out _ _ HL.out).mono ?_
        rintro e wk2 ⟨rfl, hb⟩
        replace HL := Lib.hid (HL.out.below hb)
        replace HB := HB.trans (hb.mono HB.size)
        clear hb
        clear KSB KFB hmb hxb
        obtain ⟨a3, c3, e3, _, _, q3⟩ := HL.out.ints
        injection e3 with e3 e5 e4
        clear e5
        subst e3 e4
        have HCE := Lib.hid q3
        clear q3
        go_wp2_with fail
        go_loop [9, 108] (fun m i => ∃ k : Nat, k ≤ LD ∧ i = .int .i64 k ∧ m = .int .i64 (cnM n (l.take k))) (fun _ i => LD - (intOf i).toNat)
        case atStart => exact ⟨0, Nat.zero_le _, rfl, rfl⟩
        case round =>
          obtain ⟨k, hk, rfl, rfl⟩ := hrel
          have hcn := HCN.out k
          have hlk : (l.take k).length ≤ k := List.length_take_le _ _
          by_cases hlt : k < LD
          · have hll : k < l.length := by have := HLL.out; omega
            obtain ⟨b', off, rfl, hbb, hcell⟩ := HCE.out.resolve_left (fun e => by rw [e] at hll; simp at hll)
            have hcl := hcell k hll
            have hct := HCT.out k (by first | exact hlt | exact hll)
            obtain ⟨y, hy⟩ : ∃ y, y = l[k] := ⟨_, rfl⟩
            rw [← hy] at hcl hct
            obtain ⟨M0, hM0⟩ : ∃ m, m = cnM n (l.take k) := ⟨_, rfl⟩
            rw [← hM0] at hct hcn ⊢
            have hki : (k : Int) < LD := by omega
            clear hcell hy hM0
            by_cases h1 : 1 < y
            · by_cases h2 : y ≤ n
              · rw [if_pos ⟨h1, h2⟩] at hct
                have HCT1 := Lib.hid hct
                clear hct
                go_wp2_with fail
                go_round
                case rel => exact ⟨k + 1, hlt, by go_num, by rw [HCT1.out]; go_num⟩
                case measure => simp [intOf]; omega
              · rw [if_neg (fun h => h2 h.2)] at hct
                have HCT1 := Lib.hid (hct.trans (Nat.add_zero M0))
                clear hct
                go_wp2_with fail
                go_round
                case rel => exact ⟨k + 1, hlt, by go_num, by rw [HCT1.out]⟩
                case measure => simp [intOf]; omega
            · rw [if_neg (fun h => h1 h.1)] at hct
              have HCT1 := Lib.hid (hct.trans (Nat.add_zero M0))
              clear hct
              go_wp2_with fail
              go_round
              case rel => exact ⟨k + 1, hlt, by go_num, by rw [HCT1.out]⟩
              case measure => simp [intOf]; omega
          · have hkl : k = LD := by omega
            rw [HCL.out k (by have := HLL.out; omega)]
            have hn9' : ¬ (k : Int) < LD := by omega
            have hq1 := HQ1.out
            have hq2 := HQ2.out
            clear hkl hcn hlk
            go_wp2_with fail
            refine (KR.out _).mono ?_
            rintro e wp ⟨vr, rfl, ho, hb⟩
            replace HL := Lib.hid (HL.out.below hb)
            replace HB := HB.trans (hb.mono HB.size)
            have HR := Lib.hid (RowAt.of_owns ho)
            obtain ⟨ar, cr, er, _, _⟩ := owns_form ho
            subst er
            clear ho
            clear hb
            go_wp2_with fail
            refine (KC.out _ _ HL.out).mono ?_
            rintro e wq ⟨rfl, hb⟩
            replace HL := Lib.hid (HL.out.below hb)
            replace HR := Lib.hid (HR.out.below hb)
            replace HB := HB.trans (hb.mono HB.size)
            clear hb
            go_wp2_with fail
            refine (KZ.out _ _ HL.out).mono ?_
            rintro e wr ⟨rfl, hb⟩
            replace HL := Lib.hid (HL.out.below hb)
            replace HR := Lib.hid (HR.out.below hb)
            replace HB := HB.trans (hb.mono HB.size)
            have hlit := World.ownsRow_lit (base := wr.heap.size) (e := 3) (size := 1) wr #[.int .i64 1, .int .i64 2, .int .i64 3, .int .i64 5, .int .i64 8, .int .i64 13, .int .i64 21] 7 (Nat.le_refl _) (by decide) rfl
            have hb2 : Below wr.heap.size wr (wr.alloc (.cells #[.int .i64 1, .int .i64 2, .int .i64 3, .int .i64 5, .int .i64 8, .int .i64 13, .int .i64 21] 3)) := (Below.refl _ _).alloc (Nat.le_refl _) _
            have KMM := Lib.hid (KM.out _ _ _ (HR.out.below hb2) (RowAt.of_owns hlit))
            have HRR := Lib.hid (HR.out.below hb2)
            have HBB := HB.trans (hb2.mono HB.size)
            clear hlit hb2
            clear hb
            go_wp2_with fail
            refine KMM.out.mono ?_
            rintro e w' ⟨rfl, rfl⟩
            go_wp2_with fail
            refine (K7.out _ _ HRR.out).mono ?_
            rintro e ws ⟨rfl, hb⟩
            replace HB := HBB.trans (hb.mono HBB.size)
            have hlit := World.ownsRow_lit (base := ws.heap.size) (e := 3) (size := 1) ws #[.int .i64 1, .int .i64 3, .int .i64 4] 3 (Nat.le_refl _) (by decide) rfl
            have hb2 : Below ws.heap.size ws (ws.alloc (.cells #[.int .i64 1, .int .i64 3, .int .i64 4] 3)) := (Below.refl _ _).alloc (Nat.le_refl _) _
            have K33 := Lib.hid (K3.out _ _ (RowAt.of_owns hlit))
            have HB4 := HB.trans (hb2.mono HB.size)
            clear hlit hb2 hb HBB HRR
            go_wp2_with fail
            refine K33.out.mono ?_
            rintro e wt ⟨rfl, hb⟩
            have HB5 := HB4.trans (hb.mono HB4.size)
            clear hb
            go_wp2_with fail
            go_ret
            exact ⟨rfl, HB5⟩
      · skip
        clear HT1 HT2 KS HG
        go_wp2_with fail
        refine (KGX.out _ _ HL.out m hm9).mono ?_
        rintro e wk1 ⟨vb, rfl, ho, hb⟩
        replace HL := Lib.hid (HL.out.below hb)
        replace HB := HB.trans (hb.mono HB.size)
        have HGB := Lib.hid (RowAt.of_owns ho)
        obtain ⟨ab, cb, eb, _, _⟩ := owns_form ho
        obtain ⟨lb, hlb⟩ : ∃ x, x = (gz m l).length := ⟨_, rfl⟩
        rw [← hlb] at eb
        subst eb
        clear ho hlb
        clear hb
        have KSB := Lib.hid (KSX.out _ _ m hm9 HGB.out)
        have KFB := Lib.hid (fun W v h => KFX.out W v h m hm9)
        have hxb := HXB.out m
        obtain ⟨SB, hSB⟩ : ∃ s, s = (gz m l).sum := ⟨_, rfl⟩
        obtain ⟨FB, hFB⟩ : ∃ s, s = fw1 l m := ⟨_, rfl⟩
        rw [← hSB] at KSB hmb hxb
        rw [← hFB] at KFB hmb hxb
        have hmb' : ¬ SB ≤ FB := by omega
        clear hSB hFB HGB
        go_wp2_with fail
        refine (KSB.out).mono ?_
        rintro e w' ⟨rfl, rfl⟩
        go_wp2_with fail
        refine (KFB.out _ _ HL.out).mono ?_
        rintro e wk2 ⟨rfl, hb⟩
        replace HL := Lib.hid (HL.out.below hb)
        replace HB := HB.trans (hb.mono HB.size)
        clear hb
        clear KSB KFB hmb hxb
        obtain ⟨a3, c3, e3, _, _, q3⟩ := HL.out.ints
        injection e3 with e3 e5 e4
        clear e5
        subst e3 e4
        have HCE := Lib.hid q3
        clear q3
        go_wp2_with fail
        go_loop [9, 108] (fun m i => ∃ k : Nat, k ≤ LD ∧ i = .int .i64 k ∧ m = .int .i64 (cnM n (l.take k))) (fun _ i => LD - (intOf i).toNat)
        case atStart => exact ⟨0, Nat.zero_le _, rfl, rfl⟩
        case round =>
          obtain ⟨k, hk, rfl, rfl⟩ := hrel
          have hcn := HCN.out k
          have hlk : (l.take k).length ≤ k := List.length_take_le _ _
          by_cases hlt : k < LD
          · have hll : k < l.length := by have := HLL.out; omega
            obtain ⟨b', off, rfl, hbb, hcell⟩ := HCE.out.resolve_left (fun e => by rw [e] at hll; simp at hll)
            have hcl := hcell k hll
            have hct := HCT.out k (by first | exact hlt | exact hll)
            obtain ⟨y, hy⟩ : ∃ y, y = l[k] := ⟨_, rfl⟩
            rw [← hy] at hcl hct
            obtain ⟨M0, hM0⟩ : ∃ m, m = cnM n (l.take k) := ⟨_, rfl⟩
            rw [← hM0] at hct hcn ⊢
            have hki : (k : Int) < LD := by omega
            clear hcell hy hM0
            by_cases h1 : 1 < y
            · by_cases h2 : y ≤ n
              · rw [if_pos ⟨h1, h2⟩] at hct
                have HCT1 := Lib.hid hct
                clear hct
                go_wp2_with fail
                go_round
                case rel => exact ⟨k + 1, hlt, by go_num, by rw [HCT1.out]; go_num⟩
                case measure => simp [intOf]; omega
              · rw [if_neg (fun h => h2 h.2)] at hct
                have HCT1 := Lib.hid (hct.trans (Nat.add_zero M0))
                clear hct
                go_wp2_with fail
                go_round
                case rel => exact ⟨k + 1, hlt, by go_num, by rw [HCT1.out]⟩
                case measure => simp [intOf]; omega
            · rw [if_neg (fun h => h1 h.1)] at hct
              have HCT1 := Lib.hid (hct.trans (Nat.add_zero M0))
              clear hct
              go_wp2_with fail
              go_round
              case rel => exact ⟨k + 1, hlt, by go_num, by rw [HCT1.out]⟩
              case measure => simp [intOf]; omega
          · have hkl : k = LD := by omega
            rw [HCL.out k (by have := HLL.out; omega)]
            have hn9' : ¬ (k : Int) < LD := by omega
            have hq1 := HQ1.out
            have hq2 := HQ2.out
            clear hkl hcn hlk
            go_wp2_with fail
            refine (KR.out _).mono ?_
            rintro e wp ⟨vr, rfl, ho, hb⟩
            replace HL := Lib.hid (HL.out.below hb)
            replace HB := HB.trans (hb.mono HB.size)
            have HR := Lib.hid (RowAt.of_owns ho)
            obtain ⟨ar, cr, er, _, _⟩ := owns_form ho
            subst er
            clear ho
            clear hb
            go_wp2_with fail
            refine (KC.out _ _ HL.out).mono ?_
            rintro e wq ⟨rfl, hb⟩
            replace HL := Lib.hid (HL.out.below hb)
            replace HR := Lib.hid (HR.out.below hb)
            replace HB := HB.trans (hb.mono HB.size)
            clear hb
            go_wp2_with fail
            refine (KZ.out _ _ HL.out).mono ?_
            rintro e wr ⟨rfl, hb⟩
            replace HL := Lib.hid (HL.out.below hb)
            replace HR := Lib.hid (HR.out.below hb)
            replace HB := HB.trans (hb.mono HB.size)
            have hlit := World.ownsRow_lit (base := wr.heap.size) (e := 3) (size := 1) wr #[.int .i64 1, .int .i64 2, .int .i64 3, .int .i64 5, .int .i64 8, .int .i64 13, .int .i64 21] 7 (Nat.le_refl _) (by decide) rfl
            have hb2 : Below wr.heap.size wr (wr.alloc (.cells #[.int .i64 1, .int .i64 2, .int .i64 3, .int .i64 5, .int .i64 8, .int .i64 13, .int .i64 21] 3)) := (Below.refl _ _).alloc (Nat.le_refl _) _
            have KMM := Lib.hid (KM.out _ _ _ (HR.out.below hb2) (RowAt.of_owns hlit))
            have HRR := Lib.hid (HR.out.below hb2)
            have HBB := HB.trans (hb2.mono HB.size)
            clear hlit hb2
            clear hb
            go_wp2_with fail
            refine KMM.out.mono ?_
            rintro e w' ⟨rfl, rfl⟩
            go_wp2_with fail
            refine (K7.out _ _ HRR.out).mono ?_
            rintro e ws ⟨rfl, hb⟩
            replace HB := HBB.trans (hb.mono HBB.size)
            have hlit := World.ownsRow_lit (base := ws.heap.size) (e := 3) (size := 1) ws #[.int .i64 1, .int .i64 3, .int .i64 4] 3 (Nat.le_refl _) (by decide) rfl
            have hb2 : Below ws.heap.size ws (ws.alloc (.cells #[.int .i64 1, .int .i64 3, .int .i64 4] 3)) := (Below.refl _ _).alloc (Nat.le_refl _) _
            have K33 := Lib.hid (K3.out _ _ (RowAt.of_owns hlit))
            have HB4 := HB.trans (hb2.mono HB.size)
            clear hlit hb2 hb HBB HRR
            go_wp2_with fail
            refine K33.out.mono ?_
            rintro e wt ⟨rfl, hb⟩
            have HB5 := HB4.trans (hb.mono HB4.size)
            clear hb
            go_wp2_with fail
            go_ret
            exact ⟨rfl, HB5⟩

end Go.Proofs.Ytbfoaibgenepoaa
