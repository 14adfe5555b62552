/- Signed binary digits: the program counts lists by their kinds. -/
import Derived.Test.YtiemhhkoegkleaaSgRw
import Derived.Test.YtiemhhkoegkleaaSgMore
set_option linter.unusedVariables false
set_option linter.unusedSimpArgs false
set_option maxRecDepth 100000
namespace Go.Proofs.Ytiemhhkoegkleaa
open Go.ChangeShapes Go.WideShapes Go.ChangeAt Go.RowKit

theorem ext_cnt (k : Nat) (a b : Int) : ext (fun x y => (cnt x k y : Int)) a b = cnt a (k + 1) b := by
  simp only [ext]
  by_cases h : a % 2 = 0
  · rw [if_pos h, cnt_even h]
  · rw [if_neg h, cnt_odd (by omega)]; omega
theorem ext_le {f g : Int → Int → Int} (h : ∀ a b, 0 ≤ f a b ∧ f a b ≤ g a b) : ∀ a b, 0 ≤ ext f a b ∧ ext f a b ≤ ext g a b := fun a b => by
  have h1 := h (a / 2) b; have h2 := h ((a - 1) / 2) (b - 1); have h3 := h ((a + 1) / 2) (b - 1)
  simp only [ext]; split <;> omega
theorem canBe_iff (n u : Int) (q : Nat) (a b : Int) : canBe n u q a b = true ↔ (-(2 ^ q : Int) < n - a * 2 ^ q ∧ n - a * 2 ^ q < 2 ^ q) ∧ b ≤ u := by
  have h2 : ((2 ^ q : Nat) : Int) = (2 : Int) ^ q := Int.natCast_pow _ _
  rw [canBe, Bool.and_eq_true, decide_eq_true_eq, decide_eq_true_eq, ← h2]
  omega
theorem canBe_pre {n u : Int} {q : Nat} {a b a' b' d : Int} (h : canBe n u q a b = true) (ha : a = 2 * a' + d) (hd1 : -1 ≤ d) (hd2 : d ≤ 1) (hb : b' ≤ b) : canBe n u (q + 1) a' b' = true := by
  rw [canBe_iff] at h ⊢
  have e : (2 : Int) ^ (q + 1) = 2 * 2 ^ q := by rw [Int.pow_succ, Int.mul_comm]
  rw [e]
  obtain ⟨Q, hQ⟩ : ∃ Q, Q = (2 : Int) ^ q := ⟨_, rfl⟩
  rw [← hQ] at h ⊢
  have hdQ : d * Q = -Q ∨ d * Q = 0 ∨ d * Q = Q := by
    rcases (show d = -1 ∨ d = 0 ∨ d = 1 by omega) with rfl | rfl | rfl
    · left; omega
    · right; left; omega
    · right; right; omega
  have e2 : a * Q = a' * (2 * Q) + d * Q := by rw [ha, Int.add_mul, Int.mul_comm 2 a', Int.mul_assoc]
  obtain ⟨A, hA⟩ : ∃ A, A = a' * (2 * Q) := ⟨_, rfl⟩
  obtain ⟨B, hB⟩ : ∃ B, B = d * Q := ⟨_, rfl⟩
  rw [e2, ← hA, ← hB] at h
  rw [← hB] at hdQ
  rw [← hA]
  omega
theorem canBe_end (n u : Int) : canBe n u 0 n u = true := by
  rw [canBe_iff]; simp

/-- what is kept -/
def kept (n u : Int) (q : Nat) (f : Int → Int → Int) (left : Lit → Bool) : Int → Int → Int := fun a b => if (left (kl a b) || canBe n u q a b) = true then f a b else 0

section
variable {D : DataW Unit} {f : Int → Int → Int} {V W n u : Int} {q : Nat} {left : Lit → Bool}
theorem kept_start (h : RdD D f V W) (hV : V ≤ 1000000) (hW : W ≤ 1000) : ∀ a b, f a b = kept n u q f (Maps.has D) a b := fun a b => by
  show f a b = if (Maps.has D (kl a b) || canBe n u q a b) = true then f a b else 0
  by_cases hin : (-V ≤ a ∧ a ≤ V) ∧ 0 ≤ b ∧ b ≤ W
  · have ha : in64 a := by unfold in64; omega
    have hb : in64 b := by unfold in64; omega
    cases hh : Maps.has D (kl a b)
    · have := h.at_ a b ha hb
      rw [Maps.atKey_of_not_has hh] at this
      rw [← el_inj this]; split <;> rfl
    · rw [if_pos (by simp)]
  · rw [h.out a b hin]; split <;> rfl
theorem kept_end (hl : ∀ z, left z = false) : ∀ a b, kept n u q f left a b = if canBe n u q a b = true then f a b else 0 := fun a b => by
  show (if (left (kl a b) || canBe n u q a b) = true then f a b else 0) = _
  rw [hl, Bool.false_or]
theorem kept_stays (hf : ∀ a b, ¬ ((-V ≤ a ∧ a ≤ V) ∧ 0 ≤ b ∧ b ≤ W) → f a b = 0) (hV : V ≤ 1000000) (hW : W ≤ 1000) {x y : Int} (hx : in64 x) (hy : in64 y) (hc : canBe n u q x y = true) :
    ∀ a b, kept n u q f left a b = kept n u q f (fun z => left z && !z.sameKey (kl x y)) a b := fun a b => by
  show (if (left (kl a b) || canBe n u q a b) = true then f a b else 0) = if ((left (kl a b) && !(kl a b).sameKey (kl x y)) || canBe n u q a b) = true then f a b else 0
  by_cases hin : (-V ≤ a ∧ a ≤ V) ∧ 0 ≤ b ∧ b ≤ W
  · have ha : in64 a := by unfold in64; omega
    have hb : in64 b := by unfold in64; omega
    by_cases e : a = x ∧ b = y
    · obtain ⟨rfl, rfl⟩ := e
      rw [hc, Bool.or_true, Bool.or_true]
    · rw [Maps.sameKey_ne (fun e' => e (kl_inj ha hb hx hy e')), Bool.not_false, Bool.and_true]
  · rw [hf a b hin]; split <;> split <;> rfl
theorem kept_struck (hf : ∀ a b, ¬ ((-V ≤ a ∧ a ≤ V) ∧ 0 ≤ b ∧ b ≤ W) → f a b = 0) (hV : V ≤ 1000000) (hW : W ≤ 1000) {x y : Int} (hx : in64 x) (hy : in64 y) (hc : canBe n u q x y = false) :
    ∀ a b, upd (kept n u q f left) x y 0 a b = kept n u q f (fun z => left z && !z.sameKey (kl x y)) a b := fun a b => by
  show (if a = x ∧ b = y then 0 else if (left (kl a b) || canBe n u q a b) = true then f a b else 0) = if ((left (kl a b) && !(kl a b).sameKey (kl x y)) || canBe n u q a b) = true then f a b else 0
  by_cases hin : (-V ≤ a ∧ a ≤ V) ∧ 0 ≤ b ∧ b ≤ W
  · have ha : in64 a := by unfold in64; omega
    have hb : in64 b := by unfold in64; omega
    by_cases e : a = x ∧ b = y
    · obtain ⟨rfl, rfl⟩ := e
      rw [if_pos ⟨rfl, rfl⟩, hc, WideAt.sameKey_self (kl_key _ _)]; simp
    · rw [if_neg e, Maps.sameKey_ne (fun e' => e (kl_inj ha hb hx hy e')), Bool.not_false, Bool.and_true]
  · rw [hf a b hin]; repeat' split
    all_goals rfl
end

/-- what is known behind k places, p - k before the end -/
structure CntI (n u : Int) (q k : Nat) (f : Int → Int → Int) : Prop where
  le : ∀ a b, 0 ≤ f a b ∧ f a b ≤ cnt a k b
  eq : ∀ a b, canBe n u q a b = true → f a b = cnt a k b
theorem CntI.step {n u : Int} {q k : Nat} {f : Int → Int → Int} (h : CntI n u (q + 1) k f) {f' : Int → Int → Int} (hf : ∀ a b, f' a b = if canBe n u q a b = true then ext f a b else 0) : CntI n u q (k + 1) f' where
  le a b := by
    have h1 := ext_le h.le a b
    rw [ext_cnt] at h1
    rw [hf]
    split <;> omega
  eq a b hc := by
    rw [hf, if_pos hc, ← ext_cnt]
    simp only [ext]
    by_cases h2 : a % 2 = 0
    · rw [if_pos h2, if_pos h2]
      exact h.eq _ _ (canBe_pre (d := 0) hc (by omega) (by omega) (by omega) (Int.le_refl _))
    · rw [if_neg h2, if_neg h2]
      rw [h.eq _ _ (canBe_pre (d := 1) hc (by omega) (by omega) (by omega) (by omega)), h.eq _ _ (canBe_pre (d := -1) hc (by omega) (by omega) (by omega) (by omega))]

section
variable (w : World) {ops : Array Oper} {rest : List Oper} {o : Oper} {a : Act} {Q : Exit → Act → World → Prop}
/-- an entry of a map that is written out -/
theorem wpList_insert_kinds (hg : o.guard = none) (m x v : Operand) (hop : o.op = Op.insert 80 m x v) (b n : Nat) (D : DataW Unit) (hm : a.eval m = .map (some b)) (hown : OwnsK w b n D) (hn : n < maxLen)
    (p q c : Int) (hx : a.eval x = kv p q) (hv : a.eval v = .int .i64 c) (hp : in64 p) (hq : in64 q) (hc : in64 c)
    (hK : ∀ w', OwnsK w' b (n + 1) (D.put (kl p q) (el c)) → w.grownBy w' (some b) → wpList Try.prog ops Q rest (a.put o.dst undef) w') :
    wpList Try.prog ops Q (o :: rest) a w := by
  refine wpList_plain hg fun K' hK' => ?_
  obtain ⟨w', hrun, r1, r2⟩ := hown.update lawK Try.underlying80 hn (key_mk hp hq) (plainElem_int Try.underlying3 (wf_of hc))
  unfold Oper.wp
  simp [execOp, hop, hm, hx, hv, hrun, Result.andThen]
  exact hK' _ _ (hK w' r1 r2)
end

set_option maxHeartbeats 8000000 in
theorem countRun_any (n u : Int) (p : Nat) (w : World) (hn1 : -5000 ≤ n) (hn2 : n ≤ 5000) (hp : p ≤ 12) (hu0 : 0 ≤ u) (hu1 : u ≤ 12) :
    Calls Try.prog 29 #[.int .i64 n, .int .i64 p, .int .i64 u] w fun e w' => e = .returned (.int .i64 (cnt n p u)) ∧ Below w.heap.size w w' := by
  have hmm := @run_makeMap Try.prog
  have hcase : ((p : Int) < u) ∨ ((p : Int) ≤ u ∧ u ≤ p) ∨ (u < (p : Int)) := by omega
  have hc0 : (w.alloc (.cells #[.int .i64 n, .int .i64 u] 79)).cell? ⟨w.heap.size, 0, none⟩ = some (.int .i64 n) := by go_simp
  have hc1 : (w.alloc (.cells #[.int .i64 n, .int .i64 u] 79)).cell? ⟨w.heap.size, 1, none⟩ = some (.int .i64 u) := by go_simp
  have hB0 : Below w.heap.size w (w.alloc (.cells #[.int .i64 n, .int .i64 u] 79)) := (Below.refl _ w).alloc (Nat.le_refl _) _
  have hs0 : (w.alloc (.cells #[.int .i64 n, .int .i64 u] 79)).heap.size = w.heap.size + 1 := by simp
  have hm0 := World.ownsMap_made (H := Unit) (w.alloc (.cells #[.int .i64 n, .int .i64 u] 79)) Try.prog 79 (plainElem Try.prog 3)
  obtain ⟨W1, hW1⟩ : ∃ W1, (w.alloc (.cells #[.int .i64 n, .int .i64 u] 79)) = W1 := ⟨_, rfl⟩
  rw [hW1] at hc0 hc1 hB0 hs0 hm0
  rw [hs0] at hm0
  have HW1 := Lib.hid hW1; have HC0 := Lib.hid hc0; have HC1 := Lib.hid hc1; have HB0 := Lib.hid hB0; have HM0 := Lib.hid hm0
  clear hW1 hc0 hc1 hB0 hm0
  rcases hcase with hcase | ⟨hcase, hcase'⟩ | hcase
  all_goals
    go_enter Try.func29, Try.ntmps29
    go_wp2_with (refine wpList_insert_kinds _ rfl _ _ _ rfl (w.heap.size + 1) 0 (.map []) rfl (by first | exact HM0.out | (rw [HW1.out]; exact HM0.out)) (by unfold maxLen; omega) 0 0 1 rfl rfl (by unfold in64; omega) (by unfold in64; omega) (by unfold in64; omega) ?_; intro w2 hown2 hg2; have HO2 := Lib.hid hown2; have HG2 := Lib.hid hg2; clear hown2 hg2)
    rw [HW1.out] at HG2
    clear hcase
    go_loopg [8, 9] p (fun g m i wr => ∃ (k b nn : Nat) (l : Int) (D : DataW Unit) (f : Int → Int → Int), g = p - k ∧ k ≤ p ∧ l = (p : Int) - k - 1 ∧ i = .int .i64 l ∧ m = .map (some b) ∧ w.heap.size + 1 ≤ b ∧ OwnsK wr b nn D ∧ RdD D f ((2 : Int) ^ k - 1) k ∧ nn ≤ 3 ^ k ∧ CntI n u (p - k) k f ∧
      wr.cell? ⟨w.heap.size, 0, none⟩ = some (.int .i64 n) ∧ wr.cell? ⟨w.heap.size, 1, none⟩ = some (.int .i64 u) ∧ w.heap.size + 1 ≤ wr.heap.size ∧ Below w.heap.size w wr)
    case atStart =>
      have hG := HG2.out
      have hbl : ∀ o, W1.cell? ⟨w.heap.size, o, none⟩ = w2.cell? ⟨w.heap.size, o, none⟩ := fun o => by
        rw [World.cell?_of_block (w := (W1.alloc (.map #[] 0))) (w' := w2) (a := ⟨w.heap.size, o, none⟩) (hG.block w.heap.size (by simp; omega) (fun e => by have := Option.some.inj e; omega)), World.cell?_alloc_lt _ _ _ (show w.heap.size < W1.heap.size by omega)]
      refine ⟨0, w.heap.size + 1, 1, (p : Int) - 1, _, upd (fun _ _ => 0) 0 0 1, rfl, Nat.zero_le _, by omega, rfl, rfl, Nat.le_refl _, HO2.out, ?_, by simp, ?_, by rw [← hbl]; exact HC0.out, by rw [← hbl]; exact HC1.out, ?_, ?_⟩
      · exact (rdD_empty 0 0).put (by unfold in64; omega) (by unfold in64; omega) (by omega) 1
      · have e : ∀ a b, upd (fun _ _ => 0) 0 0 1 a b = cnt a 0 b := fun a b => by
          rw [cnt_zero, upd]; split <;> rfl
        exact ⟨fun a b => by rw [e]; omega, fun a b _ => e a b⟩
      · have := hG.size; simp at this; omega
      · exact (HB0.out.alloc (by omega) _).grown hG (by simp; omega) (fun j hj => by cases hj; exact Nat.le_succ _)
    case round =>
      obtain ⟨k, b, nn, l, D, f, rfl, hk, hl, rfl, rfl, hb, hown, hR, hnn, hI, hc0, hc1, hsz, hB⟩ := hrel
      have h2k : (1 : Int) ≤ 2 ^ k ∧ (2 : Int) ^ k ≤ 4096 := by
        have h1 : 2 ^ k ≤ 2 ^ 12 := Nat.pow_le_pow_right (by omega) (by omega)
        have h2 : ((2 ^ k : Nat) : Int) = (2 : Int) ^ k := Int.natCast_pow _ _
        have h3 : 1 ≤ 2 ^ k := Nat.one_le_two_pow
        omega
      have h3k : 3 ^ k ≤ 531441 := Nat.le_trans (Nat.pow_le_pow_right (by omega) (show k ≤ 12 by omega)) (by decide)
      by_cases hkp : k < p
      · obtain ⟨q, rfl⟩ : ∃ q : Nat, l = q := ⟨l.toNat, by omega⟩
        have hpk : p - k = q + 1 := by omega
        have hq11 : q ≤ 11 := by omega
        rw [hpk] at hI
        have hf : ∀ a c, 0 ≤ f a c ∧ f a c ≤ 531441 := fun a c => by
          have h1 := hI.le a c
          have h2 := cnt_le a k c
          omega
        have HM := Lib.hid (oneMore_any b nn D f ((2 : Int) ^ k - 1) k 531441 wr hown hR (by omega) (by omega) (by omega) (by omega) (by omega) (by omega) hf)
        obtain ⟨S, hS⟩ : ∃ S, S = wr.heap.size := ⟨_, rfl⟩
        rw [← hS] at HM
        obtain ⟨V, hV⟩ : ∃ V, V = 2 * ((2 : Int) ^ k - 1) + 1 := ⟨_, rfl⟩
        rw [← hV] at HM
        have HV := Lib.hid (show V = (2 : Int) ^ (k + 1) - 1 by rw [hV, Int.pow_succ]; omega)
        have hVb : V ≤ 10000 := by omega
        have HI := Lib.hid hI; have HBW := Lib.hid hB
        have hSsz : w.heap.size + 1 ≤ S := by omega
        have HSS := Lib.hid hS
        have HL := Lib.hid hl; have HPK := Lib.hid hpk
        clear hown hR hI hf hV hB h2k hS hl hpk
        go_wp2_with (first
          | (go_at_call 66; refine HM.out.mono ?_; rintro e w3 ⟨D3, rfl, ho3, hR3, hB3⟩; have HO3 := Lib.hid ho3; have HR3 := Lib.hid hR3; have HB3 := Lib.hid hB3; clear ho3 hR3 hB3)
          | (at_range; refine wpList_range_own _ rfl _ 80 rfl 79 3 lawK Try.underlying80 _ S (3 * nn) _ rfl HO3.out ?_; intro w4 hrg4 hg4 hs4)
          | go_in)
        go_frame
        have hGw : wr.grownBy w3 none := ⟨HB3.out.os, HB3.out.tape, HB3.out.output, HB3.out.size, fun j hj _ => HB3.out.block j (by rw [HSS.out]; exact hj)⟩
        have hS3 : S + 1 ≤ w3.heap.size := HO3.out.lt
        obtain ⟨r, hr⟩ : ∃ r, r = w3.heap.size := ⟨_, rfl⟩
        rw [← hr] at hrg4 hS3 ⊢
        have HR := Lib.hid hr
        have hc04 := hg4.cell (hGw.cell hc0 (by simp)) (by simp)
        have hc14 := hg4.cell (hGw.cell hc1 (by simp)) (by simp)
        have hB4 : Below w.heap.size w w4 := (HBW.out.grown hGw HBW.out.size (fun j hj => by cases hj)).grown hg4 (by omega) (fun j hj => by cases hj)
        have hF0 := ext_out (V := (2 : Int) ^ k - 1) (W := k) (g := f)
        have HOF := Lib.hid HR3.out.out
        obtain ⟨F, hF⟩ : ∃ F, F = ext f := ⟨_, rfl⟩
        have HFE := Lib.hid hF
        rw [← hF] at HR3 HOF
        have HRG4 := Lib.hid hrg4; have HC04 := Lib.hid hc04; have HC14 := Lib.hid hc14; have HB4 := Lib.hid hB4; have HS4 := Lib.hid hs4
        clear hc0 hc1 hg4 hGw hF0 hF hrg4 hc04 hc14 hB4 hr hs4
        go_loopg [] (Maps.size D3) (fun g wi => ∃ (left : Lit → Bool) (D5 : DataW Unit), wi.ranges Try.prog 79 (plainElem Try.prog 3) S r (3 * nn) D5 left g ∧ RdD D5 (kept n u q F left) V ((k : Int) + 1) ∧
          wi.cell? ⟨w.heap.size, 0, none⟩ = some (.int .i64 n) ∧ wi.cell? ⟨w.heap.size, 1, none⟩ = some (.int .i64 u) ∧ r + 1 ≤ wi.heap.size ∧ Below w.heap.size w wi)
        case atStart => exact ⟨_, D3, HRG4.out, HR3.out.congr (kept_start HR3.out (by omega) (by omega)), HC04.out, HC14.out, by have := HS4.out; have := HR.out; omega, HB4.out⟩
        case round =>
          obtain ⟨left, D5, hrg, hR5, c0, c1, hsz5, hB5⟩ := hrel
          go_wp2_with (first
            | (at_next; refine wpList_next_kinds _ rfl _ rfl S r (3 * nn) D5 left gk rfl hrg ?_ ?_)
            | go_in)
          · intro _ hl0
            have HR5 := Lib.hid (hR5.congr (kept_end hl0))
            have HO5 := Lib.hid hrg.owns
            have HB5 := Lib.hid hB5
            clear hR5 hrg hB5
            go_wp2
            go_roundg (p - (k + 1))
            case measure => omega
            case rel =>
              refine ⟨k + 1, S, 3 * nn, (q : Int) - 1, D5, (fun x y => if canBe n u q x y = true then F x y else 0), rfl, by omega, by have := HL.out; omega, rfl, rfl, hSsz, HO5.out, ?_, by rw [Nat.pow_succ]; omega, ?_, c0, c1, by omega, HB5.out⟩
              · have := HR5.out
                rw [HV.out] at this
                rw [Int.natCast_add]; exact this
              · rw [show p - (k + 1) = q by have := HPK.out; omega]
                exact HI.out.step (fun a c => by rw [← HFE.out])
          · intro x y c w6 cnt6 hx1 hx2 hy1 hy2 hz1 hz2 hlx hat hrg6 hlt hg6 hs6 hen
            have hbx := hR5.keys x y ⟨hx1, hx2⟩ ⟨hy1, hy2⟩ (Maps.has_true_of_atKey hat)
            obtain ⟨⟨hbx1, hbx2⟩, hby1, hby2⟩ := hbx
            have hkx : in64 x := ⟨hx1, hx2⟩
            have hky : in64 y := ⟨hy1, hy2⟩
            obtain ⟨K, hK⟩ : ∃ K, K = w6.heap.size := ⟨_, rfl⟩
            have hk0 : (w6.alloc (.cells #[.int .i64 x, .int .i64 y] 79)).cell? ⟨K, 0, none⟩ = some (.int .i64 x) := by rw [hK]; go_simp
            have hk1 : (w6.alloc (.cells #[.int .i64 x, .int .i64 y] 79)).cell? ⟨K, 1, none⟩ = some (.int .i64 y) := by rw [hK]; go_simp
            have hal : ∀ o, (w6.alloc (.cells #[.int .i64 x, .int .i64 y] 79)).cell? ⟨w.heap.size, o, none⟩ = w6.cell? ⟨w.heap.size, o, none⟩ := fun o => World.cell?_alloc_lt _ _ _ (show w.heap.size < w6.heap.size by omega)
            have g0 : (w6.alloc (.cells #[.int .i64 x, .int .i64 y] 79)).cell? ⟨w.heap.size, 0, none⟩ = some (.int .i64 n) := by rw [hal]; exact hg6.cell c0 (fun e => by have : w.heap.size = r := Option.some.inj e; omega)
            have g1 : (w6.alloc (.cells #[.int .i64 x, .int .i64 y] 79)).cell? ⟨w.heap.size, 1, none⟩ = some (.int .i64 u) := by rw [hal]; exact hg6.cell c1 (fun e => by have : w.heap.size = r := Option.some.inj e; omega)
            have hrg7 := hrg6.alloc (.cells #[.int .i64 x, .int .i64 y] 79)
            have hB7 := (hB5.grown hg6 hB5.size (fun j hj => by cases hj; omega)).alloc (by have := hB5.size; omega) (.cells #[.int .i64 x, .int .i64 y] 79)
            have hs7 : (w6.alloc (.cells #[.int .i64 x, .int .i64 y] 79)).heap.size = K + 1 := by rw [hK]; simp
            have hK5 : r + 1 ≤ K := by omega
            obtain ⟨w7, hw7⟩ : ∃ w7, (w6.alloc (.cells #[.int .i64 x, .int .i64 y] 79)) = w7 := ⟨_, rfl⟩
            have ge0 := g0; have ge1 := g1
            rw [hw7] at hk0 hk1 g0 g1 hrg7 hB7 hs7
            have HCB := Lib.hid (canBecome_any x y n u q w7 (by omega) (by omega) (by omega) (by omega) (by omega))
            have HW7 := Lib.hid hw7; have HK := Lib.hid hK
            have HG0 := Lib.hid g0; have HG1 := Lib.hid g1
            have HRG7 := Lib.hid hrg7; have HB7 := Lib.hid hB7
            have HS7 := Lib.hid hs7
            have hR5' := hR5
            obtain ⟨left', hl'⟩ : ∃ l', l' = (fun z => left z && !z.sameKey (kl x y)) := ⟨_, rfl⟩
            rw [← hl'] at HRG7
            have HST := Lib.hid (fun h : canBe n u q x y = true => show RdD D5 (kept n u q F left') V ((k : Int) + 1) by
              rw [hl']; exact hR5.congr (kept_stays HOF.out (by omega) (by omega) hkx hky h))
            have HSK := Lib.hid (fun h : canBe n u q x y = false => show RdD (D5.del (kl x y)) (kept n u q F left') V ((k : Int) + 1) by
              rw [hl']; exact (hR5.del hkx hky).congr (kept_struck HOF.out (by omega) (by omega) hkx hky h))
            have HTW := Lib.hid (show (fun z => left' z && !z.sameKey (kl x y)) = left' by rw [hl']; exact Maps.strike_twice left (kl x y))
            have HKX := Lib.hid hkx; have HKY := Lib.hid hky
            clear hK hw7 hx1 hx2 hy1 hy2 hz1 hz2 hat hrg6 hg6 hrg hB5 hal hrg7 hB7 c0 c1 hlx hs6 hk0 hk1 g0 g1 hs7 hR5 hR5' hl' hkx hky
            cases hcb : canBe n u q x y
            · have HSK' := Lib.hid (HSK.out hcb)
              rw [hcb] at HCB
              clear hcb HSK HST
              go_wp2_with fail
              rw [HW7.out]
              refine HCB.out.mono ?_
              rintro e w8 ⟨rfl, hB8⟩
              have hG8 : w7.grownBy w8 none := ⟨hB8.os, hB8.tape, hB8.output, hB8.size, fun j hj _ => hB8.block j hj⟩
              have hrg8 := HRG7.out.kept hG8 (by simp) (by simp)
              have hk8 : w8.cell? ⟨K, 0, none⟩ = some (.int .i64 x) := hG8.cell (by rw [← HW7.out, HK.out]; go_simp) (by simp)
              have hk9 : w8.cell? ⟨K, 1, none⟩ = some (.int .i64 y) := hG8.cell (by rw [← HW7.out, HK.out]; go_simp) (by simp)
              have HC8 := Lib.hid (hG8.cell HG0.out (by simp)); have HC9 := Lib.hid (hG8.cell HG1.out (by simp))
              have HB8 := Lib.hid (HB7.out.grown hG8 HB7.out.size (fun j hj => by cases hj))
              have HZ8 := Lib.hid hB8.size
              rw [HK.out] at hk8 hk9
              clear hB8 hG8 ge0 ge1
              go_wp2_with (first
                | (at_delete; refine wpList_delete_ranges _ rfl _ _ 80 79 rfl 3 lawK Try.underlying80 _ S r (3 * nn) _ _ _ rfl hrg8 _ _ rfl (key_mk HKX.out HKY.out) ?_; intro w9 cnt9 hrg9 hle9 hturn; go_frame)
                | go_in)
              rw [HTW.out] at hrg9
              go_roundg cnt9
              case measure => omega
              case rel =>
                have hg9 := hturn.grown
                exact ⟨left', _, hrg9, HSK'.out, hg9.cell HC8.out (fun e => by have : w.heap.size = S := Option.some.inj e; omega), hg9.cell HC9.out (fun e => by have : w.heap.size = S := Option.some.inj e; omega), by have := HZ8.out; have := HS7.out; have := hg9.size; omega, HB8.out.grown hg9 (by have := HB8.out.size; omega) (fun j hj => by cases hj; omega)⟩
            · have HST' := Lib.hid (HST.out hcb)
              rw [hcb] at HCB
              clear hcb HSK HST
              go_wp2_with fail
              rw [HW7.out]
              refine HCB.out.mono ?_
              rintro e w8 ⟨rfl, hB8⟩
              have hG8 : w7.grownBy w8 none := ⟨hB8.os, hB8.tape, hB8.output, hB8.size, fun j hj _ => hB8.block j hj⟩
              have HRG8 := Lib.hid (HRG7.out.kept hG8 (by simp) (by simp))
              have HC8 := Lib.hid (hG8.cell HG0.out (by simp)); have HC9 := Lib.hid (hG8.cell HG1.out (by simp))
              have HB8 := Lib.hid (HB7.out.grown hG8 HB7.out.size (fun j hj => by cases hj))
              have HZ8 := Lib.hid hB8.size
              clear hB8 hG8 ge0 ge1
              go_wp2_with fail
              go_roundg cnt6
              case measure => omega
              case rel => exact ⟨left', D5, HRG8.out, HST'.out, HC8.out, HC9.out, by have := HZ8.out; have := HS7.out; omega, HB8.out⟩
      · have hkp' : k = p := by omega
        subst hkp'
        obtain ⟨c, hlook, hat, _⟩ := hown.lookup_int lawK Try.underlying80 Try.underlying3 (zeroI wr) (key_mk (x := n) (y := u) (by unfold in64; omega) (by unfold in64; omega))
        have hcv : c = cnt n k u := by
          rw [Nat.sub_self] at hI
          rw [← hI.eq n u (canBe_end n u)]
          exact el_inj (hat.symm.trans (hR.at_ n u (by unfold in64; omega) (by unfold in64; omega)))
        have HCV := Lib.hid hcv; have HB := Lib.hid hB
        have hl0 : l < 0 := by omega
        clear hl hown hR hI hB hat hcv h2k
        go_wp2_with fail
        go_ret
        exact ⟨by rw [← HCV.out]; rfl, HB.out⟩

end Go.Proofs.Ytiemhhkoegkleaa
