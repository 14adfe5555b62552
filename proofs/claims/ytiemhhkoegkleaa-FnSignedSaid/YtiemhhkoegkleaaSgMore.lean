/- Signed binary digits: lists with one digit more, counted in a map by their kinds. -/
import Derived.Test.YtiemhhkoegkleaaSgKind
import Derived.Deep.RegionLaw
set_option linter.unusedVariables false
set_option linter.unusedSimpArgs false
set_option maxRecDepth 100000
namespace Go.Proofs.Ytiemhhkoegkleaa
open Go.ChangeShapes Go.WideShapes Go.ChangeAt Go.RowKit

/-- with one digit more -/
def ext (f : Int → Int → Int) (a b : Int) : Int := if a % 2 = 0 then f (a / 2) b else f ((a - 1) / 2) (b - 1) + f ((a + 1) / 2) (b - 1)
/-- what has come already -/
def gone (f : Int → Int → Int) (left : Lit → Bool) : Int → Int → Int := fun x y => if left (kl x y) = true then 0 else f x y
/-- the digits below d have been put in front of c lists of kind (x, y) -/
def upTo (F : Int → Int → Int) (x y c d : Int) : Int → Int → Int := fun a b =>
  F a b + (if -1 < d ∧ a = 2 * x - 1 ∧ b = y + 1 then c else 0) + (if 0 < d ∧ a = 2 * x ∧ b = y then c else 0) + (if 1 < d ∧ a = 2 * x + 1 ∧ b = y + 1 then c else 0)

theorem upTo_start (F : Int → Int → Int) (x y c : Int) : ∀ a b, F a b = upTo F x y c (-1) a b := fun a b => by
  simp only [upTo]
  rw [if_neg (by omega), if_neg (by omega), if_neg (by omega)]; omega
theorem upTo_step (F : Int → Int → Int) (x y c : Int) {d : Int} (h1 : -1 ≤ d) (h2 : d ≤ 1) (old : Int) (ho : old = upTo F x y c d (2 * x + d) (y + dwt d)) : ∀ a b, upd (upTo F x y c d) (2 * x + d) (y + dwt d) (old + c) a b = upTo F x y c (d + 1) a b := fun a b => by
  subst ho
  unfold upd dwt
  rcases (show d = -1 ∨ d = 0 ∨ d = 1 by omega) with rfl | rfl | rfl
  all_goals
    simp only [upTo]
    try simp only [show (2 : Int) * x + -1 = 2 * x - 1 by omega]
    by_cases e1 : a = 2 * x - 1 ∧ b = y + 1 <;> by_cases e2 : a = 2 * x ∧ b = y <;> by_cases e3 : a = 2 * x + 1 ∧ b = y + 1
    all_goals (simp (config := { decide := true }) [e1, e2, e3]; try omega)

theorem ext_upTo (g : Int → Int → Int) (x y c : Int) : ∀ a b, upTo (ext g) x y c 2 a b = ext (fun p q => g p q + (if p = x ∧ q = y then c else 0)) a b := fun a b => by
  simp only [upTo, ext]
  by_cases h : a % 2 = 0
  · rw [if_pos h, if_pos h, if_neg (show ¬(-1 < (2 : Int) ∧ a = 2 * x - 1 ∧ b = y + 1) by omega), if_neg (show ¬((1 : Int) < 2 ∧ a = 2 * x + 1 ∧ b = y + 1) by omega)]
    by_cases e : a / 2 = x ∧ b = y
    · rw [if_pos e, if_pos (show (0 : Int) < 2 ∧ a = 2 * x ∧ b = y by omega)]; omega
    · rw [if_neg e, if_neg (show ¬((0 : Int) < 2 ∧ a = 2 * x ∧ b = y) by omega)]; omega
  · rw [if_neg h, if_neg h, if_neg (show ¬((0 : Int) < 2 ∧ a = 2 * x ∧ b = y) by omega)]
    by_cases e : (a - 1) / 2 = x ∧ b - 1 = y
    · rw [if_pos e, if_pos (show (1 : Int) < 2 ∧ a = 2 * x + 1 ∧ b = y + 1 by omega), if_neg (show ¬((a + 1) / 2 = x ∧ b - 1 = y) by omega), if_neg (show ¬(-1 < (2 : Int) ∧ a = 2 * x - 1 ∧ b = y + 1) by omega)]; omega
    · rw [if_neg e, if_neg (show ¬((1 : Int) < 2 ∧ a = 2 * x + 1 ∧ b = y + 1) by omega)]
      by_cases e2 : (a + 1) / 2 = x ∧ b - 1 = y
      · rw [if_pos e2, if_pos (show -1 < (2 : Int) ∧ a = 2 * x - 1 ∧ b = y + 1 by omega)]; omega
      · rw [if_neg e2, if_neg (show ¬(-1 < (2 : Int) ∧ a = 2 * x - 1 ∧ b = y + 1) by omega)]; omega

section
variable {D : DataW Unit} {f : Int → Int → Int} {V W : Int} {left : Lit → Bool}

theorem gone_step (h : RdD D f V W) (hV : V ≤ 1000000) (hW : W ≤ 1000) {x y : Int} (hx : in64 x) (hy : in64 y) (hl : left (kl x y) = true) :
    ∀ a b, gone f left a b + (if a = x ∧ b = y then f x y else 0) = gone f (fun z => left z && !z.sameKey (kl x y)) a b := fun a b => by
  by_cases hin : (-V ≤ a ∧ a ≤ V) ∧ 0 ≤ b ∧ b ≤ W
  · have ha : in64 a := by unfold in64; omega
    have hb : in64 b := by unfold in64; omega
    by_cases e : a = x ∧ b = y
    · obtain ⟨rfl, rfl⟩ := e
      show (if left (kl a b) = true then 0 else f a b) + (if a = a ∧ b = b then f a b else 0) = if (left (kl a b) && !(kl a b).sameKey (kl a b)) = true then 0 else f a b
      rw [if_pos hl, if_pos ⟨rfl, rfl⟩, if_neg (by rw [WideAt.sameKey_self (kl_key _ _)]; simp)]; omega
    · have e2 : (left (kl a b) && !(kl a b).sameKey (kl x y)) = left (kl a b) := by rw [Maps.sameKey_ne (fun e' => e (kl_inj ha hb hx hy e'))]; simp
      show (if left (kl a b) = true then 0 else f a b) + (if a = x ∧ b = y then f x y else 0) = if (left (kl a b) && !(kl a b).sameKey (kl x y)) = true then 0 else f a b
      rw [if_neg e, e2]; omega
  · have h0 := h.out a b hin
    have h1 : (if a = x ∧ b = y then f x y else 0) = 0 := by
      split
      · rename_i e; rw [← e.1, ← e.2]; exact h0
      · rfl
    simp only [gone, h0, h1]
    split <;> split <;> rfl
theorem gone_start (h : RdD D f V W) (hV : V ≤ 1000000) (hW : W ≤ 1000) : ∀ a b, gone f (Maps.has D) a b = 0 := fun a b => by
  by_cases hin : (-V ≤ a ∧ a ≤ V) ∧ 0 ≤ b ∧ b ≤ W
  · have ha : in64 a := by unfold in64; omega
    have hb : in64 b := by unfold in64; omega
    simp only [gone]
    cases hh : Maps.has D (kl a b)
    · rw [if_neg (by simp)]
      have := h.at_ a b ha hb
      rw [Maps.atKey_of_not_has hh] at this
      exact (el_inj this).symm
    · rw [if_pos rfl]
  · simp only [gone, h.out a b hin]
    split <;> rfl
theorem gone_end (hl : ∀ z, left z = false) : ∀ a b, gone f left a b = f a b := fun a b => by
  simp only [gone]; rw [if_neg (by rw [hl]; simp)]
theorem gone_bound {C : Int} (hf : ∀ a b, 0 ≤ f a b ∧ f a b ≤ C) : ∀ a b, 0 ≤ gone f left a b ∧ gone f left a b ≤ C := fun a b => by
  have := hf a b
  simp only [gone]; split <;> omega
theorem ext_bound {g : Int → Int → Int} {C : Int} (hg : ∀ a b, 0 ≤ g a b ∧ g a b ≤ C) : ∀ a b, 0 ≤ ext g a b ∧ ext g a b ≤ 2 * C := fun a b => by
  have h1 := hg (a / 2) b; have h2 := hg ((a - 1) / 2) (b - 1); have h3 := hg ((a + 1) / 2) (b - 1)
  simp only [ext]; split <;> omega
theorem upTo_bound {F : Int → Int → Int} {C x y c d : Int} (hF : ∀ a b, 0 ≤ F a b ∧ F a b ≤ 2 * C) (hc : 0 ≤ c) (hc2 : c ≤ C) : ∀ a b, 0 ≤ upTo F x y c d a b ∧ upTo F x y c d a b ≤ 5 * C := fun a b => by
  have h1 := hF a b
  simp only [upTo]; split <;> split <;> split <;> omega
theorem ext_out {g : Int → Int → Int} (hg : ∀ x y, ¬ ((-V ≤ x ∧ x ≤ V) ∧ 0 ≤ y ∧ y ≤ W) → g x y = 0) : ∀ x y, ¬ ((-(2 * V + 1) ≤ x ∧ x ≤ 2 * V + 1) ∧ 0 ≤ y ∧ y ≤ W + 1) → ext g x y = 0 := fun x y h => by
  simp only [ext]
  split
  · exact hg _ _ (by omega)
  · rw [hg _ _ (by omega), hg _ _ (by omega)]; rfl
end

theorem size_owns {w : World} {b n : Nat} {D : DataW Unit} (h : OwnsK w b n D) : Maps.size D ≤ n := by
  obtain ⟨es, clock, hb, F, hs, rfl⟩ := h
  simp only [Maps.size, length_sorted, List.length_map, Array.length_toList]
  exact hs

section
variable {P : Program} (w : World) {ops : Array Oper} {rest : List Oper} {o : Oper} {a : Act} {Q : Exit → Act → World → Prop}
/-- the step of a range over a map of kinds -/
theorem wpList_next_kinds (hg : o.guard = none) (it : Operand) (hop : o.op = Op.next it false) (b r n : Nat) (D : DataW Unit) (left : Lit → Bool) (cnt : Nat) (hit : a.eval it = .pointer (some ⟨r, 0, none⟩))
    (h : w.ranges Try.prog 79 (plainElem Try.prog 3) b r n D left cnt)
    (hDone : cnt = 0 → (∀ z, left z = false) → wpList Try.prog ops Q rest (a.put o.dst (.tuple #[.bool false])) w)
    (hMore : ∀ (x y c : Int) (w' : World) (cnt' : Nat), in64 x → in64 y → in64 c → left (kl x y) = true → (∀ zd, D.atKey (kl x y) zd = el c) → w'.ranges Try.prog 79 (plainElem Try.prog 3) b r n D (fun z => left z && !z.sameKey (kl x y)) cnt' → cnt' < cnt →
      w.grownBy w' (some r) → w'.heap.size = w.heap.size → (Instr.entry (.pointer (some ⟨r, 0, none⟩))).run Try.prog w' = .ok (.tuple #[kv x y, .int .i64 c]) w' → wpList Try.prog ops Q rest (a.put o.dst (.tuple #[.bool true, kv x y, .int .i64 c])) w') :
    wpList Try.prog ops Q (o :: rest) a w :=
  wpList_next_ranges w hg it hop 79 lawK (plainElem Try.prog 3) (fun p : Int × Int => kv p.1 p.2) (Value.int .i64) (fun key z hkey => by obtain ⟨x, y, rfl, _⟩ := key_inv hkey; exact ⟨(x, y), rfl⟩) (fun v z hv => by obtain ⟨c, rfl, _⟩ := plainElem_int_inv Try.underlying3 hv; exact ⟨c, rfl⟩)
    b r n D left cnt hit h hDone (fun p c z yv w' cnt' hkey hlk hv hat hrg hlt hgr hsz hen => by
      obtain ⟨x', y', ex, rfl, hx, hy⟩ := key_inv hkey
      simp only [kv, Value.agg.injEq, Array.mk.injEq, List.cons.injEq, Value.int.injEq, and_true, true_and] at ex
      obtain ⟨c', ec, rfl, hwc⟩ := plainElem_int_inv Try.underlying3 hv
      cases ec
      obtain ⟨rfl, rfl⟩ := ex
      exact hMore p.1 p.2 c w' cnt' hx hy (of_wf hwc) hlk hat hrg hlt hgr hsz hen)
end

set_option maxHeartbeats 4000000 in
theorem oneMore_any (b n : Nat) (D : DataW Unit) (f : Int → Int → Int) (V W C : Int) (w : World) (hown : OwnsK w b n D) (hD : RdD D f V W) (hn : n ≤ 1000000) (hV0 : 0 ≤ V) (hV : V ≤ 100000) (hW0 : 0 ≤ W) (hW : W ≤ 100) (hC : C ≤ 1000000000) (hf : ∀ a b, 0 ≤ f a b ∧ f a b ≤ C) :
    Calls Try.prog 66 #[.map (some b)] w fun e w' => ∃ D', e = .returned (.map (some w.heap.size)) ∧ OwnsK w' w.heap.size (3 * n) D' ∧ RdD D' (ext f) (2 * V + 1) (W + 1) ∧ Below w.heap.size w w' := by
  have hmm := @run_makeMap Try.prog
  have hbl := hown.lt
  have e1 : (w.alloc (.map #[] 0)).heap.size = w.heap.size + 1 := by simp
  have hsz0 := size_owns hown
  go_enter Try.func66, Try.ntmps66
  go_wp2_with (first
    | (at_range; refine wpList_range_own _ rfl _ 80 rfl 79 3 lawK Try.underlying80 _ b n _ rfl (hown.alloc _) ?_; intro w0 hrg0 hg0 hs0)
    | go_in)
  go_frame
  rw [e1] at hrg0 hs0 ⊢
  go_loopg [] (Maps.size D) (fun g wr => ∃ (left : Lit → Bool) (Dout : DataW Unit) (nO : Nat), wr.ranges Try.prog 79 (plainElem Try.prog 3) b (w.heap.size + 1) n D left g ∧ g ≤ Maps.size D ∧ nO ≤ 3 * (Maps.size D - g) ∧ OwnsK wr w.heap.size nO Dout ∧ RdD Dout (ext (gone f left)) (2 * V + 1) (W + 1) ∧ Below w.heap.size w wr)
  case atStart =>
    refine ⟨_, .map [], 0, hrg0, Nat.le_refl _, Nat.zero_le _, (World.ownsMap_made _ _ _ _).kept hg0 (by simp), (rdD_empty _ _).congr (fun x y => ?_), ((Below.refl _ _).alloc (Nat.le_refl _) _).grown hg0 (by simp) (fun j hj => by cases hj)⟩
    have hz := gone_start hD (by omega) (by omega)
    simp only [ext, hz]; split <;> rfl
  case round =>
    obtain ⟨left, Dout, nO, hrg, hcs, hnO, hout, hR, hB⟩ := hrel
    go_wp2_with (first
      | (at_next; refine wpList_next_kinds _ rfl _ rfl b (w.heap.size + 1) n D left gk rfl hrg ?_ ?_)
      | go_in)
    · intro hc0 hl0
      go_wp2
      go_ret
      refine ⟨Dout, rfl, hout.mono (by omega), hR.congr (fun x y => ?_), hB⟩
      simp only [ext, gone_end hl0]
    · intro x y c w1 cnt1 hx1 hx2 hy1 hy2 hc1 hc2 hlx hat hrg1 hlt hg1 hs1 hen
      have hbx := hD.keys x y ⟨hx1, hx2⟩ ⟨hy1, hy2⟩ (Maps.has_true_of_atKey hat)
      have hfc : f x y = c := el_inj ((hD.at_ x y ⟨hx1, hx2⟩ ⟨hy1, hy2⟩).symm.trans (hat _))
      have hgs := gone_step hD (by omega) (by omega) ⟨hx1, hx2⟩ ⟨hy1, hy2⟩ hlx
      obtain ⟨l', hl'⟩ : ∃ l', l' = (fun z => left z && !z.sameKey (kl x y)) := ⟨_, rfl⟩
      rw [← hl'] at hrg1 hgs
      rw [hfc] at hgs
      obtain ⟨F, hF⟩ : ∃ F, F = ext (gone f left) := ⟨_, rfl⟩
      have HFIN := Lib.hid (show ∀ p q, upTo F x y c 2 p q = ext (gone f l') p q from fun p q => by
        rw [hF, ext_upTo]
        have : (fun p q => gone f left p q + (if p = x ∧ q = y then c else 0)) = gone f l' := funext fun p => funext fun q => hgs p q
        rw [this])
      have hFb : ∀ p q, 0 ≤ F p q ∧ F p q ≤ 2 * C := by rw [hF]; exact ext_bound (gone_bound hf)
      have hcb := hf x y
      rw [hfc] at hcb
      have HUB := Lib.hid (fun d : Int => upTo_bound (x := x) (y := y) (c := c) (d := d) hFb hcb.1 hcb.2)
      rw [← hF] at hR
      obtain ⟨K, hK⟩ : ∃ K, K = w1.heap.size := ⟨_, rfl⟩
      have hk0 : (w1.alloc (.cells #[.int .i64 x, .int .i64 y] 79)).cell? ⟨K, 0, none⟩ = some (.int .i64 x) := by rw [hK]; go_simp
      have hk1 : (w1.alloc (.cells #[.int .i64 x, .int .i64 y] 79)).cell? ⟨K, 1, none⟩ = some (.int .i64 y) := by rw [hK]; go_simp
      have hrg2 := hrg1.alloc (.cells #[.int .i64 x, .int .i64 y] 79)
      have hout1 := (hout.kept hg1 (by simp)).alloc (.cells #[.int .i64 x, .int .i64 y] 79)
      have hB1 := (hB.grown hg1 hB.size (fun j hj => by cases hj; exact Nat.le_succ _)).alloc (by have := hB.size; omega) (.cells #[.int .i64 x, .int .i64 y] 79)
      have hsz2 : (w1.alloc (.cells #[.int .i64 x, .int .i64 y] 79)).heap.size = K + 1 := by rw [hK]; simp
      have hKB : w.heap.size + 2 ≤ K := by have := hrg.lt; omega
      have HRG := Lib.hid hrg2; have HOUT := Lib.hid hout1; have HB1 := Lib.hid hB1; have HR := Lib.hid hR; have HSZ := Lib.hid hsz2; have HK := Lib.hid hK; have HK0 := Lib.hid hk0; have HK1 := Lib.hid hk1
      obtain ⟨⟨hbx1, hbx2⟩, hby1, hby2⟩ := hbx
      obtain ⟨hcb1, hcb2⟩ := hcb
      clear hx1 hx2 hy1 hy2 hc1 hc2 hlx hat hfc hgs hl' hF hFb hrg1 hrg2 hout hout1 hB hB1 hR hrg hsz2 hk0 hk1 hg1 hs1 hK
      go_wp2
      rw [← HK.out]
      go_loopg [6] 3 (fun g i wi => ∃ (d : Int) (D1 : DataW Unit) (n1 : Nat), g = (2 - d).toNat ∧ i = .int .i64 d ∧ -1 ≤ d ∧ d ≤ 2 ∧ wi.ranges Try.prog 79 (plainElem Try.prog 3) b (w.heap.size + 1) n D l' cnt1 ∧ OwnsK wi w.heap.size n1 D1 ∧ n1 ≤ nO + (d + 1).toNat ∧ RdD D1 (upTo F x y c d) (2 * V + 1) (W + 1) ∧ wi.cell? ⟨K, 0, none⟩ = some (.int .i64 x) ∧ wi.cell? ⟨K, 1, none⟩ = some (.int .i64 y) ∧ K + 1 ≤ wi.heap.size ∧ Below w.heap.size w wi)
      case atStart => exact ⟨-1, Dout, nO, rfl, rfl, by omega, by omega, HRG.out, HOUT.out, by omega, HR.out.congr (upTo_start F x y c), HK0.out, HK1.out, Nat.le_of_eq HSZ.out.symm, HB1.out⟩
      case round =>
        obtain ⟨d, D1, n1, rfl, rfl, hd1, hd2, hrgi, houti, hn1, hRi, hk0, hk1, hKs, hBi⟩ := hrel
        by_cases hd : d ≤ 1
        · have hdw : dwt d ≤ 1 := by unfold dwt; split <;> omega
          have hkx : in64 (2 * x + d) := by unfold in64; omega
          have hky : in64 (y + dwt d) := by unfold in64; omega
          have hkb : (-(2 * V + 1) ≤ 2 * x + d ∧ 2 * x + d ≤ 2 * V + 1) ∧ 0 ≤ y + dwt d ∧ y + dwt d ≤ W + 1 := by omega
          obtain ⟨old, hold⟩ : ∃ old, old = upTo F x y c d (2 * x + d) (y + dwt d) := ⟨_, rfl⟩
          have hob := HUB.out d (2 * x + d) (y + dwt d)
          rw [← hold] at hob
          have q1 : IntKind.i64.wrap (old + c) = old + c := by rw [IntKind.wrap_i64]; omega
          have HSTP := Lib.hid (show RdD (D1.put (kl (2 * x + d) (y + dwt d)) (el (old + c))) (upTo F x y c (d + 1)) (2 * V + 1) (W + 1) from (hRi.put hkx hky hkb _).congr (upTo_step F x y c hd1 hd old hold))
          have HAT := Lib.hid (fun c0 (h : D1.atKey (kl (2 * x + d) (y + dwt d)) (el 0) = el c0) => show c0 = old from by rw [hold]; exact el_inj (h.symm.trans (hRi.at_ _ _ hkx hky)))
          have HCD := Lib.hid (fun W' => withDigit_any x y d W' (by omega) (by omega) (by omega) (by omega) hd1 hd)
          have HOC := Lib.hid (show in64 (old + c) from by unfold in64; omega)
          have HKX := Lib.hid hkx; have HKY := Lib.hid hky
          have HRGI := Lib.hid hrgi; have HOI := Lib.hid houti; have HBI := Lib.hid hBi; have HN1 := Lib.hid hn1
          obtain ⟨X, hX⟩ : ∃ X, X = 2 * x + d := ⟨_, rfl⟩
          obtain ⟨Y, hY⟩ : ∃ Y, Y = y + (dwt d : Int) := ⟨_, rfl⟩
          rw [← hX, ← hY] at HSTP HAT HCD
          rw [← hX] at HKX
          rw [← hY] at HKY
          have hn2 : n1 < 1000000000 := by omega
          clear hrgi houti hBi hRi hold hX hY hkx hky hkb hob hn1 hdw
          go_wp2
          go_region_with (go_at_call 89; refine (HCD.out _).mono ?_; rintro e w3 ⟨rfl, hB3⟩; (have hB3' : Below wr.heap.size wr w3 := ⟨hB3.os, hB3.tape, hB3.output, hB3.size, hB3.block⟩); (have ho3 : OwnsK w3 w.heap.size n1 D1 := HOI.out.kept (row := none) ⟨hB3'.os, hB3'.tape, hB3'.output, hB3'.size, fun k hk _ => hB3'.block k hk⟩ (by simp)); obtain ⟨c0, v0, st, w4, hl0, hat0, hme, hg4, hs4, hl4, hst⟩ := entry_runs ho3 hn2 HKX.out HKY.out; obtain rfl := HAT.out c0 hat0; obtain ⟨w5, hes, ho5, hg5, hs5⟩ := hst (c0 + c) HOC.out; have HB3 := Lib.hid hB3'; have HO5 := Lib.hid ho5; have HG5 := Lib.hid hg5; have HS5 := Lib.hid hs5; clear hB3 hB3' ho3 hat0 hg4 hs4 hst ho5 hg5 hs5)
          all_goals
            go_wp2
            go_roundg ((2 - (d + 1)).toNat)
            case measure => omega
            case rel =>
              have hBI := HBI.out
              have hB3 := HB3.out
              have hs5 := HS5.out
              have hG3 : wr.grownBy w3 none := ⟨hB3.os, hB3.tape, hB3.output, hB3.size, fun k hk _ => hB3.block k hk⟩
              refine ⟨d + 1, _, n1 + 1, rfl, rfl, by omega, by omega, (HRGI.out.kept hG3 (by simp) (by simp)).kept HG5.out (fun e => by have := Option.some.inj e; omega) (fun e => by have := Option.some.inj e; omega), HO5.out, by have := HN1.out; omega, HSTP.out, ?_, ?_, by have := hB3.size; omega, (hBI.trans (hB3.mono hBI.size)).grown HG5.out (by have := hB3.size; have := hBI.size; omega) (fun j hj => by cases hj; exact Nat.le_refl _)⟩
              · exact HG5.out.cell ((hB3.cell (p := ⟨K, 0, none⟩) (show K < _ by omega)).trans hk0) (fun e => by have : K = w.heap.size := Option.some.inj e; omega)
              · exact HG5.out.cell ((hB3.cell (p := ⟨K, 1, none⟩) (show K < _ by omega)).trans hk1) (fun e => by have : K = w.heap.size := Option.some.inj e; omega)
        · have hd2' : d = 2 := by omega
          subst hd2'
          have HRGI := Lib.hid hrgi; have HOI := Lib.hid houti; have HBI := Lib.hid hBi; have HRI := Lib.hid (hRi.congr HFIN.out)
          clear hrgi houti hBi hRi hk0 hk1
          go_wp2
          go_roundg cnt1
          case measure => omega
          case rel => exact ⟨l', D1, n1, HRGI.out, by omega, by omega, HOI.out, HRI.out, HBI.out⟩

end Go.Proofs.Ytiemhhkoegkleaa
