/- Numerals: what the library's numeral of an integer spells, and that only it spells it so. -/
import Derived.Lib.AtoiAllCases
import Derived.Lib.ItoaNum
set_option linter.unusedVariables false
set_option linter.unusedSimpArgs false
namespace Go.Proofs.YtbnkdcfmllblkaaDoor

theorem dec_small {u : Nat} (h : u < 10) : Lib.decDigits u = [UInt8.ofNat (48 + u)] := by rw [Lib.decDigits, dif_pos h]
theorem dec_big {u : Nat} (h : ¬ u < 10) : Lib.decDigits u = Lib.decDigits (u / 10) ++ [UInt8.ofNat (48 + u % 10)] := by rw [Lib.decDigits, dif_neg h]

def isD (c : UInt8) : Prop := 48 ≤ c.toNat ∧ c.toNat ≤ 57
theorem isD_ofNat {d : Nat} (h : d < 10) : (UInt8.ofNat (48 + d)).toNat = 48 + d := by
  rw [UInt8.toNat_ofNat']; omega

/-- what digits spell behind acc -/
def stp (a : Nat) (c : UInt8) : Nat := a * 10 + (c.toNat - 48)
theorem stp_eq (a : Nat) (c : UInt8) : stp a c = a * 10 + (c.toNat - 48) := by unfold stp; exact Eq.refl _
def valF (acc : Nat) (l : List UInt8) : Nat := l.foldl stp acc
theorem valF_nil (acc : Nat) : valF acc [] = acc := by unfold valF; exact Eq.refl _
theorem valF_cons (acc : Nat) (c : UInt8) (r : List UInt8) : valF acc (c :: r) = valF (stp acc c) r := by unfold valF; exact List.foldl_cons ..
theorem valF_append (l r : List UInt8) (acc : Nat) : valF acc (l ++ r) = valF (valF acc l) r := by
  simp only [valF, List.foldl_append]
theorem valF_ge : ∀ (l : List UInt8) (acc : Nat), acc ≤ valF acc l
  | [], acc => Nat.le_refl _
  | c :: l, acc => by
    have := valF_ge l (stp acc c)
    rw [valF_cons]
    exact Nat.le_trans (by rw [stp_eq]; omega) this

theorem dec_spells : ∀ (k u : Nat), u ≤ k → valF 0 (Lib.decDigits u) = u ∧ (∀ c ∈ Lib.decDigits u, isD c) ∧ Lib.decDigits u ≠ []
  | k, u, h => by
    induction k generalizing u with
    | zero =>
      have h0 : u = 0 := by omega
      subst h0
      rw [dec_small (by omega)]
      refine ⟨rfl, ?_, by simp⟩
      intro c hc; rw [List.mem_singleton.1 hc]; exact ⟨by decide, by decide⟩
    | succ k ih =>
      by_cases hu : u < 10
      · rw [dec_small hu]
        refine ⟨?_, ?_, by simp⟩
        · rw [valF_cons, valF_nil, stp_eq, isD_ofNat hu]; omega
        · intro c hc; rw [List.mem_singleton.1 hc, isD, isD_ofNat hu]; omega
      · obtain ⟨h1, h2, h3⟩ := ih (u / 10) (by omega)
        have hm : u % 10 < 10 := by omega
        rw [dec_big hu]
        refine ⟨?_, ?_, by simp⟩
        · rw [valF_append, h1, valF_cons, valF_nil, stp_eq, isD_ofNat hm]; omega
        · intro c hc
          rcases List.mem_append.1 hc with hc | hc
          · exact h2 c hc
          · rw [List.mem_singleton.1 hc, isD, isD_ofNat hm]; omega

theorem dec_len_le : ∀ (k u : Nat), u < 10 ^ (k + 1) → (Lib.decDigits u).length ≤ k + 1
  | 0, u, h => by rw [dec_small (by simpa using h)]; simp
  | k + 1, u, h => by
    by_cases hu : u < 10
    · rw [dec_small hu]; simp
    · rw [dec_big hu, List.length_append]
      have := dec_len_le k (u / 10) (by rw [Nat.pow_succ] at h; omega)
      simp; omega

theorem parse_digits : ∀ (l : List UInt8) (acc : Nat), (∀ c ∈ l, isD c) → valF acc l < 18446744073709551616 → Lib.parseUint10 acc l = .ok (valF acc l)
  | [], acc, _, _ => rfl
  | c :: r, acc, hd, hv => by
    have hc := hd c (by simp)
    obtain ⟨h1, h2⟩ := hc
    have hge := valF_ge r (stp acc c)
    rw [valF_cons] at hv ⊢
    rw [stp_eq] at hge hv ⊢
    rw [Lib.parseUint10]
    rw [if_pos ⟨h1, h2⟩, if_neg (by omega), if_neg (by omega)]
    exact parse_digits r _ (fun c hc => hd c (by simp [hc])) hv

def inI (n : Int) : Prop := -9223372036854775808 ≤ n ∧ n ≤ 9223372036854775807

theorem mag_dec {u : Nat} (h : u ≤ 9223372036854775808) : Lib.parseMag (Lib.decDigits u) = .ok u := by
  obtain ⟨h1, h2, h3⟩ := dec_spells u u (Nat.le_refl _)
  rw [Lib.parseMag, if_neg h3, parse_digits _ _ h2 (by rw [h1]; omega), h1]

theorem atoi_itoa {n : Int} (h : inI n) : Lib.atoiAll (Lib.itoa n) = .ok n := by
  obtain ⟨a, b⟩ := h
  by_cases hn : n < 0
  · rw [Lib.itoa, if_pos hn, Lib.atoiAll_minus, mag_dec (by omega)]
    simp only [Lib.signed]
    rw [if_neg (by omega)]; congr 1; omega
  · rw [Lib.itoa, if_neg hn]
    obtain ⟨h1, h2, h3⟩ := dec_spells n.toNat n.toNat (Nat.le_refl _)
    have hm := mag_dec (u := n.toNat) (by omega)
    cases hl : Lib.decDigits n.toNat with
    | nil => exact absurd hl h3
    | cons c r =>
      have hc := h2 c (by rw [hl]; simp)
      rw [hl] at hm
      rw [Lib.atoiAll_plain c r (by obtain ⟨x, y⟩ := hc; omega) (by obtain ⟨x, y⟩ := hc; omega), hm]
      simp only [Lib.signless]
      rw [if_neg (by omega)]; congr 1; omega

/-- the integer whose numeral the text is, and whether there is one -/
def pRes (l : List UInt8) : Int × Bool := match Lib.atoiAll l with | .ok v => if Lib.itoa v = l then (v, true) else (0, false) | _ => (0, false)

theorem pRes_true {n : Int} {l : List UInt8} (h : inI n) (e : Lib.itoa n = l) : pRes l = (n, true) := by
  subst e
  simp only [pRes, atoi_itoa h, if_true]
theorem pRes_false {l : List UInt8} (h : ∀ n, inI n → Lib.itoa n ≠ l) : pRes l = (0, false) := by
  unfold pRes
  cases hx : Lib.atoiAll l with
  | ok v =>
    have hb := Lib.atoiAll_bounds hx
    simp only
    rw [if_neg (h v hb)]
  | _ => rfl

/-- the text behind a sign -/
def sgn (neg : Bool) (l : List UInt8) : List UInt8 := if neg then 45 :: l else l

theorem dec_head {u : Nat} : ∀ c r, Lib.decDigits u = c :: r → isD c := fun c r h => (dec_spells u u (Nat.le_refl _)).2.1 c (by rw [h]; simp)

theorem read_back {neg : Bool} {l : List UInt8} (hh : neg = false → ∀ r, l ≠ 45 :: r) {m : Int} (hm : inI m) (e : Lib.itoa m = sgn neg l) :
    (m = if neg then -(valF 0 l : Int) else (valF 0 l : Int)) ∧ (∀ c ∈ l, isD c) ∧ l ≠ [] ∧ l.length ≤ 19 ∧ valF 0 l ≤ 9223372036854775808 ∧ (neg = false → valF 0 l ≤ 9223372036854775807) := by
  obtain ⟨a, b⟩ := hm
  have lens : ∀ u : Nat, u ≤ 9223372036854775808 → (Lib.decDigits u).length ≤ 19 := fun u hu => dec_len_le 18 u (by omega)
  cases neg with
  | true =>
    have e' : Lib.itoa m = 45 :: l := e
    by_cases hn : m < 0
    · rw [Lib.itoa, if_pos hn] at e'
      have el : Lib.decDigits m.natAbs = l := by injection e'
      obtain ⟨h1, h2, h3⟩ := dec_spells m.natAbs m.natAbs (Nat.le_refl _)
      have h4 := lens m.natAbs (by omega)
      rw [el] at h1 h2 h3 h4
      refine ⟨?_, h2, h3, h4, by omega, fun h => by cases h⟩
      rw [if_pos rfl, h1]; omega
    · rw [Lib.itoa, if_neg hn] at e'
      have := dec_head _ _ e'
      exact absurd this.2 (by have := this.1; exact absurd this (by decide))
  | false =>
    have e' : Lib.itoa m = l := e
    by_cases hn : m < 0
    · rw [Lib.itoa, if_pos hn] at e'
      exact absurd e'.symm (hh rfl _)
    · rw [Lib.itoa, if_neg hn] at e'
      obtain ⟨h1, h2, h3⟩ := dec_spells m.toNat m.toNat (Nat.le_refl _)
      have h4 := lens m.toNat (by omega)
      rw [e'] at h1 h2 h3 h4
      refine ⟨?_, h2, h3, h4, by omega, fun _ => by omega⟩
      rw [if_neg (by simp), h1]; omega

theorem val_take_le (l : List UInt8) (k : Nat) : valF 0 (l.take k) ≤ valF 0 l := by
  have e : valF 0 l = valF (valF 0 (l.take k)) (l.drop k) := by rw [← valF_append, List.take_append_drop]
  rw [e]; exact valF_ge _ _
theorem val_step {l : List UInt8} {k : Nat} (h : k < l.length) : valF 0 (l.take (k + 1)) = valF 0 (l.take k) * 10 + (l[k].toNat - 48) := by
  rw [List.take_succ_eq_append_getElem h, valF_append, valF_cons, valF_nil, stp_eq]

end Go.Proofs.YtbnkdcfmllblkaaDoor
