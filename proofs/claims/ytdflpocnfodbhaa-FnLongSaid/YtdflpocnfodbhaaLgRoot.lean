/- Long numbers: the model's square roots. -/
import Derived.Test.YtdflpocnfodbhaaLgPub
import Derived.Deep.RegionHeld3
set_option linter.unusedVariables false
set_option linter.unusedSimpArgs false
set_option maxRecDepth 100000
namespace Go.Proofs.Ytdflpocnfodbhaa
open Go.ChangeShapes Go.WideShapes Go.ChangeAt Go.RowKit

theorem root_start {b n m : Nat} {a : List Int} (hb : 2 ≤ b) (h : AllD b a) (hm : a.length ≤ 2 * m) : vl b a < (0 + b ^ m) * (0 + b ^ m) := by
  have h1 := vl_lt_pow hb h
  have h2 : b ^ a.length ≤ b ^ (2 * m) := Nat.pow_le_pow_right (by omega) hm
  have h3 : b ^ (2 * m) = b ^ m * b ^ m := by rw [show 2 * m = m + m by omega, Nat.pow_add]
  rw [Nat.zero_add]; omega
theorem vl_set {b : Nat} {P : List Int} {j : Nat} {d : Nat} (h : AllD b P) (hj : j < P.length) (hd : d + 1 < b) (hp : P[j] = (d : Int)) : vl b (P.set j ((d : Int) + 1)) = vl b P + b ^ j := by
  have h1 := vl_cast h
  have h2 := vl_cast (allD_set (j := j) h (v := (d : Int) + 1) (by omega) (by omega))
  have h3 := hv_set (b : Int) P j ((d : Int) + 1) hj
  rw [hp, show ((d : Int) + 1 - d) = 1 by omega, Int.mul_one] at h3
  have h4 : ((b ^ j : Nat) : Int) = (b : Int) ^ j := Int.natCast_pow _ _
  omega
theorem set_back {P : List Int} {j : Nat} {v u : Int} (hj : j < P.length) (hp : P[j] = u) : (P.set j v).set j u = P := by
  rw [List.set_set, ← hp, List.set_getElem_self]
theorem cmp_pos {n m : Nat} : (0 < cmpN n m) ↔ m < n := by
  unfold cmpN
  split
  · constructor <;> intro h <;> omega
  · split
    · constructor <;> intro h <;> omega
    · constructor <;> intro h <;> omega
theorem conv_len_set {b : Nat} {P : List Int} (h : AllD b P) (hb : 2 ≤ b) : (dg b (vl b P)).length ≤ P.length := dg_len_pow hb (vl_lt_pow hb h)
theorem root_end {b R d j : Nat} (hd : d + 1 = b) : R + d * b ^ j + b ^ j = R + b ^ (j + 1) := by
  subst hd
  rw [Nat.pow_succ, Nat.mul_add, Nat.mul_one, Nat.mul_comm ((d + 1) ^ j) d]
  omega

end Go.Proofs.Ytdflpocnfodbhaa
