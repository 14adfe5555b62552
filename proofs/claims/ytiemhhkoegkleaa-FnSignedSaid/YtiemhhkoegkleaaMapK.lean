/- Maps keyed by a struct of two integers, with integers as elements: what they read as, and what a look-up and a changed entry leave. -/
import Derived.Test.YtiemhhkoegkleaaDgS
import Derived.DeepKeys4
import Derived.Maps.Ext
import Derived.Maps.OwnOps
import Derived.Maps.RangeWalk
import Derived.WideKeyEntry
set_option linter.unusedVariables false
set_option linter.unusedSimpArgs false
set_option maxRecDepth 100000
namespace Go.Proofs.Ytiemhhkoegkleaa
open Go.ChangeShapes Go.WideShapes Go.ChangeAt Go.RowKit

section
variable {P : Program} {k e : TypeId} {q : IntKind} {f0 f1 : Field}

theorem key_one {m : Nat} (he : P.underlying e = some (.int q)) {c : Value} {L : List Lit} (h : P.keyLits (m + 1) e [c] = some L) : ∃ a, c = .int q a ∧ L = [.int q a] ∧ (Lit.int q a).wf = true := by
  unfold Program.keyLits at h
  cases c <;> simp [he] at h
  obtain ⟨⟨rfl, hw⟩, rfl⟩ := h
  exact ⟨_, rfl, rfl, hw⟩

theorem keyOf_two (hu : P.underlying k = some (.struct #[f0, f1])) (t0 : f0.type = e) (t1 : f1.type = e) (o0 : f0.offset = 0) (o1 : f1.offset = 1) (n0 : (f0.name != "_") = true) (n1 : (f1.name != "_") = true)
    (hs : P.cellsOf k = 2) (he1 : P.cellsOf e = 1) (he : P.underlying e = some (.int q)) (hkt : P.keyType k = true) (hsz : ∃ m, P.types.size = m + 1) {a b : Int} (wa : (Lit.int q a).wf = true) (wb : (Lit.int q b).wf = true) :
    keyOf P k (.agg #[.int q a, .int q b]) = some (.string (keyBytes [.int q a, .int q b])) := by
  obtain ⟨m, hm⟩ := hsz
  unfold keyOf
  simp only [hu]
  rw [if_pos (by simp [hkt, Value.formed, hu, hs]), hm]
  unfold Program.keyLits
  simp only [hu, Value.cells]
  have hall : (#[f0, f1] : Array Field).all (fun f => f.name != "_") = true := by simp [n0, n1]
  rw [if_pos ⟨by rw [hs]; rfl, hall⟩]
  simp [t0, t1, o0, o1, he1, Program.keyLits, he, wa, wb]

theorem keyOf_two_inv (hu : P.underlying k = some (.struct #[f0, f1])) (t0 : f0.type = e) (t1 : f1.type = e) (o0 : f0.offset = 0) (o1 : f1.offset = 1)
    (hs : P.cellsOf k = 2) (he1 : P.cellsOf e = 1) (he : P.underlying e = some (.int q)) (hsz : ∃ m, P.types.size = m + 1) {v : Value} {l : Lit} (h : keyOf P k v = some l) :
    ∃ a b, v = .agg #[.int q a, .int q b] ∧ l = .string (keyBytes [.int q a, .int q b]) ∧ (Lit.int q a).wf = true ∧ (Lit.int q b).wf = true := by
  obtain ⟨xs, L, rfl, hl, rfl⟩ := keyOf_top (by rw [hu]) h
  obtain ⟨m, hm⟩ := hsz
  rw [hm] at hl
  unfold Program.keyLits at hl
  simp only [hu] at hl
  split at hl
  · rename_i hc
    obtain ⟨hc1, _⟩ := hc
    rw [hs] at hc1
    obtain ⟨xl⟩ := xs
    match xl, hc1 with
    | [c0, c1], _ =>
      simp only [t0, t1, o0, o1, he1, List.mapM_cons, List.mapM_nil, List.drop_zero, List.take_succ_cons, List.take_zero, List.drop_succ_cons, Option.map_eq_some_iff, bind, Option.bind_eq_some_iff, pure, Option.some.injEq] at hl
      obtain ⟨Ls, ⟨y0, h0, _, ⟨y1, h1, _, rfl, rfl⟩, rfl⟩, rfl⟩ := hl
      obtain ⟨a, rfl, rfl, wa⟩ := key_one he h0
      obtain ⟨b, rfl, rfl, wb⟩ := key_one he h1
      exact ⟨a, b, rfl, rfl, wa, wb⟩
  · cases hl
end

/-! ### the program's maps of kinds -/
theorem kindU : ∃ f0 f1 : Field, Try.prog.underlying 79 = some (.struct #[f0, f1]) ∧ f0.type = 3 ∧ f1.type = 3 ∧ f0.offset = 0 ∧ f1.offset = 1 ∧ (f0.name != "_") = true ∧ (f1.name != "_") = true :=
  ⟨_, _, Try.underlying79, rfl, rfl, rfl, rfl, by decide, by decide⟩
theorem kindCells : Try.prog.cellsOf 79 = 2 := by kernel_rfl
theorem intCells1 : Try.prog.cellsOf 3 = 1 := by kernel_rfl
theorem kindKey : Try.prog.keyType 79 = true := by kernel_rfl
theorem typesSome : ∃ m, Try.prog.types.size = m + 1 := ⟨Try.prog.types.size - 1, by have : 0 < Try.prog.types.size := of_decide_eq_true (by kernel_rfl); omega⟩
theorem lawKL : WideMaps.KeyLaw Try.prog 79 := deep_law_laid laidOut (m := 2) (by omega) (of_decide_eq_true (by kernel_rfl)) (by kernel_rfl) (by rw [Try.underlying79])
theorem lawK : Maps.Keyed Try.prog 79 := Maps.Keyed.of_law lawKL
theorem zeroI (w : World) : (zeroValue 3).run Try.prog w = .ok (.int .i64 0) w := by kernel_rfl

abbrev kv (x y : Int) : Value := .agg #[.int .i64 x, .int .i64 y]
def kl (x y : Int) : Lit := .string (keyBytes [.int .i64 x, .int .i64 y])
theorem wf_of {x : Int} (h : in64 x) : (Lit.int .i64 x).wf = true := WalkArith.wf_i64 h
theorem of_wf {x : Int} (h : (Lit.int .i64 x).wf = true) : in64 x := by
  simp only [Lit.wf, Bool.and_eq_true, decide_eq_true_eq] at h
  exact h
theorem key_mk {x y : Int} (hx : in64 x) (hy : in64 y) : keyOf Try.prog 79 (kv x y) = some (kl x y) := by
  obtain ⟨f0, f1, hu, t0, t1, o0, o1, n0, n1⟩ := kindU
  exact keyOf_two hu t0 t1 o0 o1 n0 n1 kindCells intCells1 Try.underlying3 kindKey typesSome (wf_of hx) (wf_of hy)
theorem key_inv {v : Value} {l : Lit} (h : keyOf Try.prog 79 v = some l) : ∃ x y, v = kv x y ∧ l = kl x y ∧ in64 x ∧ in64 y := by
  obtain ⟨f0, f1, hu, t0, t1, o0, o1, n0, n1⟩ := kindU
  obtain ⟨a, b, h1, h2, wa, wb⟩ := keyOf_two_inv hu t0 t1 o0 o1 kindCells intCells1 Try.underlying3 typesSome h
  exact ⟨a, b, h1, h2, of_wf wa, of_wf wb⟩
theorem kl_inj {x y x' y' : Int} (hx : in64 x) (hy : in64 y) (hx' : in64 x') (hy' : in64 y') (h : kl x y = kl x' y') : x = x' ∧ y = y' := by
  have h1 := key_mk hx hy
  rw [h] at h1
  have h2 := lawK.inj h1 (key_mk hx' hy')
  simp only [kv, Value.agg.injEq, Array.mk.injEq, List.cons.injEq, Value.int.injEq, and_true, true_and] at h2
  exact h2
theorem kl_key (x y : Int) : WideAt.IsKeyLit (kl x y) := trivial

/-- a number as an element -/
def el (c : Int) : DataW Unit := .lit (.int .i64 c)
theorem el_inj {c d : Int} (h : el c = el d) : c = d := by
  simp only [el, DataW.lit.injEq, Lit.int.injEq, true_and] at h
  exact h

/-- what a map of kinds holds: f at each kind, nothing beyond the bounds -/
structure RdD (D : DataW Unit) (f : Int → Int → Int) (V W : Int) : Prop where
  isMap : Maps.IsMap D
  at_ : ∀ x y, in64 x → in64 y → D.atKey (kl x y) (el 0) = el (f x y)
  keys : ∀ x y, in64 x → in64 y → Maps.has D (kl x y) = true → (-V ≤ x ∧ x ≤ V) ∧ 0 ≤ y ∧ y ≤ W
  out : ∀ x y, ¬ ((-V ≤ x ∧ x ≤ V) ∧ 0 ≤ y ∧ y ≤ W) → f x y = 0

def upd (f : Int → Int → Int) (x y c : Int) : Int → Int → Int := fun a b => if a = x ∧ b = y then c else f a b
def addAt (f : Int → Int → Int) (x y c : Int) : Int → Int → Int := fun a b => f a b + (if a = x ∧ b = y then c else 0)

theorem RdD.put {D : DataW Unit} {f : Int → Int → Int} {V W x y : Int} (h : RdD D f V W) (hx : in64 x) (hy : in64 y) (hb : (-V ≤ x ∧ x ≤ V) ∧ 0 ≤ y ∧ y ≤ W) (c : Int) : RdD (D.put (kl x y) (el c)) (upd f x y c) V W where
  isMap := h.isMap.put _ _
  at_ a b ha hb' := by
    by_cases e : a = x ∧ b = y
    · obtain ⟨rfl, rfl⟩ := e
      rw [Maps.atKey_put_same h.isMap (kl_key _ _), upd, if_pos ⟨rfl, rfl⟩]
    · rw [Maps.atKey_put_other (fun e' => e (kl_inj ha hb' hx hy e')), h.at_ a b ha hb', upd, if_neg e]
  keys a b ha hb' hh := by
    by_cases e : a = x ∧ b = y
    · obtain ⟨rfl, rfl⟩ := e; exact hb
    · rw [Maps.has_put_other (fun e' => e (kl_inj ha hb' hx hy e'))] at hh
      exact h.keys a b ha hb' hh
  out a b ho := by
    by_cases e : a = x ∧ b = y
    · obtain ⟨rfl, rfl⟩ := e; exact absurd hb ho
    · rw [upd, if_neg e]; exact h.out a b ho

theorem RdD.del {D : DataW Unit} {f : Int → Int → Int} {V W x y : Int} (h : RdD D f V W) (hx : in64 x) (hy : in64 y) : RdD (D.del (kl x y)) (upd f x y 0) V W where
  isMap := h.isMap.del _
  at_ a b ha hb' := by
    by_cases e : a = x ∧ b = y
    · obtain ⟨rfl, rfl⟩ := e
      rw [Maps.atKey_del_same, upd, if_pos ⟨rfl, rfl⟩]
    · rw [Maps.atKey_del_other (fun e' => e (kl_inj ha hb' hx hy e')), h.at_ a b ha hb', upd, if_neg e]
  keys a b ha hb' hh := by
    by_cases e : a = x ∧ b = y
    · obtain ⟨rfl, rfl⟩ := e; rw [Maps.has_del_same] at hh; cases hh
    · rw [Maps.has_del_other (fun e' => e (kl_inj ha hb' hx hy e'))] at hh
      exact h.keys a b ha hb' hh
  out a b ho := by
    by_cases e : a = x ∧ b = y
    · rw [upd, if_pos e]
    · rw [upd, if_neg e]; exact h.out a b ho

theorem RdD.congr {D : DataW Unit} {f g : Int → Int → Int} {V W : Int} (h : RdD D f V W) (e : ∀ x y, f x y = g x y) : RdD D g V W := by
  have : f = g := funext fun x => funext fun y => e x y
  rw [← this]; exact h

/-- the block b is a map of kinds -/
abbrev OwnsK (w : World) (b n : Nat) (D : DataW Unit) : Prop := w.ownsMap Try.prog 79 (plainElem Try.prog 3) b n D

/-- an empty map -/
theorem rdD_empty (V W : Int) : RdD (.map []) (fun _ _ => 0) V W where
  isMap := Maps.isMap_empty
  at_ x y _ _ := rfl
  keys x y _ _ h := by cases h
  out x y _ := rfl

open Go.MapKept Go.ChangeMaps in
/-- an entry that is changed: the old number is looked up, before or behind the entry's making; the new one is stored -/
theorem entry_runs {w : World} {b n : Nat} {D : DataW Unit} (hown : OwnsK w b n D) (hn : n < 1000000000) {x y : Int} (hx : in64 x) (hy : in64 y) :
    ∃ (c0 : Int) (v0 : Value) (st : Nat) (w3 : World), (Instr.lookup 80 (.map (some b)) (kv x y) false).run Try.prog w = .ok (.int .i64 c0) w ∧ D.atKey (kl x y) (el 0) = el c0 ∧
      (Instr.mapEntry 80 (.map (some b)) (kv x y)).run Try.prog w = .ok (.tuple #[v0, .int .i64 st]) w3 ∧ w.grownBy w3 (some b) ∧ w3.heap.size = w.heap.size ∧
      (Instr.lookup 80 (.map (some b)) (kv x y) false).run Try.prog w3 = .ok (.int .i64 c0) w3 ∧
      ∀ c, in64 c → ∃ w4, (Instr.entryStore 80 (.map (some b)) (.int .i64 st) (.int .i64 c)).run Try.prog w3 = .ok () w4 ∧ OwnsK w4 b (n + 1) (D.put (kl x y) (el c)) ∧ w.grownBy w4 (some b) ∧ w4.heap.size = w.heap.size := by
  have hkey := key_mk hx hy
  have hT := Try.underlying80
  have hE := Try.underlying3
  obtain ⟨c0, hl0, hat, _⟩ := hown.lookup_int lawK hT hE (zeroI w) hkey
  have hown0 := hown
  obtain ⟨es, clock, hb, F, hs, hD⟩ := hown
  obtain ⟨v0, st, es1, clock1, hme, hv0, hst⟩ := WideElems.entry_then_store lawKL hT zeroI hb F hkey
  have hnM : n < maxLen := by unfold maxLen; omega
  obtain ⟨w3, hw3⟩ : ∃ w3, w3 = setBlock w b (.map es1 clock1) := ⟨_, rfl⟩
  have hb3 : w3.heap[b]? = some (.map es1 clock1) := by rw [hw3]; exact heap_setBlock_same hb _
  have hsz3 : w3.heap.size = w.heap.size := by rw [hw3]; simp [setBlock]
  have hg3 : w.grownBy w3 (some b) := by
    rw [hw3]; exact ⟨rfl, rfl, rfl, by simp [setBlock], fun i _ hi => heap_setBlock_other hb _ (fun e => hi (by rw [e]))⟩
  have hlook3 : (Instr.lookup 80 (.map (some b)) (kv x y) false).run Try.prog w3 = .ok (.int .i64 c0) w3 := by
    have own3 : ∃ n3 D3, OwnsK w3 b n3 D3 ∧ D3.atKey (kl x y) (el 0) = el c0 := by
      rcases lawKL.find w hkey es.toList F.keys with ⟨h1, h2⟩ | ⟨j, e0, h1, h2, h3⟩
      · have hme' : (Instr.mapEntry 80 (.map (some b)) (kv x y)).run Try.prog w = .ok (.tuple #[.int .i64 0, goInt clock]) (setBlock w b (.map (es.push ⟨kv x y, .int .i64 0, clock⟩) (clock + 1))) := by
          simp [Instr.mapEntry, run_underlying hT, MapKept.run_getObj_map hb, lawKL.check w false hkey, h1, zeroI, MapKept.run_setObj_map _ hb, Result.andThen, setBlock]
        have hup : (Instr.mapUpdate 80 (.map (some b)) (kv x y) (.int .i64 0)).run Try.prog w = .ok () (setBlock w b (.map (es.push ⟨kv x y, .int .i64 0, clock⟩) (clock + 1))) := by
          simp [Instr.mapUpdate, run_underlying hT, MapKept.run_getObj_map hb, lawKL.check w false hkey, h1, MapKept.run_setObj_map _ hb, Result.andThen, setBlock]
        have e1 := hme.symm.trans hme'
        simp only [Result.ok.injEq] at e1
        obtain ⟨w', hrun', own', _⟩ := hown0.update lawK hT hnM hkey (plainElem_int hE (wf_of (show in64 0 by unfold in64; omega)))
        have e2 := hrun'.symm.trans hup
        simp only [Result.ok.injEq, true_and] at e2
        have e3 : w' = w3 := by rw [hw3, e1.2, e2]
        refine ⟨n + 1, _, e3 ▸ own', ?_⟩
        rcases Maps.fit_look false lawK hT (zeroI w) hb F hkey with ⟨_, _, hz⟩ | ⟨e0, y0, he0, hek, _⟩
        · have hat' : D.atKey (kl x y) (el 0) = el c0 := hat
          rw [hD, hz (el 0)] at hat'
          rw [Maps.atKey_put_same (by rw [hD]; exact ⟨_, rfl⟩) (kl_key _ _)]
          exact hat'
        · exact absurd hek (h2 e0 he0)
      · have hj : es[j]? = some e0 := by simpa using h2
        have hsame : es.modify j (fun e => { e with key := kv x y }) = es := by
          apply Array.ext'
          rw [Array.toList_modify, modify_eq_set _ _ _ _ h2]
          have : ({ e0 with key := kv x y } : MapEntry) = e0 := by rw [← h3]
          rw [this]
          exact WideElems.set_self _ _ _ h2
        have hme' : (Instr.mapEntry 80 (.map (some b)) (kv x y)).run Try.prog w = .ok (.tuple #[e0.val, goInt e0.born]) (setBlock w b (.map es clock)) := by
          simp [Instr.mapEntry, run_underlying hT, MapKept.run_getObj_map hb, lawKL.check w false hkey, h1, hj, h3, lawKL.stays w hkey, hsame, MapKept.run_setObj_map _ hb, Result.andThen, setBlock]
        have e1 := hme.symm.trans hme'
        simp only [Result.ok.injEq] at e1
        refine ⟨n, D, ⟨es, clock, ?_, F, hs, hD⟩, hat⟩
        rw [hw3, e1.2]
        exact heap_setBlock_same hb _
    obtain ⟨n3, D3, o3, a3⟩ := own3
    obtain ⟨c3, hl3, hat3, _⟩ := o3.lookup_int lawK hT hE (zeroI w3) hkey
    have : c3 = c0 := el_inj (hat3.symm.trans a3)
    rw [← this]; exact hl3
  refine ⟨c0, v0, st, w3, hl0, hat, by rw [hw3]; exact hme, hg3, hsz3, hlook3, fun c hc => ?_⟩
  obtain ⟨es', clock', hes, hup⟩ := hst w3 (.int .i64 c) hb3
  obtain ⟨w', hrun', own', hgr'⟩ := hown0.update lawK hT hnM hkey (plainElem_int hE (wf_of hc))
  have e2 := hrun'.symm.trans hup
  simp only [Result.ok.injEq, true_and] at e2
  have e4 : setBlock w3 b (.map es' clock') = w' := by rw [e2, hw3]; simp [setBlock]
  refine ⟨w', by rw [← e4]; exact hes, own', hgr', by rw [e2]; simp [setBlock]⟩

end Go.Proofs.Ytiemhhkoegkleaa
