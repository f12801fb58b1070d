/- Variables of several cells (structs), whole and in part. -/
import Derived.Test.YtpgjaoemkadenabM02
import Derived.Deep.MidRow
set_option linter.unusedVariables false
set_option linter.unusedSimpArgs false
set_option maxRecDepth 100000
namespace Go.Proofs.Ytpgjaoemkadenab.Seek
open Go.RowKit

/-- The variable at block g holds the cells cs. -/
def BoxC (w : World) (t : TypeId) (g : Nat) (cs : List Value) : Prop := w.heap[g]? = some (.cells cs.toArray t (0, 0))
section
variable {w w' : World} {t : TypeId} {g : Nat} {cs : List Value}
theorem BoxC.lt (h : BoxC w t g cs) : g < w.heap.size := (Array.getElem?_eq_some_iff.1 h).1
theorem BoxC.below (h : BoxC w t g cs) (hb : Below w.heap.size w w') : BoxC w' t g cs := (hb.block g h.lt).trans h
theorem BoxC.kept {row : Option Nat} (h : BoxC w t g cs) (hg : w.grownBy w' row) (hne : some g ≠ row) : BoxC w' t g cs := (hg.block g h.lt hne).trans h
theorem BoxC.new (w : World) (t : TypeId) (cs : List Value) : BoxC (w.alloc (.cells cs.toArray t)) t w.heap.size cs := heap_new _ _
theorem BoxC.alloc (h : BoxC w t g cs) (o : Obj) : BoxC (w.alloc o) t g cs := h.below (box_below _ _)
theorem BoxC.drew (h : BoxC w t g cs) : BoxC w.drew t g cs := h
theorem BoxC.row (h : BoxC w t g cs) (ds : List Value) : BoxC (w.setRow g ds.toArray) t g ds := setRow_heap w g _ _ t (0, 0) h
theorem BoxC.other {k : Nat} (h : BoxC w t g cs) (q : Array Value) (hne : g ≠ k) : BoxC (w.setRow k q) t g cs := (setRow_other w k g q hne).trans h
theorem BoxC.cell (h : BoxC w t g cs) (i : Nat) : w.cell? ⟨g, i, none⟩ = cs[i]? := by
  rw [cell_of_row w g i _ t (0, 0) h]
  simp
theorem BoxC.fr (h : BoxC w t g cs) (i : Nat) : w.frozen? ⟨g, i, none⟩ = false := by simp [World.frozen?, show w.heap[g]? = _ from h]
theorem BoxC.range (h : BoxC w t g cs) (o : Nat) (ds : List Value) (hd : ∀ j v, ds[j]? = some v → cs[o + j]? = some v) : w.rangeAt g o ds := fun j v hv => (h.cell (o + j)).trans (hd j v hv)
theorem BoxC.there (h : BoxC w t g cs) (o n : Nat) (hn : o + n ≤ cs.length) : w.there g o n := fun j hj => ⟨by rw [h.cell, List.getElem?_eq_getElem (by omega)]; rfl, h.fr _⟩
theorem BoxC.set (h : BoxC w t g cs) (i : Nat) (v : Value) : BoxC (w.setCell ⟨g, i, none⟩ v) t g (cs.set i v) := by
  have e : w.setCell ⟨g, i, none⟩ v = w.setRow g (cs.set i v).toArray := by
    rw [setCell_eq_setRow w g i _ t (0, 0) _ h]
    simp
  rw [e]
  exact h.row _
theorem grown_cell (w : World) (g i : Nat) (v : Value) : w.grownBy (w.setCell ⟨g, i, none⟩ v) (some g) := ⟨rfl, rfl, rfl, by simp [World.setCell], fun k _ hk => by rw [Below.heap_setCell]; exact fun e => hk (congrArg some e)⟩
theorem below_row {B k : Nat} {w0 : World} (h : Below B w0 w) (hk : B ≤ k) (q : Array Value) : Below B w0 (w.setRow k q) :=
  ⟨h.os, h.tape, h.output, by rw [setRow_size]; exact h.size, fun j hj => (setRow_other w k j q (by omega)).trans (h.block j hj)⟩
theorem grown_row (w : World) (g : Nat) (q : Array Value) : w.grownBy (w.setRow g q) (some g) := ⟨rfl, rfl, rfl, by rw [setRow_size]; exact Nat.le_refl _, fun k _ hk => setRow_other w g k _ (fun e => hk (by rw [e]))⟩
/-- Many cells written, one behind the other. -/
theorem cells_row : ∀ (vs : List Value) (o : Nat) (w : World) (cs : List Value), BoxC w t g cs → o + vs.length ≤ cs.length → w.setCells g o vs = w.setRow g (cs.take o ++ vs ++ cs.drop (o + vs.length)).toArray
  | [], o, w, cs, h, _ => by
    have e : (cs.take o ++ [] ++ cs.drop (o + ([] : List Value).length)) = cs := by simp
    rw [e]
    have hlt := h.lt
    have hv : w.heap[g] = .cells cs.toArray t (0, 0) := (Array.getElem?_eq_some_iff.1 h).2
    show w = _
    unfold World.setRow
    cases w with
    | mk heap tape drawn os output =>
      congr 1
      apply Array.ext
      · simp
      · intro k h1 h2
        simp only [Array.getElem_modify]
        split
        · rename_i hk; subst hk; simp at hv; simp [hv]
        · rfl
  | v :: r, o, w, cs, h, hl => by
    simp only [List.length_cons] at hl
    have e1 : w.setCell ⟨g, o, none⟩ v = w.setRow g (cs.set o v).toArray := by
      rw [setCell_eq_setRow w g o _ t (0, 0) v h]
      simp
    show (w.setCell ⟨g, o, none⟩ v).setCells g (o + 1) r = _
    rw [e1, cells_row r (o + 1) _ (cs.set o v) (h.row _) (by rw [List.length_set]; omega), setRow_setRow]
    congr 2
    simp only [List.length_cons]
    rw [List.drop_set_of_lt (by omega), show o + (r.length + 1) = o + 1 + r.length by omega]
    rw [List.take_add_one, List.take_set_of_le (by omega), List.getElem?_set_self (by omega)]
    simp
end
/-- A type of n cells. -/
def Wide (t : TypeId) (n : Nat) : Prop := (∃ d, Try.prog.underlying t = some d ∧ d.isRow = true) ∧ (Try.prog.info? t).map (·.size) = some n
section
variable {w : World} {ops : Array Oper} {rest : List Oper} {o : Oper} {a : Act} {Q : Exit → Act → World → Prop}
/-- An operation whose run is known. -/
theorem wpList_is (hw : Region.wanted o (yielded ops a.tmps) = true) (v : Value) (w' : World) (hr : (execOp a.eval o).run Try.prog w = .ok (.value v) w') (h : wpList Try.prog ops Q rest (a.put o.dst v) w') : wpList Try.prog ops Q (o :: rest) a w :=
  wpList_step fun K hK => by
    rw [if_pos hw]
    unfold Oper.wp
    simp only [hr]
    exact hK _ _ h
/-- Some cells of a variable. -/
theorem loadP (hw : Region.wanted o (yielded ops a.tmps) = true) (t t' : TypeId) (x : Operand) (ho : o.op = .load t' x) (g k : Nat) (hx : a.eval x = .pointer (some ⟨g, k, none⟩)) (cs ds : List Value) (hg : BoxC w t g cs) (hW : Wide t' ds.length) (hd : ∀ j v, ds[j]? = some v → cs[k + j]? = some v)
    (h : wpList Try.prog ops Q rest (a.put o.dst (.agg ds.toArray)) w) : wpList Try.prog ops Q (o :: rest) a w :=
  wpList_step fun K hK => by
    obtain ⟨⟨d, hu, hr⟩, hi⟩ := hW
    rw [if_pos hw]
    exact wp_load_mid t' x ho g k hx ds d (hg.range k ds hd) hu hr hi (hK _ _ h)
/-- A whole variable. -/
theorem loadC (hw : Region.wanted o (yielded ops a.tmps) = true) (t : TypeId) (x : Operand) (ho : o.op = .load t x) (g : Nat) (hx : a.eval x = .pointer (some ⟨g, 0, none⟩)) (cs : List Value) (hg : BoxC w t g cs) (hW : Wide t cs.length)
    (h : wpList Try.prog ops Q rest (a.put o.dst (.agg cs.toArray)) w) : wpList Try.prog ops Q (o :: rest) a w :=
  loadP hw t t x ho g 0 hx cs cs hg hW (fun j v hv => by rw [Nat.zero_add]; exact hv) h
/-- Some cells into a variable. -/
theorem storeP (hw : Region.wanted o (yielded ops a.tmps) = true) (t t' : TypeId) (x y : Operand) (ho : o.op = .store t' x y) (g k : Nat) (hx : a.eval x = .pointer (some ⟨g, k, none⟩)) (cs ds new : List Value) (hy : a.eval y = .agg ds.toArray) (hg : BoxC w t g cs) (hW : Wide t' ds.length)
    (h1 : ∀ v ∈ ds, v.oneCell' = true) (hk : k + ds.length ≤ cs.length) (hn : cs.take k ++ ds ++ cs.drop (k + ds.length) = new)
    (h : ∀ w', BoxC w' t g new → w.grownBy w' (some g) → wpList Try.prog ops Q rest (a.put o.dst undef) w') : wpList Try.prog ops Q (o :: rest) a w :=
  wpList_step fun K hK => by
    subst hn
    rw [if_pos hw]
    refine wp_store_mid t' x y ho g k ds.toArray hx hy (hg.there k _ (by simpa using hk)) (by rw [hW.2]; simp) (all_oneCell_toArray h1) (hK _ _ ?_)
    rw [cells_row ds k w cs hg hk]
    exact h _ (hg.row _) (grown_row _ _ _)
/-- A whole variable is written. -/
theorem storeC (hw : Region.wanted o (yielded ops a.tmps) = true) (t : TypeId) (x y : Operand) (ho : o.op = .store t x y) (g : Nat) (hx : a.eval x = .pointer (some ⟨g, 0, none⟩)) (cs ds : List Value) (hy : a.eval y = .agg ds.toArray) (hg : BoxC w t g cs) (hW : Wide t ds.length)
    (h1 : ∀ v ∈ ds, v.oneCell' = true) (hl : cs.length = ds.length)
    (h : ∀ w', BoxC w' t g ds → w.grownBy w' (some g) → wpList Try.prog ops Q rest (a.put o.dst undef) w') : wpList Try.prog ops Q (o :: rest) a w :=
  storeP hw t t x y ho g 0 hx cs ds ds hy hg hW h1 (by omega) (by simp [hl]) h
/-- One cell of a variable is written. -/
theorem storeO (hw : Region.wanted o (yielded ops a.tmps) = true) (t t' : TypeId) (x y : Operand) (ho : o.op = .store t' x y) (g k : Nat) (hx : a.eval x = .pointer (some ⟨g, k, none⟩)) (cs new : List Value) (v old : Value) (hy : a.eval y = v) (hg : BoxC w t g cs) (h1 : v.oneCell' = true) (hna : ∀ xs, v ≠ .agg xs) (hc : cs[k]? = some old) (hz : Try.prog.info? t' ≠ none ∧ (Try.prog.info? t').map (·.size) = some 1)
    (hn : cs.set k v = new)
    (h : ∀ w', BoxC w' t g new → w.grownBy w' (some g) → wpList Try.prog ops Q rest (a.put o.dst undef) w') : wpList Try.prog ops Q (o :: rest) a w := by
  subst hn
  have e : w.setCell ⟨g, k, none⟩ v = w.setRow g (cs.set k v).toArray := by
    rw [setCell_eq_setRow w g k _ t (0, 0) _ hg]
    simp
  have hcell : w.cell? ⟨g, k, none⟩ = some old := (hg.cell k).trans hc
  have hf := hg.fr k
  have hs : (storeVar t' ⟨g, k, none⟩ v).run Try.prog w = .ok () (w.setCell ⟨g, k, none⟩ v) := by
    cases hq : Try.prog.info? t' with
    | none => exact absurd hq hz.1
    | some i =>
      have hi : i.size = 1 := by have := hz.2; rw [hq] at this; simpa using this
      have hvc : v.cells = #[v] := by cases v <;> first | rfl | exact absurd rfl (hna _)
      have hst := fun m => run_store Try.prog w ⟨g, k, none⟩ v m h1
      simp [storeVar, sizeOf, typeInfo, hq, hi, hvc, storeCells, hst, hcell, hf, Addr.add_mid]
  refine wpList_step fun K hK => ?_
  rw [if_pos hw]
  have hr : (execOp a.eval o).run Try.prog w = .ok .skip (w.setRow g (cs.set k v).toArray) := by
    rw [← e]
    unfold execOp
    simp only [ho, hx, hy, Instr.storeAt, Instr.sureAddr, Sem.run_bind, Sem.run_pure, Result.andThen_ok, hs]
  unfold Oper.wp
  simp only [hr]
  exact hK _ _ (h _ (hg.row _) (grown_row _ _ _))
/-- A new variable with nothing in it. -/
theorem allocC (hw : Region.wanted o (yielded ops a.tmps) = true) (t : TypeId) (ho : o.op = .alloc t) (cs : List Value) (hz : (Try.prog.info? t).map (fun i => i.zero) = some (some (.agg cs.toArray)))
    (h : ∀ w', BoxC w' t w.heap.size cs → Below w.heap.size w w' → wpList Try.prog ops Q rest (a.put o.dst (.pointer (some ⟨w.heap.size, 0, none⟩))) w') : wpList Try.prog ops Q (o :: rest) a w := by
  have hz : ∀ w, (zeroValue t).run Try.prog w = .ok (.agg cs.toArray) w := by
    intro w
    cases hq : Try.prog.info? t with
    | none => rw [hq] at hz; cases hz
    | some i =>
      rw [hq] at hz
      simp at hz
      simp [zeroValue, typeInfo, hq, hz]
  refine wpList_is hw (.pointer (some ⟨w.heap.size, 0, none⟩)) (w.alloc (.cells cs.toArray t)) ?_ (h _ (BoxC.new w t cs) (box_below _ _))
  unfold execOp
  simp only [ho, Instr.alloc, Sem.run_bind, Sem.run_pure, hz, Result.andThen_ok, newVar, newRow, newObj, Value.cells]
  rfl
/-- A parameter's variable. -/
theorem boxC (hw : Region.wanted o (yielded ops a.tmps) = true) (t : TypeId) (x : Operand) (ho : o.op = .box t x) (cs : List Value) (hx : a.eval x = .agg cs.toArray)
    (h : ∀ w', BoxC w' t w.heap.size cs → Below w.heap.size w w' → wpList Try.prog ops Q rest (a.put o.dst (.pointer (some ⟨w.heap.size, 0, none⟩))) w') : wpList Try.prog ops Q (o :: rest) a w := by
  refine wpList_is hw (.pointer (some ⟨w.heap.size, 0, none⟩)) (w.alloc (.cells cs.toArray t)) ?_ (h _ (BoxC.new w t cs) (box_below _ _))
  unfold execOp
  simp only [ho, hx, Instr.box, Sem.run_bind, Sem.run_pure, Result.andThen_ok, newVar, newRow, newObj, Value.cells]
  rfl
/-- A value put together. -/
theorem buildC (hw : Region.wanted o (yielded ops a.tmps) = true) (t : TypeId) (parts : Array (Nat × Operand)) (ho : o.op = .build t parts) (cs : List Value) (hb : Try.prog.built t (parts.map fun (i, x) => (i, a.eval x)).toList = some cs.toArray)
    (h : wpList Try.prog ops Q rest (a.put o.dst (.agg cs.toArray)) w) : wpList Try.prog ops Q (o :: rest) a w := by
  refine wpList_is hw (.agg cs.toArray) w ?_ h
  unfold execOp
  have := run_build (P := Try.prog) w t (parts.map fun (i, x) => (i, a.eval x)) cs.toArray hb
  simp only [ho, Sem.run_bind, this, Result.andThen_ok, Sem.run_pure]
end
/-- How a call ends whose results are a variable and a value. -/
theorem ret_box {fn : Func} {p u : Tmp} {t : TypeId} (h : fn.results = #[.cell p t, .tmp u]) (tmps : Array Value) (w : World) (g : Nat) (cs : List Value) (v : Value) (hp : tmps.getD p undef = .pointer (some ⟨g, 0, none⟩)) (hv : tmps.getD u undef = v) (hg : BoxC w t g cs) (hW : Wide t cs.length) :
    (results fn tmps).run Try.prog w = .ok (.tuple #[.agg cs.toArray, v]) w := by
  obtain ⟨⟨d, hu, hr⟩, hi⟩ := hW
  rw [results_cell_tmp h, hp, hv]
  have := run_loadVar_mid (P := Try.prog) w g 0 t cs d (hg.range 0 cs (fun j v hv => by rw [Nat.zero_add]; exact hv)) hu hr hi
  simp only [asAddr, Sem.run_bind, Sem.run_pure, Result.andThen_ok, this]
/-- How a call ends whose result is a variable. -/
theorem ret_box1 {fn : Func} {p : Tmp} {t : TypeId} (h : fn.results = #[.cell p t]) (tmps : Array Value) (w : World) (g : Nat) (cs : List Value) (hp : tmps.getD p undef = .pointer (some ⟨g, 0, none⟩)) (hg : BoxC w t g cs) (hW : Wide t cs.length) :
    (results fn tmps).run Try.prog w = .ok (.agg cs.toArray) w := by
  obtain ⟨⟨d, hu, hr⟩, hi⟩ := hW
  have h2 : tmps[p]?.getD undef = .pointer (some ⟨g, 0, none⟩) := by rw [← Array.getD_eq_getD_getElem?]; exact hp
  have := run_loadVar_mid (P := Try.prog) w g 0 t cs d (hg.range 0 cs (fun j v hv => by rw [Nat.zero_add]; exact hv)) hu hr hi
  simp [results, h, h2, asAddr, this]
/-- The variables of a call at its beginning. -/
theorem start2 (w : World) (t1 t2 : TypeId) (c1 c2 : List Value) : BoxC ((w.alloc (.cells c1.toArray t1)).alloc (.cells c2.toArray t2)) t1 w.heap.size c1 ∧ BoxC ((w.alloc (.cells c1.toArray t1)).alloc (.cells c2.toArray t2)) t2 (w.heap.size + 1) c2 ∧ Below w.heap.size w ((w.alloc (.cells c1.toArray t1)).alloc (.cells c2.toArray t2)) := by
  have h2 := BoxC.new (w.alloc (.cells c1.toArray t1)) t2 c2
  rw [size_alloc] at h2
  exact ⟨(BoxC.new w t1 c1).alloc _, h2, (box_below _ _).alloc (by rw [size_alloc]; omega) _⟩
theorem start3 (w : World) (t1 t2 t3 : TypeId) (c1 c2 c3 : List Value) : BoxC (((w.alloc (.cells c1.toArray t1)).alloc (.cells c2.toArray t2)).alloc (.cells c3.toArray t3)) t1 w.heap.size c1 ∧ BoxC (((w.alloc (.cells c1.toArray t1)).alloc (.cells c2.toArray t2)).alloc (.cells c3.toArray t3)) t2 (w.heap.size + 1) c2 ∧
    BoxC (((w.alloc (.cells c1.toArray t1)).alloc (.cells c2.toArray t2)).alloc (.cells c3.toArray t3)) t3 (w.heap.size + 1 + 1) c3 ∧ Below w.heap.size w (((w.alloc (.cells c1.toArray t1)).alloc (.cells c2.toArray t2)).alloc (.cells c3.toArray t3)) := by
  obtain ⟨h1, h2, hb⟩ := start2 w t1 t2 c1 c2
  have h3 := BoxC.new ((w.alloc (.cells c1.toArray t1)).alloc (.cells c2.toArray t2)) t3 c3
  rw [size_alloc, size_alloc] at h3
  exact ⟨h1.alloc _, h2.alloc _, h3, hb.alloc (by rw [size_alloc, size_alloc]; omega) _⟩
theorem wide_line : Wide 24 2 := ⟨⟨_, Try.underlying24, rfl⟩, by kernel_rfl⟩
end Go.Proofs.Ytpgjaoemkadenab.Seek
