/- Parts and commands in memory: variables of five numbers. -/
import Derived.Test.YtjpgjhdkgmddfaaDoorSigns
import Derived.Laws.Rows
import Derived.Laws.Tables
import Derived.Laws.StructEq
import Derived.Laws.ResultCell
set_option linter.unusedVariables false
set_option linter.unusedSimpArgs false
namespace Go.Proofs.YtjpgjhdkgmddfaaDoor.Seek
open Go.RowKit Plain

theorem size_alloc (w : World) (o : Obj) : (w.alloc o).heap.size = w.heap.size + 1 := by show (w.heap.push o).size = _; simp
theorem box_below (w : World) (o : Obj) : Below w.heap.size w (w.alloc o) := (Below.refl _ _).alloc (Nat.le_refl _) _
theorem heap_new (w : World) (o : Obj) : (w.alloc o).heap[w.heap.size]? = some o := by show (w.heap.push o)[w.heap.size]? = _; simp
/-- Five numbers as a value. -/
def fv (p : Five) : Value := .agg #[.int .i64 p.1, .int .i64 p.2.1, .int .i64 p.2.2.1, .int .i64 p.2.2.2.1, .int .i64 p.2.2.2.2]
def row5 (p : Five) : Array Value := #[.int .i64 p.1, .int .i64 p.2.1, .int .i64 p.2.2.1, .int .i64 p.2.2.2.1, .int .i64 p.2.2.2.2]
/-- Five numbers in a variable (t: api.Part or api.Cmd). -/
def BoxF (w : World) (t : TypeId) (g : Nat) (p : Five) : Prop := w.heap[g]? = some (.cells (row5 p) t (0, 0))
section
variable {w w' : World} {t : TypeId} {g : Nat} {p : Five}
theorem BoxF.lt (h : BoxF w t g p) : g < w.heap.size := (Array.getElem?_eq_some_iff.1 h).1
theorem BoxF.c0 (h : BoxF w t g p) : w.cell? ⟨g, 0, none⟩ = some (.int .i64 p.1) := by simp [World.cell?, show w.heap[g]? = _ from h, row5]
theorem BoxF.c1 (h : BoxF w t g p) : w.cell? ⟨g, 1, none⟩ = some (.int .i64 p.2.1) := by simp [World.cell?, show w.heap[g]? = _ from h, row5]
theorem BoxF.c2 (h : BoxF w t g p) : w.cell? ⟨g, 2, none⟩ = some (.int .i64 p.2.2.1) := by simp [World.cell?, show w.heap[g]? = _ from h, row5]
theorem BoxF.c3 (h : BoxF w t g p) : w.cell? ⟨g, 3, none⟩ = some (.int .i64 p.2.2.2.1) := by simp [World.cell?, show w.heap[g]? = _ from h, row5]
theorem BoxF.c4 (h : BoxF w t g p) : w.cell? ⟨g, 4, none⟩ = some (.int .i64 p.2.2.2.2) := by simp [World.cell?, show w.heap[g]? = _ from h, row5]
theorem BoxF.fr (h : BoxF w t g p) (i : Nat) : w.frozen? ⟨g, i, none⟩ = false := by simp [World.frozen?, show w.heap[g]? = _ from h]
theorem BoxF.below (h : BoxF w t g p) (hb : Below w.heap.size w w') : BoxF w' t g p := (hb.block g h.lt).trans h
theorem BoxF.kept {row : Option Nat} (h : BoxF w t g p) (hg : w.grownBy w' row) (hne : some g ≠ row) : BoxF w' t g p := (hg.block g h.lt hne).trans h
theorem BoxF.new (w : World) (t : TypeId) (p : Five) : BoxF (w.alloc (.cells (row5 p) t)) t w.heap.size p := heap_new _ _
theorem BoxF.alloc (h : BoxF w t g p) (o : Obj) : BoxF (w.alloc o) t g p := h.below (box_below _ _)
theorem BoxF.row (h : BoxF w t g p) (q : Five) : BoxF (w.setRow g (row5 q)) t g q := setRow_heap w g _ _ t (0, 0) h
theorem BoxF.other {k : Nat} (h : BoxF w t g p) (q : Array Value) (hne : g ≠ k) : BoxF (w.setRow k q) t g p := (setRow_other w k g q hne).trans h
theorem below_row {B k : Nat} {w0 : World} (h : Below B w0 w) (hk : B ≤ k) (q : Array Value) : Below B w0 (w.setRow k q) :=
  ⟨h.os, h.tape, h.output, by rw [setRow_size]; exact h.size, fun j hj => (setRow_other w k j q (by omega)).trans (h.block j hj)⟩
end
theorem size5 {t : TypeId} (ht : t = 27 ∨ t = 24) : (Tryd.prog.info? t).map (·.size) = some 5 := by
  rcases ht with rfl | rfl <;> kernel_rfl
/-- Five numbers into their variable. -/
theorem storeF {w : World} {ops : Array Oper} {rest : List Oper} {o : Oper} {a : Act} {Q : Exit → Act → World → Prop} (hw : Region.wanted o (yielded ops a.tmps) = true) (t : TypeId) (x y : Operand) (ho : o.op = .store t x y) (ht : t = 27 ∨ t = 24)
    (g : Nat) (hx : a.eval x = .pointer (some ⟨g, 0, none⟩)) (p old : Five) (hy : a.eval y = fv p) (hg : BoxF w t g old)
    (h : wpList Tryd.prog ops Q rest (a.put o.dst undef) (w.setRow g (row5 p))) : wpList Tryd.prog ops Q (o :: rest) a w :=
  wpList_step fun K hK => by
    rw [if_pos hw]
    exact wp_store_row t x y ho g (row5 p) hx hy t _ hg (size5 ht) rfl (by simp only [row5, List.all_toArray, List.all_cons, List.all_nil, Bool.and_true, Bool.and_eq_true]; exact ⟨rfl, rfl, rfl, rfl, rfl⟩) (hK _ _ h)
theorem load_row {w : World} {t : TypeId} {g : Nat} {p : Five} (ht : t = 27 ∨ t = 24) (h : BoxF w t g p) : (loadVar t ⟨g, 0, none⟩).run Tryd.prog w = .ok (fv p) w := by
  rcases ht with rfl | rfl
  · exact run_loadVar_row w g _ _ _ _ _ h Tryd.underlying27 rfl (size5 (.inl rfl))
  · exact run_loadVar_row w g _ _ _ _ _ h Tryd.underlying24 rfl (size5 (.inr rfl))
/-- What a key makes, as a call tells it. -/
def TookPost (R : Took) (w : World) (e : Ending) (w' : World) : Prop := e = .returned (.tuple #[fv R.1, fv R.2.1, .int .i64 R.2.2]) ∧ Below w.heap.size w w'
/-- The end of a call that tells a part, a command and how. -/
theorem ret_took {fn : Func} {R : Ending → World → Prop} {a : Act} {w : World} (i j k : Nat) (hres : fn.results = #[.cell i 27, .cell j 24, .tmp k]) (g1 g2 : Nat) (hi : a.tmps.getD i undef = .pointer (some ⟨g1, 0, none⟩))
    (hj : a.tmps.getD j undef = .pointer (some ⟨g2, 0, none⟩)) (p c : Five) (n : Int) (hk : a.tmps.getD k undef = .int .i64 n) (h1 : BoxF w 27 g1 p) (h2 : BoxF w 24 g2 c) (hd : a.defers = [])
    (hR : R (.returned (.tuple #[fv p, fv c, .int .i64 n])) w) : bodyPost Tryd.prog fn R .ret a w := by
  refine bodyPost_ret (v := .tuple #[fv p, fv c, .int .i64 n]) ?_ hd hR
  have h3 : (results fn a.tmps).run Tryd.prog w = ((asAddr (a.tmps.getD i undef)).run Tryd.prog w).andThen fun x w₁ => ((loadVar 27 x).run Tryd.prog w₁).andThen fun u w₂ =>
      ((asAddr (a.tmps.getD j undef)).run Tryd.prog w₂).andThen fun y w₃ => ((loadVar 24 y).run Tryd.prog w₃).andThen fun v w₄ => .ok (.tuple #[u, v, a.tmps.getD k undef]) w₄ := by
    simp only [results, hres]
    simp [Sem.run_bind, Result.andThen]
  rw [h3, hi, hj, hk]
  simp only [asAddr, Sem.run_pure, Result.andThen_ok, load_row (.inl rfl) h1, load_row (.inr rfl) h2]
/-- The end behind a call: both variables stored. -/
theorem ret_two {fn : Func} {R : Took} {a : Act} {w0 w : World} {g1 g2 : Nat} {p c : Five} (i j k : Nat) (hres : fn.results = #[.cell i 27, .cell j 24, .tmp k]) (h1 : BoxF w 27 g1 p) (h2 : BoxF w 24 g2 c) (hne : g1 < g2) (hB : Below w0.heap.size w0 w) (hle : w0.heap.size ≤ g1)
    (hi : a.tmps.getD i undef = .pointer (some ⟨g1, 0, none⟩)) (hj : a.tmps.getD j undef = .pointer (some ⟨g2, 0, none⟩)) (hk : a.tmps.getD k undef = .int .i64 R.2.2) (hd : a.defers = []) :
    bodyPost Tryd.prog fn (fun e w' => TookPost R w0 e w') .ret a ((w.setRow g1 (row5 R.1)).setRow g2 (row5 R.2.1)) :=
  ret_took i j k hres g1 g2 hi hj R.1 R.2.1 R.2.2 hk ((h1.row _).other _ (by omega)) ((h2.other _ (by omega)).row _) hd ⟨rfl, below_row (below_row hB hle _) (by omega) _⟩
/-- The variables of a call at its beginning. -/
def Enter (w0 w : World) (p : Five) (n g1 g2 : Nat) : Prop := BoxF w 27 n p ∧ BoxF w 27 g1 zer ∧ BoxF w 24 g2 zer ∧ Below w0.heap.size w0 w ∧ w0.heap.size ≤ g1 ∧ g1 < g2
theorem enter_new (w : World) (p : Five) : Enter w (((w.alloc (.cells (row5 p) 27)).alloc (.cells (row5 zer) 27)).alloc (.cells (row5 zer) 24)) p w.heap.size (w.heap.size + 1) (w.heap.size + 1 + 1) := by
  have h1 := (BoxF.new w 27 p)
  have h2 := BoxF.new (w.alloc (.cells (row5 p) 27)) 27 zer
  have h3 := BoxF.new ((w.alloc (.cells (row5 p) 27)).alloc (.cells (row5 zer) 27)) 24 zer
  rw [size_alloc] at h2 h3
  rw [size_alloc] at h3
  exact ⟨(h1.alloc _).alloc _, h2.alloc _, h3, ((box_below _ _).alloc (by rw [size_alloc]; omega) _).alloc (by rw [size_alloc, size_alloc]; omega) _, by omega, by omega⟩
theorem Enter.below {w0 w w' : World} {p : Five} {n g1 g2 : Nat} (h : Enter w0 w p n g1 g2) (hb : Below w.heap.size w w') : Enter w0 w' p n g1 g2 :=
  ⟨h.1.below hb, h.2.1.below hb, h.2.2.1.below hb, h.2.2.2.1.trans (hb.mono h.2.2.2.1.size), h.2.2.2.2.1, h.2.2.2.2.2⟩
theorem Enter.end {fn : Func} {R : Took} {a : Act} {w0 w : World} {p : Five} {n g1 g2 : Nat} (h : Enter w0 w p n g1 g2) (i j k : Nat) (hres : fn.results = #[.cell i 27, .cell j 24, .tmp k])
    (hi : a.tmps.getD i undef = .pointer (some ⟨g1, 0, none⟩)) (hj : a.tmps.getD j undef = .pointer (some ⟨g2, 0, none⟩)) (hk : a.tmps.getD k undef = .int .i64 R.2.2) (hd : a.defers = []) :
    bodyPost Tryd.prog fn (fun e w' => TookPost R w0 e w') .ret a ((w.setRow g1 (row5 R.1)).setRow g2 (row5 R.2.1)) :=
  ret_two i j k hres h.2.1 h.2.2.1 h.2.2.2.2.2 h.2.2.2.1 h.2.2.2.2.1 hi hj hk hd
theorem Enter.cells {w0 w : World} {f r o s t : Int} {n g1 g2 : Nat} (h : Enter w0 w (f, r, o, s, t) n g1 g2) : w.cell? ⟨n, 0, none⟩ = some (.int .i64 f) ∧ w.cell? ⟨n, 1, none⟩ = some (.int .i64 r) ∧ w.cell? ⟨n, 2, none⟩ = some (.int .i64 o) ∧
    w.cell? ⟨n, 3, none⟩ = some (.int .i64 s) ∧ w.cell? ⟨n, 4, none⟩ = some (.int .i64 t) := ⟨h.1.c0, h.1.c1, h.1.c2, h.1.c3, h.1.c4⟩
/-- Five numbers are held against each other. -/
theorem eqF {t : TypeId} (ht : t = 27 ∨ t = 24) (p q : Five) (w : World) : (binOp .eql t (fv p) (fv q)).run Tryd.prog w = .ok (.bool (decide (p = q))) w := by
  have u3 := Tryd.underlying3
  have a3 := Tryd.isAgg3
  have z3 := Tryd.sizeOf3
  rcases ht with rfl | rfl
  · have hS : Tryd.prog.underlying 27 = some (.struct (Tryd.prog.fieldsOf 27)) := by kernel_rfl
    have hp : Tryd.prog.stoodInHeld 27 = false := by kernel_rfl
    unfold fv
    rw [run_eql_struct, show (10000 : Nat) = 9999 + 1 from rfl, run_equalIn_agg w 9999 27 _ _ hS hp]
    simp only [Program.fieldsOf, Tryd.underlying27]
    go_simp
    obtain ⟨a, b, c, d, e⟩ := p
    obtain ⟨a', b', c', d', e'⟩ := q
    by_cases h1 : a = a' <;> by_cases h2 : b = b' <;> by_cases h3 : c = c' <;> by_cases h4 : d = d' <;> by_cases h5 : e = e' <;> simp [h1, h2, h3, h4, h5]
  · have hS : Tryd.prog.underlying 24 = some (.struct (Tryd.prog.fieldsOf 24)) := by kernel_rfl
    have hp : Tryd.prog.stoodInHeld 24 = false := by kernel_rfl
    unfold fv
    rw [run_eql_struct, show (10000 : Nat) = 9999 + 1 from rfl, run_equalIn_agg w 9999 24 _ _ hS hp]
    simp only [Program.fieldsOf, Tryd.underlying24]
    go_simp
    obtain ⟨a, b, c, d, e⟩ := p
    obtain ⟨a', b', c', d', e'⟩ := q
    by_cases h1 : a = a' <;> by_cases h2 : b = b' <;> by_cases h3 : c = c' <;> by_cases h4 : d = d' <;> by_cases h5 : e = e' <;> simp [h1, h2, h3, h4, h5]
theorem below_al {W w' : World} (h : Below W.heap.size W w') (o : Obj) : Below W.heap.size W (w'.alloc o) := h.alloc h.size o
theorem below_st {W w' : World} {p : Addr} (h : Below W.heap.size W w') (hp : W.heap.size ≤ p.block) (v : Value) : Below W.heap.size W (w'.setCell p v) := h.setCell hp v
theorem below_dr {W w' : World} (h : Below W.heap.size W w') : Below W.heap.size W w'.drew := h.drew
/-- The same three in a region that draws. -/
theorem step_storeF {w : World} {ops : Array Oper} {o : Oper} {a : Act} {K : Act → World → Prop} {Q : Exit → Act → World → Prop} {E : Prop} (hgd : o.guard = none) (t : TypeId) (x y : Operand) (ho : o.op = .store t x y) (ht : t = 27 ∨ t = 24)
    (g : Nat) (hx : a.eval x = .pointer (some ⟨g, 0, none⟩)) (p old : Five) (hy : a.eval y = fv p) (hg : BoxF w t g old) (h : K (a.put o.dst undef) (w.setRow g (row5 p))) :
    if Region.wanted o (yielded ops a.tmps) = true then Oper.wp Tryd.prog o a w K Q else E := by
  have hw : Region.wanted o (yielded ops a.tmps) = true := by simp [Region.wanted, hgd]
  rw [if_pos hw]
  exact wp_store_row t x y ho g (row5 p) hx hy t _ hg (size5 ht) rfl (by simp only [row5, List.all_toArray, List.all_cons, List.all_nil, Bool.and_true, Bool.and_eq_true]; exact ⟨rfl, rfl, rfl, rfl, rfl⟩) h
theorem exec_load {f : Operand → Value} {o : Oper} (t : TypeId) (x : Operand) (ho : o.op = .load t x) (ht : t = 27 ∨ t = 24) (g : Nat) (hx : f x = .pointer (some ⟨g, 0, none⟩)) {w : World} {p : Five} (h : BoxF w t g p) : (execOp f o).run Tryd.prog w = .ok (.value (fv p)) w := by
  unfold execOp
  simp only [ho, hx, Instr.loadAt, Instr.sureAddr, Sem.run_bind, Sem.run_pure, Result.andThen_ok, load_row ht h]
theorem exec_zero {f : Operand → Value} {o : Oper} (t : TypeId) (ho : o.op = .build t #[]) (ht : t = 27 ∨ t = 24) (w : World) : (execOp f o).run Tryd.prog w = .ok (.value (fv zer)) w := by
  unfold execOp
  rcases ht with rfl | rfl
  · have := run_build (P := Tryd.prog) w 27 #[] (row5 zer) (by kernel_rfl)
    simp only [ho, List.map_toArray, List.map_nil, Sem.run_bind, this, Result.andThen_ok, Sem.run_pure]
    rfl
  · have := run_build (P := Tryd.prog) w 24 #[] (row5 zer) (by kernel_rfl)
    simp only [ho, List.map_toArray, List.map_nil, Sem.run_bind, this, Result.andThen_ok, Sem.run_pure]
    rfl
theorem two_new (w : World) (p : Five) : BoxF ((w.alloc (.cells (row5 p) 27)).alloc (.cells (row5 zer) 27)) 27 w.heap.size p ∧ BoxF ((w.alloc (.cells (row5 p) 27)).alloc (.cells (row5 zer) 27)) 27 (w.heap.size + 1) zer ∧
    Below w.heap.size w ((w.alloc (.cells (row5 p) 27)).alloc (.cells (row5 zer) 27)) := by
  have h2 := BoxF.new (w.alloc (.cells (row5 p) 27)) 27 zer
  rw [size_alloc] at h2
  exact ⟨(BoxF.new w 27 p).alloc _, h2, (box_below _ _).alloc (by rw [size_alloc]; omega) _⟩
theorem BoxF.far {w : World} {t : TypeId} {g : Nat} {p : Five} (h : BoxF w t g p) (x : Addr) (v : Value) (hne : x.block ≠ g) : BoxF (w.setCell x v) t g p := by
  show (w.setCell x v).heap[g]? = _
  rw [Below.heap_setCell w x v g (fun e => hne e.symm)]
  exact h
/-- The end of a call that tells a part alone. -/
theorem ret_part {fn : Func} {R : Ending → World → Prop} {a : Act} {w : World} (i : Nat) (t : TypeId) (ht : t = 27 ∨ t = 24) (hres : fn.results = #[.cell i t]) (g1 : Nat) (hi : a.tmps.getD i undef = .pointer (some ⟨g1, 0, none⟩)) (p : Five) (h1 : BoxF w t g1 p) (hd : a.defers = [])
    (hR : R (.returned (fv p)) w) : bodyPost Tryd.prog fn R .ret a w := by
  refine bodyPost_ret (v := fv p) ?_ hd hR
  have h3 : (results fn a.tmps).run Tryd.prog w = ((asAddr (a.tmps.getD i undef)).run Tryd.prog w).andThen fun x w₁ => (loadVar t x).run Tryd.prog w₁ := by
    simp only [results, hres]
    simp [Sem.run_bind, Result.andThen]
  rw [h3, hi]
  simp only [asAddr, Sem.run_pure, Result.andThen_ok, load_row ht h1]
theorem two_boxes (w : World) (p c : Five) : BoxF ((w.alloc (.cells (row5 p) 27)).alloc (.cells (row5 c) 24)) 27 w.heap.size p ∧ BoxF ((w.alloc (.cells (row5 p) 27)).alloc (.cells (row5 c) 24)) 24 (w.heap.size + 1) c ∧
    Below w.heap.size w ((w.alloc (.cells (row5 p) 27)).alloc (.cells (row5 c) 24)) := by
  have h2 := BoxF.new (w.alloc (.cells (row5 p) 27)) 24 c
  rw [size_alloc] at h2
  exact ⟨(BoxF.new w 27 p).alloc _, h2, (box_below _ _).alloc (by rw [size_alloc]; omega) _⟩
theorem reads_at {w : World} {a : Option Addr} {zs : List Int} {cap : Nat} (h : Reads w (.slice a zs.length cap) zs) (i : Nat) (hi : i < zs.length) : ∃ b off, a = some ⟨b, off, none⟩ ∧ b < w.heap.size ∧ w.cell? ⟨b, off + i, none⟩ = some (.int .i64 (zs.getD i 0)) := by
  rcases h with ⟨_, _, _, rfl⟩ | ⟨b, off, c, hv, _, _, hb, hc⟩
  · cases hi
  · cases hv
    exact ⟨b, off, rfl, hb, hc i hi⟩
end Go.Proofs.YtjpgjhdkgmddfaaDoor.Seek
