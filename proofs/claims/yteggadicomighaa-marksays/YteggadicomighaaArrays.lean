/- Arrays of 26 numbers (api.Marks): in variables, by value, held against each other. -/
import Derived.Test.YteggadicomighaaAppends
import Derived.Laws.Rows
import Derived.Laws.Tables
import Derived.Laws.StructEq
import Derived.ChangeKeysEq
set_option linter.unusedVariables false
set_option linter.unusedSimpArgs false
namespace Go.Proofs.Yteggadicomighaa.Seek
open Go.RowKit Plain

/-- An array of numbers, as a value. -/
def arr (ms : List Int) : Value := .agg (ints ms).toArray
def zeros : List Int := List.replicate 26 0
/-- The block g holds the array ms. -/
def HoldsA (w : World) (g : Nat) (ms : List Int) : Prop := ms.length = 26 ∧ w.heap[g]? = some (.cells (ints ms).toArray 24 (0, 0))
theorem HoldsA.lt {w : World} {g : Nat} {ms : List Int} (h : HoldsA w g ms) : g < w.heap.size := (Array.getElem?_eq_some_iff.1 h.2).1
theorem HoldsA.below {w w' : World} {g : Nat} {ms : List Int} (h : HoldsA w g ms) (hb : Below w.heap.size w w') : HoldsA w' g ms := ⟨h.1, (hb.block g h.lt).trans h.2⟩
theorem HoldsA.kept {w w' : World} {g : Nat} {ms : List Int} {row : Option Nat} (h : HoldsA w g ms) (hg : w.grownBy w' row) (hne : some g ≠ row) : HoldsA w' g ms := ⟨h.1, (hg.block g h.lt hne).trans h.2⟩
theorem HoldsA.cell {w : World} {g : Nat} {ms : List Int} (h : HoldsA w g ms) (i : Nat) (hi : i < 26) : w.cell? ⟨g, i, none⟩ = some (.int .i64 (ms.getD i 0)) := by
  rw [cell_of_row w g i _ 24 (0, 0) h.2]
  have := h.1
  unfold ints
  simp [List.getD_eq_getElem?_getD, show i < ms.length by omega]
theorem info24 : (Try.prog.info? 24).map (fun i => (i.zero, i.size)) = some (some (arr zeros), 26) := by kernel_rfl
theorem size26 : (Try.prog.info? 24).map (·.size) = some 26 := by kernel_rfl
theorem size24 (ms : List Int) (h : ms.length = 26) : (Try.prog.info? 24).map (·.size) = some (ints ms).toArray.size := by
  have e : (ints ms).toArray.size = 26 := by rw [List.size_toArray, ints_len, h]
  exact size26.trans (congrArg some e.symm)
theorem ints_all (ms : List Int) : (ints ms).toArray.all (·.oneCell') = true := by
  rw [Array.all_eq_true_iff_forall_mem]
  intro v hv
  exact ints_one ms v (by simpa using hv)

section
variable {w : World} {ops : Array Oper} {rest : List Oper} {o : Oper} {a : Act} {Q : Exit → Act → World → Prop}
/-- An operation whose run is known. -/
theorem wpList_value (hw : Region.wanted o (yielded ops a.tmps) = true) (v : Value) (w' : World) (hr : (execOp a.eval o).run Try.prog w = .ok (.value v) w') (h : wpList Try.prog ops Q rest (a.put o.dst v) w') : wpList Try.prog ops Q (o :: rest) a w :=
  wpList_step fun K hK => by
    rw [if_pos hw]
    unfold Oper.wp
    simp only [hr]
    exact hK _ _ h
/-- A whole array out of a variable. -/
theorem load24 (hw : Region.wanted o (yielded ops a.tmps) = true) (x : Operand) (ho : o.op = .load 24 x) (g : Nat) (hx : a.eval x = .pointer (some ⟨g, 0, none⟩)) (ms : List Int) (hg : HoldsA w g ms)
    (h : wpList Try.prog ops Q rest (a.put o.dst (arr ms)) w) : wpList Try.prog ops Q (o :: rest) a w :=
  wpList_step fun K hK => by
    rw [if_pos hw]
    exact wp_load_row 24 x ho g hx 24 _ (0, 0) _ hg.2 Try.underlying24 rfl (size24 ms hg.1) (hK _ _ h)
theorem holds_setRow {w : World} {g : Nat} {ms ms' : List Int} (hg : HoldsA w g ms) (hl : ms'.length = 26) : HoldsA (w.setRow g (ints ms').toArray) g ms' ∧ w.grownBy (w.setRow g (ints ms').toArray) (some g) :=
  ⟨⟨hl, setRow_heap w g _ _ 24 (0, 0) hg.2⟩, ⟨rfl, rfl, rfl, by rw [setRow_size]; exact Nat.le_refl _, fun k _ hk => setRow_other w g k _ (fun e => hk (by rw [e]))⟩⟩
/-- A whole array into a variable. -/
theorem store24 (hw : Region.wanted o (yielded ops a.tmps) = true) (x y : Operand) (ho : o.op = .store 24 x y) (g : Nat) (hx : a.eval x = .pointer (some ⟨g, 0, none⟩)) (ms old : List Int) (hy : a.eval y = arr ms) (hg : HoldsA w g old) (hl : ms.length = 26)
    (h : ∀ w', HoldsA w' g ms → w.grownBy w' (some g) → wpList Try.prog ops Q rest (a.put o.dst undef) w') : wpList Try.prog ops Q (o :: rest) a w :=
  wpList_step fun K hK => by
    rw [if_pos hw]
    refine wp_store_row 24 x y ho g _ hx hy 24 _ hg.2 (size24 ms hl) ?_ (ints_all ms) (hK _ _ (h _ (holds_setRow hg hl).1 (holds_setRow hg hl).2))
    rw [List.size_toArray, List.size_toArray, ints_len, ints_len, hg.1, hl]
/-- A new variable for an array. -/
theorem holds_new (w : World) (ms : List Int) (hl : ms.length = 26) : HoldsA (w.alloc (.cells (ints ms).toArray 24)) w.heap.size ms := ⟨hl, heap_alloc_new _ _⟩
theorem alloc24 (hw : Region.wanted o (yielded ops a.tmps) = true) (ho : o.op = .alloc 24)
    (h : ∀ w', HoldsA w' w.heap.size zeros → Below w.heap.size w w' → wpList Try.prog ops Q rest (a.put o.dst (.pointer (some ⟨w.heap.size, 0, none⟩))) w') : wpList Try.prog ops Q (o :: rest) a w := by
  have hz : ∀ w, (zeroValue 24).run Try.prog w = .ok (arr zeros) w := by
    intro w
    have := info24
    cases hq : Try.prog.info? 24 with
    | none => rw [hq] at this; cases this
    | some i =>
      rw [hq] at this
      simp at this
      simp [zeroValue, typeInfo, hq, this.1]
  refine wpList_value hw (.pointer (some ⟨w.heap.size, 0, none⟩)) (w.alloc (.cells (ints zeros).toArray 24)) ?_ (h _ (holds_new w zeros (by decide)) (box_below _ _))
  unfold execOp
  simp only [ho, Instr.alloc, Sem.run_bind, Sem.run_pure, hz, Result.andThen_ok, newVar, newRow, newObj, arr, Value.cells]
  rfl
theorem box24 (hw : Region.wanted o (yielded ops a.tmps) = true) (x : Operand) (ho : o.op = .box 24 x) (ms : List Int) (hx : a.eval x = arr ms) (hl : ms.length = 26)
    (h : ∀ w', HoldsA w' w.heap.size ms → Below w.heap.size w w' → wpList Try.prog ops Q rest (a.put o.dst (.pointer (some ⟨w.heap.size, 0, none⟩))) w') : wpList Try.prog ops Q (o :: rest) a w := by
  refine wpList_value hw (.pointer (some ⟨w.heap.size, 0, none⟩)) (w.alloc (.cells (ints ms).toArray 24)) ?_ (h _ (holds_new w ms hl) (box_below _ _))
  unfold execOp
  simp only [ho, hx, Instr.box, Sem.run_bind, Sem.run_pure, Result.andThen_ok, newVar, newRow, newObj, arr, Value.cells]
  rfl
/-- An array of nothing. -/
theorem build24 (hw : Region.wanted o (yielded ops a.tmps) = true) (ho : o.op = .build 24 #[])
    (h : wpList Try.prog ops Q rest (a.put o.dst (arr zeros)) w) : wpList Try.prog ops Q (o :: rest) a w := by
  refine wpList_value hw (arr zeros) w ?_ h
  unfold execOp
  have := run_build (P := Try.prog) w 24 #[] (ints zeros).toArray (by kernel_rfl)
  simp only [ho, List.map_toArray, List.map_nil, Sem.run_bind, this, Result.andThen_ok, Sem.run_pure]
  rfl
/-- A number of an array that is a value. -/
theorem index24 (hw : Region.wanted o (yielded ops a.tmps) = true) (x y : Operand) (ho : o.op = .index 24 x y) (ms : List Int) (hx : a.eval x = arr ms) (i : Nat) (hy : a.eval y = .int .i64 (i : Int)) (hl : ms.length = 26) (hi : i < 26)
    (h : wpList Try.prog ops Q rest (a.put o.dst (.int .i64 (ms.getD i 0))) w) : wpList Try.prog ops Q (o :: rest) a w := by
  refine wpList_value hw (.int .i64 (ms.getD i 0)) w ?_ h
  unfold execOp
  have h2 : (ints ms).toArray[i]? = some (.int .i64 (ms.getD i 0)) := by
    unfold ints
    simp [List.getD_eq_getElem?_getD, show i < ms.length by omega]
  have hI : (0 : Int) ≤ (i : Int) ∧ (i : Int) < ((26 : Nat) : Int) := by omega
  simp only [ho, hx, hy, Instr.index, asIntOf, Sem.run_bind, Sem.run_pure, Result.andThen_ok, run_underlying Try.underlying24, arr, if_pos hI, Try.sizeOf3, Nat.mul_one, Int.toNat_natCast, part, Try.isAgg3, Bool.false_eq_true, if_false, h2]
/-- A number into an array's variable. -/
theorem store3 (hw : Region.wanted o (yielded ops a.tmps) = true) (x y : Operand) (ho : o.op = .store 3 x y) (g i : Nat) (hx : a.eval x = .pointer (some ⟨g, i, none⟩)) (v : Int) (hy : a.eval y = .int .i64 v) (old : List Int) (hg : HoldsA w g old) (hi : i < 26)
    (h : ∀ w', HoldsA w' g (old.set i v) → w.grownBy w' (some g) → wpList Try.prog ops Q rest (a.put o.dst undef) w') : wpList Try.prog ops Q (o :: rest) a w := by
  have e : w.setCell ⟨g, i, none⟩ (.int .i64 v) = w.setRow g (ints (old.set i v)).toArray := by
    rw [setCell_eq_setRow w g i _ 24 (0, 0) _ hg.2]
    congr 1
    unfold ints
    rw [List.map_set]
    simp
  have hl : (old.set i v).length = 26 := by rw [List.length_set]; exact hg.1
  have hc := hg.cell i hi
  have hf := frozen_of_row w g i _ 24 hg.2
  refine wpList_step fun K hK => ?_
  rw [if_pos hw]
  have hr : (execOp a.eval o).run Try.prog w = .ok .skip (w.setRow g (ints (old.set i v)).toArray) := by
    rw [← e]
    unfold execOp
    simp only [ho, hx, hy]
    go_simp
  unfold Oper.wp
  simp only [hr]
  exact hK _ _ (h _ (holds_setRow hg hl).1 (holds_setRow hg hl).2)
theorem run_items (w : World) (ms : List Int) (hl : ms.length = 26) : ∀ (is : List Nat), (∀ i ∈ is, i < 26) → (Op.eqItems 9999 3 1 (ints ms).toArray (ints ms).toArray is).run Try.prog w = .ok true w
  | [], _ => by simp [Op.eqItems]
  | i :: is, h => by
    have hi := h i (List.mem_cons_self ..)
    have h2 : (ints ms).toArray[i * 1]? = some (.int .i64 (ms.getD i 0)) := by
      unfold ints
      simp [List.getD_eq_getElem?_getD, show i < ms.length by omega]
    have hp : (part 3 (ints ms).toArray (i * 1)).run Try.prog w = .ok (.int .i64 (ms.getD i 0)) w := by
      simp only [part, Sem.run_bind, Try.isAgg3, Result.andThen_ok, Bool.false_eq_true, if_false, h2, Sem.run_pure]
    have he : (Op.equalIn 9999 3 (.int .i64 (ms.getD i 0)) (.int .i64 (ms.getD i 0))).run Try.prog w = .ok true w := by
      rw [run_equalIn_int w 9998 3 .i64 .i64 _ _ Try.underlying3, beq_self_eq_true]
    have ih := run_items w ms hl is fun k hk => h k (List.mem_cons_of_mem _ hk)
    simp only [Op.eqItems, Sem.run_bind, hp, he, Result.andThen_ok, Bool.not_true, Bool.false_eq_true, if_false]
    exact ih
/-- An array is itself. -/
theorem run_equal24 (w : World) (ms : List Int) (hl : ms.length = 26) : (Op.equalIn 10000 24 (arr ms) (arr ms)).run Try.prog w = .ok true w := by
  obtain ⟨i0, hi, _⟩ := info_parts info3
  have e : Try.prog.cellsOf 3 = 1 := by kernel_rfl
  unfold arr
  rw [run_equalIn_array w 9999 (ints ms).toArray (ints ms).toArray Try.underlying24 hi, e]
  exact run_items w ms hl _ fun i h => List.mem_range.1 h
theorem eql24 (hw : Region.wanted o (yielded ops a.tmps) = true) (x y : Operand) (t : TypeId) (ho : o.op = .binOp .eql 24 x y t) (ms : List Int) (hx : a.eval x = arr ms) (hy : a.eval y = arr ms) (hl : ms.length = 26)
    (h : wpList Try.prog ops Q rest (a.put o.dst (.bool true)) w) : wpList Try.prog ops Q (o :: rest) a w := by
  refine wpList_value hw (.bool true) w ?_ h
  have h1 := run_eqGuard_agg (P := Try.prog) w .eql 24 x y (ints ms).toArray (ints ms).toArray (by kernel_rfl)
  have h2 := run_eql_struct (P := Try.prog) w 24 (ints ms).toArray (ints ms).toArray
  have h3 := run_equal24 w ms hl
  unfold arr at h3 hx hy
  unfold execOp
  simp only [ho, hx, hy, Sem.run_bind, h1, h2, h3, Result.andThen_ok, Sem.run_pure]
theorem neq24 (hw : Region.wanted o (yielded ops a.tmps) = true) (x y : Operand) (t : TypeId) (ho : o.op = .binOp .neq 24 x y t) (ms : List Int) (hx : a.eval x = arr ms) (hy : a.eval y = arr ms) (hl : ms.length = 26)
    (h : wpList Try.prog ops Q rest (a.put o.dst (.bool false)) w) : wpList Try.prog ops Q (o :: rest) a w := by
  refine wpList_value hw (.bool false) w ?_ h
  have h1 := run_eqGuard_agg (P := Try.prog) w .neq 24 x y (ints ms).toArray (ints ms).toArray (by kernel_rfl)
  have h2 := run_neq_struct (P := Try.prog) w 24 (ints ms).toArray (ints ms).toArray
  have h3 := run_equal24 w ms hl
  unfold arr at h3 hx hy
  unfold execOp
  simp only [ho, hx, hy, Sem.run_bind, h1, h2, h3, Result.andThen_ok, Sem.run_pure]
  rfl
end
end Go.Proofs.Yteggadicomighaa.Seek
