/- Whole arrays at a single operation (where it stands behind a guard). -/
import Derived.Test.YteggadicomighaaArrays
set_option linter.unusedVariables false
set_option linter.unusedSimpArgs false
namespace Go.Proofs.Yteggadicomighaa.Seek
open Go.RowKit Plain
section
variable {w : World} {o : Oper} {a : Act} {K : Act → World → Prop} {Q : Exit → Act → World → Prop}
theorem wp_value (v : Value) (w' : World) (hr : (execOp a.eval o).run Try.prog w = .ok (.value v) w') (h : K (a.put o.dst v) w') : o.wp Try.prog a w K Q := by
  unfold Oper.wp
  simp only [hr]
  exact h
theorem wp_load24 (x : Operand) (ho : o.op = .load 24 x) (g : Nat) (hx : a.eval x = .pointer (some ⟨g, 0, none⟩)) (ms : List Int) (hg : HoldsA w g ms)
    (h : K (a.put o.dst (arr ms)) w) : o.wp Try.prog a w K Q :=
  wp_load_row 24 x ho g hx 24 _ (0, 0) _ hg.2 Try.underlying24 rfl (size24 ms hg.1) h
theorem wp_build24 (ho : o.op = .build 24 #[]) (h : K (a.put o.dst (arr zeros)) w) : o.wp Try.prog a w K Q := by
  refine wp_value (arr zeros) w ?_ h
  unfold execOp
  have := run_build (P := Try.prog) w 24 #[] (ints zeros).toArray (by kernel_rfl)
  simp only [ho, List.map_toArray, List.map_nil, Sem.run_bind, this, Result.andThen_ok, Sem.run_pure]
  rfl
theorem wp_eql24 (x y : Operand) (t : TypeId) (ho : o.op = .binOp .eql 24 x y t) (ms : List Int) (hx : a.eval x = arr ms) (hy : a.eval y = arr ms) (hl : ms.length = 26)
    (h : K (a.put o.dst (.bool true)) w) : o.wp Try.prog a w K Q := by
  refine wp_value (.bool true) w ?_ h
  have h1 := run_eqGuard_agg (P := Try.prog) w .eql 24 x y (ints ms).toArray (ints ms).toArray (by kernel_rfl)
  have h2 := run_eql_struct (P := Try.prog) w 24 (ints ms).toArray (ints ms).toArray
  have h3 := run_equal24 w ms hl
  unfold arr at h3 hx hy
  unfold execOp
  simp only [ho, hx, hy, Sem.run_bind, h1, h2, h3, Result.andThen_ok, Sem.run_pure]
theorem wp_neq24 (x y : Operand) (t : TypeId) (ho : o.op = .binOp .neq 24 x y t) (ms : List Int) (hx : a.eval x = arr ms) (hy : a.eval y = arr ms) (hl : ms.length = 26)
    (h : K (a.put o.dst (.bool false)) w) : o.wp Try.prog a w K Q := by
  refine wp_value (.bool false) w ?_ h
  have h1 := run_eqGuard_agg (P := Try.prog) w .neq 24 x y (ints ms).toArray (ints ms).toArray (by kernel_rfl)
  have h2 := run_neq_struct (P := Try.prog) w 24 (ints ms).toArray (ints ms).toArray
  have h3 := run_equal24 w ms hl
  unfold arr at h3 hx hy
  unfold execOp
  simp only [ho, hx, hy, Sem.run_bind, h1, h2, h3, Result.andThen_ok, Sem.run_pure]
  rfl
end
end Go.Proofs.Yteggadicomighaa.Seek
