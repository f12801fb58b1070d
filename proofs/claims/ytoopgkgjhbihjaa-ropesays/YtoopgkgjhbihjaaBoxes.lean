/- Boxes of variables, and trees beside them. -/
import Derived.Test.YtoopgkgjhbihjaaTreeGo
import Derived.RangeFuncBox
set_option linter.unusedVariables false
set_option linter.unusedSimpArgs false
namespace Go.Proofs.Ytoopgkgjhbihjaa.Seek
open Go.RowKit

theorem treeF_keep {w w' : World} {B : Nat} (hk : ∀ b x, w.cell? ⟨b, 3, none⟩ = some x → ∀ o, w'.cell? ⟨b, o, none⟩ = w.cell? ⟨b, o, none⟩) : ∀ (n : Nat) (p : Option Addr) (zs : List Int), TreeF w B n p zs → TreeF w' B n p zs
  | 0, _, _, h => h
  | n + 1, p, zs, h => by
    rcases h with h | ⟨hz, b, pl, pr, hp, hlt, c0, c1, c2, c3, hl, hr⟩
    · exact .inl h
    · exact .inr ⟨hz, b, pl, pr, hp, hlt, (hk b _ c3 0).trans c0, (hk b _ c3 1).trans c1, (hk b _ c3 2).trans c2, (hk b _ c3 3).trans c3, treeF_keep hk n _ _ hl, treeF_keep hk n _ _ hr⟩
theorem boxed_three {w : World} {b : Nat} {t : TypeId} {v : Value} (h : Boxed w b t v) : w.cell? ⟨b, 3, none⟩ = none := by
  unfold World.cell?
  simp only
  rw [show w.heap[b]? = _ from h]
  rfl
/-- A store into a box leaves trees alone. -/
theorem Tree.set {w : World} {B bx : Nat} {t : TypeId} {v : Value} {p : Option Addr} {zs : List Int} (h : Tree w B p zs) (hb : Boxed w bx t v) (v' : Value) : Tree (w.setCell ⟨bx, 0, none⟩ v') B p zs := by
  obtain ⟨n, h⟩ := h
  refine ⟨n, treeF_keep (fun b x hx o => ?_) n _ _ h⟩
  have hne : b ≠ bx := by
    rintro rfl
    rw [boxed_three hb] at hx
    cases hx
  exact World.cell?_of_block (w := w) (Below.heap_setCell _ _ _ b (fun e => hne e))
theorem boxed_below {w w' : World} {b n : Nat} {t : TypeId} {v : Value} (h : Boxed w b t v) (hb : Below n w w') (hlt : b < n) : Boxed w' b t v := (hb.block b hlt).trans h
theorem boxed_size {w w' : World} {b : Nat} {t : TypeId} {v : Value} (h : Boxed w b t v) (hb : Below w.heap.size w w') : Boxed w' b t v := boxed_below h hb h.lt
/-- A variable's box that was laid ahead of a call. -/
theorem boxed_new {w w1 : World} {t : TypeId} {v : Value} (hb : Below (w.alloc (.cells #[v] t)).heap.size (w.alloc (.cells #[v] t)) w1) : Boxed w1 w.heap.size t v := boxed_size (Boxed.new w t v) hb
theorem size_set (w : World) (p : Addr) (v : Value) : (w.setCell p v).heap.size = w.heap.size := by
  show (w.heap.modify _ _).size = _
  exact Array.size_modify
theorem size_alloc (w : World) (o : Obj) : (w.alloc o).heap.size = w.heap.size + 1 := by
  show (w.heap.push o).size = _
  simp
theorem below_alloc (w : World) (o : Obj) : Below w.heap.size w (w.alloc o) := (Below.refl _ _).alloc (Nat.le_refl _) _
theorem tree_alloc {w : World} {p : Option Addr} {zs : List Int} (h : Tree w w.heap.size p zs) (o : Obj) : Tree (w.alloc o) (w.alloc o).heap.size p zs := (h.below (below_alloc w o)).more (by rw [size_alloc]; omega)
theorem tree_next {w w' : World} {p : Option Addr} {zs : List Int} (h : Tree w w.heap.size p zs) (hb : Below w.heap.size w w') : Tree w' w'.heap.size p zs := (h.below hb).more hb.size
theorem tree_set {w : World} {bx : Nat} {t : TypeId} {v : Value} {p : Option Addr} {zs : List Int} (h : Tree w w.heap.size p zs) (hb : Boxed w bx t v) (v' : Value) : Tree (w.setCell ⟨bx, 0, none⟩ v') (w.setCell ⟨bx, 0, none⟩ v').heap.size p zs := by
  rw [size_set]
  exact h.set hb v'
end Go.Proofs.Ytoopgkgjhbihjaa.Seek
