/- The variables of the document's Take. -/
import Derived.Test.YtjpgjhdkgmddfaaDoorRefParts
set_option linter.unusedVariables false
set_option linter.unusedSimpArgs false
namespace Go.Proofs.YtjpgjhdkgmddfaaDoor.Seek
open Go.RowKit Plain

/-- The variables of the document's Take: those of a call, and q. -/
def Ent (w0 w : World) (p q : Five) : Prop := Enter w0 w p w0.heap.size (w0.heap.size + 1) (w0.heap.size + 1 + 1) ∧ BoxF w 27 (w0.heap.size + 1 + 1 + 1) q
theorem Ent.below {w0 w w' : World} {p q : Five} (h : Ent w0 w p q) (hb : Below w.heap.size w w') : Ent w0 w' p q := ⟨h.1.below hb, h.2.below hb⟩
theorem ent_is (w : World) (p : Five) : Ent w ((((w.alloc (.cells (row5 p) 27)).alloc (.cells (row5 zer) 27)).alloc (.cells (row5 zer) 24)).alloc (.cells (row5 p) 27)) p p := by
  have h := BoxF.new (((w.alloc (.cells (row5 p) 27)).alloc (.cells (row5 zer) 27)).alloc (.cells (row5 zer) 24)) 27 p
  rw [size_alloc, size_alloc, size_alloc] at h
  exact ⟨(enter_new w p).below (box_below _ _), h⟩
theorem Enter.far {w0 w : World} {p : Five} (h : Enter w0 w p w0.heap.size (w0.heap.size + 1) (w0.heap.size + 1 + 1)) (x : Addr) (v : Value) (hx : w0.heap.size + 1 + 1 < x.block) (hle : w0.heap.size ≤ w0.heap.size) :
    Enter w0 (w.setCell x v) p w0.heap.size (w0.heap.size + 1) (w0.heap.size + 1 + 1) :=
  ⟨h.1.far x v (by omega), h.2.1.far x v (by omega), h.2.2.1.far x v (by omega), Below.setCell h.2.2.2.1 (by omega) v, h.2.2.2.2.1, h.2.2.2.2.2⟩

end Go.Proofs.YtjpgjhdkgmddfaaDoor.Seek
