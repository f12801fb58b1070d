/- Parts of slices that can be read; literals. -/
import Derived.Test.YtjpgjhdkgmddfaaBase
set_option linter.unusedVariables false
set_option linter.unusedSimpArgs false
namespace Go.Proofs.Ytjpgjhdkgmddfaa.Seek
open Go.RowKit

/-- A part of a slice. -/
theorem reads_part {w : World} {b off : Nat} {zs : List Int} (h : ∀ j, j < zs.length → w.cell? ⟨b, off + j, none⟩ = some (.int .i64 (zs.getD j 0))) (hb : b < w.heap.size)
    (i n c : Nat) (hin : i + n ≤ zs.length) (hc : n ≤ c) (hm : c ≤ maxLen) : Reads w (.slice (some ⟨b, off + i, none⟩) n c) ((zs.drop i).take n) := by
  have hl : ((zs.drop i).take n).length = n := by rw [List.length_take, List.length_drop]; omega
  refine .inr ⟨b, off + i, c, by rw [hl], by rw [hl]; exact hc, hm, hb, fun j hj => ?_⟩
  rw [hl] at hj
  have := h (i + j) (by omega)
  rw [Nat.add_assoc, this]
  simp [List.getD_eq_getElem?_getD, List.getElem?_take, hj, List.getElem?_drop]
/-- A literal list in new memory. -/
theorem reads_new (w : World) (zs : List Int) (h : zs.length ≤ maxLen) : Reads (w.alloc (.cells (ints zs).toArray 3)) (.slice (some ⟨w.heap.size, 0, none⟩) zs.length zs.length) zs := by
  refine .inr ⟨w.heap.size, 0, zs.length, rfl, Nat.le_refl _, h, by show w.heap.size < (w.heap.push _).size; simp, fun j hj => ?_⟩
  rw [Nat.zero_add]
  unfold World.cell?
  simp only
  rw [show ∀ o, (w.alloc o).heap[w.heap.size]? = some o from fun o => by show (w.heap.push o)[w.heap.size]? = _; simp]
  unfold ints
  simp [hj]
end Go.Proofs.Ytjpgjhdkgmddfaa.Seek
