/- The library's Equal of slices that can be read; parts; literals. -/
import Derived.Test.YtpgjaoemkadenabM01
import Derived.Test.YtpgjaoemkadenabM03
set_option linter.unusedVariables false
set_option linter.unusedSimpArgs false
set_option maxRecDepth 100000
namespace Go.Proofs.Ytpgjaoemkadenab.Seek
open Go.RowKit

theorem equal_any (v1 v2 : Value) (xs ys : List Int) (w : World) (h1 : Reads w v1 xs) (h2 : Reads w v2 ys) (hx : xs.length ≤ maxLen) (hy : ys.length ≤ maxLen) :
    Calls Try.prog 7 #[v1, v2] w fun e w' => e = .returned (.bool (xs == ys)) ∧ ∃ q, w' = w.drewN q := by
  unfold maxLen at hx hy
  by_cases hl : xs.length = ys.length
  · rcases h1 with ⟨a1, c1, rfl, rfl⟩ | ⟨b1, o1, c1, rfl, _, _, _, hc1⟩
    · obtain rfl := List.length_eq_zero_iff.1 hl.symm
      obtain ⟨a2, c2, rfl⟩ := h2.shape
      refine (Try.slices_Equal_int_empty a1 a2 c1 0 c2 w (by decide)).mono ?_
      rintro e w' ⟨rfl, rfl⟩
      exact ⟨rfl, 0, rfl⟩
    · rcases h2 with ⟨a2, c2, rfl, rfl⟩ | ⟨b2, o2, c2, rfl, _, _, _, hc2⟩
      · obtain rfl := List.length_eq_zero_iff.1 hl
        refine (Try.slices_Equal_int_empty _ a2 c1 0 c2 w (by decide)).mono ?_
        rintro e w' ⟨rfl, rfl⟩
        exact ⟨rfl, 0, rfl⟩
      · refine (Try.slices_Equal_int b1 o1 xs.length c1 b2 o2 ys.length c2 xs ys w (Nat.le_refl _) (Nat.le_refl _) hx hy hc1 hc2).mono ?_
        rintro e w' ⟨rfl, hq⟩
        exact ⟨by rw [List.take_length, List.take_length], hq⟩
  · obtain ⟨a1, c1, rfl⟩ := h1.shape
    obtain ⟨a2, c2, rfl⟩ := h2.shape
    refine (Try.slices_Equal_int_lens a1 a2 xs.length c1 ys.length c2 w hl).mono ?_
    rintro e w' ⟨rfl, rfl⟩
    refine ⟨?_, 0, rfl⟩
    rw [show (xs == ys) = false from by simp only [beq_eq_false_iff_ne]; intro h; exact hl (by rw [h])]

/-- A part of a slice. -/
theorem reads_part {w : World} {b off : Nat} {zs : List Int} (h : ∀ j, j < zs.length → w.cell? ⟨b, off + j, none⟩ = some (.int .i64 (zs.getD j 0))) (hb : b < w.heap.size)
    (i n c : Nat) (hin : i + n ≤ zs.length) (hc : n ≤ c) (hm : c ≤ maxLen) : Reads w (.slice (some ⟨b, off + i, none⟩) n c) ((zs.drop i).take n) := by
  have hl : ((zs.drop i).take n).length = n := by rw [List.length_take, List.length_drop]; omega
  refine .inr ⟨b, off + i, c, by rw [hl], by rw [hl]; exact hc, hm, hb, fun j hj => ?_⟩
  rw [hl] at hj
  have := h (i + j) (by omega)
  rw [Nat.add_assoc, this]
  simp [List.getD_eq_getElem?_getD, List.getElem?_take, hj, List.getElem?_drop]
/-- A literal list in new memory. -/
theorem reads_new (w : World) (zs : List Int) (h : zs.length ≤ maxLen) : Reads (w.alloc (.cells (ints zs).toArray 3)) (.slice (some ⟨w.heap.size, 0, none⟩) zs.length zs.length) zs := by
  refine .inr ⟨w.heap.size, 0, zs.length, rfl, Nat.le_refl _, h, by show w.heap.size < (w.heap.push _).size; simp, fun j hj => ?_⟩
  rw [Nat.zero_add]
  unfold World.cell?
  simp only
  rw [show ∀ o, (w.alloc o).heap[w.heap.size]? = some o from fun o => by show (w.heap.push o)[w.heap.size]? = _; simp]
  unfold ints
  simp [hj]
end Go.Proofs.Ytpgjaoemkadenab.Seek
