/- The contracts of Slice and Put. -/
import Derived.Test.YtoopgkgjhbihjaaSplitGo
set_option linter.unusedVariables false
set_option linter.unusedSimpArgs false
namespace Go.Proofs.Ytoopgkgjhbihjaa.Seek
open Go.RowKit

/-- What a part of a list's slice holds, from f up to t. -/
theorem part_mid {w : World} {g cap : Nat} {zs : List Int} (h : ∀ j, j < zs.length → w.cell? ⟨g, 0 + j, none⟩ = some (.int .i64 (zs.getD j 0))) (hg : g < w.heap.size) (hcap : zs.length ≤ cap) (hcm : cap ≤ 4096) (f t : Nat) (hf : f ≤ t) (ht : t ≤ zs.length) :
    ∃ A : Addr, (if cap = f then some (⟨g, 0, none⟩ : Addr) else some ⟨g, f, none⟩) = some A ∧ Reads w (.slice (some A) (t - f) (cap - f)) ((zs.drop f).take (t - f)) := by
  by_cases hce : cap = f
  · rw [if_pos hce]
    refine ⟨_, rfl, .inl ⟨some ⟨g, 0, none⟩, cap - f, ?_, ?_⟩⟩
    · rw [show t - f = 0 by omega]
    · rw [show t - f = 0 by omega, List.take_zero]
  · rw [if_neg hce]
    refine ⟨_, rfl, ?_⟩
    have := reads_part h hg f (t - f) (cap - f) (by omega) (by omega) (by unfold maxLen; omega)
    rw [Nat.zero_add] at this
    exact this

set_option maxHeartbeats 1600000 in
theorem slice_in (p : Option Addr) (zs : List Int) (f t : Nat) (w : World) (hm : zs.length ≤ 4096) (hf : f ≤ t) (ht : t ≤ zs.length) (h : Tree w w.heap.size p zs) :
    Calls Try.prog 17 #[.agg #[.pointer p], .int .i64 (f : Int), .int .i64 (t : Int)] w fun e w' => RopeErr ((zs.drop f).take (t - f)) 0 w e w' := by
  have Ht : Hid (Tree w w.heap.size p zs) := h
  clear h
  go_enter Try.func17, Try.ntmps17
  go_wp2_with fail
  obtain ⟨W0, hW0⟩ : ∃ W0, W0 = (w.alloc (.cells #[Value.pointer p] 25)).alloc (.cells #[Value.pointer none] 25) := ⟨_, rfl⟩
  rw [← hW0]
  have hx0 : Boxed W0 w.heap.size 25 (.pointer p) := by rw [hW0]; exact box_first _ _ _ _ _
  have hx1 : Boxed W0 (w.heap.size + 1) 25 (.pointer none) := by rw [hW0]; exact box_second _ _ _ _ _
  have hB0 : Below w.heap.size w W0 := by rw [hW0]; exact (below_alloc _ _).alloc (by rw [size_alloc]; omega) _
  clear hW0
  have hh : hasB (f : Int) (t : Int) zs.length = true := by unfold hasB; simp; omega
  refine (has_any p zs f t W0 (tree_next Ht.out hB0)).mono ?_
  rintro e w1 ⟨rfl, hb1⟩
  rw [hh]
  clear hh
  replace hx0 := boxed_size hx0 hb1
  replace hx1 := boxed_size hx1 hb1
  have hB1 := below_trans hB0 hb1 hB0.size
  clear hB0 hb1
  have hc0 := hx0.cell
  go_wp2_with fail
  refine (list_any p zs w1 hm (tree_next Ht.out hB1)).mono ?_
  rintro e w2 ⟨hb2, g, cap, rfl, hcap, hcm, hgw, hown⟩
  obtain ⟨hg2, hcells⟩ := ListPost.reads (w := w1) hown
  obtain ⟨A, hA, hpr⟩ := part_mid hcells hg2 hcap hcm f t hf ht
  have H2 : Hid (Calls Try.prog 24 #[.slice (some A) (t - f) (cap - f)] w2 fun e w' => RopePost ((zs.drop f).take (t - f)) w2 e w') := lay_any _ _ w2 (by rw [List.length_take]; omega) hpr
  replace hx1 := boxed_size hx1 hb2
  have hB2 := below_trans hB1 hb2 hB1.size
  clear hpr hcells hown hx0 hc0 hb2 hB1 Ht
  generalize zs.length = n at *
  have hi1 : (f : Int) ≤ (t : Int) := by omega
  have hi2 : (t : Int) ≤ (n : Int) := by omega
  have hi3 : (t : Int) ≤ (cap : Int) := by omega
  have hi5 : f ≤ cap := by omega
  have hi6 : t ≤ cap := by omega
  go_wp2_with fail
  refine Calls.mono H2.out ?_
  rintro e w3 ⟨hb3, q, rfl, ht3⟩
  replace hx1 := boxed_size hx1 hb3
  have hc1 := hx1.cell
  have hf1 := hx1.frozen
  have hB3 := below_trans hB2 hb3 hB2.size
  have hx2 := hx1.set (.pointer q)
  have hc2 := hx2.cell
  have HF : Hid (RopeErr ((zs.drop f).take (t - f)) 0 w (.returned (.tuple #[.agg #[.pointer q], .int .i64 0])) (w3.setCell ⟨w.heap.size + 1, 0, none⟩ (.pointer q))) := ⟨hB3.setCell (p := ⟨w.heap.size + 1, 0, none⟩) (by show _ ≤ w.heap.size + 1; omega) _, q, rfl, tree_set ht3 hx1 _⟩
  clear hx1 hx2 ht3 hb3 hB3 hB2 H2 hA
  go_wp2_with fail
  exact bodyPost_ret (v := .tuple #[.agg #[.pointer q], .int .i64 0]) (by simp [results, Try.results17, go_sem, hc2]) rfl HF.out
theorem slice_out (p : Option Addr) (zs : List Int) (f t : Int) (w : World) (hno : hasB f t zs.length = false) (h : Tree w w.heap.size p zs) :
    Calls Try.prog 17 #[.agg #[.pointer p], .int .i64 f, .int .i64 t] w fun e w' => RopeErr [] 1 w e w' := by
  have Ht : Hid (Tree w w.heap.size p zs) := h
  have Hno : Hid (hasB f t zs.length = false) := hno
  clear h hno
  go_enter Try.func17, Try.ntmps17
  go_wp2_with fail
  obtain ⟨W0, hW0⟩ : ∃ W0, W0 = (w.alloc (.cells #[Value.pointer p] 25)).alloc (.cells #[Value.pointer none] 25) := ⟨_, rfl⟩
  rw [← hW0]
  have hx1 : Boxed W0 (w.heap.size + 1) 25 (.pointer none) := by rw [hW0]; exact box_second _ _ _ _ _
  have hB0 : Below w.heap.size w W0 := by rw [hW0]; exact (below_alloc _ _).alloc (by rw [size_alloc]; omega) _
  clear hW0
  refine (has_any p zs f t W0 (tree_next Ht.out hB0)).mono ?_
  rintro e w1 ⟨rfl, hb1⟩
  rw [Hno.out]
  replace hx1 := boxed_size hx1 hb1
  have hB1 := below_trans hB0 hb1 hB0.size
  clear hB0 hb1 Hno Ht
  have hc1 := hx1.cell
  have hf1 := hx1.frozen
  have hx2 := hx1.set (.pointer none)
  have hc2 := hx2.cell
  have HF : Hid (RopeErr [] 1 w (.returned (.tuple #[.agg #[.pointer none], .int .i64 1])) (w1.setCell ⟨w.heap.size + 1, 0, none⟩ (.pointer none))) := ⟨hB1.setCell (p := ⟨w.heap.size + 1, 0, none⟩) (by show _ ≤ w.heap.size + 1; omega) _, none, rfl, tree_none _ _⟩
  clear hx1 hx2 hB1
  go_wp2_with fail
  exact bodyPost_ret (v := .tuple #[.agg #[.pointer none], .int .i64 1]) (by simp [results, Try.results17, go_sem, hc2]) rfl HF.out
end Go.Proofs.Ytoopgkgjhbihjaa.Seek
