/- The contract of Split. -/
import Derived.Test.YtoopgkgjhbihjaaListAll
import Derived.Deep.RegionWith
set_option linter.unusedVariables false
set_option linter.unusedSimpArgs false
namespace Go.Proofs.Ytoopgkgjhbihjaa.Seek
open Go.RowKit

theorem box_first (w : World) (v1 v2 : Value) (t1 t2 : TypeId) : Boxed ((w.alloc (.cells #[v1] t1)).alloc (.cells #[v2] t2)) w.heap.size t1 v1 := (Boxed.new w t1 v1).alloc _
theorem box_second (w : World) (v1 v2 : Value) (t1 t2 : TypeId) : Boxed ((w.alloc (.cells #[v1] t1)).alloc (.cells #[v2] t2)) (w.heap.size + 1) t2 v2 := by
  have := Boxed.new (w.alloc (.cells #[v1] t1)) t2 v2
  rw [size_alloc] at this
  exact this
theorem box_third (w : World) (v1 v2 v3 : Value) (t1 t2 t3 : TypeId) : Boxed (((w.alloc (.cells #[v1] t1)).alloc (.cells #[v2] t2)).alloc (.cells #[v3] t3)) (w.heap.size + 1 + 1) t3 v3 := by
  have := Boxed.new ((w.alloc (.cells #[v1] t1)).alloc (.cells #[v2] t2)) t3 v3
  rw [size_alloc, size_alloc] at this
  exact this

/-- What a part of a list's slice holds. -/
theorem part_left {w : World} {g cap : Nat} {zs : List Int} (h : ∀ j, j < zs.length → w.cell? ⟨g, 0 + j, none⟩ = some (.int .i64 (zs.getD j 0))) (hg : g < w.heap.size) (hcap : zs.length ≤ cap) (hcm : cap ≤ 4096) (k : Nat) (hk : k ≤ zs.length) :
    Reads w (.slice (some ⟨g, 0, none⟩) k cap) (zs.take k) := by
  have := reads_part h hg 0 k cap (by omega) (by omega) (by unfold maxLen; omega)
  rw [List.drop_zero] at this
  exact this
theorem part_right {w : World} {g cap : Nat} {zs : List Int} (h : ∀ j, j < zs.length → w.cell? ⟨g, 0 + j, none⟩ = some (.int .i64 (zs.getD j 0))) (hg : g < w.heap.size) (hcap : zs.length ≤ cap) (hcm : cap ≤ 4096) (k : Nat) (hk : k ≤ zs.length) :
    ∃ A : Addr, (if cap = k then some (⟨g, 0, none⟩ : Addr) else some ⟨g, k, none⟩) = some A ∧ Reads w (.slice (some A) (zs.length - k) (cap - k)) (zs.drop k) := by
  by_cases hce : cap = k
  · rw [if_pos hce]
    refine ⟨_, rfl, .inl ⟨some ⟨g, 0, none⟩, cap - k, ?_, ?_⟩⟩
    · rw [show zs.length - k = 0 by omega]
    · rw [List.drop_eq_nil_iff]
      omega
  · rw [if_neg hce]
    refine ⟨_, rfl, ?_⟩
    have := reads_part h hg k (zs.length - k) (cap - k) (by omega) (by omega) (by unfold maxLen; omega)
    rw [List.take_of_length_le (by rw [List.length_drop]; omega), Nat.zero_add] at this
    exact this

/-- Two ropes and an error. -/
def TwoErr (xs ys : List Int) (er : Int) (w : World) (e : Ending) (w' : World) : Prop := Below w.heap.size w w' ∧ ∃ p q, e = .returned (.tuple #[.agg #[.pointer p], .agg #[.pointer q], .int .i64 er]) ∧ Tree w' w'.heap.size p xs ∧ Tree w' w'.heap.size q ys
set_option maxRecDepth 100000 in
set_option maxHeartbeats 1600000 in
theorem split_in (p : Option Addr) (zs : List Int) (k : Nat) (w : World) (hm : zs.length ≤ 4096) (hk : k ≤ zs.length) (h : Tree w w.heap.size p zs) :
    Calls Try.prog 14 #[.agg #[.pointer p], .int .i64 (k : Int)] w fun e w' => TwoErr (zs.take k) (zs.drop k) 0 w e w' := by
  have Ht : Hid (Tree w w.heap.size p zs) := h
  clear h
  go_enter Try.func14, Try.ntmps14
  go_wp2_with fail
  obtain ⟨W0, hW0⟩ : ∃ W0, W0 = ((w.alloc (.cells #[Value.pointer p] 25)).alloc (.cells #[Value.pointer none] 25)).alloc (.cells #[Value.pointer none] 25) := ⟨_, rfl⟩
  rw [← hW0]
  have hx0 : Boxed W0 w.heap.size 25 (.pointer p) := by rw [hW0]; exact (box_first _ _ _ _ _).alloc _
  have hx1 : Boxed W0 (w.heap.size + 1) 25 (.pointer none) := by rw [hW0]; exact (box_second _ _ _ _ _).alloc _
  have hx2 : Boxed W0 (w.heap.size + 1 + 1) 25 (.pointer none) := by rw [hW0]; exact box_third _ _ _ _ _ _ _
  have hB0 : Below w.heap.size w W0 := by rw [hW0]; exact ((below_alloc _ _).alloc (by rw [size_alloc]; omega) _).alloc (by rw [size_alloc, size_alloc]; omega) _
  clear hW0
  refine (len_any p zs W0 (tree_next Ht.out hB0)).mono ?_
  rintro e w1 ⟨rfl, hw1⟩
  have hb1 : Below W0.heap.size W0 w1 := by rw [hw1]; exact below_alloc _ _
  clear hw1
  replace hx0 := boxed_size hx0 hb1
  replace hx1 := boxed_size hx1 hb1
  replace hx2 := boxed_size hx2 hb1
  have hB1 := below_trans hB0 hb1 hB0.size
  clear hB0 hb1
  have hc0 := hx0.cell
  go_wp2_with fail
  refine (list_any p zs w1 hm (tree_next Ht.out hB1)).mono ?_
  rintro e w2 ⟨hb2, g, cap, rfl, hcap, hcm, hgw, hown⟩
  obtain ⟨hg2, hcells⟩ := ListPost.reads (w := w1) hown
  have hpl := part_left hcells hg2 hcap hcm k hk
  obtain ⟨A, hA, hpr⟩ := part_right hcells hg2 hcap hcm k hk
  have H1 : Hid (∀ w3, Below w2.heap.size w2 w3 → Calls Try.prog 24 #[.slice (some ⟨g, 0, none⟩) k cap] w3 fun e w' => RopePost (zs.take k) w3 e w') := fun w3 hb3 => lay_any _ _ w3 (by rw [List.length_take]; omega) (hpl.below hb3)
  have H2 : Hid (∀ w3, Below w2.heap.size w2 w3 → Calls Try.prog 24 #[.slice (some A) (zs.length - k) (cap - k)] w3 fun e w' => RopePost (zs.drop k) w3 e w') := fun w3 hb3 => lay_any _ _ w3 (by rw [List.length_drop]; omega) (hpr.below hb3)
  replace hx1 := boxed_size hx1 hb2
  replace hx2 := boxed_size hx2 hb2
  have hB2 := below_trans hB1 hb2 hB1.size
  clear hpl hpr hcells hown hx0 hc0 hb2 hB1 Ht
  have Hx1 : Hid _ := hx1
  have Hx2 : Hid _ := hx2
  clear hx1 hx2
  generalize zs.length = n at *
  have hi1 : (k : Int) ≤ (n : Int) := by omega
  have hi4 : (0 : Int) ≤ (k : Int) := by omega
  have hi5 : k ≤ cap := by omega
  have hi8 : (k : Int) ≤ (cap : Int) := by omega
  have hi9 : (n : Int) ≤ (cap : Int) := by omega
  go_wp2_with fail
  go_region_with (first
    | (go_at_call_of 24 (A); refine (H2.out _ ?_).mono ?_; (exact hB3); rintro e w4 ⟨hb4, pb, rfl, ht4⟩; have hB4 : Below w2.heap.size w2 w4 := below_trans hB3 hb4 hB3.size; have hy1 := boxed_size (boxed_size Hx1.out hB3) hb4; have hy2 := boxed_size (boxed_size Hx2.out hB3) hb4; have hd1 := hy1.cell; have hd2 := hy2.cell; have hf1 := hy1.frozen; have hf2 := hy2.frozen; have ht3' := tree_next ht3 hb4)
    | (go_at_call 24; refine (H1.out _ ?_).mono ?_; (exact (Below.refl _ _).drew); rintro e w3 ⟨hb3, pa, rfl, ht3⟩; have hB3 : Below w2.heap.size w2 w3 := below_trans ((Below.refl _ _).drew) hb3 (by exact Nat.le_refl _)))
  have z1 : Boxed (w4.setCell ⟨w.heap.size + 1, 0, none⟩ (.pointer pa)) (w.heap.size + 1) 25 (.pointer pa) := hy1.set _
  have z2 : Boxed (w4.setCell ⟨w.heap.size + 1, 0, none⟩ (.pointer pa)) (w.heap.size + 1 + 1) 25 (.pointer none) := hy2.kept (grownBy_setCell' _ _ _) (by simp)
  have y1 : Boxed ((w4.setCell ⟨w.heap.size + 1, 0, none⟩ (.pointer pa)).setCell ⟨w.heap.size + 1 + 1, 0, none⟩ (.pointer pb)) (w.heap.size + 1) 25 (.pointer pa) := z1.kept (grownBy_setCell' _ _ _) (by simp)
  have y2 : Boxed ((w4.setCell ⟨w.heap.size + 1, 0, none⟩ (.pointer pa)).setCell ⟨w.heap.size + 1 + 1, 0, none⟩ (.pointer pb)) (w.heap.size + 1 + 1) 25 (.pointer pb) := z2.set _
  have r1 := y1.cell
  have r2 := y2.cell
  have HF : Hid (TwoErr (zs.take k) (zs.drop k) 0 w (.returned (.tuple #[.agg #[.pointer pa], .agg #[.pointer pb], .int .i64 0])) ((w4.setCell ⟨w.heap.size + 1, 0, none⟩ (.pointer pa)).setCell ⟨w.heap.size + 1 + 1, 0, none⟩ (.pointer pb))) :=
    ⟨((below_trans hB2 hB4 hB2.size).setCell (p := ⟨w.heap.size + 1, 0, none⟩) (by show _ ≤ w.heap.size + 1; omega) _).setCell (p := ⟨w.heap.size + 1 + 1, 0, none⟩) (by show _ ≤ w.heap.size + 1 + 1; omega) _, pa, pb, rfl, tree_set (tree_set ht3' hy1 _) z2 _, tree_set (tree_set ht4 hy1 _) z2 _⟩
  clear hd1 hd2 hf1 hf2 hy1 hy2 ht3 ht3' ht4 z1 z2 y1 y2 hb4 hb3 hB3 hB4
  go_simp
  go_wp2_with fail
  exact bodyPost_ret (v := .tuple #[.agg #[.pointer pa], .agg #[.pointer pb], .int .i64 0]) (by simp [results, Try.results14, go_sem, r1, r2]) rfl HF.out

theorem split_out (p : Option Addr) (zs : List Int) (k : Int) (w : World) (hk : k < 0 ∨ (zs.length : Int) < k) (h : Tree w w.heap.size p zs) :
    Calls Try.prog 14 #[.agg #[.pointer p], .int .i64 k] w fun e w' => TwoErr [] [] 1 w e w' := by
  have Ht : Hid (Tree w w.heap.size p zs) := h
  clear h
  by_cases h0 : k < 0
  · go_enter Try.func14, Try.ntmps14
    go_wp2_with fail
    refine bodyPost_ret (v := .tuple #[.agg #[.pointer none], .agg #[.pointer none], .int .i64 1]) (by simp [results, Try.results14, go_sem]) rfl ⟨?_, none, none, rfl, tree_none _ _, tree_none _ _⟩
    exact ((below_alloc _ _).alloc (by rw [size_alloc]; omega) _).alloc (by rw [size_alloc, size_alloc]; omega) _
  · have h1 : (zs.length : Int) < k := by omega
    clear hk
    have hB0 : Below w.heap.size w (((w.alloc (.cells #[Value.pointer p] 25)).alloc (.cells #[Value.pointer none] 25)).alloc (.cells #[Value.pointer none] 25)) := ((below_alloc _ _).alloc (by rw [size_alloc]; omega) _).alloc (by rw [size_alloc, size_alloc]; omega) _
    have hB1 : Below w.heap.size w ((((w.alloc (.cells #[Value.pointer p] 25)).alloc (.cells #[Value.pointer none] 25)).alloc (.cells #[Value.pointer none] 25)).alloc (.cells #[Value.pointer p] 25)) := hB0.alloc hB0.size _
    go_enter Try.func14, Try.ntmps14
    go_wp2_with fail
    refine (len_any p zs _ (tree_next Ht.out hB0)).mono ?_
    rintro e w1 ⟨rfl, rfl⟩
    go_wp2_with fail
    exact bodyPost_ret (v := .tuple #[.agg #[.pointer none], .agg #[.pointer none], .int .i64 1]) (by simp [results, Try.results14, go_sem]) rfl ⟨hB1, none, none, rfl, tree_none _ _, tree_none _ _⟩
end Go.Proofs.Ytoopgkgjhbihjaa.Seek
