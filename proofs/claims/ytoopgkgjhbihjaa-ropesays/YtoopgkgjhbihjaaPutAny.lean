/- The contract of Put. -/
import Derived.Test.YtoopgkgjhbihjaaPutGo
import Derived.Deep.Cut
import Derived.Deep.CutRange
import Derived.Deep.DeepCutAuto
set_option linter.unusedVariables false
set_option linter.unusedSimpArgs false
namespace Go.Proofs.Ytoopgkgjhbihjaa.Seek
open Go.RowKit

theorem concat3 (v1 v2 v3 : Value) (x1 x2 x3 : List Int) (w : World) (h1 : Reads w v1 x1) (h2 : Reads w v2 x2) (h3 : Reads w v3 x3) (hb : (x1 ++ x2 ++ x3).length * 8 ≤ 281474976710656) :
    Calls Try.prog 16 #[.slice (some ⟨w.heap.size, 0, none⟩) 3 3] (w.alloc (.cells #[v1, v2, v3] 22)) fun e w' => ConcatPost (x1 ++ x2 ++ x3) (w.alloc (.cells #[v1, v2, v3] 22)) e w' := by
  have hj : joined (fun j => match j with | 0 => x1 | 1 => x2 | _ => x3) 3 = x1 ++ x2 ++ x3 := by simp [joined]
  have := concat_any w.heap.size 3 3 (fun j => match j with | 0 => v1 | 1 => v2 | _ => v3) (fun j => match j with | 0 => x1 | 1 => x2 | _ => x3) (w.alloc (.cells #[v1, v2, v3] 22)) (by decide) (by rw [size_alloc]; omega)
    (fun j hj => by
      match j, hj with
      | 0, _ => exact new_cell w _ 22 0
      | 1, _ => exact new_cell w _ 22 1
      | 2, _ => exact new_cell w _ 22 2)
    (fun j hj => by
      match j, hj with
      | 0, _ => exact h1.below (below_alloc _ _)
      | 1, _ => exact h2.below (below_alloc _ _)
      | 2, _ => exact h3.below (below_alloc _ _)) (by rw [hj]; exact hb)
  rw [hj] at this
  exact this
theorem concat2 (v1 v2 : Value) (x1 x2 : List Int) (w : World) (h1 : Reads w v1 x1) (h2 : Reads w v2 x2) (hb : (x1 ++ x2).length * 8 ≤ 281474976710656) :
    Calls Try.prog 16 #[.slice (some ⟨w.heap.size, 0, none⟩) 2 2] (w.alloc (.cells #[v1, v2] 22)) fun e w' => ConcatPost (x1 ++ x2) (w.alloc (.cells #[v1, v2] 22)) e w' := by
  have hj : joined (fun j => match j with | 0 => x1 | _ => x2) 2 = x1 ++ x2 := by simp [joined]
  have := concat_any w.heap.size 2 2 (fun j => match j with | 0 => v1 | _ => v2) (fun j => match j with | 0 => x1 | _ => x2) (w.alloc (.cells #[v1, v2] 22)) (by decide) (by rw [size_alloc]; omega)
    (fun j hj => by
      match j, hj with
      | 0, _ => exact new_cell w _ 22 0
      | 1, _ => exact new_cell w _ 22 1)
    (fun j hj => by
      match j, hj with
      | 0, _ => exact h1.below (below_alloc _ _)
      | 1, _ => exact h2.below (below_alloc _ _)) (by rw [hj]; exact hb)
  rw [hj] at this
  exact this

set_option maxRecDepth 100000 in
set_option maxHeartbeats 1600000 in
theorem put_in (p q : Option Addr) (zs ys : List Int) (f t : Nat) (w : World) (hm : zs.length ≤ 4096) (hy : ys.length ≤ 4096) (hf : f ≤ t) (ht : t ≤ zs.length) (hl : zs.length - (t - f) + ys.length ≤ 4096) (h : Tree w w.heap.size p zs) (hq : Tree w w.heap.size q ys) :
    Calls Try.prog 18 #[.agg #[.pointer p], .int .i64 (f : Int), .int .i64 (t : Int), .agg #[.pointer q]] w fun e w' => RopeErr (zs.take f ++ ys ++ zs.drop t) 0 w e w' := by
  have Ht : Hid (Tree w w.heap.size p zs) := h
  have Hq : Hid (Tree w w.heap.size q ys) := hq
  clear h hq
  go_enter Try.func18, Try.ntmps18
  go_wp2_with fail
  obtain ⟨W0, hW0⟩ : ∃ W0, W0 = ((w.alloc (.cells #[Value.pointer p] 25)).alloc (.cells #[Value.pointer q] 25)).alloc (.cells #[Value.pointer none] 25) := ⟨_, rfl⟩
  rw [← hW0]
  have hx0 : Boxed W0 w.heap.size 25 (.pointer p) := by rw [hW0]; exact (box_first _ _ _ _ _).alloc _
  have hx1 : Boxed W0 (w.heap.size + 1) 25 (.pointer q) := by rw [hW0]; exact (box_second _ _ _ _ _).alloc _
  have hx2 : Boxed W0 (w.heap.size + 1 + 1) 25 (.pointer none) := by rw [hW0]; exact box_third _ _ _ _ _ _ _
  have hB0 : Below w.heap.size w W0 := by rw [hW0]; exact ((below_alloc _ _).alloc (by rw [size_alloc]; omega) _).alloc (by rw [size_alloc, size_alloc]; omega) _
  clear hW0
  have hh : hasB (f : Int) (t : Int) zs.length = true := by unfold hasB; simp; omega
  refine (has_any p zs f t W0 (tree_next Ht.out hB0)).mono ?_
  rintro e w1 ⟨rfl, hb1⟩
  rw [hh]
  clear hh
  replace hx0 := boxed_size hx0 hb1
  replace hx1 := boxed_size hx1 hb1
  replace hx2 := boxed_size hx2 hb1
  have hB1 := below_trans hB0 hb1 hB0.size
  have ht1 := tree_next Ht.out hB1
  have hq1 := tree_next Hq.out hB1
  clear hB0 hb1
  have hc0 := hx0.cell
  have hc1 := hx1.cell
  have H1 : Hid (∀ w2, Below w1.heap.size w1 w2 → Calls Try.prog 10 #[.agg #[.pointer p]] w2 fun e w' => e = .returned (.int .i64 (zs.length : Int)) ∧ w' = w2.alloc (.cells #[.pointer p] 25)) := fun w2 hb2 => len_any p zs w2 (tree_next ht1 hb2)
  have H2 : Hid (∀ w2, Below w1.heap.size w1 w2 → Calls Try.prog 10 #[.agg #[.pointer q]] w2 fun e w' => e = .returned (.int .i64 (ys.length : Int)) ∧ w' = w2.alloc (.cells #[.pointer q] 25)) := fun w2 hb2 => len_any q ys w2 (tree_next hq1 hb2)
  have Ht1 : Hid _ := ht1
  have Hq1 : Hid _ := hq1
  clear ht1 hq1
  go_upto_region 3 with fail
  go_cut [26] from 17 to 25 (fun s26 wx => s26 = .bool false ∧ Below w1.heap.size w1 wx)
  case first =>
    have hlt1 : w.heap.size + 1 < w1.heap.size := hx1.lt
    have hi1 : IntKind.i64.wrap ((t : Int) - (f : Int)) = (t : Int) - (f : Int) := IntWalk.i64_in _ ⟨by omega, by omega⟩
    have hi2 : IntKind.i64.wrap ((zs.length : Int) - ((t : Int) - (f : Int))) = (zs.length : Int) - ((t : Int) - (f : Int)) := IntWalk.i64_in _ ⟨by omega, by omega⟩
    have hi3 : IntKind.i64.wrap ((zs.length : Int) - ((t : Int) - (f : Int)) + (ys.length : Int)) = (zs.length : Int) - ((t : Int) - (f : Int)) + (ys.length : Int) := IntWalk.i64_in _ ⟨by omega, by omega⟩
    have hd : decide ((zs.length : Int) - ((t : Int) - (f : Int)) + (ys.length : Int) > 4096) = false := by simp; omega
    go_region_with (first
      | (go_at_call_of 10 (p); refine (H1.out _ ?_).mono ?_; (exact (Below.refl _ _).drew); rintro e w2 ⟨rfl, hw2⟩; have hb2 : Below w1.heap.size w1 w2 := (by rw [hw2]; exact ((Below.refl _ _).drew).alloc (Nat.le_refl _) _); clear hw2; have hd1 : w2.cell? ⟨w.heap.size + 1, 0, none⟩ = some (.pointer q) := (hb2.cell (by exact hlt1)).trans hc1)
      | (go_at_call_of 10 (q); refine (H2.out _ ?_).mono ?_; (exact hb2); rintro e w3 ⟨rfl, hw3⟩; have hb3 : Below w1.heap.size w1 w3 := (by rw [hw3]; exact hb2.alloc hb2.size _); clear hw3))
    all_goals (go_wp2_with fail)
    all_goals go_meet
    all_goals exact ⟨rfl, hb3⟩
  case rest =>
    obtain ⟨rfl, hbc⟩ := hcut
    replace hx0 := boxed_size hx0 hbc
    replace hx1 := boxed_size hx1 hbc
    replace hx2 := boxed_size hx2 hbc
    replace hc0 := hx0.cell
    have hBc := below_trans hB1 hbc hB1.size
    have Hqc : Hid (Tree wc wc.heap.size q ys) := tree_next Hq1.out hbc
    have Htc : Hid (Tree wc wc.heap.size p zs) := tree_next Ht1.out hbc
    clear hc1 hbc hB1 Hq1 Ht1 H1 H2 Ht Hq
    go_wp2_with fail
    refine (list_any p zs wc hm Htc.out).mono ?_
    rintro e w2 ⟨hb2, g, cap, rfl, hcap, hcm, hgw, hown⟩
    obtain ⟨hg2, hcells⟩ := ListPost.reads (w := wc) hown
    have hpl := part_left hcells hg2 hcap hcm f (by omega)
    obtain ⟨A, hA, hpr⟩ := part_right hcells hg2 hcap hcm t ht
    replace hx1 := boxed_size hx1 hb2
    replace hx2 := boxed_size hx2 hb2
    have hc1 := hx1.cell
    have hB2 := below_trans hBc hb2 hBc.size
    have Hl2 : Hid (∀ w3, Below w2.heap.size w2 w3 → Calls Try.prog 12 #[.agg #[.pointer q]] w3 fun e w' => ListPost ys w3 e w') := fun w3 hb3 => list_any q ys w3 hy (tree_next (tree_next Hqc.out hb2) hb3)
    have Hpl : Hid (Reads w2 (.slice (some ⟨g, 0, none⟩) f cap) (zs.take f)) := hpl
    have Hpr : Hid (Reads w2 (.slice (some A) (zs.length - t) (cap - t)) (zs.drop t)) := hpr
    have Hx2 : Hid _ := hx2
    have Hlen : Hid ((zs.take f ++ ys ++ zs.drop t).length ≤ 4096) := by show _ ≤ _; rw [List.length_append, List.length_append, List.length_take, List.length_drop]; omega
    clear hpl hpr hcells hown hx0 hc0 hb2 hBc Hqc Htc hx2
    have hi1 : (f : Int) ≤ (cap : Int) := by omega
    have hi2 : (t : Int) ≤ (zs.length : Int) := by omega
    have hi3 : (zs.length : Int) ≤ (cap : Int) := by omega
    have hi5 : f ≤ cap := by omega
    have hi6 : t ≤ cap := by omega
    go_wp2_with fail
    go_region_with (first
      | (go_at_call 12; refine (Hl2.out _ ?_).mono ?_; (exact (Below.refl _ _).drew); rintro e w3 ⟨hb3, g3, cap3, rfl, hcap3, hcm3, hgw3, hown3⟩; have hB3 : Below w2.heap.size w2 w3 := below_trans ((Below.refl _ _).drew) hb3 (by exact Nat.le_refl _); have HC : Hid (Calls Try.prog 16 #[.slice (some ⟨w3.heap.size, 0, none⟩) 3 3] (w3.alloc (.cells #[.slice (some ⟨g, 0, none⟩) f cap, .slice (some ⟨g3, 0, none⟩) ys.length cap3, .slice (some A) (zs.length - t) (cap - t)] 22)) fun e w' => ConcatPost (zs.take f ++ ys ++ zs.drop t) (w3.alloc (.cells #[.slice (some ⟨g, 0, none⟩) f cap, .slice (some ⟨g3, 0, none⟩) ys.length cap3, .slice (some A) (zs.length - t) (cap - t)] 22)) e w') := concat3 _ _ _ _ _ _ w3 (Hpl.out.below hB3) (owned_reads hown3) (Hpr.out.below hB3) (by have := Hlen.out; omega))
      | (go_at_call 16; refine Calls.mono HC.out ?_; rintro e w4 ⟨hb4, v4, rfl, ho4⟩; have hB4 : Below w2.heap.size w2 w4 := below_trans (hB3.alloc hB3.size _) hb4 (hB3.alloc hB3.size _).size; have HL : Hid (Calls Try.prog 24 #[v4] w4 fun e w' => RopePost (zs.take f ++ ys ++ zs.drop t) w4 e w') := lay_any _ _ w4 Hlen.out ho4.reads)
      | (go_at_call 24; refine Calls.mono HL.out ?_; rintro e w5 ⟨hb5, pn, rfl, ht5⟩; have hB5 : Below w2.heap.size w2 w5 := below_trans hB4 hb5 hB4.size; have hy5 := boxed_size Hx2.out hB5; have hd5 := hy5.cell; have hf5 := hy5.frozen))
    have z5 := hy5.set (.pointer pn)
    have r5 := z5.cell
    have HF : Hid (RopeErr (zs.take f ++ ys ++ zs.drop t) 0 w (.returned (.tuple #[.agg #[.pointer pn], .int .i64 0])) (w5.setCell ⟨w.heap.size + 1 + 1, 0, none⟩ (.pointer pn))) := ⟨(below_trans hB2 hB5 hB2.size).setCell (p := ⟨w.heap.size + 1 + 1, 0, none⟩) (by show _ ≤ w.heap.size + 1 + 1; omega) _, pn, rfl, tree_set ht5 hy5 _⟩
    clear hy5 hd5 hf5 z5 ht5 hb5 hB5 HL HC ho4 hb4 hB4 hown3 hb3 hB3 Hl2 Hpl Hpr Hx2
    go_simp
    go_wp2_with fail
    exact bodyPost_ret (v := .tuple #[.agg #[.pointer pn], .int .i64 0]) (by simp [results, Try.results18, go_sem, r5]) rfl HF.out

set_option maxRecDepth 100000 in
set_option maxHeartbeats 1600000 in
theorem put_large (p q : Option Addr) (zs ys : List Int) (f t : Nat) (w : World) (hm : zs.length ≤ 4096) (hy : ys.length ≤ 4096) (hf : f ≤ t) (ht : t ≤ zs.length) (hl : 4096 < zs.length - (t - f) + ys.length) (h : Tree w w.heap.size p zs) (hq : Tree w w.heap.size q ys) :
    Calls Try.prog 18 #[.agg #[.pointer p], .int .i64 (f : Int), .int .i64 (t : Int), .agg #[.pointer q]] w fun e w' => RopeErr [] 2 w e w' := by
  have Ht : Hid (Tree w w.heap.size p zs) := h
  have Hq : Hid (Tree w w.heap.size q ys) := hq
  clear h hq
  go_enter Try.func18, Try.ntmps18
  go_wp2_with fail
  obtain ⟨W0, hW0⟩ : ∃ W0, W0 = ((w.alloc (.cells #[Value.pointer p] 25)).alloc (.cells #[Value.pointer q] 25)).alloc (.cells #[Value.pointer none] 25) := ⟨_, rfl⟩
  rw [← hW0]
  have hx0 : Boxed W0 w.heap.size 25 (.pointer p) := by rw [hW0]; exact (box_first _ _ _ _ _).alloc _
  have hx1 : Boxed W0 (w.heap.size + 1) 25 (.pointer q) := by rw [hW0]; exact (box_second _ _ _ _ _).alloc _
  have hx2 : Boxed W0 (w.heap.size + 1 + 1) 25 (.pointer none) := by rw [hW0]; exact box_third _ _ _ _ _ _ _
  have hB0 : Below w.heap.size w W0 := by rw [hW0]; exact ((below_alloc _ _).alloc (by rw [size_alloc]; omega) _).alloc (by rw [size_alloc, size_alloc]; omega) _
  clear hW0
  have hh : hasB (f : Int) (t : Int) zs.length = true := by unfold hasB; simp; omega
  refine (has_any p zs f t W0 (tree_next Ht.out hB0)).mono ?_
  rintro e w1 ⟨rfl, hb1⟩
  rw [hh]
  clear hh
  replace hx0 := boxed_size hx0 hb1
  replace hx1 := boxed_size hx1 hb1
  replace hx2 := boxed_size hx2 hb1
  have hB1 := below_trans hB0 hb1 hB0.size
  have ht1 := tree_next Ht.out hB1
  have hq1 := tree_next Hq.out hB1
  clear hB0 hb1
  have hc0 := hx0.cell
  have hc1 := hx1.cell
  have H1 : Hid (∀ w2, Below w1.heap.size w1 w2 → Calls Try.prog 10 #[.agg #[.pointer p]] w2 fun e w' => e = .returned (.int .i64 (zs.length : Int)) ∧ w' = w2.alloc (.cells #[.pointer p] 25)) := fun w2 hb2 => len_any p zs w2 (tree_next ht1 hb2)
  have H2 : Hid (∀ w2, Below w1.heap.size w1 w2 → Calls Try.prog 10 #[.agg #[.pointer q]] w2 fun e w' => e = .returned (.int .i64 (ys.length : Int)) ∧ w' = w2.alloc (.cells #[.pointer q] 25)) := fun w2 hb2 => len_any q ys w2 (tree_next hq1 hb2)
  clear ht1 hq1
  go_upto_region 3 with fail
  go_cut [26] from 17 to 25 (fun s26 wx => s26 = .bool true ∧ Below w1.heap.size w1 wx)
  case first =>
    have hlt1 : w.heap.size + 1 < w1.heap.size := hx1.lt
    have hi1 : IntKind.i64.wrap ((t : Int) - (f : Int)) = (t : Int) - (f : Int) := IntWalk.i64_in _ ⟨by omega, by omega⟩
    have hi2 : IntKind.i64.wrap ((zs.length : Int) - ((t : Int) - (f : Int))) = (zs.length : Int) - ((t : Int) - (f : Int)) := IntWalk.i64_in _ ⟨by omega, by omega⟩
    have hi3 : IntKind.i64.wrap ((zs.length : Int) - ((t : Int) - (f : Int)) + (ys.length : Int)) = (zs.length : Int) - ((t : Int) - (f : Int)) + (ys.length : Int) := IntWalk.i64_in _ ⟨by omega, by omega⟩
    have hd : decide ((zs.length : Int) - ((t : Int) - (f : Int)) + (ys.length : Int) > 4096) = true := by simp; omega
    go_region_with (first
      | (go_at_call_of 10 (p); refine (H1.out _ ?_).mono ?_; (exact (Below.refl _ _).drew); rintro e w2 ⟨rfl, hw2⟩; have hb2 : Below w1.heap.size w1 w2 := (by rw [hw2]; exact ((Below.refl _ _).drew).alloc (Nat.le_refl _) _); clear hw2; have hd1 : w2.cell? ⟨w.heap.size + 1, 0, none⟩ = some (.pointer q) := (hb2.cell (by exact hlt1)).trans hc1)
      | (go_at_call_of 10 (q); refine (H2.out _ ?_).mono ?_; (exact hb2); rintro e w3 ⟨rfl, hw3⟩; have hb3 : Below w1.heap.size w1 w3 := (by rw [hw3]; exact hb2.alloc hb2.size _); clear hw3))
    all_goals (go_wp2_with fail)
    all_goals go_meet
    all_goals exact ⟨rfl, hb3⟩
  case rest =>
    obtain ⟨rfl, hbc⟩ := hcut
    replace hx2 := boxed_size hx2 hbc
    have hBc := below_trans hB1 hbc hB1.size
    have hc2 := hx2.cell
    have hf2 := hx2.frozen
    have z2 := hx2.set (.pointer none)
    have r2 := z2.cell
    have HF : Hid (RopeErr [] 2 w (.returned (.tuple #[.agg #[.pointer none], .int .i64 2])) (wc.setCell ⟨w.heap.size + 1 + 1, 0, none⟩ (.pointer none))) := ⟨hBc.setCell (p := ⟨w.heap.size + 1 + 1, 0, none⟩) (by show _ ≤ w.heap.size + 1 + 1; omega) _, none, rfl, tree_none _ _⟩
    clear hc1 hbc hB1 H1 H2 Ht Hq hx0 hx1 hx2 z2 hc0
    go_wp2_with fail
    exact bodyPost_ret (v := .tuple #[.agg #[.pointer none], .int .i64 2]) (by simp [results, Try.results18, go_sem, r2]) rfl HF.out
theorem put_out (p q : Option Addr) (zs : List Int) (f t : Int) (w : World) (hno : hasB f t zs.length = false) (h : Tree w w.heap.size p zs) :
    Calls Try.prog 18 #[.agg #[.pointer p], .int .i64 f, .int .i64 t, .agg #[.pointer q]] w fun e w' => RopeErr [] 1 w e w' := by
  have Ht : Hid (Tree w w.heap.size p zs) := h
  have Hno : Hid (hasB f t zs.length = false) := hno
  clear h hno
  go_enter Try.func18, Try.ntmps18
  go_wp2_with fail
  obtain ⟨W0, hW0⟩ : ∃ W0, W0 = ((w.alloc (.cells #[Value.pointer p] 25)).alloc (.cells #[Value.pointer q] 25)).alloc (.cells #[Value.pointer none] 25) := ⟨_, rfl⟩
  rw [← hW0]
  have hx2 : Boxed W0 (w.heap.size + 1 + 1) 25 (.pointer none) := by rw [hW0]; exact box_third _ _ _ _ _ _ _
  have hB0 : Below w.heap.size w W0 := by rw [hW0]; exact ((below_alloc _ _).alloc (by rw [size_alloc]; omega) _).alloc (by rw [size_alloc, size_alloc]; omega) _
  clear hW0
  refine (has_any p zs f t W0 (tree_next Ht.out hB0)).mono ?_
  rintro e w1 ⟨rfl, hb1⟩
  rw [Hno.out]
  replace hx2 := boxed_size hx2 hb1
  have hB1 := below_trans hB0 hb1 hB0.size
  have hc2 := hx2.cell
  have hf2 := hx2.frozen
  have z2 := hx2.set (.pointer none)
  have r2 := z2.cell
  have HF : Hid (RopeErr [] 1 w (.returned (.tuple #[.agg #[.pointer none], .int .i64 1])) (w1.setCell ⟨w.heap.size + 1 + 1, 0, none⟩ (.pointer none))) := ⟨hB1.setCell (p := ⟨w.heap.size + 1 + 1, 0, none⟩) (by show _ ≤ w.heap.size + 1 + 1; omega) _, none, rfl, tree_none _ _⟩
  clear hB0 hb1 Hno Ht hx2 z2
  go_wp2_with fail
  exact bodyPost_ret (v := .tuple #[.agg #[.pointer none], .int .i64 1]) (by simp [results, Try.results18, go_sem, r2]) rfl HF.out

/-- What Put answers. -/
def putErr (f t : Int) (n m : Nat) : Int := if hasB f t n then (if (n : Int) - (t - f) + (m : Int) ≤ 4096 then 0 else 2) else 1
def putList (f t : Int) (zs ys : List Int) : List Int := if hasB f t zs.length then (if (zs.length : Int) - (t - f) + (ys.length : Int) ≤ 4096 then zs.take f.toNat ++ ys ++ zs.drop t.toNat else []) else []
theorem hasB_true {f t : Int} {n : Nat} (h : hasB f t n = true) : 0 ≤ f ∧ f ≤ t ∧ t ≤ (n : Int) := by
  unfold hasB at h
  simp at h
  exact ⟨h.1.1, h.1.2, h.2⟩
theorem put_any (p q : Option Addr) (zs ys : List Int) (f t : Int) (w : World) (hm : zs.length ≤ 4096) (hy : ys.length ≤ 4096) (h : Tree w w.heap.size p zs) (hq : Tree w w.heap.size q ys) :
    Calls Try.prog 18 #[.agg #[.pointer p], .int .i64 f, .int .i64 t, .agg #[.pointer q]] w fun e w' => RopeErr (putList f t zs ys) (putErr f t zs.length ys.length) w e w' := by
  unfold putErr putList
  by_cases hh : hasB f t zs.length = true
  · rw [if_pos hh, if_pos hh]
    obtain ⟨h0, h1, h2⟩ := hasB_true hh
    obtain ⟨f, rfl⟩ : ∃ k : Nat, f = k := ⟨f.toNat, by omega⟩
    obtain ⟨t, rfl⟩ : ∃ k : Nat, t = k := ⟨t.toNat, by omega⟩
    by_cases hl : (zs.length : Int) - ((t : Int) - (f : Int)) + (ys.length : Int) ≤ 4096
    · rw [if_pos hl, if_pos hl]
      exact put_in p q zs ys f t w hm hy (by omega) (by omega) (by omega) h hq
    · rw [if_neg hl, if_neg hl]
      exact put_large p q zs ys f t w hm hy (by omega) (by omega) (by omega) h hq
  · rw [if_neg hh, if_neg hh]
    exact put_out p q zs f t w (by simpa using hh) h
end Go.Proofs.Ytoopgkgjhbihjaa.Seek
