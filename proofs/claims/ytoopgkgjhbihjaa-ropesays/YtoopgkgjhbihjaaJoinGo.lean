/- The contracts of Join and of fairkeep.roped. -/
import Derived.Test.YtoopgkgjhbihjaaPutAny
import Derived.Deep.RegionHeld3
set_option linter.unusedVariables false
set_option linter.unusedSimpArgs false
namespace Go.Proofs.Ytoopgkgjhbihjaa.Seek
open Go.RowKit

/-- What Join answers. -/
def joinErr (n m : Nat) : Int := if n + m ≤ 4096 then 0 else 2
def joinList (zs ys : List Int) : List Int := if zs.length + ys.length ≤ 4096 then zs ++ ys else []
theorem putErr_join (n m : Nat) : putErr (n : Int) (n : Int) n m = joinErr n m := by
  unfold putErr joinErr
  rw [if_pos (by unfold hasB; simp)]
  by_cases h : n + m ≤ 4096
  · rw [if_pos h, if_pos (by omega)]
  · rw [if_neg h, if_neg (by omega)]
theorem putList_join (zs ys : List Int) : putList (zs.length : Int) (zs.length : Int) zs ys = joinList zs ys := by
  unfold putList joinList
  rw [if_pos (by unfold hasB; simp)]
  by_cases h : zs.length + ys.length ≤ 4096
  · rw [if_pos h, if_pos (by omega), Int.toNat_natCast, List.take_length, List.drop_length, List.append_nil]
  · rw [if_neg h, if_neg (by omega)]

set_option maxRecDepth 100000 in
set_option maxHeartbeats 1600000 in
theorem join_any (p q : Option Addr) (zs ys : List Int) (w : World) (hm : zs.length ≤ 4096) (hy : ys.length ≤ 4096) (h : Tree w w.heap.size p zs) (hq : Tree w w.heap.size q ys) :
    Calls Try.prog 15 #[.agg #[.pointer p], .agg #[.pointer q]] w fun e w' => RopeErr (joinList zs ys) (joinErr zs.length ys.length) w e w' := by
  have Ht : Hid (Tree w w.heap.size p zs) := h
  have Hq : Hid (Tree w w.heap.size q ys) := hq
  clear h hq
  go_enter Try.func15, Try.ntmps15
  go_wp2_with fail
  obtain ⟨W0, hW0⟩ : ∃ W0, W0 = ((w.alloc (.cells #[Value.pointer p] 25)).alloc (.cells #[Value.pointer q] 25)).alloc (.cells #[Value.pointer none] 25) := ⟨_, rfl⟩
  rw [← hW0]
  have hx0 : Boxed W0 w.heap.size 25 (.pointer p) := by rw [hW0]; exact (box_first _ _ _ _ _).alloc _
  have hx1 : Boxed W0 (w.heap.size + 1) 25 (.pointer q) := by rw [hW0]; exact (box_second _ _ _ _ _).alloc _
  have hx2 : Boxed W0 (w.heap.size + 1 + 1) 25 (.pointer none) := by rw [hW0]; exact box_third _ _ _ _ _ _ _
  have hB0 : Below w.heap.size w W0 := by rw [hW0]; exact ((below_alloc _ _).alloc (by rw [size_alloc]; omega) _).alloc (by rw [size_alloc, size_alloc]; omega) _
  clear hW0
  have hc0 := hx0.cell
  have hc1 := hx1.cell
  have hlt0 := hx0.lt
  have hlt1 := hx1.lt
  have H1 : Hid (∀ w2, Below W0.heap.size W0 w2 → Calls Try.prog 10 #[.agg #[.pointer p]] w2 fun e w' => e = .returned (.int .i64 (zs.length : Int)) ∧ w' = w2.alloc (.cells #[.pointer p] 25)) := fun w2 hb2 => len_any p zs w2 (tree_next (tree_next Ht.out hB0) hb2)
  have H2 : Hid (∀ w2, Below W0.heap.size W0 w2 → Calls Try.prog 18 #[.agg #[.pointer p], .int .i64 (zs.length : Int), .int .i64 (zs.length : Int), .agg #[.pointer q]] w2 fun e w' => RopeErr (joinList zs ys) (joinErr zs.length ys.length) w2 e w') := fun w2 hb2 => by
    have := put_any p q zs ys zs.length zs.length w2 hm hy (tree_next (tree_next Ht.out hB0) hb2) (tree_next (tree_next Hq.out hB0) hb2)
    rw [putErr_join, putList_join] at this
    exact this
  have Hx2 : Hid _ := hx2
  clear hx2 hx0 hx1
  have hbW : Below W0.heap.size W0 W0.drew := (Below.refl _ _).drew
  go_region_held3 (fun w' => w'.cell? ⟨w.heap.size, 0, none⟩ = some (.pointer p) ∧ w'.cell? ⟨w.heap.size + 1, 0, none⟩ = some (.pointer q)) (first | exact ⟨hc0, hc1⟩ | exact ⟨hd0, hd1⟩ | exact ⟨he0, he1⟩ | exact ⟨hk0, hk1⟩ | exact ⟨hl0, hl1⟩)
    (first
      | (go_at_call 10; refine (H1.out _ ?_).mono ?_; (exact hbW); clear hbW; rintro e w2 ⟨rfl, hw2⟩; have hb2 : Below W0.heap.size W0 w2 := (by rw [hw2]; exact ((Below.refl _ _).drew).alloc (Nat.le_refl _) _); clear hw2; have hd0 : w2.cell? ⟨w.heap.size, 0, none⟩ = some (.pointer p) := (hb2.cell (by exact hlt0)).trans hc0; have hd1 : w2.cell? ⟨w.heap.size + 1, 0, none⟩ = some (.pointer q) := (hb2.cell (by exact hlt1)).trans hc1)
      | (go_at_call 10; refine (H1.out _ ?_).mono ?_; (exact hb2); rintro e w3 ⟨rfl, hw3⟩; have hb3 : Below W0.heap.size W0 w3 := (by rw [hw3]; exact hb2.alloc hb2.size _); clear hw3 hd0 hd1; have he0 : w3.cell? ⟨w.heap.size, 0, none⟩ = some (.pointer p) := (hb3.cell (by exact hlt0)).trans hc0; have he1 : w3.cell? ⟨w.heap.size + 1, 0, none⟩ = some (.pointer q) := (hb3.cell (by exact hlt1)).trans hc1)
      | (go_at_call 18; refine (H2.out _ ?_).mono ?_; (exact hb3); rintro e w4 ⟨hb4, pn, rfl, ht4⟩; have hb5 : Below W0.heap.size W0 w4 := below_trans hb3 hb4 hb3.size; have hy4 := boxed_size Hx2.out hb5; have hd4 := hy4.cell; have hf4 := hy4.frozen; have hk0 : w4.cell? ⟨w.heap.size, 0, none⟩ = some (.pointer p) := (hb5.cell (by exact hlt0)).trans hc0; have hk1 : w4.cell? ⟨w.heap.size + 1, 0, none⟩ = some (.pointer q) := (hb5.cell (by exact hlt1)).trans hc1; have hl0 : (w4.setCell ⟨w.heap.size + 1 + 1, 0, none⟩ (.pointer pn)).cell? ⟨w.heap.size, 0, none⟩ = some (.pointer p) := (World.cell?_setCell_far _ _ _ _ (by show w.heap.size + 1 + 1 ≠ w.heap.size; omega)).trans hk0; have hl1 : (w4.setCell ⟨w.heap.size + 1 + 1, 0, none⟩ (.pointer pn)).cell? ⟨w.heap.size + 1, 0, none⟩ = some (.pointer q) := (World.cell?_setCell_far _ _ _ _ (by show w.heap.size + 1 + 1 ≠ w.heap.size + 1; omega)).trans hk1))
  have z5 := hy4.set (.pointer pn)
  have r5 := z5.cell
  have HF : Hid (RopeErr (joinList zs ys) (joinErr zs.length ys.length) w (.returned (.tuple #[.agg #[.pointer pn], .int .i64 (joinErr zs.length ys.length)])) (w4.setCell ⟨w.heap.size + 1 + 1, 0, none⟩ (.pointer pn))) := ⟨(below_trans hB0 hb5 hB0.size).setCell (p := ⟨w.heap.size + 1 + 1, 0, none⟩) (by show _ ≤ w.heap.size + 1 + 1; omega) _, pn, rfl, tree_set ht4 hy4 _⟩
  clear hy4 hd4 hf4 z5 ht4 hb4 hb5 hk0 hk1 hl0 hl1 he0 he1 hb3 hb2 H1 H2 Hx2
  go_simp
  go_wp2_with fail
  exact bodyPost_ret (v := .tuple #[.agg #[.pointer pn], .int .i64 (joinErr zs.length ys.length)]) (by simp [results, Try.results15, go_sem, r5]) rfl HF.out

/-- What roped answers. -/
theorem roped_any (zs : List Int) (v : Value) (w : World) (hm : zs.length ≤ maxLen) (h : Reads w v zs) : Calls Try.prog 19 #[v] w fun e w' => RopePost (ofList zs) w e w' := by
  obtain ⟨a, cap, hv⟩ := h.shape
  subst hv
  have H : Hid (∀ w1, Below w.heap.size w w1 → Calls Try.prog 9 #[.slice a zs.length cap] w1 fun e w' => RopeErr (ofList zs) (ofErr zs.length) w1 e w') := fun w1 hb => of_any zs _ w1 hm (h.below hb)
  clear h
  go_enter Try.func19, Try.ntmps19
  go_wp2_with fail
  refine (H.out _ ?_).mono ?_
  · exact below_alloc _ _
  rintro e w1 ⟨hb1, p, rfl, ht⟩
  have hbx := boxed_new hb1
  have hB : Below w.heap.size w w1 := below_trans (below_alloc _ _) hb1 (by rw [size_alloc]; omega)
  generalize ofErr zs.length = er at *
  have hby := hbx.alloc (.cells #[.pointer p] 25)
  have hc := hby.cell
  have hf := hby.frozen
  have hbz := hby.set (.pointer p)
  have hcz := hbz.cell
  have HF : Hid (RopePost (ofList zs) w (.returned (.agg #[.pointer p])) ((w1.alloc (.cells #[.pointer p] 25)).setCell ⟨w.heap.size, 0, none⟩ (.pointer p))) := ⟨(hB.alloc hB.size _).setCell (p := ⟨w.heap.size, 0, none⟩) (Nat.le_refl _) _, p, rfl, tree_set (tree_alloc ht _) hby _⟩
  clear hbx hby hbz ht hb1 hB H
  go_wp2_with fail
  exact bodyPost_ret (v := .agg #[.pointer p]) (by simp [results, Try.results19, go_sem, hcz]) rfl HF.out
end Go.Proofs.Ytoopgkgjhbihjaa.Seek
