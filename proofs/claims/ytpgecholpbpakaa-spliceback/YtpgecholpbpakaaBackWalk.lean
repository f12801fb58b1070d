/- The walk of SpliceBack. -/
import Derived.Test.YtpgecholpbpakaaUndoGo
import Derived.Test.YtpgecholpbpakaaSameGo
import Derived.Test.YtpgecholpbpakaaLiterals
set_option linter.unusedVariables false
set_option linter.unusedSimpArgs false
namespace Go.Proofs.Ytpgecholpbpakaa.Seek
open Go.RowKit Plain

theorem some_right : Right [1, 2, 3] [(1, 2, [7, 8])] := ⟨by decide, ⟨by decide, by decide, by decide, .inl (by decide), trivial⟩, by decide⟩

set_option maxRecDepth 100000 in
set_option maxHeartbeats 8000000 in
theorem back_ok (v1 v2 : Value) (l : List Int) (es : List Spl) (w : World) (h1 : Reads w v1 l) (h2 : ReadsE w v2 es) (hl8 : l.length * 8 ≤ 140737488351232)
    (ns : List Nsp) (hes : es = ups ns) (hR : Right l ns) :
    Calls Try.prog 5 #[v1, v2] w fun e w' => e = .returned (.bool true) ∧ Below w.heap.size w w' := by
  obtain ⟨a1, cap1, rfl⟩ := h1.shape
  have L_w : Hid (Reads w (.slice a1 l.length cap1) l) := h1
  have E_w : Hid (ReadsE w v2 es) := h2
  have HR : Hid (Right l ns) := hR
  have HES : Hid (es = ups ns) := hes
  have hll := hR.1
  have HU : Hid _ := und_right hR
  have hfin := hR.2.2
  clear hes hR
  clear h1 h2
  go_enter Try.func5, Try.ntmps5
  go_wp2_with fail
  obtain ⟨w0, hw0⟩ : ∃ w0, w0 = (((w.alloc (.cells #[.int .i64 7, .int .i64 8] 3)).alloc (.cells #[.int .i64 1, .int .i64 2, .slice (some ⟨w.heap.size, 0, none⟩) 2 2] 41)).alloc (.cells #[.int .i64 1, .int .i64 2, .int .i64 3] 3)) := ⟨_, rfl⟩
  have hb0 : Below w.heap.size w w0 := by rw [hw0]; exact below3 _ _ _ _
  have SE_w0 : Hid (ReadsE w0 (.slice (some ⟨w.heap.size + 1, 0, none⟩) 1 1) (ups [(1, 2, [7, 8])])) := by
    rw [hw0]
    exact (readsE_lit _ 1 2 _ [7, 8] _ (by rw [size_alloc]) (reads_lit w [7, 8] _ rfl _ rfl _ rfl (by decide)) (by decide)).below (box_below _ _)
  have SL_w0 : Hid (Reads w0 (.slice (some ⟨w.heap.size + 1 + 1, 0, none⟩) 3 3) [1, 2, 3]) := by
    rw [hw0]
    exact reads_lit _ [1, 2, 3] _ (by rw [size_alloc, size_alloc]) _ rfl _ rfl (by decide)
  rw [← hw0]
  clear hw0
  have HB_w0 : Hid (Below w.heap.size w w0) := hb0
  have L_w0 : Hid (Reads w0 (.slice a1 l.length cap1) l) := L_w.out.below hb0
  have E_w0 : Hid (ReadsE w0 v2 es) := E_w.out.below hb0
  clear L_w E_w
  clear hb0
  refine (apply_ok _ _ [1, 2, 3] [(1, 2, [7, 8])] w0 SL_w0.out SE_w0.out some_right).mono ?_
  rintro e w1 ⟨hb, v4, rfl, ho⟩
  have A_w1 : Hid (Reads w1 v4 [1, 7, 8, 3]) := ho.reads
  have HB_w1 : Hid (Below w.heap.size w w1) := below_trans HB_w0.out hb HB_w0.out.size
  have L_w1 : Hid (Reads w1 (.slice a1 l.length cap1) l) := L_w0.out.below hb
  have E_w1 : Hid (ReadsE w1 v2 es) := E_w0.out.below hb
  have SE_w1 : Hid (ReadsE w1 (.slice (some ⟨w.heap.size + 1, 0, none⟩) 1 1) (ups [(1, 2, [7, 8])])) := SE_w0.out.below hb
  have SL_w1 : Hid (Reads w1 (.slice (some ⟨w.heap.size + 1 + 1, 0, none⟩) 3 3) [1, 2, 3]) := SL_w0.out.below hb
  clear L_w0 E_w0 SE_w0 SL_w0 HB_w0
  clear ho hb
  clear SE_w1
  clear SL_w1
  go_wp2_with fail
  obtain ⟨w2, hw2⟩ : ∃ w2, w2 = w1.alloc (.cells #[.int .i64 1, .int .i64 7, .int .i64 8, .int .i64 3] 3) := ⟨_, rfl⟩
  have hb2 : Below w1.heap.size w1 w2 := by rw [hw2]; exact box_below _ _
  have SM_w2 : Hid (Reads w2 (.slice (some ⟨w1.heap.size, 0, none⟩) 4 4) [1, 7, 8, 3]) := by
    rw [hw2]
    exact reads_lit _ [1, 7, 8, 3] _ rfl _ rfl _ rfl (by decide)
  rw [← hw2]
  clear hw2
  have HB_w2 : Hid (Below w.heap.size w w2) := below_trans HB_w1.out hb2 HB_w1.out.size
  have L_w2 : Hid (Reads w2 (.slice a1 l.length cap1) l) := L_w1.out.below hb2
  have E_w2 : Hid (ReadsE w2 v2 es) := E_w1.out.below hb2
  have A_w2 : Hid (Reads w2 v4 [1, 7, 8, 3]) := A_w1.out.below hb2
  clear L_w1 E_w1 A_w1 HB_w1
  clear hb2
  refine (equal_any _ _ _ _ w2 A_w2.out SM_w2.out (by decide) (by decide)).mono ?_
  rw [beq_self_eq_true]
  rintro e w3 ⟨rfl, q, hq⟩
  have hb : Below w2.heap.size w2 w3 := by rw [hq]; exact below_drewN (Below.refl _ _) q
  have HB_w3 : Hid (Below w.heap.size w w3) := below_trans HB_w2.out hb HB_w2.out.size
  have L_w3 : Hid (Reads w3 (.slice a1 l.length cap1) l) := L_w2.out.below hb
  have E_w3 : Hid (ReadsE w3 v2 es) := E_w2.out.below hb
  have A_w3 : Hid (Reads w3 v4 [1, 7, 8, 3]) := A_w2.out.below hb
  have SM_w3 : Hid (Reads w3 (.slice (some ⟨w1.heap.size, 0, none⟩) 4 4) [1, 7, 8, 3]) := SM_w2.out.below hb
  clear L_w2 E_w2 A_w2 SM_w2 HB_w2
  clear hb hq q
  clear A_w3
  clear SM_w3
  go_wp2_with fail
  refine (apply_ok _ _ l ns w3 L_w3.out (by have := E_w3.out; rw [HES.out] at this; exact this) HR.out).mono ?_
  rintro e w4 ⟨hb, v5, rfl, ho⟩
  have M_w4 : Hid (Reads w4 v5 (app l 0 ns)) := ho.reads
  have HB_w4 : Hid (Below w.heap.size w w4) := below_trans HB_w3.out hb HB_w3.out.size
  have L_w4 : Hid (Reads w4 (.slice a1 l.length cap1) l) := L_w3.out.below hb
  have E_w4 : Hid (ReadsE w4 v2 es) := E_w3.out.below hb
  clear L_w3 E_w3 HB_w3
  clear ho hb
  go_wp2_with fail
  refine (undo_ok _ _ l ns w4 L_w4.out (by have := E_w4.out; rw [HES.out] at this; exact this) HR.out).mono ?_
  rintro e w5 ⟨hb, v6, rfl, ho⟩
  have U_w5 : Hid (ReadsE w5 v6 (ups (und l 0 0 ns))) := ho.reads
  have HB_w5 : Hid (Below w.heap.size w w5) := below_trans HB_w4.out hb HB_w4.out.size
  have L_w5 : Hid (Reads w5 (.slice a1 l.length cap1) l) := L_w4.out.below hb
  have E_w5 : Hid (ReadsE w5 v2 es) := E_w4.out.below hb
  have M_w5 : Hid (Reads w5 v5 (app l 0 ns)) := M_w4.out.below hb
  clear L_w4 E_w4 M_w4 HB_w4
  clear ho hb
  go_wp2_with fail
  refine (apply_ok _ _ (app l 0 ns) (und l 0 0 ns) w5 M_w5.out U_w5.out HU.out.1).mono ?_
  rw [HU.out.2.1]
  rintro e w6 ⟨hb, v7, rfl, ho⟩
  have B_w6 : Hid (Reads w6 v7 l) := ho.reads
  have HB_w6 : Hid (Below w.heap.size w w6) := below_trans HB_w5.out hb HB_w5.out.size
  have L_w6 : Hid (Reads w6 (.slice a1 l.length cap1) l) := L_w5.out.below hb
  have E_w6 : Hid (ReadsE w6 v2 es) := E_w5.out.below hb
  have M_w6 : Hid (Reads w6 v5 (app l 0 ns)) := M_w5.out.below hb
  have U_w6 : Hid (ReadsE w6 v6 (ups (und l 0 0 ns))) := U_w5.out.below hb
  clear L_w5 E_w5 M_w5 U_w5 HB_w5
  clear ho hb
  go_wp2_with fail
  refine (undo_ok _ _ (app l 0 ns) (und l 0 0 ns) w6 M_w6.out U_w6.out HU.out.1).mono ?_
  rw [HU.out.2.2, ← HES.out]
  rintro e w7 ⟨hb, v8, rfl, ho⟩
  have V_w7 : Hid (ReadsE w7 v8 es) := ho.reads
  have HB_w7 : Hid (Below w.heap.size w w7) := below_trans HB_w6.out hb HB_w6.out.size
  have L_w7 : Hid (Reads w7 (.slice a1 l.length cap1) l) := L_w6.out.below hb
  have E_w7 : Hid (ReadsE w7 v2 es) := E_w6.out.below hb
  have M_w7 : Hid (Reads w7 v5 (app l 0 ns)) := M_w6.out.below hb
  have U_w7 : Hid (ReadsE w7 v6 (ups (und l 0 0 ns))) := U_w6.out.below hb
  have B_w7 : Hid (Reads w7 v7 l) := B_w6.out.below hb
  clear L_w6 E_w6 M_w6 U_w6 B_w6 HB_w6
  clear ho hb
  clear M_w7
  clear U_w7
  go_wp2_with fail
  refine (equal_any _ _ _ _ w7 B_w7.out L_w7.out (by unfold maxLen; omega) (by unfold maxLen; omega)).mono ?_
  rw [beq_self_eq_true]
  rintro e w8 ⟨rfl, q, hq⟩
  have hb : Below w7.heap.size w7 w8 := by rw [hq]; exact below_drewN (Below.refl _ _) q
  have HB_w8 : Hid (Below w.heap.size w w8) := below_trans HB_w7.out hb HB_w7.out.size
  have L_w8 : Hid (Reads w8 (.slice a1 l.length cap1) l) := L_w7.out.below hb
  have E_w8 : Hid (ReadsE w8 v2 es) := E_w7.out.below hb
  have B_w8 : Hid (Reads w8 v7 l) := B_w7.out.below hb
  have V_w8 : Hid (ReadsE w8 v8 es) := V_w7.out.below hb
  clear L_w7 E_w7 B_w7 V_w7 HB_w7
  clear hb hq q
  go_wp2_with fail
  refine (same_any _ _ _ _ w8 V_w8.out E_w8.out).mono ?_
  rw [decide_eq_true rfl]
  rintro e w9 ⟨rfl, hb⟩
  have HB_w9 : Hid (Below w.heap.size w w9) := below_trans HB_w8.out hb HB_w8.out.size
  have L_w9 : Hid (Reads w9 (.slice a1 l.length cap1) l) := L_w8.out.below hb
  have E_w9 : Hid (ReadsE w9 v2 es) := E_w8.out.below hb
  have B_w9 : Hid (Reads w9 v7 l) := B_w8.out.below hb
  have V_w9 : Hid (ReadsE w9 v8 es) := V_w8.out.below hb
  clear L_w8 E_w8 B_w8 V_w8 HB_w8
  clear hb
  go_wp2_with fail
  go_ret
  exact ⟨rfl, HB_w9.out⟩
set_option maxRecDepth 100000 in
set_option maxHeartbeats 8000000 in
theorem back_err (v1 v2 : Value) (l : List Int) (es : List Spl) (w : World) (h1 : Reads w v1 l) (h2 : ReadsE w v2 es) (hl8 : l.length * 8 ≤ 140737488351232)
    (hbad : chk (l.length : Int) es ≠ 0) :
    Calls Try.prog 5 #[v1, v2] w fun e w' => e = .returned (.bool true) ∧ Below w.heap.size w w' := by
  obtain ⟨a1, cap1, rfl⟩ := h1.shape
  have L_w : Hid (Reads w (.slice a1 l.length cap1) l) := h1
  have E_w : Hid (ReadsE w v2 es) := h2
  obtain ⟨c, hc⟩ : ∃ c, c = chk (l.length : Int) es := ⟨_, rfl⟩
  have HC : Hid (c = chk (l.length : Int) es) := hc
  have hcb : (c != 0) = true := by rw [hc]; simpa using hbad
  have hcc : (c == c) = true := by simp
  have Hbad : Hid (chk (l.length : Int) es ≠ 0) := hbad
  clear hbad hc
  clear h1 h2
  go_enter Try.func5, Try.ntmps5
  go_wp2_with fail
  obtain ⟨w0, hw0⟩ : ∃ w0, w0 = (((w.alloc (.cells #[.int .i64 7, .int .i64 8] 3)).alloc (.cells #[.int .i64 1, .int .i64 2, .slice (some ⟨w.heap.size, 0, none⟩) 2 2] 41)).alloc (.cells #[.int .i64 1, .int .i64 2, .int .i64 3] 3)) := ⟨_, rfl⟩
  have hb0 : Below w.heap.size w w0 := by rw [hw0]; exact below3 _ _ _ _
  have SE_w0 : Hid (ReadsE w0 (.slice (some ⟨w.heap.size + 1, 0, none⟩) 1 1) (ups [(1, 2, [7, 8])])) := by
    rw [hw0]
    exact (readsE_lit _ 1 2 _ [7, 8] _ (by rw [size_alloc]) (reads_lit w [7, 8] _ rfl _ rfl _ rfl (by decide)) (by decide)).below (box_below _ _)
  have SL_w0 : Hid (Reads w0 (.slice (some ⟨w.heap.size + 1 + 1, 0, none⟩) 3 3) [1, 2, 3]) := by
    rw [hw0]
    exact reads_lit _ [1, 2, 3] _ (by rw [size_alloc, size_alloc]) _ rfl _ rfl (by decide)
  rw [← hw0]
  clear hw0
  have HB_w0 : Hid (Below w.heap.size w w0) := hb0
  have L_w0 : Hid (Reads w0 (.slice a1 l.length cap1) l) := L_w.out.below hb0
  have E_w0 : Hid (ReadsE w0 v2 es) := E_w.out.below hb0
  clear L_w E_w
  clear hb0
  refine (apply_ok _ _ [1, 2, 3] [(1, 2, [7, 8])] w0 SL_w0.out SE_w0.out some_right).mono ?_
  rintro e w1 ⟨hb, v4, rfl, ho⟩
  have A_w1 : Hid (Reads w1 v4 [1, 7, 8, 3]) := ho.reads
  have HB_w1 : Hid (Below w.heap.size w w1) := below_trans HB_w0.out hb HB_w0.out.size
  have L_w1 : Hid (Reads w1 (.slice a1 l.length cap1) l) := L_w0.out.below hb
  have E_w1 : Hid (ReadsE w1 v2 es) := E_w0.out.below hb
  have SE_w1 : Hid (ReadsE w1 (.slice (some ⟨w.heap.size + 1, 0, none⟩) 1 1) (ups [(1, 2, [7, 8])])) := SE_w0.out.below hb
  have SL_w1 : Hid (Reads w1 (.slice (some ⟨w.heap.size + 1 + 1, 0, none⟩) 3 3) [1, 2, 3]) := SL_w0.out.below hb
  clear L_w0 E_w0 SE_w0 SL_w0 HB_w0
  clear ho hb
  clear SE_w1
  clear SL_w1
  go_wp2_with fail
  obtain ⟨w2, hw2⟩ : ∃ w2, w2 = w1.alloc (.cells #[.int .i64 1, .int .i64 7, .int .i64 8, .int .i64 3] 3) := ⟨_, rfl⟩
  have hb2 : Below w1.heap.size w1 w2 := by rw [hw2]; exact box_below _ _
  have SM_w2 : Hid (Reads w2 (.slice (some ⟨w1.heap.size, 0, none⟩) 4 4) [1, 7, 8, 3]) := by
    rw [hw2]
    exact reads_lit _ [1, 7, 8, 3] _ rfl _ rfl _ rfl (by decide)
  rw [← hw2]
  clear hw2
  have HB_w2 : Hid (Below w.heap.size w w2) := below_trans HB_w1.out hb2 HB_w1.out.size
  have L_w2 : Hid (Reads w2 (.slice a1 l.length cap1) l) := L_w1.out.below hb2
  have E_w2 : Hid (ReadsE w2 v2 es) := E_w1.out.below hb2
  have A_w2 : Hid (Reads w2 v4 [1, 7, 8, 3]) := A_w1.out.below hb2
  clear L_w1 E_w1 A_w1 HB_w1
  clear hb2
  refine (equal_any _ _ _ _ w2 A_w2.out SM_w2.out (by decide) (by decide)).mono ?_
  rw [beq_self_eq_true]
  rintro e w3 ⟨rfl, q, hq⟩
  have hb : Below w2.heap.size w2 w3 := by rw [hq]; exact below_drewN (Below.refl _ _) q
  have HB_w3 : Hid (Below w.heap.size w w3) := below_trans HB_w2.out hb HB_w2.out.size
  have L_w3 : Hid (Reads w3 (.slice a1 l.length cap1) l) := L_w2.out.below hb
  have E_w3 : Hid (ReadsE w3 v2 es) := E_w2.out.below hb
  have A_w3 : Hid (Reads w3 v4 [1, 7, 8, 3]) := A_w2.out.below hb
  have SM_w3 : Hid (Reads w3 (.slice (some ⟨w1.heap.size, 0, none⟩) 4 4) [1, 7, 8, 3]) := SM_w2.out.below hb
  clear L_w2 E_w2 A_w2 SM_w2 HB_w2
  clear hb hq q
  clear A_w3
  clear SM_w3
  go_wp2_with fail
  refine (apply_err _ _ l es w3 L_w3.out E_w3.out Hbad.out).mono ?_
  rw [← HC.out]
  rintro e w4 ⟨hb, rfl⟩
  have HB_w4 : Hid (Below w.heap.size w w4) := below_trans HB_w3.out hb HB_w3.out.size
  have L_w4 : Hid (Reads w4 (.slice a1 l.length cap1) l) := L_w3.out.below hb
  have E_w4 : Hid (ReadsE w4 v2 es) := E_w3.out.below hb
  clear L_w3 E_w3 HB_w3
  clear hb
  go_wp2_with fail
  refine (undo_err _ _ l es w4 L_w4.out E_w4.out Hbad.out).mono ?_
  rw [← HC.out]
  rintro e w5 ⟨hb, rfl⟩
  have HB_w5 : Hid (Below w.heap.size w w5) := below_trans HB_w4.out hb HB_w4.out.size
  have L_w5 : Hid (Reads w5 (.slice a1 l.length cap1) l) := L_w4.out.below hb
  have E_w5 : Hid (ReadsE w5 v2 es) := E_w4.out.below hb
  clear L_w4 E_w4 HB_w4
  clear hb
  go_wp2_with fail
  go_ret
  exact ⟨rfl, HB_w5.out⟩
theorem back_walk (v1 v2 : Value) (l : List Int) (es : List Spl) (w : World) (h1 : Reads w v1 l) (h2 : ReadsE w v2 es) (hl8 : l.length * 8 ≤ 140737488351232) (_ : es.length * 40 ≤ 140737488351232) :
    Calls Try.prog 5 #[v1, v2] w fun e w' => e = .returned (.bool true) ∧ Below w.heap.size w w' := by
  by_cases hb : chk (l.length : Int) es = 0
  · obtain ⟨ns, he, hR⟩ := chk_ok hb
    exact back_ok v1 v2 l es w h1 h2 hl8 ns he hR
  · exact back_err v1 v2 l es w h1 h2 hl8 hb
end Go.Proofs.Ytpgecholpbpakaa.Seek
