/- The walk of SpliceNone. -/
import Derived.Test.YtpgecholpbpakaaOverGo
import Derived.Test.YtpgecholpbpakaaSameGo
import Derived.Test.YtpgecholpbpakaaLiterals
set_option linter.unusedVariables false
set_option linter.unusedSimpArgs false
namespace Go.Proofs.Ytpgecholpbpakaa.Seek
open Go.RowKit Plain

theorem one_fits : Fits 1 [(0, 1, [7])] := ⟨by decide, ⟨by decide, by decide, by decide, .inl (by decide), trivial⟩, by decide⟩
theorem one_over : ovr 1 [(0, 1, [7])] [(0, 1, [7])] true = [(0, 0, [7])] := by decide +kernel

set_option maxRecDepth 100000 in
set_option maxHeartbeats 8000000 in
theorem none_ok (v1 v2 : Value) (l : List Int) (es : List Spl) (ahead : Bool) (w : World) (h1 : Reads w v1 l) (h2 : ReadsE w v2 es) (hl8 : l.length * 8 ≤ 140737488351232)
    (ns : List Nsp) (hes : es = ups ns) (hR : Right l ns) :
    Calls Try.prog 7 #[v1, v2, .bool ahead] w fun e w' => e = .returned (.bool true) ∧ Below w.heap.size w w' := by
  obtain ⟨a1, cap1, rfl⟩ := h1.shape
  have L_w : Hid (Reads w (.slice a1 l.length cap1) l) := h1
  have E_w : Hid (ReadsE w v2 es) := h2
  have HR : Hid (Right l ns) := hR
  have HES : Hid (es = ups ns) := hes
  have hll := hR.1
  have hfin := hR.2.2
  have HN : Hid (app l 0 (ovr l.length ns [] ahead) = app l 0 ns ∧ Right l (ovr l.length ns [] ahead)) := ⟨(ovr_nil l ns ahead hR.2.1).1, hR.1, (ovr_nil l ns ahead hR.2.1).2, by rw [(ovr_nil l ns ahead hR.2.1).1]; exact hR.2.2⟩
  clear hes hR
  clear h1 h2
  go_enter Try.func7, Try.ntmps7
  go_wp2_with fail
  obtain ⟨w0, hw0⟩ : ∃ w0, w0 = ((w.alloc (.cells #[.int .i64 7] 3)).alloc (.cells #[.int .i64 0, .int .i64 1, .slice (some ⟨w.heap.size, 0, none⟩) 1 1] 41)) := ⟨_, rfl⟩
  have hb0 : Below w.heap.size w w0 := by rw [hw0]; exact below2 _ _ _
  have SE_w0 : Hid (ReadsE w0 (.slice (some ⟨w.heap.size + 1, 0, none⟩) 1 1) (ups [(0, 1, [7])])) := by
    rw [hw0]
    exact readsE_lit _ 0 1 _ [7] _ (by rw [size_alloc]) (reads_lit w [7] _ rfl _ rfl _ rfl (by decide)) (by decide)
  rw [← hw0]
  clear hw0
  have HB_w0 : Hid (Below w.heap.size w w0) := hb0
  have L_w0 : Hid (Reads w0 (.slice a1 l.length cap1) l) := L_w.out.below hb0
  have E_w0 : Hid (ReadsE w0 v2 es) := E_w.out.below hb0
  clear L_w E_w
  clear hb0
  refine (over_ok _ _ 1 [(0, 1, [7])] [(0, 1, [7])] true w0 SE_w0.out SE_w0.out one_fits one_fits).mono ?_
  rw [one_over]
  rintro e w1 ⟨hb, v4, rfl, ho⟩
  have O_w1 : Hid (ReadsE w1 v4 (ups [(0, 0, [7])])) := ho.reads
  have HB_w1 : Hid (Below w.heap.size w w1) := below_trans HB_w0.out hb HB_w0.out.size
  have L_w1 : Hid (Reads w1 (.slice a1 l.length cap1) l) := L_w0.out.below hb
  have E_w1 : Hid (ReadsE w1 v2 es) := E_w0.out.below hb
  have SE_w1 : Hid (ReadsE w1 (.slice (some ⟨w.heap.size + 1, 0, none⟩) 1 1) (ups [(0, 1, [7])])) := SE_w0.out.below hb
  clear L_w0 E_w0 SE_w0 HB_w0
  clear ho hb
  clear SE_w1
  go_wp2_with fail
  obtain ⟨w2, hw2⟩ : ∃ w2, w2 = (w1.alloc (.cells #[.int .i64 7] 3)).alloc (.cells #[.int .i64 0, .int .i64 0, .slice (some ⟨w1.heap.size, 0, none⟩) 1 1] 41) := ⟨_, rfl⟩
  have hb2 : Below w1.heap.size w1 w2 := by rw [hw2]; exact below2 _ _ _
  have SM_w2 : Hid (ReadsE w2 (.slice (some ⟨w1.heap.size + 1, 0, none⟩) 1 1) (ups [(0, 0, [7])])) := by
    rw [hw2]
    exact readsE_lit _ 0 0 _ [7] _ (by rw [size_alloc]) (reads_lit w1 [7] _ rfl _ rfl _ rfl (by decide)) (by decide)
  rw [← hw2]
  clear hw2
  have HB_w2 : Hid (Below w.heap.size w w2) := below_trans HB_w1.out hb2 HB_w1.out.size
  have L_w2 : Hid (Reads w2 (.slice a1 l.length cap1) l) := L_w1.out.below hb2
  have E_w2 : Hid (ReadsE w2 v2 es) := E_w1.out.below hb2
  have O_w2 : Hid (ReadsE w2 v4 (ups [(0, 0, [7])])) := O_w1.out.below hb2
  clear L_w1 E_w1 O_w1 HB_w1
  clear hb2
  refine (same_any _ _ _ _ w2 O_w2.out SM_w2.out).mono ?_
  rw [decide_eq_true rfl]
  rintro e w3 ⟨rfl, hb⟩
  have HB_w3 : Hid (Below w.heap.size w w3) := below_trans HB_w2.out hb HB_w2.out.size
  have L_w3 : Hid (Reads w3 (.slice a1 l.length cap1) l) := L_w2.out.below hb
  have E_w3 : Hid (ReadsE w3 v2 es) := E_w2.out.below hb
  have O_w3 : Hid (ReadsE w3 v4 (ups [(0, 0, [7])])) := O_w2.out.below hb
  have SM_w3 : Hid (ReadsE w3 (.slice (some ⟨w1.heap.size + 1, 0, none⟩) 1 1) (ups [(0, 0, [7])])) := SM_w2.out.below hb
  clear L_w2 E_w2 O_w2 SM_w2 HB_w2
  clear hb
  clear O_w3
  clear SM_w3
  go_wp2_with fail
  refine (apply_ok _ _ l ns w3 L_w3.out (by have := E_w3.out; rw [HES.out] at this; exact this) HR.out).mono ?_
  rintro e w4 ⟨hb, v5, rfl, ho⟩
  have M_w4 : Hid (Reads w4 v5 (app l 0 ns)) := ho.reads
  have HB_w4 : Hid (Below w.heap.size w w4) := below_trans HB_w3.out hb HB_w3.out.size
  have L_w4 : Hid (Reads w4 (.slice a1 l.length cap1) l) := L_w3.out.below hb
  have E_w4 : Hid (ReadsE w4 v2 es) := E_w3.out.below hb
  clear L_w3 E_w3 HB_w3
  clear ho hb
  go_wp2_with fail
  refine (over_ok _ _ l.length ns [] ahead w4 (by have := E_w4.out; rw [HES.out] at this; exact this) (readsE_nil _) HR.out.fits (fits_nil hll)).mono ?_
  rintro e w5 ⟨hb, v6, rfl, ho⟩
  have P_w5 : Hid (ReadsE w5 v6 (ups (ovr l.length ns [] ahead))) := ho.reads
  have HB_w5 : Hid (Below w.heap.size w w5) := below_trans HB_w4.out hb HB_w4.out.size
  have L_w5 : Hid (Reads w5 (.slice a1 l.length cap1) l) := L_w4.out.below hb
  have E_w5 : Hid (ReadsE w5 v2 es) := E_w4.out.below hb
  have M_w5 : Hid (Reads w5 v5 (app l 0 ns)) := M_w4.out.below hb
  clear L_w4 E_w4 M_w4 HB_w4
  clear ho hb
  go_wp2_with fail
  refine (apply_ok _ _ l (ovr l.length ns [] ahead) w5 L_w5.out P_w5.out HN.out.2).mono ?_
  rw [HN.out.1]
  rintro e w6 ⟨hb, v7, rfl, ho⟩
  have B_w6 : Hid (Reads w6 v7 (app l 0 ns)) := ho.reads
  have HB_w6 : Hid (Below w.heap.size w w6) := below_trans HB_w5.out hb HB_w5.out.size
  have L_w6 : Hid (Reads w6 (.slice a1 l.length cap1) l) := L_w5.out.below hb
  have E_w6 : Hid (ReadsE w6 v2 es) := E_w5.out.below hb
  have M_w6 : Hid (Reads w6 v5 (app l 0 ns)) := M_w5.out.below hb
  have P_w6 : Hid (ReadsE w6 v6 (ups (ovr l.length ns [] ahead))) := P_w5.out.below hb
  clear L_w5 E_w5 M_w5 P_w5 HB_w5
  clear ho hb
  clear P_w6
  go_wp2_with fail
  refine (over_ok _ _ l.length [] ns ahead w6 (readsE_nil _) (by have := E_w6.out; rw [HES.out] at this; exact this) (fits_nil hll) HR.out.fits).mono ?_
  rw [ovr_of_nil]
  rintro e w7 ⟨hb, v8, rfl, ho⟩
  obtain ⟨a8, c8, hv8⟩ := ho.reads.shape
  have hv9 : v8 = .slice a8 0 c8 := hv8
  clear hv8
  subst hv9
  have HB_w7 : Hid (Below w.heap.size w w7) := below_trans HB_w6.out hb HB_w6.out.size
  have L_w7 : Hid (Reads w7 (.slice a1 l.length cap1) l) := L_w6.out.below hb
  have E_w7 : Hid (ReadsE w7 v2 es) := E_w6.out.below hb
  have M_w7 : Hid (Reads w7 v5 (app l 0 ns)) := M_w6.out.below hb
  have B_w7 : Hid (Reads w7 v7 (app l 0 ns)) := B_w6.out.below hb
  clear L_w6 E_w6 M_w6 B_w6 HB_w6
  clear ho hb
  go_wp2_with fail
  refine (equal_any _ _ _ _ w7 M_w7.out B_w7.out (by unfold maxLen; omega) (by unfold maxLen; omega)).mono ?_
  rw [beq_self_eq_true]
  rintro e w8 ⟨rfl, q, hq⟩
  have hb : Below w7.heap.size w7 w8 := by rw [hq]; exact below_drewN (Below.refl _ _) q
  have HB_w8 : Hid (Below w.heap.size w w8) := below_trans HB_w7.out hb HB_w7.out.size
  have L_w8 : Hid (Reads w8 (.slice a1 l.length cap1) l) := L_w7.out.below hb
  have E_w8 : Hid (ReadsE w8 v2 es) := E_w7.out.below hb
  have M_w8 : Hid (Reads w8 v5 (app l 0 ns)) := M_w7.out.below hb
  have B_w8 : Hid (Reads w8 v7 (app l 0 ns)) := B_w7.out.below hb
  clear L_w7 E_w7 M_w7 B_w7 HB_w7
  clear hb hq q
  go_wp2_with fail
  go_ret
  exact ⟨rfl, HB_w8.out⟩
set_option maxRecDepth 100000 in
set_option maxHeartbeats 8000000 in
theorem none_err (v1 v2 : Value) (l : List Int) (es : List Spl) (ahead : Bool) (w : World) (h1 : Reads w v1 l) (h2 : ReadsE w v2 es) (hl8 : l.length * 8 ≤ 140737488351232)
    (hbad : chk (l.length : Int) es ≠ 0) :
    Calls Try.prog 7 #[v1, v2, .bool ahead] w fun e w' => e = .returned (.bool true) ∧ Below w.heap.size w w' := by
  obtain ⟨a1, cap1, rfl⟩ := h1.shape
  have L_w : Hid (Reads w (.slice a1 l.length cap1) l) := h1
  have E_w : Hid (ReadsE w v2 es) := h2
  obtain ⟨c, hc⟩ : ∃ c, c = chk (l.length : Int) es := ⟨_, rfl⟩
  have HC : Hid (c = chk (l.length : Int) es) := hc
  have hcb : (c != 0) = true := by rw [hc]; simpa using hbad
  have Hbad : Hid (chk (l.length : Int) es ≠ 0) := hbad
  clear hbad hc
  clear h1 h2
  go_enter Try.func7, Try.ntmps7
  go_wp2_with fail
  obtain ⟨w0, hw0⟩ : ∃ w0, w0 = ((w.alloc (.cells #[.int .i64 7] 3)).alloc (.cells #[.int .i64 0, .int .i64 1, .slice (some ⟨w.heap.size, 0, none⟩) 1 1] 41)) := ⟨_, rfl⟩
  have hb0 : Below w.heap.size w w0 := by rw [hw0]; exact below2 _ _ _
  have SE_w0 : Hid (ReadsE w0 (.slice (some ⟨w.heap.size + 1, 0, none⟩) 1 1) (ups [(0, 1, [7])])) := by
    rw [hw0]
    exact readsE_lit _ 0 1 _ [7] _ (by rw [size_alloc]) (reads_lit w [7] _ rfl _ rfl _ rfl (by decide)) (by decide)
  rw [← hw0]
  clear hw0
  have HB_w0 : Hid (Below w.heap.size w w0) := hb0
  have L_w0 : Hid (Reads w0 (.slice a1 l.length cap1) l) := L_w.out.below hb0
  have E_w0 : Hid (ReadsE w0 v2 es) := E_w.out.below hb0
  clear L_w E_w
  clear hb0
  refine (over_ok _ _ 1 [(0, 1, [7])] [(0, 1, [7])] true w0 SE_w0.out SE_w0.out one_fits one_fits).mono ?_
  rw [one_over]
  rintro e w1 ⟨hb, v4, rfl, ho⟩
  have O_w1 : Hid (ReadsE w1 v4 (ups [(0, 0, [7])])) := ho.reads
  have HB_w1 : Hid (Below w.heap.size w w1) := below_trans HB_w0.out hb HB_w0.out.size
  have L_w1 : Hid (Reads w1 (.slice a1 l.length cap1) l) := L_w0.out.below hb
  have E_w1 : Hid (ReadsE w1 v2 es) := E_w0.out.below hb
  have SE_w1 : Hid (ReadsE w1 (.slice (some ⟨w.heap.size + 1, 0, none⟩) 1 1) (ups [(0, 1, [7])])) := SE_w0.out.below hb
  clear L_w0 E_w0 SE_w0 HB_w0
  clear ho hb
  clear SE_w1
  go_wp2_with fail
  obtain ⟨w2, hw2⟩ : ∃ w2, w2 = (w1.alloc (.cells #[.int .i64 7] 3)).alloc (.cells #[.int .i64 0, .int .i64 0, .slice (some ⟨w1.heap.size, 0, none⟩) 1 1] 41) := ⟨_, rfl⟩
  have hb2 : Below w1.heap.size w1 w2 := by rw [hw2]; exact below2 _ _ _
  have SM_w2 : Hid (ReadsE w2 (.slice (some ⟨w1.heap.size + 1, 0, none⟩) 1 1) (ups [(0, 0, [7])])) := by
    rw [hw2]
    exact readsE_lit _ 0 0 _ [7] _ (by rw [size_alloc]) (reads_lit w1 [7] _ rfl _ rfl _ rfl (by decide)) (by decide)
  rw [← hw2]
  clear hw2
  have HB_w2 : Hid (Below w.heap.size w w2) := below_trans HB_w1.out hb2 HB_w1.out.size
  have L_w2 : Hid (Reads w2 (.slice a1 l.length cap1) l) := L_w1.out.below hb2
  have E_w2 : Hid (ReadsE w2 v2 es) := E_w1.out.below hb2
  have O_w2 : Hid (ReadsE w2 v4 (ups [(0, 0, [7])])) := O_w1.out.below hb2
  clear L_w1 E_w1 O_w1 HB_w1
  clear hb2
  refine (same_any _ _ _ _ w2 O_w2.out SM_w2.out).mono ?_
  rw [decide_eq_true rfl]
  rintro e w3 ⟨rfl, hb⟩
  have HB_w3 : Hid (Below w.heap.size w w3) := below_trans HB_w2.out hb HB_w2.out.size
  have L_w3 : Hid (Reads w3 (.slice a1 l.length cap1) l) := L_w2.out.below hb
  have E_w3 : Hid (ReadsE w3 v2 es) := E_w2.out.below hb
  have O_w3 : Hid (ReadsE w3 v4 (ups [(0, 0, [7])])) := O_w2.out.below hb
  have SM_w3 : Hid (ReadsE w3 (.slice (some ⟨w1.heap.size + 1, 0, none⟩) 1 1) (ups [(0, 0, [7])])) := SM_w2.out.below hb
  clear L_w2 E_w2 O_w2 SM_w2 HB_w2
  clear hb
  clear O_w3
  clear SM_w3
  go_wp2_with fail
  refine (apply_err _ _ l es w3 L_w3.out E_w3.out Hbad.out).mono ?_
  rw [← HC.out]
  rintro e w4 ⟨hb, rfl⟩
  have HB_w4 : Hid (Below w.heap.size w w4) := below_trans HB_w3.out hb HB_w3.out.size
  have L_w4 : Hid (Reads w4 (.slice a1 l.length cap1) l) := L_w3.out.below hb
  have E_w4 : Hid (ReadsE w4 v2 es) := E_w3.out.below hb
  clear L_w3 E_w3 HB_w3
  clear hb
  go_wp2_with fail
  go_ret
  exact ⟨rfl, HB_w4.out⟩
theorem none_walk (v1 v2 : Value) (l : List Int) (es : List Spl) (ahead : Bool) (w : World) (h1 : Reads w v1 l) (h2 : ReadsE w v2 es) (hl8 : l.length * 8 ≤ 140737488351232) (_ : es.length * 40 ≤ 140737488351232) :
    Calls Try.prog 7 #[v1, v2, .bool ahead] w fun e w' => e = .returned (.bool true) ∧ Below w.heap.size w w' := by
  by_cases hb : chk (l.length : Int) es = 0
  · obtain ⟨ns, he, hR⟩ := chk_ok hb
    exact none_ok v1 v2 l es ahead w h1 h2 hl8 ns he hR
  · exact none_err v1 v2 l es ahead w h1 h2 hl8 hb
end Go.Proofs.Ytpgecholpbpakaa.Seek
