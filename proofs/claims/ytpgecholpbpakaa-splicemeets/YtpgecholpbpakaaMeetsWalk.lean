/- The walk of SpliceMeets. -/
import Derived.Test.YtpgecholpbpakaaOverGo
import Derived.Test.YtpgecholpbpakaaSameGo
import Derived.Test.YtpgecholpbpakaaLiterals
set_option linter.unusedVariables false
set_option linter.unusedSimpArgs false
namespace Go.Proofs.Ytpgecholpbpakaa.Seek
open Go.RowKit Plain

theorem x_fits : Fits 2 [(1, 1, [7])] := ⟨by decide, ⟨by decide, by decide, by decide, .inr (by decide), trivial⟩, by decide⟩
theorem y_fits : Fits 2 [(0, 1, [])] := ⟨by decide, ⟨by decide, by decide, by decide, .inl (by decide), trivial⟩, by decide⟩
theorem xy_over : ovr 2 [(1, 1, [7])] [(0, 1, [])] true = [(0, 0, [7])] := by decide +kernel

set_option maxRecDepth 100000 in
set_option maxHeartbeats 8000000 in
theorem meets_err1 (v1 v2 v3 : Value) (l : List Int) (es fs : List Spl) (ahead : Bool) (w : World) (h1 : Reads w v1 l) (h2 : ReadsE w v2 es) (h3 : ReadsE w v3 fs) (hl8 : l.length * 8 ≤ 140737488351232)
    (hbad : chk (l.length : Int) es ≠ 0) :
    Calls Try.prog 6 #[v1, v2, v3, .bool ahead] w fun e w' => e = .returned (.bool true) ∧ Below w.heap.size w w' := by
  obtain ⟨a1, cap1, rfl⟩ := h1.shape
  have L_w : Hid (Reads w (.slice a1 l.length cap1) l) := h1
  have E_w : Hid (ReadsE w v2 es) := h2
  have F_w : Hid (ReadsE w v3 fs) := h3
  obtain ⟨c, hc⟩ : ∃ c, c = chk (l.length : Int) es := ⟨_, rfl⟩
  have HC : Hid (c = chk (l.length : Int) es) := hc
  have hcb : (c != 0) = true := by rw [hc]; simpa using hbad
  have Hbad : Hid (chk (l.length : Int) es ≠ 0) := hbad
  clear hbad hc
  clear h1 h2 h3
  go_enter Try.func6, Try.ntmps6
  go_wp2_with fail
  obtain ⟨w0, hw0⟩ : ∃ w0, w0 = (((w.alloc (.cells #[.int .i64 7] 3)).alloc (.cells #[.int .i64 1, .int .i64 1, .slice (some ⟨w.heap.size, 0, none⟩) 1 1] 41)).alloc (.cells #[.int .i64 0, .int .i64 1, .slice none 0 0] 41)) := ⟨_, rfl⟩
  have hb0 : Below w.heap.size w w0 := by rw [hw0]; exact below3 _ _ _ _
  have SX_w0 : Hid (ReadsE w0 (.slice (some ⟨w.heap.size + 1, 0, none⟩) 1 1) (ups [(1, 1, [7])])) := by
    rw [hw0]
    exact (readsE_lit _ 1 1 _ [7] _ (by rw [size_alloc]) (reads_lit w [7] _ rfl _ rfl _ rfl (by decide)) (by decide)).below (box_below _ _)
  have SY_w0 : Hid (ReadsE w0 (.slice (some ⟨w.heap.size + 1 + 1, 0, none⟩) 1 1) (ups [(0, 1, [])])) := by
    rw [hw0]
    exact readsE_lit _ 0 1 _ [] _ (by rw [size_alloc, size_alloc]) (reads_nil _ _ _) (by decide)
  rw [← hw0]
  clear hw0
  have HB_w0 : Hid (Below w.heap.size w w0) := hb0
  have L_w0 : Hid (Reads w0 (.slice a1 l.length cap1) l) := L_w.out.below hb0
  have E_w0 : Hid (ReadsE w0 v2 es) := E_w.out.below hb0
  have F_w0 : Hid (ReadsE w0 v3 fs) := F_w.out.below hb0
  clear L_w E_w F_w
  clear hb0
  refine (over_ok _ _ 2 [(1, 1, [7])] [(0, 1, [])] true w0 SX_w0.out SY_w0.out x_fits y_fits).mono ?_
  rw [xy_over]
  rintro e w1 ⟨hb, v4, rfl, ho⟩
  have O_w1 : Hid (ReadsE w1 v4 (ups [(0, 0, [7])])) := ho.reads
  have HB_w1 : Hid (Below w.heap.size w w1) := below_trans HB_w0.out hb HB_w0.out.size
  have L_w1 : Hid (Reads w1 (.slice a1 l.length cap1) l) := L_w0.out.below hb
  have E_w1 : Hid (ReadsE w1 v2 es) := E_w0.out.below hb
  have F_w1 : Hid (ReadsE w1 v3 fs) := F_w0.out.below hb
  have SX_w1 : Hid (ReadsE w1 (.slice (some ⟨w.heap.size + 1, 0, none⟩) 1 1) (ups [(1, 1, [7])])) := SX_w0.out.below hb
  have SY_w1 : Hid (ReadsE w1 (.slice (some ⟨w.heap.size + 1 + 1, 0, none⟩) 1 1) (ups [(0, 1, [])])) := SY_w0.out.below hb
  clear L_w0 E_w0 F_w0 SX_w0 SY_w0 HB_w0
  clear ho hb
  clear SX_w1
  clear SY_w1
  go_wp2_with fail
  obtain ⟨w2, hw2⟩ : ∃ w2, w2 = (w1.alloc (.cells #[.int .i64 7] 3)).alloc (.cells #[.int .i64 0, .int .i64 0, .slice (some ⟨w1.heap.size, 0, none⟩) 1 1] 41) := ⟨_, rfl⟩
  have hb2 : Below w1.heap.size w1 w2 := by rw [hw2]; exact below2 _ _ _
  have SM_w2 : Hid (ReadsE w2 (.slice (some ⟨w1.heap.size + 1, 0, none⟩) 1 1) (ups [(0, 0, [7])])) := by
    rw [hw2]
    exact readsE_lit _ 0 0 _ [7] _ (by rw [size_alloc]) (reads_lit w1 [7] _ rfl _ rfl _ rfl (by decide)) (by decide)
  rw [← hw2]
  clear hw2
  have HB_w2 : Hid (Below w.heap.size w w2) := below_trans HB_w1.out hb2 HB_w1.out.size
  have L_w2 : Hid (Reads w2 (.slice a1 l.length cap1) l) := L_w1.out.below hb2
  have E_w2 : Hid (ReadsE w2 v2 es) := E_w1.out.below hb2
  have F_w2 : Hid (ReadsE w2 v3 fs) := F_w1.out.below hb2
  have O_w2 : Hid (ReadsE w2 v4 (ups [(0, 0, [7])])) := O_w1.out.below hb2
  clear L_w1 E_w1 F_w1 O_w1 HB_w1
  clear hb2
  refine (same_any _ _ _ _ w2 O_w2.out SM_w2.out).mono ?_
  rw [decide_eq_true rfl]
  rintro e w3 ⟨rfl, hb⟩
  have HB_w3 : Hid (Below w.heap.size w w3) := below_trans HB_w2.out hb HB_w2.out.size
  have L_w3 : Hid (Reads w3 (.slice a1 l.length cap1) l) := L_w2.out.below hb
  have E_w3 : Hid (ReadsE w3 v2 es) := E_w2.out.below hb
  have F_w3 : Hid (ReadsE w3 v3 fs) := F_w2.out.below hb
  have O_w3 : Hid (ReadsE w3 v4 (ups [(0, 0, [7])])) := O_w2.out.below hb
  have SM_w3 : Hid (ReadsE w3 (.slice (some ⟨w1.heap.size + 1, 0, none⟩) 1 1) (ups [(0, 0, [7])])) := SM_w2.out.below hb
  clear L_w2 E_w2 F_w2 O_w2 SM_w2 HB_w2
  clear hb
  clear O_w3
  clear SM_w3
  go_wp2_with fail
  refine (apply_err _ _ l es w3 L_w3.out E_w3.out Hbad.out).mono ?_
  rw [← HC.out]
  rintro e w4 ⟨hb, rfl⟩
  have HB_w4 : Hid (Below w.heap.size w w4) := below_trans HB_w3.out hb HB_w3.out.size
  have L_w4 : Hid (Reads w4 (.slice a1 l.length cap1) l) := L_w3.out.below hb
  have E_w4 : Hid (ReadsE w4 v2 es) := E_w3.out.below hb
  have F_w4 : Hid (ReadsE w4 v3 fs) := F_w3.out.below hb
  clear L_w3 E_w3 F_w3 HB_w3
  clear hb
  go_wp2_with fail
  by_cases hf : chk (l.length : Int) fs = 0
  · obtain ⟨bs, hfs, hS⟩ := chk_ok hf
    refine (apply_ok _ _ l bs w4 L_w4.out (by have := F_w4.out; rw [hfs] at this; exact this) hS).mono ?_
    rintro e w5 ⟨hb, v6, rfl, ho⟩
    have HB_w5 : Hid (Below w.heap.size w w5) := below_trans HB_w4.out hb HB_w4.out.size
    have L_w5 : Hid (Reads w5 (.slice a1 l.length cap1) l) := L_w4.out.below hb
    have E_w5 : Hid (ReadsE w5 v2 es) := E_w4.out.below hb
    have F_w5 : Hid (ReadsE w5 v3 fs) := F_w4.out.below hb
    clear L_w4 E_w4 F_w4 HB_w4
    clear ho hb hf hfs hS
    go_wp2_with fail
    go_ret
    exact ⟨rfl, HB_w5.out⟩
  · obtain ⟨d, hd⟩ : ∃ d, d = chk (l.length : Int) fs := ⟨_, rfl⟩
    have HD : Hid (d = chk (l.length : Int) fs) := hd
    have Hf : Hid (chk (l.length : Int) fs ≠ 0) := hf
    clear hd hf
    refine (apply_err _ _ l fs w4 L_w4.out F_w4.out Hf.out).mono ?_
    rw [← HD.out]
    rintro e w5 ⟨hb, rfl⟩
    have HB_w5 : Hid (Below w.heap.size w w5) := below_trans HB_w4.out hb HB_w4.out.size
    have L_w5 : Hid (Reads w5 (.slice a1 l.length cap1) l) := L_w4.out.below hb
    have E_w5 : Hid (ReadsE w5 v2 es) := E_w4.out.below hb
    have F_w5 : Hid (ReadsE w5 v3 fs) := F_w4.out.below hb
    clear L_w4 E_w4 F_w4 HB_w4
    clear hb
    go_wp2_with fail
    go_ret
    exact ⟨rfl, HB_w5.out⟩
set_option maxRecDepth 100000 in
set_option maxHeartbeats 8000000 in
theorem meets_err2 (v1 v2 v3 : Value) (l : List Int) (es fs : List Spl) (ahead : Bool) (w : World) (h1 : Reads w v1 l) (h2 : ReadsE w v2 es) (h3 : ReadsE w v3 fs) (hl8 : l.length * 8 ≤ 140737488351232)
    (xa : List Nsp) (hes : es = ups xa) (hR : Right l xa) (hbad : chk (l.length : Int) fs ≠ 0) :
    Calls Try.prog 6 #[v1, v2, v3, .bool ahead] w fun e w' => e = .returned (.bool true) ∧ Below w.heap.size w w' := by
  obtain ⟨a1, cap1, rfl⟩ := h1.shape
  have L_w : Hid (Reads w (.slice a1 l.length cap1) l) := h1
  have E_w : Hid (ReadsE w v2 es) := h2
  have F_w : Hid (ReadsE w v3 fs) := h3
  have HR : Hid (Right l xa) := hR
  have HES : Hid (es = ups xa) := hes
  have hll := hR.1
  have hfA := hR.2.2
  clear hes hR
  obtain ⟨c, hc⟩ : ∃ c, c = chk (l.length : Int) fs := ⟨_, rfl⟩
  have HC : Hid (c = chk (l.length : Int) fs) := hc
  have hcb : (c != 0) = true := by rw [hc]; simpa using hbad
  have Hbad : Hid (chk (l.length : Int) fs ≠ 0) := hbad
  clear hbad hc
  clear h1 h2 h3
  go_enter Try.func6, Try.ntmps6
  go_wp2_with fail
  obtain ⟨w0, hw0⟩ : ∃ w0, w0 = (((w.alloc (.cells #[.int .i64 7] 3)).alloc (.cells #[.int .i64 1, .int .i64 1, .slice (some ⟨w.heap.size, 0, none⟩) 1 1] 41)).alloc (.cells #[.int .i64 0, .int .i64 1, .slice none 0 0] 41)) := ⟨_, rfl⟩
  have hb0 : Below w.heap.size w w0 := by rw [hw0]; exact below3 _ _ _ _
  have SX_w0 : Hid (ReadsE w0 (.slice (some ⟨w.heap.size + 1, 0, none⟩) 1 1) (ups [(1, 1, [7])])) := by
    rw [hw0]
    exact (readsE_lit _ 1 1 _ [7] _ (by rw [size_alloc]) (reads_lit w [7] _ rfl _ rfl _ rfl (by decide)) (by decide)).below (box_below _ _)
  have SY_w0 : Hid (ReadsE w0 (.slice (some ⟨w.heap.size + 1 + 1, 0, none⟩) 1 1) (ups [(0, 1, [])])) := by
    rw [hw0]
    exact readsE_lit _ 0 1 _ [] _ (by rw [size_alloc, size_alloc]) (reads_nil _ _ _) (by decide)
  rw [← hw0]
  clear hw0
  have HB_w0 : Hid (Below w.heap.size w w0) := hb0
  have L_w0 : Hid (Reads w0 (.slice a1 l.length cap1) l) := L_w.out.below hb0
  have E_w0 : Hid (ReadsE w0 v2 es) := E_w.out.below hb0
  have F_w0 : Hid (ReadsE w0 v3 fs) := F_w.out.below hb0
  clear L_w E_w F_w
  clear hb0
  refine (over_ok _ _ 2 [(1, 1, [7])] [(0, 1, [])] true w0 SX_w0.out SY_w0.out x_fits y_fits).mono ?_
  rw [xy_over]
  rintro e w1 ⟨hb, v4, rfl, ho⟩
  have O_w1 : Hid (ReadsE w1 v4 (ups [(0, 0, [7])])) := ho.reads
  have HB_w1 : Hid (Below w.heap.size w w1) := below_trans HB_w0.out hb HB_w0.out.size
  have L_w1 : Hid (Reads w1 (.slice a1 l.length cap1) l) := L_w0.out.below hb
  have E_w1 : Hid (ReadsE w1 v2 es) := E_w0.out.below hb
  have F_w1 : Hid (ReadsE w1 v3 fs) := F_w0.out.below hb
  have SX_w1 : Hid (ReadsE w1 (.slice (some ⟨w.heap.size + 1, 0, none⟩) 1 1) (ups [(1, 1, [7])])) := SX_w0.out.below hb
  have SY_w1 : Hid (ReadsE w1 (.slice (some ⟨w.heap.size + 1 + 1, 0, none⟩) 1 1) (ups [(0, 1, [])])) := SY_w0.out.below hb
  clear L_w0 E_w0 F_w0 SX_w0 SY_w0 HB_w0
  clear ho hb
  clear SX_w1
  clear SY_w1
  go_wp2_with fail
  obtain ⟨w2, hw2⟩ : ∃ w2, w2 = (w1.alloc (.cells #[.int .i64 7] 3)).alloc (.cells #[.int .i64 0, .int .i64 0, .slice (some ⟨w1.heap.size, 0, none⟩) 1 1] 41) := ⟨_, rfl⟩
  have hb2 : Below w1.heap.size w1 w2 := by rw [hw2]; exact below2 _ _ _
  have SM_w2 : Hid (ReadsE w2 (.slice (some ⟨w1.heap.size + 1, 0, none⟩) 1 1) (ups [(0, 0, [7])])) := by
    rw [hw2]
    exact readsE_lit _ 0 0 _ [7] _ (by rw [size_alloc]) (reads_lit w1 [7] _ rfl _ rfl _ rfl (by decide)) (by decide)
  rw [← hw2]
  clear hw2
  have HB_w2 : Hid (Below w.heap.size w w2) := below_trans HB_w1.out hb2 HB_w1.out.size
  have L_w2 : Hid (Reads w2 (.slice a1 l.length cap1) l) := L_w1.out.below hb2
  have E_w2 : Hid (ReadsE w2 v2 es) := E_w1.out.below hb2
  have F_w2 : Hid (ReadsE w2 v3 fs) := F_w1.out.below hb2
  have O_w2 : Hid (ReadsE w2 v4 (ups [(0, 0, [7])])) := O_w1.out.below hb2
  clear L_w1 E_w1 F_w1 O_w1 HB_w1
  clear hb2
  refine (same_any _ _ _ _ w2 O_w2.out SM_w2.out).mono ?_
  rw [decide_eq_true rfl]
  rintro e w3 ⟨rfl, hb⟩
  have HB_w3 : Hid (Below w.heap.size w w3) := below_trans HB_w2.out hb HB_w2.out.size
  have L_w3 : Hid (Reads w3 (.slice a1 l.length cap1) l) := L_w2.out.below hb
  have E_w3 : Hid (ReadsE w3 v2 es) := E_w2.out.below hb
  have F_w3 : Hid (ReadsE w3 v3 fs) := F_w2.out.below hb
  have O_w3 : Hid (ReadsE w3 v4 (ups [(0, 0, [7])])) := O_w2.out.below hb
  have SM_w3 : Hid (ReadsE w3 (.slice (some ⟨w1.heap.size + 1, 0, none⟩) 1 1) (ups [(0, 0, [7])])) := SM_w2.out.below hb
  clear L_w2 E_w2 F_w2 O_w2 SM_w2 HB_w2
  clear hb
  clear O_w3
  clear SM_w3
  go_wp2_with fail
  refine (apply_ok _ _ l xa w3 L_w3.out (by have := E_w3.out; rw [HES.out] at this; exact this) HR.out).mono ?_
  rintro e w4 ⟨hb, v5, rfl, ho⟩
  have M_w4 : Hid (Reads w4 v5 (app l 0 xa)) := ho.reads
  have HB_w4 : Hid (Below w.heap.size w w4) := below_trans HB_w3.out hb HB_w3.out.size
  have L_w4 : Hid (Reads w4 (.slice a1 l.length cap1) l) := L_w3.out.below hb
  have E_w4 : Hid (ReadsE w4 v2 es) := E_w3.out.below hb
  have F_w4 : Hid (ReadsE w4 v3 fs) := F_w3.out.below hb
  clear L_w3 E_w3 F_w3 HB_w3
  clear ho hb
  go_wp2_with fail
  refine (apply_err _ _ l fs w4 L_w4.out F_w4.out Hbad.out).mono ?_
  rw [← HC.out]
  rintro e w5 ⟨hb, rfl⟩
  have HB_w5 : Hid (Below w.heap.size w w5) := below_trans HB_w4.out hb HB_w4.out.size
  have L_w5 : Hid (Reads w5 (.slice a1 l.length cap1) l) := L_w4.out.below hb
  have E_w5 : Hid (ReadsE w5 v2 es) := E_w4.out.below hb
  have F_w5 : Hid (ReadsE w5 v3 fs) := F_w4.out.below hb
  have M_w5 : Hid (Reads w5 v5 (app l 0 xa)) := M_w4.out.below hb
  clear L_w4 E_w4 F_w4 M_w4 HB_w4
  clear hb
  go_wp2_with fail
  go_ret
  exact ⟨rfl, HB_w5.out⟩
set_option maxRecDepth 100000 in
set_option maxHeartbeats 8000000 in
theorem meets_ok (v1 v2 v3 : Value) (l : List Int) (es fs : List Spl) (ahead : Bool) (w : World) (h1 : Reads w v1 l) (h2 : ReadsE w v2 es) (h3 : ReadsE w v3 fs) (hl8 : l.length * 8 ≤ 140737488351232)
    (xa bs : List Nsp) (hes : es = ups xa) (hfs : fs = ups bs) (hR : Right l xa) (hS : Right l bs) (hfit : (app (app l 0 xa) 0 (ovr l.length bs xa (!ahead))).length ≤ 4096) :
    Calls Try.prog 6 #[v1, v2, v3, .bool ahead] w fun e w' => e = .returned (.bool true) ∧ Below w.heap.size w w' := by
  obtain ⟨a1, cap1, rfl⟩ := h1.shape
  have L_w : Hid (Reads w (.slice a1 l.length cap1) l) := h1
  have E_w : Hid (ReadsE w v2 es) := h2
  have F_w : Hid (ReadsE w v3 fs) := h3
  have HR : Hid (Right l xa) := hR
  have HES : Hid (es = ups xa) := hes
  have hll := hR.1
  have hfA := hR.2.2
  have HS : Hid (Right l bs) := hS
  have HFS : Hid (fs = ups bs) := hfs
  have hfB := hS.2.2
  have HO1 : Hid (Okay (app l 0 xa).length 0 (ovr l.length bs xa (!ahead))) := ovr_okay l bs xa _ hR.2.1
  have HO2 : Hid (Okay (app l 0 bs).length 0 (ovr l.length xa bs ahead)) := ovr_okay l xa bs _ hS.2.1
  have HM : Hid (app (app l 0 bs) 0 (ovr l.length xa bs ahead) = app (app l 0 xa) 0 (ovr l.length bs xa (!ahead))) := (ovr_meet l xa bs ahead hR.2.1 hS.2.1).symm
  have HR1 : Hid (Right (app l 0 xa) (ovr l.length bs xa (!ahead))) := ⟨hfA, HO1.out, hfit⟩
  have HR2 : Hid (Right (app l 0 bs) (ovr l.length xa bs ahead)) := ⟨hfB, HO2.out, by rw [HM.out]; exact hfit⟩
  clear hfs hS
  clear hes hR
  clear h1 h2 h3
  go_enter Try.func6, Try.ntmps6
  go_wp2_with fail
  obtain ⟨w0, hw0⟩ : ∃ w0, w0 = (((w.alloc (.cells #[.int .i64 7] 3)).alloc (.cells #[.int .i64 1, .int .i64 1, .slice (some ⟨w.heap.size, 0, none⟩) 1 1] 41)).alloc (.cells #[.int .i64 0, .int .i64 1, .slice none 0 0] 41)) := ⟨_, rfl⟩
  have hb0 : Below w.heap.size w w0 := by rw [hw0]; exact below3 _ _ _ _
  have SX_w0 : Hid (ReadsE w0 (.slice (some ⟨w.heap.size + 1, 0, none⟩) 1 1) (ups [(1, 1, [7])])) := by
    rw [hw0]
    exact (readsE_lit _ 1 1 _ [7] _ (by rw [size_alloc]) (reads_lit w [7] _ rfl _ rfl _ rfl (by decide)) (by decide)).below (box_below _ _)
  have SY_w0 : Hid (ReadsE w0 (.slice (some ⟨w.heap.size + 1 + 1, 0, none⟩) 1 1) (ups [(0, 1, [])])) := by
    rw [hw0]
    exact readsE_lit _ 0 1 _ [] _ (by rw [size_alloc, size_alloc]) (reads_nil _ _ _) (by decide)
  rw [← hw0]
  clear hw0
  have HB_w0 : Hid (Below w.heap.size w w0) := hb0
  have L_w0 : Hid (Reads w0 (.slice a1 l.length cap1) l) := L_w.out.below hb0
  have E_w0 : Hid (ReadsE w0 v2 es) := E_w.out.below hb0
  have F_w0 : Hid (ReadsE w0 v3 fs) := F_w.out.below hb0
  clear L_w E_w F_w
  clear hb0
  refine (over_ok _ _ 2 [(1, 1, [7])] [(0, 1, [])] true w0 SX_w0.out SY_w0.out x_fits y_fits).mono ?_
  rw [xy_over]
  rintro e w1 ⟨hb, v4, rfl, ho⟩
  have O_w1 : Hid (ReadsE w1 v4 (ups [(0, 0, [7])])) := ho.reads
  have HB_w1 : Hid (Below w.heap.size w w1) := below_trans HB_w0.out hb HB_w0.out.size
  have L_w1 : Hid (Reads w1 (.slice a1 l.length cap1) l) := L_w0.out.below hb
  have E_w1 : Hid (ReadsE w1 v2 es) := E_w0.out.below hb
  have F_w1 : Hid (ReadsE w1 v3 fs) := F_w0.out.below hb
  have SX_w1 : Hid (ReadsE w1 (.slice (some ⟨w.heap.size + 1, 0, none⟩) 1 1) (ups [(1, 1, [7])])) := SX_w0.out.below hb
  have SY_w1 : Hid (ReadsE w1 (.slice (some ⟨w.heap.size + 1 + 1, 0, none⟩) 1 1) (ups [(0, 1, [])])) := SY_w0.out.below hb
  clear L_w0 E_w0 F_w0 SX_w0 SY_w0 HB_w0
  clear ho hb
  clear SX_w1
  clear SY_w1
  go_wp2_with fail
  obtain ⟨w2, hw2⟩ : ∃ w2, w2 = (w1.alloc (.cells #[.int .i64 7] 3)).alloc (.cells #[.int .i64 0, .int .i64 0, .slice (some ⟨w1.heap.size, 0, none⟩) 1 1] 41) := ⟨_, rfl⟩
  have hb2 : Below w1.heap.size w1 w2 := by rw [hw2]; exact below2 _ _ _
  have SM_w2 : Hid (ReadsE w2 (.slice (some ⟨w1.heap.size + 1, 0, none⟩) 1 1) (ups [(0, 0, [7])])) := by
    rw [hw2]
    exact readsE_lit _ 0 0 _ [7] _ (by rw [size_alloc]) (reads_lit w1 [7] _ rfl _ rfl _ rfl (by decide)) (by decide)
  rw [← hw2]
  clear hw2
  have HB_w2 : Hid (Below w.heap.size w w2) := below_trans HB_w1.out hb2 HB_w1.out.size
  have L_w2 : Hid (Reads w2 (.slice a1 l.length cap1) l) := L_w1.out.below hb2
  have E_w2 : Hid (ReadsE w2 v2 es) := E_w1.out.below hb2
  have F_w2 : Hid (ReadsE w2 v3 fs) := F_w1.out.below hb2
  have O_w2 : Hid (ReadsE w2 v4 (ups [(0, 0, [7])])) := O_w1.out.below hb2
  clear L_w1 E_w1 F_w1 O_w1 HB_w1
  clear hb2
  refine (same_any _ _ _ _ w2 O_w2.out SM_w2.out).mono ?_
  rw [decide_eq_true rfl]
  rintro e w3 ⟨rfl, hb⟩
  have HB_w3 : Hid (Below w.heap.size w w3) := below_trans HB_w2.out hb HB_w2.out.size
  have L_w3 : Hid (Reads w3 (.slice a1 l.length cap1) l) := L_w2.out.below hb
  have E_w3 : Hid (ReadsE w3 v2 es) := E_w2.out.below hb
  have F_w3 : Hid (ReadsE w3 v3 fs) := F_w2.out.below hb
  have O_w3 : Hid (ReadsE w3 v4 (ups [(0, 0, [7])])) := O_w2.out.below hb
  have SM_w3 : Hid (ReadsE w3 (.slice (some ⟨w1.heap.size + 1, 0, none⟩) 1 1) (ups [(0, 0, [7])])) := SM_w2.out.below hb
  clear L_w2 E_w2 F_w2 O_w2 SM_w2 HB_w2
  clear hb
  clear O_w3
  clear SM_w3
  go_wp2_with fail
  refine (apply_ok _ _ l xa w3 L_w3.out (by have := E_w3.out; rw [HES.out] at this; exact this) HR.out).mono ?_
  rintro e w4 ⟨hb, v5, rfl, ho⟩
  have M_w4 : Hid (Reads w4 v5 (app l 0 xa)) := ho.reads
  have HB_w4 : Hid (Below w.heap.size w w4) := below_trans HB_w3.out hb HB_w3.out.size
  have L_w4 : Hid (Reads w4 (.slice a1 l.length cap1) l) := L_w3.out.below hb
  have E_w4 : Hid (ReadsE w4 v2 es) := E_w3.out.below hb
  have F_w4 : Hid (ReadsE w4 v3 fs) := F_w3.out.below hb
  clear L_w3 E_w3 F_w3 HB_w3
  clear ho hb
  go_wp2_with fail
  refine (apply_ok _ _ l bs w4 L_w4.out (by have := F_w4.out; rw [HFS.out] at this; exact this) HS.out).mono ?_
  rintro e w5 ⟨hb, v6, rfl, ho⟩
  have N_w5 : Hid (Reads w5 v6 (app l 0 bs)) := ho.reads
  have HB_w5 : Hid (Below w.heap.size w w5) := below_trans HB_w4.out hb HB_w4.out.size
  have L_w5 : Hid (Reads w5 (.slice a1 l.length cap1) l) := L_w4.out.below hb
  have E_w5 : Hid (ReadsE w5 v2 es) := E_w4.out.below hb
  have F_w5 : Hid (ReadsE w5 v3 fs) := F_w4.out.below hb
  have M_w5 : Hid (Reads w5 v5 (app l 0 xa)) := M_w4.out.below hb
  clear L_w4 E_w4 F_w4 M_w4 HB_w4
  clear ho hb
  go_wp2_with fail
  refine (over_ok _ _ l.length bs xa (!ahead) w5 (by have := F_w5.out; rw [HFS.out] at this; exact this) (by have := E_w5.out; rw [HES.out] at this; exact this) HS.out.fits HR.out.fits).mono ?_
  rintro e w6 ⟨hb, v7, rfl, ho⟩
  have P_w6 : Hid (ReadsE w6 v7 (ups (ovr l.length bs xa (!ahead)))) := ho.reads
  have HB_w6 : Hid (Below w.heap.size w w6) := below_trans HB_w5.out hb HB_w5.out.size
  have L_w6 : Hid (Reads w6 (.slice a1 l.length cap1) l) := L_w5.out.below hb
  have E_w6 : Hid (ReadsE w6 v2 es) := E_w5.out.below hb
  have F_w6 : Hid (ReadsE w6 v3 fs) := F_w5.out.below hb
  have M_w6 : Hid (Reads w6 v5 (app l 0 xa)) := M_w5.out.below hb
  have N_w6 : Hid (Reads w6 v6 (app l 0 bs)) := N_w5.out.below hb
  clear L_w5 E_w5 F_w5 M_w5 N_w5 HB_w5
  clear ho hb
  go_wp2_with fail
  refine (over_ok _ _ l.length xa bs ahead w6 (by have := E_w6.out; rw [HES.out] at this; exact this) (by have := F_w6.out; rw [HFS.out] at this; exact this) HR.out.fits HS.out.fits).mono ?_
  rintro e w7 ⟨hb, v8, rfl, ho⟩
  have Q_w7 : Hid (ReadsE w7 v8 (ups (ovr l.length xa bs ahead))) := ho.reads
  have HB_w7 : Hid (Below w.heap.size w w7) := below_trans HB_w6.out hb HB_w6.out.size
  have L_w7 : Hid (Reads w7 (.slice a1 l.length cap1) l) := L_w6.out.below hb
  have E_w7 : Hid (ReadsE w7 v2 es) := E_w6.out.below hb
  have F_w7 : Hid (ReadsE w7 v3 fs) := F_w6.out.below hb
  have M_w7 : Hid (Reads w7 v5 (app l 0 xa)) := M_w6.out.below hb
  have N_w7 : Hid (Reads w7 v6 (app l 0 bs)) := N_w6.out.below hb
  have P_w7 : Hid (ReadsE w7 v7 (ups (ovr l.length bs xa (!ahead)))) := P_w6.out.below hb
  clear L_w6 E_w6 F_w6 M_w6 N_w6 P_w6 HB_w6
  clear ho hb
  go_wp2_with fail
  refine (apply_ok _ _ (app l 0 xa) (ovr l.length bs xa (!ahead)) w7 M_w7.out P_w7.out HR1.out).mono ?_
  rintro e w8 ⟨hb, v9, rfl, ho⟩
  have U_w8 : Hid (Reads w8 v9 (app (app l 0 xa) 0 (ovr l.length bs xa (!ahead)))) := ho.reads
  have HB_w8 : Hid (Below w.heap.size w w8) := below_trans HB_w7.out hb HB_w7.out.size
  have L_w8 : Hid (Reads w8 (.slice a1 l.length cap1) l) := L_w7.out.below hb
  have E_w8 : Hid (ReadsE w8 v2 es) := E_w7.out.below hb
  have F_w8 : Hid (ReadsE w8 v3 fs) := F_w7.out.below hb
  have M_w8 : Hid (Reads w8 v5 (app l 0 xa)) := M_w7.out.below hb
  have N_w8 : Hid (Reads w8 v6 (app l 0 bs)) := N_w7.out.below hb
  have P_w8 : Hid (ReadsE w8 v7 (ups (ovr l.length bs xa (!ahead)))) := P_w7.out.below hb
  have Q_w8 : Hid (ReadsE w8 v8 (ups (ovr l.length xa bs ahead))) := Q_w7.out.below hb
  clear L_w7 E_w7 F_w7 M_w7 N_w7 P_w7 Q_w7 HB_w7
  clear ho hb
  go_wp2_with fail
  refine (apply_ok _ _ (app l 0 bs) (ovr l.length xa bs ahead) w8 N_w8.out Q_w8.out HR2.out).mono ?_
  rw [HM.out]
  rintro e w9 ⟨hb, v10, rfl, ho⟩
  have V_w9 : Hid (Reads w9 v10 (app (app l 0 xa) 0 (ovr l.length bs xa (!ahead)))) := ho.reads
  have HB_w9 : Hid (Below w.heap.size w w9) := below_trans HB_w8.out hb HB_w8.out.size
  have L_w9 : Hid (Reads w9 (.slice a1 l.length cap1) l) := L_w8.out.below hb
  have E_w9 : Hid (ReadsE w9 v2 es) := E_w8.out.below hb
  have F_w9 : Hid (ReadsE w9 v3 fs) := F_w8.out.below hb
  have M_w9 : Hid (Reads w9 v5 (app l 0 xa)) := M_w8.out.below hb
  have N_w9 : Hid (Reads w9 v6 (app l 0 bs)) := N_w8.out.below hb
  have P_w9 : Hid (ReadsE w9 v7 (ups (ovr l.length bs xa (!ahead)))) := P_w8.out.below hb
  have Q_w9 : Hid (ReadsE w9 v8 (ups (ovr l.length xa bs ahead))) := Q_w8.out.below hb
  have U_w9 : Hid (Reads w9 v9 (app (app l 0 xa) 0 (ovr l.length bs xa (!ahead)))) := U_w8.out.below hb
  clear L_w8 E_w8 F_w8 M_w8 N_w8 P_w8 Q_w8 U_w8 HB_w8
  clear ho hb
  go_wp2_with fail
  refine (equal_any _ _ _ _ w9 U_w9.out V_w9.out (by unfold maxLen; omega) (by unfold maxLen; omega)).mono ?_
  rw [beq_self_eq_true]
  rintro e w10 ⟨rfl, q, hq⟩
  have hb : Below w9.heap.size w9 w10 := by rw [hq]; exact below_drewN (Below.refl _ _) q
  have HB_w10 : Hid (Below w.heap.size w w10) := below_trans HB_w9.out hb HB_w9.out.size
  have L_w10 : Hid (Reads w10 (.slice a1 l.length cap1) l) := L_w9.out.below hb
  have E_w10 : Hid (ReadsE w10 v2 es) := E_w9.out.below hb
  have F_w10 : Hid (ReadsE w10 v3 fs) := F_w9.out.below hb
  have M_w10 : Hid (Reads w10 v5 (app l 0 xa)) := M_w9.out.below hb
  have N_w10 : Hid (Reads w10 v6 (app l 0 bs)) := N_w9.out.below hb
  have P_w10 : Hid (ReadsE w10 v7 (ups (ovr l.length bs xa (!ahead)))) := P_w9.out.below hb
  have Q_w10 : Hid (ReadsE w10 v8 (ups (ovr l.length xa bs ahead))) := Q_w9.out.below hb
  have U_w10 : Hid (Reads w10 v9 (app (app l 0 xa) 0 (ovr l.length bs xa (!ahead)))) := U_w9.out.below hb
  have V_w10 : Hid (Reads w10 v10 (app (app l 0 xa) 0 (ovr l.length bs xa (!ahead)))) := V_w9.out.below hb
  clear L_w9 E_w9 F_w9 M_w9 N_w9 P_w9 Q_w9 U_w9 V_w9 HB_w9
  clear hb hq q
  go_wp2_with fail
  go_ret
  exact ⟨rfl, HB_w10.out⟩
set_option maxRecDepth 100000 in
set_option maxHeartbeats 8000000 in
theorem meets_big (v1 v2 v3 : Value) (l : List Int) (es fs : List Spl) (ahead : Bool) (w : World) (h1 : Reads w v1 l) (h2 : ReadsE w v2 es) (h3 : ReadsE w v3 fs) (hl8 : l.length * 8 ≤ 140737488351232)
    (xa bs : List Nsp) (hes : es = ups xa) (hfs : fs = ups bs) (hR : Right l xa) (hS : Right l bs) (hfit : (app (app l 0 xa) 0 (ovr l.length bs xa (!ahead))).length > 4096) :
    Calls Try.prog 6 #[v1, v2, v3, .bool ahead] w fun e w' => e = .returned (.bool true) ∧ Below w.heap.size w w' := by
  obtain ⟨a1, cap1, rfl⟩ := h1.shape
  have L_w : Hid (Reads w (.slice a1 l.length cap1) l) := h1
  have E_w : Hid (ReadsE w v2 es) := h2
  have F_w : Hid (ReadsE w v3 fs) := h3
  have HR : Hid (Right l xa) := hR
  have HES : Hid (es = ups xa) := hes
  have hll := hR.1
  have hfA := hR.2.2
  have HS : Hid (Right l bs) := hS
  have HFS : Hid (fs = ups bs) := hfs
  have hfB := hS.2.2
  have HO1 : Hid (Okay (app l 0 xa).length 0 (ovr l.length bs xa (!ahead))) := ovr_okay l bs xa _ hR.2.1
  have HO2 : Hid (Okay (app l 0 bs).length 0 (ovr l.length xa bs ahead)) := ovr_okay l xa bs _ hS.2.1
  have HM : Hid (app (app l 0 bs) 0 (ovr l.length xa bs ahead) = app (app l 0 xa) 0 (ovr l.length bs xa (!ahead))) := (ovr_meet l xa bs ahead hR.2.1 hS.2.1).symm
  have HC1 : Hid (chk ((app l 0 xa).length : Int) (ups (ovr l.length bs xa (!ahead))) = 2) := by
    show _ = _
    rw [chk_right _ _ hfA HO1.out, if_pos hfit]
  have HC2 : Hid (chk ((app l 0 bs).length : Int) (ups (ovr l.length xa bs ahead)) = 2) := by
    show _ = _
    rw [chk_right _ _ hfB HO2.out, if_pos (by rw [HM.out]; exact hfit)]
  clear hfs hS
  clear hes hR
  clear h1 h2 h3
  go_enter Try.func6, Try.ntmps6
  go_wp2_with fail
  obtain ⟨w0, hw0⟩ : ∃ w0, w0 = (((w.alloc (.cells #[.int .i64 7] 3)).alloc (.cells #[.int .i64 1, .int .i64 1, .slice (some ⟨w.heap.size, 0, none⟩) 1 1] 41)).alloc (.cells #[.int .i64 0, .int .i64 1, .slice none 0 0] 41)) := ⟨_, rfl⟩
  have hb0 : Below w.heap.size w w0 := by rw [hw0]; exact below3 _ _ _ _
  have SX_w0 : Hid (ReadsE w0 (.slice (some ⟨w.heap.size + 1, 0, none⟩) 1 1) (ups [(1, 1, [7])])) := by
    rw [hw0]
    exact (readsE_lit _ 1 1 _ [7] _ (by rw [size_alloc]) (reads_lit w [7] _ rfl _ rfl _ rfl (by decide)) (by decide)).below (box_below _ _)
  have SY_w0 : Hid (ReadsE w0 (.slice (some ⟨w.heap.size + 1 + 1, 0, none⟩) 1 1) (ups [(0, 1, [])])) := by
    rw [hw0]
    exact readsE_lit _ 0 1 _ [] _ (by rw [size_alloc, size_alloc]) (reads_nil _ _ _) (by decide)
  rw [← hw0]
  clear hw0
  have HB_w0 : Hid (Below w.heap.size w w0) := hb0
  have L_w0 : Hid (Reads w0 (.slice a1 l.length cap1) l) := L_w.out.below hb0
  have E_w0 : Hid (ReadsE w0 v2 es) := E_w.out.below hb0
  have F_w0 : Hid (ReadsE w0 v3 fs) := F_w.out.below hb0
  clear L_w E_w F_w
  clear hb0
  refine (over_ok _ _ 2 [(1, 1, [7])] [(0, 1, [])] true w0 SX_w0.out SY_w0.out x_fits y_fits).mono ?_
  rw [xy_over]
  rintro e w1 ⟨hb, v4, rfl, ho⟩
  have O_w1 : Hid (ReadsE w1 v4 (ups [(0, 0, [7])])) := ho.reads
  have HB_w1 : Hid (Below w.heap.size w w1) := below_trans HB_w0.out hb HB_w0.out.size
  have L_w1 : Hid (Reads w1 (.slice a1 l.length cap1) l) := L_w0.out.below hb
  have E_w1 : Hid (ReadsE w1 v2 es) := E_w0.out.below hb
  have F_w1 : Hid (ReadsE w1 v3 fs) := F_w0.out.below hb
  have SX_w1 : Hid (ReadsE w1 (.slice (some ⟨w.heap.size + 1, 0, none⟩) 1 1) (ups [(1, 1, [7])])) := SX_w0.out.below hb
  have SY_w1 : Hid (ReadsE w1 (.slice (some ⟨w.heap.size + 1 + 1, 0, none⟩) 1 1) (ups [(0, 1, [])])) := SY_w0.out.below hb
  clear L_w0 E_w0 F_w0 SX_w0 SY_w0 HB_w0
  clear ho hb
  clear SX_w1
  clear SY_w1
  go_wp2_with fail
  obtain ⟨w2, hw2⟩ : ∃ w2, w2 = (w1.alloc (.cells #[.int .i64 7] 3)).alloc (.cells #[.int .i64 0, .int .i64 0, .slice (some ⟨w1.heap.size, 0, none⟩) 1 1] 41) := ⟨_, rfl⟩
  have hb2 : Below w1.heap.size w1 w2 := by rw [hw2]; exact below2 _ _ _
  have SM_w2 : Hid (ReadsE w2 (.slice (some ⟨w1.heap.size + 1, 0, none⟩) 1 1) (ups [(0, 0, [7])])) := by
    rw [hw2]
    exact readsE_lit _ 0 0 _ [7] _ (by rw [size_alloc]) (reads_lit w1 [7] _ rfl _ rfl _ rfl (by decide)) (by decide)
  rw [← hw2]
  clear hw2
  have HB_w2 : Hid (Below w.heap.size w w2) := below_trans HB_w1.out hb2 HB_w1.out.size
  have L_w2 : Hid (Reads w2 (.slice a1 l.length cap1) l) := L_w1.out.below hb2
  have E_w2 : Hid (ReadsE w2 v2 es) := E_w1.out.below hb2
  have F_w2 : Hid (ReadsE w2 v3 fs) := F_w1.out.below hb2
  have O_w2 : Hid (ReadsE w2 v4 (ups [(0, 0, [7])])) := O_w1.out.below hb2
  clear L_w1 E_w1 F_w1 O_w1 HB_w1
  clear hb2
  refine (same_any _ _ _ _ w2 O_w2.out SM_w2.out).mono ?_
  rw [decide_eq_true rfl]
  rintro e w3 ⟨rfl, hb⟩
  have HB_w3 : Hid (Below w.heap.size w w3) := below_trans HB_w2.out hb HB_w2.out.size
  have L_w3 : Hid (Reads w3 (.slice a1 l.length cap1) l) := L_w2.out.below hb
  have E_w3 : Hid (ReadsE w3 v2 es) := E_w2.out.below hb
  have F_w3 : Hid (ReadsE w3 v3 fs) := F_w2.out.below hb
  have O_w3 : Hid (ReadsE w3 v4 (ups [(0, 0, [7])])) := O_w2.out.below hb
  have SM_w3 : Hid (ReadsE w3 (.slice (some ⟨w1.heap.size + 1, 0, none⟩) 1 1) (ups [(0, 0, [7])])) := SM_w2.out.below hb
  clear L_w2 E_w2 F_w2 O_w2 SM_w2 HB_w2
  clear hb
  clear O_w3
  clear SM_w3
  go_wp2_with fail
  refine (apply_ok _ _ l xa w3 L_w3.out (by have := E_w3.out; rw [HES.out] at this; exact this) HR.out).mono ?_
  rintro e w4 ⟨hb, v5, rfl, ho⟩
  have M_w4 : Hid (Reads w4 v5 (app l 0 xa)) := ho.reads
  have HB_w4 : Hid (Below w.heap.size w w4) := below_trans HB_w3.out hb HB_w3.out.size
  have L_w4 : Hid (Reads w4 (.slice a1 l.length cap1) l) := L_w3.out.below hb
  have E_w4 : Hid (ReadsE w4 v2 es) := E_w3.out.below hb
  have F_w4 : Hid (ReadsE w4 v3 fs) := F_w3.out.below hb
  clear L_w3 E_w3 F_w3 HB_w3
  clear ho hb
  go_wp2_with fail
  refine (apply_ok _ _ l bs w4 L_w4.out (by have := F_w4.out; rw [HFS.out] at this; exact this) HS.out).mono ?_
  rintro e w5 ⟨hb, v6, rfl, ho⟩
  have N_w5 : Hid (Reads w5 v6 (app l 0 bs)) := ho.reads
  have HB_w5 : Hid (Below w.heap.size w w5) := below_trans HB_w4.out hb HB_w4.out.size
  have L_w5 : Hid (Reads w5 (.slice a1 l.length cap1) l) := L_w4.out.below hb
  have E_w5 : Hid (ReadsE w5 v2 es) := E_w4.out.below hb
  have F_w5 : Hid (ReadsE w5 v3 fs) := F_w4.out.below hb
  have M_w5 : Hid (Reads w5 v5 (app l 0 xa)) := M_w4.out.below hb
  clear L_w4 E_w4 F_w4 M_w4 HB_w4
  clear ho hb
  go_wp2_with fail
  refine (over_ok _ _ l.length bs xa (!ahead) w5 (by have := F_w5.out; rw [HFS.out] at this; exact this) (by have := E_w5.out; rw [HES.out] at this; exact this) HS.out.fits HR.out.fits).mono ?_
  rintro e w6 ⟨hb, v7, rfl, ho⟩
  have P_w6 : Hid (ReadsE w6 v7 (ups (ovr l.length bs xa (!ahead)))) := ho.reads
  have HB_w6 : Hid (Below w.heap.size w w6) := below_trans HB_w5.out hb HB_w5.out.size
  have L_w6 : Hid (Reads w6 (.slice a1 l.length cap1) l) := L_w5.out.below hb
  have E_w6 : Hid (ReadsE w6 v2 es) := E_w5.out.below hb
  have F_w6 : Hid (ReadsE w6 v3 fs) := F_w5.out.below hb
  have M_w6 : Hid (Reads w6 v5 (app l 0 xa)) := M_w5.out.below hb
  have N_w6 : Hid (Reads w6 v6 (app l 0 bs)) := N_w5.out.below hb
  clear L_w5 E_w5 F_w5 M_w5 N_w5 HB_w5
  clear ho hb
  go_wp2_with fail
  refine (over_ok _ _ l.length xa bs ahead w6 (by have := E_w6.out; rw [HES.out] at this; exact this) (by have := F_w6.out; rw [HFS.out] at this; exact this) HR.out.fits HS.out.fits).mono ?_
  rintro e w7 ⟨hb, v8, rfl, ho⟩
  have Q_w7 : Hid (ReadsE w7 v8 (ups (ovr l.length xa bs ahead))) := ho.reads
  have HB_w7 : Hid (Below w.heap.size w w7) := below_trans HB_w6.out hb HB_w6.out.size
  have L_w7 : Hid (Reads w7 (.slice a1 l.length cap1) l) := L_w6.out.below hb
  have E_w7 : Hid (ReadsE w7 v2 es) := E_w6.out.below hb
  have F_w7 : Hid (ReadsE w7 v3 fs) := F_w6.out.below hb
  have M_w7 : Hid (Reads w7 v5 (app l 0 xa)) := M_w6.out.below hb
  have N_w7 : Hid (Reads w7 v6 (app l 0 bs)) := N_w6.out.below hb
  have P_w7 : Hid (ReadsE w7 v7 (ups (ovr l.length bs xa (!ahead)))) := P_w6.out.below hb
  clear L_w6 E_w6 F_w6 M_w6 N_w6 P_w6 HB_w6
  clear ho hb
  go_wp2_with fail
  refine (apply_err _ _ (app l 0 xa) (ups (ovr l.length bs xa (!ahead))) w7 M_w7.out P_w7.out (by rw [HC1.out]; decide)).mono ?_
  rw [HC1.out]
  rintro e w8 ⟨hb, rfl⟩
  have HB_w8 : Hid (Below w.heap.size w w8) := below_trans HB_w7.out hb HB_w7.out.size
  have L_w8 : Hid (Reads w8 (.slice a1 l.length cap1) l) := L_w7.out.below hb
  have E_w8 : Hid (ReadsE w8 v2 es) := E_w7.out.below hb
  have F_w8 : Hid (ReadsE w8 v3 fs) := F_w7.out.below hb
  have M_w8 : Hid (Reads w8 v5 (app l 0 xa)) := M_w7.out.below hb
  have N_w8 : Hid (Reads w8 v6 (app l 0 bs)) := N_w7.out.below hb
  have P_w8 : Hid (ReadsE w8 v7 (ups (ovr l.length bs xa (!ahead)))) := P_w7.out.below hb
  have Q_w8 : Hid (ReadsE w8 v8 (ups (ovr l.length xa bs ahead))) := Q_w7.out.below hb
  clear L_w7 E_w7 F_w7 M_w7 N_w7 P_w7 Q_w7 HB_w7
  clear hb
  go_wp2_with fail
  refine (apply_err _ _ (app l 0 bs) (ups (ovr l.length xa bs ahead)) w8 N_w8.out Q_w8.out (by rw [HC2.out]; decide)).mono ?_
  rw [HC2.out]
  rintro e w9 ⟨hb, rfl⟩
  have HB_w9 : Hid (Below w.heap.size w w9) := below_trans HB_w8.out hb HB_w8.out.size
  have L_w9 : Hid (Reads w9 (.slice a1 l.length cap1) l) := L_w8.out.below hb
  have E_w9 : Hid (ReadsE w9 v2 es) := E_w8.out.below hb
  have F_w9 : Hid (ReadsE w9 v3 fs) := F_w8.out.below hb
  have M_w9 : Hid (Reads w9 v5 (app l 0 xa)) := M_w8.out.below hb
  have N_w9 : Hid (Reads w9 v6 (app l 0 bs)) := N_w8.out.below hb
  have P_w9 : Hid (ReadsE w9 v7 (ups (ovr l.length bs xa (!ahead)))) := P_w8.out.below hb
  have Q_w9 : Hid (ReadsE w9 v8 (ups (ovr l.length xa bs ahead))) := Q_w8.out.below hb
  clear L_w8 E_w8 F_w8 M_w8 N_w8 P_w8 Q_w8 HB_w8
  clear hb
  go_wp2_with fail
  refine (equal_any _ _ [] [] w9 (reads_nil _ _ _) (reads_nil _ _ _) (by decide) (by decide)).mono ?_
  rw [beq_self_eq_true]
  rintro e w10 ⟨rfl, q, hq⟩
  have hb : Below w9.heap.size w9 w10 := by rw [hq]; exact below_drewN (Below.refl _ _) q
  have HB_w10 : Hid (Below w.heap.size w w10) := below_trans HB_w9.out hb HB_w9.out.size
  have L_w10 : Hid (Reads w10 (.slice a1 l.length cap1) l) := L_w9.out.below hb
  have E_w10 : Hid (ReadsE w10 v2 es) := E_w9.out.below hb
  have F_w10 : Hid (ReadsE w10 v3 fs) := F_w9.out.below hb
  have M_w10 : Hid (Reads w10 v5 (app l 0 xa)) := M_w9.out.below hb
  have N_w10 : Hid (Reads w10 v6 (app l 0 bs)) := N_w9.out.below hb
  have P_w10 : Hid (ReadsE w10 v7 (ups (ovr l.length bs xa (!ahead)))) := P_w9.out.below hb
  have Q_w10 : Hid (ReadsE w10 v8 (ups (ovr l.length xa bs ahead))) := Q_w9.out.below hb
  clear L_w9 E_w9 F_w9 M_w9 N_w9 P_w9 Q_w9 HB_w9
  clear hb hq q
  go_wp2_with fail
  go_ret
  exact ⟨rfl, HB_w10.out⟩
theorem meets_walk (v1 v2 v3 : Value) (l : List Int) (es fs : List Spl) (ahead : Bool) (w : World) (h1 : Reads w v1 l) (h2 : ReadsE w v2 es) (h3 : ReadsE w v3 fs) (hl8 : l.length * 8 ≤ 140737488351232) (_ : es.length * 40 ≤ 140737488351232) (_ : fs.length * 40 ≤ 140737488351232) :
    Calls Try.prog 6 #[v1, v2, v3, .bool ahead] w fun e w' => e = .returned (.bool true) ∧ Below w.heap.size w w' := by
  by_cases ha : chk (l.length : Int) es = 0
  · obtain ⟨xa, hes, hR⟩ := chk_ok ha
    by_cases hb : chk (l.length : Int) fs = 0
    · obtain ⟨bs, hfs, hS⟩ := chk_ok hb
      by_cases hf : (app (app l 0 xa) 0 (ovr l.length bs xa (!ahead))).length ≤ 4096
      · exact meets_ok v1 v2 v3 l es fs ahead w h1 h2 h3 hl8 xa bs hes hfs hR hS hf
      · exact meets_big v1 v2 v3 l es fs ahead w h1 h2 h3 hl8 xa bs hes hfs hR hS (by omega)
    · exact meets_err2 v1 v2 v3 l es fs ahead w h1 h2 h3 hl8 xa hes hR hb
  · exact meets_err1 v1 v2 v3 l es fs ahead w h1 h2 h3 hl8 ha
end Go.Proofs.Ytpgecholpbpakaa.Seek
