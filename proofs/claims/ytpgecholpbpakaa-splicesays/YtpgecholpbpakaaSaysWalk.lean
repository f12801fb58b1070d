/- The walk of SpliceSays. -/
import Derived.Test.YtpgecholpbpakaaUndoGo
import Derived.Test.YtpgecholpbpakaaRefBetw
import Derived.Test.YtpgecholpbpakaaRefApp
import Derived.Test.YtpgecholpbpakaaRefErr
import Derived.Test.YtpgecholpbpakaaSameGo
set_option linter.unusedVariables false
set_option linter.unusedSimpArgs false
namespace Go.Proofs.Ytpgecholpbpakaa.Seek
open Go.RowKit Plain

set_option maxRecDepth 100000 in
set_option maxHeartbeats 8000000 in
theorem says_rr (v1 v2 v3 : Value) (l m : List Int) (es : List Spl) (n : Int) (w : World) (h1 : Reads w v1 l) (h2 : Reads w v2 m) (h3 : ReadsE w v3 es) (hl8 : l.length * 8 ≤ 140737488351232) (hm8 : m.length * 8 ≤ 140737488351232)
    (ns : List Nsp) (hes : es = ups ns) (hR : Right l ns) (hl : l.length ≤ 4096) (hm : m.length ≤ 4096) :
    Calls Try.prog 3 #[.int .i64 n, v1, v2, v3] w fun e w' => e = .returned (.bool true) ∧ Below w.heap.size w w' := by
  obtain ⟨a1, cap1, rfl⟩ := h1.shape
  obtain ⟨a2, cap2, rfl⟩ := h2.shape
  have L_w : Hid (Reads w (.slice a1 l.length cap1) l) := h1
  have M_w : Hid (Reads w (.slice a2 m.length cap2) m) := h2
  have E_w : Hid (ReadsE w v3 es) := h3
  obtain ⟨c, hc⟩ : ∃ c, c = chk (l.length : Int) es := ⟨_, rfl⟩
  have HC : Hid (c = chk (l.length : Int) es) := hc
  obtain ⟨d, hd⟩ : ∃ d, d = chk n es := ⟨_, rfl⟩
  have HD : Hid (d = chk n es) := hd
  have hdd : (d != d) = false := by simp
  have HR : Hid (Right l ns) := hR
  have HES : Hid (es = ups ns) := hes
  have hc0 : c = 0 := by rw [hc, hes]; exact hR.chk
  have hfin := hR.2.2
  have HPL : Hid (puts ns ≤ 4096) := hR.fits.puts_le
  have HUL : Hid ((und l 0 0 ns).length ≤ 4097) := by show _ ≤ _; rw [und_len]; have := hR.2.1.count; have := hR.1; omega
  have hll := hR.1
  clear hes hR
  clear h1 h2 h3 hc hd
  go_enter Try.func3, Try.ntmps3
  go_wp2_with fail
  refine (editErr_any _ _ es w E_w.out).mono ?_
  rw [← HC.out, hc0]
  rintro e w1 ⟨rfl, hb⟩
  have HB_w1 : Hid (Below w.heap.size w w1) := hb
  have L_w1 : Hid (Reads w1 (.slice a1 l.length cap1) l) := L_w.out.below hb
  have M_w1 : Hid (Reads w1 (.slice a2 m.length cap2) m) := M_w.out.below hb
  have E_w1 : Hid (ReadsE w1 v3 es) := E_w.out.below hb
  clear L_w M_w E_w
  clear hb
  go_wp2_with fail
  refine (apply_ok _ v3 l ns w1 L_w1.out (by have := E_w1.out; rw [HES.out] at this; exact this) HR.out).mono ?_
  rintro e w2 ⟨hb, v4, rfl, ho⟩
  have A_w2 : Hid (Reads w2 v4 (app l 0 ns)) := ho.reads
  have HB_w2 : Hid (Below w.heap.size w w2) := below_trans HB_w1.out hb HB_w1.out.size
  have L_w2 : Hid (Reads w2 (.slice a1 l.length cap1) l) := L_w1.out.below hb
  have M_w2 : Hid (Reads w2 (.slice a2 m.length cap2) m) := M_w1.out.below hb
  have E_w2 : Hid (ReadsE w2 v3 es) := E_w1.out.below hb
  clear L_w1 M_w1 E_w1 HB_w1
  clear ho hb
  go_wp2_with fail
  refine (undo_ok _ v3 l ns w2 L_w2.out (by have := E_w2.out; rw [HES.out] at this; exact this) HR.out).mono ?_
  rintro e w3 ⟨hb, v5, rfl, ho⟩
  have U_w3 : Hid (ReadsE w3 v5 (ups (und l 0 0 ns))) := ho.reads
  have HB_w3 : Hid (Below w.heap.size w w3) := below_trans HB_w2.out hb HB_w2.out.size
  have L_w3 : Hid (Reads w3 (.slice a1 l.length cap1) l) := L_w2.out.below hb
  have M_w3 : Hid (Reads w3 (.slice a2 m.length cap2) m) := M_w2.out.below hb
  have E_w3 : Hid (ReadsE w3 v3 es) := E_w2.out.below hb
  have A_w3 : Hid (Reads w3 v4 (app l 0 ns)) := A_w2.out.below hb
  clear L_w2 M_w2 E_w2 A_w2 HB_w2
  clear ho hb
  go_wp2_with fail
  refine (between_ok _ _ l m w3 L_w3.out M_w3.out hl hm).mono ?_
  rintro e w4 ⟨hb, v6, rfl, ho⟩
  have B_w4 : Hid (ReadsE w4 v6 (ups (btw l m))) := ho.reads
  have HB_w4 : Hid (Below w.heap.size w w4) := below_trans HB_w3.out hb HB_w3.out.size
  have L_w4 : Hid (Reads w4 (.slice a1 l.length cap1) l) := L_w3.out.below hb
  have M_w4 : Hid (Reads w4 (.slice a2 m.length cap2) m) := M_w3.out.below hb
  have E_w4 : Hid (ReadsE w4 v3 es) := E_w3.out.below hb
  have A_w4 : Hid (Reads w4 v4 (app l 0 ns)) := A_w3.out.below hb
  have U_w4 : Hid (ReadsE w4 v5 (ups (und l 0 0 ns))) := U_w3.out.below hb
  clear L_w3 M_w3 E_w3 A_w3 U_w3 HB_w3
  clear ho hb
  go_wp2_with fail
  refine (check_any n v3 es w4 E_w4.out).mono ?_
  rw [← HD.out]
  rintro e w5 ⟨rfl, hb⟩
  have HB_w5 : Hid (Below w.heap.size w w5) := below_trans HB_w4.out hb HB_w4.out.size
  have L_w5 : Hid (Reads w5 (.slice a1 l.length cap1) l) := L_w4.out.below hb
  have M_w5 : Hid (Reads w5 (.slice a2 m.length cap2) m) := M_w4.out.below hb
  have E_w5 : Hid (ReadsE w5 v3 es) := E_w4.out.below hb
  have A_w5 : Hid (Reads w5 v4 (app l 0 ns)) := A_w4.out.below hb
  have U_w5 : Hid (ReadsE w5 v5 (ups (und l 0 0 ns))) := U_w4.out.below hb
  have B_w5 : Hid (ReadsE w5 v6 (ups (btw l m))) := B_w4.out.below hb
  clear L_w4 M_w4 E_w4 A_w4 U_w4 B_w4 HB_w4
  clear hb
  go_wp2_with fail
  refine (editErr_any n v3 es w5 E_w5.out).mono ?_
  rw [← HD.out]
  rintro e w6 ⟨rfl, hb⟩
  have HB_w6 : Hid (Below w.heap.size w w6) := below_trans HB_w5.out hb HB_w5.out.size
  have L_w6 : Hid (Reads w6 (.slice a1 l.length cap1) l) := L_w5.out.below hb
  have M_w6 : Hid (Reads w6 (.slice a2 m.length cap2) m) := M_w5.out.below hb
  have E_w6 : Hid (ReadsE w6 v3 es) := E_w5.out.below hb
  have A_w6 : Hid (Reads w6 v4 (app l 0 ns)) := A_w5.out.below hb
  have U_w6 : Hid (ReadsE w6 v5 (ups (und l 0 0 ns))) := U_w5.out.below hb
  have B_w6 : Hid (ReadsE w6 v6 (ups (btw l m))) := B_w5.out.below hb
  clear L_w5 M_w5 E_w5 A_w5 U_w5 B_w5 HB_w5
  clear hb
  go_wp2_with fail
  refine (refbtw_any _ _ l m w6 L_w6.out M_w6.out hl hm).mono ?_
  rintro e w7 ⟨hb, v7, rfl, ho⟩
  have C_w7 : Hid (ReadsE w7 v7 (ups (btw l m))) := ho.reads
  have HB_w7 : Hid (Below w.heap.size w w7) := below_trans HB_w6.out hb HB_w6.out.size
  have L_w7 : Hid (Reads w7 (.slice a1 l.length cap1) l) := L_w6.out.below hb
  have M_w7 : Hid (Reads w7 (.slice a2 m.length cap2) m) := M_w6.out.below hb
  have E_w7 : Hid (ReadsE w7 v3 es) := E_w6.out.below hb
  have A_w7 : Hid (Reads w7 v4 (app l 0 ns)) := A_w6.out.below hb
  have U_w7 : Hid (ReadsE w7 v5 (ups (und l 0 0 ns))) := U_w6.out.below hb
  have B_w7 : Hid (ReadsE w7 v6 (ups (btw l m))) := B_w6.out.below hb
  clear L_w6 M_w6 E_w6 A_w6 U_w6 B_w6 HB_w6
  clear ho hb
  go_wp2_with fail
  refine (same_any _ _ _ _ w7 B_w7.out C_w7.out).mono ?_
  rw [decide_eq_true rfl]
  rintro e w8 ⟨rfl, hb⟩
  have HB_w8 : Hid (Below w.heap.size w w8) := below_trans HB_w7.out hb HB_w7.out.size
  have L_w8 : Hid (Reads w8 (.slice a1 l.length cap1) l) := L_w7.out.below hb
  have M_w8 : Hid (Reads w8 (.slice a2 m.length cap2) m) := M_w7.out.below hb
  have E_w8 : Hid (ReadsE w8 v3 es) := E_w7.out.below hb
  have A_w8 : Hid (Reads w8 v4 (app l 0 ns)) := A_w7.out.below hb
  have U_w8 : Hid (ReadsE w8 v5 (ups (und l 0 0 ns))) := U_w7.out.below hb
  have B_w8 : Hid (ReadsE w8 v6 (ups (btw l m))) := B_w7.out.below hb
  have C_w8 : Hid (ReadsE w8 v7 (ups (btw l m))) := C_w7.out.below hb
  clear L_w7 M_w7 E_w7 A_w7 U_w7 B_w7 C_w7 HB_w7
  clear hb
  clear B_w8
  clear C_w8
  subst hc0
  go_wp2_with fail
  refine (applied_any _ v3 l ns 0 w8 L_w8.out (by have := E_w8.out; rw [HES.out] at this; exact this) HR.out.2.1 hll HPL.out).mono ?_
  rintro e w9 ⟨hb, v8, rfl, ho⟩
  have D_w9 : Hid (Reads w9 v8 (app l 0 ns)) := by have := ho.reads; rw [appR_app l ns 0 0 HR.out.2.1 (Nat.le_refl _), List.take_zero, List.nil_append] at this; exact this
  have HB_w9 : Hid (Below w.heap.size w w9) := below_trans HB_w8.out hb HB_w8.out.size
  have L_w9 : Hid (Reads w9 (.slice a1 l.length cap1) l) := L_w8.out.below hb
  have M_w9 : Hid (Reads w9 (.slice a2 m.length cap2) m) := M_w8.out.below hb
  have E_w9 : Hid (ReadsE w9 v3 es) := E_w8.out.below hb
  have A_w9 : Hid (Reads w9 v4 (app l 0 ns)) := A_w8.out.below hb
  have U_w9 : Hid (ReadsE w9 v5 (ups (und l 0 0 ns))) := U_w8.out.below hb
  clear L_w8 M_w8 E_w8 A_w8 U_w8 HB_w8
  clear ho hb
  go_wp2_with fail
  refine (equal_any _ _ _ _ w9 A_w9.out D_w9.out (by unfold maxLen; omega) (by unfold maxLen; omega)).mono ?_
  rw [beq_self_eq_true]
  rintro e w10 ⟨rfl, q, hq⟩
  have hb : Below w9.heap.size w9 w10 := by rw [hq]; exact below_drewN (Below.refl _ _) q
  have HB_w10 : Hid (Below w.heap.size w w10) := below_trans HB_w9.out hb HB_w9.out.size
  have L_w10 : Hid (Reads w10 (.slice a1 l.length cap1) l) := L_w9.out.below hb
  have M_w10 : Hid (Reads w10 (.slice a2 m.length cap2) m) := M_w9.out.below hb
  have E_w10 : Hid (ReadsE w10 v3 es) := E_w9.out.below hb
  have A_w10 : Hid (Reads w10 v4 (app l 0 ns)) := A_w9.out.below hb
  have U_w10 : Hid (ReadsE w10 v5 (ups (und l 0 0 ns))) := U_w9.out.below hb
  have D_w10 : Hid (Reads w10 v8 (app l 0 ns)) := D_w9.out.below hb
  clear L_w9 M_w9 E_w9 A_w9 U_w9 D_w9 HB_w9
  clear hb hq q
  clear A_w10
  clear D_w10
  go_wp2_with fail
  refine (undone_any _ v3 l ns w10 L_w10.out (by have := E_w10.out; rw [HES.out] at this; exact this) HR.out).mono ?_
  rintro e w11 ⟨hb, v9, rfl, ho⟩
  have V_w11 : Hid (ReadsE w11 v9 (ups (und l 0 0 ns))) := ho.reads
  have HB_w11 : Hid (Below w.heap.size w w11) := below_trans HB_w10.out hb HB_w10.out.size
  have L_w11 : Hid (Reads w11 (.slice a1 l.length cap1) l) := L_w10.out.below hb
  have M_w11 : Hid (Reads w11 (.slice a2 m.length cap2) m) := M_w10.out.below hb
  have E_w11 : Hid (ReadsE w11 v3 es) := E_w10.out.below hb
  have U_w11 : Hid (ReadsE w11 v5 (ups (und l 0 0 ns))) := U_w10.out.below hb
  clear L_w10 M_w10 E_w10 U_w10 HB_w10
  clear ho hb
  go_wp2_with fail
  refine (same_any _ _ _ _ w11 U_w11.out V_w11.out).mono ?_
  rw [decide_eq_true rfl]
  rintro e w12 ⟨rfl, hb⟩
  have HB_w12 : Hid (Below w.heap.size w w12) := below_trans HB_w11.out hb HB_w11.out.size
  have L_w12 : Hid (Reads w12 (.slice a1 l.length cap1) l) := L_w11.out.below hb
  have M_w12 : Hid (Reads w12 (.slice a2 m.length cap2) m) := M_w11.out.below hb
  have E_w12 : Hid (ReadsE w12 v3 es) := E_w11.out.below hb
  have U_w12 : Hid (ReadsE w12 v5 (ups (und l 0 0 ns))) := U_w11.out.below hb
  have V_w12 : Hid (ReadsE w12 v9 (ups (und l 0 0 ns))) := V_w11.out.below hb
  clear L_w11 M_w11 E_w11 U_w11 V_w11 HB_w11
  clear hb
  clear U_w12
  clear V_w12
  go_wp2_with fail
  go_ret
  exact ⟨rfl, HB_w12.out⟩
set_option maxRecDepth 100000 in
set_option maxHeartbeats 8000000 in
theorem says_rb (v1 v2 v3 : Value) (l m : List Int) (es : List Spl) (n : Int) (w : World) (h1 : Reads w v1 l) (h2 : Reads w v2 m) (h3 : ReadsE w v3 es) (hl8 : l.length * 8 ≤ 140737488351232) (hm8 : m.length * 8 ≤ 140737488351232)
    (ns : List Nsp) (hes : es = ups ns) (hR : Right l ns) (hx : l.length > 4096 ∨ m.length > 4096) :
    Calls Try.prog 3 #[.int .i64 n, v1, v2, v3] w fun e w' => e = .returned (.bool true) ∧ Below w.heap.size w w' := by
  obtain ⟨a1, cap1, rfl⟩ := h1.shape
  obtain ⟨a2, cap2, rfl⟩ := h2.shape
  have L_w : Hid (Reads w (.slice a1 l.length cap1) l) := h1
  have M_w : Hid (Reads w (.slice a2 m.length cap2) m) := h2
  have E_w : Hid (ReadsE w v3 es) := h3
  obtain ⟨c, hc⟩ : ∃ c, c = chk (l.length : Int) es := ⟨_, rfl⟩
  have HC : Hid (c = chk (l.length : Int) es) := hc
  obtain ⟨d, hd⟩ : ∃ d, d = chk n es := ⟨_, rfl⟩
  have HD : Hid (d = chk n es) := hd
  have hdd : (d != d) = false := by simp
  have HR : Hid (Right l ns) := hR
  have HES : Hid (es = ups ns) := hes
  have hc0 : c = 0 := by rw [hc, hes]; exact hR.chk
  have hfin := hR.2.2
  have HPL : Hid (puts ns ≤ 4096) := hR.fits.puts_le
  have HUL : Hid ((und l 0 0 ns).length ≤ 4097) := by show _ ≤ _; rw [und_len]; have := hR.2.1.count; have := hR.1; omega
  have hll := hR.1
  clear hes hR
  have HX : Hid (l.length > 4096 ∨ m.length > 4096) := hx
  have hx2 : (l.length : Int) > 4096 ∨ (m.length : Int) > 4096 := by omega
  clear hx
  clear h1 h2 h3 hc hd
  go_enter Try.func3, Try.ntmps3
  go_wp2_with fail
  refine (editErr_any _ _ es w E_w.out).mono ?_
  rw [← HC.out, hc0]
  rintro e w1 ⟨rfl, hb⟩
  have HB_w1 : Hid (Below w.heap.size w w1) := hb
  have L_w1 : Hid (Reads w1 (.slice a1 l.length cap1) l) := L_w.out.below hb
  have M_w1 : Hid (Reads w1 (.slice a2 m.length cap2) m) := M_w.out.below hb
  have E_w1 : Hid (ReadsE w1 v3 es) := E_w.out.below hb
  clear L_w M_w E_w
  clear hb
  go_wp2_with fail
  refine (apply_ok _ v3 l ns w1 L_w1.out (by have := E_w1.out; rw [HES.out] at this; exact this) HR.out).mono ?_
  rintro e w2 ⟨hb, v4, rfl, ho⟩
  have A_w2 : Hid (Reads w2 v4 (app l 0 ns)) := ho.reads
  have HB_w2 : Hid (Below w.heap.size w w2) := below_trans HB_w1.out hb HB_w1.out.size
  have L_w2 : Hid (Reads w2 (.slice a1 l.length cap1) l) := L_w1.out.below hb
  have M_w2 : Hid (Reads w2 (.slice a2 m.length cap2) m) := M_w1.out.below hb
  have E_w2 : Hid (ReadsE w2 v3 es) := E_w1.out.below hb
  clear L_w1 M_w1 E_w1 HB_w1
  clear ho hb
  go_wp2_with fail
  refine (undo_ok _ v3 l ns w2 L_w2.out (by have := E_w2.out; rw [HES.out] at this; exact this) HR.out).mono ?_
  rintro e w3 ⟨hb, v5, rfl, ho⟩
  have U_w3 : Hid (ReadsE w3 v5 (ups (und l 0 0 ns))) := ho.reads
  have HB_w3 : Hid (Below w.heap.size w w3) := below_trans HB_w2.out hb HB_w2.out.size
  have L_w3 : Hid (Reads w3 (.slice a1 l.length cap1) l) := L_w2.out.below hb
  have M_w3 : Hid (Reads w3 (.slice a2 m.length cap2) m) := M_w2.out.below hb
  have E_w3 : Hid (ReadsE w3 v3 es) := E_w2.out.below hb
  have A_w3 : Hid (Reads w3 v4 (app l 0 ns)) := A_w2.out.below hb
  clear L_w2 M_w2 E_w2 A_w2 HB_w2
  clear ho hb
  go_wp2_with fail
  refine (between_err _ _ l m w3 L_w3.out M_w3.out HX.out).mono ?_
  rintro e w4 ⟨hb, rfl⟩
  have HB_w4 : Hid (Below w.heap.size w w4) := below_trans HB_w3.out hb HB_w3.out.size
  have L_w4 : Hid (Reads w4 (.slice a1 l.length cap1) l) := L_w3.out.below hb
  have M_w4 : Hid (Reads w4 (.slice a2 m.length cap2) m) := M_w3.out.below hb
  have E_w4 : Hid (ReadsE w4 v3 es) := E_w3.out.below hb
  have A_w4 : Hid (Reads w4 v4 (app l 0 ns)) := A_w3.out.below hb
  have U_w4 : Hid (ReadsE w4 v5 (ups (und l 0 0 ns))) := U_w3.out.below hb
  clear L_w3 M_w3 E_w3 A_w3 U_w3 HB_w3
  clear hb
  go_wp2_with fail
  refine (check_any n v3 es w4 E_w4.out).mono ?_
  rw [← HD.out]
  rintro e w5 ⟨rfl, hb⟩
  have HB_w5 : Hid (Below w.heap.size w w5) := below_trans HB_w4.out hb HB_w4.out.size
  have L_w5 : Hid (Reads w5 (.slice a1 l.length cap1) l) := L_w4.out.below hb
  have M_w5 : Hid (Reads w5 (.slice a2 m.length cap2) m) := M_w4.out.below hb
  have E_w5 : Hid (ReadsE w5 v3 es) := E_w4.out.below hb
  have A_w5 : Hid (Reads w5 v4 (app l 0 ns)) := A_w4.out.below hb
  have U_w5 : Hid (ReadsE w5 v5 (ups (und l 0 0 ns))) := U_w4.out.below hb
  clear L_w4 M_w4 E_w4 A_w4 U_w4 HB_w4
  clear hb
  go_wp2_with fail
  refine (editErr_any n v3 es w5 E_w5.out).mono ?_
  rw [← HD.out]
  rintro e w6 ⟨rfl, hb⟩
  have HB_w6 : Hid (Below w.heap.size w w6) := below_trans HB_w5.out hb HB_w5.out.size
  have L_w6 : Hid (Reads w6 (.slice a1 l.length cap1) l) := L_w5.out.below hb
  have M_w6 : Hid (Reads w6 (.slice a2 m.length cap2) m) := M_w5.out.below hb
  have E_w6 : Hid (ReadsE w6 v3 es) := E_w5.out.below hb
  have A_w6 : Hid (Reads w6 v4 (app l 0 ns)) := A_w5.out.below hb
  have U_w6 : Hid (ReadsE w6 v5 (ups (und l 0 0 ns))) := U_w5.out.below hb
  clear L_w5 M_w5 E_w5 A_w5 U_w5 HB_w5
  clear hb
  subst hc0
  go_wp2_with fail
  all_goals first
    | (exfalso; omega)
    | skip
  all_goals (
    refine (applied_any _ v3 l ns 0 w6 L_w6.out (by have := E_w6.out; rw [HES.out] at this; exact this) HR.out.2.1 hll HPL.out).mono ?_
    rintro e w7 ⟨hb, v8, rfl, ho⟩
    have D_w7 : Hid (Reads w7 v8 (app l 0 ns)) := by have := ho.reads; rw [appR_app l ns 0 0 HR.out.2.1 (Nat.le_refl _), List.take_zero, List.nil_append] at this; exact this
    have HB_w7 : Hid (Below w.heap.size w w7) := below_trans HB_w6.out hb HB_w6.out.size
    have L_w7 : Hid (Reads w7 (.slice a1 l.length cap1) l) := L_w6.out.below hb
    have M_w7 : Hid (Reads w7 (.slice a2 m.length cap2) m) := M_w6.out.below hb
    have E_w7 : Hid (ReadsE w7 v3 es) := E_w6.out.below hb
    have A_w7 : Hid (Reads w7 v4 (app l 0 ns)) := A_w6.out.below hb
    have U_w7 : Hid (ReadsE w7 v5 (ups (und l 0 0 ns))) := U_w6.out.below hb
    clear L_w6 M_w6 E_w6 A_w6 U_w6 HB_w6
    clear ho hb
    go_wp2_with fail
    refine (equal_any _ _ _ _ w7 A_w7.out D_w7.out (by unfold maxLen; omega) (by unfold maxLen; omega)).mono ?_
    rw [beq_self_eq_true]
    rintro e w8 ⟨rfl, q, hq⟩
    have hb : Below w7.heap.size w7 w8 := by rw [hq]; exact below_drewN (Below.refl _ _) q
    have HB_w8 : Hid (Below w.heap.size w w8) := below_trans HB_w7.out hb HB_w7.out.size
    have L_w8 : Hid (Reads w8 (.slice a1 l.length cap1) l) := L_w7.out.below hb
    have M_w8 : Hid (Reads w8 (.slice a2 m.length cap2) m) := M_w7.out.below hb
    have E_w8 : Hid (ReadsE w8 v3 es) := E_w7.out.below hb
    have A_w8 : Hid (Reads w8 v4 (app l 0 ns)) := A_w7.out.below hb
    have U_w8 : Hid (ReadsE w8 v5 (ups (und l 0 0 ns))) := U_w7.out.below hb
    have D_w8 : Hid (Reads w8 v8 (app l 0 ns)) := D_w7.out.below hb
    clear L_w7 M_w7 E_w7 A_w7 U_w7 D_w7 HB_w7
    clear hb hq q
    clear A_w8
    clear D_w8
    go_wp2_with fail
    refine (undone_any _ v3 l ns w8 L_w8.out (by have := E_w8.out; rw [HES.out] at this; exact this) HR.out).mono ?_
    rintro e w9 ⟨hb, v9, rfl, ho⟩
    have V_w9 : Hid (ReadsE w9 v9 (ups (und l 0 0 ns))) := ho.reads
    have HB_w9 : Hid (Below w.heap.size w w9) := below_trans HB_w8.out hb HB_w8.out.size
    have L_w9 : Hid (Reads w9 (.slice a1 l.length cap1) l) := L_w8.out.below hb
    have M_w9 : Hid (Reads w9 (.slice a2 m.length cap2) m) := M_w8.out.below hb
    have E_w9 : Hid (ReadsE w9 v3 es) := E_w8.out.below hb
    have U_w9 : Hid (ReadsE w9 v5 (ups (und l 0 0 ns))) := U_w8.out.below hb
    clear L_w8 M_w8 E_w8 U_w8 HB_w8
    clear ho hb
    go_wp2_with fail
    refine (same_any _ _ _ _ w9 U_w9.out V_w9.out).mono ?_
    rw [decide_eq_true rfl]
    rintro e w10 ⟨rfl, hb⟩
    have HB_w10 : Hid (Below w.heap.size w w10) := below_trans HB_w9.out hb HB_w9.out.size
    have L_w10 : Hid (Reads w10 (.slice a1 l.length cap1) l) := L_w9.out.below hb
    have M_w10 : Hid (Reads w10 (.slice a2 m.length cap2) m) := M_w9.out.below hb
    have E_w10 : Hid (ReadsE w10 v3 es) := E_w9.out.below hb
    have U_w10 : Hid (ReadsE w10 v5 (ups (und l 0 0 ns))) := U_w9.out.below hb
    have V_w10 : Hid (ReadsE w10 v9 (ups (und l 0 0 ns))) := V_w9.out.below hb
    clear L_w9 M_w9 E_w9 U_w9 V_w9 HB_w9
    clear hb
    clear U_w10
    clear V_w10
    go_wp2_with fail
    go_ret
    exact ⟨rfl, HB_w10.out⟩)
set_option maxRecDepth 100000 in
set_option maxHeartbeats 8000000 in
theorem says_br (v1 v2 v3 : Value) (l m : List Int) (es : List Spl) (n : Int) (w : World) (h1 : Reads w v1 l) (h2 : Reads w v2 m) (h3 : ReadsE w v3 es) (hl8 : l.length * 8 ≤ 140737488351232) (hm8 : m.length * 8 ≤ 140737488351232)
    (hbad : chk (l.length : Int) es ≠ 0) (hl : l.length ≤ 4096) (hm : m.length ≤ 4096) :
    Calls Try.prog 3 #[.int .i64 n, v1, v2, v3] w fun e w' => e = .returned (.bool true) ∧ Below w.heap.size w w' := by
  obtain ⟨a1, cap1, rfl⟩ := h1.shape
  obtain ⟨a2, cap2, rfl⟩ := h2.shape
  have L_w : Hid (Reads w (.slice a1 l.length cap1) l) := h1
  have M_w : Hid (Reads w (.slice a2 m.length cap2) m) := h2
  have E_w : Hid (ReadsE w v3 es) := h3
  obtain ⟨c, hc⟩ : ∃ c, c = chk (l.length : Int) es := ⟨_, rfl⟩
  have HC : Hid (c = chk (l.length : Int) es) := hc
  obtain ⟨d, hd⟩ : ∃ d, d = chk n es := ⟨_, rfl⟩
  have HD : Hid (d = chk n es) := hd
  have hdd : (d != d) = false := by simp
  have hcb : (c != 0) = true := by rw [hc]; simpa using hbad
  have hcc : (c == c) = true := by simp
  have Hbad : Hid (chk (l.length : Int) es ≠ 0) := hbad
  clear hbad
  clear h1 h2 h3 hc hd
  go_enter Try.func3, Try.ntmps3
  go_wp2_with fail
  refine (editErr_any _ _ es w E_w.out).mono ?_
  rw [← HC.out]
  rintro e w1 ⟨rfl, hb⟩
  have HB_w1 : Hid (Below w.heap.size w w1) := hb
  have L_w1 : Hid (Reads w1 (.slice a1 l.length cap1) l) := L_w.out.below hb
  have M_w1 : Hid (Reads w1 (.slice a2 m.length cap2) m) := M_w.out.below hb
  have E_w1 : Hid (ReadsE w1 v3 es) := E_w.out.below hb
  clear L_w M_w E_w
  clear hb
  go_wp2_with fail
  refine (apply_err _ v3 l es w1 L_w1.out E_w1.out Hbad.out).mono ?_
  rw [← HC.out]
  rintro e w2 ⟨hb, rfl⟩
  have HB_w2 : Hid (Below w.heap.size w w2) := below_trans HB_w1.out hb HB_w1.out.size
  have L_w2 : Hid (Reads w2 (.slice a1 l.length cap1) l) := L_w1.out.below hb
  have M_w2 : Hid (Reads w2 (.slice a2 m.length cap2) m) := M_w1.out.below hb
  have E_w2 : Hid (ReadsE w2 v3 es) := E_w1.out.below hb
  clear L_w1 M_w1 E_w1 HB_w1
  clear hb
  go_wp2_with fail
  refine (undo_err _ v3 l es w2 L_w2.out E_w2.out Hbad.out).mono ?_
  rw [← HC.out]
  rintro e w3 ⟨hb, rfl⟩
  have HB_w3 : Hid (Below w.heap.size w w3) := below_trans HB_w2.out hb HB_w2.out.size
  have L_w3 : Hid (Reads w3 (.slice a1 l.length cap1) l) := L_w2.out.below hb
  have M_w3 : Hid (Reads w3 (.slice a2 m.length cap2) m) := M_w2.out.below hb
  have E_w3 : Hid (ReadsE w3 v3 es) := E_w2.out.below hb
  clear L_w2 M_w2 E_w2 HB_w2
  clear hb
  go_wp2_with fail
  refine (between_ok _ _ l m w3 L_w3.out M_w3.out hl hm).mono ?_
  rintro e w4 ⟨hb, v6, rfl, ho⟩
  have B_w4 : Hid (ReadsE w4 v6 (ups (btw l m))) := ho.reads
  have HB_w4 : Hid (Below w.heap.size w w4) := below_trans HB_w3.out hb HB_w3.out.size
  have L_w4 : Hid (Reads w4 (.slice a1 l.length cap1) l) := L_w3.out.below hb
  have M_w4 : Hid (Reads w4 (.slice a2 m.length cap2) m) := M_w3.out.below hb
  have E_w4 : Hid (ReadsE w4 v3 es) := E_w3.out.below hb
  clear L_w3 M_w3 E_w3 HB_w3
  clear ho hb
  go_wp2_with fail
  refine (check_any n v3 es w4 E_w4.out).mono ?_
  rw [← HD.out]
  rintro e w5 ⟨rfl, hb⟩
  have HB_w5 : Hid (Below w.heap.size w w5) := below_trans HB_w4.out hb HB_w4.out.size
  have L_w5 : Hid (Reads w5 (.slice a1 l.length cap1) l) := L_w4.out.below hb
  have M_w5 : Hid (Reads w5 (.slice a2 m.length cap2) m) := M_w4.out.below hb
  have E_w5 : Hid (ReadsE w5 v3 es) := E_w4.out.below hb
  have B_w5 : Hid (ReadsE w5 v6 (ups (btw l m))) := B_w4.out.below hb
  clear L_w4 M_w4 E_w4 B_w4 HB_w4
  clear hb
  go_wp2_with fail
  refine (editErr_any n v3 es w5 E_w5.out).mono ?_
  rw [← HD.out]
  rintro e w6 ⟨rfl, hb⟩
  have HB_w6 : Hid (Below w.heap.size w w6) := below_trans HB_w5.out hb HB_w5.out.size
  have L_w6 : Hid (Reads w6 (.slice a1 l.length cap1) l) := L_w5.out.below hb
  have M_w6 : Hid (Reads w6 (.slice a2 m.length cap2) m) := M_w5.out.below hb
  have E_w6 : Hid (ReadsE w6 v3 es) := E_w5.out.below hb
  have B_w6 : Hid (ReadsE w6 v6 (ups (btw l m))) := B_w5.out.below hb
  clear L_w5 M_w5 E_w5 B_w5 HB_w5
  clear hb
  go_wp2_with fail
  refine (refbtw_any _ _ l m w6 L_w6.out M_w6.out hl hm).mono ?_
  rintro e w7 ⟨hb, v7, rfl, ho⟩
  have C_w7 : Hid (ReadsE w7 v7 (ups (btw l m))) := ho.reads
  have HB_w7 : Hid (Below w.heap.size w w7) := below_trans HB_w6.out hb HB_w6.out.size
  have L_w7 : Hid (Reads w7 (.slice a1 l.length cap1) l) := L_w6.out.below hb
  have M_w7 : Hid (Reads w7 (.slice a2 m.length cap2) m) := M_w6.out.below hb
  have E_w7 : Hid (ReadsE w7 v3 es) := E_w6.out.below hb
  have B_w7 : Hid (ReadsE w7 v6 (ups (btw l m))) := B_w6.out.below hb
  clear L_w6 M_w6 E_w6 B_w6 HB_w6
  clear ho hb
  go_wp2_with fail
  refine (same_any _ _ _ _ w7 B_w7.out C_w7.out).mono ?_
  rw [decide_eq_true rfl]
  rintro e w8 ⟨rfl, hb⟩
  have HB_w8 : Hid (Below w.heap.size w w8) := below_trans HB_w7.out hb HB_w7.out.size
  have L_w8 : Hid (Reads w8 (.slice a1 l.length cap1) l) := L_w7.out.below hb
  have M_w8 : Hid (Reads w8 (.slice a2 m.length cap2) m) := M_w7.out.below hb
  have E_w8 : Hid (ReadsE w8 v3 es) := E_w7.out.below hb
  have B_w8 : Hid (ReadsE w8 v6 (ups (btw l m))) := B_w7.out.below hb
  have C_w8 : Hid (ReadsE w8 v7 (ups (btw l m))) := C_w7.out.below hb
  clear L_w7 M_w7 E_w7 B_w7 C_w7 HB_w7
  clear hb
  clear B_w8
  clear C_w8
  go_wp2_with fail
  all_goals first
    | (exfalso; omega)
    | (go_ret; exact ⟨rfl, HB_w8.out⟩)
set_option maxRecDepth 100000 in
set_option maxHeartbeats 8000000 in
theorem says_bb (v1 v2 v3 : Value) (l m : List Int) (es : List Spl) (n : Int) (w : World) (h1 : Reads w v1 l) (h2 : Reads w v2 m) (h3 : ReadsE w v3 es) (hl8 : l.length * 8 ≤ 140737488351232) (hm8 : m.length * 8 ≤ 140737488351232)
    (hbad : chk (l.length : Int) es ≠ 0) (hx : l.length > 4096 ∨ m.length > 4096) :
    Calls Try.prog 3 #[.int .i64 n, v1, v2, v3] w fun e w' => e = .returned (.bool true) ∧ Below w.heap.size w w' := by
  obtain ⟨a1, cap1, rfl⟩ := h1.shape
  obtain ⟨a2, cap2, rfl⟩ := h2.shape
  have L_w : Hid (Reads w (.slice a1 l.length cap1) l) := h1
  have M_w : Hid (Reads w (.slice a2 m.length cap2) m) := h2
  have E_w : Hid (ReadsE w v3 es) := h3
  obtain ⟨c, hc⟩ : ∃ c, c = chk (l.length : Int) es := ⟨_, rfl⟩
  have HC : Hid (c = chk (l.length : Int) es) := hc
  obtain ⟨d, hd⟩ : ∃ d, d = chk n es := ⟨_, rfl⟩
  have HD : Hid (d = chk n es) := hd
  have hdd : (d != d) = false := by simp
  have hcb : (c != 0) = true := by rw [hc]; simpa using hbad
  have hcc : (c == c) = true := by simp
  have Hbad : Hid (chk (l.length : Int) es ≠ 0) := hbad
  clear hbad
  have HX : Hid (l.length > 4096 ∨ m.length > 4096) := hx
  have hx2 : (l.length : Int) > 4096 ∨ (m.length : Int) > 4096 := by omega
  clear hx
  clear h1 h2 h3 hc hd
  go_enter Try.func3, Try.ntmps3
  go_wp2_with fail
  refine (editErr_any _ _ es w E_w.out).mono ?_
  rw [← HC.out]
  rintro e w1 ⟨rfl, hb⟩
  have HB_w1 : Hid (Below w.heap.size w w1) := hb
  have L_w1 : Hid (Reads w1 (.slice a1 l.length cap1) l) := L_w.out.below hb
  have M_w1 : Hid (Reads w1 (.slice a2 m.length cap2) m) := M_w.out.below hb
  have E_w1 : Hid (ReadsE w1 v3 es) := E_w.out.below hb
  clear L_w M_w E_w
  clear hb
  go_wp2_with fail
  refine (apply_err _ v3 l es w1 L_w1.out E_w1.out Hbad.out).mono ?_
  rw [← HC.out]
  rintro e w2 ⟨hb, rfl⟩
  have HB_w2 : Hid (Below w.heap.size w w2) := below_trans HB_w1.out hb HB_w1.out.size
  have L_w2 : Hid (Reads w2 (.slice a1 l.length cap1) l) := L_w1.out.below hb
  have M_w2 : Hid (Reads w2 (.slice a2 m.length cap2) m) := M_w1.out.below hb
  have E_w2 : Hid (ReadsE w2 v3 es) := E_w1.out.below hb
  clear L_w1 M_w1 E_w1 HB_w1
  clear hb
  go_wp2_with fail
  refine (undo_err _ v3 l es w2 L_w2.out E_w2.out Hbad.out).mono ?_
  rw [← HC.out]
  rintro e w3 ⟨hb, rfl⟩
  have HB_w3 : Hid (Below w.heap.size w w3) := below_trans HB_w2.out hb HB_w2.out.size
  have L_w3 : Hid (Reads w3 (.slice a1 l.length cap1) l) := L_w2.out.below hb
  have M_w3 : Hid (Reads w3 (.slice a2 m.length cap2) m) := M_w2.out.below hb
  have E_w3 : Hid (ReadsE w3 v3 es) := E_w2.out.below hb
  clear L_w2 M_w2 E_w2 HB_w2
  clear hb
  go_wp2_with fail
  refine (between_err _ _ l m w3 L_w3.out M_w3.out HX.out).mono ?_
  rintro e w4 ⟨hb, rfl⟩
  have HB_w4 : Hid (Below w.heap.size w w4) := below_trans HB_w3.out hb HB_w3.out.size
  have L_w4 : Hid (Reads w4 (.slice a1 l.length cap1) l) := L_w3.out.below hb
  have M_w4 : Hid (Reads w4 (.slice a2 m.length cap2) m) := M_w3.out.below hb
  have E_w4 : Hid (ReadsE w4 v3 es) := E_w3.out.below hb
  clear L_w3 M_w3 E_w3 HB_w3
  clear hb
  go_wp2_with fail
  refine (check_any n v3 es w4 E_w4.out).mono ?_
  rw [← HD.out]
  rintro e w5 ⟨rfl, hb⟩
  have HB_w5 : Hid (Below w.heap.size w w5) := below_trans HB_w4.out hb HB_w4.out.size
  have L_w5 : Hid (Reads w5 (.slice a1 l.length cap1) l) := L_w4.out.below hb
  have M_w5 : Hid (Reads w5 (.slice a2 m.length cap2) m) := M_w4.out.below hb
  have E_w5 : Hid (ReadsE w5 v3 es) := E_w4.out.below hb
  clear L_w4 M_w4 E_w4 HB_w4
  clear hb
  go_wp2_with fail
  refine (editErr_any n v3 es w5 E_w5.out).mono ?_
  rw [← HD.out]
  rintro e w6 ⟨rfl, hb⟩
  have HB_w6 : Hid (Below w.heap.size w w6) := below_trans HB_w5.out hb HB_w5.out.size
  have L_w6 : Hid (Reads w6 (.slice a1 l.length cap1) l) := L_w5.out.below hb
  have M_w6 : Hid (Reads w6 (.slice a2 m.length cap2) m) := M_w5.out.below hb
  have E_w6 : Hid (ReadsE w6 v3 es) := E_w5.out.below hb
  clear L_w5 M_w5 E_w5 HB_w5
  clear hb
  go_wp2_with fail
  all_goals first
    | (exfalso; omega)
    | (go_ret; exact ⟨rfl, HB_w6.out⟩)
theorem says_walk (v1 v2 v3 : Value) (l m : List Int) (es : List Spl) (n : Int) (w : World) (h1 : Reads w v1 l) (h2 : Reads w v2 m) (h3 : ReadsE w v3 es) (hl8 : l.length * 8 ≤ 140737488351232) (hm8 : m.length * 8 ≤ 140737488351232) (_ : es.length * 40 ≤ 140737488351232) :
    Calls Try.prog 3 #[.int .i64 n, v1, v2, v3] w fun e w' => e = .returned (.bool true) ∧ Below w.heap.size w w' := by
  by_cases hb : chk (l.length : Int) es = 0
  · obtain ⟨ns, he, hR⟩ := chk_ok hb
    by_cases hm : m.length ≤ 4096
    · exact says_rr v1 v2 v3 l m es n w h1 h2 h3 hl8 hm8 ns he hR hR.1 hm
    · exact says_rb v1 v2 v3 l m es n w h1 h2 h3 hl8 hm8 ns he hR (.inr (by omega))
  · by_cases hx : l.length ≤ 4096 ∧ m.length ≤ 4096
    · exact says_br v1 v2 v3 l m es n w h1 h2 h3 hl8 hm8 hb hx.1 hx.2
    · exact says_bb v1 v2 v3 l m es n w h1 h2 h3 hl8 hm8 hb (by omega)
end Go.Proofs.Ytpgecholpbpakaa.Seek
