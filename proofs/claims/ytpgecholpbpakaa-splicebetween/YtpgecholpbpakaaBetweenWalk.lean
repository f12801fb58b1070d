/- The walk of SpliceBetween. -/
import Derived.Test.YtpgecholpbpakaaBetwGo
import Derived.Test.YtpgecholpbpakaaSameGo
import Derived.Test.YtpgecholpbpakaaLiterals
import Derived.BigQuiet
set_option linter.unusedVariables false
set_option linter.unusedSimpArgs false
namespace Go.Proofs.Ytpgecholpbpakaa.Seek
open Go.RowKit Plain

theorem btw_lit : ups (btw [1, 2, 3] [1, 3]) = ups [(1, 2, [])] := by decide +kernel
theorem btw_len (l m : List Int) : (btw l m).length = (btw m l).length := by
  unfold btw
  by_cases h : l = m
  · rw [if_pos h, if_pos h.symm]
  · rw [if_neg h, if_neg (fun e => h e.symm)]
    rfl
theorem seg_at (l : List Int) (a b j : Nat) (h : a + j < b) (hb : b ≤ l.length) : (seg l a b).getD j 0 = l.getD (a + j) 0 := by
  unfold seg
  rw [List.getD_eq_getElem?_getD, List.getD_eq_getElem?_getD, List.getElem?_take, if_pos (by omega), List.getElem?_drop]
/-- A cell of a list that can be read. -/
theorem reads_first {w : World} {a : Option Addr} {zs : List Int} {n cap : Nat} (h : Reads w (.slice a n cap) zs) (hn : n = zs.length) (h0 : 0 < n) :
    ∃ b o, a = some ⟨b, o, none⟩ ∧ w.cell? ⟨b, o, none⟩ = some (.int .i64 (zs.getD 0 0)) ∧ w.cell? ⟨b, o + (n - 1), none⟩ = some (.int .i64 (zs.getD (n - 1) 0)) := by
  subst hn
  obtain ⟨b, o, ha, h1⟩ := reads_at h 0 h0
  obtain ⟨b2, o2, ha2, h2⟩ := reads_at h (zs.length - 1) (by omega)
  rw [ha] at ha2
  cases ha2
  exact ⟨b, o, ha, by simpa using h1, h2⟩

set_option maxRecDepth 100000 in
set_option maxHeartbeats 8000000 in
theorem betw_big (v1 v2 : Value) (l m : List Int) (w : World) (h1 : Reads w v1 l) (h2 : Reads w v2 m) (hl8 : l.length * 8 ≤ 140737488351232) (hm8 : m.length * 8 ≤ 140737488351232)
    (hx : l.length > 4096 ∨ m.length > 4096) :
    Calls Try.prog 8 #[v1, v2] w fun e w' => e = .returned (.bool true) ∧ Below w.heap.size w w' := by
  obtain ⟨a1, cap1, rfl⟩ := h1.shape
  obtain ⟨a2, cap2, rfl⟩ := h2.shape
  have hcp1 := h1.cap_le
  have L_w : Hid (Reads w (.slice a1 l.length cap1) l) := h1
  have M_w : Hid (Reads w (.slice a2 m.length cap2) m) := h2
  have HX : Hid (l.length > 4096 ∨ m.length > 4096) := hx
  have HX2 : Hid (m.length > 4096 ∨ l.length > 4096) := hx.symm
  clear hx
  clear h1 h2
  go_enter Try.func8, Try.ntmps8
  go_wp2_with fail
  obtain ⟨w0, hw0⟩ : ∃ w0, w0 = ((w.alloc (.cells #[.int .i64 1, .int .i64 2, .int .i64 3] 3)).alloc (.cells #[.int .i64 1, .int .i64 3] 3)) := ⟨_, rfl⟩
  have hb0 : Below w.heap.size w w0 := by rw [hw0]; exact below2 _ _ _
  have SA_w0 : Hid (Reads w0 (.slice (some ⟨w.heap.size, 0, none⟩) 3 3) [1, 2, 3]) := by
    rw [hw0]
    exact (reads_lit w [1, 2, 3] _ rfl _ rfl _ rfl (by decide)).below (box_below _ _)
  have SB_w0 : Hid (Reads w0 (.slice (some ⟨w.heap.size + 1, 0, none⟩) 2 2) [1, 3]) := by
    rw [hw0]
    exact reads_lit _ [1, 3] _ (by rw [size_alloc]) _ rfl _ rfl (by decide)
  rw [← hw0]
  clear hw0
  have HB_w0 : Hid (Below w.heap.size w w0) := hb0
  have L_w0 : Hid (Reads w0 (.slice a1 l.length cap1) l) := L_w.out.below hb0
  have M_w0 : Hid (Reads w0 (.slice a2 m.length cap2) m) := M_w.out.below hb0
  clear L_w M_w
  clear hb0
  refine (between_ok _ _ [1, 2, 3] [1, 3] w0 SA_w0.out SB_w0.out (by decide) (by decide)).mono ?_
  rw [btw_lit]
  rintro e w1 ⟨hb, v4, rfl, ho⟩
  have O_w1 : Hid (ReadsE w1 v4 (ups [(1, 2, [])])) := ho.reads
  have HB_w1 : Hid (Below w.heap.size w w1) := below_trans HB_w0.out hb HB_w0.out.size
  have L_w1 : Hid (Reads w1 (.slice a1 l.length cap1) l) := L_w0.out.below hb
  have M_w1 : Hid (Reads w1 (.slice a2 m.length cap2) m) := M_w0.out.below hb
  have SA_w1 : Hid (Reads w1 (.slice (some ⟨w.heap.size, 0, none⟩) 3 3) [1, 2, 3]) := SA_w0.out.below hb
  have SB_w1 : Hid (Reads w1 (.slice (some ⟨w.heap.size + 1, 0, none⟩) 2 2) [1, 3]) := SB_w0.out.below hb
  clear L_w0 M_w0 SA_w0 SB_w0 HB_w0
  clear ho hb
  clear SA_w1
  clear SB_w1
  go_wp2_with fail
  obtain ⟨w2, hw2⟩ : ∃ w2, w2 = w1.alloc (.cells #[.int .i64 1, .int .i64 2, .slice none 0 0] 41) := ⟨_, rfl⟩
  have hb2 : Below w1.heap.size w1 w2 := by rw [hw2]; exact box_below _ _
  have SM_w2 : Hid (ReadsE w2 (.slice (some ⟨w1.heap.size, 0, none⟩) 1 1) (ups [(1, 2, [])])) := by
    rw [hw2]
    exact readsE_lit _ 1 2 _ [] _ rfl (reads_nil _ _ _) (by decide)
  rw [← hw2]
  clear hw2
  have HB_w2 : Hid (Below w.heap.size w w2) := below_trans HB_w1.out hb2 HB_w1.out.size
  have L_w2 : Hid (Reads w2 (.slice a1 l.length cap1) l) := L_w1.out.below hb2
  have M_w2 : Hid (Reads w2 (.slice a2 m.length cap2) m) := M_w1.out.below hb2
  have O_w2 : Hid (ReadsE w2 v4 (ups [(1, 2, [])])) := O_w1.out.below hb2
  clear L_w1 M_w1 O_w1 HB_w1
  clear hb2
  refine (same_any _ _ _ _ w2 O_w2.out SM_w2.out).mono ?_
  rw [decide_eq_true rfl]
  rintro e w3 ⟨rfl, hb⟩
  have HB_w3 : Hid (Below w.heap.size w w3) := below_trans HB_w2.out hb HB_w2.out.size
  have L_w3 : Hid (Reads w3 (.slice a1 l.length cap1) l) := L_w2.out.below hb
  have M_w3 : Hid (Reads w3 (.slice a2 m.length cap2) m) := M_w2.out.below hb
  have O_w3 : Hid (ReadsE w3 v4 (ups [(1, 2, [])])) := O_w2.out.below hb
  have SM_w3 : Hid (ReadsE w3 (.slice (some ⟨w1.heap.size, 0, none⟩) 1 1) (ups [(1, 2, [])])) := SM_w2.out.below hb
  clear L_w2 M_w2 O_w2 SM_w2 HB_w2
  clear hb
  clear O_w3
  clear SM_w3
  go_wp2_with fail
  refine (between_err _ _ l m w3 L_w3.out M_w3.out HX.out).mono ?_
  rintro e w4 ⟨hb, rfl⟩
  have HB_w4 : Hid (Below w.heap.size w w4) := below_trans HB_w3.out hb HB_w3.out.size
  have L_w4 : Hid (Reads w4 (.slice a1 l.length cap1) l) := L_w3.out.below hb
  have M_w4 : Hid (Reads w4 (.slice a2 m.length cap2) m) := M_w3.out.below hb
  clear L_w3 M_w3 HB_w3
  clear hb
  go_wp2_with fail
  refine (between_err _ _ m l w4 M_w4.out L_w4.out HX2.out).mono ?_
  rintro e w5 ⟨hb, rfl⟩
  have HB_w5 : Hid (Below w.heap.size w w5) := below_trans HB_w4.out hb HB_w4.out.size
  have L_w5 : Hid (Reads w5 (.slice a1 l.length cap1) l) := L_w4.out.below hb
  have M_w5 : Hid (Reads w5 (.slice a2 m.length cap2) m) := M_w4.out.below hb
  clear L_w4 M_w4 HB_w4
  clear hb
  go_wp2_with fail
  go_ret
  exact ⟨rfl, HB_w5.out⟩
set_option maxRecDepth 100000 in
set_option maxHeartbeats 8000000 in
theorem betw_same (v1 v2 : Value) (l m : List Int) (w : World) (h1 : Reads w v1 l) (h2 : Reads w v2 m) (hl8 : l.length * 8 ≤ 140737488351232) (hm8 : m.length * 8 ≤ 140737488351232)
    (hl : l.length ≤ 4096) (hm : m.length ≤ 4096) (hlm : l = m) :
    Calls Try.prog 8 #[v1, v2] w fun e w' => e = .returned (.bool true) ∧ Below w.heap.size w w' := by
  obtain ⟨a1, cap1, rfl⟩ := h1.shape
  obtain ⟨a2, cap2, rfl⟩ := h2.shape
  have hcp1 := h1.cap_le
  have L_w : Hid (Reads w (.slice a1 l.length cap1) l) := h1
  have M_w : Hid (Reads w (.slice a2 m.length cap2) m) := h2
  have HB1 : Hid (ups (btw l m) = []) := by show _ = _; unfold btw; rw [if_pos hlm]; rfl
  have HB2 : Hid (ups (btw m l) = []) := by show _ = _; unfold btw; rw [if_pos hlm.symm]; rfl
  have HRt : Hid (Right l (btw l m)) := btw_right l m hl hm
  have HAp : Hid (app l 0 (btw l m) = m) := btw_app l m
  have HLM : Hid (l = m) := hlm
  clear hlm
  clear h1 h2
  go_enter Try.func8, Try.ntmps8
  go_wp2_with fail
  obtain ⟨w0, hw0⟩ : ∃ w0, w0 = ((w.alloc (.cells #[.int .i64 1, .int .i64 2, .int .i64 3] 3)).alloc (.cells #[.int .i64 1, .int .i64 3] 3)) := ⟨_, rfl⟩
  have hb0 : Below w.heap.size w w0 := by rw [hw0]; exact below2 _ _ _
  have SA_w0 : Hid (Reads w0 (.slice (some ⟨w.heap.size, 0, none⟩) 3 3) [1, 2, 3]) := by
    rw [hw0]
    exact (reads_lit w [1, 2, 3] _ rfl _ rfl _ rfl (by decide)).below (box_below _ _)
  have SB_w0 : Hid (Reads w0 (.slice (some ⟨w.heap.size + 1, 0, none⟩) 2 2) [1, 3]) := by
    rw [hw0]
    exact reads_lit _ [1, 3] _ (by rw [size_alloc]) _ rfl _ rfl (by decide)
  rw [← hw0]
  clear hw0
  have HB_w0 : Hid (Below w.heap.size w w0) := hb0
  have L_w0 : Hid (Reads w0 (.slice a1 l.length cap1) l) := L_w.out.below hb0
  have M_w0 : Hid (Reads w0 (.slice a2 m.length cap2) m) := M_w.out.below hb0
  clear L_w M_w
  clear hb0
  refine (between_ok _ _ [1, 2, 3] [1, 3] w0 SA_w0.out SB_w0.out (by decide) (by decide)).mono ?_
  rw [btw_lit]
  rintro e w1 ⟨hb, v4, rfl, ho⟩
  have O_w1 : Hid (ReadsE w1 v4 (ups [(1, 2, [])])) := ho.reads
  have HB_w1 : Hid (Below w.heap.size w w1) := below_trans HB_w0.out hb HB_w0.out.size
  have L_w1 : Hid (Reads w1 (.slice a1 l.length cap1) l) := L_w0.out.below hb
  have M_w1 : Hid (Reads w1 (.slice a2 m.length cap2) m) := M_w0.out.below hb
  have SA_w1 : Hid (Reads w1 (.slice (some ⟨w.heap.size, 0, none⟩) 3 3) [1, 2, 3]) := SA_w0.out.below hb
  have SB_w1 : Hid (Reads w1 (.slice (some ⟨w.heap.size + 1, 0, none⟩) 2 2) [1, 3]) := SB_w0.out.below hb
  clear L_w0 M_w0 SA_w0 SB_w0 HB_w0
  clear ho hb
  clear SA_w1
  clear SB_w1
  go_wp2_with fail
  obtain ⟨w2, hw2⟩ : ∃ w2, w2 = w1.alloc (.cells #[.int .i64 1, .int .i64 2, .slice none 0 0] 41) := ⟨_, rfl⟩
  have hb2 : Below w1.heap.size w1 w2 := by rw [hw2]; exact box_below _ _
  have SM_w2 : Hid (ReadsE w2 (.slice (some ⟨w1.heap.size, 0, none⟩) 1 1) (ups [(1, 2, [])])) := by
    rw [hw2]
    exact readsE_lit _ 1 2 _ [] _ rfl (reads_nil _ _ _) (by decide)
  rw [← hw2]
  clear hw2
  have HB_w2 : Hid (Below w.heap.size w w2) := below_trans HB_w1.out hb2 HB_w1.out.size
  have L_w2 : Hid (Reads w2 (.slice a1 l.length cap1) l) := L_w1.out.below hb2
  have M_w2 : Hid (Reads w2 (.slice a2 m.length cap2) m) := M_w1.out.below hb2
  have O_w2 : Hid (ReadsE w2 v4 (ups [(1, 2, [])])) := O_w1.out.below hb2
  clear L_w1 M_w1 O_w1 HB_w1
  clear hb2
  refine (same_any _ _ _ _ w2 O_w2.out SM_w2.out).mono ?_
  rw [decide_eq_true rfl]
  rintro e w3 ⟨rfl, hb⟩
  have HB_w3 : Hid (Below w.heap.size w w3) := below_trans HB_w2.out hb HB_w2.out.size
  have L_w3 : Hid (Reads w3 (.slice a1 l.length cap1) l) := L_w2.out.below hb
  have M_w3 : Hid (Reads w3 (.slice a2 m.length cap2) m) := M_w2.out.below hb
  have O_w3 : Hid (ReadsE w3 v4 (ups [(1, 2, [])])) := O_w2.out.below hb
  have SM_w3 : Hid (ReadsE w3 (.slice (some ⟨w1.heap.size, 0, none⟩) 1 1) (ups [(1, 2, [])])) := SM_w2.out.below hb
  clear L_w2 M_w2 O_w2 SM_w2 HB_w2
  clear hb
  clear O_w3
  clear SM_w3
  go_wp2_with fail
  refine (between_ok _ _ l m w3 L_w3.out M_w3.out hl hm).mono ?_
  rintro e w4 ⟨hb, v5, rfl, ho⟩
  obtain ⟨a5, c5, hv5⟩ := ho.reads.shape
  rw [HB1.out] at hv5
  have hv5' : v5 = .slice a5 0 c5 := hv5
  clear hv5
  subst hv5'
  have P_w4 : Hid (ReadsE w4 (.slice a5 0 c5) (ups (btw l m))) := ho.reads
  have HB_w4 : Hid (Below w.heap.size w w4) := below_trans HB_w3.out hb HB_w3.out.size
  have L_w4 : Hid (Reads w4 (.slice a1 l.length cap1) l) := L_w3.out.below hb
  have M_w4 : Hid (Reads w4 (.slice a2 m.length cap2) m) := M_w3.out.below hb
  clear L_w3 M_w3 HB_w3
  clear ho hb
  go_wp2_with fail
  refine (between_ok _ _ m l w4 M_w4.out L_w4.out hm hl).mono ?_
  rintro e w5 ⟨hb, v6, rfl, ho⟩
  obtain ⟨a6, c6, hv6⟩ := ho.reads.shape
  rw [HB2.out] at hv6
  have hv6' : v6 = .slice a6 0 c6 := hv6
  clear hv6
  subst hv6'
  have HB_w5 : Hid (Below w.heap.size w w5) := below_trans HB_w4.out hb HB_w4.out.size
  have L_w5 : Hid (Reads w5 (.slice a1 l.length cap1) l) := L_w4.out.below hb
  have M_w5 : Hid (Reads w5 (.slice a2 m.length cap2) m) := M_w4.out.below hb
  have P_w5 : Hid (ReadsE w5 (.slice a5 0 c5) (ups (btw l m))) := P_w4.out.below hb
  clear L_w4 M_w4 P_w4 HB_w4
  clear ho hb
  go_wp2_with fail
  refine (apply_ok _ _ l (btw l m) w5 L_w5.out P_w5.out HRt.out).mono ?_
  rw [HAp.out]
  rintro e w6 ⟨hb, v7, rfl, ho⟩
  have A_w6 : Hid (Reads w6 v7 m) := ho.reads
  have HB_w6 : Hid (Below w.heap.size w w6) := below_trans HB_w5.out hb HB_w5.out.size
  have L_w6 : Hid (Reads w6 (.slice a1 l.length cap1) l) := L_w5.out.below hb
  have M_w6 : Hid (Reads w6 (.slice a2 m.length cap2) m) := M_w5.out.below hb
  have P_w6 : Hid (ReadsE w6 (.slice a5 0 c5) (ups (btw l m))) := P_w5.out.below hb
  clear L_w5 M_w5 P_w5 HB_w5
  clear ho hb
  clear P_w6
  go_wp2_with fail
  refine (equal_any _ _ _ _ w6 A_w6.out M_w6.out (by unfold maxLen; omega) (by unfold maxLen; omega)).mono ?_
  rw [beq_self_eq_true]
  rintro e w7 ⟨rfl, q, hq⟩
  have hb : Below w6.heap.size w6 w7 := by rw [hq]; exact below_drewN (Below.refl _ _) q
  have HB_w7 : Hid (Below w.heap.size w w7) := below_trans HB_w6.out hb HB_w6.out.size
  have L_w7 : Hid (Reads w7 (.slice a1 l.length cap1) l) := L_w6.out.below hb
  have M_w7 : Hid (Reads w7 (.slice a2 m.length cap2) m) := M_w6.out.below hb
  have A_w7 : Hid (Reads w7 v7 m) := A_w6.out.below hb
  clear L_w6 M_w6 A_w6 HB_w6
  clear hb hq q
  clear A_w7
  go_wp2_with fail
  refine (equal_any _ _ _ _ w7 L_w7.out M_w7.out (by unfold maxLen; omega) (by unfold maxLen; omega)).mono ?_
  rw [show (l == m) = true from by simpa using HLM.out]
  rintro e w8 ⟨rfl, q, hq⟩
  have hb : Below w7.heap.size w7 w8 := by rw [hq]; exact below_drewN (Below.refl _ _) q
  have HB_w8 : Hid (Below w.heap.size w w8) := below_trans HB_w7.out hb HB_w7.out.size
  have L_w8 : Hid (Reads w8 (.slice a1 l.length cap1) l) := L_w7.out.below hb
  have M_w8 : Hid (Reads w8 (.slice a2 m.length cap2) m) := M_w7.out.below hb
  clear L_w7 M_w7 HB_w7
  clear hb hq q
  go_wp2_with fail
  go_ret
  exact ⟨rfl, HB_w8.out⟩
set_option maxRecDepth 100000 in
set_option maxHeartbeats 8000000 in
theorem betw_part (v1 v2 : Value) (l m : List Int) (w : World) (h1 : Reads w v1 l) (h2 : Reads w v2 m) (hl8 : l.length * 8 ≤ 140737488351232) (hm8 : m.length * 8 ≤ 140737488351232)
    (hl : l.length ≤ 4096) (hm : m.length ≤ 4096) (hlm : l ≠ m) :
    Calls Try.prog 8 #[v1, v2] w fun e w' => e = .returned (.bool true) ∧ Below w.heap.size w w' := by
  obtain ⟨a1, cap1, rfl⟩ := h1.shape
  obtain ⟨a2, cap2, rfl⟩ := h2.shape
  have hcp1 := h1.cap_le
  have L_w : Hid (Reads w (.slice a1 l.length cap1) l) := h1
  have M_w : Hid (Reads w (.slice a2 m.length cap2) m) := h2
  have HRt : Hid (Right l (btw l m)) := btw_right l m hl hm
  have HAp : Hid (app l 0 (btw l m) = m) := btw_app l m
  have HLM : Hid (l ≠ m) := hlm
  have HB1 : Hid (ups (btw l m) = [((bfr l m : Int), (bto l m : Int), seg m (bfr l m) (ben l m))]) := by show _ = _; unfold btw; rw [if_neg hlm]; rfl
  have HB2 : Hid (ups (btw m l) = [((bfr l m : Int), (bto m l : Int), seg l (bfr m l) (ben m l))]) := by show _ = _; unfold btw; rw [if_neg (fun e => hlm e.symm), show bfr l m = bfr m l from cp_comm l m]; rfl
  have hle := bcs_le l m
  have HE : Hid _ := btw_edge l m
  have HS1 : Hid ((seg m (bfr l m) (ben l m)).length = ben l m - bfr l m) := seg_len m _ _ (by unfold ben; omega)
  have HT1 : Hid (bto l m ≤ l.length ∧ bfr l m ≤ bto l m ∧ ben l m ≤ m.length ∧ bfr l m ≤ ben l m) := by unfold bto ben; exact ⟨by omega, by omega, by omega, by omega⟩
  clear hlm hle
  clear h1 h2
  go_enter Try.func8, Try.ntmps8
  go_wp2_with fail
  obtain ⟨w0, hw0⟩ : ∃ w0, w0 = ((w.alloc (.cells #[.int .i64 1, .int .i64 2, .int .i64 3] 3)).alloc (.cells #[.int .i64 1, .int .i64 3] 3)) := ⟨_, rfl⟩
  have hb0 : Below w.heap.size w w0 := by rw [hw0]; exact below2 _ _ _
  have SA_w0 : Hid (Reads w0 (.slice (some ⟨w.heap.size, 0, none⟩) 3 3) [1, 2, 3]) := by
    rw [hw0]
    exact (reads_lit w [1, 2, 3] _ rfl _ rfl _ rfl (by decide)).below (box_below _ _)
  have SB_w0 : Hid (Reads w0 (.slice (some ⟨w.heap.size + 1, 0, none⟩) 2 2) [1, 3]) := by
    rw [hw0]
    exact reads_lit _ [1, 3] _ (by rw [size_alloc]) _ rfl _ rfl (by decide)
  rw [← hw0]
  clear hw0
  have HB_w0 : Hid (Below w.heap.size w w0) := hb0
  have L_w0 : Hid (Reads w0 (.slice a1 l.length cap1) l) := L_w.out.below hb0
  have M_w0 : Hid (Reads w0 (.slice a2 m.length cap2) m) := M_w.out.below hb0
  clear L_w M_w
  clear hb0
  refine (between_ok _ _ [1, 2, 3] [1, 3] w0 SA_w0.out SB_w0.out (by decide) (by decide)).mono ?_
  rw [btw_lit]
  rintro e w1 ⟨hb, v4, rfl, ho⟩
  have O_w1 : Hid (ReadsE w1 v4 (ups [(1, 2, [])])) := ho.reads
  have HB_w1 : Hid (Below w.heap.size w w1) := below_trans HB_w0.out hb HB_w0.out.size
  have L_w1 : Hid (Reads w1 (.slice a1 l.length cap1) l) := L_w0.out.below hb
  have M_w1 : Hid (Reads w1 (.slice a2 m.length cap2) m) := M_w0.out.below hb
  have SA_w1 : Hid (Reads w1 (.slice (some ⟨w.heap.size, 0, none⟩) 3 3) [1, 2, 3]) := SA_w0.out.below hb
  have SB_w1 : Hid (Reads w1 (.slice (some ⟨w.heap.size + 1, 0, none⟩) 2 2) [1, 3]) := SB_w0.out.below hb
  clear L_w0 M_w0 SA_w0 SB_w0 HB_w0
  clear ho hb
  clear SA_w1
  clear SB_w1
  go_wp2_with fail
  obtain ⟨w2, hw2⟩ : ∃ w2, w2 = w1.alloc (.cells #[.int .i64 1, .int .i64 2, .slice none 0 0] 41) := ⟨_, rfl⟩
  have hb2 : Below w1.heap.size w1 w2 := by rw [hw2]; exact box_below _ _
  have SM_w2 : Hid (ReadsE w2 (.slice (some ⟨w1.heap.size, 0, none⟩) 1 1) (ups [(1, 2, [])])) := by
    rw [hw2]
    exact readsE_lit _ 1 2 _ [] _ rfl (reads_nil _ _ _) (by decide)
  rw [← hw2]
  clear hw2
  have HB_w2 : Hid (Below w.heap.size w w2) := below_trans HB_w1.out hb2 HB_w1.out.size
  have L_w2 : Hid (Reads w2 (.slice a1 l.length cap1) l) := L_w1.out.below hb2
  have M_w2 : Hid (Reads w2 (.slice a2 m.length cap2) m) := M_w1.out.below hb2
  have O_w2 : Hid (ReadsE w2 v4 (ups [(1, 2, [])])) := O_w1.out.below hb2
  clear L_w1 M_w1 O_w1 HB_w1
  clear hb2
  refine (same_any _ _ _ _ w2 O_w2.out SM_w2.out).mono ?_
  rw [decide_eq_true rfl]
  rintro e w3 ⟨rfl, hb⟩
  have HB_w3 : Hid (Below w.heap.size w w3) := below_trans HB_w2.out hb HB_w2.out.size
  have L_w3 : Hid (Reads w3 (.slice a1 l.length cap1) l) := L_w2.out.below hb
  have M_w3 : Hid (Reads w3 (.slice a2 m.length cap2) m) := M_w2.out.below hb
  have O_w3 : Hid (ReadsE w3 v4 (ups [(1, 2, [])])) := O_w2.out.below hb
  have SM_w3 : Hid (ReadsE w3 (.slice (some ⟨w1.heap.size, 0, none⟩) 1 1) (ups [(1, 2, [])])) := SM_w2.out.below hb
  clear L_w2 M_w2 O_w2 SM_w2 HB_w2
  clear hb
  clear O_w3
  clear SM_w3
  go_wp2_with fail
  refine (between_ok _ _ l m w3 L_w3.out M_w3.out hl hm).mono ?_
  rintro e w4 ⟨hb, v5, rfl, ho⟩
  obtain ⟨a5, c5, hv5⟩ := ho.reads.shape
  rw [HB1.out] at hv5
  have hv5' : v5 = .slice a5 1 c5 := hv5
  clear hv5
  subst hv5'
  have P_w4 : Hid (ReadsE w4 (.slice a5 1 c5) (ups (btw l m))) := ho.reads
  have HB_w4 : Hid (Below w.heap.size w w4) := below_trans HB_w3.out hb HB_w3.out.size
  have L_w4 : Hid (Reads w4 (.slice a1 l.length cap1) l) := L_w3.out.below hb
  have M_w4 : Hid (Reads w4 (.slice a2 m.length cap2) m) := M_w3.out.below hb
  clear L_w3 M_w3 HB_w3
  clear ho hb
  go_wp2_with fail
  refine (between_ok _ _ m l w4 M_w4.out L_w4.out hm hl).mono ?_
  rintro e w5 ⟨hb, v6, rfl, ho⟩
  obtain ⟨a6, c6, hv6⟩ := ho.reads.shape
  rw [HB2.out] at hv6
  have hv6' : v6 = .slice a6 1 c6 := hv6
  clear hv6
  subst hv6'
  have Q_w5 : Hid (ReadsE w5 (.slice a6 1 c6) (ups (btw m l))) := ho.reads
  have HB_w5 : Hid (Below w.heap.size w w5) := below_trans HB_w4.out hb HB_w4.out.size
  have L_w5 : Hid (Reads w5 (.slice a1 l.length cap1) l) := L_w4.out.below hb
  have M_w5 : Hid (Reads w5 (.slice a2 m.length cap2) m) := M_w4.out.below hb
  have P_w5 : Hid (ReadsE w5 (.slice a5 1 c5) (ups (btw l m))) := P_w4.out.below hb
  clear L_w4 M_w4 P_w4 HB_w4
  clear ho hb
  go_wp2_with fail
  refine (apply_ok _ _ l (btw l m) w5 L_w5.out P_w5.out HRt.out).mono ?_
  rw [HAp.out]
  rintro e w6 ⟨hb, v7, rfl, ho⟩
  have A_w6 : Hid (Reads w6 v7 m) := ho.reads
  have HB_w6 : Hid (Below w.heap.size w w6) := below_trans HB_w5.out hb HB_w5.out.size
  have L_w6 : Hid (Reads w6 (.slice a1 l.length cap1) l) := L_w5.out.below hb
  have M_w6 : Hid (Reads w6 (.slice a2 m.length cap2) m) := M_w5.out.below hb
  have P_w6 : Hid (ReadsE w6 (.slice a5 1 c5) (ups (btw l m))) := P_w5.out.below hb
  have Q_w6 : Hid (ReadsE w6 (.slice a6 1 c6) (ups (btw m l))) := Q_w5.out.below hb
  clear L_w5 M_w5 P_w5 Q_w5 HB_w5
  clear ho hb
  go_wp2_with fail
  refine (equal_any _ _ _ _ w6 A_w6.out M_w6.out (by unfold maxLen; omega) (by unfold maxLen; omega)).mono ?_
  rw [beq_self_eq_true]
  rintro e w7 ⟨rfl, q, hq⟩
  have hb : Below w6.heap.size w6 w7 := by rw [hq]; exact below_drewN (Below.refl _ _) q
  have HB_w7 : Hid (Below w.heap.size w w7) := below_trans HB_w6.out hb HB_w6.out.size
  have L_w7 : Hid (Reads w7 (.slice a1 l.length cap1) l) := L_w6.out.below hb
  have M_w7 : Hid (Reads w7 (.slice a2 m.length cap2) m) := M_w6.out.below hb
  have P_w7 : Hid (ReadsE w7 (.slice a5 1 c5) (ups (btw l m))) := P_w6.out.below hb
  have Q_w7 : Hid (ReadsE w7 (.slice a6 1 c6) (ups (btw m l))) := Q_w6.out.below hb
  have A_w7 : Hid (Reads w7 v7 m) := A_w6.out.below hb
  clear L_w6 M_w6 P_w6 Q_w6 A_w6 HB_w6
  clear hb hq q
  clear A_w7
  obtain ⟨f, hf⟩ : ∃ f, f = bfr l m := ⟨_, rfl⟩
  obtain ⟨t, ht⟩ : ∃ t, t = bto l m := ⟨_, rfl⟩
  obtain ⟨e, he⟩ : ∃ e, e = ben l m := ⟨_, rfl⟩
  rw [← hf, ← ht, ← he] at HB1 HE HT1
  rw [← hf, ← he] at HS1
  rw [← hf] at HB2
  obtain ⟨g1, g2, g3, g4⟩ := HT1.out
  clear hf ht he HT1
  have P2 : ReadsE w7 (.slice a5 ([((f : Int), (t : Int), seg m f e)] : List Spl).length c5) [((f : Int), (t : Int), seg m f e)] := by
    have := P_w7.out
    rw [HB1.out] at this
    exact this
  obtain ⟨b5, o5, ha5, hbl5, hsp5⟩ := P2.each 0 (by show 0 < 1; omega)
  subst ha5
  have Q2 : ReadsE w7 (.slice a6 ([((f : Int), (bto m l : Int), seg l (bfr m l) (ben m l))] : List Spl).length c6) [((f : Int), (bto m l : Int), seg l (bfr m l) (ben m l))] := by
    have := Q_w7.out
    rw [HB2.out] at this
    exact this
  obtain ⟨b6, o6, ha6, hbl6, hsp6⟩ := Q2.each 0 (by show 0 < 1; omega)
  subst ha6
  obtain ⟨c0, c1, hmild, a3, cap3, c2, hrx⟩ := hsp5
  obtain ⟨d0, _⟩ := hsp6
  have C0 : w7.cell? ⟨b5, o5, none⟩ = some (.int .i64 (f : Int)) := by simpa using c0
  have C1 : w7.cell? ⟨b5, o5 + 1, none⟩ = some (.int .i64 (t : Int)) := by simpa using c1
  obtain ⟨S, hS⟩ : ∃ S, S = seg m f e := ⟨_, rfl⟩
  have C2 : w7.cell? ⟨b5, o5 + 2, none⟩ = some (.slice a3 S.length cap3) := by rw [hS]; simpa using c2
  have HD0 : Hid (∀ wx, Below w7.heap.size w7 wx → wx.cell? ⟨b6, o6, none⟩ = some (.int .i64 (f : Int))) := fun wx hb => (hb.cell (by exact hbl6)).trans (by simpa using d0)
  have HRX : Hid (∀ wx, Below w7.heap.size w7 wx → Reads wx (.slice a3 S.length cap3) S) := by
    intro wx hb
    rw [hS]
    exact Reads.below hrx hb
  have HSg : Hid (S = seg m f e) := hS
  rw [← hS] at HS1
  have hSl : S.length ≤ 4096 := by rw [HS1.out]; omega
  clear hS c0 c1 c2 d0 hrx hmild P2 Q2 P_w7 Q_w7
  obtain ⟨A, hA⟩ : ∃ A, (if cap1 = f then a1 else Option.map (fun x => x.add f) a1) = A := ⟨_, rfl⟩
  have HG : Hid (∀ wx, Below w7.heap.size w7 wx → Reads wx (.slice A (t - f) (cap1 - f)) (seg l f t)) := by
    intro wx hb
    have := reads_slice (L_w7.out.below hb) f t g2 g1
    rw [hA] at this
    exact this
  have q1 : (f : Int) ≤ (t : Int) := by omega
  have q2 : (t : Int) ≤ (cap1 : Int) := by omega
  go_wp2_with fail
  obtain ⟨W, hW⟩ : ∃ W, W = w7.alloc (.cells #[.int .i64 (f : Int), .int .i64 (t : Int), .slice a3 S.length cap3] 41) := ⟨_, rfl⟩
  have HW : Hid (Below w7.heap.size w7 W) := by rw [hW]; exact box_below _ _
  have HX : Hid (Boxed W w7.heap.size f t (.slice a3 S.length cap3)) := by rw [hW]; exact boxed_new _ _ _ _
  obtain ⟨bw, hbw⟩ : ∃ bw, bw = w7.heap.size := ⟨_, rfl⟩
  rw [← hbw] at HX
  rw [← hW, ← hbw]
  clear hW hbw C0 C1 C2
  obtain ⟨_, x1, x2, x3⟩ := HX.out
  have HFIN : Hid (∀ q, (W.drewN q).cell? ⟨b6, o6, none⟩ = some (.int .i64 (f : Int)) ∧ Boxed (W.drewN q) bw f t (.slice a3 S.length cap3) ∧ Below w.heap.size w (W.drewN q)) := fun q => ⟨HD0.out _ (below_drewN HW.out q), HX.out, below_drewN (below_trans HB_w7.out HW.out HB_w7.out.size) q⟩
  obtain ⟨n1, hn1⟩ : ∃ n1, n1 = t - f := ⟨_, rfl⟩
  rw [← hn1] at HG ⊢
  have HN1 : Hid (n1 = t - f) := hn1
  have hn1b : n1 ≤ 4096 := by omega
  obtain ⟨n2, hn2⟩ : ∃ n2, n2 = S.length := ⟨_, rfl⟩
  rw [← hn2] at HRX hSl x3 HS1 HFIN ⊢
  have HN2 : Hid (n2 = S.length) := hn2
  clear hn1 hn2 HX
  by_cases hz1 : n1 = 0
  · subst hz1
    clear HG HRX HE HN1 HN2 HS1 HSg
    go_quiet (fail)
    obtain ⟨u0, ⟨_, u1, u2, u3⟩, hbz⟩ := HFIN.out nq
    have HBZ : Hid (Below w.heap.size w (W.drewN nq)) := hbz
    generalize W.drewN nq = Z at *
    have ff : ((f : Int) == (f : Int)) = true := by simp
    have fn9 : (f == f) = true := by simp
    clear hbz HFIN
    go_wp2_with fail
    go_quiet (fail)
    go_wp2_with fail
    go_ret
    exact ⟨rfl, below_drewN HBZ.out _⟩
  have p1a : decide ((n1 : Int) > 0) = true := decide_eq_true (by omega)
  have p1b : decide (n1 > 0) = true := decide_eq_true (by omega)
  have p1c : decide (0 < n1) = true := decide_eq_true (by omega)
  by_cases hz2 : n2 = 0
  · subst hz2
    clear HG HRX HE HN1 HN2 HS1 HSg
    go_quiet (fail)
    obtain ⟨u0, ⟨_, u1, u2, u3⟩, hbz⟩ := HFIN.out nq
    have HBZ : Hid (Below w.heap.size w (W.drewN nq)) := hbz
    generalize W.drewN nq = Z at *
    have ff : ((f : Int) == (f : Int)) = true := by simp
    have fn9 : (f == f) = true := by simp
    clear hbz HFIN
    go_wp2_with fail
    go_quiet (fail)
    go_wp2_with fail
    go_ret
    exact ⟨rfl, below_drewN HBZ.out _⟩
  have p2a : decide ((n2 : Int) > 0) = true := decide_eq_true (by omega)
  have p2b : decide (n2 > 0) = true := decide_eq_true (by omega)
  have p2c : decide (0 < n2) = true := decide_eq_true (by omega)
  obtain ⟨b1, o1, hA1, m1, m2⟩ := reads_first (HG.out W HW.out) (by rw [HN1.out, seg_len l f t g1]) (by omega)
  obtain ⟨b3, o3, hA3, m3, m4⟩ := reads_first (HRX.out W HW.out) HN2.out (by omega)
  have hE := HE.out (by have := HN1.out; omega) (by have := HS1.out; omega)
  have e1 : (seg l f t).getD 0 0 = l.getD f 0 := by rw [seg_at l f t 0 (by have := HN1.out; omega) g1]; rfl
  have e2 : (seg l f t).getD (n1 - 1) 0 = l.getD (t - 1) 0 := by rw [seg_at l f t (n1 - 1) (by have := HN1.out; omega) g1]; congr 1; have := HN1.out; omega
  have e3 : S.getD 0 0 = m.getD f 0 := by rw [HSg.out, seg_at m f e 0 (by have := HS1.out; omega) g3]; rfl
  have e4 : S.getD (n2 - 1) 0 = m.getD (e - 1) 0 := by rw [HSg.out, seg_at m f e (n2 - 1) (by have := HS1.out; omega) g3]; congr 1; have := HS1.out; omega
  rw [e1] at m1
  rw [e2] at m2
  rw [e3] at m3
  rw [e4] at m4
  have r1 : (l.getD f 0 == m.getD f 0) = false := beq_eq_false_iff_ne.2 hE.1
  have r2 : (l.getD (t - 1) 0 == m.getD (e - 1) 0) = false := beq_eq_false_iff_ne.2 hE.2
  subst hA1 hA3
  clear e1 e2 e3 e4 hE HE HSg
  generalize l.getD f 0 = z1 at *
  generalize m.getD f 0 = z2 at *
  generalize l.getD (t - 1) 0 = z3 at *
  generalize m.getD (e - 1) 0 = z4 at *
  have i1 : (0 : Int) ≤ (n1 : Int) - 1 := by omega
  have i2 : (n1 : Int) - 1 < (n1 : Int) := by omega
  have i3 : ((n1 : Int) - 1).toNat = n1 - 1 := by omega
  have i4 : (0 : Int) ≤ (n2 : Int) - 1 := by omega
  have i5 : (n2 : Int) - 1 < (n2 : Int) := by omega
  have i6 : ((n2 : Int) - 1).toNat = n2 - 1 := by omega
  have i7 : (0 : Int) < (n1 : Int) := by omega
  have i8 : (0 : Int) < (n2 : Int) := by omega
  clear HN1 HN2 HS1 HG HRX
  go_quiet (fail)
  obtain ⟨u0, ⟨_, u1, u2, u3⟩, hbz⟩ := HFIN.out nq
  have HBZ : Hid (Below w.heap.size w (W.drewN nq)) := hbz
  generalize W.drewN nq = Z at *
  have ff : ((f : Int) == (f : Int)) = true := by simp
  have fn9 : (f == f) = true := by simp
  clear hbz HFIN
  go_wp2_with fail
  go_quiet (fail)
  go_wp2_with fail
  go_ret
  exact ⟨rfl, below_drewN HBZ.out _⟩
theorem between_walk (v1 v2 : Value) (l m : List Int) (w : World) (h1 : Reads w v1 l) (h2 : Reads w v2 m) (hl8 : l.length * 8 ≤ 140737488351232) (hm8 : m.length * 8 ≤ 140737488351232) :
    Calls Try.prog 8 #[v1, v2] w fun e w' => e = .returned (.bool true) ∧ Below w.heap.size w w' := by
  by_cases hx : l.length ≤ 4096 ∧ m.length ≤ 4096
  · by_cases hlm : l = m
    · exact betw_same v1 v2 l m w h1 h2 hl8 hm8 hx.1 hx.2 hlm
    · exact betw_part v1 v2 l m w h1 h2 hl8 hm8 hx.1 hx.2 hlm
  · exact betw_big v1 v2 l m w h1 h2 hl8 hm8 (by omega)
end Go.Proofs.Ytpgecholpbpakaa.Seek
