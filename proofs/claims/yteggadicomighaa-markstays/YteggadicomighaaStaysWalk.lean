/- The walk of MarkStays. -/
import Derived.Test.YteggadicomighaaMoveGo
import Derived.Test.YteggadicomighaaFunGo
import Derived.Test.YteggadicomighaaApplyGo
import Derived.Test.YteggadicomighaaUndoGo
import Derived.Test.YteggadicomighaaLiterals
set_option linter.unusedVariables false
set_option linter.unusedSimpArgs false
namespace Go.Proofs.Yteggadicomighaa.Seek
open Go.RowKit Plain

theorem some_fits : Fits 1 [(0, 0, [7])] := ⟨by decide, ⟨by decide, by decide, by decide, .inr (by decide), trivial⟩, by decide⟩
theorem move_lit (v : Value) (w : World) (h2 : ReadsE w v (ups [(0, 0, [7])])) :
    Calls Try.prog 7 #[.int .i64 1, v, .int .i64 0, .bool false] w fun e w' => e = .returned (.tuple #[.int .i64 1, .int .i64 0]) ∧ Below w.heap.size w w' := move_ok v [(0, 0, [7])] 1 0 false w h2 some_fits (by decide)
/-- The places of a move, as numbers. -/
theorem mvd_nat {l : List Int} {ns : List Nsp} (h : Okay l.length 0 ns) (i : Nat) (hi : i ≤ l.length) : ∃ c p : Nat, mvd ns i true = (c : Int) ∧ mvd ns i false = (p : Int) ∧ c ≤ p ∧ p ≤ (app l 0 ns).length := by
  have := mvd_in h i hi
  exact ⟨(mvd ns i true).toNat, (mvd ns i false).toNat, by omega, by omega, by omega, by omega⟩

set_option maxHeartbeats 4000000 in
theorem stays_err (v1 v2 : Value) (l : List Int) (es : List Spl) (j k : Int) (w : World) (h1 : Reads w v1 l) (h2 : ReadsE w v2 es) (hl8 : l.length * 8 ≤ 140737488351232) (hc : chk (l.length : Int) es ≠ 0) :
    Calls Try.prog 4 #[v1, v2, .int .i64 j, .int .i64 k] w fun e w' => e = .returned (.bool true) ∧ Below w.heap.size w w' := by
  obtain ⟨c, hC⟩ : ∃ c, c = chk (l.length : Int) es := ⟨_, rfl⟩
  rw [← hC] at hc
  have HC : Hid (c = chk (l.length : Int) es) := hC
  have HN : Hid (chk (l.length : Int) es ≠ 0) := by rw [← hC]; exact hc
  have hcb : (c != 0) = true := by simpa using hc
  clear hC hc
  obtain ⟨a1, cap1, rfl⟩ := h1.shape
  have L_w : Hid (Reads w (.slice a1 l.length cap1) l) := h1
  have E_w : Hid (ReadsE w v2 es) := h2
  clear h1 h2
  go_enter Try.func4, Try.ntmps4
  go_wp2_with fail
  obtain ⟨w0, hw0⟩ : ∃ w0, w0 = ((w.alloc (.cells #[.int .i64 7] 3)).alloc (.cells #[.int .i64 0, .int .i64 0, .slice (some ⟨w.heap.size, 0, none⟩) 1 1] 37)) := ⟨_, rfl⟩
  have hb0 : Below w.heap.size w w0 := by rw [hw0]; exact below2 _ _ _
  have SE_w0 : Hid (ReadsE w0 (.slice (some ⟨w.heap.size + 1, 0, none⟩) 1 1) (ups [(0, 0, [7])])) := by
    rw [hw0]
    exact readsE_lit _ 0 0 _ [7] _ (by rw [size_alloc]) (reads_lit w [7] _ rfl _ rfl _ rfl (by decide)) (by decide)
  rw [← hw0]
  clear hw0
  have HB_w0 : Hid (Below w.heap.size w w0) := hb0
  have L_w0 : Hid (Reads w0 (.slice a1 l.length cap1) l) := L_w.out.below hb0
  have E_w0 : Hid (ReadsE w0 v2 es) := E_w.out.below hb0
  clear L_w E_w
  clear hb0
  refine (move_lit _ w0 SE_w0.out).mono ?_
  rintro e w1 ⟨rfl, hb⟩
  have HB_w1 : Hid (Below w.heap.size w w1) := below_trans HB_w0.out hb HB_w0.out.size
  have L_w1 : Hid (Reads w1 (.slice a1 l.length cap1) l) := L_w0.out.below hb
  have E_w1 : Hid (ReadsE w1 v2 es) := E_w0.out.below hb
  clear L_w0 E_w0 HB_w0
  clear hb SE_w0
  go_wp2_with fail
  refine (apply_err _ _ l es w1 L_w1.out E_w1.out HN.out).mono ?_
  rintro e w2 ⟨hb, rfl⟩
  have HB_w2 : Hid (Below w.heap.size w w2) := below_trans HB_w1.out hb HB_w1.out.size
  have L_w2 : Hid (Reads w2 (.slice a1 l.length cap1) l) := L_w1.out.below hb
  have E_w2 : Hid (ReadsE w2 v2 es) := E_w1.out.below hb
  clear L_w1 E_w1 HB_w1
  rw [← HC.out]
  clear hb
  go_wp2_with fail
  all_goals first
    | (exfalso; omega)
    | (go_ret; exact ⟨rfl, HB_w2.out⟩)

set_option maxRecDepth 100000 in
set_option maxHeartbeats 8000000 in
theorem stays_ok (v1 v2 : Value) (l : List Int) (es : List Spl) (j k : Int) (w : World) (h1 : Reads w v1 l) (h2 : ReadsE w v2 es) (hl8 : l.length * 8 ≤ 140737488351232) (ns : List Nsp) (hes : es = ups ns) (hR : Right l ns) :
    Calls Try.prog 4 #[v1, v2, .int .i64 j, .int .i64 k] w fun e w' => e = .returned (.bool true) ∧ Below w.heap.size w w' := by
  subst hes
  have hll := hR.1
  have hcnt := hR.2.1.count
  have HR : Hid (Right l ns) := hR
  have HO : Hid (Okay l.length 0 ns) := hR.2.1
  have HF : Hid (Fits l.length ns) := hR.fits
  have hfin := hR.2.2
  clear hR
  obtain ⟨a1, cap1, rfl⟩ := h1.shape
  have L_w : Hid (Reads w (.slice a1 l.length cap1) l) := h1
  have E_w : Hid (ReadsE w v2 (ups ns)) := h2
  obtain ⟨M, hM⟩ : ∃ M, M = app l 0 ns := ⟨_, rfl⟩
  have HM : Hid (M = app l 0 ns) := hM
  rw [← hM] at hfin
  clear hM
  clear h1 h2
  go_enter Try.func4, Try.ntmps4
  go_wp2_with fail
  obtain ⟨w0, hw0⟩ : ∃ w0, w0 = ((w.alloc (.cells #[.int .i64 7] 3)).alloc (.cells #[.int .i64 0, .int .i64 0, .slice (some ⟨w.heap.size, 0, none⟩) 1 1] 37)) := ⟨_, rfl⟩
  have hb0 : Below w.heap.size w w0 := by rw [hw0]; exact below2 _ _ _
  have SE_w0 : Hid (ReadsE w0 (.slice (some ⟨w.heap.size + 1, 0, none⟩) 1 1) (ups [(0, 0, [7])])) := by
    rw [hw0]
    exact readsE_lit _ 0 0 _ [7] _ (by rw [size_alloc]) (reads_lit w [7] _ rfl _ rfl _ rfl (by decide)) (by decide)
  rw [← hw0]
  clear hw0
  have HB_w0 : Hid (Below w.heap.size w w0) := hb0
  have L_w0 : Hid (Reads w0 (.slice a1 l.length cap1) l) := L_w.out.below hb0
  have E_w0 : Hid (ReadsE w0 v2 (ups ns)) := E_w.out.below hb0
  clear L_w E_w
  clear hb0
  refine (move_lit _ w0 SE_w0.out).mono ?_
  rintro e w1 ⟨rfl, hb⟩
  have HB_w1 : Hid (Below w.heap.size w w1) := below_trans HB_w0.out hb HB_w0.out.size
  have L_w1 : Hid (Reads w1 (.slice a1 l.length cap1) l) := L_w0.out.below hb
  have E_w1 : Hid (ReadsE w1 v2 (ups ns)) := E_w0.out.below hb
  clear L_w0 E_w0 HB_w0
  clear hb SE_w0
  go_wp2_with fail
  refine (apply_ok _ _ l ns w1 L_w1.out E_w1.out HR.out).mono ?_
  rintro e w2 ⟨hb, v4, rfl, ho⟩
  rw [← HM.out] at ho
  obtain ⟨am, cm, hv4⟩ := ho.reads.shape
  subst hv4
  have M_w2 : Hid (Reads w2 (.slice am M.length cm) M) := ho.reads
  have HB_w2 : Hid (Below w.heap.size w w2) := below_trans HB_w1.out hb HB_w1.out.size
  have L_w2 : Hid (Reads w2 (.slice a1 l.length cap1) l) := L_w1.out.below hb
  have E_w2 : Hid (ReadsE w2 v2 (ups ns)) := E_w1.out.below hb
  clear L_w1 E_w1 HB_w1
  clear hb ho
  go_wp2_with fail
  refine (rest_any j ((l.length : Int) + 1) w2 (by omega) (by omega)).mono ?_
  rintro e wx ⟨⟨i, hi, rfl⟩, hwx⟩
  rw [hwx]
  clear hwx wx
  go_wp2_with fail
  obtain ⟨w3, hw3⟩ : ∃ w3, w3 = w2.alloc (.cells #[.int .i64 (i : Int)] 3) := ⟨_, rfl⟩
  obtain ⟨B, hB⟩ : ∃ B, B = w2.heap.size := ⟨_, rfl⟩
  have hb3 : Below w2.heap.size w2 w3 := by rw [hw3]; exact box_below _ _
  have V_w3 : Hid (Var1 w3 B i) := by rw [hw3, hB]; exact var1_new _ _
  rw [← hw3]
  rw [← hB]
  clear hw3 hB
  have HB_w3 : Hid (Below w.heap.size w w3) := below_trans HB_w2.out hb3 HB_w2.out.size
  have L_w3 : Hid (Reads w3 (.slice a1 l.length cap1) l) := L_w2.out.below hb3
  have E_w3 : Hid (ReadsE w3 v2 (ups ns)) := E_w2.out.below hb3
  have M_w3 : Hid (Reads w3 (.slice am M.length cm) M) := M_w2.out.below hb3
  clear L_w2 E_w2 M_w2 HB_w2
  clear hb3
  refine (rest_any k ((l.length : Int) + 1) w3 (by omega) (by omega)).mono ?_
  rintro e wx ⟨⟨n, hn, rfl⟩, hwx⟩
  rw [hwx]
  clear hwx wx
  have hi2 : i ≤ l.length := by omega
  have hn2 : n ≤ l.length := by omega
  clear hi hn
  obtain ⟨C, P, hC, hP, hCP, hPM⟩ := mvd_nat HO.out i hi2
  obtain ⟨C2, P2, hC2, hP2, _, _⟩ := mvd_nat HO.out n hn2
  have hPP : i ≤ n → P ≤ P2 := fun h => by have := mvd_mono HO.out i n h; omega
  rw [← HM.out] at hPM
  have HC : Hid (mvd ns i true = (C : Int)) := hC
  have HP : Hid (mvd ns i false = (P : Int)) := hP
  have HP2 : Hid (mvd ns n false = (P2 : Int)) := hP2
  clear hC hP hC2 hP2
  have bx := V_w3.out.2
  go_wp2_with fail
  refine (move_ok v2 ns l.length i false w3 E_w3.out HF.out hi2).mono ?_
  rw [HP.out]
  rintro e w4 ⟨rfl, hb⟩
  have HB_w4 : Hid (Below w.heap.size w w4) := below_trans HB_w3.out hb HB_w3.out.size
  have L_w4 : Hid (Reads w4 (.slice a1 l.length cap1) l) := L_w3.out.below hb
  have E_w4 : Hid (ReadsE w4 v2 (ups ns)) := E_w3.out.below hb
  have M_w4 : Hid (Reads w4 (.slice am M.length cm) M) := M_w3.out.below hb
  have V_w4 : Hid (Var1 w4 B i) := V_w3.out.below hb
  clear L_w3 E_w3 M_w3 V_w3 HB_w3
  clear hb bx
  have bx := V_w4.out.2
  go_wp2_with fail
  refine (move_ok v2 ns l.length n false w4 E_w4.out HF.out hn2).mono ?_
  rw [HP2.out]
  rintro e w5 ⟨rfl, hb⟩
  have HB_w5 : Hid (Below w.heap.size w w5) := below_trans HB_w4.out hb HB_w4.out.size
  have L_w5 : Hid (Reads w5 (.slice a1 l.length cap1) l) := L_w4.out.below hb
  have E_w5 : Hid (ReadsE w5 v2 (ups ns)) := E_w4.out.below hb
  have M_w5 : Hid (Reads w5 (.slice am M.length cm) M) := M_w4.out.below hb
  have V_w5 : Hid (Var1 w5 B i) := V_w4.out.below hb
  clear L_w4 E_w4 M_w4 V_w4 HB_w4
  clear hb bx
  have bx := V_w5.out.2
  go_wp2_with fail
  refine (move_ok v2 ns l.length i true w5 E_w5.out HF.out hi2).mono ?_
  rw [HC.out]
  rintro e w6 ⟨rfl, hb⟩
  have HB_w6 : Hid (Below w.heap.size w w6) := below_trans HB_w5.out hb HB_w5.out.size
  have L_w6 : Hid (Reads w6 (.slice a1 l.length cap1) l) := L_w5.out.below hb
  have E_w6 : Hid (ReadsE w6 v2 (ups ns)) := E_w5.out.below hb
  have M_w6 : Hid (Reads w6 (.slice am M.length cm) M) := M_w5.out.below hb
  have V_w6 : Hid (Var1 w6 B i) := V_w5.out.below hb
  clear L_w5 E_w5 M_w5 V_w5 HB_w5
  clear hb bx
  have bx := V_w6.out.2
  have hle : i ≤ n ∧ P ≤ P2 ∨ n < i := by omega
  clear hPP
  rcases hle with ⟨hle, hPP⟩ | hle
  all_goals (
    go_wp2_with fail
    all_goals try (exfalso; omega)
    refine (contains_lit15 B i v2 ns w6 (tells15 B i) E_w6.out (by omega) bx V_w6.out.1).mono ?_
    rintro e w7 ⟨rfl, hb⟩
    have HB_w7 : Hid (Below w.heap.size w w7) := below_trans HB_w6.out hb HB_w6.out.size
    have L_w7 : Hid (Reads w7 (.slice a1 l.length cap1) l) := L_w6.out.below hb
    have E_w7 : Hid (ReadsE w7 v2 (ups ns)) := E_w6.out.below hb
    have M_w7 : Hid (Reads w7 (.slice am M.length cm) M) := M_w6.out.below hb
    have V_w7 : Hid (Var1 w7 B i) := V_w6.out.below hb
    clear L_w6 E_w6 M_w6 V_w6 HB_w6
    clear hb bx
    have bx := V_w7.out.2
    cases hg : gone ns i with
    | true =>
      go_wp2_with fail
      go_quiet (fail)
      go_wp2_with fail
      go_ret; exact ⟨rfl, below_drewN HB_w7.out _⟩
    | false =>
      by_cases hil : i = l.length
      · have d1 : ((i : Int) == (l.length : Int)) = true := by simp [hil]
        go_wp2_with fail
        go_quiet (fail)
        go_wp2_with fail
        go_ret; exact ⟨rfl, below_drewN HB_w7.out _⟩
      · have d1 : ((i : Int) == (l.length : Int)) = false := beq_eq_false_iff_ne.2 (by omega)
        have d1n : (i == l.length) = false := beq_eq_false_iff_ne.2 hil
        have hil2 : i < l.length := by omega
        obtain ⟨q, hq1, hq2, hq3⟩ := mvd_stays HO.out i hil2 hg
        obtain rfl : q = P := by have := HP.out; omega
        rw [← HM.out] at hq2 hq3
        obtain ⟨bl, ol, hal, hcl⟩ := Reads.at_ L_w7.out i hil2
        obtain ⟨bm, om, ham, hcm⟩ := Reads.at_ M_w7.out q hq2
        subst hal ham
        have hz : M.getD q 0 = l.getD i 0 := by rw [List.getD_eq_getElem?_getD, List.getD_eq_getElem?_getD, hq3]
        rw [hz] at hcm
        generalize l.getD i 0 = z at *
        clear hq1 hq3 hz
        have d2 : decide ((q : Int) < (M.length : Int)) = true := decide_eq_true (by omega)
        have d2n : decide (q < M.length) = true := decide_eq_true hq2
        have d3 : (q : Int) < (M.length : Int) := by omega
        have d4 : (i : Int) < (l.length : Int) := by omega
        go_wp2_with fail
        go_quiet (fail)
        go_wp2_with fail
        go_ret; exact ⟨rfl, below_drewN HB_w7.out _⟩)

theorem stays_walk (v1 v2 : Value) (l : List Int) (es : List Spl) (j k : Int) (w : World) (h1 : Reads w v1 l) (h2 : ReadsE w v2 es) (hl8 : l.length * 8 ≤ 140737488351232) (he8 : es.length * 40 ≤ 140737488351232) :
    Calls Try.prog 4 #[v1, v2, .int .i64 j, .int .i64 k] w fun e w' => e = .returned (.bool true) ∧ Below w.heap.size w w' := by
  by_cases hc : chk (l.length : Int) es = 0
  · obtain ⟨ns, hes, hR⟩ := chk_ok hc
    exact stays_ok v1 v2 l es j k w h1 h2 hl8 ns hes hR
  · exact stays_err v1 v2 l es j k w h1 h2 hl8 hc
end Go.Proofs.Yteggadicomighaa.Seek
