/- The walk of KeysFront. -/
import Derived.Test.YtjpgjhdkgmddfaaTakeGo
import Derived.Test.YtjpgjhdkgmddfaaAllGo
import Derived.Test.YtjpgjhdkgmddfaaFront
import Derived.Test.YtjpgjhdkgmddfaaEqC
import Derived.Test.YtjpgjhdkgmddfaaConcatAny
set_option linter.unusedVariables false
set_option linter.unusedSimpArgs false
namespace Go.Proofs.Ytjpgjhdkgmddfaa.Seek
open Go.RowKit Plain

theorem new_cell2 (w : World) (u v : Value) (j : Nat) (x : Value) (h : (#[u, v] : Array Value)[j]? = some x) : (w.alloc (.cells #[u, v] 33)).cell? ⟨w.heap.size, j, none⟩ = some x := by
  unfold World.cell?
  simp only
  rw [heap_new]
  simpa using h
theorem concat2 (v1 v2 : Value) (x1 x2 : List Int) (w : World) (h1 : Reads w v1 x1) (h2 : Reads w v2 x2) (hb : (x1 ++ x2).length * 8 ≤ 281474976710656) :
    Calls Try.prog 11 #[.slice (some ⟨w.heap.size, 0, none⟩) 2 2] (w.alloc (.cells #[v1, v2] 33)) fun e w' => ConcatPost (x1 ++ x2) (w.alloc (.cells #[v1, v2] 33)) e w' := by
  have hj : joined (fun j => match j with | 0 => x1 | _ => x2) 2 = x1 ++ x2 := by simp [joined]
  have := concat_any w.heap.size 2 2 (fun j => match j with | 0 => v1 | _ => v2) (fun j => match j with | 0 => x1 | _ => x2) (w.alloc (.cells #[v1, v2] 33)) (by decide) (by rw [size_alloc]; omega)
    (fun j hj => by
      match j, hj with
      | 0, _ => exact new_cell2 w _ _ 0 _ rfl
      | 1, _ => exact new_cell2 w _ _ 1 _ rfl)
    (fun j hj => by
      match j, hj with
      | 0, _ => exact h1.below (box_below _ _)
      | 1, _ => exact h2.below (box_below _ _)) (by rw [hj]; exact hb)
  rw [hj] at this
  exact this
theorem all_3d : allk (codes ⟨#[51, 100]⟩) = ([], (3, 0, 100, 0, 0), 0) := by decide
theorem eq_lit {t : TypeId} (ht : t = 23 ∨ t = 27) (a b c d e a' b' c' d' e' : Int) (x : Bool) (h : decide (((a, b, c, d, e) : Five) = (a', b', c', d', e')) = x) (w : World) :
    (binOp .eql t (.agg #[.int .i64 a, .int .i64 b, .int .i64 c, .int .i64 d, .int .i64 e]) (.agg #[.int .i64 a', .int .i64 b', .int .i64 c', .int .i64 d', .int .i64 e'])).run Try.prog w = .ok (.bool x) w := by
  have := eqF ht (a, b, c, d, e) (a', b', c', d', e') w
  rw [h] at this
  exact this
theorem neq_lit {t : TypeId} (ht : t = 23 ∨ t = 27) (a b c d e : Int) (w : World) :
    (binOp .neq t (.agg #[.int .i64 a, .int .i64 b, .int .i64 c, .int .i64 d, .int .i64 e]) (.agg #[.int .i64 a, .int .i64 b, .int .i64 c, .int .i64 d, .int .i64 e])).run Try.prog w = .ok (.bool false) w := neq_same ht (a, b, c, d, e) w
theorem box_part (w : World) (a b c d e : Int) : BoxF (w.alloc (.cells #[.int .i64 a, .int .i64 b, .int .i64 c, .int .i64 d, .int .i64 e] 23)) 23 w.heap.size (a, b, c, d, e) := BoxF.new w 23 (a, b, c, d, e)

set_option maxRecDepth 100000 in
set_option maxHeartbeats 2000000 in
theorem front_walk (va vb : Value) (la lb : List Int) (w : World) (ha : Reads w va la) (hb : Reads w vb lb) (hl : la.length + lb.length ≤ 1048576) :
    Calls Try.prog 4 #[va, vb] w fun e w' => e = .returned (.bool true) ∧ Below w.heap.size w w' := by
  obtain ⟨aa, ca, rfl⟩ := ha.shape
  obtain ⟨ab, cb, rfl⟩ := hb.shape
  have HA : Hid (∀ wx, Below w.heap.size w wx → Reads wx (.slice aa la.length ca) la) := fun wx h => ha.below h
  have HB : Hid (∀ wx, Below w.heap.size w wx → Reads wx (.slice ab lb.length cb) lb) := fun wx h => hb.below h
  have HBR : Hid (Reads w (.slice ab lb.length cb) lb) := hb
  have HLL : Hid (la.length + lb.length ≤ 1048576) := hl
  clear ha hb
  go_enter Try.func4, Try.ntmps4
  go_wp2_with fail
  refine (of_any ⟨#[51, 100]⟩ _ (by decide)).mono ?_
  rintro e w1 ⟨hb1, u, rfl, hown⟩
  have HB1 : Hid (Below w.heap.size w w1) := hb1
  have Hu : Hid (Reads w1 u (codes ⟨#[51, 100]⟩)) := owned_reads hown
  clear hown hb1
  go_wp2_with fail
  refine (all_go u _ w1 Hu.out (by decide)).mono ?_
  rintro e w2 ⟨v0, rfl, ho0, hb2⟩
  rw [all_3d] at ho0
  rw [all_3d]
  have HB2 : Hid (Below w.heap.size w w2) := below_trans HB1.out hb2 HB1.out.size
  obtain ⟨a0, c0, hv0⟩ := ho0.reads.shape
  obtain rfl : v0 = .slice a0 0 c0 := hv0
  clear ho0 hb2 Hu HB1
  simp only [fv]
  have ne1 := fun w' => neq_lit (.inl rfl) 3 0 100 0 0 w'
  go_wp2_with fail
  have HB3 : Hid (Below w.heap.size w (w2.alloc (.cells #[.int .i64 3, .int .i64 0, .int .i64 100, .int .i64 0, .int .i64 0] 23))) := HB2.out.alloc HB2.out.size _
  clear ne1 HB2
  generalize w2.alloc (.cells #[.int .i64 3, .int .i64 0, .int .i64 100, .int .i64 0, .int .i64 0] 23) = w3 at *
  obtain ⟨X, hX⟩ : ∃ X, X = allk la := ⟨_, rfl⟩
  have HX : Hid (allk la = X) := hX.symm
  refine (all_go (.slice aa la.length ca) la w3 (HA.out _ HB3.out) (by omega)).mono ?_
  rintro e w4 ⟨v1, rfl, ho1, hb4⟩
  rw [← hX] at ho1
  rw [← hX]
  clear hX
  have HOK : Hid (okp X.2.1 ∧ X.1.length ≤ la.length ∧ X.2.2 ≤ la.length) := by rw [← HX.out]; exact allk_inv la
  have HB4 : Hid (Below w.heap.size w w4) := below_trans HB3.out hb4 HB3.out.size
  clear HB3 hb4
  have HO1 : Hid (ReadsC w4 v1 X.1) := ho1.reads
  obtain ⟨a1, c1, rfl⟩ := HO1.out.shape
  clear ho1
  obtain ⟨cs, ⟨p0, p1, p2, p3, p4⟩, n⟩ := X
  simp only [fv]
  go_wp2_with fail
  have HB5 : Hid (Below w.heap.size w (w4.alloc (.cells #[.int .i64 p0, .int .i64 p1, .int .i64 p2, .int .i64 p3, .int .i64 p4] 23))) := HB4.out.alloc HB4.out.size _
  have HP5 : Hid (BoxF (w4.alloc (.cells #[.int .i64 p0, .int .i64 p1, .int .i64 p2, .int .i64 p3, .int .i64 p4] 23)) 23 w4.heap.size (p0, p1, p2, p3, p4)) := box_part w4 _ _ _ _ _
  have HO5 : Hid (ReadsC (w4.alloc (.cells #[.int .i64 p0, .int .i64 p1, .int .i64 p2, .int .i64 p3, .int .i64 p4] 23)) (.slice a1 cs.length c1) cs) := HO1.out.below (box_below _ _)
  have HG9 : Hid (w.heap.size ≤ w4.heap.size) := HB4.out.size
  have HS5 : Hid ((w4.alloc (.cells #[.int .i64 p0, .int .i64 p1, .int .i64 p2, .int .i64 p3, .int .i64 p4] 23)).heap.size = w4.heap.size + 1) := size_alloc _ _
  clear HB4 HO1
  generalize w4.alloc (.cells #[.int .i64 p0, .int .i64 p1, .int .i64 p2, .int .i64 p3, .int .i64 p4] 23) = w5 at *
  generalize w4.heap.size = G9 at *
  have HC : Hid (Calls Try.prog 11 _ _ _) := concat2 _ _ la lb w5 (HA.out _ HB5.out) (HB.out _ HB5.out) (by rw [List.length_append]; omega)
  rw [HS5.out] at HC
  refine HC.out.mono ?_
  rintro e w6 ⟨hb6, vx, rfl, hox⟩
  have HB65 : Hid (Below w5.heap.size w5 w6) := below_trans (box_below _ _) hb6 (by rw [size_alloc]; omega)
  have HB6 : Hid (Below w.heap.size w w6) := below_trans HB5.out HB65.out HB5.out.size
  have HP6 : Hid (BoxF w6 23 G9 (p0, p1, p2, p3, p4)) := HP5.out.below HB65.out
  have HO6 : Hid (ReadsC w6 (.slice a1 cs.length c1) cs) := HO5.out.below HB65.out
  have HRX : Hid (Reads w6 vx (la ++ lb)) := hox.reads
  clear hox hb6 HB65 HC HB5 HP5 HO5
  obtain ⟨XL, hXL⟩ : ∃ XL, XL = la ++ lb := ⟨_, rfl⟩
  have HXL : Hid (XL = la ++ lb) := hXL
  rw [← hXL] at HRX
  clear hXL
  have HXN : Hid (XL.length = la.length + lb.length) := by show _ = _; rw [HXL.out, List.length_append]
  obtain ⟨ax, cx, rfl⟩ := HRX.out.shape
  go_wp2_with fail
  have HY0 : Hid (allk XL = allf (cs, (p0, p1, p2, p3, p4), n) lb) := by show _ = _; rw [← HX.out, HXL.out]; exact allf_append _ la lb
  obtain ⟨Y, hY⟩ : ∃ Y, Y = allk XL := ⟨_, rfl⟩
  have HY : Hid (Y = allf (cs, (p0, p1, p2, p3, p4), n) lb) := hY.trans HY0.out
  have HYK : Hid (okp Y.2.1 ∧ Y.1.length ≤ XL.length ∧ Y.2.2 ≤ XL.length) := by rw [hY]; exact allk_inv _
  refine (all_go _ XL w6 HRX.out (by rw [HXN.out]; omega)).mono ?_
  rintro e w7 ⟨v2, rfl, ho2, hb7⟩
  rw [← hY] at ho2
  rw [← hY]
  clear hY HY0
  have HB7 : Hid (Below w.heap.size w w7) := below_trans HB6.out hb7 HB6.out.size
  have HP7 : Hid (BoxF w7 23 G9 (p0, p1, p2, p3, p4)) := HP6.out.below hb7
  have HO7 : Hid (ReadsC w7 (.slice a1 cs.length c1) cs) := HO6.out.below hb7
  have HQ7 : Hid (ReadsC w7 v2 Y.1) := ho2.reads
  obtain ⟨a2, c2, rfl⟩ := HQ7.out.shape
  have hcap := ho2.cap
  unfold maxLen at hcap
  clear hb7 ho2 HB6 HP6 HO6 HRX
  obtain ⟨ds, hds, hn2, hln⟩ := allf_split lb (cs, (p0, p1, p2, p3, p4), n)
  rw [← HY.out] at hds hn2 hln
  have HYP : Hid (Y.2.1 = (allf (cs, (p0, p1, p2, p3, p4), n) lb).2.1) := congrArg (fun y : Sofar => y.2.1) HY.out
  clear HY
  obtain ⟨ys, ⟨q0, q1, q2, q3, q4⟩, k⟩ := Y
  simp only at hds hn2 hln hcap
  have HDS : Hid (ys.take cs.length = cs) := by show _ = _; rw [hds]; exact List.take_left ..
  have hyl : ys.length = cs.length + ds.length := by rw [hds, List.length_append]
  have hys : ys.length ≤ la.length + lb.length := by have := HYK.out.2.1; rw [HXN.out] at this; exact this
  have hk9 : k ≤ la.length + lb.length := by have := HYK.out.2.2; rw [HXN.out] at this; exact this
  have HQF : Hid (ReadsC w7 (.slice a2 cs.length c2) cs) := by
    have := HQ7.out.front cs.length (by show cs.length ≤ ys.length; omega)
    rw [HDS.out] at this
    exact this
  have i1 : (cs.length : Int) ≤ (ys.length : Int) := by omega
  have i2 : (ys.length : Int) ≤ 1048576 := by omega
  have i3 : (n : Int) ≤ (k : Int) := by omega
  have i4 : (k : Int) ≤ 1048576 := by omega
  have i5 : (ys.length : Int) - (cs.length : Int) + (k : Int) - (n : Int) ≤ (lb.length : Int) := by omega
  have i6 : cs.length ≤ c2 := by omega
  have i7 : ys.length ≤ c2 := hcap.1
  have i8 : (lb.length : Int) ≤ 1048576 := by omega
  have HDD : Hid (ys = cs ++ ds) := hds
  clear hds hyl hys hk9 hln hn2 hcap HDS HQ7
  simp only [fv]
  go_wp2_with fail
  have HB8 : Hid (Below w.heap.size w (w7.alloc (.cells #[.int .i64 q0, .int .i64 q1, .int .i64 q2, .int .i64 q3, .int .i64 q4] 23))) := HB7.out.alloc HB7.out.size _
  have HQ8 : Hid (BoxF (w7.alloc (.cells #[.int .i64 q0, .int .i64 q1, .int .i64 q2, .int .i64 q3, .int .i64 q4] 23)) 23 w7.heap.size (q0, q1, q2, q3, q4)) := box_part w7 _ _ _ _ _
  have HP8 : Hid (BoxF (w7.alloc (.cells #[.int .i64 q0, .int .i64 q1, .int .i64 q2, .int .i64 q3, .int .i64 q4] 23)) 23 G9 (p0, p1, p2, p3, p4)) := HP7.out.alloc _
  have HE8 : Hid (ReadsC (w7.alloc (.cells #[.int .i64 q0, .int .i64 q1, .int .i64 q2, .int .i64 q3, .int .i64 q4] 23)) (.slice a1 cs.length c1) cs ∧ ReadsC (w7.alloc (.cells #[.int .i64 q0, .int .i64 q1, .int .i64 q2, .int .i64 q3, .int .i64 q4] 23)) (.slice a2 cs.length c2) cs) := ⟨HO7.out.below (box_below _ _), HQF.out.below (box_below _ _)⟩
  have HG12 : Hid (G9 < w7.heap.size ∧ w.heap.size ≤ w7.heap.size) := ⟨HP7.out.lt, HB7.out.size⟩
  clear HB7 HP7 HO7 HQF
  generalize w7.alloc (.cells #[.int .i64 q0, .int .i64 q1, .int .i64 q2, .int .i64 q3, .int .i64 q4] 23) = w8 at *
  generalize w7.heap.size = G12 at *
  refine (equalC_same _ _ cs w8 HE8.out.1 HE8.out.2).mono ?_
  rintro e w9 ⟨rfl, hb9⟩
  have HB9 : Hid (Below w.heap.size w w9) := below_trans HB8.out hb9 HB8.out.size
  have HQ9 : Hid (BoxF w9 23 G12 (q0, q1, q2, q3, q4)) := HQ8.out.below hb9
  have HP9 : Hid (BoxF w9 23 G9 (p0, p1, p2, p3, p4)) := HP8.out.below hb9
  clear HB8 HQ8 HP8 HE8 hb9
  go_wp2_with fail
  have b1 : decide (ys.length < cs.length) = false := decide_eq_false (by omega)
  have b2 : decide (k < n) = false := decide_eq_false (by omega)
  have b3 : decide ((lb.length : Int) < (ys.length : Int) - (cs.length : Int) + (k : Int) - (n : Int)) = false := decide_eq_false (by omega)
  simp only [b1, b2, b3, Bool.or_self, Bool.false_or]
  clear b1 b2 b3
  go_loopw [88] (fun u88 wr => ∃ (i : Nat) (p : Five), i ≤ lb.length ∧ u88 = .int .i64 (i : Int) ∧ Hid (p = (allf (cs, (p0, p1, p2, p3, p4), n) (lb.take i)).2.1) ∧ Hid (BoxF wr 23 G9 p) ∧ Hid (BoxF wr 23 G12 (q0, q1, q2, q3, q4)) ∧ Hid (Below w.heap.size w wr))
    (fun u88 _ => lb.length - (intOf u88).toNat)
  case atStart => exact ⟨0, _, by omega, rfl, rfl, HP9.out, HQ9.out, HB9.out⟩
  case round =>
    obtain ⟨i, p, hi, rfl, Hp, Hbp, Hbq, Hbb⟩ := hrel
    have HPI : Hid (okp p) := by
      have := (allf_inv (lb.take i) (cs, (p0, p1, p2, p3, p4), n) HOK.out.1).1
      rw [← Hp.out] at this
      exact this
    by_cases hlt : i < lb.length
    · have hilt : (i : Int) < (lb.length : Int) := by omega
      obtain ⟨b, off, hab, hbl, hcx⟩ := reads_at HBR.out i hlt
      subst hab
      have hcx' : wr.cell? ⟨b, off + i, none⟩ = some (.int .i64 (lb.getD i 0)) := (Hbb.out.cell (by exact hbl)).trans hcx
      have Ht : Hid ((allf (cs, (p0, p1, p2, p3, p4), n) (lb.take (i + 1))).2.1 = (stq p (lb.getD i 0)).1) := by
        show _ = _
        rw [List.take_succ_eq_append_getElem hlt, allf_append, Hp.out, List.getD_eq_getElem?_getD, List.getElem?_eq_getElem hlt]
        rfl
      obtain ⟨x, hx⟩ : ∃ x, x = lb.getD i 0 := ⟨_, rfl⟩
      rw [← hx] at hcx' Ht
      clear hcx hx Hp
      obtain ⟨f, r, o, s, t⟩ := p
      have HT : Hid (∀ w1, Calls Try.prog 6 #[.agg #[.int .i64 f, .int .i64 r, .int .i64 o, .int .i64 s, .int .i64 t], .int .i64 x] w1 fun e w' => TakePost (stp f r o s t x, 0) w1 e w') := fun w1 => by
        have := take_go f r o s t x w1
        rw [show tkn f r o s t x = (stp f r o s t x, 0) from if_pos HPI.out] at this
        exact this
      have hhow := how_cases f r o s t x
      have HREST : Hid ((stp f r o s t x).2.2 ≠ 1 → (stp f r o s t x).1 = zer) := stp_rest
      have HMOV : Hid ((stp f r o s t x).2.2 = 1 → (stp f r o s t x).1 = (f, r, o, s, t) → 999 ≤ f ∨ 999 ≤ s) := stp_moves HPI.out
      obtain ⟨R, hR⟩ : ∃ R, R = stp f r o s t x := ⟨_, rfl⟩
      have Ht2 : Hid ((allf (cs, (p0, p1, p2, p3, p4), n) (lb.take (i + 1))).2.1 = R.1) := Ht.out.trans (by rw [hR]; rfl)
      rw [← hR] at HT hhow HREST HMOV
      clear hR Ht HPI
      obtain ⟨⟨n0, n1, n2, n3, n4⟩, ⟨m0, m1, m2, m3, m4⟩, m⟩ := R
      simp only at hhow
      have HREST2 : Hid (m ≠ 1 → ((n0, n1, n2, n3, n4) : Five) = zer) := HREST.out
      have HMOV2 : Hid (m = 1 → ((n0, n1, n2, n3, n4) : Five) = (f, r, o, s, t) → 999 ≤ f ∨ 999 ≤ s) := HMOV.out
      clear HREST HMOV
      have c0 := Hbp.out.c0
      have c1 := Hbp.out.c1
      have c2 := Hbp.out.c2
      have c3 := Hbp.out.c3
      have c4 := Hbp.out.c4
      simp only at c0 c1 c2 c3 c4
      go_wp2_with fail
      refine (HT.out _).mono ?_
      rintro e y1 ⟨rfl, hb⟩
      have Hbp1 : Hid (BoxF y1 23 G9 (f, r, o, s, t)) := Hbp.out.below hb
      have Hbq1 : Hid (BoxF y1 23 G12 (q0, q1, q2, q3, q4)) := Hbq.out.below hb
      have Hbb1 : Hid (Below w.heap.size w y1) := below_trans Hbb.out hb Hbb.out.size
      clear Hbp Hbq Hbb hb HT c0 c1 c2 c3 c4 hcx'
      simp only [fv]
      have HTW : Hid _ := two_is y1 n0 n1 n2 n3 n4 m0 m1 m2 m3 m4
      have Hbp2 : Hid (BoxF ((y1.alloc (.cells #[.int .i64 n0, .int .i64 n1, .int .i64 n2, .int .i64 n3, .int .i64 n4] 23)).alloc (.cells #[.int .i64 m0, .int .i64 m1, .int .i64 m2, .int .i64 m3, .int .i64 m4] 27)) 23 G9 (f, r, o, s, t)) := Hbp1.out.below HTW.out.2.2
      have Hbq2 : Hid (BoxF ((y1.alloc (.cells #[.int .i64 n0, .int .i64 n1, .int .i64 n2, .int .i64 n3, .int .i64 n4] 23)).alloc (.cells #[.int .i64 m0, .int .i64 m1, .int .i64 m2, .int .i64 m3, .int .i64 m4] 27)) 23 G12 (q0, q1, q2, q3, q4)) := Hbq1.out.below HTW.out.2.2
      have Hbb2 : Hid (Below w.heap.size w ((y1.alloc (.cells #[.int .i64 n0, .int .i64 n1, .int .i64 n2, .int .i64 n3, .int .i64 n4] 23)).alloc (.cells #[.int .i64 m0, .int .i64 m1, .int .i64 m2, .int .i64 m3, .int .i64 m4] 27))) := below_trans Hbb1.out HTW.out.2.2 Hbb1.out.size
      have c0 : ∀ o1 o2, ((y1.alloc o1).alloc o2).cell? ⟨G9, 0, none⟩ = some (.int .i64 f) := fun o1 o2 => ((Hbp1.out.alloc o1).alloc o2).c0
      have c1 : ∀ o1 o2, ((y1.alloc o1).alloc o2).cell? ⟨G9, 1, none⟩ = some (.int .i64 r) := fun o1 o2 => ((Hbp1.out.alloc o1).alloc o2).c1
      have c2 : ∀ o1 o2, ((y1.alloc o1).alloc o2).cell? ⟨G9, 2, none⟩ = some (.int .i64 o) := fun o1 o2 => ((Hbp1.out.alloc o1).alloc o2).c2
      have c3 : ∀ o1 o2, ((y1.alloc o1).alloc o2).cell? ⟨G9, 3, none⟩ = some (.int .i64 s) := fun o1 o2 => ((Hbp1.out.alloc o1).alloc o2).c3
      have c4 : ∀ o1 o2, ((y1.alloc o1).alloc o2).cell? ⟨G9, 4, none⟩ = some (.int .i64 t) := fun o1 o2 => ((Hbp1.out.alloc o1).alloc o2).c4
      clear HTW Hbp1 Hbq1 Hbb1
      rcases hhow with rfl | hm
      · by_cases he : ((n0, n1, n2, n3, n4) : Five) = (f, r, o, s, t)
        · have h9 := HMOV2.out rfl he
          have e1 := fun w' => eq_lit (.inl rfl) n0 n1 n2 n3 n4 f r o s t true (decide_eq_true he) w'
          clear he HMOV2 HREST2
          by_cases h10 : f < 999
          · have h11 : 999 ≤ s := by omega
            clear h9
            go_wp2_with (first | (refine storeF rfl 23 _ _ rfl (.inl rfl) G9 rfl (n0, n1, n2, n3, n4) (f, r, o, s, t) rfl Hbp2.out ?_))
            go_roundw
            case rel => exact ⟨i + 1, (n0, n1, n2, n3, n4), by omega, by go_num, Ht2.out.symm, Hbp2.out.row _, Hbq2.out.other _ (by have := HG12.out.1; omega), below_row Hbb2.out HG9.out _⟩
            case measure => simp [intOf]; omega
          · have h11 : 999 ≤ f := by omega
            clear h9 h10
            go_wp2_with (first | (refine storeF rfl 23 _ _ rfl (.inl rfl) G9 rfl (n0, n1, n2, n3, n4) (f, r, o, s, t) rfl Hbp2.out ?_))
            go_roundw
            case rel => exact ⟨i + 1, (n0, n1, n2, n3, n4), by omega, by go_num, Ht2.out.symm, Hbp2.out.row _, Hbq2.out.other _ (by have := HG12.out.1; omega), below_row Hbb2.out HG9.out _⟩
            case measure => simp [intOf]; omega
        · have e1 := fun w' => eq_lit (.inl rfl) n0 n1 n2 n3 n4 f r o s t false (decide_eq_false he) w'
          clear he HMOV2 HREST2
          go_wp2_with (first | (refine storeF rfl 23 _ _ rfl (.inl rfl) G9 rfl (n0, n1, n2, n3, n4) (f, r, o, s, t) rfl Hbp2.out ?_))
          go_roundw
          case rel => exact ⟨i + 1, (n0, n1, n2, n3, n4), by omega, by go_num, Ht2.out.symm, Hbp2.out.row _, Hbq2.out.other _ (by have := HG12.out.1; omega), below_row Hbb2.out HG9.out _⟩
          case measure => simp [intOf]; omega
      · have hz := HREST2.out (by omega)
        have hzz : n0 = 0 ∧ n1 = 0 ∧ n2 = 0 ∧ n3 = 0 ∧ n4 = 0 := by unfold zer at hz; simpa using hz
        obtain ⟨rfl, rfl, rfl, rfl, rfl⟩ := hzz
        have e1 := fun w' => neq_lit (.inl rfl) 0 0 0 0 0 w'
        clear hz HMOV2 HREST2
        rcases hm with rfl | rfl
        · skip
          go_wp2_with (first | (refine storeF rfl 23 _ _ rfl (.inl rfl) G9 rfl (0, 0, 0, 0, 0) (f, r, o, s, t) rfl Hbp2.out ?_))
          go_roundw
          case rel => exact ⟨i + 1, (0, 0, 0, 0, 0), by omega, by go_num, Ht2.out.symm, Hbp2.out.row _, Hbq2.out.other _ (by have := HG12.out.1; omega), below_row Hbb2.out HG9.out _⟩
          case measure => simp [intOf]; omega
        · skip
          go_wp2_with (first | (refine storeF rfl 23 _ _ rfl (.inl rfl) G9 rfl (0, 0, 0, 0, 0) (f, r, o, s, t) rfl Hbp2.out ?_))
          go_roundw
          case rel => exact ⟨i + 1, (0, 0, 0, 0, 0), by omega, by go_num, Ht2.out.symm, Hbp2.out.row _, Hbq2.out.other _ (by have := HG12.out.1; omega), below_row Hbb2.out HG9.out _⟩
          case measure => simp [intOf]; omega
    · obtain rfl : i = lb.length := by omega
      have hpq : p = (q0, q1, q2, q3, q4) := by rw [Hp.out, List.take_of_length_le (Nat.le_refl _)]; exact HYP.out.symm
      subst hpq
      have HK : Hid (∀ w1, Calls Try.prog 7 #[.agg #[.int .i64 q0, .int .i64 q1, .int .i64 q2, .int .i64 q3, .int .i64 q4]] w1 fun e w' => e = .returned (.int .i64 0) ∧ Below w1.heap.size w1 w') := fun w1 => by
        have := check_go q0 q1 q2 q3 q4 w1
        rw [pchk_good HPI.out] at this
        exact this
      clear Hp HPI
      have c0 := Hbp.out.c0
      have c1 := Hbp.out.c1
      have c2 := Hbp.out.c2
      have c3 := Hbp.out.c3
      have c4 := Hbp.out.c4
      have d0 := Hbq.out.c0
      have d1 := Hbq.out.c1
      have d2 := Hbq.out.c2
      have d3 := Hbq.out.c3
      have d4 := Hbq.out.c4
      simp only at c0 c1 c2 c3 c4 d0 d1 d2 d3 d4
      have e1 := fun w' => eq_lit (.inl rfl) q0 q1 q2 q3 q4 q0 q1 q2 q3 q4 true (decide_eq_true rfl) w'
      go_wp2_with fail
      refine (HK.out _).mono ?_
      rintro e y1 ⟨rfl, hb⟩
      have HBE : Hid (Below w.heap.size w y1) := below_trans Hbb.out hb Hbb.out.size
      clear hb
      go_wp2_with fail
      go_ret
      exact ⟨rfl, HBE.out⟩
end Go.Proofs.Ytjpgjhdkgmddfaa.Seek
