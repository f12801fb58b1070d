/- The walk of RopeJoins. -/
import Derived.Test.YtoopgkgjhbihjaaVars
set_option linter.unusedVariables false
set_option linter.unusedSimpArgs false
namespace Go.Proofs.Ytoopgkgjhbihjaa.Seek
open Go.RowKit

/-- Cells of the variables, behind a call. -/
theorem keep1 {W w' : World} {b1 : Nat} {v1 : Value} (hb : Below W.heap.size W w') (h1 : b1 < W.heap.size) (h : W.cell? ⟨b1, 0, none⟩ = some v1) : w'.cell? ⟨b1, 0, none⟩ = some v1 := (hb.cell (by exact h1)).trans h
theorem keep2 {W w' : World} {b1 b2 : Nat} {v1 v2 : Value} (hb : Below W.heap.size W w') (h1 : b1 < W.heap.size) (h2 : b2 < W.heap.size) (h : W.cell? ⟨b1, 0, none⟩ = some v1 ∧ W.cell? ⟨b2, 0, none⟩ = some v2) : w'.cell? ⟨b1, 0, none⟩ = some v1 ∧ w'.cell? ⟨b2, 0, none⟩ = some v2 := ⟨keep1 hb h1 h.1, keep1 hb h2 h.2⟩
theorem keep4 {W w' : World} {b1 b2 b3 b4 : Nat} {v1 v2 v3 v4 : Value} (hb : Below W.heap.size W w') (h1 : b1 < W.heap.size) (h2 : b2 < W.heap.size) (h3 : b3 < W.heap.size) (h4 : b4 < W.heap.size) (h : W.cell? ⟨b1, 0, none⟩ = some v1 ∧ W.cell? ⟨b2, 0, none⟩ = some v2 ∧ W.cell? ⟨b3, 0, none⟩ = some v3 ∧ W.cell? ⟨b4, 0, none⟩ = some v4) :
    w'.cell? ⟨b1, 0, none⟩ = some v1 ∧ w'.cell? ⟨b2, 0, none⟩ = some v2 ∧ w'.cell? ⟨b3, 0, none⟩ = some v3 ∧ w'.cell? ⟨b4, 0, none⟩ = some v4 := ⟨keep1 hb h1 h.1, keep1 hb h2 h.2.1, keep1 hb h3 h.2.2.1, keep1 hb h4 h.2.2.2⟩
theorem equal_same (v1 v2 : Value) (xs : List Int) (w : World) (h1 : Reads w v1 xs) (h2 : Reads w v2 xs) (hx : xs.length ≤ maxLen) : Calls Try.prog 11 #[v1, v2] w fun e w' => e = .returned (.bool true) ∧ ∃ q, w' = w.drewN q := by
  have := equal_any v1 v2 xs xs w h1 h2 hx hx
  rw [beq_self_eq_true] at this
  exact this
theorem joinList_assoc (x y z : List Int) (h1 : x.length + y.length ≤ 4096) (h2 : y.length + z.length ≤ 4096) : joinList (x ++ y) z = joinList x (y ++ z) ∧ joinErr (x ++ y).length z.length = joinErr x.length (y ++ z).length := by
  unfold joinList joinErr
  rw [List.length_append, List.length_append]
  by_cases h : x.length + y.length + z.length ≤ 4096
  · rw [if_pos h, if_pos h, if_pos (by omega), if_pos (by omega), List.append_assoc]
    exact ⟨rfl, rfl⟩
  · rw [if_neg h, if_neg h, if_neg (by omega), if_neg (by omega)]
    exact ⟨rfl, rfl⟩
theorem joinList_nil (x : List Int) (h : x.length ≤ 4096) : joinList x [] = x ∧ joinErr x.length ([] : List Int).length = 0 := by
  unfold joinList joinErr
  rw [if_pos (by simpa using h), if_pos (by simpa using h), List.append_nil]
  exact ⟨rfl, rfl⟩

set_option maxRecDepth 100000 in
set_option maxHeartbeats 1600000 in
theorem joins_walk (va vb vc : Value) (a b c : List Int) (w : World) (ha : Reads w va a) (hb : Reads w vb b) (hc : Reads w vc c) (har : a.length * 8 ≤ 140737488351232) (hbr : b.length * 8 ≤ 140737488351232) (hcr : c.length * 8 ≤ 140737488351232) :
    Calls Try.prog 5 #[va, vb, vc] w fun e w' => e = .returned (.bool true) ∧ Below w.heap.size w w' := by
  obtain ⟨a1, c1, hv1⟩ := ha.shape
  obtain ⟨a2, c2, hv2⟩ := hb.shape
  obtain ⟨a3, c3, hv3⟩ := hc.shape
  subst hv1 hv2 hv3
  have Ham : Hid (a.length ≤ maxLen) := by show a.length ≤ maxLen; unfold maxLen; omega
  have Hbm : Hid (b.length ≤ maxLen) := by show b.length ≤ maxLen; unfold maxLen; omega
  have Hcm : Hid (c.length ≤ maxLen) := by show c.length ≤ maxLen; unfold maxLen; omega
  have Ha : Hid (Reads w (.slice a1 a.length c1) a) := ha
  have Hb : Hid (Reads w (.slice a2 b.length c2) b) := hb
  have Hc : Hid (Reads w (.slice a3 c.length c3) c) := hc
  clear ha hb hc
  go_enter Try.func5, Try.ntmps5
  go_wp2_with fail
  refine (roped_any [1] _ _ (by decide) (reads_new w [1] (by decide))).mono ?_
  rintro e w1 ⟨hb1, p1, rfl, ht1⟩
  rw [show ofList [1] = [1] from rfl] at ht1
  have hB := below_trans (below_alloc w _) hb1 (by rw [size_alloc]; omega)
  clear hb1
  go_wp2_with fail
  refine (roped_any [2] _ _ (by decide) (reads_new w1 [2] (by decide))).mono ?_
  rintro e w2 ⟨hb2', p2, rfl, ht2⟩
  rw [show ofList [2] = [2] from rfl] at ht2
  have hb2 := below_trans (below_alloc w1 _) hb2' (by rw [size_alloc]; omega)
  replace hB := below_trans hB hb2 hB.size
  replace ht1 := tree_next ht1 hb2
  clear hb2 hb2'
  go_wp2_with fail
  refine (join_any p1 p2 [1] [2] w2 (by decide) (by decide) ht1 ht2).mono ?_
  rintro e w3 ⟨hb3, p3, rfl, ht3⟩
  rw [show joinList [1] [2] = [1, 2] from rfl] at ht3
  rw [show joinErr [(1 : Int)].length [(2 : Int)].length = 0 from rfl]
  replace hB := below_trans hB hb3 hB.size
  clear ht1 ht2 hb3
  have r := RV.new ht3
  replace hB := hB.alloc hB.size (.cells #[.pointer p3] 25)
  clear ht3
  have c7 := r.cell
  go_wp2_with fail
  clear c7
  generalize w3.alloc (.cells #[.pointer p3] 25) = W3 at *
  generalize w3.heap.size = b3 at *
  refine (list_any p3 [1, 2] W3 (by decide) r.2).mono ?_
  rintro e w4 ⟨hb4, g4, cap4, rfl, _, _, _, ho4⟩
  have hr4 := owned_reads ho4
  replace hB := below_trans hB hb4 hB.size
  clear ho4 hb4 r
  go_wp2_with fail
  refine (equal_any _ _ [1, 2] [1, 2] _ (hr4.below (below_alloc w4 _)) (reads_new w4 [1, 2] (by decide)) (by decide) (by decide)).mono ?_
  rintro e w5 ⟨rfl, q5, hw5⟩
  rw [beq_self_eq_true]
  have hb5 : Below w4.heap.size w4 w5 := by rw [hw5]; exact below_drewN (below_alloc _ _) q5
  replace hB := below_trans hB hb5 hB.size
  clear hw5 hr4 hb5
  go_wp2_with fail
  refine (roped_any a _ w5 Ham.out (Ha.out.below hB)).mono ?_
  rintro e w6 ⟨hb6, px, rfl, hx⟩
  replace hB := below_trans hB hb6 hB.size
  clear hb6
  go_wp2_with fail
  refine (roped_any b _ w6 Hbm.out (Hb.out.below hB)).mono ?_
  rintro e w7 ⟨hb7, py, rfl, hy⟩
  replace hB := below_trans hB hb7 hB.size
  replace hx := tree_next hx hb7
  clear hb7
  go_wp2_with fail
  refine (roped_any c _ w7 Hcm.out (Hc.out.below hB)).mono ?_
  rintro e w8 ⟨hb8, pz, rfl, hz⟩
  replace hB := below_trans hB hb8 hB.size
  replace hx := tree_next hx hb8
  replace hy := tree_next hy hb8
  clear hb8
  have hxm := ofList_le a
  have hym := ofList_le b
  have hzm := ofList_le c
  generalize ofList a = x at *
  generalize ofList b = y at *
  generalize ofList c = z at *
  have x9 := ((RV.new hx).alloc (.cells #[.pointer py] 25)).alloc (.cells #[.pointer pz] 25)
  have y10 := (RV.new (tree_alloc hy (.cells #[.pointer px] 25))).alloc (.cells #[.pointer pz] 25)
  have z11 := RV.new (tree_alloc (tree_alloc hz (.cells #[.pointer px] 25)) (.cells #[.pointer py] 25))
  rw [size_alloc] at y10
  rw [size_alloc, size_alloc] at z11
  replace hB := hB.alloc hB.size (.cells #[.pointer px] 25)
  replace hB := hB.alloc hB.size (.cells #[.pointer py] 25)
  replace hB := hB.alloc hB.size (.cells #[.pointer pz] 25)
  clear hx hy hz
  have d9 := x9.cell
  have d10 := y10.cell
  go_wp2_with fail
  clear d9 d10
  generalize ((w8.alloc (.cells #[.pointer px] 25)).alloc (.cells #[.pointer py] 25)).alloc (.cells #[.pointer pz] 25) = W8 at *
  generalize w8.heap.size = b8 at *
  refine (join_any px py x y W8 hxm hym x9.2 y10.2).mono ?_
  rintro e w9 ⟨hb9, pxy, rfl, htxy⟩
  replace hB := below_trans hB hb9 hB.size
  replace x9 := x9.next hb9
  replace y10 := y10.next hb9
  replace z11 := z11.next hb9
  clear hb9
  have xy12 := RV.new htxy
  replace x9 := x9.alloc (.cells #[.pointer pxy] 25)
  replace y10 := y10.alloc (.cells #[.pointer pxy] 25)
  replace z11 := z11.alloc (.cells #[.pointer pxy] 25)
  replace hB := hB.alloc hB.size (.cells #[.pointer pxy] 25)
  clear htxy
  have d10 := y10.cell
  have d11 := z11.cell
  go_wp2_with fail
  clear d10 d11
  generalize w9.alloc (.cells #[.pointer pxy] 25) = W9 at *
  generalize w9.heap.size = b9 at *
  refine (join_any py pz y z W9 hym hzm y10.2 z11.2).mono ?_
  rintro e w10 ⟨hb10, pyz, rfl, htyz⟩
  replace hB := below_trans hB hb10 hB.size
  replace x9 := x9.next hb10
  replace y10 := y10.next hb10
  replace z11 := z11.next hb10
  replace xy12 := xy12.next hb10
  clear hb10
  have yz14 := RV.new htyz
  replace x9 := x9.alloc (.cells #[.pointer pyz] 25)
  replace y10 := y10.alloc (.cells #[.pointer pyz] 25)
  replace z11 := z11.alloc (.cells #[.pointer pyz] 25)
  replace xy12 := xy12.alloc (.cells #[.pointer pyz] 25)
  replace hB := hB.alloc hB.size (.cells #[.pointer pyz] 25)
  clear htyz
  by_cases h1 : x.length + y.length ≤ 4096
  · have e1 : joinErr x.length y.length = 0 := if_pos h1
    have e2 : joinList x y = x ++ y := if_pos h1
    rw [e1]
    rw [e2] at xy12
    clear e1 e2
    by_cases h2 : y.length + z.length ≤ 4096
    · have e1 : joinErr y.length z.length = 0 := if_pos h2
      have e2 : joinList y z = y ++ z := if_pos h2
      rw [e1]
      rw [e2] at yz14
      clear e1 e2
      have d12 := xy12.cell
      have d11 := z11.cell
      go_wp2_with fail
      clear d12 d11
      generalize w10.alloc (.cells #[.pointer pyz] 25) = W10 at *
      generalize w10.heap.size = b10 at *
      have hxym : (x ++ y).length ≤ 4096 := by rw [List.length_append]; exact h1
      have hyzm : (y ++ z).length ≤ 4096 := by rw [List.length_append]; exact h2
      obtain ⟨eL, eE⟩ := joinList_assoc x y z h1 h2
      have HL : Hid (joinList (x ++ y) z = joinList x (y ++ z)) := eL
      have HE : Hid (joinErr (x ++ y).length z.length = joinErr x.length (y ++ z).length) := eE
      clear eL eE
      refine (join_any pxy pz (x ++ y) z W10 hxym hzm xy12.2 z11.2).mono ?_
      rintro e w11 ⟨hb11, pl, rfl, htl⟩
      rw [HL.out] at htl
      rw [HE.out]
      obtain ⟨E, hEE⟩ : ∃ E, joinErr x.length (y ++ z).length = E := ⟨_, rfl⟩
      have HEE : Hid (joinErr x.length (y ++ z).length = E) := hEE
      clear hEE
      rw [HEE.out]
      replace hB := below_trans hB hb11 hB.size
      replace x9 := x9.next hb11
      replace yz14 := yz14.next hb11
      clear hb11
      have l16 := RV.new htl
      replace x9 := x9.alloc (.cells #[.pointer pl] 25)
      replace yz14 := yz14.alloc (.cells #[.pointer pl] 25)
      replace hB := hB.alloc hB.size (.cells #[.pointer pl] 25)
      clear htl
      have d9 := x9.cell
      have d14 := yz14.cell
      have HM := joinList_le x (y ++ z)
      go_wp2_with fail
      clear d9 d14
      generalize w11.alloc (.cells #[.pointer pl] 25) = W11 at *
      generalize w11.heap.size = b11 at *
      refine (join_any px pyz x (y ++ z) W11 hxm hyzm x9.2 yz14.2).mono ?_
      rintro e w12 ⟨hb12, pr, rfl, htr⟩
      clear HL HE
      rw [HEE.out]
      have HE : Hid (E = 0 ∨ E = 2) := by
        show E = 0 ∨ E = 2
        rw [← HEE.out]
        unfold joinErr
        by_cases h : x.length + (y ++ z).length ≤ 4096
        · exact .inl (if_pos h)
        · exact .inr (if_neg h)
      clear HEE
      generalize joinList x (y ++ z) = L at *
      replace hB := below_trans hB hb12 hB.size
      replace x9 := x9.next hb12
      replace l16 := l16.next hb12
      clear hb12
      have r17 := RV.new htr
      replace x9 := x9.alloc (.cells #[.pointer pr] 25)
      replace l16 := l16.alloc (.cells #[.pointer pr] 25)
      replace hB := hB.alloc hB.size (.cells #[.pointer pr] 25)
      clear htr
      have d9 := x9.cell
      go_wp2_with fail
      clear d9
      generalize w12.alloc (.cells #[.pointer pr] 25) = W12 at *
      generalize w12.heap.size = b12 at *
      refine (join_any px none x [] W12 hxm (by decide) x9.2 (tree_none _ _)).mono ?_
      rintro e w13 ⟨hb13, pn, rfl, htn⟩
      rw [(joinList_nil x hxm).2]
      rw [(joinList_nil x hxm).1] at htn
      replace hB := below_trans hB hb13 hB.size
      replace x9 := x9.next hb13
      replace l16 := l16.next hb13
      replace r17 := r17.next hb13
      clear hb13
      have n18 := RV.new htn
      replace x9 := x9.alloc (.cells #[.pointer pn] 25)
      replace l16 := l16.alloc (.cells #[.pointer pn] 25)
      replace r17 := r17.alloc (.cells #[.pointer pn] 25)
      replace hB := hB.alloc hB.size (.cells #[.pointer pn] 25)
      clear htn
      clear xy12 yz14 y10 z11 hxym hyzm
      go_upto_region 12 with fail
      rcases HE.out with rfl | rfl
      all_goals
        generalize w13.alloc (.cells #[.pointer pn] 25) = W13 at *
        generalize w13.heap.size = b13 at *
        have hS : W13.cell? ⟨b11, 0, none⟩ = some (.pointer pl) ∧ W13.cell? ⟨b12, 0, none⟩ = some (.pointer pr) ∧ W13.cell? ⟨b13, 0, none⟩ = some (.pointer pn) ∧ W13.cell? ⟨b8, 0, none⟩ = some (.pointer px) := ⟨l16.cell, r17.cell, n18.cell, x9.cell⟩
        have m1 := l16.lt
        have m2 := r17.lt
        have m3 := n18.lt
        have m4 := x9.lt
        have HL1 : Hid (∀ w2, Below W13.heap.size W13 w2 → Calls Try.prog 12 #[.agg #[.pointer pl]] w2 fun e w' => ListPost L w2 e w') := fun w2 hb2 => list_any pl L w2 HM (l16.next hb2).2
        have HL2 : Hid (∀ w2, Below W13.heap.size W13 w2 → Calls Try.prog 12 #[.agg #[.pointer pr]] w2 fun e w' => ListPost L w2 e w') := fun w2 hb2 => list_any pr L w2 HM (r17.next hb2).2
        have HL3 : Hid (∀ w2, Below W13.heap.size W13 w2 → Calls Try.prog 12 #[.agg #[.pointer pn]] w2 fun e w' => ListPost x w2 e w') := fun w2 hb2 => list_any pn x w2 hxm (n18.next hb2).2
        have HL4 : Hid (∀ w2, Below W13.heap.size W13 w2 → Calls Try.prog 12 #[.agg #[.pointer px]] w2 fun e w' => ListPost x w2 e w') := fun w2 hb2 => list_any px x w2 hxm (x9.next hb2).2
        have HMm : Hid (L.length ≤ maxLen) := by show L.length ≤ maxLen; unfold maxLen; omega
        have Hxm : Hid (x.length ≤ maxLen) := by show x.length ≤ maxLen; unfold maxLen; omega
        clear l16 r17 n18 x9
        go_region_held3 (fun w' => w'.cell? ⟨b11, 0, none⟩ = some (.pointer pl) ∧ w'.cell? ⟨b12, 0, none⟩ = some (.pointer pr) ∧ w'.cell? ⟨b13, 0, none⟩ = some (.pointer pn) ∧ w'.cell? ⟨b8, 0, none⟩ = some (.pointer px)) (first | exact hS | exact hSA | exact hSB | exact hSC | exact hSD | exact hSE | exact hSF)
          (first
            | (go_at_call_of 12 (pl); refine (HL1.out _ ?_).mono ?_; (exact (Below.refl _ _).drew); rintro e wA ⟨hbA', gA, capA, rfl, _, _, _, hoA⟩; have hbA : Below W13.heap.size W13 wA := below_trans ((Below.refl _ _).drew) hbA' (by exact Nat.le_refl _); have hrA := owned_reads hoA; clear hoA; have hSA := keep4 hbA m1 m2 m3 m4 hS)
            | (go_at_call_of 12 (pr); refine (HL2.out _ ?_).mono ?_; (exact hbA); rintro e wB ⟨hbB', gB, capB, rfl, _, _, _, hoB⟩; have hbB := below_trans hbA hbB' hbA.size; have hrB := owned_reads hoB; have hrA2 := hrA.below hbB'; clear hoB; have hSB := keep4 hbB m1 m2 m3 m4 hS)
            | (go_at_call_of 11 (gB); refine (equal_same _ _ L wB hrA2 hrB HMm.out).mono ?_; rintro e wC ⟨rfl, qC, hwC⟩; have hbC : Below W13.heap.size W13 wC := (by rw [hwC]; exact below_drewN hbB qC); clear hwC; have hSC := keep4 hbC m1 m2 m3 m4 hS)
            | (go_at_call_of 12 (pn); refine (HL3.out _ ?_).mono ?_; (exact hbC); rintro e wD ⟨hbD', gD, capD, rfl, _, _, _, hoD⟩; have hbD := below_trans hbC hbD' hbC.size; have hrD := owned_reads hoD; clear hoD; have hSD := keep4 hbD m1 m2 m3 m4 hS)
            | (go_at_call_of 12 (px); refine (HL4.out _ ?_).mono ?_; (exact hbD); rintro e wE ⟨hbE', gE, capE, rfl, _, _, _, hoE⟩; have hbE := below_trans hbD hbE' hbD.size; have hrE := owned_reads hoE; have hrD2 := hrD.below hbE'; clear hoE; have hSE := keep4 hbE m1 m2 m3 m4 hS)
            | (go_at_call_of 11 (gE); refine (equal_same _ _ x wE hrD2 hrE Hxm.out).mono ?_; rintro e wF ⟨rfl, qF, hwF⟩; have hbF : Below W13.heap.size W13 wF := (by rw [hwF]; exact below_drewN hbE qF); clear hwF; have hSF := keep4 hbF m1 m2 m3 m4 hS))
        replace hB := below_trans hB hbF hB.size
        clear hS hSA hSB hSC hSD hSE hSF HL1 HL2 HL3 HL4 m1 m2 m3 m4 hbA hbB hbC hbD hbE hbF hrA hrB hrA2 hrD hrE hrD2 hbA' hbB' hbD' hbE'
        go_simp
        go_wp2_with fail
        go_ret
        exact ⟨rfl, hB⟩
    · have e1 : joinErr y.length z.length = 2 := if_neg h2
      rw [e1]
      clear e1
      go_wp2_with fail
      go_ret
      exact ⟨rfl, hB⟩
  · have e1 : joinErr x.length y.length = 2 := if_neg h1
    rw [e1]
    clear e1
    go_wp2_with fail
    go_ret
    exact ⟨rfl, hB⟩
end Go.Proofs.Ytoopgkgjhbihjaa.Seek
