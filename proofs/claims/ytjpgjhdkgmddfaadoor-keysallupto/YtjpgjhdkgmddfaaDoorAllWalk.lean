/- The walk of KeysAll. -/
import Derived.Test.YtjpgjhdkgmddfaaDoorWriteCmd
set_option linter.unusedVariables false
set_option linter.unusedSimpArgs false
namespace Go.Proofs.YtjpgjhdkgmddfaaDoor.Seek
open Go.RowKit Plain

theorem writeCmd_go (n r o v a : Int) (w : World) (ht : Tab w) : Calls Tryd.prog 9 #[.agg #[.int .i64 n, .int .i64 r, .int .i64 o, .int .i64 v, .int .i64 a]] w fun e w' =>
    Below w.heap.size w w' ∧ ∃ u, e = .returned (.tuple #[u, .int .i64 (wrt n r o v a).2]) ∧ Reads w' u (wrt n r o v a).1 := by
  cases hc : count n with
  | false =>
    have h : wrt n r o v a = ([], 1) := by unfold wrt; rw [hc]; rfl
    rw [h]
    exact writeCmd_bad n r o v a w hc
  | true =>
    have hn : 0 ≤ n ∧ n ≤ 999 := by unfold count at hc; exact of_decide_eq_true hc
    have h := writeCmd_good n r o v a w hn ht
    have h2 : wrt n r o v a = (if allk (keysOf n r o v a) = ([(n, r, o, v, a)], zer, 0) then keysOf n r o v a else [], if allk (keysOf n r o v a) = ([(n, r, o, v, a)], zer, 0) then 0 else 4) := by
      unfold wrt
      rw [hc, if_pos rfl]
      split <;> rfl
    rw [h2]
    exact h
theorem wrt_len (n r o v a : Int) : (wrt n r o v a).1.length ≤ 8 := by
  unfold wrt
  split
  · split
    · exact keysOf_len n r o v a
    · exact Nat.zero_le _
  · exact Nat.zero_le _

set_option maxRecDepth 100000 in
set_option maxHeartbeats 4000000 in
theorem all_walk (vl : Value) (l : List Int) (n r o v a : Int) (w : World) (ht : Tab w) (hl : Reads w vl l) (hb : l.length ≤ 1048576) :
    Calls Tryd.prog 3 #[vl, .agg #[.int .i64 n, .int .i64 r, .int .i64 o, .int .i64 v, .int .i64 a]] w fun e w' => e = .returned (.bool true) ∧ Below w.heap.size w w' := by
  obtain ⟨la, lc, rfl⟩ := hl.shape
  have HL : Hid (∀ wx, Below w.heap.size w wx → Reads wx (.slice la l.length lc) l) := fun wx h => hl.below h
  have HN : Hid (l.length ≤ 1048576) := hb
  have HT : Hid (∀ wx, Below w.heap.size w wx → Tab wx) := fun wx h => ht.below h
  clear hl hb ht
  go_enter Tryd.func3, Tryd.ntmps3
  go_wp2_with fail
  have HO : Hid (OneC w (w.alloc (.cells #[.int .i64 n, .int .i64 r, .int .i64 o, .int .i64 v, .int .i64 a] 24)) (n, r, o, v, a)) := oneC_new w n r o v a
  generalize w.alloc (.cells #[.int .i64 n, .int .i64 r, .int .i64 o, .int .i64 v, .int .i64 a] 24) = w1 at *
  obtain ⟨X, hX⟩ : ∃ X, X = allk l := ⟨_, rfl⟩
  have H1 : Hid (∀ wx, Below w.heap.size w wx → Calls Tryd.prog 6 #[.slice la l.length lc] wx fun e w' => ∃ u, e = .returned (.tuple #[u, fv X.2.1, .int .i64 (X.2.2 : Int)]) ∧ OwnC w' wx.heap.size u X.1 ∧ Below wx.heap.size wx w') := fun wx h => by
    rw [hX]; exact all_go _ l wx (HL.out wx h) (by have := HN.out; omega)
  have H2 : Hid (∀ wx, Below w.heap.size w wx → Calls Tryd.prog 7 #[.slice la l.length lc] wx fun e w' => ∃ u, e = .returned (.tuple #[u, fv X.2.1, .int .i64 (X.2.2 : Int)]) ∧ OwnC w' wx.heap.size u X.1 ∧ Below wx.heap.size wx w') := fun wx h => by
    rw [hX]; exact refAll_go _ l wx (HL.out wx h) (by have := HN.out; omega)
  clear hX HL HN
  obtain ⟨cs, ⟨p0, p1, p2, p3, p4⟩, k⟩ := X
  simp only [fv] at H1 H2
  refine (H1.out w1 HO.out.2).mono ?_
  rintro e w2 ⟨v1, rfl, ho1, hb2⟩
  have HO2 : Hid (OneC w w2 (n, r, o, v, a)) := HO.out.below hb2
  have HR2 : Hid (ReadsC w2 v1 cs) := ho1.reads
  obtain ⟨a1, c1, rfl⟩ := HR2.out.shape
  clear ho1 hb2 HO H1
  go_wp2_with fail
  have HP3 : Hid (BoxF (w2.alloc (.cells #[.int .i64 p0, .int .i64 p1, .int .i64 p2, .int .i64 p3, .int .i64 p4] 27)) 27 w2.heap.size (p0, p1, p2, p3, p4)) := box_prt w2 _ _ _ _ _
  have HO3 : Hid (OneC w (w2.alloc (.cells #[.int .i64 p0, .int .i64 p1, .int .i64 p2, .int .i64 p3, .int .i64 p4] 27)) (n, r, o, v, a)) := HO2.out.below (box_below _ _)
  have HR3 : Hid (ReadsC (w2.alloc (.cells #[.int .i64 p0, .int .i64 p1, .int .i64 p2, .int .i64 p3, .int .i64 p4] 27)) (.slice a1 cs.length c1) cs) := HR2.out.below (box_below _ _)
  clear HO2 HR2
  generalize (w2.alloc (.cells #[.int .i64 p0, .int .i64 p1, .int .i64 p2, .int .i64 p3, .int .i64 p4] 27)) = w3 at *
  generalize w2.heap.size = G6 at *
  refine (H2.out w3 HO3.out.2).mono ?_
  rintro e w4 ⟨v2, rfl, ho2, hb4⟩
  have HO4 : Hid (OneC w w4 (n, r, o, v, a)) := HO3.out.below hb4
  have HP4 : Hid (BoxF w4 27 G6 (p0, p1, p2, p3, p4)) := HP3.out.below hb4
  have HR4 : Hid (ReadsC w4 (.slice a1 cs.length c1) cs) := HR3.out.below hb4
  have HS4 : Hid (ReadsC w4 v2 cs) := ho2.reads
  obtain ⟨a2, c2, rfl⟩ := HS4.out.shape
  clear ho2 hb4 HO3 HP3 HR3 H2
  have x0 : ∀ ob, (w4.alloc ob).cell? ⟨w.heap.size, 0, none⟩ = some (.int .i64 n) := fun ob => (HO4.out.1.alloc ob).c0
  have x1 : ∀ ob, (w4.alloc ob).cell? ⟨w.heap.size, 1, none⟩ = some (.int .i64 r) := fun ob => (HO4.out.1.alloc ob).c1
  have x2 : ∀ ob, (w4.alloc ob).cell? ⟨w.heap.size, 2, none⟩ = some (.int .i64 o) := fun ob => (HO4.out.1.alloc ob).c2
  have x3 : ∀ ob, (w4.alloc ob).cell? ⟨w.heap.size, 3, none⟩ = some (.int .i64 v) := fun ob => (HO4.out.1.alloc ob).c3
  have x4 : ∀ ob, (w4.alloc ob).cell? ⟨w.heap.size, 4, none⟩ = some (.int .i64 a) := fun ob => (HO4.out.1.alloc ob).c4
  go_wp2_with fail
  clear x0 x1 x2 x3 x4
  have HQ5 : Hid (BoxF (w4.alloc (.cells #[.int .i64 p0, .int .i64 p1, .int .i64 p2, .int .i64 p3, .int .i64 p4] 27)) 27 w4.heap.size (p0, p1, p2, p3, p4)) := box_prt w4 _ _ _ _ _
  have HP5 : Hid (BoxF (w4.alloc (.cells #[.int .i64 p0, .int .i64 p1, .int .i64 p2, .int .i64 p3, .int .i64 p4] 27)) 27 G6 (p0, p1, p2, p3, p4)) := HP4.out.alloc _
  have HO5 : Hid (OneC w (w4.alloc (.cells #[.int .i64 p0, .int .i64 p1, .int .i64 p2, .int .i64 p3, .int .i64 p4] 27)) (n, r, o, v, a)) := HO4.out.below (box_below _ _)
  have HR5 : Hid (ReadsC (w4.alloc (.cells #[.int .i64 p0, .int .i64 p1, .int .i64 p2, .int .i64 p3, .int .i64 p4] 27)) (.slice a1 cs.length c1) cs) := HR4.out.below (box_below _ _)
  have HS5 : Hid (ReadsC (w4.alloc (.cells #[.int .i64 p0, .int .i64 p1, .int .i64 p2, .int .i64 p3, .int .i64 p4] 27)) (.slice a2 cs.length c2) cs) := HS4.out.below (box_below _ _)
  clear HO4 HP4 HR4 HS4
  generalize (w4.alloc (.cells #[.int .i64 p0, .int .i64 p1, .int .i64 p2, .int .i64 p3, .int .i64 p4] 27)) = w5 at *
  generalize w4.heap.size = G9 at *
  obtain ⟨Z, hZ⟩ : ∃ Z, Z = wrt n r o v a := ⟨_, rfl⟩
  have HZL : Hid (Z.1.length ≤ 8) := by rw [hZ]; exact wrt_len n r o v a
  have HW1 : Hid (Calls Tryd.prog 8 _ _ _) := write_go n r o v a w5 (HT.out _ HO5.out.2)
  have HW2 : Hid (∀ wx, Below w.heap.size w wx → Calls Tryd.prog 9 #[.agg #[.int .i64 n, .int .i64 r, .int .i64 o, .int .i64 v, .int .i64 a]] wx fun e w' => Below wx.heap.size wx w' ∧ ∃ u, e = .returned (.tuple #[u, .int .i64 Z.2]) ∧ Reads w' u Z.1) := fun wx h => by
    rw [hZ]; exact writeCmd_go n r o v a wx (HT.out _ h)
  rw [← hZ] at HW1
  clear hZ HT
  obtain ⟨ks, z⟩ := Z
  refine HW1.out.mono ?_
  rintro e w6 ⟨hb6, _, x, rfl, hx⟩
  have HQ6 : Hid (BoxF w6 27 G9 (p0, p1, p2, p3, p4)) := HQ5.out.below hb6
  have HP6 : Hid (BoxF w6 27 G6 (p0, p1, p2, p3, p4)) := HP5.out.below hb6
  have HO6 : Hid (OneC w w6 (n, r, o, v, a)) := HO5.out.below hb6
  have HR6 : Hid (ReadsC w6 (.slice a1 cs.length c1) cs) := HR5.out.below hb6
  have HS6 : Hid (ReadsC w6 (.slice a2 cs.length c2) cs) := HS5.out.below hb6
  have HX6 : Hid (Reads w6 x ks) := hx
  clear hb6 hx HQ5 HP5 HO5 HR5 HS5 HW1
  obtain ⟨xa, xc, rfl⟩ := HX6.out.shape
  obtain ⟨x0, x1, x2, x3, x4⟩ : w6.cell? ⟨w.heap.size, 0, none⟩ = some (.int .i64 n) ∧ w6.cell? ⟨w.heap.size, 1, none⟩ = some (.int .i64 r) ∧ w6.cell? ⟨w.heap.size, 2, none⟩ = some (.int .i64 o) ∧ w6.cell? ⟨w.heap.size, 3, none⟩ = some (.int .i64 v) ∧ w6.cell? ⟨w.heap.size, 4, none⟩ = some (.int .i64 a) := ⟨HO6.out.1.c0, HO6.out.1.c1, HO6.out.1.c2, HO6.out.1.c3, HO6.out.1.c4⟩
  go_wp2_with fail
  refine (HW2.out w6 HO6.out.2).mono ?_
  rintro e w7 ⟨hb7, y, rfl, hy⟩
  have HQ7 : Hid (BoxF w7 27 G9 (p0, p1, p2, p3, p4)) := HQ6.out.below hb7
  have HP7 : Hid (BoxF w7 27 G6 (p0, p1, p2, p3, p4)) := HP6.out.below hb7
  have HB7 : Hid (Below w.heap.size w w7) := (HO6.out.below hb7).2
  have HR7 : Hid (ReadsC w7 (.slice a1 cs.length c1) cs) := HR6.out.below hb7
  have HS7 : Hid (ReadsC w7 (.slice a2 cs.length c2) cs) := HS6.out.below hb7
  have HX7 : Hid (Reads w7 (.slice xa ks.length xc) ks) := HX6.out.below hb7
  have HY7 : Hid (Reads w7 y ks) := hy
  clear hb7 hy HQ6 HP6 HO6 HR6 HS6 HX6 HW2 x0 x1 x2 x3 x4
  obtain ⟨ya, yc, rfl⟩ := HY7.out.shape
  go_wp2_with fail
  refine (equalC_same _ _ cs w7 HR7.out HS7.out).mono ?_
  rintro e w8 ⟨rfl, hb8⟩
  have HQ8 : Hid (BoxF w8 27 G9 (p0, p1, p2, p3, p4)) := HQ7.out.below hb8
  have HP8 : Hid (BoxF w8 27 G6 (p0, p1, p2, p3, p4)) := HP7.out.below hb8
  have HB8 : Hid (Below w.heap.size w w8) := below_trans HB7.out hb8 HB7.out.size
  have HX8 : Hid (Reads w8 (.slice xa ks.length xc) ks) := HX7.out.below hb8
  have HY8 : Hid (Reads w8 (.slice ya ks.length yc) ks) := HY7.out.below hb8
  clear hb8 HQ7 HP7 HB7 HX7 HY7 HR7 HS7
  obtain ⟨y0, y1, y2, y3, y4⟩ : w8.cell? ⟨G6, 0, none⟩ = some (.int .i64 p0) ∧ w8.cell? ⟨G6, 1, none⟩ = some (.int .i64 p1) ∧ w8.cell? ⟨G6, 2, none⟩ = some (.int .i64 p2) ∧ w8.cell? ⟨G6, 3, none⟩ = some (.int .i64 p3) ∧ w8.cell? ⟨G6, 4, none⟩ = some (.int .i64 p4) := ⟨HP8.out.c0, HP8.out.c1, HP8.out.c2, HP8.out.c3, HP8.out.c4⟩
  obtain ⟨z0, z1, z2, z3, z4⟩ : w8.cell? ⟨G9, 0, none⟩ = some (.int .i64 p0) ∧ w8.cell? ⟨G9, 1, none⟩ = some (.int .i64 p1) ∧ w8.cell? ⟨G9, 2, none⟩ = some (.int .i64 p2) ∧ w8.cell? ⟨G9, 3, none⟩ = some (.int .i64 p3) ∧ w8.cell? ⟨G9, 4, none⟩ = some (.int .i64 p4) := ⟨HQ8.out.c0, HQ8.out.c1, HQ8.out.c2, HQ8.out.c3, HQ8.out.c4⟩
  have gp := fun x y xs ys w' => guard_lit .eql (.inl rfl : (27 : TypeId) = 27 ∨ (27 : TypeId) = 24) x y xs ys w'
  have r1 := fun w' => eq_lit (.inl rfl) p0 p1 p2 p3 p4 p0 p1 p2 p3 p4 true (decide_eq_true rfl) w'
  go_wp2_with fail
  refine (equal_any _ _ ks ks w8 HX8.out HY8.out (by have h8 : ks.length ≤ 8 := HZL.out; unfold maxLen; omega) (by have h8 : ks.length ≤ 8 := HZL.out; unfold maxLen; omega)).mono ?_
  rintro e w9 ⟨rfl, hw9⟩
  have HB9 : Hid (Below w.heap.size w w9) := by
    obtain ⟨q, rfl⟩ := hw9
    exact below_drewN HB8.out q
  rw [show (ks == ks) = true from by simp]
  clear hw9 y0 y1 y2 y3 y4 z0 z1 z2 z3 z4 gp r1
  go_wp2_with fail
  go_ret
  exact ⟨rfl, HB9.out⟩
end Go.Proofs.YtjpgjhdkgmddfaaDoor.Seek
