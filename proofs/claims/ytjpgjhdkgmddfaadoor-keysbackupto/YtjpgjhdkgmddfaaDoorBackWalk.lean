/- The walk of KeysBack. -/
import Derived.Test.YtjpgjhdkgmddfaaDoorTold
import Derived.Test.YtjpgjhdkgmddfaaDoorTells
set_option linter.unusedVariables false
set_option linter.unusedSimpArgs false
namespace Go.Proofs.YtjpgjhdkgmddfaaDoor.Seek
open Go.RowKit Plain

theorem codes_12 : codes ⟨#[34, 97, 49, 50, 100, 119]⟩ = [34, 97, 49, 50, 100, 119] := by decide
theorem wrt_gd {n r o v a : Int} (h : Gd (n, r, o, v, a)) : wrt n r o v a = (keysOf n r o v a, 0) := by
  have h0 := h.1
  simp only at h0
  unfold wrt
  rw [if_pos (show count n = true from decide_eq_true h0), if_pos (keys_told h)]
theorem wrt_12 : wrt 12 97 100 119 0 = ([34, 97, 49, 50, 100, 119], 0) := by
  have hk : keysOf 12 97 100 119 0 = [34, 97, 49, 50, 100, 119] := by decide
  rw [wrt_gd ⟨⟨by decide, by decide⟩, .inr (by decide), .inr (by decide), .inl ⟨by decide, rfl, fun h => absurd h (by decide)⟩⟩, hk]
theorem wrt_ok {n r o v a : Int} (h : (wrt n r o v a).2 = 0) : allk (wrt n r o v a).1 = ([(n, r, o, v, a)], zer, 0) ∧ (wrt n r o v a).1.length ≤ 8 := by
  unfold wrt at h ⊢
  by_cases hc : count n = true
  · rw [if_pos hc] at h ⊢
    by_cases hk : allk (keysOf n r o v a) = ([(n, r, o, v, a)], zer, 0)
    · rw [if_pos hk] at h ⊢
      exact ⟨hk, keysOf_len n r o v a⟩
    · rw [if_neg hk] at h
      exact absurd h (by decide)
  · rw [if_neg hc] at h
    exact absurd h (by decide)
set_option maxRecDepth 100000 in
set_option maxHeartbeats 4000000 in
theorem back_walk (n r o v a : Int) (vl : Value) (l : List Int) (w : World) (ht : Tab w) (hl : Reads w vl l) (hb : l.length ≤ 1048576) :
    Calls Tryd.prog 4 #[.agg #[.int .i64 n, .int .i64 r, .int .i64 o, .int .i64 v, .int .i64 a], vl] w fun e w' => e = .returned (.bool true) ∧ Below w.heap.size w w' := by
  obtain ⟨la, lc, rfl⟩ := hl.shape
  have HL : Hid (∀ wx, Below w.heap.size w wx → Reads wx (.slice la l.length lc) l) := fun wx h => hl.below h
  have HN : Hid (l.length ≤ 1048576) := hb
  have HT : Hid (∀ wx, Below w.heap.size w wx → Tab wx) := fun wx h => ht.below h
  clear hl hb ht
  go_enter Tryd.func4, Tryd.ntmps4
  go_wp2_with fail
  have HO : Hid (OneC w (w.alloc (.cells #[.int .i64 n, .int .i64 r, .int .i64 o, .int .i64 v, .int .i64 a] 24)) (n, r, o, v, a)) := oneC_new w n r o v a
  generalize w.alloc (.cells #[.int .i64 n, .int .i64 r, .int .i64 o, .int .i64 v, .int .i64 a] 24) = w1 at *
  have HW : Hid (Calls Tryd.prog 8 _ _ _) := write_go 12 97 100 119 0 w1 (HT.out _ HO.out.2)
  rw [wrt_12] at HW
  refine HW.out.mono ?_
  rintro e w2 ⟨hb2, ht2, x, rfl, hx⟩
  have HO2 : Hid (OneC w w2 (n, r, o, v, a)) := HO.out.below hb2
  have HX2 : Hid (Reads w2 x [34, 97, 49, 50, 100, 119]) := hx
  obtain ⟨xa, xc, hxv⟩ := HX2.out.shape
  obtain rfl : x = .slice xa 6 xc := hxv
  clear hx hb2 ht2 HO HW
  go_wp2_with fail
  refine (of_any ⟨#[34, 97, 49, 50, 100, 119]⟩ _ (by decide)).mono ?_
  rintro e w3 ⟨hb3, y, rfl, hown⟩
  have HO3 : Hid (OneC w w3 (n, r, o, v, a)) := HO2.out.below hb3
  have HX3 : Hid (Reads w3 (.slice xa 6 xc) [34, 97, 49, 50, 100, 119]) := HX2.out.below hb3
  have hry := owned_reads hown
  rw [codes_12] at hry
  have HY3 : Hid (Reads w3 y [34, 97, 49, 50, 100, 119]) := hry
  clear hown hry hb3 HO2 HX2
  go_wp2_with fail
  refine (equal_any _ _ _ _ w3 HX3.out HY3.out (by decide) (by decide)).mono ?_
  rintro e w4 ⟨rfl, hw4⟩
  have HO4 : Hid (OneC w w4 (n, r, o, v, a)) := by
    obtain ⟨q, rfl⟩ := hw4
    exact HO3.out.below (below_drewN (Below.refl _ _) q)
  clear hw4 HO3 HX3 HY3
  rw [show (([34, 97, 49, 50, 100, 119] : List Int) == [34, 97, 49, 50, 100, 119]) = true by decide]
  obtain ⟨x0, x1, x2, x3, x4⟩ : w4.cell? ⟨w.heap.size, 0, none⟩ = some (.int .i64 n) ∧ w4.cell? ⟨w.heap.size, 1, none⟩ = some (.int .i64 r) ∧ w4.cell? ⟨w.heap.size, 2, none⟩ = some (.int .i64 o) ∧ w4.cell? ⟨w.heap.size, 3, none⟩ = some (.int .i64 v) ∧ w4.cell? ⟨w.heap.size, 4, none⟩ = some (.int .i64 a) := ⟨HO4.out.1.c0, HO4.out.1.c1, HO4.out.1.c2, HO4.out.1.c3, HO4.out.1.c4⟩
  go_wp2_with fail
  clear x0 x1 x2 x3 x4
  obtain ⟨Z, hZ⟩ : ∃ Z, Z = wrt n r o v a := ⟨_, rfl⟩
  have HW : Hid (Calls Tryd.prog 8 _ _ _) := write_go n r o v a w4 (HT.out _ HO4.out.2)
  rw [← hZ] at HW
  have HZ : Hid (Z.2 = 0 → allk Z.1 = ([(n, r, o, v, a)], zer, 0) ∧ Z.1.length ≤ 8) := by
    show _ → _
    rw [hZ]
    exact wrt_ok
  clear hZ
  refine HW.out.mono ?_
  rintro e w5 ⟨hb5, ht5, x, rfl, hx⟩
  have HO5 : Hid (OneC w w5 (n, r, o, v, a)) := HO4.out.below hb5
  have HX5 : Hid (Reads w5 x Z.1) := hx
  obtain ⟨xa, xc, rfl⟩ := HX5.out.shape
  clear hx hb5 ht5 HO4 HW
  obtain ⟨ks, z⟩ := Z
  by_cases hz : z = 0
  · subst hz
    obtain ⟨hk1, hk2⟩ := HZ.out rfl
    have HK : Hid (allk ks = ([(n, r, o, v, a)], zer, 0)) := hk1
    have HKL : Hid (ks.length ≤ 8) := hk2
    clear hk1 hk2 HZ
    go_wp2_with fail
    refine (all_go _ ks w5 HX5.out (by have := HKL.out; omega)).mono ?_
    rintro e w6 ⟨vm, he, ho, hb6⟩
    rw [HK.out] at he ho
    simp only [fv, zer] at he
    subst he
    have HO6 : Hid (OneC w w6 (n, r, o, v, a)) := HO5.out.below hb6
    have HR6 : Hid (ReadsC w6 vm [(n, r, o, v, a)]) := ho.reads
    obtain ⟨bb, cap, hv6, _⟩ := HR6.out.one
    obtain rfl := hv6
    clear ho hb6 HO5 HX5 HK HKL
    go_wp2_with fail
    have HBX : Hid (BoxF (w6.alloc (.cells #[.int .i64 0, .int .i64 0, .int .i64 0, .int .i64 0, .int .i64 0] 27)) 27 w6.heap.size (0, 0, 0, 0, 0)) := box_prt w6 _ _ _ _ _
    have HO7 : Hid (OneC w (w6.alloc (.cells #[.int .i64 0, .int .i64 0, .int .i64 0, .int .i64 0, .int .i64 0] 27)) (n, r, o, v, a)) := HO6.out.below (box_below _ _)
    have HR7 : Hid (ReadsC (w6.alloc (.cells #[.int .i64 0, .int .i64 0, .int .i64 0, .int .i64 0, .int .i64 0] 27)) (.slice (some ⟨bb, 0, none⟩) 1 cap) [(n, r, o, v, a)]) := HR6.out.below (box_below _ _)
    clear HO6 HR6
    generalize w6.alloc (.cells #[.int .i64 0, .int .i64 0, .int .i64 0, .int .i64 0, .int .i64 0] 27) = w7 at *
    generalize w6.heap.size = G at *
    obtain ⟨b3, c3, hv3, e0, e1, e2, e3, e4⟩ := HR7.out.one
    cases hv3
    simp only at e0 e1 e2 e3 e4
    obtain ⟨x0, x1, x2, x3, x4⟩ : w7.cell? ⟨w.heap.size, 0, none⟩ = some (.int .i64 n) ∧ w7.cell? ⟨w.heap.size, 1, none⟩ = some (.int .i64 r) ∧ w7.cell? ⟨w.heap.size, 2, none⟩ = some (.int .i64 o) ∧ w7.cell? ⟨w.heap.size, 3, none⟩ = some (.int .i64 v) ∧ w7.cell? ⟨w.heap.size, 4, none⟩ = some (.int .i64 a) := ⟨HO7.out.1.c0, HO7.out.1.c1, HO7.out.1.c2, HO7.out.1.c3, HO7.out.1.c4⟩
    obtain ⟨y0, y1, y2, y3, y4⟩ : w7.cell? ⟨G, 0, none⟩ = some (.int .i64 0) ∧ w7.cell? ⟨G, 1, none⟩ = some (.int .i64 0) ∧ w7.cell? ⟨G, 2, none⟩ = some (.int .i64 0) ∧ w7.cell? ⟨G, 3, none⟩ = some (.int .i64 0) ∧ w7.cell? ⟨G, 4, none⟩ = some (.int .i64 0) := ⟨HBX.out.c0, HBX.out.c1, HBX.out.c2, HBX.out.c3, HBX.out.c4⟩
    have gd := fun x y xs ys w' => guard_lit .neq (.inr rfl : (24 : TypeId) = 27 ∨ (24 : TypeId) = 24) x y xs ys w'
    have gp := fun x y xs ys w' => guard_lit .neq (.inl rfl : (27 : TypeId) = 27 ∨ (27 : TypeId) = 24) x y xs ys w'
    have r1 := fun w' => neq_lit (.inr rfl) n r o v a w'
    have r2 := fun w' => neq_lit (.inl rfl) 0 0 0 0 0 w'
    have HB7 : Hid (Below w.heap.size w w7) := HO7.out.2
    clear HO7 HR7 HBX
    go_wp2_with fail
    go_quiet (fail)
    obtain ⟨w8, hw8⟩ : ∃ wq, wq = w7.drewN nq := ⟨_, rfl⟩
    have HB8 : Hid (Below w.heap.size w w8) := by rw [hw8]; exact below_drewN HB7.out nq
    rw [← hw8]
    clear hw8 e0 e1 e2 e3 e4 x0 x1 x2 x3 x4 y0 y1 y2 y3 y4 gd gp r1 r2 HB7
    go_wp2_with fail
    refine (all_go (.slice la l.length lc) l w8 (HL.out _ HB8.out) (by have := HN.out; omega)).mono ?_
    rintro e w9 ⟨vm9, he, ho, hb9⟩
    have HGD : Hid (∀ d ∈ (allk l).1, Gd d) := allk_gd l
    have HLL : Hid ((allk l).1.length ≤ l.length) := (allk_inv l).2.1
    obtain ⟨X, hX⟩ : ∃ X, X = allk l := ⟨_, rfl⟩
    rw [← hX] at he ho HGD HLL
    clear hX
    have HB9 : Hid (Below w.heap.size w w9) := below_trans HB8.out hb9 HB8.out.size
    have HR9 : Hid (ReadsC w9 vm9 X.1) := ho.reads
    obtain ⟨cs, ⟨p0, p1, p2, p3, p4⟩, m⟩ := X
    simp only [fv] at he
    subst he
    obtain ⟨am, cm, rfl⟩ := HR9.out.shape
    clear ho hb9 HB8
    have hcl : (cs.length : Int) ≤ 1048576 := by
      have h1 := HLL.out
      have h2 := HN.out
      simp only at h1
      omega
    clear HLL
    go_wp2_with fail
    have HB10 : Hid (Below w.heap.size w (w9.alloc (.cells #[.int .i64 p0, .int .i64 p1, .int .i64 p2, .int .i64 p3, .int .i64 p4] 27))) := HB9.out.alloc HB9.out.size _
    have HR10 : Hid (ReadsC (w9.alloc (.cells #[.int .i64 p0, .int .i64 p1, .int .i64 p2, .int .i64 p3, .int .i64 p4] 27)) (.slice am cs.length cm) cs) := HR9.out.below (box_below _ _)
    clear HB9 HR9
    generalize w9.alloc (.cells #[.int .i64 p0, .int .i64 p1, .int .i64 p2, .int .i64 p3, .int .i64 p4] 27) = w10 at *
    generalize w9.heap.size = G9 at *
    go_loopw [75] (fun u75 wr => ∃ i : Nat, i ≤ cs.length ∧ u75 = .int .i64 (i : Int) ∧ Hid (ReadsC wr (.slice am cs.length cm) cs) ∧ Hid (Below w.heap.size w wr)) (fun u75 _ => cs.length - (intOf u75).toNat)
    case atStart => exact ⟨0, by omega, rfl, HR10.out, HB10.out⟩
    case round =>
      obtain ⟨i, hi, rfl, Hr, Hbb⟩ := hrel
      by_cases hlt : i < cs.length
      · have hilt : (i : Int) < (cs.length : Int) := by omega
        obtain ⟨b, rfl, e0, e1, e2, e3, e4⟩ := Hr.out.each i hlt
        have hmem : cs.getD i zer ∈ cs := by
          rw [List.getD_eq_getElem?_getD, List.getElem?_eq_getElem hlt]
          exact List.getElem_mem hlt
        have Hg : Hid (Gd (cs.getD i zer)) := HGD.out _ hmem
        clear hmem
        generalize cs.getD i zer = d at *
        obtain ⟨d0, d1, d2, d3, d4⟩ := d
        simp only at e0 e1 e2 e3 e4
        go_wp2_with fail
        have Hd : Hid (BoxF (wr.alloc (.cells #[.int .i64 d0, .int .i64 d1, .int .i64 d2, .int .i64 d3, .int .i64 d4] 24)) 24 wr.heap.size (d0, d1, d2, d3, d4)) := BoxF.new wr 24 (d0, d1, d2, d3, d4)
        have Hr1 : Hid (ReadsC (wr.alloc (.cells #[.int .i64 d0, .int .i64 d1, .int .i64 d2, .int .i64 d3, .int .i64 d4] 24)) (.slice (some ⟨b, 0, none⟩) cs.length cm) cs) := Hr.out.below (box_below _ _)
        have Hb1 : Hid (Below w.heap.size w (wr.alloc (.cells #[.int .i64 d0, .int .i64 d1, .int .i64 d2, .int .i64 d3, .int .i64 d4] 24))) := Hbb.out.alloc Hbb.out.size _
        clear Hr Hbb e0 e1 e2 e3 e4
        generalize wr.alloc (.cells #[.int .i64 d0, .int .i64 d1, .int .i64 d2, .int .i64 d3, .int .i64 d4] 24) = y1 at *
        generalize wr.heap.size = G16 at *
        have HW : Hid (Calls Tryd.prog 8 _ _ _) := write_go d0 d1 d2 d3 d4 y1 (HT.out _ Hb1.out)
        rw [wrt_gd Hg.out] at HW
        refine HW.out.mono ?_
        rintro e y2 ⟨hb2, ht2, u, rfl, hu⟩
        have HKS : Hid (allk (keysOf d0 d1 d2 d3 d4) = ([(d0, d1, d2, d3, d4)], zer, 0)) := keys_told Hg.out
        have hkl := keysOf_len d0 d1 d2 d3 d4
        generalize keysOf d0 d1 d2 d3 d4 = K at *
        have Hu : Hid (Reads y2 u K) := hu
        obtain ⟨ua, uc, rfl⟩ := Hu.out.shape
        have Hd2 : Hid (BoxF y2 24 G16 (d0, d1, d2, d3, d4)) := Hd.out.below hb2
        have Hr2 : Hid (ReadsC y2 (.slice (some ⟨b, 0, none⟩) cs.length cm) cs) := Hr1.out.below hb2
        have Hb2 : Hid (Below w.heap.size w y2) := below_trans Hb1.out hb2 Hb1.out.size
        clear hu hb2 ht2 HW Hg Hd Hr1 Hb1
        go_wp2_with fail
        refine (all_go _ K y2 Hu.out (by omega)).mono ?_
        rintro e y3 ⟨v3, he, ho3, hb3⟩
        rw [HKS.out] at he ho3
        simp only [fv, zer] at he
        subst he
        have Hd3 : Hid (BoxF y3 24 G16 (d0, d1, d2, d3, d4)) := Hd2.out.below hb3
        have Hr3 : Hid (ReadsC y3 (.slice (some ⟨b, 0, none⟩) cs.length cm) cs) := Hr2.out.below hb3
        have Hb3 : Hid (Below w.heap.size w y3) := below_trans Hb2.out hb3 Hb2.out.size
        have Ho3 : Hid (ReadsC y3 v3 [(d0, d1, d2, d3, d4)]) := ho3.reads
        obtain ⟨bo, co, hv3, _⟩ := Ho3.out.one
        obtain rfl := hv3
        clear ho3 hb3 Hd2 Hr2 Hb2 Hu HKS
        go_wp2_with fail
        have Hd4 : Hid (BoxF (y3.alloc (.cells #[.int .i64 0, .int .i64 0, .int .i64 0, .int .i64 0, .int .i64 0] 27)) 24 G16 (d0, d1, d2, d3, d4)) := Hd3.out.alloc _
        have Hr4 : Hid (ReadsC (y3.alloc (.cells #[.int .i64 0, .int .i64 0, .int .i64 0, .int .i64 0, .int .i64 0] 27)) (.slice (some ⟨b, 0, none⟩) cs.length cm) cs) := Hr3.out.below (box_below _ _)
        have Hb4 : Hid (Below w.heap.size w (y3.alloc (.cells #[.int .i64 0, .int .i64 0, .int .i64 0, .int .i64 0, .int .i64 0] 27))) := Hb3.out.alloc Hb3.out.size _
        have Ho4 : Hid (ReadsC (y3.alloc (.cells #[.int .i64 0, .int .i64 0, .int .i64 0, .int .i64 0, .int .i64 0] 27)) (.slice (some ⟨bo, 0, none⟩) 1 co) [(d0, d1, d2, d3, d4)]) := Ho3.out.below (box_below _ _)
        clear Hd3 Hr3 Hb3 Ho3
        generalize y3.alloc (.cells #[.int .i64 0, .int .i64 0, .int .i64 0, .int .i64 0, .int .i64 0] 27) = y4 at *
        generalize y3.heap.size = G20 at *
        obtain ⟨b3, c3, hv3, e0, e1, e2, e3, e4⟩ := Ho4.out.one
        cases hv3
        simp only at e0 e1 e2 e3 e4
        obtain ⟨x0, x1, x2, x3, x4⟩ : y4.cell? ⟨G16, 0, none⟩ = some (.int .i64 d0) ∧ y4.cell? ⟨G16, 1, none⟩ = some (.int .i64 d1) ∧ y4.cell? ⟨G16, 2, none⟩ = some (.int .i64 d2) ∧ y4.cell? ⟨G16, 3, none⟩ = some (.int .i64 d3) ∧ y4.cell? ⟨G16, 4, none⟩ = some (.int .i64 d4) := ⟨Hd4.out.c0, Hd4.out.c1, Hd4.out.c2, Hd4.out.c3, Hd4.out.c4⟩
        have gd := fun x y xs ys w' => guard_lit .neq (.inr rfl : (24 : TypeId) = 27 ∨ (24 : TypeId) = 24) x y xs ys w'
        have r1 := fun w' => neq_lit (.inr rfl) d0 d1 d2 d3 d4 w'
        have hk8 : (K.length : Int) ≤ 8 := by omega
        clear Hd4 Ho4
        go_wp2_with fail
        go_quiet (fail)
        obtain ⟨y5, hy5⟩ : ∃ wq, wq = y4.drewN nq := ⟨_, rfl⟩
        have Hr5 : Hid (ReadsC y5 (.slice (some ⟨b, 0, none⟩) cs.length cm) cs) := by rw [hy5]; exact Hr4.out.below (below_drewN (Below.refl _ _) nq)
        have Hb5 : Hid (Below w.heap.size w y5) := by rw [hy5]; exact below_drewN Hb4.out nq
        rw [← hy5]
        clear hy5 e0 e1 e2 e3 e4 x0 x1 x2 x3 x4 gd r1 Hr4 Hb4
        go_wp2_with fail
        go_roundw
        case rel => exact ⟨i + 1, by omega, by go_num, Hr5.out, Hb5.out⟩
        case measure => simp [intOf]; omega
      · obtain rfl : i = cs.length := by omega
        go_wp2_with fail
        go_ret
        exact ⟨rfl, Hbb.out⟩
  · have HB8 : Hid (Below w.heap.size w w5) := HO5.out.2
    clear HZ HO5 HX5
    go_wp2_with fail
    refine (all_go (.slice la l.length lc) l w5 (HL.out _ HB8.out) (by have := HN.out; omega)).mono ?_
    rintro e w9 ⟨vm9, he, ho, hb9⟩
    have HGD : Hid (∀ d ∈ (allk l).1, Gd d) := allk_gd l
    have HLL : Hid ((allk l).1.length ≤ l.length) := (allk_inv l).2.1
    obtain ⟨X, hX⟩ : ∃ X, X = allk l := ⟨_, rfl⟩
    rw [← hX] at he ho HGD HLL
    clear hX
    have HB9 : Hid (Below w.heap.size w w9) := below_trans HB8.out hb9 HB8.out.size
    have HR9 : Hid (ReadsC w9 vm9 X.1) := ho.reads
    obtain ⟨cs, ⟨p0, p1, p2, p3, p4⟩, m⟩ := X
    simp only [fv] at he
    subst he
    obtain ⟨am, cm, rfl⟩ := HR9.out.shape
    clear ho hb9 HB8
    have hcl : (cs.length : Int) ≤ 1048576 := by
      have h1 := HLL.out
      have h2 := HN.out
      simp only at h1
      omega
    clear HLL
    go_wp2_with fail
    have HB10 : Hid (Below w.heap.size w (w9.alloc (.cells #[.int .i64 p0, .int .i64 p1, .int .i64 p2, .int .i64 p3, .int .i64 p4] 27))) := HB9.out.alloc HB9.out.size _
    have HR10 : Hid (ReadsC (w9.alloc (.cells #[.int .i64 p0, .int .i64 p1, .int .i64 p2, .int .i64 p3, .int .i64 p4] 27)) (.slice am cs.length cm) cs) := HR9.out.below (box_below _ _)
    clear HB9 HR9
    generalize w9.alloc (.cells #[.int .i64 p0, .int .i64 p1, .int .i64 p2, .int .i64 p3, .int .i64 p4] 27) = w10 at *
    generalize w9.heap.size = G9 at *
    go_loopw [75] (fun u75 wr => ∃ i : Nat, i ≤ cs.length ∧ u75 = .int .i64 (i : Int) ∧ Hid (ReadsC wr (.slice am cs.length cm) cs) ∧ Hid (Below w.heap.size w wr)) (fun u75 _ => cs.length - (intOf u75).toNat)
    case atStart => exact ⟨0, by omega, rfl, HR10.out, HB10.out⟩
    case round =>
      obtain ⟨i, hi, rfl, Hr, Hbb⟩ := hrel
      by_cases hlt : i < cs.length
      · have hilt : (i : Int) < (cs.length : Int) := by omega
        obtain ⟨b, rfl, e0, e1, e2, e3, e4⟩ := Hr.out.each i hlt
        have hmem : cs.getD i zer ∈ cs := by
          rw [List.getD_eq_getElem?_getD, List.getElem?_eq_getElem hlt]
          exact List.getElem_mem hlt
        have Hg : Hid (Gd (cs.getD i zer)) := HGD.out _ hmem
        clear hmem
        generalize cs.getD i zer = d at *
        obtain ⟨d0, d1, d2, d3, d4⟩ := d
        simp only at e0 e1 e2 e3 e4
        go_wp2_with fail
        have Hd : Hid (BoxF (wr.alloc (.cells #[.int .i64 d0, .int .i64 d1, .int .i64 d2, .int .i64 d3, .int .i64 d4] 24)) 24 wr.heap.size (d0, d1, d2, d3, d4)) := BoxF.new wr 24 (d0, d1, d2, d3, d4)
        have Hr1 : Hid (ReadsC (wr.alloc (.cells #[.int .i64 d0, .int .i64 d1, .int .i64 d2, .int .i64 d3, .int .i64 d4] 24)) (.slice (some ⟨b, 0, none⟩) cs.length cm) cs) := Hr.out.below (box_below _ _)
        have Hb1 : Hid (Below w.heap.size w (wr.alloc (.cells #[.int .i64 d0, .int .i64 d1, .int .i64 d2, .int .i64 d3, .int .i64 d4] 24))) := Hbb.out.alloc Hbb.out.size _
        clear Hr Hbb e0 e1 e2 e3 e4
        generalize wr.alloc (.cells #[.int .i64 d0, .int .i64 d1, .int .i64 d2, .int .i64 d3, .int .i64 d4] 24) = y1 at *
        generalize wr.heap.size = G16 at *
        have HW : Hid (Calls Tryd.prog 8 _ _ _) := write_go d0 d1 d2 d3 d4 y1 (HT.out _ Hb1.out)
        rw [wrt_gd Hg.out] at HW
        refine HW.out.mono ?_
        rintro e y2 ⟨hb2, ht2, u, rfl, hu⟩
        have HKS : Hid (allk (keysOf d0 d1 d2 d3 d4) = ([(d0, d1, d2, d3, d4)], zer, 0)) := keys_told Hg.out
        have hkl := keysOf_len d0 d1 d2 d3 d4
        generalize keysOf d0 d1 d2 d3 d4 = K at *
        have Hu : Hid (Reads y2 u K) := hu
        obtain ⟨ua, uc, rfl⟩ := Hu.out.shape
        have Hd2 : Hid (BoxF y2 24 G16 (d0, d1, d2, d3, d4)) := Hd.out.below hb2
        have Hr2 : Hid (ReadsC y2 (.slice (some ⟨b, 0, none⟩) cs.length cm) cs) := Hr1.out.below hb2
        have Hb2 : Hid (Below w.heap.size w y2) := below_trans Hb1.out hb2 Hb1.out.size
        clear hu hb2 ht2 HW Hg Hd Hr1 Hb1
        go_wp2_with fail
        refine (all_go _ K y2 Hu.out (by omega)).mono ?_
        rintro e y3 ⟨v3, he, ho3, hb3⟩
        rw [HKS.out] at he ho3
        simp only [fv, zer] at he
        subst he
        have Hd3 : Hid (BoxF y3 24 G16 (d0, d1, d2, d3, d4)) := Hd2.out.below hb3
        have Hr3 : Hid (ReadsC y3 (.slice (some ⟨b, 0, none⟩) cs.length cm) cs) := Hr2.out.below hb3
        have Hb3 : Hid (Below w.heap.size w y3) := below_trans Hb2.out hb3 Hb2.out.size
        have Ho3 : Hid (ReadsC y3 v3 [(d0, d1, d2, d3, d4)]) := ho3.reads
        obtain ⟨bo, co, hv3, _⟩ := Ho3.out.one
        obtain rfl := hv3
        clear ho3 hb3 Hd2 Hr2 Hb2 Hu HKS
        go_wp2_with fail
        have Hd4 : Hid (BoxF (y3.alloc (.cells #[.int .i64 0, .int .i64 0, .int .i64 0, .int .i64 0, .int .i64 0] 27)) 24 G16 (d0, d1, d2, d3, d4)) := Hd3.out.alloc _
        have Hr4 : Hid (ReadsC (y3.alloc (.cells #[.int .i64 0, .int .i64 0, .int .i64 0, .int .i64 0, .int .i64 0] 27)) (.slice (some ⟨b, 0, none⟩) cs.length cm) cs) := Hr3.out.below (box_below _ _)
        have Hb4 : Hid (Below w.heap.size w (y3.alloc (.cells #[.int .i64 0, .int .i64 0, .int .i64 0, .int .i64 0, .int .i64 0] 27))) := Hb3.out.alloc Hb3.out.size _
        have Ho4 : Hid (ReadsC (y3.alloc (.cells #[.int .i64 0, .int .i64 0, .int .i64 0, .int .i64 0, .int .i64 0] 27)) (.slice (some ⟨bo, 0, none⟩) 1 co) [(d0, d1, d2, d3, d4)]) := Ho3.out.below (box_below _ _)
        clear Hd3 Hr3 Hb3 Ho3
        generalize y3.alloc (.cells #[.int .i64 0, .int .i64 0, .int .i64 0, .int .i64 0, .int .i64 0] 27) = y4 at *
        generalize y3.heap.size = G20 at *
        obtain ⟨b3, c3, hv3, e0, e1, e2, e3, e4⟩ := Ho4.out.one
        cases hv3
        simp only at e0 e1 e2 e3 e4
        obtain ⟨x0, x1, x2, x3, x4⟩ : y4.cell? ⟨G16, 0, none⟩ = some (.int .i64 d0) ∧ y4.cell? ⟨G16, 1, none⟩ = some (.int .i64 d1) ∧ y4.cell? ⟨G16, 2, none⟩ = some (.int .i64 d2) ∧ y4.cell? ⟨G16, 3, none⟩ = some (.int .i64 d3) ∧ y4.cell? ⟨G16, 4, none⟩ = some (.int .i64 d4) := ⟨Hd4.out.c0, Hd4.out.c1, Hd4.out.c2, Hd4.out.c3, Hd4.out.c4⟩
        have gd := fun x y xs ys w' => guard_lit .neq (.inr rfl : (24 : TypeId) = 27 ∨ (24 : TypeId) = 24) x y xs ys w'
        have r1 := fun w' => neq_lit (.inr rfl) d0 d1 d2 d3 d4 w'
        have hk8 : (K.length : Int) ≤ 8 := by omega
        clear Hd4 Ho4
        go_wp2_with fail
        go_quiet (fail)
        obtain ⟨y5, hy5⟩ : ∃ wq, wq = y4.drewN nq := ⟨_, rfl⟩
        have Hr5 : Hid (ReadsC y5 (.slice (some ⟨b, 0, none⟩) cs.length cm) cs) := by rw [hy5]; exact Hr4.out.below (below_drewN (Below.refl _ _) nq)
        have Hb5 : Hid (Below w.heap.size w y5) := by rw [hy5]; exact below_drewN Hb4.out nq
        rw [← hy5]
        clear hy5 e0 e1 e2 e3 e4 x0 x1 x2 x3 x4 gd r1 Hr4 Hb4
        go_wp2_with fail
        go_roundw
        case rel => exact ⟨i + 1, by omega, by go_num, Hr5.out, Hb5.out⟩
        case measure => simp [intOf]; omega
      · obtain rfl : i = cs.length := by omega
        go_wp2_with fail
        go_ret
        exact ⟨rfl, Hbb.out⟩
end Go.Proofs.YtjpgjhdkgmddfaaDoor.Seek
