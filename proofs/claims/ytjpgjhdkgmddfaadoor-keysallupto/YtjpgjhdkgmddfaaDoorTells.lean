/- The contracts of keys.tellsJust and keys.Write. -/
import Derived.Test.YtjpgjhdkgmddfaaDoorWritten
import Derived.Test.YtjpgjhdkgmddfaaDoorAllGo
import Derived.Test.YtjpgjhdkgmddfaaDoorEqC
set_option linter.unusedVariables false
set_option linter.unusedSimpArgs false
namespace Go.Proofs.YtjpgjhdkgmddfaaDoor.Plain
/-- What Write answers. -/
def wrt (n r o v a : Int) : List Int × Int := if count n = true then (if allk (keysOf n r o v a) = ([(n, r, o, v, a)], zer, 0) then (keysOf n r o v a, 0) else ([], 4)) else ([], 1)
end Go.Proofs.YtjpgjhdkgmddfaaDoor.Plain
namespace Go.Proofs.YtjpgjhdkgmddfaaDoor.Seek
open Go.RowKit Plain
theorem eq_lit {t : TypeId} (ht : t = 27 ∨ t = 24) (a b c d e a' b' c' d' e' : Int) (x : Bool) (h : decide (((a, b, c, d, e) : Five) = (a', b', c', d', e')) = x) (w : World) :
    (binOp .eql t (.agg #[.int .i64 a, .int .i64 b, .int .i64 c, .int .i64 d, .int .i64 e]) (.agg #[.int .i64 a', .int .i64 b', .int .i64 c', .int .i64 d', .int .i64 e'])).run Tryd.prog w = .ok (.bool x) w := by
  have := eqF ht (a, b, c, d, e) (a', b', c', d', e') w
  rw [h] at this
  exact this
theorem neq_lit {t : TypeId} (ht : t = 27 ∨ t = 24) (a b c d e a' b' c' d' e' : Int) (x : Bool) (h : (!decide (((a, b, c, d, e) : Five) = (a', b', c', d', e'))) = x) (w : World) :
    (binOp .neq t (.agg #[.int .i64 a, .int .i64 b, .int .i64 c, .int .i64 d, .int .i64 e]) (.agg #[.int .i64 a', .int .i64 b', .int .i64 c', .int .i64 d', .int .i64 e'])).run Tryd.prog w = .ok (.bool x) w := by
  have h2 := eqF ht (a, b, c, d, e) (a', b', c', d', e') w
  unfold fv at h2
  rw [run_eql_struct] at h2
  rw [run_neq_struct]
  cases hr : (Op.equalIn 10000 t (.agg #[.int .i64 a, .int .i64 b, .int .i64 c, .int .i64 d, .int .i64 e]) (.agg #[.int .i64 a', .int .i64 b', .int .i64 c', .int .i64 d', .int .i64 e'])).run Tryd.prog w with
  | ok q w1 =>
    rw [hr] at h2
    simp only [Result.andThen_ok, Result.ok.injEq, Value.bool.injEq] at h2 ⊢
    rw [h2.1, h2.2]
    exact ⟨h, rfl⟩
  | halt y w1 =>
    rw [hr] at h2
    simp [Result.andThen] at h2
theorem guard_lit (op : BinOp) {t : TypeId} (ht : t = 27 ∨ t = 24) (x y : Operand) (xs ys : Array Value) (w : World) : (eqGuard op t x y (.agg xs) (.agg ys)).run Tryd.prog w = .ok () w := by
  rcases ht with rfl | rfl <;> exact run_eqGuard_agg (P := Tryd.prog) w op _ x y xs ys (by kernel_rfl)
theorem ReadsC.one {w : World} {u : Value} {d : Five} (h : ReadsC w u [d]) : ∃ b cap, u = .slice (some ⟨b, 0, none⟩) 1 cap ∧ w.cell? ⟨b, 0, none⟩ = some (.int .i64 d.1) ∧ w.cell? ⟨b, 1, none⟩ = some (.int .i64 d.2.1) ∧ w.cell? ⟨b, 2, none⟩ = some (.int .i64 d.2.2.1) ∧ w.cell? ⟨b, 3, none⟩ = some (.int .i64 d.2.2.2.1) ∧ w.cell? ⟨b, 4, none⟩ = some (.int .i64 d.2.2.2.2) := by
  rcases h with ⟨_, _, _, hz⟩ | ⟨b, c, hv, _, _, _, hc⟩
  · cases hz
  · obtain ⟨e0, e1, e2, e3, e4⟩ := hc 0 (by simp)
    exact ⟨b, c, hv, by simpa using e0, by simpa using e1, by simpa using e2, by simpa using e3, by simpa using e4⟩
theorem box_prt (w : World) (a b c d e : Int) : BoxF (w.alloc (.cells #[.int .i64 a, .int .i64 b, .int .i64 c, .int .i64 d, .int .i64 e] 27)) 27 w.heap.size (a, b, c, d, e) := BoxF.new w 27 (a, b, c, d, e)

set_option maxRecDepth 100000 in
set_option maxHeartbeats 4000000 in
theorem tells_go (u : Value) (ks : List Int) (n r o v a : Int) (w : World) (hu : Reads w u ks) (hk : ks.length ≤ 1048576) :
    Calls Tryd.prog 18 #[u, .agg #[.int .i64 n, .int .i64 r, .int .i64 o, .int .i64 v, .int .i64 a]] w fun e w' => e = .returned (.bool (decide (allk ks = ([(n, r, o, v, a)], zer, 0)))) ∧ Below w.heap.size w w' := by
  obtain ⟨ua, uc, rfl⟩ := hu.shape
  have HU : Hid (∀ wx, Below w.heap.size w wx → Reads wx (.slice ua ks.length uc) ks) := fun wx hb => hu.below hb
  have HKL : Hid (ks.length ≤ 1048576) := hk
  clear hu hk
  obtain ⟨b, hb⟩ : ∃ b, b = decide (allk ks = ([(n, r, o, v, a)], zer, 0)) := ⟨_, rfl⟩
  rw [← hb]
  have HI : Hid ((allk ks).2.2 ≤ ks.length) := (allk_inv ks).2.2
  go_enter Tryd.func18, Tryd.ntmps18
  go_wp2_with fail
  have HO : Hid (OneC w (w.alloc (.cells #[.int .i64 n, .int .i64 r, .int .i64 o, .int .i64 v, .int .i64 a] 24)) (n, r, o, v, a)) := oneC_new w n r o v a
  generalize w.alloc (.cells #[.int .i64 n, .int .i64 r, .int .i64 o, .int .i64 v, .int .i64 a] 24) = w1 at *
  refine (all_go _ ks w1 (HU.out w1 HO.out.2) (by have := HKL.out; omega)).mono ?_
  obtain ⟨X, hX⟩ : ∃ X, X = allk ks := ⟨_, rfl⟩
  rw [← hX] at hb HI
  unfold AllPost
  rw [← hX]
  have HB : Hid (b = decide (X = ([(n, r, o, v, a)], zer, 0))) := hb
  clear hX hb
  rintro e w2 ⟨vv, rfl, ho, hb2⟩
  have HO2 : Hid (OneC w w2 (n, r, o, v, a)) := HO.out.below hb2
  have HR : Hid (ReadsC w2 vv X.1) := ho.reads
  clear HO ho hb2 HU
  obtain ⟨cs, ⟨p0, p1, p2, p3, p4⟩, m⟩ := X
  obtain ⟨va, vc, rfl⟩ := HR.out.shape
  have hm9 : (m : Int) ≤ 1048576 := by have := HI.out; have := HKL.out; simp only at *; omega
  simp only [fv]
  have HBW : Hid (Below w.heap.size w (w2.alloc (.cells #[.int .i64 p0, .int .i64 p1, .int .i64 p2, .int .i64 p3, .int .i64 p4] 27))) := HO2.out.2.alloc HO2.out.2.size _
  by_cases hl : cs.length = 1
  · obtain ⟨d, hd⟩ := List.length_eq_one_iff.1 hl
    subst hd
    clear hl
    obtain ⟨bb, cap, hv, e0, e1, e2, e3, e4⟩ := HR.out.one
    obtain ⟨rfl, rfl⟩ : va = some ⟨bb, 0, none⟩ ∧ vc = cap := by
      cases hv
      exact ⟨rfl, rfl⟩
    clear hv
    obtain ⟨d0, d1, d2, d3, d4⟩ := d
    simp only at e0 e1 e2 e3 e4
    go_wp2_with fail
    have HBX : Hid (BoxF (w2.alloc (.cells #[.int .i64 p0, .int .i64 p1, .int .i64 p2, .int .i64 p3, .int .i64 p4] 27)) 27 w2.heap.size (p0, p1, p2, p3, p4)) := box_prt w2 _ _ _ _ _
    have HO3 : Hid (OneC w (w2.alloc (.cells #[.int .i64 p0, .int .i64 p1, .int .i64 p2, .int .i64 p3, .int .i64 p4] 27)) (n, r, o, v, a)) := HO2.out.below (box_below _ _)
    have HR3 : Hid (ReadsC (w2.alloc (.cells #[.int .i64 p0, .int .i64 p1, .int .i64 p2, .int .i64 p3, .int .i64 p4] 27)) (.slice (some ⟨bb, 0, none⟩) 1 vc) [(d0, d1, d2, d3, d4)]) := HR.out.below (box_below _ _)
    clear HR HO2 e0 e1 e2 e3 e4
    generalize w2.alloc (.cells #[.int .i64 p0, .int .i64 p1, .int .i64 p2, .int .i64 p3, .int .i64 p4] 27) = w3 at *
    generalize w2.heap.size = G at *
    obtain ⟨b3, c3, hv3, e0, e1, e2, e3, e4⟩ := HR3.out.one
    cases hv3
    obtain ⟨x0, x1, x2, x3, x4⟩ : w3.cell? ⟨w.heap.size, 0, none⟩ = some (.int .i64 n) ∧ w3.cell? ⟨w.heap.size, 1, none⟩ = some (.int .i64 r) ∧ w3.cell? ⟨w.heap.size, 2, none⟩ = some (.int .i64 o) ∧ w3.cell? ⟨w.heap.size, 3, none⟩ = some (.int .i64 v) ∧ w3.cell? ⟨w.heap.size, 4, none⟩ = some (.int .i64 a) := ⟨HO3.out.1.c0, HO3.out.1.c1, HO3.out.1.c2, HO3.out.1.c3, HO3.out.1.c4⟩
    obtain ⟨y0, y1, y2, y3, y4⟩ : w3.cell? ⟨G, 0, none⟩ = some (.int .i64 p0) ∧ w3.cell? ⟨G, 1, none⟩ = some (.int .i64 p1) ∧ w3.cell? ⟨G, 2, none⟩ = some (.int .i64 p2) ∧ w3.cell? ⟨G, 3, none⟩ = some (.int .i64 p3) ∧ w3.cell? ⟨G, 4, none⟩ = some (.int .i64 p4) := ⟨HBX.out.c0, HBX.out.c1, HBX.out.c2, HBX.out.c3, HBX.out.c4⟩
    simp only at e0 e1 e2 e3 e4
    have gd := fun x y xs ys w' => guard_lit .eql (.inr rfl : 24 = 27 ∨ 24 = 24) x y xs ys w'
    have gp := fun x y xs ys w' => guard_lit .eql (.inl rfl : 27 = 27 ∨ 27 = 24) x y xs ys w'
    obtain ⟨q1, hq1⟩ : ∃ q1, q1 = decide (((d0, d1, d2, d3, d4) : Five) = (n, r, o, v, a)) := ⟨_, rfl⟩
    obtain ⟨q2, hq2⟩ : ∃ q2, q2 = decide (((p0, p1, p2, p3, p4) : Five) = (0, 0, 0, 0, 0)) := ⟨_, rfl⟩
    obtain ⟨q3, hq3⟩ : ∃ q3, q3 = ((m : Int) == 0) := ⟨_, rfl⟩
    have r1 := fun w' => eq_lit (.inr rfl) d0 d1 d2 d3 d4 n r o v a q1 hq1.symm w'
    have r2 := fun w' => eq_lit (.inl rfl) p0 p1 p2 p3 p4 0 0 0 0 0 q2 hq2.symm w'
    have r3 : ((m : Int) == 0) = q3 := hq3.symm
    have HBV : Hid (b = (q1 && (q2 && q3))) := by
      show b = _
      rw [HB.out, hq1, hq2, hq3, Bool.eq_iff_iff]
      simp [zer]
    clear hq1 hq2 hq3 HB HBX HO3 HR3
    have HBW3 := HBW
    cases q1 with
    | false =>
      have hbv : b = false := HBV.out
      subst hbv
      go_wp2_with fail
      go_quiet (fail)
      go_wp2_with fail
      go_ret
      exact ⟨rfl, below_drewN HBW.out _⟩
    | true =>
      cases q2 with
      | false =>
        have hbv : b = false := HBV.out
        subst hbv
        go_wp2_with fail
        go_quiet (fail)
        go_wp2_with fail
        go_ret
        exact ⟨rfl, below_drewN HBW.out _⟩
      | true =>
        cases q3 with
        | false =>
          have hbv : b = false := HBV.out
          subst hbv
          go_wp2_with fail
          go_quiet (fail)
          go_wp2_with fail
          go_ret
          exact ⟨rfl, below_drewN HBW.out _⟩
        | true =>
          have hbv : b = true := HBV.out
          subst hbv
          go_wp2_with fail
          go_quiet (fail)
          go_wp2_with fail
          go_ret
          exact ⟨rfl, below_drewN HBW.out _⟩
  · have hbv : b = false := by
      show b = false
      rw [HB.out]
      exact decide_eq_false (fun h => hl (congrArg (fun q : Sofar => q.1.length) h))
    subst hbv
    have hlb : ((cs.length : Int) == 1) = false := by simp only [beq_eq_false_iff_ne]; omega
    have hmx : (cs.length : Int) ≤ 9223372036854775807 := by have h9 : cs.length ≤ maxLen := HR.out.len; unfold maxLen at h9; omega
    clear hl HB
    go_wp2_with fail
    have HBX : Hid (Below w.heap.size w (w2.alloc (.cells #[.int .i64 p0, .int .i64 p1, .int .i64 p2, .int .i64 p3, .int .i64 p4] 27))) := HBW.out
    generalize w2.alloc (.cells #[.int .i64 p0, .int .i64 p1, .int .i64 p2, .int .i64 p3, .int .i64 p4] 27) = w3 at *
    generalize cs.length = nl at *
    go_quiet (fail)
    go_wp2_with fail
    go_ret
    exact ⟨rfl, below_drewN HBX.out _⟩

set_option maxHeartbeats 2000000 in
theorem write_go (n r o v a : Int) (w : World) (ht : Tab w) : Calls Tryd.prog 8 #[.agg #[.int .i64 n, .int .i64 r, .int .i64 o, .int .i64 v, .int .i64 a]] w fun e w' =>
    Below w.heap.size w w' ∧ Tab w' ∧ ∃ u, e = .returned (.tuple #[u, .int .i64 (wrt n r o v a).2]) ∧ Reads w' u (wrt n r o v a).1 := by
  have HT : Hid (Tab w) := ht
  clear ht
  obtain ⟨Y, hY⟩ : ∃ Y, Y = wrt n r o v a := ⟨_, rfl⟩
  rw [← hY]
  cases hc : count n with
  | false =>
    have HX : Hid (Y = ([], 1)) := by show _ = _; rw [hY]; unfold wrt; rw [hc]; rfl
    have HC : Hid (count n = false) := hc
    clear hc hY
    go_enter Tryd.func8, Tryd.ntmps8
    go_wp2_with fail
    refine (isCount_go n _).mono ?_
    rintro e w' ⟨rfl, rfl⟩
    rw [HC.out]
    go_wp2_with fail
    go_ret2
    rw [HX.out]
    exact ⟨box_below _ _, HT.out.below (box_below _ _), _, rfl, .inl ⟨_, _, rfl, rfl⟩⟩
  | true =>
    have HC : Hid (count n = true) := hc
    have hn2 : 0 ≤ n ∧ n ≤ 999 := by unfold count at hc; exact of_decide_eq_true hc
    have HN : Hid (0 ≤ n ∧ n ≤ 999) := hn2
    clear hn2
    obtain ⟨j, hj⟩ : ∃ j, j = decide (allk (keysOf n r o v a) = ([(n, r, o, v, a)], zer, 0)) := ⟨_, rfl⟩
    have HX : Hid (Y = if j = true then (keysOf n r o v a, 0) else ([], 4)) := by
      show _ = _
      rw [hY]
      unfold wrt
      rw [hc, if_pos rfl, hj]
      simp
    have HJ : Hid (j = decide (allk (keysOf n r o v a) = ([(n, r, o, v, a)], zer, 0))) := hj
    clear hc hj hY
    go_enter Tryd.func8, Tryd.ntmps8
    go_wp2_with fail
    refine (isCount_go n _).mono ?_
    rintro e w' ⟨rfl, rfl⟩
    rw [HC.out]
    go_wp2_with fail
    have HO : Hid (OneC w (w.alloc (.cells #[.int .i64 n, .int .i64 r, .int .i64 o, .int .i64 v, .int .i64 a] 24)) (n, r, o, v, a)) := oneC_new w n r o v a
    generalize w.alloc (.cells #[.int .i64 n, .int .i64 r, .int .i64 o, .int .i64 v, .int .i64 a] 24) = w1 at *
    refine (written_go n r o v a w1 HN.out (HT.out.below HO.out.2)).mono ?_
    rintro e w2 ⟨hb, ht2, u, rfl, ho⟩
    have HO2 : Hid (OneC w w2 (n, r, o, v, a)) := HO.out.below hb
    have HR : Hid (Reads w2 u (keysOf n r o v a)) := ho.reads
    have HT2 : Hid (Tab w2) := ht2
    clear hb ht2 ho HO
    obtain ⟨c0, c1, c2, c3, c4⟩ : w2.cell? ⟨w.heap.size, 0, none⟩ = some (.int .i64 n) ∧ w2.cell? ⟨w.heap.size, 1, none⟩ = some (.int .i64 r) ∧ w2.cell? ⟨w.heap.size, 2, none⟩ = some (.int .i64 o) ∧ w2.cell? ⟨w.heap.size, 3, none⟩ = some (.int .i64 v) ∧ w2.cell? ⟨w.heap.size, 4, none⟩ = some (.int .i64 a) := ⟨HO2.out.1.c0, HO2.out.1.c1, HO2.out.1.c2, HO2.out.1.c3, HO2.out.1.c4⟩
    go_wp2_with fail
    refine (tells_go u _ n r o v a w2 HR.out (by have := keysOf_len n r o v a; omega)).mono ?_
    rw [← HJ.out]
    rintro e w3 ⟨rfl, hb⟩
    have HB3 : Hid (Below w.heap.size w w3) := below_trans HO2.out.2 hb HO2.out.2.size
    have HR3 : Hid (Reads w3 u (keysOf n r o v a)) := HR.out.below hb
    have HT3 : Hid (Tab w3) := HT2.out.below hb
    clear hb HO2 HR HT2 c0 c1 c2 c3 c4 HJ
    cases j with
    | false =>
      go_wp2_with fail
      go_ret2
      rw [HX.out]
      exact ⟨HB3.out, HT3.out, _, rfl, .inl ⟨_, _, rfl, rfl⟩⟩
    | true =>
      go_wp2_with fail
      go_ret2
      rw [HX.out]
      exact ⟨HB3.out, HT3.out, _, rfl, HR3.out⟩
end Go.Proofs.YtjpgjhdkgmddfaaDoor.Seek
