/- The walk of KeysTakes. -/
import Derived.Test.YtjpgjhdkgmddfaaPartErr
import Derived.Test.YtjpgjhdkgmddfaaTakeGo
import Derived.Test.YtjpgjhdkgmddfaaAllGo
import Derived.Test.YtjpgjhdkgmddfaaRefTake
set_option linter.unusedVariables false
set_option linter.unusedSimpArgs false
namespace Go.Proofs.Ytjpgjhdkgmddfaa.Seek
open Go.RowKit Plain

theorem eq_same {t : TypeId} (ht : t = 23 ∨ t = 27) (a b c d e : Int) (w : World) : (binOp .eql t (.agg #[.int .i64 a, .int .i64 b, .int .i64 c, .int .i64 d, .int .i64 e]) (.agg #[.int .i64 a, .int .i64 b, .int .i64 c, .int .i64 d, .int .i64 e])).run Try.prog w = .ok (.bool true) w := by
  have := eqF ht (a, b, c, d, e) (a, b, c, d, e) w
  rw [decide_eq_true rfl] at this
  exact this

set_option maxRecDepth 100000 in
set_option maxHeartbeats 4000000 in
theorem takes_walk (f r o s t k : Int) (w : World) : Calls Try.prog 3 #[.agg #[.int .i64 f, .int .i64 r, .int .i64 o, .int .i64 s, .int .i64 t], .int .i64 k] w fun e w' => e = .returned (.bool true) ∧ Below w.heap.size w w' := by
  have HP : Hid (∀ w1, Calls Try.prog 5 #[.agg #[.int .i64 f, .int .i64 r, .int .i64 o, .int .i64 s, .int .i64 t]] w1 fun e w' => e = .returned (.int .i64 (pchk f r o s t)) ∧ Below w1.heap.size w1 w') := fun w1 => partErr_go f r o s t w1
  have HK : Hid (∀ w1, Calls Try.prog 7 #[.agg #[.int .i64 f, .int .i64 r, .int .i64 o, .int .i64 s, .int .i64 t]] w1 fun e w' => e = .returned (.int .i64 (pchk f r o s t)) ∧ Below w1.heap.size w1 w') := fun w1 => check_go f r o s t w1
  have HT : Hid (∀ w1, Calls Try.prog 6 #[.agg #[.int .i64 f, .int .i64 r, .int .i64 o, .int .i64 s, .int .i64 t], .int .i64 k] w1 fun e w' => TakePost (tkn f r o s t k) w1 e w') := fun w1 => take_go f r o s t k w1
  cases h : right f r o s t with
  | false =>
    rw [pchk_bad h] at HP HK
    rw [show tkn f r o s t k = ((zer, zer, 0), 1) from if_neg (by rw [h]; decide)] at HT
    clear h
    go_enter Try.func3, Try.ntmps3
    go_wp2_with fail
    have HO : Hid (One w (w.alloc (.cells #[.int .i64 f, .int .i64 r, .int .i64 o, .int .i64 s, .int .i64 t] 23)) (f, r, o, s, t)) := one_new w f r o s t
    refine (HP.out _).mono ?_
    rintro e w1 ⟨rfl, hb⟩
    have HO1 : Hid (One w w1 (f, r, o, s, t)) := HO.out.below hb
    clear HO hb HP
    obtain ⟨c0, c1, c2, c3, c4⟩ : w1.cell? ⟨w.heap.size, 0, none⟩ = some (.int .i64 f) ∧ w1.cell? ⟨w.heap.size, 1, none⟩ = some (.int .i64 r) ∧ w1.cell? ⟨w.heap.size, 2, none⟩ = some (.int .i64 o) ∧ w1.cell? ⟨w.heap.size, 3, none⟩ = some (.int .i64 s) ∧ w1.cell? ⟨w.heap.size, 4, none⟩ = some (.int .i64 t) := ⟨HO1.out.1.c0, HO1.out.1.c1, HO1.out.1.c2, HO1.out.1.c3, HO1.out.1.c4⟩
    go_wp2_with fail
    refine (HT.out _).mono ?_
    rintro e w2 ⟨rfl, hb⟩
    have HO2 : Hid (One w w2 (f, r, o, s, t)) := HO1.out.below hb
    clear HO1 hb HT c0 c1 c2 c3 c4
    obtain ⟨c0, c1, c2, c3, c4⟩ : (∀ o1 o2, ((w2.alloc o1).alloc o2).cell? ⟨w.heap.size, 0, none⟩ = some (.int .i64 f)) ∧ (∀ o1 o2, ((w2.alloc o1).alloc o2).cell? ⟨w.heap.size, 1, none⟩ = some (.int .i64 r)) ∧ (∀ o1 o2, ((w2.alloc o1).alloc o2).cell? ⟨w.heap.size, 2, none⟩ = some (.int .i64 o)) ∧ (∀ o1 o2, ((w2.alloc o1).alloc o2).cell? ⟨w.heap.size, 3, none⟩ = some (.int .i64 s)) ∧ (∀ o1 o2, ((w2.alloc o1).alloc o2).cell? ⟨w.heap.size, 4, none⟩ = some (.int .i64 t)) :=
      ⟨fun o1 o2 => ((HO2.out.1.alloc o1).alloc o2).c0, fun o1 o2 => ((HO2.out.1.alloc o1).alloc o2).c1, fun o1 o2 => ((HO2.out.1.alloc o1).alloc o2).c2, fun o1 o2 => ((HO2.out.1.alloc o1).alloc o2).c3, fun o1 o2 => ((HO2.out.1.alloc o1).alloc o2).c4⟩
    simp only [fv, zer]
    go_wp2_with fail
    have HB : Hid _ := two_is w2 0 0 0 0 0 0 0 0 0 0
    refine (HK.out _).mono ?_
    rintro e w3 ⟨rfl, hb⟩
    have HB3 : Hid (BoxF w3 23 w2.heap.size zer ∧ BoxF w3 27 (w2.heap.size + 1) zer ∧ Below w.heap.size w w3) := ⟨HB.out.1.below hb, HB.out.2.1.below hb, (HO2.out.2.trans (HB.out.2.2.mono HO2.out.2.size)).trans (hb.mono (Nat.le_trans HO2.out.2.size HB.out.2.2.size))⟩
    clear HB hb HK HO2 c0 c1 c2 c3 c4
    obtain ⟨p0, p1, p2, p3, p4⟩ : w3.cell? ⟨w2.heap.size, 0, none⟩ = some (.int .i64 0) ∧ w3.cell? ⟨w2.heap.size, 1, none⟩ = some (.int .i64 0) ∧ w3.cell? ⟨w2.heap.size, 2, none⟩ = some (.int .i64 0) ∧ w3.cell? ⟨w2.heap.size, 3, none⟩ = some (.int .i64 0) ∧ w3.cell? ⟨w2.heap.size, 4, none⟩ = some (.int .i64 0) := ⟨HB3.out.1.c0, HB3.out.1.c1, HB3.out.1.c2, HB3.out.1.c3, HB3.out.1.c4⟩
    obtain ⟨q0, q1, q2, q3, q4⟩ : w3.cell? ⟨w2.heap.size + 1, 0, none⟩ = some (.int .i64 0) ∧ w3.cell? ⟨w2.heap.size + 1, 1, none⟩ = some (.int .i64 0) ∧ w3.cell? ⟨w2.heap.size + 1, 2, none⟩ = some (.int .i64 0) ∧ w3.cell? ⟨w2.heap.size + 1, 3, none⟩ = some (.int .i64 0) ∧ w3.cell? ⟨w2.heap.size + 1, 4, none⟩ = some (.int .i64 0) := ⟨HB3.out.2.1.c0, HB3.out.2.1.c1, HB3.out.2.1.c2, HB3.out.2.1.c3, HB3.out.2.1.c4⟩
    have e1 := fun w' => eq_same (.inl rfl) 0 0 0 0 0 w'
    have e2 := fun w' => eq_same (.inr rfl) 0 0 0 0 0 w'
    go_wp2_with fail
    go_ret
    exact ⟨rfl, HB3.out.2.2⟩
  | true =>
    have HR : Hid (∀ w1, Calls Try.prog 8 #[.agg #[.int .i64 f, .int .i64 r, .int .i64 o, .int .i64 s, .int .i64 t], .int .i64 k] w1 fun e w' => TookPost (stp f r o s t k) w1 e w') := fun w1 => refTake_go f r o s t k w1 h
    rw [pchk_good h] at HP HK
    rw [show tkn f r o s t k = (stp f r o s t k, 0) from if_pos h] at HT
    clear h
    obtain ⟨R, hR⟩ : ∃ R, R = stp f r o s t k := ⟨_, rfl⟩
    rw [← hR] at HT HR
    clear hR
    obtain ⟨⟨p0, p1, p2, p3, p4⟩, ⟨q0, q1, q2, q3, q4⟩, n⟩ := R
    go_enter Try.func3, Try.ntmps3
    go_wp2_with fail
    have HO : Hid (One w (w.alloc (.cells #[.int .i64 f, .int .i64 r, .int .i64 o, .int .i64 s, .int .i64 t] 23)) (f, r, o, s, t)) := one_new w f r o s t
    refine (HP.out _).mono ?_
    rintro e w1 ⟨rfl, hb⟩
    have HO1 : Hid (One w w1 (f, r, o, s, t)) := HO.out.below hb
    clear HO hb HP
    obtain ⟨c0, c1, c2, c3, c4⟩ : w1.cell? ⟨w.heap.size, 0, none⟩ = some (.int .i64 f) ∧ w1.cell? ⟨w.heap.size, 1, none⟩ = some (.int .i64 r) ∧ w1.cell? ⟨w.heap.size, 2, none⟩ = some (.int .i64 o) ∧ w1.cell? ⟨w.heap.size, 3, none⟩ = some (.int .i64 s) ∧ w1.cell? ⟨w.heap.size, 4, none⟩ = some (.int .i64 t) := ⟨HO1.out.1.c0, HO1.out.1.c1, HO1.out.1.c2, HO1.out.1.c3, HO1.out.1.c4⟩
    go_wp2_with fail
    refine (HT.out _).mono ?_
    rintro e w2 ⟨rfl, hb⟩
    have HO2 : Hid (One w w2 (f, r, o, s, t)) := HO1.out.below hb
    clear HO1 hb HT c0 c1 c2 c3 c4
    obtain ⟨c0, c1, c2, c3, c4⟩ : (∀ o1 o2, ((w2.alloc o1).alloc o2).cell? ⟨w.heap.size, 0, none⟩ = some (.int .i64 f)) ∧ (∀ o1 o2, ((w2.alloc o1).alloc o2).cell? ⟨w.heap.size, 1, none⟩ = some (.int .i64 r)) ∧ (∀ o1 o2, ((w2.alloc o1).alloc o2).cell? ⟨w.heap.size, 2, none⟩ = some (.int .i64 o)) ∧ (∀ o1 o2, ((w2.alloc o1).alloc o2).cell? ⟨w.heap.size, 3, none⟩ = some (.int .i64 s)) ∧ (∀ o1 o2, ((w2.alloc o1).alloc o2).cell? ⟨w.heap.size, 4, none⟩ = some (.int .i64 t)) :=
      ⟨fun o1 o2 => ((HO2.out.1.alloc o1).alloc o2).c0, fun o1 o2 => ((HO2.out.1.alloc o1).alloc o2).c1, fun o1 o2 => ((HO2.out.1.alloc o1).alloc o2).c2, fun o1 o2 => ((HO2.out.1.alloc o1).alloc o2).c3, fun o1 o2 => ((HO2.out.1.alloc o1).alloc o2).c4⟩
    simp only [fv]
    go_wp2_with fail
    have HB : Hid _ := two_is w2 p0 p1 p2 p3 p4 q0 q1 q2 q3 q4
    refine (HK.out _).mono ?_
    rintro e w3 ⟨rfl, hb⟩
    have HO3 : Hid (One w w3 (f, r, o, s, t)) := (HO2.out.below HB.out.2.2).below hb
    have HB3 : Hid (BoxF w3 23 w2.heap.size (p0, p1, p2, p3, p4) ∧ BoxF w3 27 (w2.heap.size + 1) (q0, q1, q2, q3, q4)) := ⟨HB.out.1.below hb, HB.out.2.1.below hb⟩
    clear HB hb HK HO2 c0 c1 c2 c3 c4
    obtain ⟨c0, c1, c2, c3, c4⟩ : w3.cell? ⟨w.heap.size, 0, none⟩ = some (.int .i64 f) ∧ w3.cell? ⟨w.heap.size, 1, none⟩ = some (.int .i64 r) ∧ w3.cell? ⟨w.heap.size, 2, none⟩ = some (.int .i64 o) ∧ w3.cell? ⟨w.heap.size, 3, none⟩ = some (.int .i64 s) ∧ w3.cell? ⟨w.heap.size, 4, none⟩ = some (.int .i64 t) := ⟨HO3.out.1.c0, HO3.out.1.c1, HO3.out.1.c2, HO3.out.1.c3, HO3.out.1.c4⟩
    go_wp2_with fail
    refine (HR.out _).mono ?_
    rintro e w4 ⟨rfl, hb⟩
    have HW4 : Hid (Below w.heap.size w w4) := HO3.out.2.trans (hb.mono HO3.out.2.size)
    have HB4 : Hid (BoxF w4 23 w2.heap.size (p0, p1, p2, p3, p4) ∧ BoxF w4 27 (w2.heap.size + 1) (q0, q1, q2, q3, q4)) := ⟨HB3.out.1.below hb, HB3.out.2.below hb⟩
    clear HO3 HB3 hb HR c0 c1 c2 c3 c4
    simp only [fv]
    obtain ⟨g0, g1, g2, g3, g4⟩ : (∀ o1 o2, ((w4.alloc o1).alloc o2).cell? ⟨w2.heap.size, 0, none⟩ = some (.int .i64 p0)) ∧ (∀ o1 o2, ((w4.alloc o1).alloc o2).cell? ⟨w2.heap.size, 1, none⟩ = some (.int .i64 p1)) ∧ (∀ o1 o2, ((w4.alloc o1).alloc o2).cell? ⟨w2.heap.size, 2, none⟩ = some (.int .i64 p2)) ∧ (∀ o1 o2, ((w4.alloc o1).alloc o2).cell? ⟨w2.heap.size, 3, none⟩ = some (.int .i64 p3)) ∧ (∀ o1 o2, ((w4.alloc o1).alloc o2).cell? ⟨w2.heap.size, 4, none⟩ = some (.int .i64 p4)) :=
      ⟨fun o1 o2 => ((HB4.out.1.alloc o1).alloc o2).c0, fun o1 o2 => ((HB4.out.1.alloc o1).alloc o2).c1, fun o1 o2 => ((HB4.out.1.alloc o1).alloc o2).c2, fun o1 o2 => ((HB4.out.1.alloc o1).alloc o2).c3, fun o1 o2 => ((HB4.out.1.alloc o1).alloc o2).c4⟩
    obtain ⟨i0, i1, i2, i3, i4⟩ : (∀ o1 o2, ((w4.alloc o1).alloc o2).cell? ⟨w2.heap.size + 1, 0, none⟩ = some (.int .i64 q0)) ∧ (∀ o1 o2, ((w4.alloc o1).alloc o2).cell? ⟨w2.heap.size + 1, 1, none⟩ = some (.int .i64 q1)) ∧ (∀ o1 o2, ((w4.alloc o1).alloc o2).cell? ⟨w2.heap.size + 1, 2, none⟩ = some (.int .i64 q2)) ∧ (∀ o1 o2, ((w4.alloc o1).alloc o2).cell? ⟨w2.heap.size + 1, 3, none⟩ = some (.int .i64 q3)) ∧ (∀ o1 o2, ((w4.alloc o1).alloc o2).cell? ⟨w2.heap.size + 1, 4, none⟩ = some (.int .i64 q4)) :=
      ⟨fun o1 o2 => ((HB4.out.2.alloc o1).alloc o2).c0, fun o1 o2 => ((HB4.out.2.alloc o1).alloc o2).c1, fun o1 o2 => ((HB4.out.2.alloc o1).alloc o2).c2, fun o1 o2 => ((HB4.out.2.alloc o1).alloc o2).c3, fun o1 o2 => ((HB4.out.2.alloc o1).alloc o2).c4⟩
    have e1 := fun w' => eq_same (.inl rfl) p0 p1 p2 p3 p4 w'
    have e2 := fun w' => eq_same (.inr rfl) q0 q1 q2 q3 q4 w'
    go_wp2_with fail
    go_ret
    exact ⟨rfl, HW4.out.trans ((two_is w4 _ _ _ _ _ _ _ _ _ _).2.2.mono HW4.out.size)⟩
end Go.Proofs.Ytjpgjhdkgmddfaa.Seek
