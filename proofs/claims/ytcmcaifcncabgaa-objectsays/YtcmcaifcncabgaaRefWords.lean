/- The document's Object at w and W, where the line is not empty. -/
import Derived.Test.YtcmcaifcncabgaaRunRef
import Derived.Deep.CutRange
set_option linter.unusedVariables false
set_option linter.unusedSimpArgs false
namespace Go.Proofs.Ytcmcaifcncabgaa.Seek
open Go.RowKit Plain
/-- A world that has drawn some more. -/
def Drawn (w w1 : World) : Prop := ∃ q, w1 = w.drewN q
theorem Drawn.below {w w1 : World} (h : Drawn w w1) : Below w.heap.size w w1 := by
  obtain ⟨q, rfl⟩ := h
  exact below_drewN (Below.refl _ _) q

set_option maxRecDepth 100000 in
set_option maxHeartbeats 8000000 in
theorem refword_119 (b off cap : Nat) (zs : List Int) (k : Nat) (ar : Bool) (w : World) (hk : k < zs.length) (hn : zs.length ≤ 4096)
    (hc : ∀ j, j < zs.length → w.cell? ⟨b, off + j, none⟩ = some (.int .i64 (zs.getD j 0))) :
    Calls Try.prog 7 #[.slice (some ⟨b, off, none⟩) zs.length cap, .int .i64 (k : Int), .bool ar, .int .i64 119] w fun e w' => e = .returned (.tuple #[.int .i64 ((wrd zs false ar k).1 : Int), .int .i64 ((wrd zs false ar k).2 : Int), .int .i64 0]) ∧ Drawn w w' := by
  obtain ⟨A, hA⟩ : ∃ A, A = rlo zs false k := ⟨_, rfl⟩
  obtain ⟨Z, hZ⟩ : ∃ Z, Z = rhi zs false k := ⟨_, rfl⟩
  obtain ⟨R1, h1⟩ : ∃ R1, R1 = (wrd zs false ar k).1 := ⟨_, rfl⟩
  obtain ⟨R2, h2⟩ : ∃ R2, R2 = (wrd zs false ar k).2 := ⟨_, rfl⟩
  rw [← h1, ← h2]
  obtain ⟨hA1, hZ1, hZ2, hrs⟩ := run_spec (b := false) hk
  rw [← hA] at hA1
  rw [← hZ] at hZ1 hZ2
  have Hrun : Hid (∀ w1, Drawn w w1 → ∀ x (i : Nat), x = (i : Int) → i < zs.length → Calls Try.prog 18 #[.slice (some ⟨b, off, none⟩) zs.length cap, .int .i64 x, .bool false] w1 fun e w' => e = .returned (.tuple #[.int .i64 (rlo zs false i : Int), .int .i64 (rhi zs false i : Int)]) ∧ Drawn w w') := by
    rintro w1 ⟨q, rfl⟩ x i hx hi
    refine (runOf_go b off cap zs x i false (w.drewN q) hx hi hn hc).mono ?_
    rintro e w' ⟨he, q2, rfl⟩
    exact ⟨he, q + q2, by rw [World.drewN_drewN]⟩
  have Hcell : Hid (∀ w1, Drawn w w1 → ∀ j, j < zs.length → ∃ y, w1.cell? ⟨b, off + j, none⟩ = some (.int .i64 y) ∧ Hid (kind y false = kd zs false j)) := by
    rintro w1 ⟨q, rfl⟩ j hj
    exact ⟨_, hc j hj, rfl⟩
  have hne : ((zs.length : Int) == 0) = false := by simp only [beq_eq_false_iff_ne]; omega
  have hkn : (k : Int) < (zs.length : Int) := by omega
  have HAZ : Hid (rlo zs false k = A ∧ rhi zs false k = Z) := ⟨hA.symm, hZ.symm⟩
  have HR : Hid (R1 = (wrd zs false ar k).1 ∧ R2 = (wrd zs false ar k).2) := ⟨h1, h2⟩
  obtain ⟨K, hK⟩ : ∃ K, K = kd zs false k := ⟨_, rfl⟩
  have HK : Hid (kd zs false k = K) := hK.symm
  clear hA hZ h1 h2 hc hK hrs
  cases ar with
  | false =>
    have HR2 : Hid (R1 = A ∧ R2 = Z) := by
      obtain ⟨g1, g2⟩ := HR.out
      rw [wrd_none, HAZ.out.1, HAZ.out.2] at g1 g2
      exact ⟨g1, g2⟩
    clear HR
    go_enter Try.func7, Try.ntmps7
    go_upto_region 3 with fail
    go_cut [37] from 26 to 37 (fun s37 wx => s37 = .bool false ∧ wx = w)
    case first =>
      by_cases hk0 : k = 0
      · subst hk0
        go_wp2_with fail
        go_meet
        exact ⟨rfl, rfl⟩
      · have hk1 : (0 : Int) < (k : Int) := by omega
        go_wp2_with fail
        go_meet
        exact ⟨by rw [decide_eq_false (by omega), decide_eq_false (by omega)]; rfl, rfl⟩
    case rest =>
    obtain ⟨rfl, hwc⟩ := hcut
    replace hwc := hwc.symm
    subst hwc
    go_wp2_with fail
    refine (Hrun.out w ⟨0, rfl⟩ _ k (by omega) hk).mono ?_
    rintro e w1 ⟨rfl, D⟩
    rw [HAZ.out.1, HAZ.out.2]
    have D1 : Hid (Drawn w w1) := D
    clear D
    obtain ⟨y, hy, Hy⟩ := Hcell.out _ D1.out k (by omega)
    go_wp2_with fail
    refine (refkind_go y false w1).mono ?_
    rintro e w2 ⟨rfl, hw2⟩
    rw [hw2, Hy.out, HK.out]
    clear hw2 w2 hy Hy
    cases hB : K == 0 with
    | true =>
      go_wp2_with fail
      go_ret3
      rw [HR2.out.1, HR2.out.2]
      exact ⟨by first | rfl | (congr; omega), D1.out⟩
    | false =>
      go_wp2_with fail
      go_ret3
      rw [HR2.out.1, HR2.out.2]
      exact ⟨by first | rfl | (congr; omega), D1.out⟩
  | true =>
    go_enter Try.func7, Try.ntmps7
    go_upto_region 3 with fail
    go_cut [37] from 26 to 37 (fun s37 wx => s37 = .bool false ∧ wx = w)
    case first =>
      by_cases hk0 : k = 0
      · subst hk0
        go_wp2_with fail
        go_meet
        exact ⟨rfl, rfl⟩
      · have hk1 : (0 : Int) < (k : Int) := by omega
        go_wp2_with fail
        go_meet
        exact ⟨by rw [decide_eq_false (by omega), decide_eq_false (by omega)]; rfl, rfl⟩
    case rest =>
    obtain ⟨rfl, hwc⟩ := hcut
    replace hwc := hwc.symm
    subst hwc
    go_wp2_with fail
    refine (Hrun.out w ⟨0, rfl⟩ _ k (by omega) hk).mono ?_
    rintro e w1 ⟨rfl, D⟩
    rw [HAZ.out.1, HAZ.out.2]
    have D1 : Hid (Drawn w w1) := D
    clear D
    obtain ⟨y, hy, Hy⟩ := Hcell.out _ D1.out k (by omega)
    go_wp2_with fail
    refine (refkind_go y false w1).mono ?_
    rintro e w2 ⟨rfl, hw2⟩
    rw [hw2, Hy.out, HK.out]
    clear hw2 w2 hy Hy
    by_cases hlt : Z < zs.length
    · have hI : (Z : Int) < (zs.length : Int) := by omega
      cases hB : K == 0 with
      | true =>
        have HR2 : Hid (R1 = A ∧ R2 = rhi zs false Z) := by
          obtain ⟨g1, g2⟩ := HR.out
          rw [wrd_right (by rw [HAZ.out.2]; exact hlt) (.inl (by rw [HK.out]; simpa using hB))] at g1 g2
          rw [HAZ.out.1, HAZ.out.2] at g1 g2
          exact ⟨g1, g2⟩
        clear HR
        go_wp2_with fail
        refine (Hrun.out w1 D1.out _ Z (by omega) hlt).mono ?_
        rintro e w4 ⟨rfl, D⟩
        have D4 : Hid (Drawn w w4) := D
        clear D
        go_wp2_with fail
        go_ret3
        rw [HR2.out.1, HR2.out.2]
        exact ⟨by first | rfl | (congr; omega), D4.out⟩
      | false =>
        obtain ⟨KZ, hKZ⟩ : ∃ KZ, KZ = kd zs false Z := ⟨_, rfl⟩
        have HZK : Hid (kd zs false Z = KZ) := hKZ.symm
        clear hKZ
        cases hZ0 : KZ == 0 with
        | true =>
          have HR2 : Hid (R1 = A ∧ R2 = rhi zs false Z) := by
            obtain ⟨g1, g2⟩ := HR.out
            rw [wrd_right (by rw [HAZ.out.2]; exact hlt) (.inr (by rw [HAZ.out.2, HZK.out]; simpa using hZ0))] at g1 g2
            rw [HAZ.out.1, HAZ.out.2] at g1 g2
            exact ⟨g1, g2⟩
          clear HR
          obtain ⟨y2, hy2, Hy2⟩ := Hcell.out _ D1.out Z hlt
          go_wp2_with fail
          refine (refkind_go y2 false w1).mono ?_
          rintro e w2 ⟨rfl, hw2⟩
          rw [hw2, Hy2.out, HZK.out]
          clear hw2 w2 hy2 Hy2
          go_wp2_with fail
          refine (Hrun.out w1 D1.out _ Z (by omega) hlt).mono ?_
          rintro e w4 ⟨rfl, D⟩
          have D4 : Hid (Drawn w w4) := D
          clear D
          go_wp2_with fail
          go_ret3
          rw [HR2.out.1, HR2.out.2]
          exact ⟨by first | rfl | (congr; omega), D4.out⟩
        | false =>
          by_cases hA0 : A = 0
          · have HR2 : Hid (R1 = A ∧ R2 = Z) := by
              obtain ⟨g1, g2⟩ := HR.out
              rw [wrd_alone (fun h => by rw [HAZ.out.2, HK.out, HZK.out] at h; rcases h.2 with h | h; (· rw [h] at hB; cases hB); (· rw [h] at hZ0; cases hZ0)) (fun h => by rw [HAZ.out.1] at h; omega)] at g1 g2
              rw [HAZ.out.1, HAZ.out.2] at g1 g2
              exact ⟨g1, g2⟩
            clear HR
            subst hA0
            obtain ⟨y2, hy2, Hy2⟩ := Hcell.out _ D1.out Z hlt
            go_wp2_with fail
            refine (refkind_go y2 false w1).mono ?_
            rintro e w2 ⟨rfl, hw2⟩
            rw [hw2, Hy2.out, HZK.out]
            clear hw2 w2 hy2 Hy2
            go_wp2_with fail
            all_goals (
              go_ret3
              rw [HR2.out.1, HR2.out.2]
              exact ⟨by first | rfl | (congr; omega), D1.out⟩)
          · obtain ⟨j, rfl⟩ : ∃ j, A = j + 1 := ⟨A - 1, by omega⟩
            have hj : (j : Int) + 1 > 0 := by omega
            have hjn : (j : Int) < (zs.length : Int) := by omega
            obtain ⟨J, hJ⟩ : ∃ J, J = kd zs false j := ⟨_, rfl⟩
            have HJ : Hid (kd zs false j = J) := hJ.symm
            clear hJ
            cases hL : J == 0 with
            | true =>
              have HR2 : Hid (R1 = rlo zs false j ∧ R2 = Z) := by
                obtain ⟨g1, g2⟩ := HR.out
                rw [wrd_left (fun h => by rw [HAZ.out.2, HK.out, HZK.out] at h; rcases h.2 with h | h; (· rw [h] at hB; cases hB); (· rw [h] at hZ0; cases hZ0)) (by rw [HK.out]; simpa using hB) (by rw [HAZ.out.1]; omega) (by rw [HAZ.out.1, Nat.add_sub_cancel, HJ.out]; simpa using hL)] at g1 g2
                rw [HAZ.out.1, HAZ.out.2] at g2
                rw [HAZ.out.1, Nat.add_sub_cancel] at g1
                exact ⟨g1, g2⟩
              clear HR
              obtain ⟨y2, hy2, Hy2⟩ := Hcell.out _ D1.out Z hlt
              obtain ⟨y3, hy3, Hy3⟩ := Hcell.out _ D1.out j (by omega)
              rw [HJ.out] at Hy3
              go_wp2_with fail
              refine (refkind_go y2 false w1).mono ?_
              rintro e w2 ⟨rfl, hw2⟩
              rw [hw2, Hy2.out, HZK.out]
              clear hw2 w2 hy2 Hy2
              go_wp2_with fail
              refine (refkind_go y3 false w1).mono ?_
              rintro e w2 ⟨rfl, hw2⟩
              rw [hw2, Hy3.out]
              clear hw2 w2 hy3 Hy3
              go_wp2_with fail
              refine (Hrun.out w1 D1.out _ j (by omega) (by omega)).mono ?_
              rintro e w4 ⟨rfl, D⟩
              have D4 : Hid (Drawn w w4) := D
              clear D
              go_wp2_with fail
              go_ret3
              rw [HR2.out.1, HR2.out.2]
              exact ⟨by first | rfl | (congr; omega), D4.out⟩
            | false =>
              have HR2 : Hid (R1 = (j + 1) ∧ R2 = Z) := by
                obtain ⟨g1, g2⟩ := HR.out
                rw [wrd_alone (fun h => by rw [HAZ.out.2, HK.out, HZK.out] at h; rcases h.2 with h | h; (· rw [h] at hB; cases hB); (· rw [h] at hZ0; cases hZ0)) (fun h => by rw [HAZ.out.1, Nat.add_sub_cancel, HJ.out] at h; rw [h.2.2] at hL; cases hL)] at g1 g2
                rw [HAZ.out.1, HAZ.out.2] at g1 g2
                exact ⟨g1, g2⟩
              clear HR
              obtain ⟨y2, hy2, Hy2⟩ := Hcell.out _ D1.out Z hlt
              obtain ⟨y3, hy3, Hy3⟩ := Hcell.out _ D1.out j (by omega)
              rw [HJ.out] at Hy3
              go_wp2_with fail
              refine (refkind_go y2 false w1).mono ?_
              rintro e w2 ⟨rfl, hw2⟩
              rw [hw2, Hy2.out, HZK.out]
              clear hw2 w2 hy2 Hy2
              go_wp2_with fail
              refine (refkind_go y3 false w1).mono ?_
              rintro e w2 ⟨rfl, hw2⟩
              rw [hw2, Hy3.out]
              clear hw2 w2 hy3 Hy3
              go_wp2_with fail
              go_ret3
              rw [HR2.out.1, HR2.out.2]
              exact ⟨by first | rfl | (congr; omega), D1.out⟩
    · have hI : (zs.length : Int) ≤ (Z : Int) := by omega
      cases hB : K == 0 with
      | true =>
        have HR2 : Hid (R1 = A ∧ R2 = Z) := by
          obtain ⟨g1, g2⟩ := HR.out
          rw [wrd_alone (fun h => by rw [HAZ.out.2] at h; omega) (fun h => h.1 (by rw [HK.out]; simpa using hB))] at g1 g2
          rw [HAZ.out.1, HAZ.out.2] at g1 g2
          exact ⟨g1, g2⟩
        clear HR
        go_wp2_with fail
        all_goals (
          go_ret3
          rw [HR2.out.1, HR2.out.2]
          exact ⟨by first | rfl | (congr; omega), D1.out⟩)
      | false =>
        by_cases hA0 : A = 0
        · have HR2 : Hid (R1 = A ∧ R2 = Z) := by
            obtain ⟨g1, g2⟩ := HR.out
            rw [wrd_alone (fun h => by rw [HAZ.out.2] at h; omega) (fun h => by rw [HAZ.out.1] at h; omega)] at g1 g2
            rw [HAZ.out.1, HAZ.out.2] at g1 g2
            exact ⟨g1, g2⟩
          clear HR
          subst hA0
          go_wp2_with fail
          all_goals (
            go_ret3
            rw [HR2.out.1, HR2.out.2]
            exact ⟨by first | rfl | (congr; omega), D1.out⟩)
        · obtain ⟨j, rfl⟩ : ∃ j, A = j + 1 := ⟨A - 1, by omega⟩
          have hj : (j : Int) + 1 > 0 := by omega
          have hjn : (j : Int) < (zs.length : Int) := by omega
          obtain ⟨J, hJ⟩ : ∃ J, J = kd zs false j := ⟨_, rfl⟩
          have HJ : Hid (kd zs false j = J) := hJ.symm
          clear hJ
          cases hL : J == 0 with
          | true =>
            have HR2 : Hid (R1 = rlo zs false j ∧ R2 = Z) := by
              obtain ⟨g1, g2⟩ := HR.out
              rw [wrd_left (fun h => by rw [HAZ.out.2] at h; omega) (by rw [HK.out]; simpa using hB) (by rw [HAZ.out.1]; omega) (by rw [HAZ.out.1, Nat.add_sub_cancel, HJ.out]; simpa using hL)] at g1 g2
              rw [HAZ.out.1, HAZ.out.2] at g2
              rw [HAZ.out.1, Nat.add_sub_cancel] at g1
              exact ⟨g1, g2⟩
            clear HR
            obtain ⟨y3, hy3, Hy3⟩ := Hcell.out _ D1.out j (by omega)
            rw [HJ.out] at Hy3
            go_wp2_with fail
            refine (refkind_go y3 false w1).mono ?_
            rintro e w2 ⟨rfl, hw2⟩
            rw [hw2, Hy3.out]
            clear hw2 w2 hy3 Hy3
            go_wp2_with fail
            refine (Hrun.out w1 D1.out _ j (by omega) (by omega)).mono ?_
            rintro e w4 ⟨rfl, D⟩
            have D4 : Hid (Drawn w w4) := D
            clear D
            go_wp2_with fail
            go_ret3
            rw [HR2.out.1, HR2.out.2]
            exact ⟨by first | rfl | (congr; omega), D4.out⟩
          | false =>
            have HR2 : Hid (R1 = (j + 1) ∧ R2 = Z) := by
              obtain ⟨g1, g2⟩ := HR.out
              rw [wrd_alone (fun h => by rw [HAZ.out.2] at h; omega) (fun h => by rw [HAZ.out.1, Nat.add_sub_cancel, HJ.out] at h; rw [h.2.2] at hL; cases hL)] at g1 g2
              rw [HAZ.out.1, HAZ.out.2] at g1 g2
              exact ⟨g1, g2⟩
            clear HR
            obtain ⟨y3, hy3, Hy3⟩ := Hcell.out _ D1.out j (by omega)
            rw [HJ.out] at Hy3
            go_wp2_with fail
            refine (refkind_go y3 false w1).mono ?_
            rintro e w2 ⟨rfl, hw2⟩
            rw [hw2, Hy3.out]
            clear hw2 w2 hy3 Hy3
            go_wp2_with fail
            go_ret3
            rw [HR2.out.1, HR2.out.2]
            exact ⟨by first | rfl | (congr; omega), D1.out⟩

set_option maxRecDepth 100000 in
set_option maxHeartbeats 8000000 in
theorem refword_87 (b off cap : Nat) (zs : List Int) (k : Nat) (ar : Bool) (w : World) (hk : k < zs.length) (hn : zs.length ≤ 4096)
    (hc : ∀ j, j < zs.length → w.cell? ⟨b, off + j, none⟩ = some (.int .i64 (zs.getD j 0))) :
    Calls Try.prog 7 #[.slice (some ⟨b, off, none⟩) zs.length cap, .int .i64 (k : Int), .bool ar, .int .i64 87] w fun e w' => e = .returned (.tuple #[.int .i64 ((wrd zs true ar k).1 : Int), .int .i64 ((wrd zs true ar k).2 : Int), .int .i64 0]) ∧ Drawn w w' := by
  obtain ⟨A, hA⟩ : ∃ A, A = rlo zs true k := ⟨_, rfl⟩
  obtain ⟨Z, hZ⟩ : ∃ Z, Z = rhi zs true k := ⟨_, rfl⟩
  obtain ⟨R1, h1⟩ : ∃ R1, R1 = (wrd zs true ar k).1 := ⟨_, rfl⟩
  obtain ⟨R2, h2⟩ : ∃ R2, R2 = (wrd zs true ar k).2 := ⟨_, rfl⟩
  rw [← h1, ← h2]
  obtain ⟨hA1, hZ1, hZ2, hrs⟩ := run_spec (b := true) hk
  rw [← hA] at hA1
  rw [← hZ] at hZ1 hZ2
  have Hrun : Hid (∀ w1, Drawn w w1 → ∀ x (i : Nat), x = (i : Int) → i < zs.length → Calls Try.prog 18 #[.slice (some ⟨b, off, none⟩) zs.length cap, .int .i64 x, .bool true] w1 fun e w' => e = .returned (.tuple #[.int .i64 (rlo zs true i : Int), .int .i64 (rhi zs true i : Int)]) ∧ Drawn w w') := by
    rintro w1 ⟨q, rfl⟩ x i hx hi
    refine (runOf_go b off cap zs x i true (w.drewN q) hx hi hn hc).mono ?_
    rintro e w' ⟨he, q2, rfl⟩
    exact ⟨he, q + q2, by rw [World.drewN_drewN]⟩
  have Hcell : Hid (∀ w1, Drawn w w1 → ∀ j, j < zs.length → ∃ y, w1.cell? ⟨b, off + j, none⟩ = some (.int .i64 y) ∧ Hid (kind y true = kd zs true j)) := by
    rintro w1 ⟨q, rfl⟩ j hj
    exact ⟨_, hc j hj, rfl⟩
  have hne : ((zs.length : Int) == 0) = false := by simp only [beq_eq_false_iff_ne]; omega
  have hkn : (k : Int) < (zs.length : Int) := by omega
  have HAZ : Hid (rlo zs true k = A ∧ rhi zs true k = Z) := ⟨hA.symm, hZ.symm⟩
  have HR : Hid (R1 = (wrd zs true ar k).1 ∧ R2 = (wrd zs true ar k).2) := ⟨h1, h2⟩
  obtain ⟨K, hK⟩ : ∃ K, K = kd zs true k := ⟨_, rfl⟩
  have HK : Hid (kd zs true k = K) := hK.symm
  clear hA hZ h1 h2 hc hK hrs
  cases ar with
  | false =>
    have HR2 : Hid (R1 = A ∧ R2 = Z) := by
      obtain ⟨g1, g2⟩ := HR.out
      rw [wrd_none, HAZ.out.1, HAZ.out.2] at g1 g2
      exact ⟨g1, g2⟩
    clear HR
    go_enter Try.func7, Try.ntmps7
    go_upto_region 3 with fail
    go_cut [37] from 26 to 37 (fun s37 wx => s37 = .bool false ∧ wx = w)
    case first =>
      by_cases hk0 : k = 0
      · subst hk0
        go_wp2_with fail
        go_meet
        exact ⟨rfl, rfl⟩
      · have hk1 : (0 : Int) < (k : Int) := by omega
        go_wp2_with fail
        go_meet
        exact ⟨by rw [decide_eq_false (by omega), decide_eq_false (by omega)]; rfl, rfl⟩
    case rest =>
    obtain ⟨rfl, hwc⟩ := hcut
    replace hwc := hwc.symm
    subst hwc
    go_wp2_with fail
    refine (Hrun.out w ⟨0, rfl⟩ _ k (by omega) hk).mono ?_
    rintro e w1 ⟨rfl, D⟩
    rw [HAZ.out.1, HAZ.out.2]
    have D1 : Hid (Drawn w w1) := D
    clear D
    obtain ⟨y, hy, Hy⟩ := Hcell.out _ D1.out k (by omega)
    go_wp2_with fail
    refine (refkind_go y true w1).mono ?_
    rintro e w2 ⟨rfl, hw2⟩
    rw [hw2, Hy.out, HK.out]
    clear hw2 w2 hy Hy
    cases hB : K == 0 with
    | true =>
      go_wp2_with fail
      go_ret3
      rw [HR2.out.1, HR2.out.2]
      exact ⟨by first | rfl | (congr; omega), D1.out⟩
    | false =>
      go_wp2_with fail
      go_ret3
      rw [HR2.out.1, HR2.out.2]
      exact ⟨by first | rfl | (congr; omega), D1.out⟩
  | true =>
    go_enter Try.func7, Try.ntmps7
    go_upto_region 3 with fail
    go_cut [37] from 26 to 37 (fun s37 wx => s37 = .bool false ∧ wx = w)
    case first =>
      by_cases hk0 : k = 0
      · subst hk0
        go_wp2_with fail
        go_meet
        exact ⟨rfl, rfl⟩
      · have hk1 : (0 : Int) < (k : Int) := by omega
        go_wp2_with fail
        go_meet
        exact ⟨by rw [decide_eq_false (by omega), decide_eq_false (by omega)]; rfl, rfl⟩
    case rest =>
    obtain ⟨rfl, hwc⟩ := hcut
    replace hwc := hwc.symm
    subst hwc
    go_wp2_with fail
    refine (Hrun.out w ⟨0, rfl⟩ _ k (by omega) hk).mono ?_
    rintro e w1 ⟨rfl, D⟩
    rw [HAZ.out.1, HAZ.out.2]
    have D1 : Hid (Drawn w w1) := D
    clear D
    obtain ⟨y, hy, Hy⟩ := Hcell.out _ D1.out k (by omega)
    go_wp2_with fail
    refine (refkind_go y true w1).mono ?_
    rintro e w2 ⟨rfl, hw2⟩
    rw [hw2, Hy.out, HK.out]
    clear hw2 w2 hy Hy
    by_cases hlt : Z < zs.length
    · have hI : (Z : Int) < (zs.length : Int) := by omega
      cases hB : K == 0 with
      | true =>
        have HR2 : Hid (R1 = A ∧ R2 = rhi zs true Z) := by
          obtain ⟨g1, g2⟩ := HR.out
          rw [wrd_right (by rw [HAZ.out.2]; exact hlt) (.inl (by rw [HK.out]; simpa using hB))] at g1 g2
          rw [HAZ.out.1, HAZ.out.2] at g1 g2
          exact ⟨g1, g2⟩
        clear HR
        go_wp2_with fail
        refine (Hrun.out w1 D1.out _ Z (by omega) hlt).mono ?_
        rintro e w4 ⟨rfl, D⟩
        have D4 : Hid (Drawn w w4) := D
        clear D
        go_wp2_with fail
        go_ret3
        rw [HR2.out.1, HR2.out.2]
        exact ⟨by first | rfl | (congr; omega), D4.out⟩
      | false =>
        obtain ⟨KZ, hKZ⟩ : ∃ KZ, KZ = kd zs true Z := ⟨_, rfl⟩
        have HZK : Hid (kd zs true Z = KZ) := hKZ.symm
        clear hKZ
        cases hZ0 : KZ == 0 with
        | true =>
          have HR2 : Hid (R1 = A ∧ R2 = rhi zs true Z) := by
            obtain ⟨g1, g2⟩ := HR.out
            rw [wrd_right (by rw [HAZ.out.2]; exact hlt) (.inr (by rw [HAZ.out.2, HZK.out]; simpa using hZ0))] at g1 g2
            rw [HAZ.out.1, HAZ.out.2] at g1 g2
            exact ⟨g1, g2⟩
          clear HR
          obtain ⟨y2, hy2, Hy2⟩ := Hcell.out _ D1.out Z hlt
          go_wp2_with fail
          refine (refkind_go y2 true w1).mono ?_
          rintro e w2 ⟨rfl, hw2⟩
          rw [hw2, Hy2.out, HZK.out]
          clear hw2 w2 hy2 Hy2
          go_wp2_with fail
          refine (Hrun.out w1 D1.out _ Z (by omega) hlt).mono ?_
          rintro e w4 ⟨rfl, D⟩
          have D4 : Hid (Drawn w w4) := D
          clear D
          go_wp2_with fail
          go_ret3
          rw [HR2.out.1, HR2.out.2]
          exact ⟨by first | rfl | (congr; omega), D4.out⟩
        | false =>
          by_cases hA0 : A = 0
          · have HR2 : Hid (R1 = A ∧ R2 = Z) := by
              obtain ⟨g1, g2⟩ := HR.out
              rw [wrd_alone (fun h => by rw [HAZ.out.2, HK.out, HZK.out] at h; rcases h.2 with h | h; (· rw [h] at hB; cases hB); (· rw [h] at hZ0; cases hZ0)) (fun h => by rw [HAZ.out.1] at h; omega)] at g1 g2
              rw [HAZ.out.1, HAZ.out.2] at g1 g2
              exact ⟨g1, g2⟩
            clear HR
            subst hA0
            obtain ⟨y2, hy2, Hy2⟩ := Hcell.out _ D1.out Z hlt
            go_wp2_with fail
            refine (refkind_go y2 true w1).mono ?_
            rintro e w2 ⟨rfl, hw2⟩
            rw [hw2, Hy2.out, HZK.out]
            clear hw2 w2 hy2 Hy2
            go_wp2_with fail
            all_goals (
              go_ret3
              rw [HR2.out.1, HR2.out.2]
              exact ⟨by first | rfl | (congr; omega), D1.out⟩)
          · obtain ⟨j, rfl⟩ : ∃ j, A = j + 1 := ⟨A - 1, by omega⟩
            have hj : (j : Int) + 1 > 0 := by omega
            have hjn : (j : Int) < (zs.length : Int) := by omega
            obtain ⟨J, hJ⟩ : ∃ J, J = kd zs true j := ⟨_, rfl⟩
            have HJ : Hid (kd zs true j = J) := hJ.symm
            clear hJ
            cases hL : J == 0 with
            | true =>
              have HR2 : Hid (R1 = rlo zs true j ∧ R2 = Z) := by
                obtain ⟨g1, g2⟩ := HR.out
                rw [wrd_left (fun h => by rw [HAZ.out.2, HK.out, HZK.out] at h; rcases h.2 with h | h; (· rw [h] at hB; cases hB); (· rw [h] at hZ0; cases hZ0)) (by rw [HK.out]; simpa using hB) (by rw [HAZ.out.1]; omega) (by rw [HAZ.out.1, Nat.add_sub_cancel, HJ.out]; simpa using hL)] at g1 g2
                rw [HAZ.out.1, HAZ.out.2] at g2
                rw [HAZ.out.1, Nat.add_sub_cancel] at g1
                exact ⟨g1, g2⟩
              clear HR
              obtain ⟨y2, hy2, Hy2⟩ := Hcell.out _ D1.out Z hlt
              obtain ⟨y3, hy3, Hy3⟩ := Hcell.out _ D1.out j (by omega)
              rw [HJ.out] at Hy3
              go_wp2_with fail
              refine (refkind_go y2 true w1).mono ?_
              rintro e w2 ⟨rfl, hw2⟩
              rw [hw2, Hy2.out, HZK.out]
              clear hw2 w2 hy2 Hy2
              go_wp2_with fail
              refine (refkind_go y3 true w1).mono ?_
              rintro e w2 ⟨rfl, hw2⟩
              rw [hw2, Hy3.out]
              clear hw2 w2 hy3 Hy3
              go_wp2_with fail
              refine (Hrun.out w1 D1.out _ j (by omega) (by omega)).mono ?_
              rintro e w4 ⟨rfl, D⟩
              have D4 : Hid (Drawn w w4) := D
              clear D
              go_wp2_with fail
              go_ret3
              rw [HR2.out.1, HR2.out.2]
              exact ⟨by first | rfl | (congr; omega), D4.out⟩
            | false =>
              have HR2 : Hid (R1 = (j + 1) ∧ R2 = Z) := by
                obtain ⟨g1, g2⟩ := HR.out
                rw [wrd_alone (fun h => by rw [HAZ.out.2, HK.out, HZK.out] at h; rcases h.2 with h | h; (· rw [h] at hB; cases hB); (· rw [h] at hZ0; cases hZ0)) (fun h => by rw [HAZ.out.1, Nat.add_sub_cancel, HJ.out] at h; rw [h.2.2] at hL; cases hL)] at g1 g2
                rw [HAZ.out.1, HAZ.out.2] at g1 g2
                exact ⟨g1, g2⟩
              clear HR
              obtain ⟨y2, hy2, Hy2⟩ := Hcell.out _ D1.out Z hlt
              obtain ⟨y3, hy3, Hy3⟩ := Hcell.out _ D1.out j (by omega)
              rw [HJ.out] at Hy3
              go_wp2_with fail
              refine (refkind_go y2 true w1).mono ?_
              rintro e w2 ⟨rfl, hw2⟩
              rw [hw2, Hy2.out, HZK.out]
              clear hw2 w2 hy2 Hy2
              go_wp2_with fail
              refine (refkind_go y3 true w1).mono ?_
              rintro e w2 ⟨rfl, hw2⟩
              rw [hw2, Hy3.out]
              clear hw2 w2 hy3 Hy3
              go_wp2_with fail
              go_ret3
              rw [HR2.out.1, HR2.out.2]
              exact ⟨by first | rfl | (congr; omega), D1.out⟩
    · have hI : (zs.length : Int) ≤ (Z : Int) := by omega
      cases hB : K == 0 with
      | true =>
        have HR2 : Hid (R1 = A ∧ R2 = Z) := by
          obtain ⟨g1, g2⟩ := HR.out
          rw [wrd_alone (fun h => by rw [HAZ.out.2] at h; omega) (fun h => h.1 (by rw [HK.out]; simpa using hB))] at g1 g2
          rw [HAZ.out.1, HAZ.out.2] at g1 g2
          exact ⟨g1, g2⟩
        clear HR
        go_wp2_with fail
        all_goals (
          go_ret3
          rw [HR2.out.1, HR2.out.2]
          exact ⟨by first | rfl | (congr; omega), D1.out⟩)
      | false =>
        by_cases hA0 : A = 0
        · have HR2 : Hid (R1 = A ∧ R2 = Z) := by
            obtain ⟨g1, g2⟩ := HR.out
            rw [wrd_alone (fun h => by rw [HAZ.out.2] at h; omega) (fun h => by rw [HAZ.out.1] at h; omega)] at g1 g2
            rw [HAZ.out.1, HAZ.out.2] at g1 g2
            exact ⟨g1, g2⟩
          clear HR
          subst hA0
          go_wp2_with fail
          all_goals (
            go_ret3
            rw [HR2.out.1, HR2.out.2]
            exact ⟨by first | rfl | (congr; omega), D1.out⟩)
        · obtain ⟨j, rfl⟩ : ∃ j, A = j + 1 := ⟨A - 1, by omega⟩
          have hj : (j : Int) + 1 > 0 := by omega
          have hjn : (j : Int) < (zs.length : Int) := by omega
          obtain ⟨J, hJ⟩ : ∃ J, J = kd zs true j := ⟨_, rfl⟩
          have HJ : Hid (kd zs true j = J) := hJ.symm
          clear hJ
          cases hL : J == 0 with
          | true =>
            have HR2 : Hid (R1 = rlo zs true j ∧ R2 = Z) := by
              obtain ⟨g1, g2⟩ := HR.out
              rw [wrd_left (fun h => by rw [HAZ.out.2] at h; omega) (by rw [HK.out]; simpa using hB) (by rw [HAZ.out.1]; omega) (by rw [HAZ.out.1, Nat.add_sub_cancel, HJ.out]; simpa using hL)] at g1 g2
              rw [HAZ.out.1, HAZ.out.2] at g2
              rw [HAZ.out.1, Nat.add_sub_cancel] at g1
              exact ⟨g1, g2⟩
            clear HR
            obtain ⟨y3, hy3, Hy3⟩ := Hcell.out _ D1.out j (by omega)
            rw [HJ.out] at Hy3
            go_wp2_with fail
            refine (refkind_go y3 true w1).mono ?_
            rintro e w2 ⟨rfl, hw2⟩
            rw [hw2, Hy3.out]
            clear hw2 w2 hy3 Hy3
            go_wp2_with fail
            refine (Hrun.out w1 D1.out _ j (by omega) (by omega)).mono ?_
            rintro e w4 ⟨rfl, D⟩
            have D4 : Hid (Drawn w w4) := D
            clear D
            go_wp2_with fail
            go_ret3
            rw [HR2.out.1, HR2.out.2]
            exact ⟨by first | rfl | (congr; omega), D4.out⟩
          | false =>
            have HR2 : Hid (R1 = (j + 1) ∧ R2 = Z) := by
              obtain ⟨g1, g2⟩ := HR.out
              rw [wrd_alone (fun h => by rw [HAZ.out.2] at h; omega) (fun h => by rw [HAZ.out.1, Nat.add_sub_cancel, HJ.out] at h; rw [h.2.2] at hL; cases hL)] at g1 g2
              rw [HAZ.out.1, HAZ.out.2] at g1 g2
              exact ⟨g1, g2⟩
            clear HR
            obtain ⟨y3, hy3, Hy3⟩ := Hcell.out _ D1.out j (by omega)
            rw [HJ.out] at Hy3
            go_wp2_with fail
            refine (refkind_go y3 true w1).mono ?_
            rintro e w2 ⟨rfl, hw2⟩
            rw [hw2, Hy3.out]
            clear hw2 w2 hy3 Hy3
            go_wp2_with fail
            go_ret3
            rw [HR2.out.1, HR2.out.2]
            exact ⟨by first | rfl | (congr; omega), D1.out⟩
end Go.Proofs.Ytcmcaifcncabgaa.Seek
