/- The contract of the document's PartErr. -/
import Derived.Test.YtjpgjhdkgmddfaaCheck
import Derived.Deep.DeepCutAuto
set_option linter.unusedVariables false
set_option linter.unusedSimpArgs false
namespace Go.Proofs.Ytjpgjhdkgmddfaa.Seek
open Go.RowKit Plain

set_option maxHeartbeats 4000000 in
set_option maxRecDepth 100000 in
theorem partErr_go (f r o s t : Int) (w : World) : Calls Try.prog 5 #[.agg #[.int .i64 f, .int .i64 r, .int .i64 o, .int .i64 s, .int .i64 t]] w fun e w' => e = .returned (.int .i64 (pchk f r o s t)) ∧ Below w.heap.size w w' := by
  obtain ⟨x, hx⟩ : ∃ x, x = pchk f r o s t := ⟨_, rfl⟩
  rw [← hx]
  obtain ⟨bc, hbc⟩ : ∃ b, b = (count f && count s && (!(o == 0) || s == 0)) := ⟨_, rfl⟩
  obtain ⟨bn, hbn⟩ : ∃ b, b = ((r == 0 || letter r) && (o == 0 || has ops o)) := ⟨_, rfl⟩
  obtain ⟨bw, hbw⟩ : ∃ b, b = waits r o t := ⟨_, rfl⟩
  have HX : Hid (x = if (bc && (bn && bw)) = true then 0 else 1) := by
    show x = _
    rw [hx, hbc, hbn, hbw]
    unfold pchk right
    simp only [Bool.and_assoc]
  have HC : Hid (bc = true ↔ ((0 ≤ f ∧ f ≤ 999) ∧ (0 ≤ s ∧ s ≤ 999)) ∧ (o ≠ 0 ∨ s = 0)) := by
    show bc = true ↔ _
    rw [hbc]
    unfold count
    simp only [Bool.and_eq_true, decide_eq_true_eq, Bool.or_eq_true, Bool.not_eq_true', beq_eq_false_iff_ne, beq_iff_eq, ne_eq]
  have HN : Hid (bn = ((r == 0 || letter r) && (o == 0 || has ops o))) := hbn
  have HW : Hid (bw = decide (t = 0 ∨ t = 102 ∨ t = 70 ∨ t = 116 ∨ t = 84 ∨ (t = 114 ∧ o = 0) ∨ (t = 34 ∧ o = 0 ∧ r = 0) ∨ ((t = 105 ∨ t = 97) ∧ o ≠ 0))) := hbw
  clear hx hbc hbn hbw
  go_enter Try.func5, Try.ntmps5
  go_upto_region 1 with fail
  have HO1 : Hid (One w _ (f, r, o, s, t)) := one_new w f r o s t
  generalize w.alloc (.cells #[.int .i64 f, .int .i64 r, .int .i64 o, .int .i64 s, .int .i64 t] 23) = w1 at *
  go_cut [3] from 6 to 33 (fun s3 wx => s3 = .bool bc ∧ wx = w1)
  case first =>
    clear HX HN HW
    by_cases ho : o = 0
    · subst ho
      obtain ⟨c0, c1, c2, c3, c4⟩ : w1.cell? ⟨w.heap.size, 0, none⟩ = some (.int .i64 f) ∧ w1.cell? ⟨w.heap.size, 1, none⟩ = some (.int .i64 r) ∧ w1.cell? ⟨w.heap.size, 2, none⟩ = some (.int .i64 0) ∧ w1.cell? ⟨w.heap.size, 3, none⟩ = some (.int .i64 s) ∧ w1.cell? ⟨w.heap.size, 4, none⟩ = some (.int .i64 t) := ⟨HO1.out.1.c0, HO1.out.1.c1, HO1.out.1.c2, HO1.out.1.c3, HO1.out.1.c4⟩
      go_wp2_with fail
      all_goals (
        go_meet
        case rel =>
          refine ⟨congrArg Value.bool ?_, rfl⟩
          rw [Bool.eq_iff_iff, HC.out]
          first | (simp only [decide_eq_true_eq, Bool.false_eq_true, Bool.or_eq_true, bne_iff_ne, ne_eq, beq_iff_eq, eq_self_iff_true, true_iff, false_iff]; omega) | (simp; omega))
    · have ho2 : (o != 0) = true := by simpa using ho
      obtain ⟨c0, c1, c2, c3, c4⟩ : w1.cell? ⟨w.heap.size, 0, none⟩ = some (.int .i64 f) ∧ w1.cell? ⟨w.heap.size, 1, none⟩ = some (.int .i64 r) ∧ w1.cell? ⟨w.heap.size, 2, none⟩ = some (.int .i64 o) ∧ w1.cell? ⟨w.heap.size, 3, none⟩ = some (.int .i64 s) ∧ w1.cell? ⟨w.heap.size, 4, none⟩ = some (.int .i64 t) := ⟨HO1.out.1.c0, HO1.out.1.c1, HO1.out.1.c2, HO1.out.1.c3, HO1.out.1.c4⟩
      go_wp2_with fail
      all_goals (
        go_meet
        case rel =>
          refine ⟨congrArg Value.bool ?_, rfl⟩
          rw [Bool.eq_iff_iff, HC.out]
          first | (simp only [decide_eq_true_eq, Bool.false_eq_true, Bool.or_eq_true, bne_iff_ne, ne_eq, beq_iff_eq, eq_self_iff_true, true_iff, false_iff]; omega) | (simp; omega))
  case rest =>
    obtain ⟨hs3, hwx⟩ := hcut
    subst hs3
    subst hwx
    clear HC
    go_upto_region 2 with fail
    go_cut [4] from 34 to 51 (fun s4 wx => s4 = .bool bn ∧ Hid (One w wx (f, r, o, s, t)))
    case first =>
      clear HX HW
      by_cases hr : r = 0
      case pos =>
        subst hr
        by_cases ho : o = 0
        · subst ho
          have hbn : bn = true := by rw [HN.out]; rfl
          subst hbn
          clear HN
          obtain ⟨c0, c1, c2, c3, c4⟩ : wc.cell? ⟨w.heap.size, 0, none⟩ = some (.int .i64 f) ∧ wc.cell? ⟨w.heap.size, 1, none⟩ = some (.int .i64 0) ∧ wc.cell? ⟨w.heap.size, 2, none⟩ = some (.int .i64 0) ∧ wc.cell? ⟨w.heap.size, 3, none⟩ = some (.int .i64 s) ∧ wc.cell? ⟨w.heap.size, 4, none⟩ = some (.int .i64 t) := ⟨HO1.out.1.c0, HO1.out.1.c1, HO1.out.1.c2, HO1.out.1.c3, HO1.out.1.c4⟩
          go_wp2_with fail
          go_meet
          case rel => exact ⟨rfl, HO1⟩
        · have ho2 : (o == 0) = false := by simpa using ho
          clear ho
          cases hop : has ops o
          case false =>
            have hbn : bn = false := by rw [HN.out, ho2, hop]; rfl
            subst hbn
            clear HN
            obtain ⟨c0, c1, c2, c3, c4⟩ : wc.cell? ⟨w.heap.size, 0, none⟩ = some (.int .i64 f) ∧ wc.cell? ⟨w.heap.size, 1, none⟩ = some (.int .i64 0) ∧ wc.cell? ⟨w.heap.size, 2, none⟩ = some (.int .i64 o) ∧ wc.cell? ⟨w.heap.size, 3, none⟩ = some (.int .i64 s) ∧ wc.cell? ⟨w.heap.size, 4, none⟩ = some (.int .i64 t) := ⟨HO1.out.1.c0, HO1.out.1.c1, HO1.out.1.c2, HO1.out.1.c3, HO1.out.1.c4⟩
            go_wp2_with fail
            refine (in_go ⟨#[100, 99, 121]⟩ o false _ (by decide) hop).mono ?_
            rintro e w2 ⟨rfl, hb⟩
            have HO2 : Hid (One w w2 (f, 0, o, s, t)) := HO1.out.below hb
            clear hb HO1 c0 c1 c2 c3 c4
            go_wp2_with fail
            go_meet
            case rel => exact ⟨rfl, HO2⟩
          case true =>
            have hbn : bn = true := by rw [HN.out, ho2, hop]; rfl
            subst hbn
            clear HN
            obtain ⟨c0, c1, c2, c3, c4⟩ : wc.cell? ⟨w.heap.size, 0, none⟩ = some (.int .i64 f) ∧ wc.cell? ⟨w.heap.size, 1, none⟩ = some (.int .i64 0) ∧ wc.cell? ⟨w.heap.size, 2, none⟩ = some (.int .i64 o) ∧ wc.cell? ⟨w.heap.size, 3, none⟩ = some (.int .i64 s) ∧ wc.cell? ⟨w.heap.size, 4, none⟩ = some (.int .i64 t) := ⟨HO1.out.1.c0, HO1.out.1.c1, HO1.out.1.c2, HO1.out.1.c3, HO1.out.1.c4⟩
            go_wp2_with fail
            refine (in_go ⟨#[100, 99, 121]⟩ o true _ (by decide) hop).mono ?_
            rintro e w2 ⟨rfl, hb⟩
            have HO2 : Hid (One w w2 (f, 0, o, s, t)) := HO1.out.below hb
            clear hb HO1 c0 c1 c2 c3 c4
            go_wp2_with fail
            go_meet
            case rel => exact ⟨rfl, HO2⟩
      case neg =>
        have hr2 : (r == 0) = false := by simpa using hr
        clear hr
        cases hlr : letter r
        case false =>
          have HLR : Hid (letter r = false) := hlr
          clear hlr
          have hbn : bn = false := by rw [HN.out, hr2, HLR.out]; rfl
          subst hbn
          clear HN
          obtain ⟨c0, c1, c2, c3, c4⟩ : wc.cell? ⟨w.heap.size, 0, none⟩ = some (.int .i64 f) ∧ wc.cell? ⟨w.heap.size, 1, none⟩ = some (.int .i64 r) ∧ wc.cell? ⟨w.heap.size, 2, none⟩ = some (.int .i64 o) ∧ wc.cell? ⟨w.heap.size, 3, none⟩ = some (.int .i64 s) ∧ wc.cell? ⟨w.heap.size, 4, none⟩ = some (.int .i64 t) := ⟨HO1.out.1.c0, HO1.out.1.c1, HO1.out.1.c2, HO1.out.1.c3, HO1.out.1.c4⟩
          go_wp2_with fail
          refine (refLetter_go r _).mono ?_
          rintro e w' ⟨rfl, rfl⟩
          rw [HLR.out]
          go_wp2_with fail
          go_meet
          case rel => exact ⟨rfl, HO1⟩
        case true =>
          have HLR : Hid (letter r = true) := hlr
          clear hlr
          by_cases ho : o = 0
          · subst ho
            have hbn : bn = true := by rw [HN.out, hr2, HLR.out]; rfl
            subst hbn
            clear HN
            obtain ⟨c0, c1, c2, c3, c4⟩ : wc.cell? ⟨w.heap.size, 0, none⟩ = some (.int .i64 f) ∧ wc.cell? ⟨w.heap.size, 1, none⟩ = some (.int .i64 r) ∧ wc.cell? ⟨w.heap.size, 2, none⟩ = some (.int .i64 0) ∧ wc.cell? ⟨w.heap.size, 3, none⟩ = some (.int .i64 s) ∧ wc.cell? ⟨w.heap.size, 4, none⟩ = some (.int .i64 t) := ⟨HO1.out.1.c0, HO1.out.1.c1, HO1.out.1.c2, HO1.out.1.c3, HO1.out.1.c4⟩
            go_wp2_with fail
            refine (refLetter_go r _).mono ?_
            rintro e w' ⟨rfl, rfl⟩
            rw [HLR.out]
            go_wp2_with fail
            go_meet
            case rel => exact ⟨rfl, HO1⟩
          · have ho2 : (o == 0) = false := by simpa using ho
            clear ho
            cases hop : has ops o
            case false =>
              have hbn : bn = false := by rw [HN.out, hr2, HLR.out, ho2, hop]; rfl
              subst hbn
              clear HN
              obtain ⟨c0, c1, c2, c3, c4⟩ : wc.cell? ⟨w.heap.size, 0, none⟩ = some (.int .i64 f) ∧ wc.cell? ⟨w.heap.size, 1, none⟩ = some (.int .i64 r) ∧ wc.cell? ⟨w.heap.size, 2, none⟩ = some (.int .i64 o) ∧ wc.cell? ⟨w.heap.size, 3, none⟩ = some (.int .i64 s) ∧ wc.cell? ⟨w.heap.size, 4, none⟩ = some (.int .i64 t) := ⟨HO1.out.1.c0, HO1.out.1.c1, HO1.out.1.c2, HO1.out.1.c3, HO1.out.1.c4⟩
              go_wp2_with fail
              refine (refLetter_go r _).mono ?_
              rintro e w' ⟨rfl, rfl⟩
              rw [HLR.out]
              go_wp2_with fail
              refine (in_go ⟨#[100, 99, 121]⟩ o false _ (by decide) hop).mono ?_
              rintro e w2 ⟨rfl, hb⟩
              have HO2 : Hid (One w w2 (f, r, o, s, t)) := HO1.out.below hb
              clear hb HO1 c0 c1 c2 c3 c4
              go_wp2_with fail
              go_meet
              case rel => exact ⟨rfl, HO2⟩
            case true =>
              have hbn : bn = true := by rw [HN.out, hr2, HLR.out, ho2, hop]; rfl
              subst hbn
              clear HN
              obtain ⟨c0, c1, c2, c3, c4⟩ : wc.cell? ⟨w.heap.size, 0, none⟩ = some (.int .i64 f) ∧ wc.cell? ⟨w.heap.size, 1, none⟩ = some (.int .i64 r) ∧ wc.cell? ⟨w.heap.size, 2, none⟩ = some (.int .i64 o) ∧ wc.cell? ⟨w.heap.size, 3, none⟩ = some (.int .i64 s) ∧ wc.cell? ⟨w.heap.size, 4, none⟩ = some (.int .i64 t) := ⟨HO1.out.1.c0, HO1.out.1.c1, HO1.out.1.c2, HO1.out.1.c3, HO1.out.1.c4⟩
              go_wp2_with fail
              refine (refLetter_go r _).mono ?_
              rintro e w' ⟨rfl, rfl⟩
              rw [HLR.out]
              go_wp2_with fail
              refine (in_go ⟨#[100, 99, 121]⟩ o true _ (by decide) hop).mono ?_
              rintro e w2 ⟨rfl, hb⟩
              have HO2 : Hid (One w w2 (f, r, o, s, t)) := HO1.out.below hb
              clear hb HO1 c0 c1 c2 c3 c4
              go_wp2_with fail
              go_meet
              case rel => exact ⟨rfl, HO2⟩
    case rest =>
      obtain ⟨hs4, HO2⟩ := hcut
      subst hs4
      clear HN HO1
      go_upto_region 3 with fail
      go_cut [5] from 52 to 94 (fun s5 wx => s5 = .bool bw ∧ Hid (One w wx (f, r, o, s, t)))
      case first =>
        clear HX
        by_cases h : t = 0 ∨ t = 102 ∨ t = 70 ∨ t = 116 ∨ t = 84 ∨ t = 114 ∨ t = 34 ∨ t = 105 ∨ t = 97
        case pos =>
          rcases h with rfl | rfl | rfl | rfl | rfl | rfl | rfl | rfl | rfl
          · skip
            have hbw : bw = true := by rw [HW.out]; first | exact decide_eq_true (by omega) | exact decide_eq_false (by omega)
            subst hbw
            clear HW
            obtain ⟨c0, c1, c2, c3, c4⟩ : wc.cell? ⟨w.heap.size, 0, none⟩ = some (.int .i64 f) ∧ wc.cell? ⟨w.heap.size, 1, none⟩ = some (.int .i64 r) ∧ wc.cell? ⟨w.heap.size, 2, none⟩ = some (.int .i64 o) ∧ wc.cell? ⟨w.heap.size, 3, none⟩ = some (.int .i64 s) ∧ wc.cell? ⟨w.heap.size, 4, none⟩ = some (.int .i64 0) := ⟨HO2.out.1.c0, HO2.out.1.c1, HO2.out.1.c2, HO2.out.1.c3, HO2.out.1.c4⟩
            go_wp2_with fail
            go_meet
            case rel => exact ⟨rfl, HO2⟩
          · skip
            have hbw : bw = true := by rw [HW.out]; first | exact decide_eq_true (by omega) | exact decide_eq_false (by omega)
            subst hbw
            clear HW
            obtain ⟨c0, c1, c2, c3, c4⟩ : wc.cell? ⟨w.heap.size, 0, none⟩ = some (.int .i64 f) ∧ wc.cell? ⟨w.heap.size, 1, none⟩ = some (.int .i64 r) ∧ wc.cell? ⟨w.heap.size, 2, none⟩ = some (.int .i64 o) ∧ wc.cell? ⟨w.heap.size, 3, none⟩ = some (.int .i64 s) ∧ wc.cell? ⟨w.heap.size, 4, none⟩ = some (.int .i64 102) := ⟨HO2.out.1.c0, HO2.out.1.c1, HO2.out.1.c2, HO2.out.1.c3, HO2.out.1.c4⟩
            go_wp2_with fail
            refine (in_go ⟨#[102, 70, 116, 84]⟩ 102 true _ (by decide) (by decide)).mono ?_
            rintro e y3 ⟨rfl, hb⟩
            have HO3 : Hid (One w y3 (f, r, o, s, 102)) := HO2.out.below hb
            clear hb HO2 c0 c1 c2 c3 c4
            obtain ⟨c0, c1, c2, c3, c4⟩ : y3.cell? ⟨w.heap.size, 0, none⟩ = some (.int .i64 f) ∧ y3.cell? ⟨w.heap.size, 1, none⟩ = some (.int .i64 r) ∧ y3.cell? ⟨w.heap.size, 2, none⟩ = some (.int .i64 o) ∧ y3.cell? ⟨w.heap.size, 3, none⟩ = some (.int .i64 s) ∧ y3.cell? ⟨w.heap.size, 4, none⟩ = some (.int .i64 102) := ⟨HO3.out.1.c0, HO3.out.1.c1, HO3.out.1.c2, HO3.out.1.c3, HO3.out.1.c4⟩
            go_wp2_with fail
            go_meet
            case rel => exact ⟨rfl, HO3⟩
          · skip
            have hbw : bw = true := by rw [HW.out]; first | exact decide_eq_true (by omega) | exact decide_eq_false (by omega)
            subst hbw
            clear HW
            obtain ⟨c0, c1, c2, c3, c4⟩ : wc.cell? ⟨w.heap.size, 0, none⟩ = some (.int .i64 f) ∧ wc.cell? ⟨w.heap.size, 1, none⟩ = some (.int .i64 r) ∧ wc.cell? ⟨w.heap.size, 2, none⟩ = some (.int .i64 o) ∧ wc.cell? ⟨w.heap.size, 3, none⟩ = some (.int .i64 s) ∧ wc.cell? ⟨w.heap.size, 4, none⟩ = some (.int .i64 70) := ⟨HO2.out.1.c0, HO2.out.1.c1, HO2.out.1.c2, HO2.out.1.c3, HO2.out.1.c4⟩
            go_wp2_with fail
            refine (in_go ⟨#[102, 70, 116, 84]⟩ 70 true _ (by decide) (by decide)).mono ?_
            rintro e y3 ⟨rfl, hb⟩
            have HO3 : Hid (One w y3 (f, r, o, s, 70)) := HO2.out.below hb
            clear hb HO2 c0 c1 c2 c3 c4
            obtain ⟨c0, c1, c2, c3, c4⟩ : y3.cell? ⟨w.heap.size, 0, none⟩ = some (.int .i64 f) ∧ y3.cell? ⟨w.heap.size, 1, none⟩ = some (.int .i64 r) ∧ y3.cell? ⟨w.heap.size, 2, none⟩ = some (.int .i64 o) ∧ y3.cell? ⟨w.heap.size, 3, none⟩ = some (.int .i64 s) ∧ y3.cell? ⟨w.heap.size, 4, none⟩ = some (.int .i64 70) := ⟨HO3.out.1.c0, HO3.out.1.c1, HO3.out.1.c2, HO3.out.1.c3, HO3.out.1.c4⟩
            go_wp2_with fail
            go_meet
            case rel => exact ⟨rfl, HO3⟩
          · skip
            have hbw : bw = true := by rw [HW.out]; first | exact decide_eq_true (by omega) | exact decide_eq_false (by omega)
            subst hbw
            clear HW
            obtain ⟨c0, c1, c2, c3, c4⟩ : wc.cell? ⟨w.heap.size, 0, none⟩ = some (.int .i64 f) ∧ wc.cell? ⟨w.heap.size, 1, none⟩ = some (.int .i64 r) ∧ wc.cell? ⟨w.heap.size, 2, none⟩ = some (.int .i64 o) ∧ wc.cell? ⟨w.heap.size, 3, none⟩ = some (.int .i64 s) ∧ wc.cell? ⟨w.heap.size, 4, none⟩ = some (.int .i64 116) := ⟨HO2.out.1.c0, HO2.out.1.c1, HO2.out.1.c2, HO2.out.1.c3, HO2.out.1.c4⟩
            go_wp2_with fail
            refine (in_go ⟨#[102, 70, 116, 84]⟩ 116 true _ (by decide) (by decide)).mono ?_
            rintro e y3 ⟨rfl, hb⟩
            have HO3 : Hid (One w y3 (f, r, o, s, 116)) := HO2.out.below hb
            clear hb HO2 c0 c1 c2 c3 c4
            obtain ⟨c0, c1, c2, c3, c4⟩ : y3.cell? ⟨w.heap.size, 0, none⟩ = some (.int .i64 f) ∧ y3.cell? ⟨w.heap.size, 1, none⟩ = some (.int .i64 r) ∧ y3.cell? ⟨w.heap.size, 2, none⟩ = some (.int .i64 o) ∧ y3.cell? ⟨w.heap.size, 3, none⟩ = some (.int .i64 s) ∧ y3.cell? ⟨w.heap.size, 4, none⟩ = some (.int .i64 116) := ⟨HO3.out.1.c0, HO3.out.1.c1, HO3.out.1.c2, HO3.out.1.c3, HO3.out.1.c4⟩
            go_wp2_with fail
            go_meet
            case rel => exact ⟨rfl, HO3⟩
          · skip
            have hbw : bw = true := by rw [HW.out]; first | exact decide_eq_true (by omega) | exact decide_eq_false (by omega)
            subst hbw
            clear HW
            obtain ⟨c0, c1, c2, c3, c4⟩ : wc.cell? ⟨w.heap.size, 0, none⟩ = some (.int .i64 f) ∧ wc.cell? ⟨w.heap.size, 1, none⟩ = some (.int .i64 r) ∧ wc.cell? ⟨w.heap.size, 2, none⟩ = some (.int .i64 o) ∧ wc.cell? ⟨w.heap.size, 3, none⟩ = some (.int .i64 s) ∧ wc.cell? ⟨w.heap.size, 4, none⟩ = some (.int .i64 84) := ⟨HO2.out.1.c0, HO2.out.1.c1, HO2.out.1.c2, HO2.out.1.c3, HO2.out.1.c4⟩
            go_wp2_with fail
            refine (in_go ⟨#[102, 70, 116, 84]⟩ 84 true _ (by decide) (by decide)).mono ?_
            rintro e y3 ⟨rfl, hb⟩
            have HO3 : Hid (One w y3 (f, r, o, s, 84)) := HO2.out.below hb
            clear hb HO2 c0 c1 c2 c3 c4
            obtain ⟨c0, c1, c2, c3, c4⟩ : y3.cell? ⟨w.heap.size, 0, none⟩ = some (.int .i64 f) ∧ y3.cell? ⟨w.heap.size, 1, none⟩ = some (.int .i64 r) ∧ y3.cell? ⟨w.heap.size, 2, none⟩ = some (.int .i64 o) ∧ y3.cell? ⟨w.heap.size, 3, none⟩ = some (.int .i64 s) ∧ y3.cell? ⟨w.heap.size, 4, none⟩ = some (.int .i64 84) := ⟨HO3.out.1.c0, HO3.out.1.c1, HO3.out.1.c2, HO3.out.1.c3, HO3.out.1.c4⟩
            go_wp2_with fail
            go_meet
            case rel => exact ⟨rfl, HO3⟩
          · skip
            by_cases ho : o = 0
            · subst ho
              have hbw : bw = true := by rw [HW.out]; first | exact decide_eq_true (by omega) | exact decide_eq_false (by omega)
              subst hbw
              clear HW
              obtain ⟨c0, c1, c2, c3, c4⟩ : wc.cell? ⟨w.heap.size, 0, none⟩ = some (.int .i64 f) ∧ wc.cell? ⟨w.heap.size, 1, none⟩ = some (.int .i64 r) ∧ wc.cell? ⟨w.heap.size, 2, none⟩ = some (.int .i64 0) ∧ wc.cell? ⟨w.heap.size, 3, none⟩ = some (.int .i64 s) ∧ wc.cell? ⟨w.heap.size, 4, none⟩ = some (.int .i64 114) := ⟨HO2.out.1.c0, HO2.out.1.c1, HO2.out.1.c2, HO2.out.1.c3, HO2.out.1.c4⟩
              go_wp2_with fail
              refine (in_go ⟨#[102, 70, 116, 84]⟩ 114 false _ (by decide) (by decide)).mono ?_
              rintro e y3 ⟨rfl, hb⟩
              have HO3 : Hid (One w y3 (f, r, 0, s, 114)) := HO2.out.below hb
              clear hb HO2 c0 c1 c2 c3 c4
              obtain ⟨c0, c1, c2, c3, c4⟩ : y3.cell? ⟨w.heap.size, 0, none⟩ = some (.int .i64 f) ∧ y3.cell? ⟨w.heap.size, 1, none⟩ = some (.int .i64 r) ∧ y3.cell? ⟨w.heap.size, 2, none⟩ = some (.int .i64 0) ∧ y3.cell? ⟨w.heap.size, 3, none⟩ = some (.int .i64 s) ∧ y3.cell? ⟨w.heap.size, 4, none⟩ = some (.int .i64 114) := ⟨HO3.out.1.c0, HO3.out.1.c1, HO3.out.1.c2, HO3.out.1.c3, HO3.out.1.c4⟩
              go_wp2_with fail
              go_meet
              case rel => exact ⟨rfl, HO3⟩
            · have ho2 : (o == 0) = false := by simpa using ho
              have hbw : bw = false := by rw [HW.out]; first | exact decide_eq_true (by omega) | exact decide_eq_false (by omega)
              subst hbw
              clear HW
              obtain ⟨c0, c1, c2, c3, c4⟩ : wc.cell? ⟨w.heap.size, 0, none⟩ = some (.int .i64 f) ∧ wc.cell? ⟨w.heap.size, 1, none⟩ = some (.int .i64 r) ∧ wc.cell? ⟨w.heap.size, 2, none⟩ = some (.int .i64 o) ∧ wc.cell? ⟨w.heap.size, 3, none⟩ = some (.int .i64 s) ∧ wc.cell? ⟨w.heap.size, 4, none⟩ = some (.int .i64 114) := ⟨HO2.out.1.c0, HO2.out.1.c1, HO2.out.1.c2, HO2.out.1.c3, HO2.out.1.c4⟩
              go_wp2_with fail
              refine (in_go ⟨#[102, 70, 116, 84]⟩ 114 false _ (by decide) (by decide)).mono ?_
              rintro e y3 ⟨rfl, hb⟩
              have HO3 : Hid (One w y3 (f, r, o, s, 114)) := HO2.out.below hb
              clear hb HO2 c0 c1 c2 c3 c4
              obtain ⟨c0, c1, c2, c3, c4⟩ : y3.cell? ⟨w.heap.size, 0, none⟩ = some (.int .i64 f) ∧ y3.cell? ⟨w.heap.size, 1, none⟩ = some (.int .i64 r) ∧ y3.cell? ⟨w.heap.size, 2, none⟩ = some (.int .i64 o) ∧ y3.cell? ⟨w.heap.size, 3, none⟩ = some (.int .i64 s) ∧ y3.cell? ⟨w.heap.size, 4, none⟩ = some (.int .i64 114) := ⟨HO3.out.1.c0, HO3.out.1.c1, HO3.out.1.c2, HO3.out.1.c3, HO3.out.1.c4⟩
              go_wp2_with fail
              refine (in_go ⟨#[105, 97]⟩ 114 false _ (by decide) (by decide)).mono ?_
              rintro e y4 ⟨rfl, hb⟩
              have HO4 : Hid (One w y4 (f, r, o, s, 114)) := HO3.out.below hb
              clear hb HO3 c0 c1 c2 c3 c4
              obtain ⟨c0, c1, c2, c3, c4⟩ : y4.cell? ⟨w.heap.size, 0, none⟩ = some (.int .i64 f) ∧ y4.cell? ⟨w.heap.size, 1, none⟩ = some (.int .i64 r) ∧ y4.cell? ⟨w.heap.size, 2, none⟩ = some (.int .i64 o) ∧ y4.cell? ⟨w.heap.size, 3, none⟩ = some (.int .i64 s) ∧ y4.cell? ⟨w.heap.size, 4, none⟩ = some (.int .i64 114) := ⟨HO4.out.1.c0, HO4.out.1.c1, HO4.out.1.c2, HO4.out.1.c3, HO4.out.1.c4⟩
              go_wp2_with fail
              go_meet
              case rel => exact ⟨rfl, HO4⟩
          · skip
            by_cases ho : o = 0
            · subst ho
              by_cases hr : r = 0
              · subst hr
                have hbw : bw = true := by rw [HW.out]; first | exact decide_eq_true (by omega) | exact decide_eq_false (by omega)
                subst hbw
                clear HW
                obtain ⟨c0, c1, c2, c3, c4⟩ : wc.cell? ⟨w.heap.size, 0, none⟩ = some (.int .i64 f) ∧ wc.cell? ⟨w.heap.size, 1, none⟩ = some (.int .i64 0) ∧ wc.cell? ⟨w.heap.size, 2, none⟩ = some (.int .i64 0) ∧ wc.cell? ⟨w.heap.size, 3, none⟩ = some (.int .i64 s) ∧ wc.cell? ⟨w.heap.size, 4, none⟩ = some (.int .i64 34) := ⟨HO2.out.1.c0, HO2.out.1.c1, HO2.out.1.c2, HO2.out.1.c3, HO2.out.1.c4⟩
                go_wp2_with fail
                refine (in_go ⟨#[102, 70, 116, 84]⟩ 34 false _ (by decide) (by decide)).mono ?_
                rintro e y3 ⟨rfl, hb⟩
                have HO3 : Hid (One w y3 (f, 0, 0, s, 34)) := HO2.out.below hb
                clear hb HO2 c0 c1 c2 c3 c4
                obtain ⟨c0, c1, c2, c3, c4⟩ : y3.cell? ⟨w.heap.size, 0, none⟩ = some (.int .i64 f) ∧ y3.cell? ⟨w.heap.size, 1, none⟩ = some (.int .i64 0) ∧ y3.cell? ⟨w.heap.size, 2, none⟩ = some (.int .i64 0) ∧ y3.cell? ⟨w.heap.size, 3, none⟩ = some (.int .i64 s) ∧ y3.cell? ⟨w.heap.size, 4, none⟩ = some (.int .i64 34) := ⟨HO3.out.1.c0, HO3.out.1.c1, HO3.out.1.c2, HO3.out.1.c3, HO3.out.1.c4⟩
                go_wp2_with fail
                go_meet
                case rel => exact ⟨rfl, HO3⟩
              · have hr2 : (r == 0) = false := by simpa using hr
                have hbw : bw = false := by rw [HW.out]; first | exact decide_eq_true (by omega) | exact decide_eq_false (by omega)
                subst hbw
                clear HW
                obtain ⟨c0, c1, c2, c3, c4⟩ : wc.cell? ⟨w.heap.size, 0, none⟩ = some (.int .i64 f) ∧ wc.cell? ⟨w.heap.size, 1, none⟩ = some (.int .i64 r) ∧ wc.cell? ⟨w.heap.size, 2, none⟩ = some (.int .i64 0) ∧ wc.cell? ⟨w.heap.size, 3, none⟩ = some (.int .i64 s) ∧ wc.cell? ⟨w.heap.size, 4, none⟩ = some (.int .i64 34) := ⟨HO2.out.1.c0, HO2.out.1.c1, HO2.out.1.c2, HO2.out.1.c3, HO2.out.1.c4⟩
                go_wp2_with fail
                refine (in_go ⟨#[102, 70, 116, 84]⟩ 34 false _ (by decide) (by decide)).mono ?_
                rintro e y3 ⟨rfl, hb⟩
                have HO3 : Hid (One w y3 (f, r, 0, s, 34)) := HO2.out.below hb
                clear hb HO2 c0 c1 c2 c3 c4
                obtain ⟨c0, c1, c2, c3, c4⟩ : y3.cell? ⟨w.heap.size, 0, none⟩ = some (.int .i64 f) ∧ y3.cell? ⟨w.heap.size, 1, none⟩ = some (.int .i64 r) ∧ y3.cell? ⟨w.heap.size, 2, none⟩ = some (.int .i64 0) ∧ y3.cell? ⟨w.heap.size, 3, none⟩ = some (.int .i64 s) ∧ y3.cell? ⟨w.heap.size, 4, none⟩ = some (.int .i64 34) := ⟨HO3.out.1.c0, HO3.out.1.c1, HO3.out.1.c2, HO3.out.1.c3, HO3.out.1.c4⟩
                go_wp2_with fail
                refine (in_go ⟨#[105, 97]⟩ 34 false _ (by decide) (by decide)).mono ?_
                rintro e y4 ⟨rfl, hb⟩
                have HO4 : Hid (One w y4 (f, r, 0, s, 34)) := HO3.out.below hb
                clear hb HO3 c0 c1 c2 c3 c4
                obtain ⟨c0, c1, c2, c3, c4⟩ : y4.cell? ⟨w.heap.size, 0, none⟩ = some (.int .i64 f) ∧ y4.cell? ⟨w.heap.size, 1, none⟩ = some (.int .i64 r) ∧ y4.cell? ⟨w.heap.size, 2, none⟩ = some (.int .i64 0) ∧ y4.cell? ⟨w.heap.size, 3, none⟩ = some (.int .i64 s) ∧ y4.cell? ⟨w.heap.size, 4, none⟩ = some (.int .i64 34) := ⟨HO4.out.1.c0, HO4.out.1.c1, HO4.out.1.c2, HO4.out.1.c3, HO4.out.1.c4⟩
                go_wp2_with fail
                go_meet
                case rel => exact ⟨rfl, HO4⟩
            · have ho2 : (o == 0) = false := by simpa using ho
              have hbw : bw = false := by rw [HW.out]; first | exact decide_eq_true (by omega) | exact decide_eq_false (by omega)
              subst hbw
              clear HW
              obtain ⟨c0, c1, c2, c3, c4⟩ : wc.cell? ⟨w.heap.size, 0, none⟩ = some (.int .i64 f) ∧ wc.cell? ⟨w.heap.size, 1, none⟩ = some (.int .i64 r) ∧ wc.cell? ⟨w.heap.size, 2, none⟩ = some (.int .i64 o) ∧ wc.cell? ⟨w.heap.size, 3, none⟩ = some (.int .i64 s) ∧ wc.cell? ⟨w.heap.size, 4, none⟩ = some (.int .i64 34) := ⟨HO2.out.1.c0, HO2.out.1.c1, HO2.out.1.c2, HO2.out.1.c3, HO2.out.1.c4⟩
              go_wp2_with fail
              refine (in_go ⟨#[102, 70, 116, 84]⟩ 34 false _ (by decide) (by decide)).mono ?_
              rintro e y3 ⟨rfl, hb⟩
              have HO3 : Hid (One w y3 (f, r, o, s, 34)) := HO2.out.below hb
              clear hb HO2 c0 c1 c2 c3 c4
              obtain ⟨c0, c1, c2, c3, c4⟩ : y3.cell? ⟨w.heap.size, 0, none⟩ = some (.int .i64 f) ∧ y3.cell? ⟨w.heap.size, 1, none⟩ = some (.int .i64 r) ∧ y3.cell? ⟨w.heap.size, 2, none⟩ = some (.int .i64 o) ∧ y3.cell? ⟨w.heap.size, 3, none⟩ = some (.int .i64 s) ∧ y3.cell? ⟨w.heap.size, 4, none⟩ = some (.int .i64 34) := ⟨HO3.out.1.c0, HO3.out.1.c1, HO3.out.1.c2, HO3.out.1.c3, HO3.out.1.c4⟩
              go_wp2_with fail
              refine (in_go ⟨#[105, 97]⟩ 34 false _ (by decide) (by decide)).mono ?_
              rintro e y4 ⟨rfl, hb⟩
              have HO4 : Hid (One w y4 (f, r, o, s, 34)) := HO3.out.below hb
              clear hb HO3 c0 c1 c2 c3 c4
              obtain ⟨c0, c1, c2, c3, c4⟩ : y4.cell? ⟨w.heap.size, 0, none⟩ = some (.int .i64 f) ∧ y4.cell? ⟨w.heap.size, 1, none⟩ = some (.int .i64 r) ∧ y4.cell? ⟨w.heap.size, 2, none⟩ = some (.int .i64 o) ∧ y4.cell? ⟨w.heap.size, 3, none⟩ = some (.int .i64 s) ∧ y4.cell? ⟨w.heap.size, 4, none⟩ = some (.int .i64 34) := ⟨HO4.out.1.c0, HO4.out.1.c1, HO4.out.1.c2, HO4.out.1.c3, HO4.out.1.c4⟩
              go_wp2_with fail
              go_meet
              case rel => exact ⟨rfl, HO4⟩
          · skip
            by_cases ho : o = 0
            · subst ho
              have hbw : bw = false := by rw [HW.out]; first | exact decide_eq_true (by omega) | exact decide_eq_false (by omega)
              subst hbw
              clear HW
              obtain ⟨c0, c1, c2, c3, c4⟩ : wc.cell? ⟨w.heap.size, 0, none⟩ = some (.int .i64 f) ∧ wc.cell? ⟨w.heap.size, 1, none⟩ = some (.int .i64 r) ∧ wc.cell? ⟨w.heap.size, 2, none⟩ = some (.int .i64 0) ∧ wc.cell? ⟨w.heap.size, 3, none⟩ = some (.int .i64 s) ∧ wc.cell? ⟨w.heap.size, 4, none⟩ = some (.int .i64 105) := ⟨HO2.out.1.c0, HO2.out.1.c1, HO2.out.1.c2, HO2.out.1.c3, HO2.out.1.c4⟩
              go_wp2_with fail
              refine (in_go ⟨#[102, 70, 116, 84]⟩ 105 false _ (by decide) (by decide)).mono ?_
              rintro e y3 ⟨rfl, hb⟩
              have HO3 : Hid (One w y3 (f, r, 0, s, 105)) := HO2.out.below hb
              clear hb HO2 c0 c1 c2 c3 c4
              obtain ⟨c0, c1, c2, c3, c4⟩ : y3.cell? ⟨w.heap.size, 0, none⟩ = some (.int .i64 f) ∧ y3.cell? ⟨w.heap.size, 1, none⟩ = some (.int .i64 r) ∧ y3.cell? ⟨w.heap.size, 2, none⟩ = some (.int .i64 0) ∧ y3.cell? ⟨w.heap.size, 3, none⟩ = some (.int .i64 s) ∧ y3.cell? ⟨w.heap.size, 4, none⟩ = some (.int .i64 105) := ⟨HO3.out.1.c0, HO3.out.1.c1, HO3.out.1.c2, HO3.out.1.c3, HO3.out.1.c4⟩
              go_wp2_with fail
              refine (in_go ⟨#[105, 97]⟩ 105 true _ (by decide) (by decide)).mono ?_
              rintro e y4 ⟨rfl, hb⟩
              have HO4 : Hid (One w y4 (f, r, 0, s, 105)) := HO3.out.below hb
              clear hb HO3 c0 c1 c2 c3 c4
              obtain ⟨c0, c1, c2, c3, c4⟩ : y4.cell? ⟨w.heap.size, 0, none⟩ = some (.int .i64 f) ∧ y4.cell? ⟨w.heap.size, 1, none⟩ = some (.int .i64 r) ∧ y4.cell? ⟨w.heap.size, 2, none⟩ = some (.int .i64 0) ∧ y4.cell? ⟨w.heap.size, 3, none⟩ = some (.int .i64 s) ∧ y4.cell? ⟨w.heap.size, 4, none⟩ = some (.int .i64 105) := ⟨HO4.out.1.c0, HO4.out.1.c1, HO4.out.1.c2, HO4.out.1.c3, HO4.out.1.c4⟩
              go_wp2_with fail
              go_meet
              case rel => exact ⟨rfl, HO4⟩
            · have ho2 : (o != 0) = true := by simpa using ho
              have hbw : bw = true := by rw [HW.out]; first | exact decide_eq_true (by omega) | exact decide_eq_false (by omega)
              subst hbw
              clear HW
              obtain ⟨c0, c1, c2, c3, c4⟩ : wc.cell? ⟨w.heap.size, 0, none⟩ = some (.int .i64 f) ∧ wc.cell? ⟨w.heap.size, 1, none⟩ = some (.int .i64 r) ∧ wc.cell? ⟨w.heap.size, 2, none⟩ = some (.int .i64 o) ∧ wc.cell? ⟨w.heap.size, 3, none⟩ = some (.int .i64 s) ∧ wc.cell? ⟨w.heap.size, 4, none⟩ = some (.int .i64 105) := ⟨HO2.out.1.c0, HO2.out.1.c1, HO2.out.1.c2, HO2.out.1.c3, HO2.out.1.c4⟩
              go_wp2_with fail
              refine (in_go ⟨#[102, 70, 116, 84]⟩ 105 false _ (by decide) (by decide)).mono ?_
              rintro e y3 ⟨rfl, hb⟩
              have HO3 : Hid (One w y3 (f, r, o, s, 105)) := HO2.out.below hb
              clear hb HO2 c0 c1 c2 c3 c4
              obtain ⟨c0, c1, c2, c3, c4⟩ : y3.cell? ⟨w.heap.size, 0, none⟩ = some (.int .i64 f) ∧ y3.cell? ⟨w.heap.size, 1, none⟩ = some (.int .i64 r) ∧ y3.cell? ⟨w.heap.size, 2, none⟩ = some (.int .i64 o) ∧ y3.cell? ⟨w.heap.size, 3, none⟩ = some (.int .i64 s) ∧ y3.cell? ⟨w.heap.size, 4, none⟩ = some (.int .i64 105) := ⟨HO3.out.1.c0, HO3.out.1.c1, HO3.out.1.c2, HO3.out.1.c3, HO3.out.1.c4⟩
              go_wp2_with fail
              refine (in_go ⟨#[105, 97]⟩ 105 true _ (by decide) (by decide)).mono ?_
              rintro e y4 ⟨rfl, hb⟩
              have HO4 : Hid (One w y4 (f, r, o, s, 105)) := HO3.out.below hb
              clear hb HO3 c0 c1 c2 c3 c4
              obtain ⟨c0, c1, c2, c3, c4⟩ : y4.cell? ⟨w.heap.size, 0, none⟩ = some (.int .i64 f) ∧ y4.cell? ⟨w.heap.size, 1, none⟩ = some (.int .i64 r) ∧ y4.cell? ⟨w.heap.size, 2, none⟩ = some (.int .i64 o) ∧ y4.cell? ⟨w.heap.size, 3, none⟩ = some (.int .i64 s) ∧ y4.cell? ⟨w.heap.size, 4, none⟩ = some (.int .i64 105) := ⟨HO4.out.1.c0, HO4.out.1.c1, HO4.out.1.c2, HO4.out.1.c3, HO4.out.1.c4⟩
              go_wp2_with fail
              go_meet
              case rel => exact ⟨rfl, HO4⟩
          · skip
            by_cases ho : o = 0
            · subst ho
              have hbw : bw = false := by rw [HW.out]; first | exact decide_eq_true (by omega) | exact decide_eq_false (by omega)
              subst hbw
              clear HW
              obtain ⟨c0, c1, c2, c3, c4⟩ : wc.cell? ⟨w.heap.size, 0, none⟩ = some (.int .i64 f) ∧ wc.cell? ⟨w.heap.size, 1, none⟩ = some (.int .i64 r) ∧ wc.cell? ⟨w.heap.size, 2, none⟩ = some (.int .i64 0) ∧ wc.cell? ⟨w.heap.size, 3, none⟩ = some (.int .i64 s) ∧ wc.cell? ⟨w.heap.size, 4, none⟩ = some (.int .i64 97) := ⟨HO2.out.1.c0, HO2.out.1.c1, HO2.out.1.c2, HO2.out.1.c3, HO2.out.1.c4⟩
              go_wp2_with fail
              refine (in_go ⟨#[102, 70, 116, 84]⟩ 97 false _ (by decide) (by decide)).mono ?_
              rintro e y3 ⟨rfl, hb⟩
              have HO3 : Hid (One w y3 (f, r, 0, s, 97)) := HO2.out.below hb
              clear hb HO2 c0 c1 c2 c3 c4
              obtain ⟨c0, c1, c2, c3, c4⟩ : y3.cell? ⟨w.heap.size, 0, none⟩ = some (.int .i64 f) ∧ y3.cell? ⟨w.heap.size, 1, none⟩ = some (.int .i64 r) ∧ y3.cell? ⟨w.heap.size, 2, none⟩ = some (.int .i64 0) ∧ y3.cell? ⟨w.heap.size, 3, none⟩ = some (.int .i64 s) ∧ y3.cell? ⟨w.heap.size, 4, none⟩ = some (.int .i64 97) := ⟨HO3.out.1.c0, HO3.out.1.c1, HO3.out.1.c2, HO3.out.1.c3, HO3.out.1.c4⟩
              go_wp2_with fail
              refine (in_go ⟨#[105, 97]⟩ 97 true _ (by decide) (by decide)).mono ?_
              rintro e y4 ⟨rfl, hb⟩
              have HO4 : Hid (One w y4 (f, r, 0, s, 97)) := HO3.out.below hb
              clear hb HO3 c0 c1 c2 c3 c4
              obtain ⟨c0, c1, c2, c3, c4⟩ : y4.cell? ⟨w.heap.size, 0, none⟩ = some (.int .i64 f) ∧ y4.cell? ⟨w.heap.size, 1, none⟩ = some (.int .i64 r) ∧ y4.cell? ⟨w.heap.size, 2, none⟩ = some (.int .i64 0) ∧ y4.cell? ⟨w.heap.size, 3, none⟩ = some (.int .i64 s) ∧ y4.cell? ⟨w.heap.size, 4, none⟩ = some (.int .i64 97) := ⟨HO4.out.1.c0, HO4.out.1.c1, HO4.out.1.c2, HO4.out.1.c3, HO4.out.1.c4⟩
              go_wp2_with fail
              go_meet
              case rel => exact ⟨rfl, HO4⟩
            · have ho2 : (o != 0) = true := by simpa using ho
              have hbw : bw = true := by rw [HW.out]; first | exact decide_eq_true (by omega) | exact decide_eq_false (by omega)
              subst hbw
              clear HW
              obtain ⟨c0, c1, c2, c3, c4⟩ : wc.cell? ⟨w.heap.size, 0, none⟩ = some (.int .i64 f) ∧ wc.cell? ⟨w.heap.size, 1, none⟩ = some (.int .i64 r) ∧ wc.cell? ⟨w.heap.size, 2, none⟩ = some (.int .i64 o) ∧ wc.cell? ⟨w.heap.size, 3, none⟩ = some (.int .i64 s) ∧ wc.cell? ⟨w.heap.size, 4, none⟩ = some (.int .i64 97) := ⟨HO2.out.1.c0, HO2.out.1.c1, HO2.out.1.c2, HO2.out.1.c3, HO2.out.1.c4⟩
              go_wp2_with fail
              refine (in_go ⟨#[102, 70, 116, 84]⟩ 97 false _ (by decide) (by decide)).mono ?_
              rintro e y3 ⟨rfl, hb⟩
              have HO3 : Hid (One w y3 (f, r, o, s, 97)) := HO2.out.below hb
              clear hb HO2 c0 c1 c2 c3 c4
              obtain ⟨c0, c1, c2, c3, c4⟩ : y3.cell? ⟨w.heap.size, 0, none⟩ = some (.int .i64 f) ∧ y3.cell? ⟨w.heap.size, 1, none⟩ = some (.int .i64 r) ∧ y3.cell? ⟨w.heap.size, 2, none⟩ = some (.int .i64 o) ∧ y3.cell? ⟨w.heap.size, 3, none⟩ = some (.int .i64 s) ∧ y3.cell? ⟨w.heap.size, 4, none⟩ = some (.int .i64 97) := ⟨HO3.out.1.c0, HO3.out.1.c1, HO3.out.1.c2, HO3.out.1.c3, HO3.out.1.c4⟩
              go_wp2_with fail
              refine (in_go ⟨#[105, 97]⟩ 97 true _ (by decide) (by decide)).mono ?_
              rintro e y4 ⟨rfl, hb⟩
              have HO4 : Hid (One w y4 (f, r, o, s, 97)) := HO3.out.below hb
              clear hb HO3 c0 c1 c2 c3 c4
              obtain ⟨c0, c1, c2, c3, c4⟩ : y4.cell? ⟨w.heap.size, 0, none⟩ = some (.int .i64 f) ∧ y4.cell? ⟨w.heap.size, 1, none⟩ = some (.int .i64 r) ∧ y4.cell? ⟨w.heap.size, 2, none⟩ = some (.int .i64 o) ∧ y4.cell? ⟨w.heap.size, 3, none⟩ = some (.int .i64 s) ∧ y4.cell? ⟨w.heap.size, 4, none⟩ = some (.int .i64 97) := ⟨HO4.out.1.c0, HO4.out.1.c1, HO4.out.1.c2, HO4.out.1.c3, HO4.out.1.c4⟩
              go_wp2_with fail
              go_meet
              case rel => exact ⟨rfl, HO4⟩
        case neg =>
          have Hfnds : Hid (has (codes ⟨#[102, 70, 116, 84]⟩) t = false) := bool_no (fun g => h (by have := (has_fnds t).1 g; omega))
          have Hsids : Hid (has (codes ⟨#[105, 97]⟩) t = false) := bool_no (fun g => h (by have := (has_sids t).1 g; omega))
          have g0 : (t == 0) = false := by simp only [beq_eq_false_iff_ne]; omega
          have g1 : (t == 114) = false := by simp only [beq_eq_false_iff_ne]; omega
          have g2 : (t == 34) = false := by simp only [beq_eq_false_iff_ne]; omega
          have hbw : bw = false := by rw [HW.out]; first | exact decide_eq_true (by omega) | exact decide_eq_false (by omega)
          subst hbw
          clear h
          clear HW
          obtain ⟨c0, c1, c2, c3, c4⟩ : wc.cell? ⟨w.heap.size, 0, none⟩ = some (.int .i64 f) ∧ wc.cell? ⟨w.heap.size, 1, none⟩ = some (.int .i64 r) ∧ wc.cell? ⟨w.heap.size, 2, none⟩ = some (.int .i64 o) ∧ wc.cell? ⟨w.heap.size, 3, none⟩ = some (.int .i64 s) ∧ wc.cell? ⟨w.heap.size, 4, none⟩ = some (.int .i64 t) := ⟨HO2.out.1.c0, HO2.out.1.c1, HO2.out.1.c2, HO2.out.1.c3, HO2.out.1.c4⟩
          go_wp2_with fail
          refine (in_go ⟨#[102, 70, 116, 84]⟩ t false _ (by decide) Hfnds.out).mono ?_
          rintro e y3 ⟨rfl, hb⟩
          have HO3 : Hid (One w y3 (f, r, o, s, t)) := HO2.out.below hb
          clear hb HO2 c0 c1 c2 c3 c4
          obtain ⟨c0, c1, c2, c3, c4⟩ : y3.cell? ⟨w.heap.size, 0, none⟩ = some (.int .i64 f) ∧ y3.cell? ⟨w.heap.size, 1, none⟩ = some (.int .i64 r) ∧ y3.cell? ⟨w.heap.size, 2, none⟩ = some (.int .i64 o) ∧ y3.cell? ⟨w.heap.size, 3, none⟩ = some (.int .i64 s) ∧ y3.cell? ⟨w.heap.size, 4, none⟩ = some (.int .i64 t) := ⟨HO3.out.1.c0, HO3.out.1.c1, HO3.out.1.c2, HO3.out.1.c3, HO3.out.1.c4⟩
          go_wp2_with fail
          refine (in_go ⟨#[105, 97]⟩ t false _ (by decide) Hsids.out).mono ?_
          rintro e y4 ⟨rfl, hb⟩
          have HO4 : Hid (One w y4 (f, r, o, s, t)) := HO3.out.below hb
          clear hb HO3 c0 c1 c2 c3 c4
          obtain ⟨c0, c1, c2, c3, c4⟩ : y4.cell? ⟨w.heap.size, 0, none⟩ = some (.int .i64 f) ∧ y4.cell? ⟨w.heap.size, 1, none⟩ = some (.int .i64 r) ∧ y4.cell? ⟨w.heap.size, 2, none⟩ = some (.int .i64 o) ∧ y4.cell? ⟨w.heap.size, 3, none⟩ = some (.int .i64 s) ∧ y4.cell? ⟨w.heap.size, 4, none⟩ = some (.int .i64 t) := ⟨HO4.out.1.c0, HO4.out.1.c1, HO4.out.1.c2, HO4.out.1.c3, HO4.out.1.c4⟩
          go_wp2_with fail
          go_meet
          case rel => exact ⟨rfl, HO4⟩
      case rest =>
        obtain ⟨hs5, HO3⟩ := hcut
        subst hs5
        clear HW HO2
        cases bc with
        | false =>
          have hx : x = 1 := HX.out
          subst hx
          go_wp2_with fail
          go_ret
          exact ⟨rfl, HO3.out.2⟩
        | true =>
          cases bn with
          | false =>
            have hx : x = 1 := HX.out
            subst hx
            go_wp2_with fail
            go_ret
            exact ⟨rfl, HO3.out.2⟩
          | true =>
            cases bw with
            | false =>
              have hx : x = 1 := HX.out
              subst hx
              go_wp2_with fail
              go_ret
              exact ⟨rfl, HO3.out.2⟩
            | true =>
              have hx : x = 0 := HX.out
              subst hx
              go_wp2_with fail
              go_ret
              exact ⟨rfl, HO3.out.2⟩
end Go.Proofs.Ytjpgjhdkgmddfaa.Seek
