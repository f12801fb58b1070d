/- The contracts of keys.mayWait, keys.Check and keys.Take. -/
import Derived.Test.YtjpgjhdkgmddfaaStep
set_option linter.unusedVariables false
set_option linter.unusedSimpArgs false
namespace Go.Proofs.Ytjpgjhdkgmddfaa.Seek
open Go.RowKit Plain

set_option maxHeartbeats 1000000 in
theorem mayWait_go (f r o s t : Int) (w : World) : Calls Try.prog 19 #[.agg #[.int .i64 f, .int .i64 r, .int .i64 o, .int .i64 s, .int .i64 t]] w fun e w' => e = .returned (.bool (waits r o t)) ∧ Below w.heap.size w w' := by
  obtain ⟨b, hb⟩ : ∃ b, b = waits r o t := ⟨_, rfl⟩
  have HB : Hid (b = decide (t = 0 ∨ t = 102 ∨ t = 70 ∨ t = 116 ∨ t = 84 ∨ (t = 114 ∧ o = 0) ∨ (t = 34 ∧ o = 0 ∧ r = 0) ∨ ((t = 105 ∨ t = 97) ∧ o ≠ 0))) := hb
  rw [← hb]
  clear hb
  by_cases h : t = 0 ∨ t = 102 ∨ t = 70 ∨ t = 116 ∨ t = 84 ∨ t = 114 ∨ t = 34 ∨ t = 105 ∨ t = 97
  · rcases h with rfl | rfl | rfl | rfl | rfl | rfl | rfl | rfl | rfl
    all_goals (
      go_enter Try.func19, Try.ntmps19
      go_wp2_with fail
      all_goals (
        go_ret
        refine ⟨congrArg (fun x => Ending.returned (Value.bool x)) (?_ : _ = b), box_below _ _⟩
        rw [HB.out, Bool.eq_iff_iff]
        first | rfl | (simp; done) | (simp; omega) | simp_all))
  · have hb : b = false := by
      rw [HB.out]
      refine decide_eq_false (fun h2 => h ?_)
      omega
    subst hb

    have g0 : (t == 0) = false := by simp only [beq_eq_false_iff_ne]; omega
    have g1 : (t == 102) = false := by simp only [beq_eq_false_iff_ne]; omega
    have g2 : (t == 70) = false := by simp only [beq_eq_false_iff_ne]; omega
    have g3 : (t == 116) = false := by simp only [beq_eq_false_iff_ne]; omega
    have g4 : (t == 84) = false := by simp only [beq_eq_false_iff_ne]; omega
    have g5 : (t == 114) = false := by simp only [beq_eq_false_iff_ne]; omega
    have g6 : (t == 34) = false := by simp only [beq_eq_false_iff_ne]; omega
    have g7 : (t == 105) = false := by simp only [beq_eq_false_iff_ne]; omega
    have g8 : (t == 97) = false := by simp only [beq_eq_false_iff_ne]; omega
    clear h HB
    go_enter Try.func19, Try.ntmps19
    go_wp2_with fail
    go_ret
    exact ⟨rfl, box_below _ _⟩

/-- The variable of a call with a part. -/
def One (w0 w : World) (p : Five) : Prop := BoxF w 23 w0.heap.size p ∧ Below w0.heap.size w0 w
theorem One.below {w0 w w' : World} {p : Five} (h : One w0 w p) (hb : Below w.heap.size w w') : One w0 w' p := ⟨h.1.below hb, h.2.trans (hb.mono h.2.size)⟩
theorem one_new (w : World) (f r o s t : Int) : One w (w.alloc (.cells #[.int .i64 f, .int .i64 r, .int .i64 o, .int .i64 s, .int .i64 t] 23)) (f, r, o, s, t) := ⟨BoxF.new w 23 (f, r, o, s, t), box_below _ _⟩
theorem pchk_bad {f r o s t : Int} (h : right f r o s t = false) : pchk f r o s t = 1 := by unfold pchk; rw [h]; rfl
theorem pchk_good {f r o s t : Int} (h : right f r o s t = true) : pchk f r o s t = 0 := by unfold pchk; rw [h]; rfl
set_option maxHeartbeats 2000000 in
theorem check_go (f r o s t : Int) (w : World) : Calls Try.prog 7 #[.agg #[.int .i64 f, .int .i64 r, .int .i64 o, .int .i64 s, .int .i64 t]] w fun e w' => e = .returned (.int .i64 (pchk f r o s t)) ∧ Below w.heap.size w w' := by
  obtain ⟨x, hx⟩ : ∃ x, x = pchk f r o s t := ⟨_, rfl⟩
  rw [← hx]
  obtain ⟨b, hb⟩ : ∃ b, b = right f r o s t := ⟨_, rfl⟩
  have HX : Hid (x = if b = true then 0 else 1) := by show x = _; rw [hx, hb]; rfl
  have HB : Hid (b = (count f && count s && (!(o == 0) || s == 0) && (r == 0 || letter r) && (o == 0 || has ops o) && waits r o t)) := hb
  clear hx hb
  cases hcf : count f
  case false =>
    have ECF : Hid (count f = false) := hcf
    clear hcf
    go_enter Try.func7, Try.ntmps7
    go_wp2_with fail
    have HO1 : Hid (One w _ (f, r, o, s, t)) := one_new w f r o s t
    generalize w.alloc (.cells #[.int .i64 f, .int .i64 r, .int .i64 o, .int .i64 s, .int .i64 t] 23) = w1 at *
    obtain ⟨c0, c1, c2, c3, c4⟩ : w1.cell? ⟨w.heap.size, 0, none⟩ = some (.int .i64 f) ∧ w1.cell? ⟨w.heap.size, 1, none⟩ = some (.int .i64 r) ∧ w1.cell? ⟨w.heap.size, 2, none⟩ = some (.int .i64 o) ∧ w1.cell? ⟨w.heap.size, 3, none⟩ = some (.int .i64 s) ∧ w1.cell? ⟨w.heap.size, 4, none⟩ = some (.int .i64 t) := ⟨HO1.out.1.c0, HO1.out.1.c1, HO1.out.1.c2, HO1.out.1.c3, HO1.out.1.c4⟩
    refine (isCount_go f _).mono ?_
    rintro e w' ⟨rfl, rfl⟩
    rw [ECF.out]
    go_wp2_with fail
    have hbb : b = false := by rw [HB.out, ECF.out]; simp
    have hx : x = 1 := by rw [HX.out, hbb]; rfl
    subst hx
    go_ret
    exact ⟨rfl, HO1.out.2⟩
  case true =>
    have ECF : Hid (count f = true) := hcf
    clear hcf
    cases hcs : count s
    case false =>
      have ECS : Hid (count s = false) := hcs
      clear hcs
      go_enter Try.func7, Try.ntmps7
      go_wp2_with fail
      have HO1 : Hid (One w _ (f, r, o, s, t)) := one_new w f r o s t
      generalize w.alloc (.cells #[.int .i64 f, .int .i64 r, .int .i64 o, .int .i64 s, .int .i64 t] 23) = w1 at *
      obtain ⟨c0, c1, c2, c3, c4⟩ : w1.cell? ⟨w.heap.size, 0, none⟩ = some (.int .i64 f) ∧ w1.cell? ⟨w.heap.size, 1, none⟩ = some (.int .i64 r) ∧ w1.cell? ⟨w.heap.size, 2, none⟩ = some (.int .i64 o) ∧ w1.cell? ⟨w.heap.size, 3, none⟩ = some (.int .i64 s) ∧ w1.cell? ⟨w.heap.size, 4, none⟩ = some (.int .i64 t) := ⟨HO1.out.1.c0, HO1.out.1.c1, HO1.out.1.c2, HO1.out.1.c3, HO1.out.1.c4⟩
      refine (isCount_go f _).mono ?_
      rintro e w' ⟨rfl, rfl⟩
      rw [ECF.out]
      go_wp2_with fail
      refine (isCount_go s _).mono ?_
      rintro e w' ⟨rfl, rfl⟩
      rw [ECS.out]
      go_wp2_with fail
      have hbb : b = false := by rw [HB.out, ECF.out, ECS.out]; simp
      have hx : x = 1 := by rw [HX.out, hbb]; rfl
      subst hx
      go_ret
      exact ⟨rfl, HO1.out.2⟩
    case true =>
      have ECS : Hid (count s = true) := hcs
      clear hcs
      by_cases ho : o = 0
      · subst ho
        by_cases hs : s = 0
        case neg =>
          have hs2 : (s == 0) = false := by simpa using hs
          have hs3 : (s != 0) = true := by simpa using hs
          have ES : Hid ((s == 0) = false) := hs2
          clear hs
          go_enter Try.func7, Try.ntmps7
          go_wp2_with fail
          have HO1 : Hid (One w _ (f, r, 0, s, t)) := one_new w f r 0 s t
          generalize w.alloc (.cells #[.int .i64 f, .int .i64 r, .int .i64 0, .int .i64 s, .int .i64 t] 23) = w1 at *
          obtain ⟨c0, c1, c2, c3, c4⟩ : w1.cell? ⟨w.heap.size, 0, none⟩ = some (.int .i64 f) ∧ w1.cell? ⟨w.heap.size, 1, none⟩ = some (.int .i64 r) ∧ w1.cell? ⟨w.heap.size, 2, none⟩ = some (.int .i64 0) ∧ w1.cell? ⟨w.heap.size, 3, none⟩ = some (.int .i64 s) ∧ w1.cell? ⟨w.heap.size, 4, none⟩ = some (.int .i64 t) := ⟨HO1.out.1.c0, HO1.out.1.c1, HO1.out.1.c2, HO1.out.1.c3, HO1.out.1.c4⟩
          refine (isCount_go f _).mono ?_
          rintro e w' ⟨rfl, rfl⟩
          rw [ECF.out]
          go_wp2_with fail
          refine (isCount_go s _).mono ?_
          rintro e w' ⟨rfl, rfl⟩
          rw [ECS.out]
          go_wp2_with fail
          have hbb : b = false := by rw [HB.out, ECF.out, ECS.out, ES.out]; simp
          have hx : x = 1 := by rw [HX.out, hbb]; rfl
          subst hx
          go_ret
          exact ⟨rfl, HO1.out.2⟩
        case pos =>
          subst hs
          by_cases hr : r = 0
          · subst hr
            cases hw : waits 0 0 t
            case false =>
              have EW : Hid (waits 0 0 t = false) := hw
              clear hw
              go_enter Try.func7, Try.ntmps7
              go_wp2_with fail
              have HO1 : Hid (One w _ (f, 0, 0, 0, t)) := one_new w f 0 0 0 t
              generalize w.alloc (.cells #[.int .i64 f, .int .i64 0, .int .i64 0, .int .i64 0, .int .i64 t] 23) = w1 at *
              obtain ⟨c0, c1, c2, c3, c4⟩ : w1.cell? ⟨w.heap.size, 0, none⟩ = some (.int .i64 f) ∧ w1.cell? ⟨w.heap.size, 1, none⟩ = some (.int .i64 0) ∧ w1.cell? ⟨w.heap.size, 2, none⟩ = some (.int .i64 0) ∧ w1.cell? ⟨w.heap.size, 3, none⟩ = some (.int .i64 0) ∧ w1.cell? ⟨w.heap.size, 4, none⟩ = some (.int .i64 t) := ⟨HO1.out.1.c0, HO1.out.1.c1, HO1.out.1.c2, HO1.out.1.c3, HO1.out.1.c4⟩
              refine (isCount_go f _).mono ?_
              rintro e w' ⟨rfl, rfl⟩
              rw [ECF.out]
              go_wp2_with fail
              refine (isCount_go 0 _).mono ?_
              rintro e w' ⟨rfl, rfl⟩
              rw [ECS.out]
              go_wp2_with fail
              refine (mayWait_go f 0 0 0 t _).mono ?_
              rintro e w2 ⟨rfl, hb⟩
              rw [EW.out]
              have HO2 : Hid (One w w2 (f, 0, 0, 0, t)) := HO1.out.below hb
              clear hb HO1 c0 c1 c2 c3 c4
              go_wp2_with fail
              have hbb : b = false := by rw [HB.out, ECF.out, ECS.out, EW.out]; simp
              have hx : x = 1 := by rw [HX.out, hbb]; rfl
              subst hx
              go_ret
              exact ⟨rfl, HO2.out.2⟩
            case true =>
              have EW : Hid (waits 0 0 t = true) := hw
              clear hw
              go_enter Try.func7, Try.ntmps7
              go_wp2_with fail
              have HO1 : Hid (One w _ (f, 0, 0, 0, t)) := one_new w f 0 0 0 t
              generalize w.alloc (.cells #[.int .i64 f, .int .i64 0, .int .i64 0, .int .i64 0, .int .i64 t] 23) = w1 at *
              obtain ⟨c0, c1, c2, c3, c4⟩ : w1.cell? ⟨w.heap.size, 0, none⟩ = some (.int .i64 f) ∧ w1.cell? ⟨w.heap.size, 1, none⟩ = some (.int .i64 0) ∧ w1.cell? ⟨w.heap.size, 2, none⟩ = some (.int .i64 0) ∧ w1.cell? ⟨w.heap.size, 3, none⟩ = some (.int .i64 0) ∧ w1.cell? ⟨w.heap.size, 4, none⟩ = some (.int .i64 t) := ⟨HO1.out.1.c0, HO1.out.1.c1, HO1.out.1.c2, HO1.out.1.c3, HO1.out.1.c4⟩
              refine (isCount_go f _).mono ?_
              rintro e w' ⟨rfl, rfl⟩
              rw [ECF.out]
              go_wp2_with fail
              refine (isCount_go 0 _).mono ?_
              rintro e w' ⟨rfl, rfl⟩
              rw [ECS.out]
              go_wp2_with fail
              refine (mayWait_go f 0 0 0 t _).mono ?_
              rintro e w2 ⟨rfl, hb⟩
              rw [EW.out]
              have HO2 : Hid (One w w2 (f, 0, 0, 0, t)) := HO1.out.below hb
              clear hb HO1 c0 c1 c2 c3 c4
              go_wp2_with fail
              have hbb : b = true := by rw [HB.out, ECF.out, ECS.out, EW.out]; simp
              have hx : x = 0 := by rw [HX.out, hbb]; rfl
              subst hx
              go_ret
              exact ⟨rfl, HO2.out.2⟩
          · have hr2 : (r == 0) = false := by simpa using hr
            have hr3 : (r != 0) = true := by simpa using hr
            have ER : Hid ((r == 0) = false) := hr2
            clear hr
            cases hlr : letter r
            case false =>
              have ELR : Hid (letter r = false) := hlr
              clear hlr
              go_enter Try.func7, Try.ntmps7
              go_wp2_with fail
              have HO1 : Hid (One w _ (f, r, 0, 0, t)) := one_new w f r 0 0 t
              generalize w.alloc (.cells #[.int .i64 f, .int .i64 r, .int .i64 0, .int .i64 0, .int .i64 t] 23) = w1 at *
              obtain ⟨c0, c1, c2, c3, c4⟩ : w1.cell? ⟨w.heap.size, 0, none⟩ = some (.int .i64 f) ∧ w1.cell? ⟨w.heap.size, 1, none⟩ = some (.int .i64 r) ∧ w1.cell? ⟨w.heap.size, 2, none⟩ = some (.int .i64 0) ∧ w1.cell? ⟨w.heap.size, 3, none⟩ = some (.int .i64 0) ∧ w1.cell? ⟨w.heap.size, 4, none⟩ = some (.int .i64 t) := ⟨HO1.out.1.c0, HO1.out.1.c1, HO1.out.1.c2, HO1.out.1.c3, HO1.out.1.c4⟩
              refine (isCount_go f _).mono ?_
              rintro e w' ⟨rfl, rfl⟩
              rw [ECF.out]
              go_wp2_with fail
              refine (isCount_go 0 _).mono ?_
              rintro e w' ⟨rfl, rfl⟩
              rw [ECS.out]
              go_wp2_with fail
              refine (isLetter_go r _).mono ?_
              rintro e w' ⟨rfl, rfl⟩
              rw [ELR.out]
              go_wp2_with fail
              have hbb : b = false := by rw [HB.out, ECF.out, ECS.out, ER.out, ELR.out]; simp
              have hx : x = 1 := by rw [HX.out, hbb]; rfl
              subst hx
              go_ret
              exact ⟨rfl, HO1.out.2⟩
            case true =>
              have ELR : Hid (letter r = true) := hlr
              clear hlr
              cases hw : waits r 0 t
              case false =>
                have EW : Hid (waits r 0 t = false) := hw
                clear hw
                go_enter Try.func7, Try.ntmps7
                go_wp2_with fail
                have HO1 : Hid (One w _ (f, r, 0, 0, t)) := one_new w f r 0 0 t
                generalize w.alloc (.cells #[.int .i64 f, .int .i64 r, .int .i64 0, .int .i64 0, .int .i64 t] 23) = w1 at *
                obtain ⟨c0, c1, c2, c3, c4⟩ : w1.cell? ⟨w.heap.size, 0, none⟩ = some (.int .i64 f) ∧ w1.cell? ⟨w.heap.size, 1, none⟩ = some (.int .i64 r) ∧ w1.cell? ⟨w.heap.size, 2, none⟩ = some (.int .i64 0) ∧ w1.cell? ⟨w.heap.size, 3, none⟩ = some (.int .i64 0) ∧ w1.cell? ⟨w.heap.size, 4, none⟩ = some (.int .i64 t) := ⟨HO1.out.1.c0, HO1.out.1.c1, HO1.out.1.c2, HO1.out.1.c3, HO1.out.1.c4⟩
                refine (isCount_go f _).mono ?_
                rintro e w' ⟨rfl, rfl⟩
                rw [ECF.out]
                go_wp2_with fail
                refine (isCount_go 0 _).mono ?_
                rintro e w' ⟨rfl, rfl⟩
                rw [ECS.out]
                go_wp2_with fail
                refine (isLetter_go r _).mono ?_
                rintro e w' ⟨rfl, rfl⟩
                rw [ELR.out]
                go_wp2_with fail
                refine (mayWait_go f r 0 0 t _).mono ?_
                rintro e w2 ⟨rfl, hb⟩
                rw [EW.out]
                have HO2 : Hid (One w w2 (f, r, 0, 0, t)) := HO1.out.below hb
                clear hb HO1 c0 c1 c2 c3 c4
                go_wp2_with fail
                have hbb : b = false := by rw [HB.out, ECF.out, ECS.out, EW.out, ER.out, ELR.out]; simp
                have hx : x = 1 := by rw [HX.out, hbb]; rfl
                subst hx
                go_ret
                exact ⟨rfl, HO2.out.2⟩
              case true =>
                have EW : Hid (waits r 0 t = true) := hw
                clear hw
                go_enter Try.func7, Try.ntmps7
                go_wp2_with fail
                have HO1 : Hid (One w _ (f, r, 0, 0, t)) := one_new w f r 0 0 t
                generalize w.alloc (.cells #[.int .i64 f, .int .i64 r, .int .i64 0, .int .i64 0, .int .i64 t] 23) = w1 at *
                obtain ⟨c0, c1, c2, c3, c4⟩ : w1.cell? ⟨w.heap.size, 0, none⟩ = some (.int .i64 f) ∧ w1.cell? ⟨w.heap.size, 1, none⟩ = some (.int .i64 r) ∧ w1.cell? ⟨w.heap.size, 2, none⟩ = some (.int .i64 0) ∧ w1.cell? ⟨w.heap.size, 3, none⟩ = some (.int .i64 0) ∧ w1.cell? ⟨w.heap.size, 4, none⟩ = some (.int .i64 t) := ⟨HO1.out.1.c0, HO1.out.1.c1, HO1.out.1.c2, HO1.out.1.c3, HO1.out.1.c4⟩
                refine (isCount_go f _).mono ?_
                rintro e w' ⟨rfl, rfl⟩
                rw [ECF.out]
                go_wp2_with fail
                refine (isCount_go 0 _).mono ?_
                rintro e w' ⟨rfl, rfl⟩
                rw [ECS.out]
                go_wp2_with fail
                refine (isLetter_go r _).mono ?_
                rintro e w' ⟨rfl, rfl⟩
                rw [ELR.out]
                go_wp2_with fail
                refine (mayWait_go f r 0 0 t _).mono ?_
                rintro e w2 ⟨rfl, hb⟩
                rw [EW.out]
                have HO2 : Hid (One w w2 (f, r, 0, 0, t)) := HO1.out.below hb
                clear hb HO1 c0 c1 c2 c3 c4
                go_wp2_with fail
                have hbb : b = true := by rw [HB.out, ECF.out, ECS.out, EW.out, ER.out, ELR.out]; simp
                have hx : x = 0 := by rw [HX.out, hbb]; rfl
                subst hx
                go_ret
                exact ⟨rfl, HO2.out.2⟩
      · have ho2 : (o == 0) = false := by simpa using ho
        by_cases hr : r = 0
        · subst hr
          have EO : Hid ((o == 0) = false) := ho2
          have ho3 : (o != 0) = true := by simpa using ho
          cases hop : has ops o
          case false =>
            have EOP : Hid (has (codes ⟨#[100, 99, 121]⟩) o = false) := hop
            have EOQ : Hid (has ops o = false) := hop
            clear hop ho
            go_enter Try.func7, Try.ntmps7
            go_wp2_with fail
            have HO1 : Hid (One w _ (f, 0, o, s, t)) := one_new w f 0 o s t
            generalize w.alloc (.cells #[.int .i64 f, .int .i64 0, .int .i64 o, .int .i64 s, .int .i64 t] 23) = w1 at *
            obtain ⟨c0, c1, c2, c3, c4⟩ : w1.cell? ⟨w.heap.size, 0, none⟩ = some (.int .i64 f) ∧ w1.cell? ⟨w.heap.size, 1, none⟩ = some (.int .i64 0) ∧ w1.cell? ⟨w.heap.size, 2, none⟩ = some (.int .i64 o) ∧ w1.cell? ⟨w.heap.size, 3, none⟩ = some (.int .i64 s) ∧ w1.cell? ⟨w.heap.size, 4, none⟩ = some (.int .i64 t) := ⟨HO1.out.1.c0, HO1.out.1.c1, HO1.out.1.c2, HO1.out.1.c3, HO1.out.1.c4⟩
            refine (isCount_go f _).mono ?_
            rintro e w' ⟨rfl, rfl⟩
            rw [ECF.out]
            go_wp2_with fail
            refine (isCount_go s _).mono ?_
            rintro e w' ⟨rfl, rfl⟩
            rw [ECS.out]
            go_wp2_with fail
            refine (among_go ⟨#[100, 99, 121]⟩ o false _ (ascii_of (by decide)) (by decide) EOP.out).mono ?_
            rintro e w2 ⟨rfl, hb⟩
            have HO2 : Hid (One w w2 (f, 0, o, s, t)) := HO1.out.below hb
            clear hb HO1 c0 c1 c2 c3 c4
            obtain ⟨c0, c1, c2, c3, c4⟩ : w2.cell? ⟨w.heap.size, 0, none⟩ = some (.int .i64 f) ∧ w2.cell? ⟨w.heap.size, 1, none⟩ = some (.int .i64 0) ∧ w2.cell? ⟨w.heap.size, 2, none⟩ = some (.int .i64 o) ∧ w2.cell? ⟨w.heap.size, 3, none⟩ = some (.int .i64 s) ∧ w2.cell? ⟨w.heap.size, 4, none⟩ = some (.int .i64 t) := ⟨HO2.out.1.c0, HO2.out.1.c1, HO2.out.1.c2, HO2.out.1.c3, HO2.out.1.c4⟩
            go_wp2_with fail
            have hbb : b = false := by rw [HB.out, ECF.out, ECS.out, EO.out, EOQ.out]; simp
            have hx : x = 1 := by rw [HX.out, hbb]; rfl
            subst hx
            go_ret
            exact ⟨rfl, HO2.out.2⟩
          case true =>
            have EOP : Hid (has (codes ⟨#[100, 99, 121]⟩) o = true) := hop
            have EOQ : Hid (has ops o = true) := hop
            clear hop ho
            cases hw : waits 0 o t
            case false =>
              have EW : Hid (waits 0 o t = false) := hw
              clear hw
              go_enter Try.func7, Try.ntmps7
              go_wp2_with fail
              have HO1 : Hid (One w _ (f, 0, o, s, t)) := one_new w f 0 o s t
              generalize w.alloc (.cells #[.int .i64 f, .int .i64 0, .int .i64 o, .int .i64 s, .int .i64 t] 23) = w1 at *
              obtain ⟨c0, c1, c2, c3, c4⟩ : w1.cell? ⟨w.heap.size, 0, none⟩ = some (.int .i64 f) ∧ w1.cell? ⟨w.heap.size, 1, none⟩ = some (.int .i64 0) ∧ w1.cell? ⟨w.heap.size, 2, none⟩ = some (.int .i64 o) ∧ w1.cell? ⟨w.heap.size, 3, none⟩ = some (.int .i64 s) ∧ w1.cell? ⟨w.heap.size, 4, none⟩ = some (.int .i64 t) := ⟨HO1.out.1.c0, HO1.out.1.c1, HO1.out.1.c2, HO1.out.1.c3, HO1.out.1.c4⟩
              refine (isCount_go f _).mono ?_
              rintro e w' ⟨rfl, rfl⟩
              rw [ECF.out]
              go_wp2_with fail
              refine (isCount_go s _).mono ?_
              rintro e w' ⟨rfl, rfl⟩
              rw [ECS.out]
              go_wp2_with fail
              refine (among_go ⟨#[100, 99, 121]⟩ o true _ (ascii_of (by decide)) (by decide) EOP.out).mono ?_
              rintro e w2 ⟨rfl, hb⟩
              have HO2 : Hid (One w w2 (f, 0, o, s, t)) := HO1.out.below hb
              clear hb HO1 c0 c1 c2 c3 c4
              obtain ⟨c0, c1, c2, c3, c4⟩ : w2.cell? ⟨w.heap.size, 0, none⟩ = some (.int .i64 f) ∧ w2.cell? ⟨w.heap.size, 1, none⟩ = some (.int .i64 0) ∧ w2.cell? ⟨w.heap.size, 2, none⟩ = some (.int .i64 o) ∧ w2.cell? ⟨w.heap.size, 3, none⟩ = some (.int .i64 s) ∧ w2.cell? ⟨w.heap.size, 4, none⟩ = some (.int .i64 t) := ⟨HO2.out.1.c0, HO2.out.1.c1, HO2.out.1.c2, HO2.out.1.c3, HO2.out.1.c4⟩
              go_wp2_with fail
              refine (mayWait_go f 0 o s t _).mono ?_
              rintro e w3 ⟨rfl, hb⟩
              rw [EW.out]
              have HO3 : Hid (One w w3 (f, 0, o, s, t)) := HO2.out.below hb
              clear hb HO2 c0 c1 c2 c3 c4
              go_wp2_with fail
              have hbb : b = false := by rw [HB.out, ECF.out, ECS.out, EW.out, EO.out, EOQ.out]; simp
              have hx : x = 1 := by rw [HX.out, hbb]; rfl
              subst hx
              go_ret
              exact ⟨rfl, HO3.out.2⟩
            case true =>
              have EW : Hid (waits 0 o t = true) := hw
              clear hw
              go_enter Try.func7, Try.ntmps7
              go_wp2_with fail
              have HO1 : Hid (One w _ (f, 0, o, s, t)) := one_new w f 0 o s t
              generalize w.alloc (.cells #[.int .i64 f, .int .i64 0, .int .i64 o, .int .i64 s, .int .i64 t] 23) = w1 at *
              obtain ⟨c0, c1, c2, c3, c4⟩ : w1.cell? ⟨w.heap.size, 0, none⟩ = some (.int .i64 f) ∧ w1.cell? ⟨w.heap.size, 1, none⟩ = some (.int .i64 0) ∧ w1.cell? ⟨w.heap.size, 2, none⟩ = some (.int .i64 o) ∧ w1.cell? ⟨w.heap.size, 3, none⟩ = some (.int .i64 s) ∧ w1.cell? ⟨w.heap.size, 4, none⟩ = some (.int .i64 t) := ⟨HO1.out.1.c0, HO1.out.1.c1, HO1.out.1.c2, HO1.out.1.c3, HO1.out.1.c4⟩
              refine (isCount_go f _).mono ?_
              rintro e w' ⟨rfl, rfl⟩
              rw [ECF.out]
              go_wp2_with fail
              refine (isCount_go s _).mono ?_
              rintro e w' ⟨rfl, rfl⟩
              rw [ECS.out]
              go_wp2_with fail
              refine (among_go ⟨#[100, 99, 121]⟩ o true _ (ascii_of (by decide)) (by decide) EOP.out).mono ?_
              rintro e w2 ⟨rfl, hb⟩
              have HO2 : Hid (One w w2 (f, 0, o, s, t)) := HO1.out.below hb
              clear hb HO1 c0 c1 c2 c3 c4
              obtain ⟨c0, c1, c2, c3, c4⟩ : w2.cell? ⟨w.heap.size, 0, none⟩ = some (.int .i64 f) ∧ w2.cell? ⟨w.heap.size, 1, none⟩ = some (.int .i64 0) ∧ w2.cell? ⟨w.heap.size, 2, none⟩ = some (.int .i64 o) ∧ w2.cell? ⟨w.heap.size, 3, none⟩ = some (.int .i64 s) ∧ w2.cell? ⟨w.heap.size, 4, none⟩ = some (.int .i64 t) := ⟨HO2.out.1.c0, HO2.out.1.c1, HO2.out.1.c2, HO2.out.1.c3, HO2.out.1.c4⟩
              go_wp2_with fail
              refine (mayWait_go f 0 o s t _).mono ?_
              rintro e w3 ⟨rfl, hb⟩
              rw [EW.out]
              have HO3 : Hid (One w w3 (f, 0, o, s, t)) := HO2.out.below hb
              clear hb HO2 c0 c1 c2 c3 c4
              go_wp2_with fail
              have hbb : b = true := by rw [HB.out, ECF.out, ECS.out, EW.out, EO.out, EOQ.out]; simp
              have hx : x = 0 := by rw [HX.out, hbb]; rfl
              subst hx
              go_ret
              exact ⟨rfl, HO3.out.2⟩
        · have hr2 : (r == 0) = false := by simpa using hr
          have hr3 : (r != 0) = true := by simpa using hr
          have ER : Hid ((r == 0) = false) := hr2
          clear hr
          cases hlr : letter r
          case false =>
            have ELR : Hid (letter r = false) := hlr
            clear hlr
            go_enter Try.func7, Try.ntmps7
            go_wp2_with fail
            have HO1 : Hid (One w _ (f, r, o, s, t)) := one_new w f r o s t
            generalize w.alloc (.cells #[.int .i64 f, .int .i64 r, .int .i64 o, .int .i64 s, .int .i64 t] 23) = w1 at *
            obtain ⟨c0, c1, c2, c3, c4⟩ : w1.cell? ⟨w.heap.size, 0, none⟩ = some (.int .i64 f) ∧ w1.cell? ⟨w.heap.size, 1, none⟩ = some (.int .i64 r) ∧ w1.cell? ⟨w.heap.size, 2, none⟩ = some (.int .i64 o) ∧ w1.cell? ⟨w.heap.size, 3, none⟩ = some (.int .i64 s) ∧ w1.cell? ⟨w.heap.size, 4, none⟩ = some (.int .i64 t) := ⟨HO1.out.1.c0, HO1.out.1.c1, HO1.out.1.c2, HO1.out.1.c3, HO1.out.1.c4⟩
            refine (isCount_go f _).mono ?_
            rintro e w' ⟨rfl, rfl⟩
            rw [ECF.out]
            go_wp2_with fail
            refine (isCount_go s _).mono ?_
            rintro e w' ⟨rfl, rfl⟩
            rw [ECS.out]
            go_wp2_with fail
            refine (isLetter_go r _).mono ?_
            rintro e w' ⟨rfl, rfl⟩
            rw [ELR.out]
            go_wp2_with fail
            have hbb : b = false := by rw [HB.out, ECF.out, ECS.out, ER.out, ELR.out]; simp
            have hx : x = 1 := by rw [HX.out, hbb]; rfl
            subst hx
            go_ret
            exact ⟨rfl, HO1.out.2⟩
          case true =>
            have ELR : Hid (letter r = true) := hlr
            clear hlr
            have EO : Hid ((o == 0) = false) := ho2
            have ho3 : (o != 0) = true := by simpa using ho
            cases hop : has ops o
            case false =>
              have EOP : Hid (has (codes ⟨#[100, 99, 121]⟩) o = false) := hop
              have EOQ : Hid (has ops o = false) := hop
              clear hop ho
              go_enter Try.func7, Try.ntmps7
              go_wp2_with fail
              have HO1 : Hid (One w _ (f, r, o, s, t)) := one_new w f r o s t
              generalize w.alloc (.cells #[.int .i64 f, .int .i64 r, .int .i64 o, .int .i64 s, .int .i64 t] 23) = w1 at *
              obtain ⟨c0, c1, c2, c3, c4⟩ : w1.cell? ⟨w.heap.size, 0, none⟩ = some (.int .i64 f) ∧ w1.cell? ⟨w.heap.size, 1, none⟩ = some (.int .i64 r) ∧ w1.cell? ⟨w.heap.size, 2, none⟩ = some (.int .i64 o) ∧ w1.cell? ⟨w.heap.size, 3, none⟩ = some (.int .i64 s) ∧ w1.cell? ⟨w.heap.size, 4, none⟩ = some (.int .i64 t) := ⟨HO1.out.1.c0, HO1.out.1.c1, HO1.out.1.c2, HO1.out.1.c3, HO1.out.1.c4⟩
              refine (isCount_go f _).mono ?_
              rintro e w' ⟨rfl, rfl⟩
              rw [ECF.out]
              go_wp2_with fail
              refine (isCount_go s _).mono ?_
              rintro e w' ⟨rfl, rfl⟩
              rw [ECS.out]
              go_wp2_with fail
              refine (isLetter_go r _).mono ?_
              rintro e w' ⟨rfl, rfl⟩
              rw [ELR.out]
              go_wp2_with fail
              refine (among_go ⟨#[100, 99, 121]⟩ o false _ (ascii_of (by decide)) (by decide) EOP.out).mono ?_
              rintro e w2 ⟨rfl, hb⟩
              have HO2 : Hid (One w w2 (f, r, o, s, t)) := HO1.out.below hb
              clear hb HO1 c0 c1 c2 c3 c4
              obtain ⟨c0, c1, c2, c3, c4⟩ : w2.cell? ⟨w.heap.size, 0, none⟩ = some (.int .i64 f) ∧ w2.cell? ⟨w.heap.size, 1, none⟩ = some (.int .i64 r) ∧ w2.cell? ⟨w.heap.size, 2, none⟩ = some (.int .i64 o) ∧ w2.cell? ⟨w.heap.size, 3, none⟩ = some (.int .i64 s) ∧ w2.cell? ⟨w.heap.size, 4, none⟩ = some (.int .i64 t) := ⟨HO2.out.1.c0, HO2.out.1.c1, HO2.out.1.c2, HO2.out.1.c3, HO2.out.1.c4⟩
              go_wp2_with fail
              have hbb : b = false := by rw [HB.out, ECF.out, ECS.out, EO.out, EOQ.out, ER.out, ELR.out]; simp
              have hx : x = 1 := by rw [HX.out, hbb]; rfl
              subst hx
              go_ret
              exact ⟨rfl, HO2.out.2⟩
            case true =>
              have EOP : Hid (has (codes ⟨#[100, 99, 121]⟩) o = true) := hop
              have EOQ : Hid (has ops o = true) := hop
              clear hop ho
              cases hw : waits r o t
              case false =>
                have EW : Hid (waits r o t = false) := hw
                clear hw
                go_enter Try.func7, Try.ntmps7
                go_wp2_with fail
                have HO1 : Hid (One w _ (f, r, o, s, t)) := one_new w f r o s t
                generalize w.alloc (.cells #[.int .i64 f, .int .i64 r, .int .i64 o, .int .i64 s, .int .i64 t] 23) = w1 at *
                obtain ⟨c0, c1, c2, c3, c4⟩ : w1.cell? ⟨w.heap.size, 0, none⟩ = some (.int .i64 f) ∧ w1.cell? ⟨w.heap.size, 1, none⟩ = some (.int .i64 r) ∧ w1.cell? ⟨w.heap.size, 2, none⟩ = some (.int .i64 o) ∧ w1.cell? ⟨w.heap.size, 3, none⟩ = some (.int .i64 s) ∧ w1.cell? ⟨w.heap.size, 4, none⟩ = some (.int .i64 t) := ⟨HO1.out.1.c0, HO1.out.1.c1, HO1.out.1.c2, HO1.out.1.c3, HO1.out.1.c4⟩
                refine (isCount_go f _).mono ?_
                rintro e w' ⟨rfl, rfl⟩
                rw [ECF.out]
                go_wp2_with fail
                refine (isCount_go s _).mono ?_
                rintro e w' ⟨rfl, rfl⟩
                rw [ECS.out]
                go_wp2_with fail
                refine (isLetter_go r _).mono ?_
                rintro e w' ⟨rfl, rfl⟩
                rw [ELR.out]
                go_wp2_with fail
                refine (among_go ⟨#[100, 99, 121]⟩ o true _ (ascii_of (by decide)) (by decide) EOP.out).mono ?_
                rintro e w2 ⟨rfl, hb⟩
                have HO2 : Hid (One w w2 (f, r, o, s, t)) := HO1.out.below hb
                clear hb HO1 c0 c1 c2 c3 c4
                obtain ⟨c0, c1, c2, c3, c4⟩ : w2.cell? ⟨w.heap.size, 0, none⟩ = some (.int .i64 f) ∧ w2.cell? ⟨w.heap.size, 1, none⟩ = some (.int .i64 r) ∧ w2.cell? ⟨w.heap.size, 2, none⟩ = some (.int .i64 o) ∧ w2.cell? ⟨w.heap.size, 3, none⟩ = some (.int .i64 s) ∧ w2.cell? ⟨w.heap.size, 4, none⟩ = some (.int .i64 t) := ⟨HO2.out.1.c0, HO2.out.1.c1, HO2.out.1.c2, HO2.out.1.c3, HO2.out.1.c4⟩
                go_wp2_with fail
                refine (mayWait_go f r o s t _).mono ?_
                rintro e w3 ⟨rfl, hb⟩
                rw [EW.out]
                have HO3 : Hid (One w w3 (f, r, o, s, t)) := HO2.out.below hb
                clear hb HO2 c0 c1 c2 c3 c4
                go_wp2_with fail
                have hbb : b = false := by rw [HB.out, ECF.out, ECS.out, EW.out, EO.out, EOQ.out, ER.out, ELR.out]; simp
                have hx : x = 1 := by rw [HX.out, hbb]; rfl
                subst hx
                go_ret
                exact ⟨rfl, HO3.out.2⟩
              case true =>
                have EW : Hid (waits r o t = true) := hw
                clear hw
                go_enter Try.func7, Try.ntmps7
                go_wp2_with fail
                have HO1 : Hid (One w _ (f, r, o, s, t)) := one_new w f r o s t
                generalize w.alloc (.cells #[.int .i64 f, .int .i64 r, .int .i64 o, .int .i64 s, .int .i64 t] 23) = w1 at *
                obtain ⟨c0, c1, c2, c3, c4⟩ : w1.cell? ⟨w.heap.size, 0, none⟩ = some (.int .i64 f) ∧ w1.cell? ⟨w.heap.size, 1, none⟩ = some (.int .i64 r) ∧ w1.cell? ⟨w.heap.size, 2, none⟩ = some (.int .i64 o) ∧ w1.cell? ⟨w.heap.size, 3, none⟩ = some (.int .i64 s) ∧ w1.cell? ⟨w.heap.size, 4, none⟩ = some (.int .i64 t) := ⟨HO1.out.1.c0, HO1.out.1.c1, HO1.out.1.c2, HO1.out.1.c3, HO1.out.1.c4⟩
                refine (isCount_go f _).mono ?_
                rintro e w' ⟨rfl, rfl⟩
                rw [ECF.out]
                go_wp2_with fail
                refine (isCount_go s _).mono ?_
                rintro e w' ⟨rfl, rfl⟩
                rw [ECS.out]
                go_wp2_with fail
                refine (isLetter_go r _).mono ?_
                rintro e w' ⟨rfl, rfl⟩
                rw [ELR.out]
                go_wp2_with fail
                refine (among_go ⟨#[100, 99, 121]⟩ o true _ (ascii_of (by decide)) (by decide) EOP.out).mono ?_
                rintro e w2 ⟨rfl, hb⟩
                have HO2 : Hid (One w w2 (f, r, o, s, t)) := HO1.out.below hb
                clear hb HO1 c0 c1 c2 c3 c4
                obtain ⟨c0, c1, c2, c3, c4⟩ : w2.cell? ⟨w.heap.size, 0, none⟩ = some (.int .i64 f) ∧ w2.cell? ⟨w.heap.size, 1, none⟩ = some (.int .i64 r) ∧ w2.cell? ⟨w.heap.size, 2, none⟩ = some (.int .i64 o) ∧ w2.cell? ⟨w.heap.size, 3, none⟩ = some (.int .i64 s) ∧ w2.cell? ⟨w.heap.size, 4, none⟩ = some (.int .i64 t) := ⟨HO2.out.1.c0, HO2.out.1.c1, HO2.out.1.c2, HO2.out.1.c3, HO2.out.1.c4⟩
                go_wp2_with fail
                refine (mayWait_go f r o s t _).mono ?_
                rintro e w3 ⟨rfl, hb⟩
                rw [EW.out]
                have HO3 : Hid (One w w3 (f, r, o, s, t)) := HO2.out.below hb
                clear hb HO2 c0 c1 c2 c3 c4
                go_wp2_with fail
                have hbb : b = true := by rw [HB.out, ECF.out, ECS.out, EW.out, EO.out, EOQ.out, ER.out, ELR.out]; simp
                have hx : x = 0 := by rw [HX.out, hbb]; rfl
                subst hx
                go_ret
                exact ⟨rfl, HO3.out.2⟩
end Go.Proofs.Ytjpgjhdkgmddfaa.Seek
