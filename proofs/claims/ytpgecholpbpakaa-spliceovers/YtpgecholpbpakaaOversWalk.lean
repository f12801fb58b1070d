/- The walk of SpliceOvers. -/
import Derived.Test.YtpgecholpbpakaaOverGo
import Derived.Test.YtpgecholpbpakaaRefOver
import Derived.Test.YtpgecholpbpakaaRefErr
import Derived.Test.YtpgecholpbpakaaSameGo
set_option linter.unusedVariables false
set_option linter.unusedSimpArgs false
namespace Go.Proofs.Ytpgecholpbpakaa.Seek
open Go.RowKit Plain

set_option maxRecDepth 100000 in
set_option maxHeartbeats 4000000 in
theorem overs_walk (v1 v2 : Value) (es fs : List Spl) (n : Int) (ahead : Bool) (w : World) (h1 : ReadsE w v1 es) (h2 : ReadsE w v2 fs) (_ : es.length * 40 ≤ 140737488351232) (_ : fs.length * 40 ≤ 140737488351232) :
    Calls Try.prog 4 #[.int .i64 n, v1, v2, .bool ahead] w fun e w' => e = .returned (.bool true) ∧ Below w.heap.size w w' := by
  have H1 : Hid (∀ wx, Below w.heap.size w wx → ReadsE wx v1 es) := fun wx hb => h1.below hb
  have H2 : Hid (∀ wx, Below w.heap.size w wx → ReadsE wx v2 fs) := fun wx hb => h2.below hb
  clear h1 h2
  by_cases hc : chk2 n es fs = 0
  · have hc1 : chk n es = 0 := by
      unfold chk2 at hc
      by_cases h : chk n es = 0
      · exact h
      · rw [if_pos h] at hc
        exact hc
    have hc2 : chk n fs = 0 := by
      unfold chk2 at hc
      rw [if_neg (fun h => h hc1)] at hc
      exact hc
    obtain ⟨k, a, rfl, rfl, ha⟩ := fits_of_chk hc1
    obtain ⟨k2, b, hk2, rfl, hb⟩ := fits_of_chk hc2
    obtain rfl : k = k2 := by omega
    have HA : Hid (Fits k a) := ha
    have HB : Hid (Fits k b) := hb
    clear hc hc1 hc2 ha hb hk2
    go_enter Try.func4, Try.ntmps4
    go_wp2_with fail
    refine (over_ok _ _ k a b ahead w (H1.out w (Below.refl _ _)) (H2.out w (Below.refl _ _)) HA.out HB.out).mono ?_
    rintro e w1 ⟨hb1, o1, rfl, ho1⟩
    have HB1 : Hid (Below w.heap.size w w1) := hb1
    have HO1 : Hid (ReadsE w1 o1 (ups (ovr k a b ahead))) := ho1.reads
    clear hb1 ho1
    go_wp2_with fail
    refine (editErr_any _ _ (ups a) w1 (H1.out w1 HB1.out)).mono ?_
    rw [HA.out.chk]
    rintro e w2 ⟨rfl, hb2⟩
    have HB2 : Hid (Below w.heap.size w w2) := below_trans HB1.out hb2 HB1.out.size
    have HO2 : Hid (ReadsE w2 o1 (ups (ovr k a b ahead))) := HO1.out.below hb2
    clear hb2 HB1 HO1
    go_wp2_with fail
    refine (editErr_any _ _ (ups b) w2 (H2.out w2 HB2.out)).mono ?_
    rw [HB.out.chk]
    rintro e w3 ⟨rfl, hb3⟩
    have HB3 : Hid (Below w.heap.size w w3) := below_trans HB2.out hb3 HB2.out.size
    have HO3 : Hid (ReadsE w3 o1 (ups (ovr k a b ahead))) := HO2.out.below hb3
    clear hb3 HB2 HO2
    go_wp2_with fail
    refine (refover_any _ _ k a b ahead w3 (H1.out w3 HB3.out) (H2.out w3 HB3.out) HA.out HB.out).mono ?_
    rintro e w4 ⟨hb4, o4, rfl, ho4⟩
    have HB4 : Hid (Below w.heap.size w w4) := below_trans HB3.out hb4 HB3.out.size
    have HO4 : Hid (ReadsE w4 o1 (ups (ovr k a b ahead))) := HO3.out.below hb4
    have HP4 : Hid (ReadsE w4 o4 (ups (ovr k a b ahead))) := ho4.reads
    clear hb4 ho4 HB3 HO3
    go_wp2_with fail
    refine (same_any _ _ _ _ w4 HO4.out HP4.out).mono ?_
    rw [decide_eq_true rfl]
    rintro e w5 ⟨rfl, hb5⟩
    have HB5 : Hid (Below w.heap.size w w5) := below_trans HB4.out hb5 HB4.out.size
    clear hb5 HB4 HO4 HP4
    go_wp2_with fail
    go_ret
    exact ⟨rfl, HB5.out⟩
  · have HC : Hid (chk2 n es fs = if chk n es ≠ 0 then chk n es else chk n fs) := rfl
    obtain ⟨c, hC⟩ : ∃ c, c = chk2 n es fs := ⟨_, rfl⟩
    have hcb : (c != 0) = true := by rw [hC]; simpa using hc
    have hce : (c == c) = true := by simp
    have HCc : Hid (c = chk2 n es fs) := hC
    have Hne : Hid (chk2 n es fs ≠ 0) := hc
    clear hc hC
    go_enter Try.func4, Try.ntmps4
    go_wp2_with fail
    refine (over_err _ _ n es fs ahead w (H1.out w (Below.refl _ _)) (H2.out w (Below.refl _ _)) Hne.out).mono ?_
    rw [← HCc.out]
    rintro e w1 ⟨hb1, rfl⟩
    have HB1 : Hid (Below w.heap.size w w1) := hb1
    clear hb1
    go_wp2_with fail
    refine (editErr_any _ _ es w1 (H1.out w1 HB1.out)).mono ?_
    by_cases hc1 : chk n es = 0
    · have HC2 : Hid (c = chk n fs) := by
        show _ = _
        rw [HCc.out, HC.out, if_neg (fun h => h hc1)]
      rw [hc1]
      rintro e w2 ⟨rfl, hb2⟩
      have HB2 : Hid (Below w.heap.size w w2) := below_trans HB1.out hb2 HB1.out.size
      clear hb2 HB1 hc1 HC HCc Hne
      go_wp2_with fail
      refine (editErr_any _ _ fs w2 (H2.out w2 HB2.out)).mono ?_
      rw [← HC2.out]
      rintro e w3 ⟨rfl, hb3⟩
      have HB3 : Hid (Below w.heap.size w w3) := below_trans HB2.out hb3 HB2.out.size
      clear hb3 HB2
      go_wp2_with fail
      go_ret
      exact ⟨rfl, HB3.out⟩
    · have HC2 : Hid (c = chk n es) := by
        show _ = _
        rw [HCc.out, HC.out, if_pos hc1]
      have hcz : (c == 0) = false := by simpa using hcb
      rw [← HC2.out]
      rintro e w2 ⟨rfl, hb2⟩
      have HB2 : Hid (Below w.heap.size w w2) := below_trans HB1.out hb2 HB1.out.size
      clear hb2 HB1 hc1 HC HCc Hne
      go_wp2_with fail
      go_ret
      exact ⟨rfl, HB2.out⟩
end Go.Proofs.Ytpgecholpbpakaa.Seek
