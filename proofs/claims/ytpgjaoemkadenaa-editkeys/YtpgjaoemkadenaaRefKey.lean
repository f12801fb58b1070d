/- The document's Key, and SameLine. -/
import Derived.Test.YtpgjaoemkadenaaRefKey1
import Derived.Test.YtpgjaoemkadenaaRefKey2
import Derived.Test.YtpgjaoemkadenaaRefKey3
import Derived.Test.YtpgjaoemkadenaaRefKey4
import Derived.Test.YtpgjaoemkadenaaRefKey5
import Derived.Test.YtpgjaoemkadenaaRefKey6
import Derived.Test.YtpgjaoemkadenaaRefKey7
import Derived.Test.YtpgjaoemkadenaaRefKey8
set_option linter.unusedVariables false
set_option linter.unusedSimpArgs false
set_option maxRecDepth 100000
namespace Go.Proofs.Ytpgjaoemkadenaa.Seek
open Go.RowKit Plain















theorem refKey_go (v : Value) (zs : List Int) (k mode key : Int) (w : World) (h : Reads w v zs) :
    Calls Try.prog 9 #[.agg #[v, .int .i64 k], .int .i64 mode, .int .i64 key] w fun e w' => LineRead (keyd zs k mode key) w e w' := by
  obtain ⟨a, cap, rfl⟩ := h.shape
  unfold keyd
  by_cases hc : tchk zs.length k mode = 0
  · rw [if_neg (by omega)]
    obtain ⟨hl, ⟨j, hj, hjl⟩, hm⟩ := tchk_zero hc
    subst hj
    rw [Int.toNat_natCast]
    by_cases h1 : 32 ≤ key ∧ key ≠ 127
    · rw [if_pos h1]
      unfold tpd
      by_cases hm2 : mode = 2
      · by_cases hjk : j < zs.length
        · rw [show ovr zs.length j mode = j + 1 by unfold ovr; rw [if_pos hm2]; omega]
          rw [if_neg (by rw [wit_len zs j (j + 1) [key] (by omega) (by omega)]; show ¬ 200 < j + 1 + _; omega)]
          by_cases hc1 : cap - j = 1
          · exact refKey_ovr1 a cap zs j mode key w h hjl hl hjk hc1 h1.1 h1.2 hm2 _ rfl
          · exact refKey_ovr2 a cap zs j mode key w h hjl hl hjk hc1 h1.1 h1.2 hm2 _ rfl
        · rw [show ovr zs.length j mode = j by unfold ovr; rw [if_pos hm2]; omega]
          have e := wit_len zs j j [key] (Nat.le_refl _) hjl
          by_cases hf : zs.length = 200
          · rw [if_pos (by rw [e]; show 200 < j + 1 + _; omega)]
            exact refKey_full2 a cap zs j mode key w h hjl hf (by omega) h1.1 h1.2 hm2
          · rw [if_neg (by rw [e]; show ¬ 200 < j + 1 + _; omega)]
            exact refKey_end a cap zs j mode key w h hjl hl hf (by omega) h1.1 h1.2 hm2 _ rfl
      · rw [show ovr zs.length j mode = j from if_neg hm2]
        have e := wit_len zs j j [key] (Nat.le_refl _) hjl
        by_cases hf : zs.length = 200
        · rw [if_pos (by rw [e]; show 200 < j + 1 + _; omega)]
          exact refKey_full1 a cap zs j mode key w h hjl hf h1.1 h1.2 (by omega)
        · rw [if_neg (by rw [e]; show ¬ 200 < j + 1 + _; omega)]
          exact refKey_ins a cap zs j mode key w h hjl hl hf h1.1 h1.2 (by omega) _ rfl
    · rw [if_neg h1]
      cases hr : rub key with
      | false =>
        rw [if_pos rfl]
        exact refKey_none a cap zs j mode key w h hjl hl hm (by omega) hr
      | true =>
        rw [if_neg (by decide)]
        by_cases hk0 : (j : Int) = 0
        · rw [if_pos hk0]
          exact refKey_first a cap zs j mode key w h hjl hl hm (by omega) hr (by omega)
        · rw [if_neg hk0]
          have hj0 : 0 < j := by omega
          unfold rbd
          by_cases h21 : key = 21
          · rw [if_neg (by omega), show rbf zs j key = 0 from if_pos h21]
            exact refKey_all a cap zs j mode key w h hj0 hjl hl hm h21 _ rfl
          · by_cases h23 : key = 23
            · obtain ⟨e1, e2⟩ := back_low zs j hjl (by omega) false
              have e3 : (down (bgn zs false) j : Int) = ((back zs (j : Int) false).toNat : Int) := by
                rw [← e1]
                unfold back
                rw [if_pos (chk_right (by omega) hjl), Int.toNat_natCast]
              rw [if_neg (by omega), show rbf zs j key = (back zs (j : Int) false).toNat by unfold rbf; rw [if_neg h21, if_pos h23]]
              exact refKey_word a cap zs j mode key w h hj0 hjl hl hm h23 _ _ e3 e2 rfl
            · have hkk : key = 8 ∨ key = 127 := by have := rub_cases hr; omega
              by_cases hm2 : mode = 2
              · rw [if_pos ⟨h21, h23, hm2⟩]
                exact refKey_stay a cap zs j mode key w h hj0 hjl hl hm2 hkk
              · rw [if_neg (by omega), show rbf zs j key = j - 1 by unfold rbf; rw [if_neg h21, if_neg h23]]
                have := refKey_one a cap zs j mode key w h hj0 hjl hl (by omega) hkk _ rfl
                rw [show (((j - 1 : Nat) : Nat) : Int) = (j : Int) - 1 by omega]
                exact this
  · rw [if_pos hc]
    unfold tchk at hc ⊢
    by_cases h1 : 200 < zs.length
    · rw [if_pos h1]
      exact refKey_large a cap zs k mode key w h (by omega)
    · rw [if_neg h1] at hc ⊢
      by_cases h2 : k < 0 ∨ (zs.length : Int) < k ∨ (mode ≠ 1 ∧ mode ≠ 2)
      · rw [if_pos h2]
        by_cases h3 : k < 0
        · exact refKey_low a cap zs k mode key w h (by omega) h3
        · by_cases h4 : (zs.length : Int) < k
          · exact refKey_high a cap zs k mode key w h (by omega) h3 h4
          · exact refKey_mode a cap zs k mode key w h (by omega) h3 h4 (by omega) (by omega)
      · rw [if_neg h2] at hc
        exact absurd rfl hc

set_option maxHeartbeats 400000 in
theorem sameLine_yes (v1 v2 : Value) (xs : List Int) (k : Int) (w : World) (h1 : Reads w v1 xs) (h2 : Reads w v2 xs) :
    Calls Try.prog 10 #[.agg #[v1, .int .i64 k], .agg #[v2, .int .i64 k]] w fun e w' => e = .returned (.bool true) ∧ Below w.heap.size w w' := by
  have hm1 : xs.length ≤ maxLen := by rcases h1 with ⟨_, _, _, rfl⟩ | ⟨_, _, cap, _, g1, g2, _⟩ <;> first | decide | omega
  obtain ⟨a1, c1, rfl⟩ := h1.shape
  obtain ⟨a2, c2, rfl⟩ := h2.shape
  have H1 : Hid (∀ wx, Below w.heap.size w wx → Reads wx (.slice a1 xs.length c1) xs) := fun wx hx => h1.below hx
  have H2 : Hid (∀ wx, Below w.heap.size w wx → Reads wx (.slice a2 xs.length c2) xs) := fun wx hx => h2.below hx
  have HM : Hid (xs.length ≤ maxLen) := hm1
  clear h1 h2 hm1
  go_enter Try.func10, Try.ntmps10
  go_wp2_with fail
  have HB : Hid (Below w.heap.size w ((w.alloc (.cells #[.slice a1 xs.length c1, .int .i64 k] 24)).alloc (.cells #[.slice a2 xs.length c2, .int .i64 k] 24))) := (box_below _ _).alloc (by rw [size_alloc]; omega) _
  refine (equal_any _ _ xs xs _ (H1.out _ HB.out) (H2.out _ HB.out) HM.out HM.out).mono ?_
  rw [beq_self_eq_true]
  rintro e w1 ⟨rfl, q, hq⟩
  have HB1 : Hid (Below w.heap.size w w1) := by rw [hq]; exact below_drewN HB.out q
  clear hq HB
  go_wp2_with fail
  go_ret
  exact ⟨rfl, HB1.out⟩

set_option maxHeartbeats 1000000 in
theorem keys_walk (v : Value) (zs : List Int) (k mode key : Int) (w : World) (h : Reads w v zs) :
    Calls Try.prog 3 #[.agg #[v, .int .i64 k], .int .i64 mode, .int .i64 key] w fun e w' => e = .returned (.bool true) ∧ Below w.heap.size w w' := by
  obtain ⟨a, cap, rfl⟩ := h.shape
  have HV : Hid (∀ wx, Below w.heap.size w wx → Reads wx (.slice a zs.length cap) zs) := fun wx hx => h.below hx
  obtain ⟨R, hR⟩ : ∃ R, R = keyd zs k mode key := ⟨_, rfl⟩
  have HR : Hid (R = keyd zs k mode key) := hR
  clear h hR
  go_enter Try.func3, Try.ntmps3
  go_wp2_with fail
  have HA1 : Hid (BoxC (w.alloc (.cells #[.slice a zs.length cap, .int .i64 k] 24)) 24 w.heap.size [.slice a zs.length cap, .int .i64 k]) := BoxC.new _ _ _
  refine (key_go (.slice a zs.length cap) zs k mode key _ (HV.out _ (box_below _ _))).mono ?_
  rw [← HR.out]
  rintro e w2 ⟨hb, v2, rfl, ho⟩
  have HB2 : Hid (Below w.heap.size w w2) := below_trans (box_below _ _) hb (box_below _ _).size
  have HA2 : Hid (BoxC w2 24 w.heap.size [.slice a zs.length cap, .int .i64 k]) := HA1.out.below hb
  have HX2 : Hid (∀ wx, Below w2.heap.size w2 wx → Reads wx v2 R.1) := fun wx hx => ho.reads.below hx
  obtain ⟨a2, c2, hv2⟩ := ho.reads.shape
  subst hv2
  clear hb ho HA1
  have c0 : ∀ o, (w2.alloc o).cell? ⟨w.heap.size, 0, none⟩ = some (.slice a zs.length cap) := fun o => ((HA2.out.alloc o).cell 0).trans rfl
  have c1 : ∀ o, (w2.alloc o).cell? ⟨w.heap.size, 1, none⟩ = some (.int .i64 k) := fun o => ((HA2.out.alloc o).cell 1).trans rfl
  go_wp2_with fail
  obtain ⟨w3, hw3⟩ : ∃ w3, w3 = w2.alloc (.cells #[.slice a2 R.1.length c2, .int .i64 R.2.1] 24) := ⟨_, rfl⟩
  rw [← hw3]
  have HC3 : Hid (BoxC w3 24 w2.heap.size [.slice a2 R.1.length c2, .int .i64 R.2.1]) := by rw [hw3]; exact BoxC.new _ _ _
  have HB23 : Hid (Below w2.heap.size w2 w3) := by rw [hw3]; exact box_below _ _
  clear hw3 c0 c1 HA2
  refine (refKey_go (.slice a zs.length cap) zs k mode key _ (HV.out _ (below_trans HB2.out HB23.out HB2.out.size))).mono ?_
  rw [← HR.out]
  rintro e w4 ⟨hb, v4, rfl, ho⟩
  have HB24 : Hid (Below w2.heap.size w2 w4) := below_trans HB23.out hb HB23.out.size
  have HB4 : Hid (Below w.heap.size w w4) := below_trans HB2.out HB24.out HB2.out.size
  have HC4 : Hid (BoxC w4 24 w2.heap.size [.slice a2 R.1.length c2, .int .i64 R.2.1]) := HC3.out.below hb
  have HY4 : Hid (∀ wx, Below w4.heap.size w4 wx → Reads wx v4 R.1) := fun wx hx => ho.below hx
  obtain ⟨a4, c4, hv4⟩ := ho.shape
  subst hv4
  clear hb ho HC3 HB23
  have d0 : ∀ o, (w4.alloc o).cell? ⟨w2.heap.size, 0, none⟩ = some (.slice a2 R.1.length c2) := fun o => ((HC4.out.alloc o).cell 0).trans rfl
  have d1 : ∀ o, (w4.alloc o).cell? ⟨w2.heap.size, 1, none⟩ = some (.int .i64 R.2.1) := fun o => ((HC4.out.alloc o).cell 1).trans rfl
  go_wp2_with fail
  have HB5 : Hid (Below w4.heap.size w4 (w4.alloc (.cells #[.slice a4 R.1.length c4, .int .i64 R.2.1] 24))) := box_below _ _
  refine (sameLine_yes _ _ R.1 R.2.1 _ (HX2.out _ (below_trans HB24.out HB5.out HB24.out.size)) (HY4.out _ HB5.out)).mono ?_
  rintro e w6 ⟨rfl, hb⟩
  have HB6 : Hid (Below w.heap.size w w6) := below_trans HB4.out (below_trans HB5.out hb HB5.out.size) HB4.out.size
  clear hb d0 d1
  go_wp2_with fail
  go_ret
  exact ⟨rfl, HB6.out⟩

end Go.Proofs.Ytpgjaoemkadenaa.Seek
