/- The walk of DyckPairs. -/
import Derived.Test.YtoknmihooopnnaaPairsGo
import Derived.Test.YtoknmihooopnnaaLists
import Derived.Test.YtoknmihooopnnaaOf
set_option linter.unusedVariables false
set_option linter.unusedSimpArgs false
namespace Go.Proofs.Ytoknmihooopnnaa.Seek
open Go.RowKit Plain

theorem pairs_given1 : pairs (codes ⟨#[40, 97, 93]⟩) = [-1, -1, -1] := by decide
theorem pairs_get (zs : List Int) (j : Nat) (h : j < zs.length) : (pairs zs).getD j 0 = par (fn zs) zs.length j := rowOf_get _ _ _ h

set_option maxRecDepth 100000 in
set_option maxHeartbeats 4000000 in
theorem pairs_walk (v : Value) (zs : List Int) (w : World) (hp : Reads w v zs) (hpr : zs.length * 8 ≤ 140737488351232) :
    Calls Try.prog 4 #[v] w fun e w' => e = .returned (.bool true) ∧ Below w.heap.size w w' := by
  obtain ⟨a1, c1, hv1⟩ := hp.shape
  subst hv1
  have Hp : Hid (Reads w (.slice a1 zs.length c1) zs) := hp
  clear hp
  have Hpm : Hid (zs.length ≤ maxLen) := by show zs.length ≤ maxLen; unfold maxLen; omega
  go_enter Try.func4, Try.ntmps4
  go_wp2_with fail
  refine (of_any ⟨#[40, 97, 93]⟩ w (by decide)).mono ?_
  rintro e w1 ⟨hb1, v1, rfl, hown1⟩
  have hr1 := owned_reads hown1
  clear hown1
  go_wp2_with fail
  refine (pairs_any _ _ w1 hr1 (by decide)).mono ?_
  rintro e w2 ⟨hb2, h⟩
  obtain ⟨_, vb, rfl, hrb⟩ := h.resolve_left (fun h => absurd h.1 (by decide))
  clear h
  rw [pairs_given1] at hrb
  have Hrb : Hid (Reads w2 vb [-1, -1, -1]) := hrb
  have hB2 := below_trans hb1 hb2 hb1.size
  clear hrb hr1 hb1 hb2
  go_wp2_with fail
  refine (equal_any _ _ [-1, -1, -1] [-1, -1, -1] _ (Hrb.out.below ((Below.refl _ _).alloc (Nat.le_refl _) _)) (reads_new w2 [-1, -1, -1] (by decide)) (by decide) (by decide)).mono ?_
  rintro e w3 ⟨rfl, q3, hw3⟩
  have hB3 : Below w.heap.size w w3 := by rw [hw3]; exact below_drewN (hB2.alloc hB2.size _) q3
  rw [beq_self_eq_true]
  clear hw3 Hrb hB2
  go_wp2_with fail
  refine (pairs_any _ zs w3 (Hp.out.below hB3) Hpm.out).mono ?_
  rintro e w4 ⟨hb4, ⟨hl, rfl⟩ | ⟨hl, vb2, rfl, hrb⟩⟩
  · have hB4 := below_trans hB3 hb4 hB3.size
    have hl2 : decide (0 < zs.length) = true := by simp; omega
    go_wp2_with fail
    go_ret
    exact ⟨rfl, hB4⟩
  · have hB4 := below_trans hB3 hb4 hB3.size
    obtain ⟨a3, c3, hvb⟩ := hrb.shape
    subst hvb
    rw [pairs_len] at hrb ⊢
    have Hp4 : Hid (Reads w4 (.slice a1 zs.length c1) zs) := Hp.out.below hB4
    have Hrb : Hid (Reads w4 (.slice a3 zs.length c3) (pairs zs)) := hrb
    clear hrb hb4 hB3
    by_cases hp0 : zs.length = 0
    · rw [hp0]
      go_wp2_with fail
      refine wp_loop_rounds 1 ?_
      rw [rounds_succ]
      go_wp2_with fail
      go_ret
      exact ⟨rfl, hB4⟩
    · rcases Hp4.out with ⟨_, _, _, rfl⟩ | ⟨b, o, c, he, hcap, hcm, hblt, hc⟩
      · exact absurd rfl hp0
      · rcases Hrb.out with ⟨_, _, _, h0⟩ | ⟨bb, bo, cc, heb, _, _, hbblt, hcb⟩
        · have := pairs_len zs
          rw [h0] at this
          exact absurd this.symm hp0
        · simp only [Value.slice.injEq] at he heb
          obtain ⟨rfl, hx1, rfl⟩ := he
          obtain ⟨rfl, hx2, rfl⟩ := heb
          clear hx1 hx2
          have Hc : Hid (∀ j, j < zs.length → w4.cell? ⟨b, o + j, none⟩ = some (.int .i64 (fn zs j))) := hc
          have Hcb : Hid (∀ j, j < zs.length → w4.cell? ⟨bb, bo + j, none⟩ = some (.int .i64 (par (fn zs) zs.length j))) := fun j hj => by
            have h := hcb j (by rw [pairs_len]; exact hj)
            rw [pairs_get zs j hj] at h
            exact h
          have Hhold : Hid (Holds (fn zs) zs.length) := holds _ _
          clear hc hcb Hrb Hp4 Hp Hpm
          go_wp2_with fail
          go_loop [48] (fun u48 => ∃ k : Nat, u48 = .int .i64 (k : Int) ∧ k ≤ zs.length) (fun u48 => zs.length - (intOf u48).toNat)
          case atStart => exact ⟨0, rfl, by omega⟩
          case round =>
            obtain ⟨k, rfl, hk⟩ := hrel
            by_cases hlt : k < zs.length
            · have hcx := Hc.out k hlt
              have hcy := Hcb.out k hlt
              have Ht := Hhold.out.told k hlt
              generalize hx : fn zs k = x at *
              rcases Ht with hm | ⟨i, hi, hpi, hpk, hki, hor⟩
              · rw [hm] at hcy
                go_wp2_with fail
                refine (kind_go _ _).mono ?_
                rintro e w2 ⟨rfl, hw2⟩
                rw [hw2]
                clear hw2 w2
                go_wp2_with fail
                go_round
                case rel => exact ⟨k + 1, by go_num, by omega⟩
                case measure => simp [intOf]; omega
              · rw [hpi] at hcy
                have hcz := Hc.out i hi
                have hcw := Hcb.out i hi
                rw [hpk] at hcw
                rw [← hki] at hcz
                have hkz : (kind x == 0) = false := by
                  rcases hor with h | h
                  · rcases shuts_cases h.1 with h | h | h <;> rw [h] <;> decide
                  · rcases opens_cases h.1 with h | h | h <;> rw [h] <;> decide
                have hsx : shuts x = decide ((i : Int) < (k : Int)) := by
                  rcases hor with h | h
                  · rw [h.1]
                    have := h.2.2
                    simp
                    omega
                  · have := h.2.2
                    rcases sort x with h4 | h4 | h4
                    · rw [h4.2.1]
                      simp
                      omega
                    · rw [h4.1] at h; cases h.1
                    · rw [h4.1] at h; cases h.1
                clear hor hpi hpk hki hx
                go_wp2_with fail
                refine (kind_go _ _).mono ?_
                rintro e w2 ⟨rfl, hw2⟩
                rw [hw2]
                clear hw2 w2
                rw [hsx]
                clear hsx
                generalize kind x = kx at *
                have hi2 : (i : Int) < (zs.length : Int) := by omega
                go_wp2_with fail
                go_round
                case rel => exact ⟨k + 1, by go_num, by omega⟩
                case measure => simp [intOf]; omega
            · obtain rfl : k = zs.length := by omega
              go_wp2_with fail
              go_ret
              exact ⟨rfl, hB4⟩
end Go.Proofs.Ytoknmihooopnnaa.Seek
