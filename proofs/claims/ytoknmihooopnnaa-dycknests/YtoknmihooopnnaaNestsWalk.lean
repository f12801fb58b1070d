/- The walk of DyckNests. -/
import Derived.Test.YtoknmihooopnnaaPairsWalk
import Derived.BigQuiet
import Derived.Test.YtoknmihooopnnaaLists
import Derived.Test.YtoknmihooopnnaaOf
set_option linter.unusedVariables false
set_option linter.unusedSimpArgs false
namespace Go.Proofs.Ytoknmihooopnnaa.Seek
open Go.RowKit Plain

theorem pairs_given2 : pairs (codes ⟨#[40, 40, 41, 41]⟩) = [3, 2, 1, 0] := by decide
theorem drew_more {w4 ws : World} (h : ∃ q, ws = w4.drewN q) (n : Nat) : ∃ q, ws.drewN n = w4.drewN q := by
  obtain ⟨q, rfl⟩ := h
  exact ⟨q + n, by unfold World.drewN; simp [Nat.add_assoc]⟩
set_option maxRecDepth 100000 in
set_option maxHeartbeats 4000000 in
theorem nests_walk (v : Value) (zs : List Int) (w : World) (hp : Reads w v zs) (hpr : zs.length * 8 ≤ 140737488351232) :
    Calls Try.prog 5 #[v] w fun e w' => e = .returned (.bool true) ∧ Below w.heap.size w w' := by
  obtain ⟨a1, c1, hv1⟩ := hp.shape
  subst hv1
  have Hp : Hid (Reads w (.slice a1 zs.length c1) zs) := hp
  clear hp
  have Hpm : Hid (zs.length ≤ maxLen) := by show zs.length ≤ maxLen; unfold maxLen; omega
  go_enter Try.func5, Try.ntmps5
  go_wp2_with fail
  refine (of_any ⟨#[40, 40, 41, 41]⟩ w (by decide)).mono ?_
  rintro e w1 ⟨hb1, v1, rfl, hown1⟩
  have hr1 := owned_reads hown1
  clear hown1
  go_wp2_with fail
  refine (pairs_any _ _ w1 hr1 (by decide)).mono ?_
  rintro e w2 ⟨hb2, h⟩
  obtain ⟨_, vb, rfl, hrb⟩ := h.resolve_left (fun h => absurd h.1 (by decide))
  clear h
  rw [pairs_given2] at hrb
  have Hrb : Hid (Reads w2 vb [3, 2, 1, 0]) := hrb
  have hB2 := below_trans hb1 hb2 hb1.size
  clear hrb hr1 hb1 hb2
  go_wp2_with fail
  refine (equal_any _ _ [3, 2, 1, 0] [3, 2, 1, 0] _ (Hrb.out.below ((Below.refl _ _).alloc (Nat.le_refl _) _)) (reads_new w2 [3, 2, 1, 0] (by decide)) (by decide) (by decide)).mono ?_
  rintro e w3 ⟨rfl, q3, hw3⟩
  have hB3 : Below w.heap.size w w3 := by rw [hw3]; exact below_drewN (hB2.alloc hB2.size _) q3
  rw [beq_self_eq_true]
  clear hw3 Hrb hB2
  go_wp2_with fail
  refine (pairs_any _ zs w3 (Hp.out.below hB3) Hpm.out).mono ?_
  rintro e w4 ⟨hb4, ⟨hl, rfl⟩ | ⟨hl, vb2, rfl, hrb⟩⟩
  · have hB4 := below_trans hB3 hb4 hB3.size
    go_wp2_with fail
    go_ret
    exact ⟨rfl, hB4⟩
  · have hB4 := below_trans hB3 hb4 hB3.size
    obtain ⟨a3, c3, hvb⟩ := hrb.shape
    subst hvb
    rw [pairs_len] at hrb ⊢
    have Hp4 : Hid (Reads w4 (.slice a1 zs.length c1) zs) := Hp.out.below hB4
    have Hrb : Hid (Reads w4 (.slice a3 zs.length c3) (pairs zs)) := hrb
    clear hrb hb4 hB3
    by_cases hp0 : zs.length = 0
    · rw [hp0]
      go_wp2_with fail
      refine wp_loop_rounds 1 ?_
      rw [rounds_succ]
      go_wp2_with fail
      go_ret
      exact ⟨rfl, hB4⟩
    · rcases Hp4.out with ⟨_, _, _, rfl⟩ | ⟨b, o, c, he, hcap, hcm, hblt, hc⟩
      · exact absurd rfl hp0
      · rcases Hrb.out with ⟨_, _, _, h0⟩ | ⟨bb, bo, cc, heb, _, _, hbblt, hcb⟩
        · have := pairs_len zs
          rw [h0] at this
          exact absurd this.symm hp0
        · simp only [Value.slice.injEq] at he heb
          obtain ⟨rfl, hx1, rfl⟩ := he
          obtain ⟨rfl, hx2, rfl⟩ := heb
          clear hx1 hx2
          have Hc : Hid (∀ j, j < zs.length → w4.cell? ⟨b, o + j, none⟩ = some (.int .i64 (fn zs j))) := hc
          have Hcb : Hid (∀ j, j < zs.length → w4.cell? ⟨bb, bo + j, none⟩ = some (.int .i64 (par (fn zs) zs.length j))) := fun j hj => by
            have h := hcb j (by rw [pairs_len]; exact hj)
            rw [pairs_get zs j hj] at h
            exact h
          have Hhold : Hid (Holds (fn zs) zs.length) := holds _ _
          clear hc hcb Hrb Hp4 Hp Hpm
          go_wp2_with fail
          go_loopw [36] (fun u36 wr => ∃ k : Nat, u36 = .int .i64 (k : Int) ∧ k ≤ zs.length ∧ Hid (∃ q, wr = w4.drewN q)) (fun u36 _ => zs.length - (intOf u36).toNat)
          case atStart => exact ⟨0, rfl, by omega, ⟨0, rfl⟩⟩
          case round =>
            obtain ⟨k, rfl, hk, Hq⟩ := hrel
            by_cases hlt : k < zs.length
            · have hcy : wr.cell? ⟨bb, bo + k, none⟩ = some (.int .i64 (par (fn zs) zs.length k)) := by obtain ⟨q, hq⟩ := Hq.out; rw [hq]; exact Hcb.out k hlt
              generalize hA : par (fn zs) zs.length k = A at *
              have HA : Hid (par (fn zs) zs.length k = A) := hA
              clear hA
              go_wp2_with fail
              clear hcy
              go_loopw [43] (fun u43 ws => ∃ m : Nat, u43 = .int .i64 (m : Int) ∧ m ≤ zs.length ∧ Hid (∃ q, ws = w4.drewN q)) (fun u43 _ => zs.length - (intOf u43).toNat)
              case atStart => exact ⟨0, rfl, by omega, Hq.out⟩
              case round =>
                obtain ⟨m, rfl, hm, Hq2⟩ := hrel
                by_cases hmlt : m < zs.length
                · have hcz : wr.cell? ⟨bb, bo + m, none⟩ = some (.int .i64 (par (fn zs) zs.length m)) := by obtain ⟨q, hq⟩ := Hq2.out; rw [hq]; exact Hcb.out m hmlt
                  have hcm : wr.cell? ⟨b, o + m, none⟩ = some (.int .i64 (fn zs m)) := by obtain ⟨q, hq⟩ := Hq2.out; rw [hq]; exact Hc.out m hmlt
                  have hck : wr.cell? ⟨b, o + k, none⟩ = some (.int .i64 (fn zs k)) := by obtain ⟨q, hq⟩ := Hq2.out; rw [hq]; exact Hc.out k hlt
                  have Hno : Hid ((k : Int) < (m : Int) → (m : Int) < A → (m : Int) < par (fn zs) zs.length m → fn zs k = fn zs m → par (fn zs) zs.length m ≤ A) := by
                    intro h1 h2 h3 h4
                    have h5 := HA.out
                    rcases Hhold.out.told k hlt with h6 | ⟨a, ha, hpa, _, _, hor⟩
                    · rw [h6] at h5
                      omega
                    · rw [hpa] at h5
                      have hop : opens (fn zs k) = true := by
                        rcases hor with h | h
                        · omega
                        · exact h.1
                      obtain ⟨b, hb, hba⟩ := Hhold.out.nest k m a (by omega) hmlt hop h4 hpa (by omega)
                      rw [hb]
                      omega
                  generalize par (fn zs) zs.length m = B at *
                  generalize fn zs k = x at *
                  generalize fn zs m = y at *
                  by_cases g1 : (k : Int) < (m : Int)
                  · have d1 : decide (k < m) = true := decide_eq_true (by omega)
                    by_cases g2 : (m : Int) < A
                    · have d2 : decide ((m : Int) < A) = true := decide_eq_true g2
                      by_cases g3 : (m : Int) < B
                      · have d3 : decide (B > (m : Int)) = true := decide_eq_true g3
                        by_cases g4 : x = y
                        · have d5 : decide (B > A) = false := decide_eq_false (by have := Hno.out g1 g2 g3 g4; omega)
                          subst g4
                          have d4 : (x == x) = true := by simp
                          clear g1 g2 g3
                          go_wp2_with fail
                          go_quiet (fail)
                          go_wp2_with fail
                          go_roundw
                          case rel => exact ⟨m + 1, by go_num, by omega, drew_more Hq2.out _⟩
                          case measure => simp [intOf]; omega
                        · have d4 : (x == y) = false := by simpa using g4
                          clear g1 g2 g3 g4
                          go_wp2_with fail
                          go_quiet (fail)
                          go_wp2_with fail
                          go_roundw
                          case rel => exact ⟨m + 1, by go_num, by omega, drew_more Hq2.out _⟩
                          case measure => simp [intOf]; omega
                      · have d3 : decide (B > (m : Int)) = false := decide_eq_false (by omega)
                        clear g1 g2 g3
                        go_wp2_with fail
                        go_quiet (fail)
                        go_wp2_with fail
                        go_roundw
                        case rel => exact ⟨m + 1, by go_num, by omega, drew_more Hq2.out _⟩
                        case measure => simp [intOf]; omega
                    · have d2 : decide ((m : Int) < A) = false := decide_eq_false g2
                      clear g1 g2
                      go_wp2_with fail
                      go_quiet (fail)
                      go_wp2_with fail
                      go_roundw
                      case rel => exact ⟨m + 1, by go_num, by omega, drew_more Hq2.out _⟩
                      case measure => simp [intOf]; omega
                  · have d1 : decide (k < m) = false := decide_eq_false (by omega)
                    clear g1
                    go_wp2_with fail
                    go_quiet (fail)
                    go_wp2_with fail
                    go_roundw
                    case rel => exact ⟨m + 1, by go_num, by omega, drew_more Hq2.out _⟩
                    case measure => simp [intOf]; omega
                · obtain rfl : m = zs.length := by omega
                  go_wp2_with fail
                  go_roundw
                  case rel => exact ⟨k + 1, by go_num, by omega, Hq2.out⟩
                  case measure => simp [intOf]; omega
            · obtain rfl : k = zs.length := by omega
              have hBr : Below w.heap.size w wr := by obtain ⟨q, hq⟩ := Hq.out; rw [hq]; exact below_drewN hB4 q
              go_wp2_with fail
              go_ret
              exact ⟨rfl, hBr⟩
end Go.Proofs.Ytoknmihooopnnaa.Seek
