/- Texts of one claim, one behind the other: ORunGo, OWordsGo. -/
import Derived.Test.YtpgjaoemkadenaaM06
import Derived.Deep.RegionWith
/- The contracts of object.isBlank, object.run and the document's runOf. -/
set_option linter.unusedVariables false
set_option linter.unusedSimpArgs false
set_option maxRecDepth 100000
namespace Go.Proofs.Ytpgjaoemkadenaa.Seek
open Go.RowKit Plain

theorem blank_go (b off cap n : Nat) (x : Int) (i : Nat) (z : Int) (bg : Bool) (w : World) (hx : x = (i : Int)) (hi : i < n) (hn : n ≤ 4096) (hc : w.cell? ⟨b, off + i, none⟩ = some (.int .i64 z)) :
    Calls Try.prog 82 #[.slice (some ⟨b, off, none⟩) n cap, .int .i64 x, .bool bg] w fun e w' => e = .returned (.bool (kind z bg == 0)) ∧ w' = w := by
  subst hx
  have hI : (i : Int) < (n : Int) := by omega
  go_enter Try.func82, Try.ntmps82
  go_wp2_with fail
  refine (kind_go z bg w).mono ?_
  rintro e w1 ⟨rfl, hw1⟩
  rw [hw1]
  clear hw1 w1
  go_wp2_with fail
  go_ret
  exact ⟨rfl, rfl⟩

set_option maxHeartbeats 1000000 in
theorem run_go (b off cap : Nat) (zs : List Int) (x : Int) (k : Nat) (bg : Bool) (w : World) (hx : x = (k : Int)) (hk : k < zs.length) (hn : zs.length ≤ 4096)
    (hc : ∀ j, j < zs.length → w.cell? ⟨b, off + j, none⟩ = some (.int .i64 (zs.getD j 0))) :
    Calls Try.prog 81 #[.slice (some ⟨b, off, none⟩) zs.length cap, .int .i64 x, .bool bg] w fun e w' => e = .returned (.tuple #[.int .i64 (rlo zs bg k : Int), .int .i64 (rhi zs bg k : Int)]) ∧ w' = w := by
  subst hx
  have Hc : Hid (∀ j, j < zs.length → w.cell? ⟨b, off + j, none⟩ = some (.int .i64 (zs.getD j 0))) := hc
  obtain ⟨A, hA⟩ : ∃ A, A = rlo zs bg k := ⟨_, rfl⟩
  obtain ⟨Z, hZ⟩ : ∃ Z, Z = rhi zs bg k := ⟨_, rfl⟩
  rw [← hA, ← hZ]
  have HA : Hid (lo (same zs bg k) k = A) := hA.symm
  have HZ : Hid (hi (same zs bg k) zs.length (k + 1) = Z) := hZ.symm
  have hck := hc k hk
  obtain ⟨z, hz⟩ : ∃ z, z = zs.getD k 0 := ⟨_, rfl⟩
  rw [← hz] at hck
  obtain ⟨K, hK⟩ : ∃ K, K = kind z bg := ⟨_, rfl⟩
  have HK : Hid (kind z bg = K) := hK.symm
  have HS : Hid (∀ i, same zs bg k i = (kind (zs.getD i 0) bg == K)) := fun i => by unfold same kd; rw [hK, hz]
  clear hA hZ hc hz hK
  have hI : (k : Int) < (zs.length : Int) := by omega
  go_enter Try.func81, Try.ntmps81
  go_wp2_with fail
  refine (kind_go z bg w).mono ?_
  rintro e w1 ⟨rfl, hw1⟩
  rw [hw1, HK.out]
  clear hw1 w1 HK hck hI
  go_wp2_with fail
  go_loop [9] (fun u9 => ∃ m : Nat, u9 = .int .i64 (m : Int) ∧ m ≤ k ∧ Hid (lo (same zs bg k) m = A)) (fun u9 => (intOf u9).toNat)
  case atStart => exact ⟨k, rfl, by omega, HA.out⟩
  case round =>
    obtain ⟨m, rfl, hm, Hm⟩ := hrel
    by_cases h0 : m = 0
    · have HA0 : Hid (A = 0) := by rw [← Hm.out, h0]; rfl
      subst h0
      clear Hm HA
      go_wp2_with fail
      go_loop [10] (fun u10 => ∃ m : Nat, u10 = .int .i64 (m : Int) ∧ m ≤ zs.length ∧ Hid (hi (same zs bg k) zs.length m = Z)) (fun u10 => zs.length - (intOf u10).toNat)
      case atStart => exact ⟨k + 1, by go_num, by omega, HZ.out⟩
      case round =>
        obtain ⟨m2, rfl, hm2, Hm⟩ := hrel
        by_cases hlt : m2 < zs.length
        · have hI : (m2 : Int) < (zs.length : Int) := by omega
          have hcx := Hc.out m2 hlt
          have hs := HS.out m2
          generalize zs.getD m2 0 = y at hcx hs
          obtain ⟨Y, hY⟩ : ∃ Y, Y = kind y bg := ⟨_, rfl⟩
          have HY : Hid (kind y bg = Y) := hY.symm
          rw [← hY] at hs
          clear hY
          cases hq : Y == K with
          | true =>
            have Hm2 : Hid (hi (same zs bg k) zs.length (m2 + 1) = Z) := (hi_hit hlt (hs.trans hq)).symm.trans Hm.out
            clear Hm hs
            go_wp2_with fail
            refine (kind_go y bg w).mono ?_
            rintro e w1 ⟨rfl, hw1⟩
            rw [hw1, HY.out]
            clear hw1 w1
            go_wp2_with fail
            go_round
            case rel => exact ⟨m2 + 1, by go_num, by omega, Hm2.out⟩
            case measure => simp [intOf]; omega
          | false =>
            have Hm2 : Hid (m2 = Z) := (hi_miss hlt (hs.trans hq)).symm.trans Hm.out
            clear Hm hs
            go_wp2_with fail
            refine (kind_go y bg w).mono ?_
            rintro e w1 ⟨rfl, hw1⟩
            rw [hw1, HY.out]
            clear hw1 w1
            go_wp2_with fail
            go_ret2
            rw [HA0.out, ← Hm2.out]
            exact ⟨rfl, rfl⟩
        · have hI : (zs.length : Int) ≤ (m2 : Int) := by omega
          have Hm2 : Hid (m2 = Z) := (hi_done (by omega)).symm.trans Hm.out
          clear Hm
          go_wp2_with fail
          all_goals (
            go_ret2
            rw [HA0.out, ← Hm2.out]
            exact ⟨by first | rfl | (congr; omega), rfl⟩)
    · obtain ⟨j, rfl⟩ : ∃ j, m = j + 1 := ⟨m - 1, by omega⟩
      have hcx := Hc.out j (by omega)
      have hs := HS.out j
      generalize zs.getD j 0 = y at hcx hs
      obtain ⟨Y, hY⟩ : ∃ Y, Y = kind y bg := ⟨_, rfl⟩
      have HY : Hid (kind y bg = Y) := hY.symm
      rw [← hY] at hs
      clear hY
      have hI : (j : Int) < (zs.length : Int) := by omega
      cases hq : Y == K with
      | true =>
        have Hm2 : Hid (lo (same zs bg k) j = A) := (lo_hit (hs.trans hq)).symm.trans Hm.out
        clear Hm hs
        go_wp2_with fail
        refine (kind_go y bg w).mono ?_
        rintro e w1 ⟨rfl, hw1⟩
        rw [hw1, HY.out]
        clear hw1 w1
        go_wp2_with fail
        go_round
        case rel => exact ⟨j, by go_num, by omega, Hm2.out⟩
        case measure => simp [intOf]; try omega
      | false =>
        have HA0 : Hid (A = j + 1) := Hm.out.symm.trans (lo_miss (hs.trans hq))
        clear Hm hs
        go_wp2_with fail
        refine (kind_go y bg w).mono ?_
        rintro e w1 ⟨rfl, hw1⟩
        rw [hw1, HY.out]
        clear hw1 w1 hcx HY hI
        go_wp2_with fail
        go_loop [10] (fun u10 => ∃ m : Nat, u10 = .int .i64 (m : Int) ∧ m ≤ zs.length ∧ Hid (hi (same zs bg k) zs.length m = Z)) (fun u10 => zs.length - (intOf u10).toNat)
        case atStart => exact ⟨k + 1, by go_num, by omega, HZ.out⟩
        case round =>
          obtain ⟨m2, rfl, hm2, Hm⟩ := hrel
          by_cases hlt : m2 < zs.length
          · have hI : (m2 : Int) < (zs.length : Int) := by omega
            have hcx := Hc.out m2 hlt
            have hs := HS.out m2
            generalize zs.getD m2 0 = y at hcx hs
            obtain ⟨Y, hY⟩ : ∃ Y, Y = kind y bg := ⟨_, rfl⟩
            have HY : Hid (kind y bg = Y) := hY.symm
            rw [← hY] at hs
            clear hY
            cases hq : Y == K with
            | true =>
              have Hm2 : Hid (hi (same zs bg k) zs.length (m2 + 1) = Z) := (hi_hit hlt (hs.trans hq)).symm.trans Hm.out
              clear Hm hs
              go_wp2_with fail
              refine (kind_go y bg w).mono ?_
              rintro e w1 ⟨rfl, hw1⟩
              rw [hw1, HY.out]
              clear hw1 w1
              go_wp2_with fail
              go_round
              case rel => exact ⟨m2 + 1, by go_num, by omega, Hm2.out⟩
              case measure => simp [intOf]; omega
            | false =>
              have Hm2 : Hid (m2 = Z) := (hi_miss hlt (hs.trans hq)).symm.trans Hm.out
              clear Hm hs
              go_wp2_with fail
              refine (kind_go y bg w).mono ?_
              rintro e w1 ⟨rfl, hw1⟩
              rw [hw1, HY.out]
              clear hw1 w1
              go_wp2_with fail
              go_ret2
              rw [HA0.out, ← Hm2.out]
              exact ⟨rfl, rfl⟩
          · have hI : (zs.length : Int) ≤ (m2 : Int) := by omega
            have Hm2 : Hid (m2 = Z) := (hi_done (by omega)).symm.trans Hm.out
            clear Hm
            go_wp2_with fail
            all_goals (
              go_ret2
              rw [HA0.out, ← Hm2.out]
              exact ⟨by first | rfl | (congr; omega), rfl⟩)
end Go.Proofs.Ytpgjaoemkadenaa.Seek

/- The contract of object.words. -/
set_option linter.unusedVariables false
set_option linter.unusedSimpArgs false
set_option maxRecDepth 100000
namespace Go.Proofs.Ytpgjaoemkadenaa.Seek
open Go.RowKit Plain

theorem words_none (a : Option Addr) (cap : Nat) (k : Int) (ar bg : Bool) (w : World) :
    Calls Try.prog 68 #[.slice a 0 cap, .int .i64 k, .bool ar, .bool bg] w fun e w' => e = .returned (.tuple #[.int .i64 0, .int .i64 0, .int .i64 6]) ∧ w' = w := by
  go_enter Try.func68, Try.ntmps68
  go_wp2_with fail
  go_ret3
  exact ⟨rfl, rfl⟩

set_option maxHeartbeats 2000000 in
theorem words_some (b off cap : Nat) (zs : List Int) (k : Nat) (ar bg : Bool) (w : World) (hk : k < zs.length) (hn : zs.length ≤ 4096)
    (hc : ∀ j, j < zs.length → w.cell? ⟨b, off + j, none⟩ = some (.int .i64 (zs.getD j 0))) :
    Calls Try.prog 68 #[.slice (some ⟨b, off, none⟩) zs.length cap, .int .i64 (k : Int), .bool ar, .bool bg] w fun e w' => e = .returned (.tuple #[.int .i64 ((wrd zs bg ar k).1 : Int), .int .i64 ((wrd zs bg ar k).2 : Int), .int .i64 0]) ∧ w' = w := by
  have Hc : Hid (∀ j, j < zs.length → w.cell? ⟨b, off + j, none⟩ = some (.int .i64 (zs.getD j 0))) := hc
  obtain ⟨A, hA⟩ : ∃ A, A = rlo zs bg k := ⟨_, rfl⟩
  obtain ⟨Z, hZ⟩ : ∃ Z, Z = rhi zs bg k := ⟨_, rfl⟩
  obtain ⟨R1, h1⟩ : ∃ R1, R1 = (wrd zs bg ar k).1 := ⟨_, rfl⟩
  obtain ⟨R2, h2⟩ : ∃ R2, R2 = (wrd zs bg ar k).2 := ⟨_, rfl⟩
  rw [← h1, ← h2]
  obtain ⟨hA1, hZ1, hZ2, hAZ⟩ := run_spec (b := bg) hk
  have hAk : kd zs bg A = kd zs bg k := by rw [hA]; exact hAZ _ (Nat.le_refl _) (by omega)
  rw [← hA] at hA1
  rw [← hZ] at hZ1 hZ2
  have Hrun : Hid (∀ x (i : Nat), x = (i : Int) → i < zs.length → Calls Try.prog 81 #[.slice (some ⟨b, off, none⟩) zs.length cap, .int .i64 x, .bool bg] w fun e w' => e = .returned (.tuple #[.int .i64 (rlo zs bg i : Int), .int .i64 (rhi zs bg i : Int)]) ∧ w' = w) := fun x i hx hi => run_go b off cap zs x i bg w hx hi hn hc
  have Hbl : Hid (∀ x (i : Nat), x = (i : Int) → i < zs.length → Calls Try.prog 82 #[.slice (some ⟨b, off, none⟩) zs.length cap, .int .i64 x, .bool bg] w fun e w' => e = .returned (.bool (kd zs bg i == 0)) ∧ w' = w) := fun x i hx hi => blank_go b off cap zs.length x i _ bg w hx hi hn (hc i hi)
  have hne : ((zs.length : Int) == 0) = false := by simp only [beq_eq_false_iff_ne]; omega
  have HAZ : Hid (rlo zs bg k = A ∧ rhi zs bg k = Z) := ⟨hA.symm, hZ.symm⟩
  have HR : Hid (R1 = (wrd zs bg ar k).1 ∧ R2 = (wrd zs bg ar k).2) := ⟨h1, h2⟩
  have HAk : Hid (kd zs bg A = kd zs bg k) := hAk
  clear hA hZ h1 h2 hAZ hAk hc
  cases ar with
  | false =>
    have HR2 : Hid (R1 = A ∧ R2 = Z) := by
      obtain ⟨g1, g2⟩ := HR.out
      rw [wrd_none, HAZ.out.1, HAZ.out.2] at g1 g2
      exact ⟨g1, g2⟩
    clear HR
    go_enter Try.func68, Try.ntmps68
    go_wp2_with fail
    refine (Hrun.out _ k (by omega) hk).mono ?_
    rintro e w1 ⟨rfl, hw1⟩
    rw [hw1, HAZ.out.1, HAZ.out.2]
    clear hw1 w1
    go_wp2_with fail
    go_ret3
    rw [HR2.out.1, HR2.out.2]
    exact ⟨rfl, rfl⟩
  | true =>
    by_cases hlt : Z < zs.length
    · have hI : (Z : Int) < (zs.length : Int) := by omega
      cases hB : kd zs bg k == 0 with
      | true =>
        have HB : Hid ((kd zs bg k == 0) = true) := hB
        have HR2 : Hid (R1 = A ∧ R2 = rhi zs bg Z) := by
          obtain ⟨g1, g2⟩ := HR.out
          rw [wrd_right (by rw [HAZ.out.2]; exact hlt) (.inl (by simpa using hB))] at g1 g2
          rw [HAZ.out.1, HAZ.out.2] at g1 g2
          exact ⟨g1, g2⟩
        clear HR
        clear hB
        go_enter Try.func68, Try.ntmps68
        go_wp2_with fail
        refine (Hrun.out _ k (by omega) hk).mono ?_
        rintro e w1 ⟨rfl, hw1⟩
        rw [hw1, HAZ.out.1, HAZ.out.2]
        clear hw1 w1
        go_wp2_with fail
        refine (Hbl.out _ A (by omega) (by omega)).mono ?_
        rintro e w1 ⟨rfl, hw1⟩
        rw [hw1, HAk.out, HB.out]
        clear hw1 w1
        go_wp2_with fail
        refine (Hrun.out _ Z (by omega) hlt).mono ?_
        rintro e w1 ⟨rfl, hw1⟩
        rw [hw1]
        clear hw1 w1
        go_wp2_with fail
        go_ret3
        rw [HR2.out.1, HR2.out.2]
        exact ⟨rfl, rfl⟩
      | false =>
        have HB : Hid ((kd zs bg k == 0) = false) := hB
        clear hB
        cases hZ0 : kd zs bg Z == 0 with
        | true =>
          have HR2 : Hid (R1 = A ∧ R2 = rhi zs bg Z) := by
            obtain ⟨g1, g2⟩ := HR.out
            rw [wrd_right (by rw [HAZ.out.2]; exact hlt) (.inr (by rw [HAZ.out.2]; simpa using hZ0))] at g1 g2
            rw [HAZ.out.1, HAZ.out.2] at g1 g2
            exact ⟨g1, g2⟩
          clear HR
          have HZ : Hid ((kd zs bg Z == 0) = true) := hZ0
          clear hZ0
          go_enter Try.func68, Try.ntmps68
          go_wp2_with fail
          refine (Hrun.out _ k (by omega) hk).mono ?_
          rintro e w1 ⟨rfl, hw1⟩
          rw [hw1, HAZ.out.1, HAZ.out.2]
          clear hw1 w1
          go_wp2_with fail
          refine (Hbl.out _ A (by omega) (by omega)).mono ?_
          rintro e w1 ⟨rfl, hw1⟩
          rw [hw1, HAk.out, HB.out]
          clear hw1 w1
          go_wp2_with fail
          refine (Hbl.out _ Z (by omega) hlt).mono ?_
          rintro e w1 ⟨rfl, hw1⟩
          rw [hw1, HZ.out]
          clear hw1 w1
          go_wp2_with fail
          refine (Hrun.out _ Z (by omega) hlt).mono ?_
          rintro e w1 ⟨rfl, hw1⟩
          rw [hw1]
          clear hw1 w1
          go_wp2_with fail
          go_ret3
          rw [HR2.out.1, HR2.out.2]
          exact ⟨rfl, rfl⟩
        | false =>
          have HZ : Hid ((kd zs bg Z == 0) = false) := hZ0
          clear hZ0
          by_cases hA0 : A = 0
          · have HR2 : Hid (R1 = A ∧ R2 = Z) := by
              obtain ⟨g1, g2⟩ := HR.out
              rw [wrd_alone (fun h => by rw [HAZ.out.2] at h; rcases h.2 with h | h; (· have := HB.out; rw [h] at this; cases this); (· have := HZ.out; rw [h] at this; cases this)) (fun h => by rw [HAZ.out.1] at h; omega)] at g1 g2
              rw [HAZ.out.1, HAZ.out.2] at g1 g2
              exact ⟨g1, g2⟩
            clear HR
            subst hA0
            go_enter Try.func68, Try.ntmps68
            go_wp2_with fail
            refine (Hrun.out _ k (by omega) hk).mono ?_
            rintro e w1 ⟨rfl, hw1⟩
            rw [hw1, HAZ.out.1, HAZ.out.2]
            clear hw1 w1
            go_wp2_with fail
            refine (Hbl.out _ 0 (by omega) (by omega)).mono ?_
            rintro e w1 ⟨rfl, hw1⟩
            rw [hw1, HAk.out, HB.out]
            clear hw1 w1
            go_wp2_with fail
            refine (Hbl.out _ Z (by omega) hlt).mono ?_
            rintro e w1 ⟨rfl, hw1⟩
            rw [hw1, HZ.out]
            clear hw1 w1
            go_wp2_with fail
            all_goals (
              go_ret3
              rw [HR2.out.1, HR2.out.2]
              exact ⟨by first | rfl | (congr; omega), rfl⟩)
          · obtain ⟨j, rfl⟩ : ∃ j, A = j + 1 := ⟨A - 1, by omega⟩
            have hj : (j : Int) + 1 > 0 := by omega
            cases hL : kd zs bg j == 0 with
            | true =>
              have hL2 : kd zs bg (j + 1 - 1) = 0 := by rw [Nat.add_sub_cancel]; simpa using hL
              have HR2 : Hid (R1 = rlo zs bg j ∧ R2 = Z) := by
                obtain ⟨g1, g2⟩ := HR.out
                rw [wrd_left (fun h => by rw [HAZ.out.2] at h; rcases h.2 with h | h; (· have := HB.out; rw [h] at this; cases this); (· have := HZ.out; rw [h] at this; cases this)) (by simpa using HB.out) (by rw [HAZ.out.1]; omega) (by rw [HAZ.out.1]; exact hL2)] at g1 g2
                rw [HAZ.out.1, HAZ.out.2] at g2
                rw [HAZ.out.1, Nat.add_sub_cancel] at g1
                exact ⟨g1, g2⟩
              clear HR
              have HL : Hid ((kd zs bg j == 0) = true) := hL
              clear hL hL2
              go_enter Try.func68, Try.ntmps68
              go_wp2_with fail
              refine (Hrun.out _ k (by omega) hk).mono ?_
              rintro e w1 ⟨rfl, hw1⟩
              rw [hw1, HAZ.out.1, HAZ.out.2]
              clear hw1 w1
              go_wp2_with fail
              refine (Hbl.out _ (j + 1) (by omega) (by omega)).mono ?_
              rintro e w1 ⟨rfl, hw1⟩
              rw [hw1, HAk.out, HB.out]
              clear hw1 w1
              go_wp2_with fail
              refine (Hbl.out _ Z (by omega) hlt).mono ?_
              rintro e w1 ⟨rfl, hw1⟩
              rw [hw1, HZ.out]
              clear hw1 w1
              go_wp2_with fail
              refine (Hbl.out _ j (by omega) (by omega)).mono ?_
              rintro e w1 ⟨rfl, hw1⟩
              rw [hw1, HL.out]
              clear hw1 w1
              go_wp2_with fail
              refine (Hrun.out _ j (by omega) (by omega)).mono ?_
              rintro e w1 ⟨rfl, hw1⟩
              rw [hw1]
              clear hw1 w1
              go_wp2_with fail
              go_ret3
              rw [HR2.out.1, HR2.out.2]
              exact ⟨by first | rfl | (congr; omega), rfl⟩
            | false =>
              have HR2 : Hid (R1 = (j + 1) ∧ R2 = Z) := by
                obtain ⟨g1, g2⟩ := HR.out
                rw [wrd_alone (fun h => by rw [HAZ.out.2] at h; rcases h.2 with h | h; (· have := HB.out; rw [h] at this; cases this); (· have := HZ.out; rw [h] at this; cases this)) (fun h => by rw [HAZ.out.1, Nat.add_sub_cancel] at h; rw [h.2.2] at hL; cases hL)] at g1 g2
                rw [HAZ.out.1, HAZ.out.2] at g1 g2
                exact ⟨g1, g2⟩
              clear HR
              have HL : Hid ((kd zs bg j == 0) = false) := hL
              clear hL
              go_enter Try.func68, Try.ntmps68
              go_wp2_with fail
              refine (Hrun.out _ k (by omega) hk).mono ?_
              rintro e w1 ⟨rfl, hw1⟩
              rw [hw1, HAZ.out.1, HAZ.out.2]
              clear hw1 w1
              go_wp2_with fail
              refine (Hbl.out _ (j + 1) (by omega) (by omega)).mono ?_
              rintro e w1 ⟨rfl, hw1⟩
              rw [hw1, HAk.out, HB.out]
              clear hw1 w1
              go_wp2_with fail
              refine (Hbl.out _ Z (by omega) hlt).mono ?_
              rintro e w1 ⟨rfl, hw1⟩
              rw [hw1, HZ.out]
              clear hw1 w1
              go_wp2_with fail
              refine (Hbl.out _ j (by omega) (by omega)).mono ?_
              rintro e w1 ⟨rfl, hw1⟩
              rw [hw1, HL.out]
              clear hw1 w1
              go_wp2_with fail
              go_ret3
              rw [HR2.out.1, HR2.out.2]
              exact ⟨by first | rfl | (congr; omega), rfl⟩
    · have hI : (zs.length : Int) ≤ (Z : Int) := by omega
      cases hB : kd zs bg k == 0 with
      | true =>
        have HB : Hid ((kd zs bg k == 0) = true) := hB
        have HR2 : Hid (R1 = A ∧ R2 = Z) := by
          obtain ⟨g1, g2⟩ := HR.out
          rw [wrd_alone (fun h => by rw [HAZ.out.2] at h; omega) (fun h => h.1 (by simpa using hB))] at g1 g2
          rw [HAZ.out.1, HAZ.out.2] at g1 g2
          exact ⟨g1, g2⟩
        clear HR
        clear hB
        go_enter Try.func68, Try.ntmps68
        go_wp2_with fail
        refine (Hrun.out _ k (by omega) hk).mono ?_
        rintro e w1 ⟨rfl, hw1⟩
        rw [hw1, HAZ.out.1, HAZ.out.2]
        clear hw1 w1
        go_wp2_with fail
        refine (Hbl.out _ A (by omega) (by omega)).mono ?_
        rintro e w1 ⟨rfl, hw1⟩
        rw [hw1, HAk.out, HB.out]
        clear hw1 w1
        go_wp2_with fail
        all_goals (
          go_ret3
          rw [HR2.out.1, HR2.out.2]
          exact ⟨by first | rfl | (congr; omega), rfl⟩)
      | false =>
        have HB : Hid ((kd zs bg k == 0) = false) := hB
        clear hB
        by_cases hA0 : A = 0
        · have HR2 : Hid (R1 = A ∧ R2 = Z) := by
            obtain ⟨g1, g2⟩ := HR.out
            rw [wrd_alone (fun h => by rw [HAZ.out.2] at h; omega) (fun h => by rw [HAZ.out.1] at h; omega)] at g1 g2
            rw [HAZ.out.1, HAZ.out.2] at g1 g2
            exact ⟨g1, g2⟩
          clear HR
          subst hA0
          go_enter Try.func68, Try.ntmps68
          go_wp2_with fail
          refine (Hrun.out _ k (by omega) hk).mono ?_
          rintro e w1 ⟨rfl, hw1⟩
          rw [hw1, HAZ.out.1, HAZ.out.2]
          clear hw1 w1
          go_wp2_with fail
          refine (Hbl.out _ 0 (by omega) (by omega)).mono ?_
          rintro e w1 ⟨rfl, hw1⟩
          rw [hw1, HAk.out, HB.out]
          clear hw1 w1
          go_wp2_with fail
          all_goals (
            go_ret3
            rw [HR2.out.1, HR2.out.2]
            exact ⟨by first | rfl | (congr; omega), rfl⟩)
        · obtain ⟨j, rfl⟩ : ∃ j, A = j + 1 := ⟨A - 1, by omega⟩
          have hj : (j : Int) + 1 > 0 := by omega
          cases hL : kd zs bg j == 0 with
          | true =>
            have hL2 : kd zs bg (j + 1 - 1) = 0 := by rw [Nat.add_sub_cancel]; simpa using hL
            have HR2 : Hid (R1 = rlo zs bg j ∧ R2 = Z) := by
              obtain ⟨g1, g2⟩ := HR.out
              rw [wrd_left (fun h => by rw [HAZ.out.2] at h; omega) (by simpa using HB.out) (by rw [HAZ.out.1]; omega) (by rw [HAZ.out.1]; exact hL2)] at g1 g2
              rw [HAZ.out.1, HAZ.out.2] at g2
              rw [HAZ.out.1, Nat.add_sub_cancel] at g1
              exact ⟨g1, g2⟩
            clear HR
            have HL : Hid ((kd zs bg j == 0) = true) := hL
            clear hL hL2
            go_enter Try.func68, Try.ntmps68
            go_wp2_with fail
            refine (Hrun.out _ k (by omega) hk).mono ?_
            rintro e w1 ⟨rfl, hw1⟩
            rw [hw1, HAZ.out.1, HAZ.out.2]
            clear hw1 w1
            go_wp2_with fail
            refine (Hbl.out _ (j + 1) (by omega) (by omega)).mono ?_
            rintro e w1 ⟨rfl, hw1⟩
            rw [hw1, HAk.out, HB.out]
            clear hw1 w1
            go_wp2_with fail
            refine (Hbl.out _ j (by omega) (by omega)).mono ?_
            rintro e w1 ⟨rfl, hw1⟩
            rw [hw1, HL.out]
            clear hw1 w1
            go_wp2_with fail
            refine (Hrun.out _ j (by omega) (by omega)).mono ?_
            rintro e w1 ⟨rfl, hw1⟩
            rw [hw1]
            clear hw1 w1
            go_wp2_with fail
            go_ret3
            rw [HR2.out.1, HR2.out.2]
            exact ⟨by first | rfl | (congr; omega), rfl⟩
          | false =>
            have HR2 : Hid (R1 = (j + 1) ∧ R2 = Z) := by
              obtain ⟨g1, g2⟩ := HR.out
              rw [wrd_alone (fun h => by rw [HAZ.out.2] at h; omega) (fun h => by rw [HAZ.out.1, Nat.add_sub_cancel] at h; rw [h.2.2] at hL; cases hL)] at g1 g2
              rw [HAZ.out.1, HAZ.out.2] at g1 g2
              exact ⟨g1, g2⟩
            clear HR
            have HL : Hid ((kd zs bg j == 0) = false) := hL
            clear hL
            go_enter Try.func68, Try.ntmps68
            go_wp2_with fail
            refine (Hrun.out _ k (by omega) hk).mono ?_
            rintro e w1 ⟨rfl, hw1⟩
            rw [hw1, HAZ.out.1, HAZ.out.2]
            clear hw1 w1
            go_wp2_with fail
            refine (Hbl.out _ (j + 1) (by omega) (by omega)).mono ?_
            rintro e w1 ⟨rfl, hw1⟩
            rw [hw1, HAk.out, HB.out]
            clear hw1 w1
            go_wp2_with fail
            refine (Hbl.out _ j (by omega) (by omega)).mono ?_
            rintro e w1 ⟨rfl, hw1⟩
            rw [hw1, HL.out]
            clear hw1 w1
            go_wp2_with fail
            go_ret3
            rw [HR2.out.1, HR2.out.2]
            exact ⟨by first | rfl | (congr; omega), rfl⟩

/-- The answer of words. -/
def wanswer (zs : List Int) (k : Nat) (ar bg : Bool) : Int × Int × Int := if zs.length = 0 then (0, 0, 6) else (((wrd zs bg ar k).1 : Int), ((wrd zs bg ar k).2 : Int), 0)
theorem words_any (v : Value) (zs : List Int) (k : Nat) (ar bg : Bool) (w : World) (hr : Reads w v zs) (hk : k ≤ zs.length - 1) (hn : zs.length ≤ 4096) :
    Calls Try.prog 68 #[v, .int .i64 (k : Int), .bool ar, .bool bg] w fun e w' => e = .returned (.tuple #[.int .i64 (wanswer zs k ar bg).1, .int .i64 (wanswer zs k ar bg).2.1, .int .i64 (wanswer zs k ar bg).2.2]) ∧ w' = w := by
  rcases hr with ⟨a, cap, rfl, rfl⟩ | ⟨b, off, cap, rfl, _, _, _, hc⟩
  · exact words_none a cap k ar bg w
  · by_cases h0 : zs.length = 0
    · rw [show wanswer zs k ar bg = (0, 0, 6) from if_pos h0, h0]
      exact words_none _ cap k ar bg w
    · rw [show wanswer zs k ar bg = (((wrd zs bg ar k).1 : Int), ((wrd zs bg ar k).2 : Int), 0) from if_neg h0]
      exact words_some b off cap zs k ar bg w (by omega) hn hc
end Go.Proofs.Ytpgjaoemkadenaa.Seek
