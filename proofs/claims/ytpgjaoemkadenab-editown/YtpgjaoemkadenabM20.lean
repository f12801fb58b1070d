/- Texts of one claim, one behind the other: ORunGo, OWordsGo, OSignsGo. -/
import Derived.Test.YtpgjaoemkadenabM19
import Derived.Deep.RegionWith
/- The contracts of object.isBlank, object.run and the document's runOf. -/
set_option linter.unusedVariables false
set_option linter.unusedSimpArgs false
set_option maxRecDepth 100000
namespace Go.Proofs.Ytpgjaoemkadenab.Seek
open Go.RowKit Plain

theorem blank_go (b off cap n : Nat) (x : Int) (i : Nat) (z : Int) (bg : Bool) (w : World) (hx : x = (i : Int)) (hi : i < n) (hn : n ≤ 4096) (hc : w.cell? ⟨b, off + i, none⟩ = some (.int .i64 z)) :
    Calls Try.prog 82 #[.slice (some ⟨b, off, none⟩) n cap, .int .i64 x, .bool bg] w fun e w' => e = .returned (.bool (kind z bg == 0)) ∧ w' = w := by
  subst hx
  have hI : (i : Int) < (n : Int) := by omega
  go_enter Try.func82, Try.ntmps82
  go_wp2_with fail
  refine (kind_go z bg w).mono ?_
  rintro e w1 ⟨rfl, hw1⟩
  rw [hw1]
  clear hw1 w1
  go_wp2_with fail
  go_ret
  exact ⟨rfl, rfl⟩

set_option maxHeartbeats 1000000 in
theorem run_go (b off cap : Nat) (zs : List Int) (x : Int) (k : Nat) (bg : Bool) (w : World) (hx : x = (k : Int)) (hk : k < zs.length) (hn : zs.length ≤ 4096)
    (hc : ∀ j, j < zs.length → w.cell? ⟨b, off + j, none⟩ = some (.int .i64 (zs.getD j 0))) :
    Calls Try.prog 81 #[.slice (some ⟨b, off, none⟩) zs.length cap, .int .i64 x, .bool bg] w fun e w' => e = .returned (.tuple #[.int .i64 (rlo zs bg k : Int), .int .i64 (rhi zs bg k : Int)]) ∧ w' = w := by
  subst hx
  have Hc : Hid (∀ j, j < zs.length → w.cell? ⟨b, off + j, none⟩ = some (.int .i64 (zs.getD j 0))) := hc
  obtain ⟨A, hA⟩ : ∃ A, A = rlo zs bg k := ⟨_, rfl⟩
  obtain ⟨Z, hZ⟩ : ∃ Z, Z = rhi zs bg k := ⟨_, rfl⟩
  rw [← hA, ← hZ]
  have HA : Hid (lo (same zs bg k) k = A) := hA.symm
  have HZ : Hid (hi (same zs bg k) zs.length (k + 1) = Z) := hZ.symm
  have hck := hc k hk
  obtain ⟨z, hz⟩ : ∃ z, z = zs.getD k 0 := ⟨_, rfl⟩
  rw [← hz] at hck
  obtain ⟨K, hK⟩ : ∃ K, K = kind z bg := ⟨_, rfl⟩
  have HK : Hid (kind z bg = K) := hK.symm
  have HS : Hid (∀ i, same zs bg k i = (kind (zs.getD i 0) bg == K)) := fun i => by unfold same kd; rw [hK, hz]
  clear hA hZ hc hz hK
  have hI : (k : Int) < (zs.length : Int) := by omega
  go_enter Try.func81, Try.ntmps81
  go_wp2_with fail
  refine (kind_go z bg w).mono ?_
  rintro e w1 ⟨rfl, hw1⟩
  rw [hw1, HK.out]
  clear hw1 w1 HK hck hI
  go_wp2_with fail
  go_loop [9] (fun u9 => ∃ m : Nat, u9 = .int .i64 (m : Int) ∧ m ≤ k ∧ Hid (lo (same zs bg k) m = A)) (fun u9 => (intOf u9).toNat)
  case atStart => exact ⟨k, rfl, by omega, HA.out⟩
  case round =>
    obtain ⟨m, rfl, hm, Hm⟩ := hrel
    by_cases h0 : m = 0
    · have HA0 : Hid (A = 0) := by rw [← Hm.out, h0]; rfl
      subst h0
      clear Hm HA
      go_wp2_with fail
      go_loop [10] (fun u10 => ∃ m : Nat, u10 = .int .i64 (m : Int) ∧ m ≤ zs.length ∧ Hid (hi (same zs bg k) zs.length m = Z)) (fun u10 => zs.length - (intOf u10).toNat)
      case atStart => exact ⟨k + 1, by go_num, by omega, HZ.out⟩
      case round =>
        obtain ⟨m2, rfl, hm2, Hm⟩ := hrel
        by_cases hlt : m2 < zs.length
        · have hI : (m2 : Int) < (zs.length : Int) := by omega
          have hcx := Hc.out m2 hlt
          have hs := HS.out m2
          generalize zs.getD m2 0 = y at hcx hs
          obtain ⟨Y, hY⟩ : ∃ Y, Y = kind y bg := ⟨_, rfl⟩
          have HY : Hid (kind y bg = Y) := hY.symm
          rw [← hY] at hs
          clear hY
          cases hq : Y == K with
          | true =>
            have Hm2 : Hid (hi (same zs bg k) zs.length (m2 + 1) = Z) := (hi_hit hlt (hs.trans hq)).symm.trans Hm.out
            clear Hm hs
            go_wp2_with fail
            refine (kind_go y bg w).mono ?_
            rintro e w1 ⟨rfl, hw1⟩
            rw [hw1, HY.out]
            clear hw1 w1
            go_wp2_with fail
            go_round
            case rel => exact ⟨m2 + 1, by go_num, by omega, Hm2.out⟩
            case measure => simp [intOf]; omega
          | false =>
            have Hm2 : Hid (m2 = Z) := (hi_miss hlt (hs.trans hq)).symm.trans Hm.out
            clear Hm hs
            go_wp2_with fail
            refine (kind_go y bg w).mono ?_
            rintro e w1 ⟨rfl, hw1⟩
            rw [hw1, HY.out]
            clear hw1 w1
            go_wp2_with fail
            go_ret2
            rw [HA0.out, ← Hm2.out]
            exact ⟨rfl, rfl⟩
        · have hI : (zs.length : Int) ≤ (m2 : Int) := by omega
          have Hm2 : Hid (m2 = Z) := (hi_done (by omega)).symm.trans Hm.out
          clear Hm
          go_wp2_with fail
          all_goals (
            go_ret2
            rw [HA0.out, ← Hm2.out]
            exact ⟨by first | rfl | (congr; omega), rfl⟩)
    · obtain ⟨j, rfl⟩ : ∃ j, m = j + 1 := ⟨m - 1, by omega⟩
      have hcx := Hc.out j (by omega)
      have hs := HS.out j
      generalize zs.getD j 0 = y at hcx hs
      obtain ⟨Y, hY⟩ : ∃ Y, Y = kind y bg := ⟨_, rfl⟩
      have HY : Hid (kind y bg = Y) := hY.symm
      rw [← hY] at hs
      clear hY
      have hI : (j : Int) < (zs.length : Int) := by omega
      cases hq : Y == K with
      | true =>
        have Hm2 : Hid (lo (same zs bg k) j = A) := (lo_hit (hs.trans hq)).symm.trans Hm.out
        clear Hm hs
        go_wp2_with fail
        refine (kind_go y bg w).mono ?_
        rintro e w1 ⟨rfl, hw1⟩
        rw [hw1, HY.out]
        clear hw1 w1
        go_wp2_with fail
        go_round
        case rel => exact ⟨j, by go_num, by omega, Hm2.out⟩
        case measure => simp [intOf]; try omega
      | false =>
        have HA0 : Hid (A = j + 1) := Hm.out.symm.trans (lo_miss (hs.trans hq))
        clear Hm hs
        go_wp2_with fail
        refine (kind_go y bg w).mono ?_
        rintro e w1 ⟨rfl, hw1⟩
        rw [hw1, HY.out]
        clear hw1 w1 hcx HY hI
        go_wp2_with fail
        go_loop [10] (fun u10 => ∃ m : Nat, u10 = .int .i64 (m : Int) ∧ m ≤ zs.length ∧ Hid (hi (same zs bg k) zs.length m = Z)) (fun u10 => zs.length - (intOf u10).toNat)
        case atStart => exact ⟨k + 1, by go_num, by omega, HZ.out⟩
        case round =>
          obtain ⟨m2, rfl, hm2, Hm⟩ := hrel
          by_cases hlt : m2 < zs.length
          · have hI : (m2 : Int) < (zs.length : Int) := by omega
            have hcx := Hc.out m2 hlt
            have hs := HS.out m2
            generalize zs.getD m2 0 = y at hcx hs
            obtain ⟨Y, hY⟩ : ∃ Y, Y = kind y bg := ⟨_, rfl⟩
            have HY : Hid (kind y bg = Y) := hY.symm
            rw [← hY] at hs
            clear hY
            cases hq : Y == K with
            | true =>
              have Hm2 : Hid (hi (same zs bg k) zs.length (m2 + 1) = Z) := (hi_hit hlt (hs.trans hq)).symm.trans Hm.out
              clear Hm hs
              go_wp2_with fail
              refine (kind_go y bg w).mono ?_
              rintro e w1 ⟨rfl, hw1⟩
              rw [hw1, HY.out]
              clear hw1 w1
              go_wp2_with fail
              go_round
              case rel => exact ⟨m2 + 1, by go_num, by omega, Hm2.out⟩
              case measure => simp [intOf]; omega
            | false =>
              have Hm2 : Hid (m2 = Z) := (hi_miss hlt (hs.trans hq)).symm.trans Hm.out
              clear Hm hs
              go_wp2_with fail
              refine (kind_go y bg w).mono ?_
              rintro e w1 ⟨rfl, hw1⟩
              rw [hw1, HY.out]
              clear hw1 w1
              go_wp2_with fail
              go_ret2
              rw [HA0.out, ← Hm2.out]
              exact ⟨rfl, rfl⟩
          · have hI : (zs.length : Int) ≤ (m2 : Int) := by omega
            have Hm2 : Hid (m2 = Z) := (hi_done (by omega)).symm.trans Hm.out
            clear Hm
            go_wp2_with fail
            all_goals (
              go_ret2
              rw [HA0.out, ← Hm2.out]
              exact ⟨by first | rfl | (congr; omega), rfl⟩)
end Go.Proofs.Ytpgjaoemkadenab.Seek

/- The contract of object.words. -/
set_option linter.unusedVariables false
set_option linter.unusedSimpArgs false
set_option maxRecDepth 100000
namespace Go.Proofs.Ytpgjaoemkadenab.Seek
open Go.RowKit Plain

theorem words_none (a : Option Addr) (cap : Nat) (k : Int) (ar bg : Bool) (w : World) :
    Calls Try.prog 70 #[.slice a 0 cap, .int .i64 k, .bool ar, .bool bg] w fun e w' => e = .returned (.tuple #[.int .i64 0, .int .i64 0, .int .i64 6]) ∧ w' = w := by
  go_enter Try.func70, Try.ntmps70
  go_wp2_with fail
  go_ret3
  exact ⟨rfl, rfl⟩

set_option maxHeartbeats 2000000 in
theorem words_some (b off cap : Nat) (zs : List Int) (k : Nat) (ar bg : Bool) (w : World) (hk : k < zs.length) (hn : zs.length ≤ 4096)
    (hc : ∀ j, j < zs.length → w.cell? ⟨b, off + j, none⟩ = some (.int .i64 (zs.getD j 0))) :
    Calls Try.prog 70 #[.slice (some ⟨b, off, none⟩) zs.length cap, .int .i64 (k : Int), .bool ar, .bool bg] w fun e w' => e = .returned (.tuple #[.int .i64 ((wrd zs bg ar k).1 : Int), .int .i64 ((wrd zs bg ar k).2 : Int), .int .i64 0]) ∧ w' = w := by
  have Hc : Hid (∀ j, j < zs.length → w.cell? ⟨b, off + j, none⟩ = some (.int .i64 (zs.getD j 0))) := hc
  obtain ⟨A, hA⟩ : ∃ A, A = rlo zs bg k := ⟨_, rfl⟩
  obtain ⟨Z, hZ⟩ : ∃ Z, Z = rhi zs bg k := ⟨_, rfl⟩
  obtain ⟨R1, h1⟩ : ∃ R1, R1 = (wrd zs bg ar k).1 := ⟨_, rfl⟩
  obtain ⟨R2, h2⟩ : ∃ R2, R2 = (wrd zs bg ar k).2 := ⟨_, rfl⟩
  rw [← h1, ← h2]
  obtain ⟨hA1, hZ1, hZ2, hAZ⟩ := run_spec (b := bg) hk
  have hAk : kd zs bg A = kd zs bg k := by rw [hA]; exact hAZ _ (Nat.le_refl _) (by omega)
  rw [← hA] at hA1
  rw [← hZ] at hZ1 hZ2
  have Hrun : Hid (∀ x (i : Nat), x = (i : Int) → i < zs.length → Calls Try.prog 81 #[.slice (some ⟨b, off, none⟩) zs.length cap, .int .i64 x, .bool bg] w fun e w' => e = .returned (.tuple #[.int .i64 (rlo zs bg i : Int), .int .i64 (rhi zs bg i : Int)]) ∧ w' = w) := fun x i hx hi => run_go b off cap zs x i bg w hx hi hn hc
  have Hbl : Hid (∀ x (i : Nat), x = (i : Int) → i < zs.length → Calls Try.prog 82 #[.slice (some ⟨b, off, none⟩) zs.length cap, .int .i64 x, .bool bg] w fun e w' => e = .returned (.bool (kd zs bg i == 0)) ∧ w' = w) := fun x i hx hi => blank_go b off cap zs.length x i _ bg w hx hi hn (hc i hi)
  have hne : ((zs.length : Int) == 0) = false := by simp only [beq_eq_false_iff_ne]; omega
  have HAZ : Hid (rlo zs bg k = A ∧ rhi zs bg k = Z) := ⟨hA.symm, hZ.symm⟩
  have HR : Hid (R1 = (wrd zs bg ar k).1 ∧ R2 = (wrd zs bg ar k).2) := ⟨h1, h2⟩
  have HAk : Hid (kd zs bg A = kd zs bg k) := hAk
  clear hA hZ h1 h2 hAZ hAk hc
  cases ar with
  | false =>
    have HR2 : Hid (R1 = A ∧ R2 = Z) := by
      obtain ⟨g1, g2⟩ := HR.out
      rw [wrd_none, HAZ.out.1, HAZ.out.2] at g1 g2
      exact ⟨g1, g2⟩
    clear HR
    go_enter Try.func70, Try.ntmps70
    go_wp2_with fail
    refine (Hrun.out _ k (by omega) hk).mono ?_
    rintro e w1 ⟨rfl, hw1⟩
    rw [hw1, HAZ.out.1, HAZ.out.2]
    clear hw1 w1
    go_wp2_with fail
    go_ret3
    rw [HR2.out.1, HR2.out.2]
    exact ⟨rfl, rfl⟩
  | true =>
    by_cases hlt : Z < zs.length
    · have hI : (Z : Int) < (zs.length : Int) := by omega
      cases hB : kd zs bg k == 0 with
      | true =>
        have HB : Hid ((kd zs bg k == 0) = true) := hB
        have HR2 : Hid (R1 = A ∧ R2 = rhi zs bg Z) := by
          obtain ⟨g1, g2⟩ := HR.out
          rw [wrd_right (by rw [HAZ.out.2]; exact hlt) (.inl (by simpa using hB))] at g1 g2
          rw [HAZ.out.1, HAZ.out.2] at g1 g2
          exact ⟨g1, g2⟩
        clear HR
        clear hB
        go_enter Try.func70, Try.ntmps70
        go_wp2_with fail
        refine (Hrun.out _ k (by omega) hk).mono ?_
        rintro e w1 ⟨rfl, hw1⟩
        rw [hw1, HAZ.out.1, HAZ.out.2]
        clear hw1 w1
        go_wp2_with fail
        refine (Hbl.out _ A (by omega) (by omega)).mono ?_
        rintro e w1 ⟨rfl, hw1⟩
        rw [hw1, HAk.out, HB.out]
        clear hw1 w1
        go_wp2_with fail
        refine (Hrun.out _ Z (by omega) hlt).mono ?_
        rintro e w1 ⟨rfl, hw1⟩
        rw [hw1]
        clear hw1 w1
        go_wp2_with fail
        go_ret3
        rw [HR2.out.1, HR2.out.2]
        exact ⟨rfl, rfl⟩
      | false =>
        have HB : Hid ((kd zs bg k == 0) = false) := hB
        clear hB
        cases hZ0 : kd zs bg Z == 0 with
        | true =>
          have HR2 : Hid (R1 = A ∧ R2 = rhi zs bg Z) := by
            obtain ⟨g1, g2⟩ := HR.out
            rw [wrd_right (by rw [HAZ.out.2]; exact hlt) (.inr (by rw [HAZ.out.2]; simpa using hZ0))] at g1 g2
            rw [HAZ.out.1, HAZ.out.2] at g1 g2
            exact ⟨g1, g2⟩
          clear HR
          have HZ : Hid ((kd zs bg Z == 0) = true) := hZ0
          clear hZ0
          go_enter Try.func70, Try.ntmps70
          go_wp2_with fail
          refine (Hrun.out _ k (by omega) hk).mono ?_
          rintro e w1 ⟨rfl, hw1⟩
          rw [hw1, HAZ.out.1, HAZ.out.2]
          clear hw1 w1
          go_wp2_with fail
          refine (Hbl.out _ A (by omega) (by omega)).mono ?_
          rintro e w1 ⟨rfl, hw1⟩
          rw [hw1, HAk.out, HB.out]
          clear hw1 w1
          go_wp2_with fail
          refine (Hbl.out _ Z (by omega) hlt).mono ?_
          rintro e w1 ⟨rfl, hw1⟩
          rw [hw1, HZ.out]
          clear hw1 w1
          go_wp2_with fail
          refine (Hrun.out _ Z (by omega) hlt).mono ?_
          rintro e w1 ⟨rfl, hw1⟩
          rw [hw1]
          clear hw1 w1
          go_wp2_with fail
          go_ret3
          rw [HR2.out.1, HR2.out.2]
          exact ⟨rfl, rfl⟩
        | false =>
          have HZ : Hid ((kd zs bg Z == 0) = false) := hZ0
          clear hZ0
          by_cases hA0 : A = 0
          · have HR2 : Hid (R1 = A ∧ R2 = Z) := by
              obtain ⟨g1, g2⟩ := HR.out
              rw [wrd_alone (fun h => by rw [HAZ.out.2] at h; rcases h.2 with h | h; (· have := HB.out; rw [h] at this; cases this); (· have := HZ.out; rw [h] at this; cases this)) (fun h => by rw [HAZ.out.1] at h; omega)] at g1 g2
              rw [HAZ.out.1, HAZ.out.2] at g1 g2
              exact ⟨g1, g2⟩
            clear HR
            subst hA0
            go_enter Try.func70, Try.ntmps70
            go_wp2_with fail
            refine (Hrun.out _ k (by omega) hk).mono ?_
            rintro e w1 ⟨rfl, hw1⟩
            rw [hw1, HAZ.out.1, HAZ.out.2]
            clear hw1 w1
            go_wp2_with fail
            refine (Hbl.out _ 0 (by omega) (by omega)).mono ?_
            rintro e w1 ⟨rfl, hw1⟩
            rw [hw1, HAk.out, HB.out]
            clear hw1 w1
            go_wp2_with fail
            refine (Hbl.out _ Z (by omega) hlt).mono ?_
            rintro e w1 ⟨rfl, hw1⟩
            rw [hw1, HZ.out]
            clear hw1 w1
            go_wp2_with fail
            all_goals (
              go_ret3
              rw [HR2.out.1, HR2.out.2]
              exact ⟨by first | rfl | (congr; omega), rfl⟩)
          · obtain ⟨j, rfl⟩ : ∃ j, A = j + 1 := ⟨A - 1, by omega⟩
            have hj : (j : Int) + 1 > 0 := by omega
            cases hL : kd zs bg j == 0 with
            | true =>
              have hL2 : kd zs bg (j + 1 - 1) = 0 := by rw [Nat.add_sub_cancel]; simpa using hL
              have HR2 : Hid (R1 = rlo zs bg j ∧ R2 = Z) := by
                obtain ⟨g1, g2⟩ := HR.out
                rw [wrd_left (fun h => by rw [HAZ.out.2] at h; rcases h.2 with h | h; (· have := HB.out; rw [h] at this; cases this); (· have := HZ.out; rw [h] at this; cases this)) (by simpa using HB.out) (by rw [HAZ.out.1]; omega) (by rw [HAZ.out.1]; exact hL2)] at g1 g2
                rw [HAZ.out.1, HAZ.out.2] at g2
                rw [HAZ.out.1, Nat.add_sub_cancel] at g1
                exact ⟨g1, g2⟩
              clear HR
              have HL : Hid ((kd zs bg j == 0) = true) := hL
              clear hL hL2
              go_enter Try.func70, Try.ntmps70
              go_wp2_with fail
              refine (Hrun.out _ k (by omega) hk).mono ?_
              rintro e w1 ⟨rfl, hw1⟩
              rw [hw1, HAZ.out.1, HAZ.out.2]
              clear hw1 w1
              go_wp2_with fail
              refine (Hbl.out _ (j + 1) (by omega) (by omega)).mono ?_
              rintro e w1 ⟨rfl, hw1⟩
              rw [hw1, HAk.out, HB.out]
              clear hw1 w1
              go_wp2_with fail
              refine (Hbl.out _ Z (by omega) hlt).mono ?_
              rintro e w1 ⟨rfl, hw1⟩
              rw [hw1, HZ.out]
              clear hw1 w1
              go_wp2_with fail
              refine (Hbl.out _ j (by omega) (by omega)).mono ?_
              rintro e w1 ⟨rfl, hw1⟩
              rw [hw1, HL.out]
              clear hw1 w1
              go_wp2_with fail
              refine (Hrun.out _ j (by omega) (by omega)).mono ?_
              rintro e w1 ⟨rfl, hw1⟩
              rw [hw1]
              clear hw1 w1
              go_wp2_with fail
              go_ret3
              rw [HR2.out.1, HR2.out.2]
              exact ⟨by first | rfl | (congr; omega), rfl⟩
            | false =>
              have HR2 : Hid (R1 = (j + 1) ∧ R2 = Z) := by
                obtain ⟨g1, g2⟩ := HR.out
                rw [wrd_alone (fun h => by rw [HAZ.out.2] at h; rcases h.2 with h | h; (· have := HB.out; rw [h] at this; cases this); (· have := HZ.out; rw [h] at this; cases this)) (fun h => by rw [HAZ.out.1, Nat.add_sub_cancel] at h; rw [h.2.2] at hL; cases hL)] at g1 g2
                rw [HAZ.out.1, HAZ.out.2] at g1 g2
                exact ⟨g1, g2⟩
              clear HR
              have HL : Hid ((kd zs bg j == 0) = false) := hL
              clear hL
              go_enter Try.func70, Try.ntmps70
              go_wp2_with fail
              refine (Hrun.out _ k (by omega) hk).mono ?_
              rintro e w1 ⟨rfl, hw1⟩
              rw [hw1, HAZ.out.1, HAZ.out.2]
              clear hw1 w1
              go_wp2_with fail
              refine (Hbl.out _ (j + 1) (by omega) (by omega)).mono ?_
              rintro e w1 ⟨rfl, hw1⟩
              rw [hw1, HAk.out, HB.out]
              clear hw1 w1
              go_wp2_with fail
              refine (Hbl.out _ Z (by omega) hlt).mono ?_
              rintro e w1 ⟨rfl, hw1⟩
              rw [hw1, HZ.out]
              clear hw1 w1
              go_wp2_with fail
              refine (Hbl.out _ j (by omega) (by omega)).mono ?_
              rintro e w1 ⟨rfl, hw1⟩
              rw [hw1, HL.out]
              clear hw1 w1
              go_wp2_with fail
              go_ret3
              rw [HR2.out.1, HR2.out.2]
              exact ⟨by first | rfl | (congr; omega), rfl⟩
    · have hI : (zs.length : Int) ≤ (Z : Int) := by omega
      cases hB : kd zs bg k == 0 with
      | true =>
        have HB : Hid ((kd zs bg k == 0) = true) := hB
        have HR2 : Hid (R1 = A ∧ R2 = Z) := by
          obtain ⟨g1, g2⟩ := HR.out
          rw [wrd_alone (fun h => by rw [HAZ.out.2] at h; omega) (fun h => h.1 (by simpa using hB))] at g1 g2
          rw [HAZ.out.1, HAZ.out.2] at g1 g2
          exact ⟨g1, g2⟩
        clear HR
        clear hB
        go_enter Try.func70, Try.ntmps70
        go_wp2_with fail
        refine (Hrun.out _ k (by omega) hk).mono ?_
        rintro e w1 ⟨rfl, hw1⟩
        rw [hw1, HAZ.out.1, HAZ.out.2]
        clear hw1 w1
        go_wp2_with fail
        refine (Hbl.out _ A (by omega) (by omega)).mono ?_
        rintro e w1 ⟨rfl, hw1⟩
        rw [hw1, HAk.out, HB.out]
        clear hw1 w1
        go_wp2_with fail
        all_goals (
          go_ret3
          rw [HR2.out.1, HR2.out.2]
          exact ⟨by first | rfl | (congr; omega), rfl⟩)
      | false =>
        have HB : Hid ((kd zs bg k == 0) = false) := hB
        clear hB
        by_cases hA0 : A = 0
        · have HR2 : Hid (R1 = A ∧ R2 = Z) := by
            obtain ⟨g1, g2⟩ := HR.out
            rw [wrd_alone (fun h => by rw [HAZ.out.2] at h; omega) (fun h => by rw [HAZ.out.1] at h; omega)] at g1 g2
            rw [HAZ.out.1, HAZ.out.2] at g1 g2
            exact ⟨g1, g2⟩
          clear HR
          subst hA0
          go_enter Try.func70, Try.ntmps70
          go_wp2_with fail
          refine (Hrun.out _ k (by omega) hk).mono ?_
          rintro e w1 ⟨rfl, hw1⟩
          rw [hw1, HAZ.out.1, HAZ.out.2]
          clear hw1 w1
          go_wp2_with fail
          refine (Hbl.out _ 0 (by omega) (by omega)).mono ?_
          rintro e w1 ⟨rfl, hw1⟩
          rw [hw1, HAk.out, HB.out]
          clear hw1 w1
          go_wp2_with fail
          all_goals (
            go_ret3
            rw [HR2.out.1, HR2.out.2]
            exact ⟨by first | rfl | (congr; omega), rfl⟩)
        · obtain ⟨j, rfl⟩ : ∃ j, A = j + 1 := ⟨A - 1, by omega⟩
          have hj : (j : Int) + 1 > 0 := by omega
          cases hL : kd zs bg j == 0 with
          | true =>
            have hL2 : kd zs bg (j + 1 - 1) = 0 := by rw [Nat.add_sub_cancel]; simpa using hL
            have HR2 : Hid (R1 = rlo zs bg j ∧ R2 = Z) := by
              obtain ⟨g1, g2⟩ := HR.out
              rw [wrd_left (fun h => by rw [HAZ.out.2] at h; omega) (by simpa using HB.out) (by rw [HAZ.out.1]; omega) (by rw [HAZ.out.1]; exact hL2)] at g1 g2
              rw [HAZ.out.1, HAZ.out.2] at g2
              rw [HAZ.out.1, Nat.add_sub_cancel] at g1
              exact ⟨g1, g2⟩
            clear HR
            have HL : Hid ((kd zs bg j == 0) = true) := hL
            clear hL hL2
            go_enter Try.func70, Try.ntmps70
            go_wp2_with fail
            refine (Hrun.out _ k (by omega) hk).mono ?_
            rintro e w1 ⟨rfl, hw1⟩
            rw [hw1, HAZ.out.1, HAZ.out.2]
            clear hw1 w1
            go_wp2_with fail
            refine (Hbl.out _ (j + 1) (by omega) (by omega)).mono ?_
            rintro e w1 ⟨rfl, hw1⟩
            rw [hw1, HAk.out, HB.out]
            clear hw1 w1
            go_wp2_with fail
            refine (Hbl.out _ j (by omega) (by omega)).mono ?_
            rintro e w1 ⟨rfl, hw1⟩
            rw [hw1, HL.out]
            clear hw1 w1
            go_wp2_with fail
            refine (Hrun.out _ j (by omega) (by omega)).mono ?_
            rintro e w1 ⟨rfl, hw1⟩
            rw [hw1]
            clear hw1 w1
            go_wp2_with fail
            go_ret3
            rw [HR2.out.1, HR2.out.2]
            exact ⟨by first | rfl | (congr; omega), rfl⟩
          | false =>
            have HR2 : Hid (R1 = (j + 1) ∧ R2 = Z) := by
              obtain ⟨g1, g2⟩ := HR.out
              rw [wrd_alone (fun h => by rw [HAZ.out.2] at h; omega) (fun h => by rw [HAZ.out.1, Nat.add_sub_cancel] at h; rw [h.2.2] at hL; cases hL)] at g1 g2
              rw [HAZ.out.1, HAZ.out.2] at g1 g2
              exact ⟨g1, g2⟩
            clear HR
            have HL : Hid ((kd zs bg j == 0) = false) := hL
            clear hL
            go_enter Try.func70, Try.ntmps70
            go_wp2_with fail
            refine (Hrun.out _ k (by omega) hk).mono ?_
            rintro e w1 ⟨rfl, hw1⟩
            rw [hw1, HAZ.out.1, HAZ.out.2]
            clear hw1 w1
            go_wp2_with fail
            refine (Hbl.out _ (j + 1) (by omega) (by omega)).mono ?_
            rintro e w1 ⟨rfl, hw1⟩
            rw [hw1, HAk.out, HB.out]
            clear hw1 w1
            go_wp2_with fail
            refine (Hbl.out _ j (by omega) (by omega)).mono ?_
            rintro e w1 ⟨rfl, hw1⟩
            rw [hw1, HL.out]
            clear hw1 w1
            go_wp2_with fail
            go_ret3
            rw [HR2.out.1, HR2.out.2]
            exact ⟨by first | rfl | (congr; omega), rfl⟩

/-- The answer of words. -/
def wanswer (zs : List Int) (k : Nat) (ar bg : Bool) : Int × Int × Int := if zs.length = 0 then (0, 0, 6) else (((wrd zs bg ar k).1 : Int), ((wrd zs bg ar k).2 : Int), 0)
theorem words_any (v : Value) (zs : List Int) (k : Nat) (ar bg : Bool) (w : World) (hr : Reads w v zs) (hk : k ≤ zs.length - 1) (hn : zs.length ≤ 4096) :
    Calls Try.prog 70 #[v, .int .i64 (k : Int), .bool ar, .bool bg] w fun e w' => e = .returned (.tuple #[.int .i64 (wanswer zs k ar bg).1, .int .i64 (wanswer zs k ar bg).2.1, .int .i64 (wanswer zs k ar bg).2.2]) ∧ w' = w := by
  rcases hr with ⟨a, cap, rfl, rfl⟩ | ⟨b, off, cap, rfl, _, _, _, hc⟩
  · exact words_none a cap k ar bg w
  · by_cases h0 : zs.length = 0
    · rw [show wanswer zs k ar bg = (0, 0, 6) from if_pos h0, h0]
      exact words_none _ cap k ar bg w
    · rw [show wanswer zs k ar bg = (((wrd zs bg ar k).1 : Int), ((wrd zs bg ar k).2 : Int), 0) from if_neg h0]
      exact words_some b off cap zs k ar bg w (by omega) hn hc
end Go.Proofs.Ytpgjaoemkadenab.Seek

/- The contracts of object.brackets, object.quotes and object.between. -/
set_option linter.unusedVariables false
set_option linter.unusedSimpArgs false
set_option maxRecDepth 100000
namespace Go.Proofs.Ytpgjaoemkadenab.Seek
open Go.RowKit Plain

theorem between_go (t : Option (Nat × Nat)) (ar : Bool) (w : World) (ht : ∀ a z, t = some (a, z) → a ≤ 4096 ∧ z ≤ 4096) :
    Calls Try.prog 72 #[.int .i64 (trip t).1, .int .i64 (trip t).2.1, .bool (trip t).2.2, .bool ar] w fun e w' => e = .returned (.tuple #[.int .i64 (otold ar t).1, .int .i64 (otold ar t).2.1, .int .i64 (otold ar t).2.2]) ∧ w' = w := by
  cases t with
  | none =>
    show Calls Try.prog 72 #[.int .i64 0, .int .i64 0, .bool false, .bool ar] w fun e w' => e = .returned (.tuple #[.int .i64 0, .int .i64 0, .int .i64 6]) ∧ w' = w
    go_enter Try.func72, Try.ntmps72
    go_wp2_with fail
    go_ret3
    exact ⟨rfl, rfl⟩
  | some p =>
    obtain ⟨a, z⟩ := p
    obtain ⟨h1, h2⟩ := ht a z rfl
    clear ht
    cases ar with
    | true =>
      show Calls Try.prog 72 #[.int .i64 (a : Int), .int .i64 (z : Int), .bool true, .bool true] w fun e w' => e = .returned (.tuple #[.int .i64 (a : Int), .int .i64 ((z : Int) + 1), .int .i64 0]) ∧ w' = w
      go_enter Try.func72, Try.ntmps72
      go_wp2_with fail
      go_ret3
      exact ⟨rfl, rfl⟩
    | false =>
      show Calls Try.prog 72 #[.int .i64 (a : Int), .int .i64 (z : Int), .bool true, .bool false] w fun e w' => e = .returned (.tuple #[.int .i64 ((a : Int) + 1), .int .i64 (z : Int), .int .i64 0]) ∧ w' = w
      go_enter Try.func72, Try.ntmps72
      go_wp2_with fail
      go_ret3
      exact ⟨rfl, rfl⟩

set_option maxHeartbeats 1000000 in
theorem quotes_some (b off cap : Nat) (zs : List Int) (k : Nat) (s : Int) (w : World) (hn : zs.length ≤ 4096) (hk : k ≤ 4096)
    (hc : ∀ j, j < zs.length → w.cell? ⟨b, off + j, none⟩ = some (.int .i64 (zs.getD j 0))) :
    Calls Try.prog 73 #[.slice (some ⟨b, off, none⟩) zs.length cap, .int .i64 (k : Int), .int .i64 s] w fun e w' =>
      e = .returned (.tuple #[.int .i64 (trip (qfind (fn zs) s k zs.length 0 none)).1, .int .i64 (trip (qfind (fn zs) s k zs.length 0 none)).2.1, .bool (trip (qfind (fn zs) s k zs.length 0 none)).2.2]) ∧ w' = w := by
  have Hc : Hid (∀ j, j < zs.length → w.cell? ⟨b, off + j, none⟩ = some (.int .i64 (zs.getD j 0))) := hc
  obtain ⟨T, hT⟩ : ∃ T, T = qfind (fn zs) s k zs.length 0 none := ⟨_, rfl⟩
  rw [← hT]
  obtain ⟨R1, h1⟩ : ∃ R1, R1 = (trip T).1 := ⟨_, rfl⟩
  obtain ⟨R2, h2⟩ : ∃ R2, R2 = (trip T).2.1 := ⟨_, rfl⟩
  obtain ⟨R3, h3⟩ : ∃ R3, R3 = (trip T).2.2 := ⟨_, rfl⟩
  rw [← h1, ← h2, ← h3]
  have HT : Hid (qfind (fn zs) s k (zs.length - 0) 0 none = T) := hT.symm
  have HR : Hid (R1 = (trip T).1 ∧ R2 = (trip T).2.1 ∧ R3 = (trip T).2.2) := ⟨h1, h2, h3⟩
  clear hT h1 h2 h3 hc
  go_enter Try.func73, Try.ntmps73
  go_wp2_with fail
  go_loop [9, 14] (fun u9 u14 => ∃ m : Nat, u14 = .int .i64 (m : Int) ∧ m ≤ zs.length ∧ ((u9 = .int .i64 (-1) ∧ Hid (qfind (fn zs) s k (zs.length - m) m none = T)) ∨ (∃ a : Nat, u9 = .int .i64 (a : Int) ∧ a < m ∧ Hid (qfind (fn zs) s k (zs.length - m) m (some a) = T)))) (fun _ u14 => zs.length - (intOf u14).toNat)
  case atStart => exact ⟨0, rfl, by omega, .inl ⟨rfl, HT.out⟩⟩
  case round =>
    obtain ⟨m, rfl, hm, hcase⟩ := hrel
    by_cases hlt : m < zs.length
    · have hI : (m : Int) < (zs.length : Int) := by omega
      have hcx := Hc.out m hlt
      have hy : fn zs m = zs.getD m 0 := rfl
      generalize zs.getD m 0 = y at hcx hy
      have Hy : Hid (fn zs m = y) := hy
      clear hy
      have he : zs.length - m = (zs.length - (m + 1)) + 1 := by omega
      cases hq : y != s with
      | true =>
        have hne : fn zs m ≠ s := by rw [Hy.out]; simpa using hq
        rcases hcase with ⟨rfl, HQ⟩ | ⟨a, rfl, ha, HQ⟩
        · have HQ2 : Hid (qfind (fn zs) s k (zs.length - (m + 1)) (m + 1) none = T) := by
            have := HQ.out
            rw [he, qfind_other hne] at this
            exact this
          clear HQ he hne
          go_wp2_with fail
          go_round
          case rel => exact ⟨m + 1, by go_num, by omega, .inl ⟨rfl, HQ2.out⟩⟩
          case measure => simp [intOf]; omega
        · have HQ2 : Hid (qfind (fn zs) s k (zs.length - (m + 1)) (m + 1) (some a) = T) := by
            have := HQ.out
            rw [he, qfind_other hne] at this
            exact this
          clear HQ he hne
          go_wp2_with fail
          go_round
          case rel => exact ⟨m + 1, by go_num, by omega, .inr ⟨a, rfl, by omega, HQ2.out⟩⟩
          case measure => simp [intOf]; omega
      | false =>
        have heq : fn zs m = s := by rw [Hy.out]; simpa using hq
        rcases hcase with ⟨rfl, HQ⟩ | ⟨a, rfl, ha, HQ⟩
        · have HQ2 : Hid (qfind (fn zs) s k (zs.length - (m + 1)) (m + 1) (some m) = T) := by
            have := HQ.out
            rw [he, qfind_first heq] at this
            exact this
          clear HQ he heq
          go_wp2_with fail
          go_round
          case rel => exact ⟨m + 1, by go_num, by omega, .inr ⟨m, rfl, by omega, HQ2.out⟩⟩
          case measure => simp [intOf]; omega
        · by_cases hkm : k ≤ m
          · have HQ2 : Hid (T = some (a, m)) := by
              have := HQ.out
              rw [he, qfind_found heq (by omega)] at this
              exact this.symm
            have hI2 : (k : Int) ≤ (m : Int) := by omega
            clear HQ he heq
            go_wp2_with fail
            go_ret3
            rw [HR.out.1, HR.out.2.1, HR.out.2.2, HQ2.out]
            exact ⟨rfl, rfl⟩
          · have HQ2 : Hid (qfind (fn zs) s k (zs.length - (m + 1)) (m + 1) none = T) := by
              have := HQ.out
              rw [he, qfind_early heq (by omega)] at this
              exact this
            have hI2 : (m : Int) < (k : Int) := by omega
            clear HQ he heq
            go_wp2_with fail
            go_round
            case rel => exact ⟨m + 1, by go_num, by omega, .inl ⟨rfl, HQ2.out⟩⟩
            case measure => simp [intOf]; omega
    · have hI : (zs.length : Int) ≤ (m : Int) := by omega
      have HQ2 : Hid (T = none) := by
        rcases hcase with ⟨_, HQ⟩ | ⟨a, _, _, HQ⟩
        all_goals (
          have := HQ.out
          rw [show zs.length - m = 0 by omega] at this
          exact this.symm)
      rcases hcase with ⟨rfl, HQ⟩ | ⟨a, rfl, ha, HQ⟩
      all_goals (
        clear HQ
        go_wp2_with fail
        all_goals (
          go_ret3
          rw [HR.out.1, HR.out.2.1, HR.out.2.2, HQ2.out]
          exact ⟨rfl, rfl⟩))

theorem quotes_none (a : Option Addr) (cap : Nat) (k s : Int) (w : World) :
    Calls Try.prog 73 #[.slice a 0 cap, .int .i64 k, .int .i64 s] w fun e w' => e = .returned (.tuple #[.int .i64 0, .int .i64 0, .bool false]) ∧ w' = w := by
  go_enter Try.func73, Try.ntmps73
  go_wp2_with fail
  refine wp_loop_rounds 1 ?_
  rw [rounds_succ]
  go_wp2_with fail
  go_ret3
  exact ⟨rfl, rfl⟩
theorem quotes_any (v : Value) (zs : List Int) (k : Nat) (s : Int) (w : World) (hr : Reads w v zs) (hk : k ≤ 4096) (hn : zs.length ≤ 4096) :
    Calls Try.prog 73 #[v, .int .i64 (k : Int), .int .i64 s] w fun e w' =>
      e = .returned (.tuple #[.int .i64 (trip (qfind (fn zs) s k zs.length 0 none)).1, .int .i64 (trip (qfind (fn zs) s k zs.length 0 none)).2.1, .bool (trip (qfind (fn zs) s k zs.length 0 none)).2.2]) ∧ w' = w := by
  rcases hr with ⟨a, cap, rfl, rfl⟩ | ⟨b, off, cap, rfl, _, _, _, hc⟩
  · exact quotes_none a cap k s w
  · exact quotes_some b off cap zs k s w hn hk hc

theorem opn_of_shut {key : Int} (h : shuts key = true) : opn key = brk key := (opn_shut h).1
theorem opn_of_open {key : Int} (h : shuts key = false) (h2 : brk key ≠ 0) : opn key = key := by
  rcases sort key with g | g | g
  · exact (opn_open g.1).1
  · rw [g.2.1] at h; cases h
  · exact absurd g.2.2 h2

set_option maxHeartbeats 1000000 in
theorem brackets_none (a : Option Addr) (cap : Nat) (key : Int) (w : World) :
    Calls Try.prog 71 #[.slice a 0 cap, .int .i64 0, .int .i64 key] w fun e w' => e = .returned (.tuple #[.int .i64 0, .int .i64 0, .bool false]) ∧ Below w.heap.size w w' := by
  have HP : Hid (Calls Try.prog 84 #[.slice a 0 cap] w fun e w' => PairsPost [] w e w') := pairs_any _ [] w (.inl ⟨a, cap, rfl, rfl⟩) (by decide)
  go_enter Try.func71, Try.ntmps71
  go_wp2_with fail
  refine (brk_go key w).mono ?_
  rintro e w1 ⟨rfl, hw1⟩
  rw [hw1]
  clear hw1 w1
  generalize shuts key = t
  cases t with
  | true =>
    go_wp2_with fail
    refine HP.out.mono ?_
    rintro e w1 ⟨hbel, ⟨hlarge, _⟩ | ⟨_, pv, rfl, hpv⟩⟩
    · exact absurd hlarge (by decide)
    have Hbel : Hid (Below w.heap.size w w1) := hbel
    clear hbel hpv
    go_wp2_with fail
    refine wp_loop_rounds 1 ?_
    rw [rounds_succ]
    go_wp2_with fail
    go_ret3
    exact ⟨rfl, Hbel.out⟩
  | false =>
    go_wp2_with fail
    refine HP.out.mono ?_
    rintro e w1 ⟨hbel, ⟨hlarge, _⟩ | ⟨_, pv, rfl, hpv⟩⟩
    · exact absurd hlarge (by decide)
    have Hbel : Hid (Below w.heap.size w w1) := hbel
    clear hbel hpv
    go_wp2_with fail
    refine wp_loop_rounds 1 ?_
    rw [rounds_succ]
    go_wp2_with fail
    go_ret3
    exact ⟨rfl, Hbel.out⟩

set_option maxHeartbeats 2000000 in
theorem brackets_shut (b off cap : Nat) (zs : List Int) (k : Nat) (key : Int) (w : World) (hk : k < zs.length) (hn : zs.length ≤ 4096) (hb : b < w.heap.size) (hcap : zs.length ≤ cap) (hcm : cap ≤ maxLen)
    (hc : ∀ j, j < zs.length → w.cell? ⟨b, off + j, none⟩ = some (.int .i64 (zs.getD j 0))) (hs : shuts key = true) :
    Calls Try.prog 71 #[.slice (some ⟨b, off, none⟩) zs.length cap, .int .i64 (k : Int), .int .i64 key] w fun e w' =>
      e = .returned (.tuple #[.int .i64 (trip (bfind zs k (opn key) zs.length)).1, .int .i64 (trip (bfind zs k (opn key) zs.length)).2.1, .bool (trip (bfind zs k (opn key) zs.length)).2.2]) ∧ Below w.heap.size w w' := by
  obtain ⟨T, hT⟩ : ∃ T, T = bfind zs k (opn key) zs.length := ⟨_, rfl⟩
  rw [← hT]
  obtain ⟨R1, h1⟩ : ∃ R1, R1 = (trip T).1 := ⟨_, rfl⟩
  obtain ⟨R2, h2⟩ : ∃ R2, R2 = (trip T).2.1 := ⟨_, rfl⟩
  obtain ⟨R3, h3⟩ : ∃ R3, R3 = (trip T).2.2 := ⟨_, rfl⟩
  rw [← h1, ← h2, ← h3]
  obtain ⟨o, ho⟩ : ∃ o, o = brk key := ⟨_, rfl⟩
  have Ho : Hid (opn key = o) := (opn_of_shut hs).trans ho.symm
  have Hs : Hid (shuts key = true) := hs
  have Hbk : Hid (brk key = o) := ho.symm
  clear hs ho
  have HT : Hid (bfind zs k o (k + 1) = T) := by
    rw [hT, Ho.out]
    exact (bfind_far (by omega) zs.length (by omega)).symm
  have HR : Hid (R1 = (trip T).1 ∧ R2 = (trip T).2.1 ∧ R3 = (trip T).2.2) := ⟨h1, h2, h3⟩
  have HP : Hid (Calls Try.prog 84 #[.slice (some ⟨b, off, none⟩) zs.length cap] w fun e w' => PairsPost zs w e w') := pairs_any _ zs w (.inr ⟨b, off, cap, rfl, hcap, hcm, hb, hc⟩) (by omega)
  have Hc : Hid (∀ j, j < zs.length → w.cell? ⟨b, off + j, none⟩ = some (.int .i64 (zs.getD j 0))) := hc
  have hmin : min (k : Int) ((zs.length : Int) - 1) = (k : Int) := by omega
  clear hT h1 h2 h3 hc
  go_enter Try.func71, Try.ntmps71
  go_wp2_with fail
  refine (brk_go key w).mono ?_
  rintro e w1 ⟨rfl, hw1⟩
  rw [hw1, Hs.out]
  rw [Hbk.out]
  clear hw1 w1
  go_wp2_with fail
  refine HP.out.mono ?_
  clear HP
  rintro e w1 ⟨hbel, ⟨hlarge, _⟩ | ⟨_, pv, rfl, hpv⟩⟩
  · exact absurd hlarge (by omega)
  rcases hpv with ⟨_, _, _, hz⟩ | ⟨pb, po, pc, rfl, hpc, hpm, hpb, hpcell⟩
  · exact absurd (congrArg List.length hz) (by rw [pairs_len]; intro h; simp at h; rw [h] at hk; exact absurd hk (by simp))
  rw [pairs_len] at hpc hpcell ⊢
  have HC1 : Hid (∀ j, j < zs.length → w1.cell? ⟨b, off + j, none⟩ = some (.int .i64 (zs.getD j 0))) := fun j hj => (hbel.cell hb).trans (Hc.out j hj)
  have HC2 : Hid (∀ j, j < zs.length → w1.cell? ⟨pb, po + j, none⟩ = some (.int .i64 (par (fn zs) zs.length j))) := fun j hj => (hpcell j hj).trans (by unfold pairs; rw [rowOf_get _ _ _ hj])
  have Hbel : Hid (Below w.heap.size w w1) := hbel
  clear Hc hpcell hbel hpm hcm hpb hpc hcap hb
  go_wp2_with fail
  go_loop [14] (fun u14 => (∃ j : Nat, u14 = .int .i64 (j : Int) ∧ j ≤ k ∧ Hid (bfind zs k o (j + 1) = T)) ∨ (u14 = .int .i64 (-1) ∧ Hid (bfind zs k o 0 = T))) (fun u14 => (intOf u14 + 1).toNat)
  case atStart => exact .inl ⟨k, rfl, Nat.le_refl _, HT.out⟩
  case round =>
    rcases hrel with ⟨j, rfl, hj, HQ⟩ | ⟨rfl, HQ⟩
    · have hI : (j : Int) < (zs.length : Int) := by omega
      have hcx := HC1.out j (by omega)
      have hcp := HC2.out j (by omega)
      have hbr := @brp_true zs k o j
      generalize zs.getD j 0 = y at hcx hbr
      generalize hP : par (fn zs) zs.length j = P at hcp hbr
      have HPj : Hid (par (fn zs) zs.length j = P) := hP
      clear hP
      by_cases hjk : (j : Int) ≤ (k : Int) ∧ y = o ∧ (k : Int) ≤ P
      · have HQ2 : Hid (T = some (j, P.toNat)) := by
          have := HQ.out
          rw [bfind_hit (hbr.2 hjk), HPj.out] at this
          exact this.symm
        have hyo : (y == o) = true := by simpa using hjk.2.1
        have hkP : (k : Int) ≤ P := hjk.2.2
        have HPn : Hid (((P.toNat : Nat) : Int) = P) := by show ((P.toNat : Nat) : Int) = P; omega
        clear hjk hbr HQ
        go_wp2_with fail
        go_quiet (fail)
        go_wp2_with fail
        go_ret3
        rw [HR.out.1, HR.out.2.1, HR.out.2.2, HQ2.out]
        refine ⟨?_, below_drewN Hbel.out _⟩
        show _ = Ending.returned (.tuple #[.int .i64 (j : Int), .int .i64 ((P.toNat : Nat) : Int), .bool true])
        rw [HPn.out]
        rfl
      · have HQ2 : Hid (bfind zs k o j = T) := by
          have := HQ.out
          rw [bfind_miss (by rw [← Bool.not_eq_true]; exact fun h => hjk (hbr.1 h))] at this
          exact this
        have Hno : Hid (¬ ((j : Int) ≤ (k : Int) ∧ y = o ∧ (k : Int) ≤ P)) := hjk
        clear hjk hbr HQ
        by_cases hz : j = 0
        · subst hz
          rw [Nat.add_zero] at hcx hcp
          cases hyo : y == o with
          | false =>
            clear Hno
            go_wp2_with fail
            go_round
            case rel => exact .inr ⟨by go_num, HQ2.out⟩
            case measure => simp [intOf]; try omega
          | true =>
            have hkP : P < (k : Int) := Int.not_le.1 fun h => Hno.out ⟨by omega, by simpa using hyo, h⟩
            clear Hno
            go_wp2_with fail
            go_round
            case rel => exact .inr ⟨by go_num, HQ2.out⟩
            case measure => simp [intOf]; try omega
        · obtain ⟨i, rfl⟩ : ∃ i, j = i + 1 := ⟨j - 1, by omega⟩
          cases hyo : y == o with
          | false =>
            clear Hno
            go_wp2_with fail
            go_round
            case rel => exact .inl ⟨i, by go_num, by omega, HQ2.out⟩
            case measure => simp [intOf]; try omega
          | true =>
            have hkP : P < (k : Int) := Int.not_le.1 fun h => Hno.out ⟨by omega, by simpa using hyo, h⟩
            clear Hno
            go_wp2_with fail
            go_round
            case rel => exact .inl ⟨i, by go_num, by omega, HQ2.out⟩
            case measure => simp [intOf]; try omega
    · have HQ2 : Hid (T = none) := HQ.out.symm
      clear HQ
      go_wp2_with fail
      go_ret3
      rw [HR.out.1, HR.out.2.1, HR.out.2.2, HQ2.out]
      exact ⟨rfl, Hbel.out⟩

set_option maxHeartbeats 2000000 in
theorem brackets_open (b off cap : Nat) (zs : List Int) (k : Nat) (key : Int) (w : World) (hk : k < zs.length) (hn : zs.length ≤ 4096) (hb : b < w.heap.size) (hcap : zs.length ≤ cap) (hcm : cap ≤ maxLen)
    (hc : ∀ j, j < zs.length → w.cell? ⟨b, off + j, none⟩ = some (.int .i64 (zs.getD j 0))) (hs : shuts key = false) (h0 : brk key ≠ 0) :
    Calls Try.prog 71 #[.slice (some ⟨b, off, none⟩) zs.length cap, .int .i64 (k : Int), .int .i64 key] w fun e w' =>
      e = .returned (.tuple #[.int .i64 (trip (bfind zs k (opn key) zs.length)).1, .int .i64 (trip (bfind zs k (opn key) zs.length)).2.1, .bool (trip (bfind zs k (opn key) zs.length)).2.2]) ∧ Below w.heap.size w w' := by
  obtain ⟨T, hT⟩ : ∃ T, T = bfind zs k (opn key) zs.length := ⟨_, rfl⟩
  rw [← hT]
  obtain ⟨R1, h1⟩ : ∃ R1, R1 = (trip T).1 := ⟨_, rfl⟩
  obtain ⟨R2, h2⟩ : ∃ R2, R2 = (trip T).2.1 := ⟨_, rfl⟩
  obtain ⟨R3, h3⟩ : ∃ R3, R3 = (trip T).2.2 := ⟨_, rfl⟩
  rw [← h1, ← h2, ← h3]
  have Ho : Hid (opn key = key) := opn_of_open hs h0
  have Hs : Hid (shuts key = false) := hs
  clear hs h0
  have HT : Hid (bfind zs k key (k + 1) = T) := by
    rw [hT, Ho.out]
    exact (bfind_far (by omega) zs.length (by omega)).symm
  have HR : Hid (R1 = (trip T).1 ∧ R2 = (trip T).2.1 ∧ R3 = (trip T).2.2) := ⟨h1, h2, h3⟩
  have HP : Hid (Calls Try.prog 84 #[.slice (some ⟨b, off, none⟩) zs.length cap] w fun e w' => PairsPost zs w e w') := pairs_any _ zs w (.inr ⟨b, off, cap, rfl, hcap, hcm, hb, hc⟩) (by omega)
  have Hc : Hid (∀ j, j < zs.length → w.cell? ⟨b, off + j, none⟩ = some (.int .i64 (zs.getD j 0))) := hc
  have hmin : min (k : Int) ((zs.length : Int) - 1) = (k : Int) := by omega
  clear hT h1 h2 h3 hc
  go_enter Try.func71, Try.ntmps71
  go_wp2_with fail
  refine (brk_go key w).mono ?_
  rintro e w1 ⟨rfl, hw1⟩
  rw [hw1, Hs.out]
  clear hw1 w1
  go_wp2_with fail
  refine HP.out.mono ?_
  clear HP
  rintro e w1 ⟨hbel, ⟨hlarge, _⟩ | ⟨_, pv, rfl, hpv⟩⟩
  · exact absurd hlarge (by omega)
  rcases hpv with ⟨_, _, _, hz⟩ | ⟨pb, po, pc, rfl, hpc, hpm, hpb, hpcell⟩
  · exact absurd (congrArg List.length hz) (by rw [pairs_len]; intro h; simp at h; rw [h] at hk; exact absurd hk (by simp))
  rw [pairs_len] at hpc hpcell ⊢
  have HC1 : Hid (∀ j, j < zs.length → w1.cell? ⟨b, off + j, none⟩ = some (.int .i64 (zs.getD j 0))) := fun j hj => (hbel.cell hb).trans (Hc.out j hj)
  have HC2 : Hid (∀ j, j < zs.length → w1.cell? ⟨pb, po + j, none⟩ = some (.int .i64 (par (fn zs) zs.length j))) := fun j hj => (hpcell j hj).trans (by unfold pairs; rw [rowOf_get _ _ _ hj])
  have Hbel : Hid (Below w.heap.size w w1) := hbel
  clear Hc hpcell hbel hpm hcm hpb hpc hcap hb
  go_wp2_with fail
  go_loop [14] (fun u14 => (∃ j : Nat, u14 = .int .i64 (j : Int) ∧ j ≤ k ∧ Hid (bfind zs k key (j + 1) = T)) ∨ (u14 = .int .i64 (-1) ∧ Hid (bfind zs k key 0 = T))) (fun u14 => (intOf u14 + 1).toNat)
  case atStart => exact .inl ⟨k, rfl, Nat.le_refl _, HT.out⟩
  case round =>
    rcases hrel with ⟨j, rfl, hj, HQ⟩ | ⟨rfl, HQ⟩
    · have hI : (j : Int) < (zs.length : Int) := by omega
      have hcx := HC1.out j (by omega)
      have hcp := HC2.out j (by omega)
      have hbr := @brp_true zs k key j
      generalize zs.getD j 0 = y at hcx hbr
      generalize hP : par (fn zs) zs.length j = P at hcp hbr
      have HPj : Hid (par (fn zs) zs.length j = P) := hP
      clear hP
      by_cases hjk : (j : Int) ≤ (k : Int) ∧ y = key ∧ (k : Int) ≤ P
      · have HQ2 : Hid (T = some (j, P.toNat)) := by
          have := HQ.out
          rw [bfind_hit (hbr.2 hjk), HPj.out] at this
          exact this.symm
        have hyo : (y == key) = true := by simpa using hjk.2.1
        have hkP : (k : Int) ≤ P := hjk.2.2
        have HPn : Hid (((P.toNat : Nat) : Int) = P) := by show ((P.toNat : Nat) : Int) = P; omega
        clear hjk hbr HQ
        go_wp2_with fail
        go_quiet (fail)
        go_wp2_with fail
        go_ret3
        rw [HR.out.1, HR.out.2.1, HR.out.2.2, HQ2.out]
        refine ⟨?_, below_drewN Hbel.out _⟩
        show _ = Ending.returned (.tuple #[.int .i64 (j : Int), .int .i64 ((P.toNat : Nat) : Int), .bool true])
        rw [HPn.out]
        rfl
      · have HQ2 : Hid (bfind zs k key j = T) := by
          have := HQ.out
          rw [bfind_miss (by rw [← Bool.not_eq_true]; exact fun h => hjk (hbr.1 h))] at this
          exact this
        have Hno : Hid (¬ ((j : Int) ≤ (k : Int) ∧ y = key ∧ (k : Int) ≤ P)) := hjk
        clear hjk hbr HQ
        by_cases hz : j = 0
        · subst hz
          rw [Nat.add_zero] at hcx hcp
          cases hyo : y == key with
          | false =>
            clear Hno
            go_wp2_with fail
            go_round
            case rel => exact .inr ⟨by go_num, HQ2.out⟩
            case measure => simp [intOf]; try omega
          | true =>
            have hkP : P < (k : Int) := Int.not_le.1 fun h => Hno.out ⟨by omega, by simpa using hyo, h⟩
            clear Hno
            go_wp2_with fail
            go_round
            case rel => exact .inr ⟨by go_num, HQ2.out⟩
            case measure => simp [intOf]; try omega
        · obtain ⟨i, rfl⟩ : ∃ i, j = i + 1 := ⟨j - 1, by omega⟩
          cases hyo : y == key with
          | false =>
            clear Hno
            go_wp2_with fail
            go_round
            case rel => exact .inl ⟨i, by go_num, by omega, HQ2.out⟩
            case measure => simp [intOf]; try omega
          | true =>
            have hkP : P < (k : Int) := Int.not_le.1 fun h => Hno.out ⟨by omega, by simpa using hyo, h⟩
            clear Hno
            go_wp2_with fail
            go_round
            case rel => exact .inl ⟨i, by go_num, by omega, HQ2.out⟩
            case measure => simp [intOf]; try omega
    · have HQ2 : Hid (T = none) := HQ.out.symm
      clear HQ
      go_wp2_with fail
      go_ret3
      rw [HR.out.1, HR.out.2.1, HR.out.2.2, HQ2.out]
      exact ⟨rfl, Hbel.out⟩

theorem brackets_any (v : Value) (zs : List Int) (k : Nat) (key : Int) (w : World) (hr : Reads w v zs) (hk : k ≤ zs.length - 1) (hn : zs.length ≤ 4096) (h0 : brk key ≠ 0) :
    Calls Try.prog 71 #[v, .int .i64 (k : Int), .int .i64 key] w fun e w' =>
      e = .returned (.tuple #[.int .i64 (trip (bfind zs k (opn key) zs.length)).1, .int .i64 (trip (bfind zs k (opn key) zs.length)).2.1, .bool (trip (bfind zs k (opn key) zs.length)).2.2]) ∧ Below w.heap.size w w' := by
  by_cases hz : zs.length = 0
  · obtain ⟨a, cap, rfl⟩ := hr.shape
    rw [hz]
    rw [hz] at hk
    obtain rfl : k = 0 := by omega
    exact brackets_none a cap key w
  · rcases hr with ⟨a, cap, rfl, rfl⟩ | ⟨b, off, cap, rfl, hcap, hcm, hb, hc⟩
    · exact absurd rfl hz
    · cases hs : shuts key with
      | true => exact brackets_shut b off cap zs k key w (by omega) hn hb hcap hcm hc hs
      | false => exact brackets_open b off cap zs k key w (by omega) hn hb hcap hcm hc hs h0
end Go.Proofs.Ytpgjaoemkadenab.Seek
