/- The contracts of object.isBlank, object.run and the document's runOf. -/
import Derived.Test.YtcmcaifcncabgaaThings
import Derived.Deep.RegionWith
set_option linter.unusedVariables false
set_option linter.unusedSimpArgs false
namespace Go.Proofs.Ytcmcaifcncabgaa.Seek
open Go.RowKit Plain

theorem blank_go (b off cap n : Nat) (x : Int) (i : Nat) (z : Int) (bg : Bool) (w : World) (hx : x = (i : Int)) (hi : i < n) (hn : n ≤ 4096) (hc : w.cell? ⟨b, off + i, none⟩ = some (.int .i64 z)) :
    Calls Try.prog 26 #[.slice (some ⟨b, off, none⟩) n cap, .int .i64 x, .bool bg] w fun e w' => e = .returned (.bool (kind z bg == 0)) ∧ w' = w := by
  subst hx
  have hI : (i : Int) < (n : Int) := by omega
  go_enter Try.func26, Try.ntmps26
  go_wp2_with fail
  refine (kind_go z bg w).mono ?_
  rintro e w1 ⟨rfl, hw1⟩
  rw [hw1]
  clear hw1 w1
  go_wp2_with fail
  go_ret
  exact ⟨rfl, rfl⟩

set_option maxHeartbeats 1000000 in
theorem run_go (b off cap : Nat) (zs : List Int) (x : Int) (k : Nat) (bg : Bool) (w : World) (hx : x = (k : Int)) (hk : k < zs.length) (hn : zs.length ≤ 4096)
    (hc : ∀ j, j < zs.length → w.cell? ⟨b, off + j, none⟩ = some (.int .i64 (zs.getD j 0))) :
    Calls Try.prog 25 #[.slice (some ⟨b, off, none⟩) zs.length cap, .int .i64 x, .bool bg] w fun e w' => e = .returned (.tuple #[.int .i64 (rlo zs bg k : Int), .int .i64 (rhi zs bg k : Int)]) ∧ w' = w := by
  subst hx
  have Hc : Hid (∀ j, j < zs.length → w.cell? ⟨b, off + j, none⟩ = some (.int .i64 (zs.getD j 0))) := hc
  obtain ⟨A, hA⟩ : ∃ A, A = rlo zs bg k := ⟨_, rfl⟩
  obtain ⟨Z, hZ⟩ : ∃ Z, Z = rhi zs bg k := ⟨_, rfl⟩
  rw [← hA, ← hZ]
  have HA : Hid (lo (same zs bg k) k = A) := hA.symm
  have HZ : Hid (hi (same zs bg k) zs.length (k + 1) = Z) := hZ.symm
  have hck := hc k hk
  obtain ⟨z, hz⟩ : ∃ z, z = zs.getD k 0 := ⟨_, rfl⟩
  rw [← hz] at hck
  obtain ⟨K, hK⟩ : ∃ K, K = kind z bg := ⟨_, rfl⟩
  have HK : Hid (kind z bg = K) := hK.symm
  have HS : Hid (∀ i, same zs bg k i = (kind (zs.getD i 0) bg == K)) := fun i => by unfold same kd; rw [hK, hz]
  clear hA hZ hc hz hK
  have hI : (k : Int) < (zs.length : Int) := by omega
  go_enter Try.func25, Try.ntmps25
  go_wp2_with fail
  refine (kind_go z bg w).mono ?_
  rintro e w1 ⟨rfl, hw1⟩
  rw [hw1, HK.out]
  clear hw1 w1 HK hck hI
  go_wp2_with fail
  go_loop [9] (fun u9 => ∃ m : Nat, u9 = .int .i64 (m : Int) ∧ m ≤ k ∧ Hid (lo (same zs bg k) m = A)) (fun u9 => (intOf u9).toNat)
  case atStart => exact ⟨k, rfl, by omega, HA.out⟩
  case round =>
    obtain ⟨m, rfl, hm, Hm⟩ := hrel
    by_cases h0 : m = 0
    · have HA0 : Hid (A = 0) := by rw [← Hm.out, h0]; rfl
      subst h0
      clear Hm HA
      go_wp2_with fail
      go_loop [10] (fun u10 => ∃ m : Nat, u10 = .int .i64 (m : Int) ∧ m ≤ zs.length ∧ Hid (hi (same zs bg k) zs.length m = Z)) (fun u10 => zs.length - (intOf u10).toNat)
      case atStart => exact ⟨k + 1, by go_num, by omega, HZ.out⟩
      case round =>
        obtain ⟨m2, rfl, hm2, Hm⟩ := hrel
        by_cases hlt : m2 < zs.length
        · have hI : (m2 : Int) < (zs.length : Int) := by omega
          have hcx := Hc.out m2 hlt
          have hs := HS.out m2
          generalize zs.getD m2 0 = y at hcx hs
          obtain ⟨Y, hY⟩ : ∃ Y, Y = kind y bg := ⟨_, rfl⟩
          have HY : Hid (kind y bg = Y) := hY.symm
          rw [← hY] at hs
          clear hY
          cases hq : Y == K with
          | true =>
            have Hm2 : Hid (hi (same zs bg k) zs.length (m2 + 1) = Z) := (hi_hit hlt (hs.trans hq)).symm.trans Hm.out
            clear Hm hs
            go_wp2_with fail
            refine (kind_go y bg w).mono ?_
            rintro e w1 ⟨rfl, hw1⟩
            rw [hw1, HY.out]
            clear hw1 w1
            go_wp2_with fail
            go_round
            case rel => exact ⟨m2 + 1, by go_num, by omega, Hm2.out⟩
            case measure => simp [intOf]; omega
          | false =>
            have Hm2 : Hid (m2 = Z) := (hi_miss hlt (hs.trans hq)).symm.trans Hm.out
            clear Hm hs
            go_wp2_with fail
            refine (kind_go y bg w).mono ?_
            rintro e w1 ⟨rfl, hw1⟩
            rw [hw1, HY.out]
            clear hw1 w1
            go_wp2_with fail
            go_ret2
            rw [HA0.out, ← Hm2.out]
            exact ⟨rfl, rfl⟩
        · have hI : (zs.length : Int) ≤ (m2 : Int) := by omega
          have Hm2 : Hid (m2 = Z) := (hi_done (by omega)).symm.trans Hm.out
          clear Hm
          go_wp2_with fail
          all_goals (
            go_ret2
            rw [HA0.out, ← Hm2.out]
            exact ⟨by first | rfl | (congr; omega), rfl⟩)
    · obtain ⟨j, rfl⟩ : ∃ j, m = j + 1 := ⟨m - 1, by omega⟩
      have hcx := Hc.out j (by omega)
      have hs := HS.out j
      generalize zs.getD j 0 = y at hcx hs
      obtain ⟨Y, hY⟩ : ∃ Y, Y = kind y bg := ⟨_, rfl⟩
      have HY : Hid (kind y bg = Y) := hY.symm
      rw [← hY] at hs
      clear hY
      have hI : (j : Int) < (zs.length : Int) := by omega
      cases hq : Y == K with
      | true =>
        have Hm2 : Hid (lo (same zs bg k) j = A) := (lo_hit (hs.trans hq)).symm.trans Hm.out
        clear Hm hs
        go_wp2_with fail
        refine (kind_go y bg w).mono ?_
        rintro e w1 ⟨rfl, hw1⟩
        rw [hw1, HY.out]
        clear hw1 w1
        go_wp2_with fail
        go_round
        case rel => exact ⟨j, by go_num, by omega, Hm2.out⟩
        case measure => simp [intOf]; try omega
      | false =>
        have HA0 : Hid (A = j + 1) := Hm.out.symm.trans (lo_miss (hs.trans hq))
        clear Hm hs
        go_wp2_with fail
        refine (kind_go y bg w).mono ?_
        rintro e w1 ⟨rfl, hw1⟩
        rw [hw1, HY.out]
        clear hw1 w1 hcx HY hI
        go_wp2_with fail
        go_loop [10] (fun u10 => ∃ m : Nat, u10 = .int .i64 (m : Int) ∧ m ≤ zs.length ∧ Hid (hi (same zs bg k) zs.length m = Z)) (fun u10 => zs.length - (intOf u10).toNat)
        case atStart => exact ⟨k + 1, by go_num, by omega, HZ.out⟩
        case round =>
          obtain ⟨m2, rfl, hm2, Hm⟩ := hrel
          by_cases hlt : m2 < zs.length
          · have hI : (m2 : Int) < (zs.length : Int) := by omega
            have hcx := Hc.out m2 hlt
            have hs := HS.out m2
            generalize zs.getD m2 0 = y at hcx hs
            obtain ⟨Y, hY⟩ : ∃ Y, Y = kind y bg := ⟨_, rfl⟩
            have HY : Hid (kind y bg = Y) := hY.symm
            rw [← hY] at hs
            clear hY
            cases hq : Y == K with
            | true =>
              have Hm2 : Hid (hi (same zs bg k) zs.length (m2 + 1) = Z) := (hi_hit hlt (hs.trans hq)).symm.trans Hm.out
              clear Hm hs
              go_wp2_with fail
              refine (kind_go y bg w).mono ?_
              rintro e w1 ⟨rfl, hw1⟩
              rw [hw1, HY.out]
              clear hw1 w1
              go_wp2_with fail
              go_round
              case rel => exact ⟨m2 + 1, by go_num, by omega, Hm2.out⟩
              case measure => simp [intOf]; omega
            | false =>
              have Hm2 : Hid (m2 = Z) := (hi_miss hlt (hs.trans hq)).symm.trans Hm.out
              clear Hm hs
              go_wp2_with fail
              refine (kind_go y bg w).mono ?_
              rintro e w1 ⟨rfl, hw1⟩
              rw [hw1, HY.out]
              clear hw1 w1
              go_wp2_with fail
              go_ret2
              rw [HA0.out, ← Hm2.out]
              exact ⟨rfl, rfl⟩
          · have hI : (zs.length : Int) ≤ (m2 : Int) := by omega
            have Hm2 : Hid (m2 = Z) := (hi_done (by omega)).symm.trans Hm.out
            clear Hm
            go_wp2_with fail
            all_goals (
              go_ret2
              rw [HA0.out, ← Hm2.out]
              exact ⟨by first | rfl | (congr; omega), rfl⟩)
end Go.Proofs.Ytcmcaifcncabgaa.Seek
