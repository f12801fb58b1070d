/- The contract of the document's runOf. -/
import Derived.Test.YtcmcaifcncabgaaThings
import Derived.Deep.RegionWith
set_option linter.unusedVariables false
set_option linter.unusedSimpArgs false
namespace Go.Proofs.Ytcmcaifcncabgaa.Seek
open Go.RowKit Plain

set_option maxHeartbeats 2000000 in
theorem runOf_go (b off cap : Nat) (zs : List Int) (x : Int) (k : Nat) (bg : Bool) (w : World) (hx : x = (k : Int)) (hk : k < zs.length) (hn : zs.length ≤ 4096)
    (hc : ∀ j, j < zs.length → w.cell? ⟨b, off + j, none⟩ = some (.int .i64 (zs.getD j 0))) :
    Calls Try.prog 18 #[.slice (some ⟨b, off, none⟩) zs.length cap, .int .i64 x, .bool bg] w fun e w' => e = .returned (.tuple #[.int .i64 (rlo zs bg k : Int), .int .i64 (rhi zs bg k : Int)]) ∧ ∃ q, w' = w.drewN q := by
  subst hx
  have Hc : Hid (∀ j, j < zs.length → w.cell? ⟨b, off + j, none⟩ = some (.int .i64 (zs.getD j 0))) := hc
  obtain ⟨A, hA⟩ : ∃ A, A = rlo zs bg k := ⟨_, rfl⟩
  obtain ⟨Z, hZ⟩ : ∃ Z, Z = rhi zs bg k := ⟨_, rfl⟩
  rw [← hA, ← hZ]
  have HA : Hid (lo (same zs bg k) k = A) := hA.symm
  have HZ : Hid (hi (same zs bg k) zs.length (k + 1) = Z) := hZ.symm
  obtain ⟨z, hz⟩ : ∃ z, z = zs.getD k 0 := ⟨_, rfl⟩
  have HK : Hid (∀ q, (w.drewN q).cell? ⟨b, off + k, none⟩ = some (.int .i64 z)) := fun q => by rw [hz]; exact hc k hk
  obtain ⟨K, hK⟩ : ∃ K, K = kind z bg := ⟨_, rfl⟩
  have HZK : Hid (∀ q, Calls Try.prog 19 #[.int .i64 z, .bool bg] (w.drewN q) fun e w' => e = .returned (.int .i64 K) ∧ w' = (w.drewN q)) := fun q => by rw [hK]; exact refkind_go z bg _
  have HS : Hid (∀ i, same zs bg k i = (kind (zs.getD i 0) bg == K)) := fun i => by unfold same kd; rw [hK, hz]
  clear hA hZ hc hz hK
  have hI : (k : Int) < (zs.length : Int) := by omega
  go_enter Try.func18, Try.ntmps18
  go_wp2_with fail
  go_loopw [8] (fun u8 wr => ∃ m : Nat, u8 = .int .i64 (m : Int) ∧ m ≤ k ∧ Hid (lo (same zs bg k) m = A) ∧ Hid (∃ q, wr = w.drewN q)) (fun u8 _ => (intOf u8).toNat)
  case atStart => exact ⟨k, rfl, by omega, HA.out, 0, rfl⟩
  case round =>
    obtain ⟨m, rfl, hm, Hm, Hq⟩ := hrel
    obtain ⟨wo, hwo⟩ : ∃ wo, wo = wr := ⟨_, rfl⟩
    subst hwo
    by_cases h0 : m = 0
    · have HA0 : Hid (A = 0) := by rw [← Hm.out, h0]; rfl
      subst h0
      clear Hm HA
      go_wp2_with fail
      go_quiet (fail)
      have Hq2 : Hid (∃ q, wo.drewN nq = w.drewN q) := by obtain ⟨q, hq⟩ := Hq.out; exact ⟨q + nq, by rw [hq, World.drewN_drewN]⟩
      clear Hq
      go_wp2_with fail
      go_loopw [9] (fun u9 wr => ∃ m : Nat, u9 = .int .i64 (m : Int) ∧ m ≤ zs.length ∧ k < m ∧ Hid (hi (same zs bg k) zs.length m = Z) ∧ Hid (∃ q, wr = w.drewN q)) (fun u9 _ => zs.length - (intOf u9).toNat)
      case atStart => exact ⟨k + 1, by go_num, by omega, by omega, HZ.out, Hq2.out⟩
      case round =>
        obtain ⟨m2, rfl, hm2, hkm, Hm, Hq3⟩ := hrel
        have hcz : wr.cell? ⟨b, off + k, none⟩ = some (.int .i64 z) := by obtain ⟨q, hq⟩ := Hq3.out; rw [hq]; exact HK.out q
        have HZK2 : Hid (∀ q, Calls Try.prog 19 #[.int .i64 z, .bool bg] (wr.drewN q) fun e w' => e = .returned (.int .i64 K) ∧ w' = (wr.drewN q)) := fun q2 => by
          obtain ⟨q, hq⟩ := Hq3.out
          rw [hq, World.drewN_drewN]
          exact HZK.out _
        by_cases hlt : m2 < zs.length
        · have hI2 : (m2 : Int) < (zs.length : Int) := by omega
          have hcx : wr.cell? ⟨b, off + m2, none⟩ = some (.int .i64 (zs.getD m2 0)) := by obtain ⟨q, hq⟩ := Hq3.out; rw [hq]; exact Hc.out m2 hlt
          have hs := HS.out m2
          generalize zs.getD m2 0 = y at hcx hs
          obtain ⟨Y, hY⟩ : ∃ Y, Y = kind y bg := ⟨_, rfl⟩
          have HY : Hid (∀ q, Calls Try.prog 19 #[.int .i64 y, .bool bg] (wr.drewN q) fun e w' => e = .returned (.int .i64 Y) ∧ w' = (wr.drewN q)) := fun q => by rw [hY]; exact refkind_go y bg _
          rw [← hY] at hs
          clear hY
          have hG : decide (m2 < zs.length) = true := decide_eq_true hlt
          cases hq : Y == K with
          | true =>
            have Hm2 : Hid (hi (same zs bg k) zs.length (m2 + 1) = Z) := (hi_hit hlt (hs.trans hq)).symm.trans Hm.out
            clear Hm hs
            go_wp2_with fail
            go_quiet (first
              | (go_at_call_of 19 y; exact Calls.quiet_of_same (HY.out _))
              | (go_at_call_of 19 z; exact Calls.quiet_of_same (HZK2.out _)))
            go_wp2_with fail
            go_roundw
            case rel => exact ⟨m2 + 1, by go_num, by omega, by omega, Hm2.out, (by obtain ⟨q, hq⟩ := Hq3.out; exact ⟨q + nq, by rw [hq, World.drewN_drewN]⟩)⟩
            case measure => simp [intOf]; omega
          | false =>
            have Hm2 : Hid (m2 = Z) := (hi_miss hlt (hs.trans hq)).symm.trans Hm.out
            clear Hm hs
            go_wp2_with fail
            go_quiet (first
              | (go_at_call_of 19 y; exact Calls.quiet_of_same (HY.out _))
              | (go_at_call_of 19 z; exact Calls.quiet_of_same (HZK2.out _)))
            go_wp2_with fail
            go_ret2
            rw [HA0.out, ← Hm2.out]
            exact ⟨rfl, (by obtain ⟨q, hq⟩ := Hq3.out; exact ⟨q + nq, by rw [hq, World.drewN_drewN]⟩)⟩
        · have Hm2 : Hid (m2 = Z) := (hi_done (by omega)).symm.trans Hm.out
          have hG : decide (m2 < zs.length) = false := decide_eq_false hlt
          clear Hm
          go_wp2_with fail
          go_quiet (fail)
          go_wp2_with fail
          go_ret2
          rw [HA0.out, ← Hm2.out]
          exact ⟨rfl, (by obtain ⟨q, hq⟩ := Hq3.out; exact ⟨q + nq, by rw [hq, World.drewN_drewN]⟩)⟩
    · obtain ⟨j, rfl⟩ : ∃ j, m = j + 1 := ⟨m - 1, by omega⟩
      have hcx : wo.cell? ⟨b, off + j, none⟩ = some (.int .i64 (zs.getD j 0)) := by obtain ⟨q, hq⟩ := Hq.out; rw [hq]; exact Hc.out j (by omega)
      have hcz : wo.cell? ⟨b, off + k, none⟩ = some (.int .i64 z) := by obtain ⟨q, hq⟩ := Hq.out; rw [hq]; exact HK.out q
      have HZK2 : Hid (∀ q, Calls Try.prog 19 #[.int .i64 z, .bool bg] (wo.drewN q) fun e w' => e = .returned (.int .i64 K) ∧ w' = (wo.drewN q)) := fun q2 => by
        obtain ⟨q, hq⟩ := Hq.out
        rw [hq, World.drewN_drewN]
        exact HZK.out _
      have hs := HS.out j
      generalize zs.getD j 0 = y at hcx hs
      obtain ⟨Y, hY⟩ : ∃ Y, Y = kind y bg := ⟨_, rfl⟩
      have HY : Hid (∀ q, Calls Try.prog 19 #[.int .i64 y, .bool bg] (wo.drewN q) fun e w' => e = .returned (.int .i64 Y) ∧ w' = (wo.drewN q)) := fun q => by rw [hY]; exact refkind_go y bg _
      rw [← hY] at hs
      clear hY
      have hI2 : (j : Int) < (zs.length : Int) := by omega
      have hG : decide ((j : Int) + 1 > 0) = true := decide_eq_true (by omega)
      cases hq : Y == K with
      | true =>
        have Hm2 : Hid (lo (same zs bg k) j = A) := (lo_hit (hs.trans hq)).symm.trans Hm.out
        clear Hm hs
        go_wp2_with fail
        go_quiet (first
          | (go_at_call_of 19 y; exact Calls.quiet_of_same (HY.out _))
          | (go_at_call_of 19 z; exact Calls.quiet_of_same (HZK2.out _)))
        go_wp2_with fail
        go_roundw
        case rel => exact ⟨j, by go_num, by omega, Hm2.out, (by obtain ⟨q, hq⟩ := Hq.out; exact ⟨q + nq, by rw [hq, World.drewN_drewN]⟩)⟩
        case measure => simp [intOf]; try omega
      | false =>
        have HA0 : Hid (A = j + 1) := Hm.out.symm.trans (lo_miss (hs.trans hq))
        clear Hm hs
        go_wp2_with fail
        go_quiet (first
          | (go_at_call_of 19 y; exact Calls.quiet_of_same (HY.out _))
          | (go_at_call_of 19 z; exact Calls.quiet_of_same (HZK2.out _)))
        have Hq2 : Hid (∃ q, wo.drewN nq = w.drewN q) := by obtain ⟨q, hq⟩ := Hq.out; exact ⟨q + nq, by rw [hq, World.drewN_drewN]⟩
        clear hcx HY hI2 hG hcz HZK2 Hq
        go_wp2_with fail
        go_loopw [9] (fun u9 wr => ∃ m : Nat, u9 = .int .i64 (m : Int) ∧ m ≤ zs.length ∧ k < m ∧ Hid (hi (same zs bg k) zs.length m = Z) ∧ Hid (∃ q, wr = w.drewN q)) (fun u9 _ => zs.length - (intOf u9).toNat)
        case atStart => exact ⟨k + 1, by go_num, by omega, by omega, HZ.out, Hq2.out⟩
        case round =>
          obtain ⟨m2, rfl, hm2, hkm, Hm, Hq3⟩ := hrel
          have hcz : wr.cell? ⟨b, off + k, none⟩ = some (.int .i64 z) := by obtain ⟨q, hq⟩ := Hq3.out; rw [hq]; exact HK.out q
          have HZK2 : Hid (∀ q, Calls Try.prog 19 #[.int .i64 z, .bool bg] (wr.drewN q) fun e w' => e = .returned (.int .i64 K) ∧ w' = (wr.drewN q)) := fun q2 => by
            obtain ⟨q, hq⟩ := Hq3.out
            rw [hq, World.drewN_drewN]
            exact HZK.out _
          by_cases hlt : m2 < zs.length
          · have hI2 : (m2 : Int) < (zs.length : Int) := by omega
            have hcx : wr.cell? ⟨b, off + m2, none⟩ = some (.int .i64 (zs.getD m2 0)) := by obtain ⟨q, hq⟩ := Hq3.out; rw [hq]; exact Hc.out m2 hlt
            have hs := HS.out m2
            generalize zs.getD m2 0 = y at hcx hs
            obtain ⟨Y, hY⟩ : ∃ Y, Y = kind y bg := ⟨_, rfl⟩
            have HY : Hid (∀ q, Calls Try.prog 19 #[.int .i64 y, .bool bg] (wr.drewN q) fun e w' => e = .returned (.int .i64 Y) ∧ w' = (wr.drewN q)) := fun q => by rw [hY]; exact refkind_go y bg _
            rw [← hY] at hs
            clear hY
            have hG : decide (m2 < zs.length) = true := decide_eq_true hlt
            cases hq : Y == K with
            | true =>
              have Hm2 : Hid (hi (same zs bg k) zs.length (m2 + 1) = Z) := (hi_hit hlt (hs.trans hq)).symm.trans Hm.out
              clear Hm hs
              go_wp2_with fail
              go_quiet (first
                | (go_at_call_of 19 y; exact Calls.quiet_of_same (HY.out _))
                | (go_at_call_of 19 z; exact Calls.quiet_of_same (HZK2.out _)))
              go_wp2_with fail
              go_roundw
              case rel => exact ⟨m2 + 1, by go_num, by omega, by omega, Hm2.out, (by obtain ⟨q, hq⟩ := Hq3.out; exact ⟨q + nq, by rw [hq, World.drewN_drewN]⟩)⟩
              case measure => simp [intOf]; omega
            | false =>
              have Hm2 : Hid (m2 = Z) := (hi_miss hlt (hs.trans hq)).symm.trans Hm.out
              clear Hm hs
              go_wp2_with fail
              go_quiet (first
                | (go_at_call_of 19 y; exact Calls.quiet_of_same (HY.out _))
                | (go_at_call_of 19 z; exact Calls.quiet_of_same (HZK2.out _)))
              go_wp2_with fail
              go_ret2
              rw [HA0.out, ← Hm2.out]
              exact ⟨rfl, (by obtain ⟨q, hq⟩ := Hq3.out; exact ⟨q + nq, by rw [hq, World.drewN_drewN]⟩)⟩
          · have Hm2 : Hid (m2 = Z) := (hi_done (by omega)).symm.trans Hm.out
            have hG : decide (m2 < zs.length) = false := decide_eq_false hlt
            clear Hm
            go_wp2_with fail
            go_quiet (fail)
            go_wp2_with fail
            go_ret2
            rw [HA0.out, ← Hm2.out]
            exact ⟨rfl, (by obtain ⟨q, hq⟩ := Hq3.out; exact ⟨q + nq, by rw [hq, World.drewN_drewN]⟩)⟩
end Go.Proofs.Ytcmcaifcncabgaa.Seek
