/- The contracts of the document's Next, Back and End. -/
import Derived.Test.YtpgjaoemkadenaaAtGo
set_option linter.unusedVariables false
set_option linter.unusedSimpArgs false
set_option maxRecDepth 100000
namespace Go.Proofs.Ytpgjaoemkadenaa.Seek
open Go.RowKit Plain

theorem refbegins_any (v : Value) (zs : List Int) (m : Nat) (b : Bool) (w : World) (hp : Reads w v zs) (hm : 1 ≤ m) (hm2 : m < zs.length) (hl : zs.length ≤ 4096) :
    Calls Try.prog 31 #[v, .int .i64 (m : Int), .bool b] w fun e w' => e = .returned (.bool (bgn zs b m)) ∧ w' = w := by
  rcases hp with ⟨_, _, _, rfl⟩ | ⟨bl, o, c, rfl, _, _, _, hc⟩
  · exact absurd hm2 (by simp)
  · exact refbegins_go bl o c zs m b w hc hm hm2 hl
set_option maxHeartbeats 1000000 in
theorem refback_go (v : Value) (zs : List Int) (j : Nat) (b : Bool) (w : World) (hp : Reads w v zs) (hl : zs.length ≤ 4096) (hj : j ≤ zs.length) :
    Calls Try.prog 20 #[v, .int .i64 (j : Int), .bool b] w fun e w' => e = .returned (.int .i64 (down (bgn zs b) j : Int)) ∧ w' = w := by
  obtain ⟨a, cap, rfl⟩ := hp.shape
  have Hp : Hid (Reads w (.slice a zs.length cap) zs) := hp
  clear hp
  obtain ⟨r, hr⟩ : ∃ r : Int, r = (down (bgn zs b) j : Int) := ⟨_, rfl⟩
  rw [← hr]
  have Hr : Hid ((down (bgn zs b) j : Int) = r) := hr.symm
  clear hr
  go_enter Try.func20, Try.ntmps20
  go_wp2_with fail
  go_loop [7] (fun u7 => ∃ m : Nat, u7 = .int .i64 ((m : Int) - 1) ∧ m ≤ zs.length ∧ Hid ((down (bgn zs b) m : Int) = r)) (fun u7 => (intOf u7 + 1).toNat)
  case atStart => exact ⟨j, by simp, by omega, Hr.out⟩
  case round =>
    obtain ⟨m, rfl, hm2, Hm⟩ := hrel
    by_cases hlt : 1 < m
    · obtain ⟨i, rfl⟩ : ∃ i, m = i + 1 := ⟨m - 1, by omega⟩
      have e1 : ((i + 1 : Nat) : Int) - 1 = (i : Int) := by omega
      rw [e1]
      clear e1
      have hI : (0 : Int) < (i : Int) := by omega
      go_wp2_with fail
      refine (refbegins_any _ zs i b w Hp.out (by omega) (by omega) hl).mono ?_
      rintro e w1 ⟨rfl, hw1⟩
      rw [hw1]
      clear hw1 w1
      cases hb : bgn zs b i with
      | true =>
        have Hm2 : Hid ((i : Int) = r) := by
          have h := Hm.out
          rw [down_hit hb] at h
          exact h
        clear hb Hm
        go_wp2_with fail
        go_ret
        rw [← Hm2.out]
        exact ⟨rfl, rfl⟩
      | false =>
        have Hm2 : Hid ((down (bgn zs b) i : Int) = r) := by
          have h := Hm.out
          rw [down_miss hb] at h
          exact h
        clear hb Hm
        go_wp2_with fail
        go_round
        case rel => exact ⟨i, by go_num, by omega, Hm2.out⟩
        case measure => simp [intOf]
    · have hI : (m : Int) - 1 ≤ 0 := by omega
      have Hm2 : Hid ((0 : Int) = r) := by
        have h := Hm.out
        rw [down_small (bgn zs b) (by omega)] at h
        exact h
      clear Hm
      go_wp2_with fail
      go_ret
      rw [← Hm2.out]
      exact ⟨rfl, rfl⟩
end Go.Proofs.Ytpgjaoemkadenaa.Seek
