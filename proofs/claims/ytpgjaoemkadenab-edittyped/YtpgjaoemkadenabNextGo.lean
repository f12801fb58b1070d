/- The contracts of word.Next, word.Back and word.End. -/
import Derived.Test.YtpgjaoemkadenabAtGo
set_option linter.unusedVariables false
set_option linter.unusedSimpArgs false
set_option maxRecDepth 100000
namespace Go.Proofs.Ytpgjaoemkadenab.Seek
open Go.RowKit Plain


set_option maxHeartbeats 1000000 in
theorem next_go (v : Value) (zs : List Int) (k : Int) (b : Bool) (w : World) (hp : Reads w v zs) :
    Calls Try.prog 85 #[v, .int .i64 k, .bool b] w fun e w' => e = .returned (.tuple #[.int .i64 (next zs k b), .int .i64 (chk zs.length k)]) ∧ w' = w := by
  obtain ⟨a, cap, rfl⟩ := hp.shape
  have Hp : Hid (Reads w (.slice a zs.length cap) zs) := hp
  clear hp
  obtain ⟨r, hr⟩ : ∃ r, r = next zs k b := ⟨_, rfl⟩
  rw [← hr]
  by_cases hc : chk zs.length k = 0
  · obtain ⟨hl, j, hk, hj⟩ := chk_zero hc
    have Hr : Hid (up (bgn zs b) (zs.length : Int) zs.length (j + 1) = r) := by
      rw [hr]
      unfold next
      rw [if_pos hc, hk]
      rfl
    subst hk
    have Hc : Hid (chk zs.length (j : Int) = 0) := hc
    rw [hc]
    clear hc hr
    go_enter Try.func85, Try.ntmps85
    go_wp2_with fail
    refine (check_go a zs.length cap (j : Int) w).mono ?_
    rintro e w1 ⟨rfl, hw1⟩
    rw [hw1, Hc.out]
    clear hw1 w1 Hc
    go_wp2_with fail
    go_loop [9] (fun u9 => ∃ m : Nat, u9 = .int .i64 (m : Int) ∧ 1 ≤ m ∧ m ≤ zs.length + 1 ∧ Hid (up (bgn zs b) (zs.length : Int) zs.length m = r)) (fun u9 => zs.length + 1 - (intOf u9).toNat)
    case atStart => exact ⟨j + 1, by simp, by omega, by omega, Hr.out⟩
    case round =>
      obtain ⟨m, rfl, hm1, hm2, Hm⟩ := hrel
      by_cases hlt : m < zs.length
      · have hI : (m : Int) < (zs.length : Int) := by omega
        go_wp2_with fail
        refine (begins_go _ zs m b w Hp.out hm1 (by omega)).mono ?_
        rintro e w1 ⟨rfl, hw1⟩
        rw [hw1]
        clear hw1 w1
        cases hb : bgn zs b m with
        | true =>
          have Hm2 : Hid ((m : Int) = r) := (up_hit hlt hb).symm.trans Hm.out
          clear hb Hm
          go_wp2_with fail
          go_ret2
          rw [← Hm2.out]
          exact ⟨rfl, rfl⟩
        | false =>
          have Hm2 : Hid (up (bgn zs b) (zs.length : Int) zs.length (m + 1) = r) := (up_miss hlt hb).symm.trans Hm.out
          clear hb Hm
          go_wp2_with fail
          go_round
          case rel => exact ⟨m + 1, by go_num, by omega, by omega, Hm2.out⟩
          case measure => simp [intOf]; omega
      · have hI : (zs.length : Int) ≤ (m : Int) := by omega
        have Hm2 : Hid ((zs.length : Int) = r) := (up_done (by omega)).symm.trans Hm.out
        clear Hm
        go_wp2_with fail
        all_goals (
          go_ret2
          rw [← Hm2.out]
          refine ⟨?_, rfl⟩
          show Ending.returned (.tuple #[.int .i64 _, .int .i64 0]) = _
          refine congrArg (fun x => Ending.returned (.tuple #[.int .i64 x, .int .i64 0])) ?_
          omega)
  · have Hr : Hid (r = 0) := by
      rw [hr]
      unfold next
      exact if_neg hc
    obtain ⟨c, hcc⟩ : ∃ c, c = chk zs.length k := ⟨_, rfl⟩
    rw [← hcc] at hc ⊢
    have Hc : Hid (chk zs.length k = c) := hcc.symm
    have hcb : (c != 0) = true := by simpa using hc
    clear hc hcc hr
    go_enter Try.func85, Try.ntmps85
    go_wp2_with fail
    refine (check_go a zs.length cap k w).mono ?_
    rintro e w1 ⟨rfl, hw1⟩
    rw [hw1, Hc.out]
    clear hw1 w1 Hc
    go_wp2_with fail
    go_ret2
    rw [Hr.out]
    exact ⟨rfl, rfl⟩

set_option maxHeartbeats 1000000 in
theorem last_go (v : Value) (zs : List Int) (k : Int) (b : Bool) (w : World) (hp : Reads w v zs) :
    Calls Try.prog 86 #[v, .int .i64 k, .bool b] w fun e w' => e = .returned (.tuple #[.int .i64 (last zs k b), .int .i64 (chk zs.length k)]) ∧ w' = w := by
  obtain ⟨a, cap, rfl⟩ := hp.shape
  have Hp : Hid (Reads w (.slice a zs.length cap) zs) := hp
  clear hp
  obtain ⟨r, hr⟩ : ∃ r, r = last zs k b := ⟨_, rfl⟩
  rw [← hr]
  by_cases hc : chk zs.length k = 0
  · obtain ⟨hl, j, hk, hj⟩ := chk_zero hc
    have Hr : Hid (up (fin zs b) ((zs.length - 1 : Nat) : Int) zs.length (j + 1) = r) := by
      rw [hr]
      unfold last
      rw [if_pos hc, hk]
      rfl
    subst hk
    have Hc : Hid (chk zs.length (j : Int) = 0) := hc
    rw [hc]
    clear hc hr
    go_enter Try.func86, Try.ntmps86
    go_wp2_with fail
    refine (check_go a zs.length cap (j : Int) w).mono ?_
    rintro e w1 ⟨rfl, hw1⟩
    rw [hw1, Hc.out]
    clear hw1 w1 Hc
    go_wp2_with fail
    go_loop [9] (fun u9 => ∃ m : Nat, u9 = .int .i64 (m : Int) ∧ 1 ≤ m ∧ m ≤ zs.length + 1 ∧ Hid (up (fin zs b) ((zs.length - 1 : Nat) : Int) zs.length m = r)) (fun u9 => zs.length + 1 - (intOf u9).toNat)
    case atStart => exact ⟨j + 1, by simp, by omega, by omega, Hr.out⟩
    case round =>
      obtain ⟨m, rfl, hm1, hm2, Hm⟩ := hrel
      by_cases hlt : m < zs.length
      · have hI : (m : Int) < (zs.length : Int) := by omega
        go_wp2_with fail
        refine (ends_go _ zs m b w Hp.out  (by omega)).mono ?_
        rintro e w1 ⟨rfl, hw1⟩
        rw [hw1]
        clear hw1 w1
        cases hb : fin zs b m with
        | true =>
          have Hm2 : Hid ((m : Int) = r) := (up_hit hlt hb).symm.trans Hm.out
          clear hb Hm
          go_wp2_with fail
          go_ret2
          rw [← Hm2.out]
          exact ⟨rfl, rfl⟩
        | false =>
          have Hm2 : Hid (up (fin zs b) ((zs.length - 1 : Nat) : Int) zs.length (m + 1) = r) := (up_miss hlt hb).symm.trans Hm.out
          clear hb Hm
          go_wp2_with fail
          go_round
          case rel => exact ⟨m + 1, by go_num, by omega, by omega, Hm2.out⟩
          case measure => simp [intOf]; omega
      · have hI : (zs.length : Int) ≤ (m : Int) := by omega
        have Hm2 : Hid (((zs.length - 1 : Nat) : Int) = r) := (up_done (by omega)).symm.trans Hm.out
        clear Hm
        go_wp2_with fail
        all_goals (
          go_ret2
          rw [← Hm2.out]
          refine ⟨?_, rfl⟩
          show Ending.returned (.tuple #[.int .i64 _, .int .i64 0]) = _
          refine congrArg (fun x => Ending.returned (.tuple #[.int .i64 x, .int .i64 0])) ?_
          omega)
  · have Hr : Hid (r = 0) := by
      rw [hr]
      unfold last
      exact if_neg hc
    obtain ⟨c, hcc⟩ : ∃ c, c = chk zs.length k := ⟨_, rfl⟩
    rw [← hcc] at hc ⊢
    have Hc : Hid (chk zs.length k = c) := hcc.symm
    have hcb : (c != 0) = true := by simpa using hc
    clear hc hcc hr
    go_enter Try.func86, Try.ntmps86
    go_wp2_with fail
    refine (check_go a zs.length cap k w).mono ?_
    rintro e w1 ⟨rfl, hw1⟩
    rw [hw1, Hc.out]
    clear hw1 w1 Hc
    go_wp2_with fail
    go_ret2
    rw [Hr.out]
    exact ⟨rfl, rfl⟩

set_option maxHeartbeats 1000000 in
theorem back_go (v : Value) (zs : List Int) (k : Int) (b : Bool) (w : World) (hp : Reads w v zs) :
    Calls Try.prog 46 #[v, .int .i64 k, .bool b] w fun e w' => e = .returned (.tuple #[.int .i64 (back zs k b), .int .i64 (chk zs.length k)]) ∧ w' = w := by
  obtain ⟨a, cap, rfl⟩ := hp.shape
  have Hp : Hid (Reads w (.slice a zs.length cap) zs) := hp
  clear hp
  obtain ⟨r, hr⟩ : ∃ r, r = back zs k b := ⟨_, rfl⟩
  rw [← hr]
  by_cases hc : chk zs.length k = 0
  · obtain ⟨hl, j, hk, hj⟩ := chk_zero hc
    have Hr : Hid ((down (bgn zs b) j : Int) = r) := by
      rw [hr]
      unfold back
      rw [if_pos hc, hk]
      rfl
    subst hk
    have Hc : Hid (chk zs.length (j : Int) = 0) := hc
    rw [hc]
    clear hc hr
    go_enter Try.func46, Try.ntmps46
    go_wp2_with fail
    refine (check_go a zs.length cap (j : Int) w).mono ?_
    rintro e w1 ⟨rfl, hw1⟩
    rw [hw1, Hc.out]
    clear hw1 w1 Hc
    go_wp2_with fail
    go_loop [9] (fun u9 => ∃ m : Nat, u9 = .int .i64 ((m : Int) - 1) ∧ m ≤ zs.length ∧ Hid ((down (bgn zs b) m : Int) = r)) (fun u9 => (intOf u9 + 1).toNat)
    case atStart => exact ⟨j, by simp, by omega, Hr.out⟩
    case round =>
      obtain ⟨m, rfl, hm2, Hm⟩ := hrel
      by_cases hlt : 1 < m
      · obtain ⟨i, rfl⟩ : ∃ i, m = i + 1 := ⟨m - 1, by omega⟩
        have e1 : ((i + 1 : Nat) : Int) - 1 = (i : Int) := by omega
        rw [e1]
        clear e1
        have hI : (0 : Int) < (i : Int) := by omega
        go_wp2_with fail
        refine (begins_go _ zs i b w Hp.out (by omega) (by omega)).mono ?_
        rintro e w1 ⟨rfl, hw1⟩
        rw [hw1]
        clear hw1 w1
        cases hb : bgn zs b i with
        | true =>
          have Hm2 : Hid ((i : Int) = r) := by
            have h := Hm.out
            rw [down_hit hb] at h
            exact h
          clear hb Hm
          go_wp2_with fail
          go_ret2
          rw [← Hm2.out]
          exact ⟨rfl, rfl⟩
        | false =>
          have Hm2 : Hid ((down (bgn zs b) i : Int) = r) := by
            have h := Hm.out
            rw [down_miss hb] at h
            exact h
          clear hb Hm
          go_wp2_with fail
          go_round
          case rel => exact ⟨i, by go_num, by omega, Hm2.out⟩
          case measure => simp [intOf]
      · have hI : (m : Int) - 1 ≤ 0 := by omega
        have Hm2 : Hid ((0 : Int) = r) := by
          have h := Hm.out
          rw [down_small (bgn zs b) (by omega)] at h
          exact h
        clear Hm
        go_wp2_with fail
        go_ret2
        rw [← Hm2.out]
        exact ⟨rfl, rfl⟩
  · have Hr : Hid (r = 0) := by
      rw [hr]
      unfold back
      exact if_neg hc
    obtain ⟨c, hcc⟩ : ∃ c, c = chk zs.length k := ⟨_, rfl⟩
    rw [← hcc] at hc ⊢
    have Hc : Hid (chk zs.length k = c) := hcc.symm
    have hcb : (c != 0) = true := by simpa using hc
    clear hc hcc hr
    go_enter Try.func46, Try.ntmps46
    go_wp2_with fail
    refine (check_go a zs.length cap k w).mono ?_
    rintro e w1 ⟨rfl, hw1⟩
    rw [hw1, Hc.out]
    clear hw1 w1 Hc
    go_wp2_with fail
    go_ret2
    rw [Hr.out]
    exact ⟨rfl, rfl⟩
end Go.Proofs.Ytpgjaoemkadenab.Seek
