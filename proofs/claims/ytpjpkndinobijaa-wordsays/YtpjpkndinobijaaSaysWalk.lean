/- The walk of WordSays. -/
import Derived.Test.YtpjpkndinobijaaNextGo
import Derived.Test.YtpjpkndinobijaaRefGo
set_option linter.unusedVariables false
set_option linter.unusedSimpArgs false
namespace Go.Proofs.Ytpjpkndinobijaa.Seek
open Go.RowKit Plain

theorem next_bad {zs : List Int} {k : Int} {b : Bool} (h : chk zs.length k ≠ 0) : next zs k b = 0 ∧ back zs k b = 0 ∧ last zs k b = 0 := by
  unfold next back last
  rw [if_neg h, if_neg h, if_neg h]
  exact ⟨rfl, rfl, rfl⟩
theorem next_good {zs : List Int} {j : Nat} {b : Bool} (h : chk zs.length (j : Int) = 0) : next zs (j : Int) b = up (bgn zs b) zs.length zs.length (j + 1) ∧ back zs (j : Int) b = (down (bgn zs b) j : Int) ∧
    last zs (j : Int) b = up (fin zs b) ((zs.length - 1 : Nat) : Int) zs.length (j + 1) := by
  unfold next back last
  rw [if_pos h, if_pos h, if_pos h]
  exact ⟨rfl, rfl, rfl⟩

set_option maxHeartbeats 2000000 in
theorem says_walk (v : Value) (zs : List Int) (k c : Int) (b : Bool) (w : World) (hp : Reads w v zs) :
    Calls Try.prog 3 #[v, .int .i64 k, .bool b, .int .i64 c] w fun e w' => e = .returned (.bool true) ∧ w' = w := by
  obtain ⟨a, cap, rfl⟩ := hp.shape
  have Hp : Hid (Reads w (.slice a zs.length cap) zs) := hp
  clear hp
  go_enter Try.func3, Try.ntmps3
  go_wp2_with fail
  refine (next_go _ zs k b w Hp.out).mono ?_
  rintro e w1 ⟨rfl, hw1⟩
  rw [hw1]
  clear hw1 w1
  go_wp2_with fail
  refine (back_go _ zs k b w Hp.out).mono ?_
  rintro e w1 ⟨rfl, hw1⟩
  rw [hw1]
  clear hw1 w1
  go_wp2_with fail
  refine (last_go _ zs k b w Hp.out).mono ?_
  rintro e w1 ⟨rfl, hw1⟩
  rw [hw1]
  clear hw1 w1
  go_wp2_with fail
  refine (kind_go c b w).mono ?_
  rintro e w1 ⟨rfl, hw1⟩
  rw [hw1]
  clear hw1 w1
  go_wp2_with fail
  refine (refkind_go c b w).mono ?_
  rintro e w1 ⟨rfl, hw1⟩
  rw [hw1]
  clear hw1 w1
  generalize kind c b = kd
  have hkd : (kd != kd) = false := by simp
  by_cases hc : chk zs.length k = 0
  · obtain ⟨hl, j, hk, hj⟩ := chk_zero hc
    subst hk
    obtain ⟨e1, e2, e3⟩ := next_good (b := b) hc
    rw [hc, e1, e2, e3]
    clear hc e1 e2 e3
    have HN : Hid (Calls Try.prog 11 #[.slice a zs.length cap, .int .i64 (j : Int), .bool b] w fun e w' => e = .returned (.int .i64 (up (bgn zs b) zs.length zs.length (j + 1))) ∧ w' = w) := refnext_go _ zs j b w Hp.out hl hj
    have HB : Hid (Calls Try.prog 12 #[.slice a zs.length cap, .int .i64 (j : Int), .bool b] w fun e w' => e = .returned (.int .i64 (down (bgn zs b) j : Int)) ∧ w' = w) := refback_go _ zs j b w Hp.out hl hj
    have HE : Hid (Calls Try.prog 13 #[.slice a zs.length cap, .int .i64 (j : Int), .bool b] w fun e w' => e = .returned (.int .i64 (up (fin zs b) ((zs.length - 1 : Nat) : Int) zs.length (j + 1))) ∧ w' = w) := reflast_go _ zs j b w Hp.out hl hj
    generalize up (bgn zs b) zs.length zs.length (j + 1) = r1 at *
    generalize (down (bgn zs b) j : Int) = r2 at *
    generalize up (fin zs b) ((zs.length - 1 : Nat) : Int) zs.length (j + 1) = r3 at *
    have q1 : (r1 == r1) = true := by simp
    have q2 : (r2 == r2) = true := by simp
    have q3 : (r3 == r3) = true := by simp
    have hI : (zs.length : Int) ≤ 4096 := by omega
    have hI2 : (j : Int) ≤ (zs.length : Int) := by omega
    go_wp2_with fail
    refine HN.out.mono ?_
    rintro e w1 ⟨rfl, hw1⟩
    rw [hw1]
    clear hw1 w1
    go_wp2_with fail
    refine HB.out.mono ?_
    rintro e w1 ⟨rfl, hw1⟩
    rw [hw1]
    clear hw1 w1
    go_wp2_with fail
    refine HE.out.mono ?_
    rintro e w1 ⟨rfl, hw1⟩
    rw [hw1]
    clear hw1 w1
    go_wp2_with fail
    go_ret
    exact ⟨rfl, rfl⟩
  · obtain ⟨e1, e2, e3⟩ := next_bad (b := b) hc
    rw [e1, e2, e3]
    clear e1 e2 e3
    by_cases h1 : 4096 < zs.length
    · have hk : chk zs.length k = 2 := by unfold chk; rw [if_pos h1]
      rw [hk]
      clear hk hc
      have hI : (4096 : Int) < (zs.length : Int) := by omega
      go_wp2_with fail
      go_ret
      exact ⟨rfl, rfl⟩
    · have hI : (zs.length : Int) ≤ 4096 := by omega
      have h2 : k < 0 ∨ (zs.length : Int) < k := by
        unfold chk at hc
        rw [if_neg h1] at hc
        by_cases h2 : k < 0 ∨ (zs.length : Int) < k
        · exact h2
        · rw [if_neg h2] at hc
          exact absurd rfl hc
      have hk : chk zs.length k = 1 := by unfold chk; rw [if_neg h1, if_pos h2]
      rw [hk]
      clear hk hc h1
      rcases h2 with h2 | h2
      · go_wp2_with fail
        go_ret
        exact ⟨rfl, rfl⟩
      · have h3 : 0 ≤ k := by omega
        go_wp2_with fail
        go_ret
        exact ⟨rfl, rfl⟩
end Go.Proofs.Ytpjpkndinobijaa.Seek
namespace Go.Proofs.Ytpjpkndinobijaa.Seek
open Go.RowKit Plain
theorem says_all (v : Value) (zs : List Int) (k c : Int) (b : Bool) (w : World) (hp : Reads w v zs) (hr : zs.length * 8 ≤ 140737488351232) :
    Calls Try.prog 3 #[v, .int .i64 k, .bool b, .int .i64 c] w fun e w' => e = .returned (.bool true) ∧ Below w.heap.size w w' := by
  refine (says_walk v zs k c b w hp).mono ?_
  rintro e w' ⟨he, hw⟩
  rw [hw]
  exact ⟨he, Below.refl _ _⟩
end Go.Proofs.Ytpjpkndinobijaa.Seek
