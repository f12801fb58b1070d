/- The contract of object.words. -/
import Derived.Test.YtcmcaifcncabgaaRunGo
set_option linter.unusedVariables false
set_option linter.unusedSimpArgs false
namespace Go.Proofs.Ytcmcaifcncabgaa.Seek
open Go.RowKit Plain

theorem words_none (a : Option Addr) (cap : Nat) (k : Int) (ar bg : Bool) (w : World) :
    Calls Try.prog 14 #[.slice a 0 cap, .int .i64 k, .bool ar, .bool bg] w fun e w' => e = .returned (.tuple #[.int .i64 0, .int .i64 0, .int .i64 6]) ∧ w' = w := by
  go_enter Try.func14, Try.ntmps14
  go_wp2_with fail
  go_ret3
  exact ⟨rfl, rfl⟩

set_option maxHeartbeats 2000000 in
theorem words_some (b off cap : Nat) (zs : List Int) (k : Nat) (ar bg : Bool) (w : World) (hk : k < zs.length) (hn : zs.length ≤ 4096)
    (hc : ∀ j, j < zs.length → w.cell? ⟨b, off + j, none⟩ = some (.int .i64 (zs.getD j 0))) :
    Calls Try.prog 14 #[.slice (some ⟨b, off, none⟩) zs.length cap, .int .i64 (k : Int), .bool ar, .bool bg] w fun e w' => e = .returned (.tuple #[.int .i64 ((wrd zs bg ar k).1 : Int), .int .i64 ((wrd zs bg ar k).2 : Int), .int .i64 0]) ∧ w' = w := by
  have Hc : Hid (∀ j, j < zs.length → w.cell? ⟨b, off + j, none⟩ = some (.int .i64 (zs.getD j 0))) := hc
  obtain ⟨A, hA⟩ : ∃ A, A = rlo zs bg k := ⟨_, rfl⟩
  obtain ⟨Z, hZ⟩ : ∃ Z, Z = rhi zs bg k := ⟨_, rfl⟩
  obtain ⟨R1, h1⟩ : ∃ R1, R1 = (wrd zs bg ar k).1 := ⟨_, rfl⟩
  obtain ⟨R2, h2⟩ : ∃ R2, R2 = (wrd zs bg ar k).2 := ⟨_, rfl⟩
  rw [← h1, ← h2]
  obtain ⟨hA1, hZ1, hZ2, hAZ⟩ := run_spec (b := bg) hk
  have hAk : kd zs bg A = kd zs bg k := by rw [hA]; exact hAZ _ (Nat.le_refl _) (by omega)
  rw [← hA] at hA1
  rw [← hZ] at hZ1 hZ2
  have Hrun : Hid (∀ x (i : Nat), x = (i : Int) → i < zs.length → Calls Try.prog 25 #[.slice (some ⟨b, off, none⟩) zs.length cap, .int .i64 x, .bool bg] w fun e w' => e = .returned (.tuple #[.int .i64 (rlo zs bg i : Int), .int .i64 (rhi zs bg i : Int)]) ∧ w' = w) := fun x i hx hi => run_go b off cap zs x i bg w hx hi hn hc
  have Hbl : Hid (∀ x (i : Nat), x = (i : Int) → i < zs.length → Calls Try.prog 26 #[.slice (some ⟨b, off, none⟩) zs.length cap, .int .i64 x, .bool bg] w fun e w' => e = .returned (.bool (kd zs bg i == 0)) ∧ w' = w) := fun x i hx hi => blank_go b off cap zs.length x i _ bg w hx hi hn (hc i hi)
  have hne : ((zs.length : Int) == 0) = false := by simp only [beq_eq_false_iff_ne]; omega
  have HAZ : Hid (rlo zs bg k = A ∧ rhi zs bg k = Z) := ⟨hA.symm, hZ.symm⟩
  have HR : Hid (R1 = (wrd zs bg ar k).1 ∧ R2 = (wrd zs bg ar k).2) := ⟨h1, h2⟩
  have HAk : Hid (kd zs bg A = kd zs bg k) := hAk
  clear hA hZ h1 h2 hAZ hAk hc
  cases ar with
  | false =>
    have HR2 : Hid (R1 = A ∧ R2 = Z) := by
      obtain ⟨g1, g2⟩ := HR.out
      rw [wrd_none, HAZ.out.1, HAZ.out.2] at g1 g2
      exact ⟨g1, g2⟩
    clear HR
    go_enter Try.func14, Try.ntmps14
    go_wp2_with fail
    refine (Hrun.out _ k (by omega) hk).mono ?_
    rintro e w1 ⟨rfl, hw1⟩
    rw [hw1, HAZ.out.1, HAZ.out.2]
    clear hw1 w1
    go_wp2_with fail
    go_ret3
    rw [HR2.out.1, HR2.out.2]
    exact ⟨rfl, rfl⟩
  | true =>
    by_cases hlt : Z < zs.length
    · have hI : (Z : Int) < (zs.length : Int) := by omega
      cases hB : kd zs bg k == 0 with
      | true =>
        have HB : Hid ((kd zs bg k == 0) = true) := hB
        have HR2 : Hid (R1 = A ∧ R2 = rhi zs bg Z) := by
          obtain ⟨g1, g2⟩ := HR.out
          rw [wrd_right (by rw [HAZ.out.2]; exact hlt) (.inl (by simpa using hB))] at g1 g2
          rw [HAZ.out.1, HAZ.out.2] at g1 g2
          exact ⟨g1, g2⟩
        clear HR
        clear hB
        go_enter Try.func14, Try.ntmps14
        go_wp2_with fail
        refine (Hrun.out _ k (by omega) hk).mono ?_
        rintro e w1 ⟨rfl, hw1⟩
        rw [hw1, HAZ.out.1, HAZ.out.2]
        clear hw1 w1
        go_wp2_with fail
        refine (Hbl.out _ A (by omega) (by omega)).mono ?_
        rintro e w1 ⟨rfl, hw1⟩
        rw [hw1, HAk.out, HB.out]
        clear hw1 w1
        go_wp2_with fail
        refine (Hrun.out _ Z (by omega) hlt).mono ?_
        rintro e w1 ⟨rfl, hw1⟩
        rw [hw1]
        clear hw1 w1
        go_wp2_with fail
        go_ret3
        rw [HR2.out.1, HR2.out.2]
        exact ⟨rfl, rfl⟩
      | false =>
        have HB : Hid ((kd zs bg k == 0) = false) := hB
        clear hB
        cases hZ0 : kd zs bg Z == 0 with
        | true =>
          have HR2 : Hid (R1 = A ∧ R2 = rhi zs bg Z) := by
            obtain ⟨g1, g2⟩ := HR.out
            rw [wrd_right (by rw [HAZ.out.2]; exact hlt) (.inr (by rw [HAZ.out.2]; simpa using hZ0))] at g1 g2
            rw [HAZ.out.1, HAZ.out.2] at g1 g2
            exact ⟨g1, g2⟩
          clear HR
          have HZ : Hid ((kd zs bg Z == 0) = true) := hZ0
          clear hZ0
          go_enter Try.func14, Try.ntmps14
          go_wp2_with fail
          refine (Hrun.out _ k (by omega) hk).mono ?_
          rintro e w1 ⟨rfl, hw1⟩
          rw [hw1, HAZ.out.1, HAZ.out.2]
          clear hw1 w1
          go_wp2_with fail
          refine (Hbl.out _ A (by omega) (by omega)).mono ?_
          rintro e w1 ⟨rfl, hw1⟩
          rw [hw1, HAk.out, HB.out]
          clear hw1 w1
          go_wp2_with fail
          refine (Hbl.out _ Z (by omega) hlt).mono ?_
          rintro e w1 ⟨rfl, hw1⟩
          rw [hw1, HZ.out]
          clear hw1 w1
          go_wp2_with fail
          refine (Hrun.out _ Z (by omega) hlt).mono ?_
          rintro e w1 ⟨rfl, hw1⟩
          rw [hw1]
          clear hw1 w1
          go_wp2_with fail
          go_ret3
          rw [HR2.out.1, HR2.out.2]
          exact ⟨rfl, rfl⟩
        | false =>
          have HZ : Hid ((kd zs bg Z == 0) = false) := hZ0
          clear hZ0
          by_cases hA0 : A = 0
          · have HR2 : Hid (R1 = A ∧ R2 = Z) := by
              obtain ⟨g1, g2⟩ := HR.out
              rw [wrd_alone (fun h => by rw [HAZ.out.2] at h; rcases h.2 with h | h; (· have := HB.out; rw [h] at this; cases this); (· have := HZ.out; rw [h] at this; cases this)) (fun h => by rw [HAZ.out.1] at h; omega)] at g1 g2
              rw [HAZ.out.1, HAZ.out.2] at g1 g2
              exact ⟨g1, g2⟩
            clear HR
            subst hA0
            go_enter Try.func14, Try.ntmps14
            go_wp2_with fail
            refine (Hrun.out _ k (by omega) hk).mono ?_
            rintro e w1 ⟨rfl, hw1⟩
            rw [hw1, HAZ.out.1, HAZ.out.2]
            clear hw1 w1
            go_wp2_with fail
            refine (Hbl.out _ 0 (by omega) (by omega)).mono ?_
            rintro e w1 ⟨rfl, hw1⟩
            rw [hw1, HAk.out, HB.out]
            clear hw1 w1
            go_wp2_with fail
            refine (Hbl.out _ Z (by omega) hlt).mono ?_
            rintro e w1 ⟨rfl, hw1⟩
            rw [hw1, HZ.out]
            clear hw1 w1
            go_wp2_with fail
            all_goals (
              go_ret3
              rw [HR2.out.1, HR2.out.2]
              exact ⟨by first | rfl | (congr; omega), rfl⟩)
          · obtain ⟨j, rfl⟩ : ∃ j, A = j + 1 := ⟨A - 1, by omega⟩
            have hj : (j : Int) + 1 > 0 := by omega
            cases hL : kd zs bg j == 0 with
            | true =>
              have hL2 : kd zs bg (j + 1 - 1) = 0 := by rw [Nat.add_sub_cancel]; simpa using hL
              have HR2 : Hid (R1 = rlo zs bg j ∧ R2 = Z) := by
                obtain ⟨g1, g2⟩ := HR.out
                rw [wrd_left (fun h => by rw [HAZ.out.2] at h; rcases h.2 with h | h; (· have := HB.out; rw [h] at this; cases this); (· have := HZ.out; rw [h] at this; cases this)) (by simpa using HB.out) (by rw [HAZ.out.1]; omega) (by rw [HAZ.out.1]; exact hL2)] at g1 g2
                rw [HAZ.out.1, HAZ.out.2] at g2
                rw [HAZ.out.1, Nat.add_sub_cancel] at g1
                exact ⟨g1, g2⟩
              clear HR
              have HL : Hid ((kd zs bg j == 0) = true) := hL
              clear hL hL2
              go_enter Try.func14, Try.ntmps14
              go_wp2_with fail
              refine (Hrun.out _ k (by omega) hk).mono ?_
              rintro e w1 ⟨rfl, hw1⟩
              rw [hw1, HAZ.out.1, HAZ.out.2]
              clear hw1 w1
              go_wp2_with fail
              refine (Hbl.out _ (j + 1) (by omega) (by omega)).mono ?_
              rintro e w1 ⟨rfl, hw1⟩
              rw [hw1, HAk.out, HB.out]
              clear hw1 w1
              go_wp2_with fail
              refine (Hbl.out _ Z (by omega) hlt).mono ?_
              rintro e w1 ⟨rfl, hw1⟩
              rw [hw1, HZ.out]
              clear hw1 w1
              go_wp2_with fail
              refine (Hbl.out _ j (by omega) (by omega)).mono ?_
              rintro e w1 ⟨rfl, hw1⟩
              rw [hw1, HL.out]
              clear hw1 w1
              go_wp2_with fail
              refine (Hrun.out _ j (by omega) (by omega)).mono ?_
              rintro e w1 ⟨rfl, hw1⟩
              rw [hw1]
              clear hw1 w1
              go_wp2_with fail
              go_ret3
              rw [HR2.out.1, HR2.out.2]
              exact ⟨by first | rfl | (congr; omega), rfl⟩
            | false =>
              have HR2 : Hid (R1 = (j + 1) ∧ R2 = Z) := by
                obtain ⟨g1, g2⟩ := HR.out
                rw [wrd_alone (fun h => by rw [HAZ.out.2] at h; rcases h.2 with h | h; (· have := HB.out; rw [h] at this; cases this); (· have := HZ.out; rw [h] at this; cases this)) (fun h => by rw [HAZ.out.1, Nat.add_sub_cancel] at h; rw [h.2.2] at hL; cases hL)] at g1 g2
                rw [HAZ.out.1, HAZ.out.2] at g1 g2
                exact ⟨g1, g2⟩
              clear HR
              have HL : Hid ((kd zs bg j == 0) = false) := hL
              clear hL
              go_enter Try.func14, Try.ntmps14
              go_wp2_with fail
              refine (Hrun.out _ k (by omega) hk).mono ?_
              rintro e w1 ⟨rfl, hw1⟩
              rw [hw1, HAZ.out.1, HAZ.out.2]
              clear hw1 w1
              go_wp2_with fail
              refine (Hbl.out _ (j + 1) (by omega) (by omega)).mono ?_
              rintro e w1 ⟨rfl, hw1⟩
              rw [hw1, HAk.out, HB.out]
              clear hw1 w1
              go_wp2_with fail
              refine (Hbl.out _ Z (by omega) hlt).mono ?_
              rintro e w1 ⟨rfl, hw1⟩
              rw [hw1, HZ.out]
              clear hw1 w1
              go_wp2_with fail
              refine (Hbl.out _ j (by omega) (by omega)).mono ?_
              rintro e w1 ⟨rfl, hw1⟩
              rw [hw1, HL.out]
              clear hw1 w1
              go_wp2_with fail
              go_ret3
              rw [HR2.out.1, HR2.out.2]
              exact ⟨by first | rfl | (congr; omega), rfl⟩
    · have hI : (zs.length : Int) ≤ (Z : Int) := by omega
      cases hB : kd zs bg k == 0 with
      | true =>
        have HB : Hid ((kd zs bg k == 0) = true) := hB
        have HR2 : Hid (R1 = A ∧ R2 = Z) := by
          obtain ⟨g1, g2⟩ := HR.out
          rw [wrd_alone (fun h => by rw [HAZ.out.2] at h; omega) (fun h => h.1 (by simpa using hB))] at g1 g2
          rw [HAZ.out.1, HAZ.out.2] at g1 g2
          exact ⟨g1, g2⟩
        clear HR
        clear hB
        go_enter Try.func14, Try.ntmps14
        go_wp2_with fail
        refine (Hrun.out _ k (by omega) hk).mono ?_
        rintro e w1 ⟨rfl, hw1⟩
        rw [hw1, HAZ.out.1, HAZ.out.2]
        clear hw1 w1
        go_wp2_with fail
        refine (Hbl.out _ A (by omega) (by omega)).mono ?_
        rintro e w1 ⟨rfl, hw1⟩
        rw [hw1, HAk.out, HB.out]
        clear hw1 w1
        go_wp2_with fail
        all_goals (
          go_ret3
          rw [HR2.out.1, HR2.out.2]
          exact ⟨by first | rfl | (congr; omega), rfl⟩)
      | false =>
        have HB : Hid ((kd zs bg k == 0) = false) := hB
        clear hB
        by_cases hA0 : A = 0
        · have HR2 : Hid (R1 = A ∧ R2 = Z) := by
            obtain ⟨g1, g2⟩ := HR.out
            rw [wrd_alone (fun h => by rw [HAZ.out.2] at h; omega) (fun h => by rw [HAZ.out.1] at h; omega)] at g1 g2
            rw [HAZ.out.1, HAZ.out.2] at g1 g2
            exact ⟨g1, g2⟩
          clear HR
          subst hA0
          go_enter Try.func14, Try.ntmps14
          go_wp2_with fail
          refine (Hrun.out _ k (by omega) hk).mono ?_
          rintro e w1 ⟨rfl, hw1⟩
          rw [hw1, HAZ.out.1, HAZ.out.2]
          clear hw1 w1
          go_wp2_with fail
          refine (Hbl.out _ 0 (by omega) (by omega)).mono ?_
          rintro e w1 ⟨rfl, hw1⟩
          rw [hw1, HAk.out, HB.out]
          clear hw1 w1
          go_wp2_with fail
          all_goals (
            go_ret3
            rw [HR2.out.1, HR2.out.2]
            exact ⟨by first | rfl | (congr; omega), rfl⟩)
        · obtain ⟨j, rfl⟩ : ∃ j, A = j + 1 := ⟨A - 1, by omega⟩
          have hj : (j : Int) + 1 > 0 := by omega
          cases hL : kd zs bg j == 0 with
          | true =>
            have hL2 : kd zs bg (j + 1 - 1) = 0 := by rw [Nat.add_sub_cancel]; simpa using hL
            have HR2 : Hid (R1 = rlo zs bg j ∧ R2 = Z) := by
              obtain ⟨g1, g2⟩ := HR.out
              rw [wrd_left (fun h => by rw [HAZ.out.2] at h; omega) (by simpa using HB.out) (by rw [HAZ.out.1]; omega) (by rw [HAZ.out.1]; exact hL2)] at g1 g2
              rw [HAZ.out.1, HAZ.out.2] at g2
              rw [HAZ.out.1, Nat.add_sub_cancel] at g1
              exact ⟨g1, g2⟩
            clear HR
            have HL : Hid ((kd zs bg j == 0) = true) := hL
            clear hL hL2
            go_enter Try.func14, Try.ntmps14
            go_wp2_with fail
            refine (Hrun.out _ k (by omega) hk).mono ?_
            rintro e w1 ⟨rfl, hw1⟩
            rw [hw1, HAZ.out.1, HAZ.out.2]
            clear hw1 w1
            go_wp2_with fail
            refine (Hbl.out _ (j + 1) (by omega) (by omega)).mono ?_
            rintro e w1 ⟨rfl, hw1⟩
            rw [hw1, HAk.out, HB.out]
            clear hw1 w1
            go_wp2_with fail
            refine (Hbl.out _ j (by omega) (by omega)).mono ?_
            rintro e w1 ⟨rfl, hw1⟩
            rw [hw1, HL.out]
            clear hw1 w1
            go_wp2_with fail
            refine (Hrun.out _ j (by omega) (by omega)).mono ?_
            rintro e w1 ⟨rfl, hw1⟩
            rw [hw1]
            clear hw1 w1
            go_wp2_with fail
            go_ret3
            rw [HR2.out.1, HR2.out.2]
            exact ⟨by first | rfl | (congr; omega), rfl⟩
          | false =>
            have HR2 : Hid (R1 = (j + 1) ∧ R2 = Z) := by
              obtain ⟨g1, g2⟩ := HR.out
              rw [wrd_alone (fun h => by rw [HAZ.out.2] at h; omega) (fun h => by rw [HAZ.out.1, Nat.add_sub_cancel] at h; rw [h.2.2] at hL; cases hL)] at g1 g2
              rw [HAZ.out.1, HAZ.out.2] at g1 g2
              exact ⟨g1, g2⟩
            clear HR
            have HL : Hid ((kd zs bg j == 0) = false) := hL
            clear hL
            go_enter Try.func14, Try.ntmps14
            go_wp2_with fail
            refine (Hrun.out _ k (by omega) hk).mono ?_
            rintro e w1 ⟨rfl, hw1⟩
            rw [hw1, HAZ.out.1, HAZ.out.2]
            clear hw1 w1
            go_wp2_with fail
            refine (Hbl.out _ (j + 1) (by omega) (by omega)).mono ?_
            rintro e w1 ⟨rfl, hw1⟩
            rw [hw1, HAk.out, HB.out]
            clear hw1 w1
            go_wp2_with fail
            refine (Hbl.out _ j (by omega) (by omega)).mono ?_
            rintro e w1 ⟨rfl, hw1⟩
            rw [hw1, HL.out]
            clear hw1 w1
            go_wp2_with fail
            go_ret3
            rw [HR2.out.1, HR2.out.2]
            exact ⟨by first | rfl | (congr; omega), rfl⟩

/-- The answer of words. -/
def wanswer (zs : List Int) (k : Nat) (ar bg : Bool) : Int × Int × Int := if zs.length = 0 then (0, 0, 6) else (((wrd zs bg ar k).1 : Int), ((wrd zs bg ar k).2 : Int), 0)
theorem words_any (v : Value) (zs : List Int) (k : Nat) (ar bg : Bool) (w : World) (hr : Reads w v zs) (hk : k ≤ zs.length - 1) (hn : zs.length ≤ 4096) :
    Calls Try.prog 14 #[v, .int .i64 (k : Int), .bool ar, .bool bg] w fun e w' => e = .returned (.tuple #[.int .i64 (wanswer zs k ar bg).1, .int .i64 (wanswer zs k ar bg).2.1, .int .i64 (wanswer zs k ar bg).2.2]) ∧ w' = w := by
  rcases hr with ⟨a, cap, rfl, rfl⟩ | ⟨b, off, cap, rfl, _, _, _, hc⟩
  · exact words_none a cap k ar bg w
  · by_cases h0 : zs.length = 0
    · rw [show wanswer zs k ar bg = (0, 0, 6) from if_pos h0, h0]
      exact words_none _ cap k ar bg w
    · rw [show wanswer zs k ar bg = (((wrd zs bg ar k).1 : Int), ((wrd zs bg ar k).2 : Int), 0) from if_neg h0]
      exact words_some b off cap zs k ar bg w (by omega) hn hc
end Go.Proofs.Ytcmcaifcncabgaa.Seek
