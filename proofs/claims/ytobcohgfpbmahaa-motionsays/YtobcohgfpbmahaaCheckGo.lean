/- The contracts of motion.isKey, motion.takesWith and motion.Check. -/
import Derived.Test.YtobcohgfpbmahaaMoves
import Derived.Deep.Light
set_option linter.unusedVariables false
set_option linter.unusedSimpArgs false
namespace Go.Proofs.Ytobcohgfpbmahaa.Seek
open Go.RowKit Plain

set_option maxHeartbeats 1000000 in
theorem isKey_go (c : Int) (w : World) : Calls Try.prog 19 #[.int .i64 c] w fun e w' => e = .returned (.bool (isk c)) ∧ w' = w := by
  by_cases h : c = 104 ∨ c = 108 ∨ c = 48 ∨ c = 94 ∨ c = 98 ∨ c = 66 ∨ c = 36 ∨ c = 124 ∨ c = 119 ∨ c = 87 ∨ c = 101 ∨ c = 69 ∨ c = 37 ∨ c = 102 ∨ c = 116 ∨ c = 70 ∨ c = 84
  · rcases h with rfl | rfl | rfl | rfl | rfl | rfl | rfl | rfl | rfl | rfl | rfl | rfl | rfl | rfl | rfl | rfl | rfl <;>
    · go_enter Try.func19, Try.ntmps19
      go_wp2_with fail
      go_ret
      exact ⟨rfl, rfl⟩
  · have hn : isk c = false := by unfold isk; simpa using h
    rw [hn]
    clear hn
    simp only [not_or] at h
    obtain ⟨h0, h1, h2, h3, h4, h5, h6, h7, h8, h9, h10, h11, h12, h13, h14, h15, h16⟩ := h
    have g0 : (c == 104) = false := by simpa using h0
    have g1 : (c == 108) = false := by simpa using h1
    have g2 : (c == 48) = false := by simpa using h2
    have g3 : (c == 94) = false := by simpa using h3
    have g4 : (c == 98) = false := by simpa using h4
    have g5 : (c == 66) = false := by simpa using h5
    have g6 : (c == 36) = false := by simpa using h6
    have g7 : (c == 124) = false := by simpa using h7
    have g8 : (c == 119) = false := by simpa using h8
    have g9 : (c == 87) = false := by simpa using h9
    have g10 : (c == 101) = false := by simpa using h10
    have g11 : (c == 69) = false := by simpa using h11
    have g12 : (c == 37) = false := by simpa using h12
    have g13 : (c == 102) = false := by simpa using h13
    have g14 : (c == 116) = false := by simpa using h14
    have g15 : (c == 70) = false := by simpa using h15
    have g16 : (c == 84) = false := by simpa using h16
    clear h0 h1 h2 h3 h4 h5 h6 h7 h8 h9 h10 h11 h12 h13 h14 h15 h16
    go_enter Try.func19, Try.ntmps19
    go_wp2_with fail
    go_ret
    exact ⟨rfl, rfl⟩

set_option maxHeartbeats 1000000 in
theorem takesWith_go (c : Int) (w : World) : Calls Try.prog 18 #[.int .i64 c] w fun e w' => e = .returned (.bool (wth c)) ∧ w' = w := by
  by_cases h : c = 36 ∨ c = 101 ∨ c = 69 ∨ c = 37 ∨ c = 102 ∨ c = 116
  · rcases h with rfl | rfl | rfl | rfl | rfl | rfl <;>
    · go_enter Try.func18, Try.ntmps18
      go_wp2_with fail
      go_ret
      exact ⟨rfl, rfl⟩
  · have hn : wth c = false := by unfold wth; simpa using h
    rw [hn]
    clear hn
    simp only [not_or] at h
    obtain ⟨h0, h1, h2, h3, h4, h5⟩ := h
    have g0 : (c == 36) = false := by simpa using h0
    have g1 : (c == 101) = false := by simpa using h1
    have g2 : (c == 69) = false := by simpa using h2
    have g3 : (c == 37) = false := by simpa using h3
    have g4 : (c == 102) = false := by simpa using h4
    have g5 : (c == 116) = false := by simpa using h5
    clear h0 h1 h2 h3 h4 h5
    go_enter Try.func18, Try.ntmps18
    go_wp2_with fail
    go_ret
    exact ⟨rfl, rfl⟩

theorem box24 (w : World) (o : Obj) : Below w.heap.size w (w.alloc o) := (Below.refl _ _).alloc (Nat.le_refl _) _

set_option maxHeartbeats 1000000 in
theorem mcheck_go (a : Option Addr) (n cap : Nat) (k c key arg : Int) (w : World) : Calls Try.prog 10 #[.slice a n cap, .int .i64 k, .agg #[.int .i64 key, .int .i64 c, .int .i64 arg]] w fun e w' =>
    e = .returned (.int .i64 (mchk n k c key)) ∧ Below w.heap.size w w' := by
  by_cases h1 : 4096 < n
  · have hk : mchk n k c key = 2 := by unfold mchk; rw [if_pos h1]
    rw [hk]
    clear hk
    have hI : (4096 : Int) < (n : Int) := by omega
    go_enter Try.func10, Try.ntmps10
    go_wp2_with fail
    go_ret
    exact ⟨rfl, box24 _ _⟩
  · have hI : (n : Int) ≤ 4096 := by omega
    obtain ⟨m, hm⟩ : ∃ m : Int, m = max ((n : Int) - 1) 0 := ⟨_, rfl⟩
    have Hm : Hid (m = max ((n : Int) - 1) 0) := hm
    by_cases h2 : k < 0
    · have hk : mchk n k c key = 1 := by unfold mchk; rw [if_neg h1, if_pos (.inl h2)]
      rw [hk]
      clear hk h1 hm
      go_enter Try.func10, Try.ntmps10
      go_wp2_with fail
      go_ret
      exact ⟨rfl, box24 _ _⟩
    · have h2' : 0 ≤ k := by omega
      by_cases h3 : m < k
      · have hk : mchk n k c key = 1 := by unfold mchk; rw [if_neg h1, if_pos (.inr (.inl (by omega)))]
        rw [hk]
        clear hk h1 h2
        have h4 : max ((n : Int) - 1) 0 < k := by omega
        clear hm
        go_enter Try.func10, Try.ntmps10
        go_wp2_with fail
        all_goals (
          go_ret
          exact ⟨rfl, box24 _ _⟩)
      · have h3' : k ≤ max ((n : Int) - 1) 0 := by omega
        by_cases h4 : c < 0
        · have hk : mchk n k c key = 1 := by unfold mchk; rw [if_neg h1, if_pos (.inr (.inr (.inl h4)))]
          rw [hk]
          clear hk h1 h2 h3 hm
          go_enter Try.func10, Try.ntmps10
          go_wp2_with fail
          all_goals (
            go_ret
            exact ⟨rfl, box24 _ _⟩)
        · have h4' : 0 ≤ c := by omega
          by_cases h5 : 999 < c
          · have hk : mchk n k c key = 1 := by unfold mchk; rw [if_neg h1, if_pos (.inr (.inr (.inr h5)))]
            rw [hk]
            clear hk h1 h2 h3 h4 hm
            go_enter Try.func10, Try.ntmps10
            go_wp2_with fail
            all_goals (
              go_ret
              exact ⟨rfl, box24 _ _⟩)
          · have h5' : c ≤ 999 := by omega
            cases hq : isk key
            · have hk : mchk n k c key = 9 := by unfold mchk; rw [if_neg h1, if_neg (by omega), hq]; rfl
              rw [hk]
              have Hq : Hid (isk key = false) := hq
              clear hk h1 h2 h3 h4 h5 hm hq
              go_enter Try.func10, Try.ntmps10
              go_wp2_with fail
              all_goals (
                refine (isKey_go key _).mono ?_
                rintro e w1 ⟨rfl, hw1⟩
                rw [hw1, Hq.out]
                clear hw1 w1
                go_wp2_with fail
                go_ret
                exact ⟨rfl, box24 _ _⟩)
            · have hk : mchk n k c key = 0 := by unfold mchk; rw [if_neg h1, if_neg (by omega), hq]; rfl
              rw [hk]
              have Hq : Hid (isk key = true) := hq
              clear hk h1 h2 h3 h4 h5 hm hq
              go_enter Try.func10, Try.ntmps10
              go_wp2_with fail
              all_goals (
                refine (isKey_go key _).mono ?_
                rintro e w1 ⟨rfl, hw1⟩
                rw [hw1, Hq.out]
                clear hw1 w1
                go_wp2_with fail
                go_ret
                exact ⟨rfl, box24 _ _⟩)
end Go.Proofs.Ytobcohgfpbmahaa.Seek
