/- The contracts of word.inName, word.Kind and the document's Kind. -/
import Derived.Test.YtpgjaoemkadenabBase
import Derived.Deep.Light
set_option linter.unusedVariables false
set_option linter.unusedSimpArgs false
set_option maxRecDepth 100000
namespace Go.Proofs.Ytpgjaoemkadenab.Plain
/-- Whether it may stand in a name. -/
def name (c : Int) : Bool := decide ((97 ≤ c ∧ c ≤ 122) ∨ (65 ≤ c ∧ c ≤ 90) ∨ (48 ≤ c ∧ c ≤ 57) ∨ c = 95 ∨ 128 ≤ c)
/-- P19: the kind of a number. -/
def kind (c : Int) (b : Bool) : Int := if c = 32 ∨ c = 9 then 0 else if b = true then 1 else if name c = true then 1 else 2
theorem kind_blank {c : Int} {b : Bool} (h : c = 32 ∨ c = 9) : kind c b = 0 := by unfold kind; rw [if_pos h]
theorem kind_big {c : Int} (h : ¬ (c = 32 ∨ c = 9)) : kind c true = 1 := by unfold kind; rw [if_neg h, if_pos rfl]
theorem kind_small {c : Int} (h : ¬ (c = 32 ∨ c = 9)) : kind c false = if name c = true then 1 else 2 := by unfold kind; rw [if_neg h, if_neg (by decide)]
/-- A Blank is one, big or not. -/
theorem kind_zero (c : Int) (b b' : Bool) : kind c b = 0 ↔ kind c b' = 0 := by
  by_cases h : c = 32 ∨ c = 9
  · rw [kind_blank h, kind_blank h]
  · unfold kind
    rw [if_neg h, if_neg h]
    constructor <;> intro h' <;> exact absurd h' (by split <;> first | decide | (split <;> decide))
end Go.Proofs.Ytpgjaoemkadenab.Plain
namespace Go.Proofs.Ytpgjaoemkadenab.Seek
open Go.RowKit Plain

set_option maxHeartbeats 1000000 in
theorem name_go (c : Int) (w : World) : Calls Try.prog 89 #[.int .i64 c] w fun e w' => e = .returned (.bool (name c)) ∧ w' = w := by
  obtain ⟨n, hn⟩ : ∃ n, n = name c := ⟨_, rfl⟩
  have Hn : Hid (n = name c) := hn
  rw [← hn]
  clear hn
  go_enter Try.func89, Try.ntmps89
  go_wp2_with fail
  all_goals (
    go_ret
    refine ⟨?_, rfl⟩
    rw [Hn.out]
    show Ending.returned (Value.bool _) = _
    refine congrArg (fun b => Ending.returned (Value.bool b)) ?_
    unfold name
    rw [Bool.eq_iff_iff]
    simp only [Bool.or_eq_true, decide_eq_true_eq, beq_iff_eq]
    first | omega | (simp only [true_iff]; omega))

set_option maxHeartbeats 1000000 in
theorem kind_go (c : Int) (b : Bool) (w : World) : Calls Try.prog 80 #[.int .i64 c, .bool b] w fun e w' => e = .returned (.int .i64 (kind c b)) ∧ w' = w := by
  by_cases h : c = 32 ∨ c = 9
  · have Hk : Hid (kind c b = 0) := kind_blank h
    rcases h with rfl | rfl
    · go_enter Try.func80, Try.ntmps80
      go_wp2_with fail
      go_ret
      rw [Hk.out]
      exact ⟨rfl, rfl⟩
    · go_enter Try.func80, Try.ntmps80
      go_wp2_with fail
      go_ret
      rw [Hk.out]
      exact ⟨rfl, rfl⟩
  · have g1 : (c == 32) = false := by simp only [not_or] at h; simp [h]
    have g2 : (c == 9) = false := by simp only [not_or] at h; simp [h]
    cases b with
    | true =>
      have Hk : Hid (kind c true = 1) := kind_big h
      clear h
      go_enter Try.func80, Try.ntmps80
      go_wp2_with fail
      go_ret
      rw [Hk.out]
      exact ⟨rfl, rfl⟩
    | false =>
      have Hk : Hid (kind c false = if name c = true then 1 else 2) := kind_small h
      clear h
      go_enter Try.func80, Try.ntmps80
      go_wp2_with fail
      refine (name_go c w).mono ?_
      rintro e w1 ⟨rfl, hw1⟩
      rw [hw1]
      clear hw1 w1
      cases hn : name c with
      | true =>
        rw [hn] at Hk
        clear hn
        go_wp2_with fail
        go_ret
        rw [Hk.out]
        exact ⟨rfl, rfl⟩
      | false =>
        rw [hn] at Hk
        clear hn
        go_wp2_with fail
        go_ret
        rw [Hk.out]
        exact ⟨rfl, rfl⟩

end Go.Proofs.Ytpgjaoemkadenab.Seek
