/- The contract of dyck.Kind. -/
import Derived.Test.YtcmcaifcncabgaaBase
set_option linter.unusedVariables false
set_option linter.unusedSimpArgs false
namespace Go.Proofs.Ytcmcaifcncabgaa.Plain
/-- The bracket's partner. -/
def brk (c : Int) : Int := if c = 40 then 41 else if c = 91 then 93 else if c = 123 then 125 else if c = 41 then 40 else if c = 93 then 91 else if c = 125 then 123 else 0
/-- Whether it closes. -/
def shuts (c : Int) : Bool := c == 41 || c == 93 || c == 125
/-- Whether it opens. -/
def opens (c : Int) : Bool := c == 40 || c == 91 || c == 123
theorem shuts_cases {c : Int} (h : shuts c = true) : c = 41 ∨ c = 93 ∨ c = 125 := by
  unfold shuts at h
  simpa [or_assoc] using h
theorem opens_cases {c : Int} (h : opens c = true) : c = 40 ∨ c = 91 ∨ c = 123 := by
  unfold opens at h
  simpa [or_assoc] using h
theorem sort (c : Int) : (opens c = true ∧ shuts c = false ∧ brk c ≠ 0 ∧ shuts (brk c) = true ∧ brk (brk c) = c) ∨ (opens c = false ∧ shuts c = true ∧ brk c ≠ 0 ∧ opens (brk c) = true ∧ brk (brk c) = c) ∨ (opens c = false ∧ shuts c = false ∧ brk c = 0) := by
  by_cases h1 : opens c = true
  · left
    rcases opens_cases h1 with rfl | rfl | rfl <;> decide
  · by_cases h2 : shuts c = true
    · right
      left
      rcases shuts_cases h2 with rfl | rfl | rfl <;> decide
    · right
      right
      simp only [Bool.not_eq_true] at h1 h2
      refine ⟨h1, h2, ?_⟩
      unfold opens at h1
      unfold shuts at h2
      unfold brk
      simp only [Bool.or_eq_false_iff, beq_eq_false_iff_ne] at h1 h2
      simp [h1, h2]
end Go.Proofs.Ytcmcaifcncabgaa.Plain
namespace Go.Proofs.Ytcmcaifcncabgaa.Seek
open Go.RowKit Plain

theorem brk_go (c : Int) (w : World) : Calls Try.prog 12 #[.int .i64 c] w fun e w' => e = .returned (.tuple #[.int .i64 (brk c), .bool (shuts c)]) ∧ w' = w := by
  by_cases h : c = 40 ∨ c = 91 ∨ c = 123 ∨ c = 41 ∨ c = 93 ∨ c = 125
  · rcases h with rfl | rfl | rfl | rfl | rfl | rfl <;>
    · go_enter Try.func12, Try.ntmps12
      go_wp2_with fail
      go_ret2
      exact ⟨rfl, rfl⟩
  · have hk : brk c = 0 := by unfold brk; simp only [not_or] at h; simp [h]
    have hs : shuts c = false := by unfold shuts; simp only [not_or] at h; simp [h]
    have H : Hid (brk c = 0 ∧ shuts c = false) := ⟨hk, hs⟩
    clear hk hs
    simp only [not_or] at h
    obtain ⟨h1, h2, h3, h4, h5, h6⟩ := h
    have g1 : (c == 40) = false := by simpa using h1
    have g2 : (c == 91) = false := by simpa using h2
    have g3 : (c == 123) = false := by simpa using h3
    have g4 : (c == 41) = false := by simpa using h4
    have g5 : (c == 93) = false := by simpa using h5
    have g6 : (c == 125) = false := by simpa using h6
    go_enter Try.func12, Try.ntmps12
    go_wp2_with fail
    go_ret2
    rw [H.out.1, H.out.2]
    exact ⟨rfl, rfl⟩
end Go.Proofs.Ytcmcaifcncabgaa.Seek
