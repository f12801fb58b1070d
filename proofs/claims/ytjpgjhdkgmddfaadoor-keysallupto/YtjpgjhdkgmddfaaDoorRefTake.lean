/- The contract of the document's Take. -/
import Derived.Test.YtjpgjhdkgmddfaaDoorRefTake1
import Derived.Test.YtjpgjhdkgmddfaaDoorRefTake2
import Derived.Test.YtjpgjhdkgmddfaaDoorRefTake3
import Derived.Test.YtjpgjhdkgmddfaaDoorRefTake4
set_option linter.unusedVariables false
set_option linter.unusedSimpArgs false
namespace Go.Proofs.YtjpgjhdkgmddfaaDoor.Seek
open Go.RowKit Plain

theorem refTake_go (f r o s t k : Int) (w : World) (h : right f r o s t = true) : Calls Tryd.prog 15 #[.agg #[.int .i64 f, .int .i64 r, .int .i64 o, .int .i64 s, .int .i64 t], .int .i64 k] w fun e w' => TookPost (stp f r o s t k) w e w' := by
  rw [← tk_stp h]
  obtain ⟨hf, hs, _⟩ := right_cases h
  unfold tk
  simp only [whl_don hf hs]
  by_cases h1 : low k = true
  · rw [if_pos h1]
    exact ref_low f r o s t k w h1
  rw [if_neg h1]
  have h1' : ¬ (k < 32 ∨ k = 127) := fun h => h1 (decide_eq_true h)
  have h2 : 32 ≤ k := by omega
  have h3 : (k == 127) = false := by simp only [beq_eq_false_iff_ne]; omega
  by_cases h34 : t = 34
  · subst h34
    rw [if_pos rfl]
    exact ref_quote f r o s k w h2 h3
  rw [if_neg h34]
  by_cases ht : t = 0
  · subst ht
    rw [if_neg (show ¬ has sids 0 = true by decide), if_neg (show ¬ (0 : Int) ≠ 0 by decide)]
    by_cases h4 : dig f o s k = true
    · rw [if_pos h4]
      have := of_decide_eq_true h4
      exact ref_digit f r o s k w hf hs (by omega) (by omega) h4
    · rw [if_neg h4]
      by_cases h5 : k = 48
      · subst h5
        rw [if_neg (fun h => absurd h.1 (by decide)), if_pos (.inr (by decide))]
        exact ref_zero f r o s w hf hs (bool_no h4)
      · have h6 := of_decide_eq_false (bool_no h4)
        by_cases ho : o = 0
        · subst ho
          have h7 := ref_plain f r s k w hf hs h2 h3 (by omega)
          simp only [eq_self, and_true, true_and, ne_eq, not_true_eq_false, and_false, false_or] at h7 ⊢
          exact h7
        · exact ref_op f r o s k w hf hs h2 h3 (by omega) ho
  · have := ref_wait f r o s t k w hf hs h2 h3 h34 ht
    by_cases h5 : has sids t = true
    · rw [if_pos h5] at this ⊢
      exact this
    · rw [if_neg h5] at this ⊢
      rw [if_pos (show t ≠ 0 from ht)]
      exact this
end Go.Proofs.YtjpgjhdkgmddfaaDoor.Seek
