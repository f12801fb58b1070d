/- The contract of the document's bracket. -/
import Derived.Test.YtpgjaoemkadenabM13
import Derived.Laws.IdiomStrings
import Derived.BigQuiet
set_option linter.unusedVariables false
set_option linter.unusedSimpArgs false
set_option maxRecDepth 100000
namespace Go.Proofs.Ytpgjaoemkadenab.Plain
/-- The bracket of its brk that opens, and the one that closes. -/
def opn (c : Int) : Int := if opens c = true then c else if shuts c = true then brk c else 0
def sht (c : Int) : Int := if opens c = true then brk c else if shuts c = true then c else 0
theorem opn_open {c : Int} (h : opens c = true) : opn c = c ∧ sht c = brk c := by
  unfold opn sht
  rw [if_pos h, if_pos h]
  exact ⟨rfl, rfl⟩
theorem opn_shut {c : Int} (h : shuts c = true) : opn c = brk c ∧ sht c = c := by
  have h2 : opens c = false := by
    rcases sort c with h4 | h4 | h4
    · rw [h4.2.1] at h; cases h
    · exact h4.1
    · exact h4.1
  unfold opn sht
  rw [h2, if_neg (by decide), if_pos h, if_neg (by decide), if_pos h]
  exact ⟨rfl, rfl⟩
theorem opn_other {c : Int} (h1 : opens c = false) (h2 : shuts c = false) : opn c = 0 ∧ sht c = 0 := by
  unfold opn sht
  rw [h1, h2]
  exact ⟨rfl, rfl⟩
end Go.Proofs.Ytpgjaoemkadenab.Plain
namespace Go.Proofs.Ytpgjaoemkadenab.Seek
open Go.RowKit Plain

end Go.Proofs.Ytpgjaoemkadenab.Seek
