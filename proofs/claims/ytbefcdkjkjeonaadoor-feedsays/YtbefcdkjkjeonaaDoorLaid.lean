/- From what the rows list of the library's two tables to what the walks ask of memory. -/
import Derived.Test.YtbefcdkjkjeonaaDoorFeed
import Derived.Lib.LaidU8T
import Derived.PinnedBridge
import Derived.Lay
import Derived.LaidOnce
import Derived.ProofKit
set_option maxRecDepth 100000
namespace Go.Proofs.YtbefcdkjkjeonaaDoor.Utf
open Go.RowKit Go.Shelf Go.Lib

def ren : Ren := ⟨fun n => n, fun | 119 => 65 | 138 => 67 | 139 => 68 | n => n, fun | 3 => 0 | 4 => 1 | n => n⟩
theorem types : U8Types Tryd.prog ren := ⟨Tryd.underlying5, Tryd.underlying65, Tryd.underlying67, Tryd.underlying68⟩
theorem extra : U8Extra Tryd.prog ren := ⟨by kernel_rfl, by kernel_rfl, by kernel_rfl, by kernel_rfl, by kernel_rfl, by kernel_rfl, by kernel_rfl⟩
def listed : List (String × DataW Unit) := [("unicode/utf8.acceptRanges", Rows.laid_unicode_utf8_acceptRanges), ("unicode/utf8.first", Rows.laid_unicode_utf8_first)]
theorem first_eq : Rows.laid_unicode_utf8_first = firstData := Pinned.utf8First_eq
theorem accept_eq : Rows.laid_unicode_utf8_acceptRanges = acceptData := by kernel_rfl
theorem tabs_of_laid {W : World} (hL : laidMet Tryd.prog listed W) : Tabs W := by
  have h : Lib.Utf8Tabs 0 1 W := utf8Tabs_of_readsT types extra (first_eq ▸ Lib.laidMet.reads hL (.tail _ (.head _))) (accept_eq ▸ Lib.laidMet.reads hL (.head _))
  refine ⟨h, ?_⟩
  have h1 := (h.2 0 (by omega)).1
  unfold World.cell? at h1
  simp only at h1
  rcases Nat.lt_or_ge 1 W.heap.size with h2 | h2
  · exact h2
  · rw [Array.getElem?_eq_none h2] at h1
    cases h1
theorem tabs_of_laidH {W : World} (hL : laidMetH Tryd.prog listed W) : Tabs W := by
  rw [MakeChecks.laidMetH_plain _ _ _ (by kernel_rfl)] at hL
  exact tabs_of_laid hL
theorem own : ownKnob Tryd.prog.godebug = none := by kernel_rfl
end Go.Proofs.YtbefcdkjkjeonaaDoor.Utf
