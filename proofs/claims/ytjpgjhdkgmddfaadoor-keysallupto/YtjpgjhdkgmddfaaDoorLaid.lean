/- From what the rows list of the library's three tables to what the walks ask of memory. -/
import Derived.Test.YtjpgjhdkgmddfaaDoorNumeral
import Derived.Test.YtjpgjhdkgmddfaaDoorRows
import Derived.Lib.LaidTab
import Derived.Stop.LaidErr
import Derived.PinnedBridge
import Derived.Lay
import Derived.LaidOnce
import Derived.ProofKit
set_option maxRecDepth 100000
namespace Go.Proofs.YtjpgjhdkgmddfaaDoor.Seek
open Go.RowKit

def listed : List (String × DataW Unit) := [("math/bits.deBruijn32tab", Rows.laid_math_bits_deBruijn32tab), ("math/bits.deBruijn64tab", Rows.laid_math_bits_deBruijn64tab), ("internal/strconv.uint64pow10", Rows.laid_internal_strconv_uint64pow10)]
theorem tab_type : (Tryd.prog.globals[0]?).map (·.type) = some 69 := by kernel_rfl
theorem cells69 : Tryd.prog.cellsOf 69 = 20 := by kernel_rfl
theorem cells62 : Tryd.prog.cellsOf 62 = 1 := by kernel_rfl
theorem tab_of_laid {W : World} (h : laidMet Tryd.prog listed W) : Tab W :=
  Lib.tabIs_of_head (rest := []) tab_global tab_type Tryd.underlying69 Tryd.underlying62 cells62 cells69 h.tail.tail
theorem tab_of_laidH {W : World} (h : laidMetH Tryd.prog listed W) : Tab W := by
  rw [MakeChecks.laidMetH_plain _ _ _ (by kernel_rfl)] at h
  exact tab_of_laid h
end Go.Proofs.YtjpgjhdkgmddfaaDoor.Seek
