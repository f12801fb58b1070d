/- What a region that draws leaves: worlds that go on from one. -/
import Derived.Test.YtpgjaoemkadenabM24
import Derived.Deep.RegionHeld3
set_option linter.unusedVariables false
set_option linter.unusedSimpArgs false
set_option maxRecDepth 100000
namespace Go.Proofs.Ytpgjaoemkadenab.Seek
open Go.RowKit
theorem below_al {W w' : World} (h : Below W.heap.size W w') (o : Obj) : Below W.heap.size W (w'.alloc o) := h.alloc h.size o
theorem below_st {W w' : World} {p : Addr} (h : Below W.heap.size W w') (hp : W.heap.size ≤ p.block) (v : Value) : Below W.heap.size W (w'.setCell p v) := h.setCell hp v
theorem below_dr {W w' : World} (h : Below W.heap.size W w') : Below W.heap.size W w'.drew := h.drew
end Go.Proofs.Ytpgjaoemkadenab.Seek
