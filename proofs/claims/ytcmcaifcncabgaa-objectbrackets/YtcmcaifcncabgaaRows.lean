/-
  No cell of these rows narrows 'for every input' (looked for: loops, veiled, ifaces, maps, wideKeys, modest, calm, conditions, laid).
  DERIVED. THE GIVEN ROWS OF THIS SEAT. 3 by the template 'for every input the law returns true; each argument reads behind the call as it read before'; 0 by the template 'total and deterministic' (their statements: YtcmcaifcncabgaaTotals.lean).
  GIVEN WITH THE SEED: the statements are not yours to turn. If you find one false, say at which input.
  Laid BY PROGRAM, IN A SANDBOX (cutbox-rows.mjs): the forced cells as the released guide's own fill.sh prints them over the translation 82d19aa37828fca7… (all of the seat's roots in one cut). By AI agents, Wed Nov 11 2026. No macro, syntax, notation, axiom, sorry.
-/
import Derived.Test.YtcmcaifcncabgaaChecked
import GoSem.Claim
import GoSem.ClaimJoined
import GoSem.ClaimMapViews
import Derived.JoinedTies
import Derived.KernelRfl
namespace Go.Proofs.Ytcmcaifcncabgaa
/- THE CELL 'sum', in the pinned program and in every row, IS THE sha256 OF THE DUMP (.gsa) THAT YtcmcaifcncabgaaProg.lean LOADS. Nothing in Lean hashes anything: it is a label: what it is worth is what the hold of that sum in a sandbox is worth. -/
noncomputable def Try.pinned : Pinned := { name := "ytcmcaifcncabgaa", sum := "82d19aa37828fca7bd5aa6ea5fd02294a14f19fb1a0652d5f42f55f6c3463108", checked := Try.checked }
namespace Rows
def none {H : Type} : Left H := { results := [], args := [] }

/-- 'fairlaw.ObjectSays': WHATEVER THE INPUT: true; the input reads as it did. -/
def objectSaysSpec : ChangeSpec := { name := "objectSays", fn := fun _ => fun
  | [d1, d2, d3, d4] => { results := [.lit (.bool true)], args := [d1, d2, d3, d4] }
  | _ => none }
def objectSaysRow : OpenClaim := { program := "ytcmcaifcncabgaa", sum := "82d19aa37828fca7bd5aa6ea5fd02294a14f19fb1a0652d5f42f55f6c3463108", func := "fairhand/fairlaw.ObjectSays", spec := "objectSays", apart := false }
def ObjectSaysSaid : Prop := objectSaysRow.holds Try.pinned (OpenSpec.ofChange objectSaysSpec)

/-- ITS FALSE NEIGHBOUR: 'it returns false'. Refute it at one input. -/
def objectSaysWrong : ChangeSpec := { name := "objectSays", fn := fun _ => fun
  | [d1, d2, d3, d4] => { results := [.lit (.bool false)], args := [d1, d2, d3, d4] }
  | _ => none }
def ObjectSaysWrongFalsely : Prop := objectSaysRow.holds Try.pinned (OpenSpec.ofChange objectSaysWrong)

/-- 'fairkeep.ObjectIn': WHATEVER THE INPUT: true; the input reads as it did. -/
def objectInSpec : ChangeSpec := { name := "objectIn", fn := fun _ => fun
  | [d1, d2, d3] => { results := [.lit (.bool true)], args := [d1, d2, d3] }
  | _ => none }
def objectInRow : OpenClaim := { program := "ytcmcaifcncabgaa", sum := "82d19aa37828fca7bd5aa6ea5fd02294a14f19fb1a0652d5f42f55f6c3463108", func := "fairhand/fairkeep.ObjectIn", spec := "objectIn", unfollowed := true, recurses := true, apart := false }
def ObjectInSaid : Prop := objectInRow.holds Try.pinned (OpenSpec.ofChange objectInSpec)

/-- ITS FALSE NEIGHBOUR: 'it returns false'. Refute it at one input. -/
def objectInWrong : ChangeSpec := { name := "objectIn", fn := fun _ => fun
  | [d1, d2, d3] => { results := [.lit (.bool false)], args := [d1, d2, d3] }
  | _ => none }
def ObjectInWrongFalsely : Prop := objectInRow.holds Try.pinned (OpenSpec.ofChange objectInWrong)

/-- 'fairkeep.ObjectBrackets': WHATEVER THE INPUT: true; the input reads as it did. -/
def objectBracketsSpec : ChangeSpec := { name := "objectBrackets", fn := fun _ => fun
  | [d1, d2, d3] => { results := [.lit (.bool true)], args := [d1, d2, d3] }
  | _ => none }
def objectBracketsRow : OpenClaim := { program := "ytcmcaifcncabgaa", sum := "82d19aa37828fca7bd5aa6ea5fd02294a14f19fb1a0652d5f42f55f6c3463108", func := "fairhand/fairkeep.ObjectBrackets", spec := "objectBrackets", apart := false }
def ObjectBracketsSaid : Prop := objectBracketsRow.holds Try.pinned (OpenSpec.ofChange objectBracketsSpec)

/-- ITS FALSE NEIGHBOUR: 'it returns false'. Refute it at one input. -/
def objectBracketsWrong : ChangeSpec := { name := "objectBrackets", fn := fun _ => fun
  | [d1, d2, d3] => { results := [.lit (.bool false)], args := [d1, d2, d3] }
  | _ => none }
def ObjectBracketsWrongFalsely : Prop := objectBracketsRow.holds Try.pinned (OpenSpec.ofChange objectBracketsWrong)

/- THE SECOND FORM. 'bulk': how many values and letters a reading holds, each counted each time it is reached (what is shared counts as often as it is met; a slice's spare places count too). A statement '..UptoSaid' is the law's where the arguments, and the package variables that the reading takes, are together of bulk at most 1048576: NARROWER than '..Said'. Prove '..Said' where nothing that the law and all that it calls make is longer than what came in: it says more and counts as full. Else prove '..UptoSaid'. A law counts once. -/
mutual
def uptoBulk {H : Type} : DataW H → Nat
  | .lit (.string bytes) => bytes.length + 1
  | .lit _ => 1
  | .nil => 1
  | .ptr d => uptoBulk d + 1
  | .slice elems spare => uptoBulkAll elems + uptoBulkAll spare + 1
  | .agg parts => uptoBulkAll parts + 1
  | .iface _ d => uptoBulk d + 1
  | .map entries => uptoBulkEntries entries + 1
  | .held _ => 1
def uptoBulkAll {H : Type} : List (DataW H) → Nat
  | [] => 0
  | d :: r => uptoBulk d + uptoBulkAll r
def uptoBulkEntries {H : Type} : List (Lit × DataW H) → Nat
  | [] => 0
  | x :: r => uptoBulkEntry x + uptoBulkEntries r
def uptoBulkEntry {H : Type} : Lit × DataW H → Nat
  | (.string bytes, d) => bytes.length + uptoBulk d + 1
  | (_, d) => uptoBulk d + 1
 end
def uptoSmall : (H : Type) → List (DataW H) → Bool := fun _ ds => decide (uptoBulkAll ds ≤ 1048576)
def OpenSpec.upto (s : _root_.Go.ChangeSpec) : _root_.Go.OpenSpec := { _root_.Go.OpenSpec.ofChange s with cond := some uptoSmall }

/-- 'fairlaw.ObjectSays', WHERE WHAT IT READS IS OF BULK AT MOST 1048576: true; the input reads as it did. -/
def objectSaysUptoRow : OpenClaim := { program := "ytcmcaifcncabgaa", sum := "82d19aa37828fca7bd5aa6ea5fd02294a14f19fb1a0652d5f42f55f6c3463108", func := "fairhand/fairlaw.ObjectSays", spec := "objectSays", apart := false, narrowed := true }
def ObjectSaysUptoSaid : Prop := objectSaysUptoRow.holds Try.pinned (OpenSpec.upto objectSaysSpec)

/-- 'fairkeep.ObjectIn', WHERE WHAT IT READS IS OF BULK AT MOST 1048576: true; the input reads as it did. -/
def objectInUptoRow : OpenClaim := { program := "ytcmcaifcncabgaa", sum := "82d19aa37828fca7bd5aa6ea5fd02294a14f19fb1a0652d5f42f55f6c3463108", func := "fairhand/fairkeep.ObjectIn", spec := "objectIn", unfollowed := true, recurses := true, apart := false, narrowed := true }
def ObjectInUptoSaid : Prop := objectInUptoRow.holds Try.pinned (OpenSpec.upto objectInSpec)

/-- 'fairkeep.ObjectBrackets', WHERE WHAT IT READS IS OF BULK AT MOST 1048576: true; the input reads as it did. -/
def objectBracketsUptoRow : OpenClaim := { program := "ytcmcaifcncabgaa", sum := "82d19aa37828fca7bd5aa6ea5fd02294a14f19fb1a0652d5f42f55f6c3463108", func := "fairhand/fairkeep.ObjectBrackets", spec := "objectBrackets", apart := false, narrowed := true }
def ObjectBracketsUptoSaid : Prop := objectBracketsUptoRow.holds Try.pinned (OpenSpec.upto objectBracketsSpec)

end Rows
end Go.Proofs.Ytcmcaifcncabgaa
