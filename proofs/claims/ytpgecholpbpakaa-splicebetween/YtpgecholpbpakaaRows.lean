/-
  No cell of these rows narrows 'for every input' (looked for: loops, veiled, ifaces, maps, wideKeys, modest, calm, conditions, laid).
  DERIVED. THE GIVEN ROWS OF THIS SEAT. 6 by the template 'for every input the law returns true; each argument reads behind the call as it read before'; 0 by the template 'total and deterministic' (their statements: YtpgecholpbpakaaTotals.lean).
  GIVEN WITH THE SEED: the statements are not yours to turn. If you find one false, say at which input.
  Laid BY PROGRAM, IN A SANDBOX (cutbox-rows.mjs): the forced cells as the released guide's own fill.sh prints them over the translation 57c6a3777bf42666… (all of the seat's roots in one cut). By AI agents, Wed Nov 11 2026. No macro, syntax, notation, axiom, sorry.
-/
import Derived.Test.YtpgecholpbpakaaChecked
import GoSem.Claim
import GoSem.ClaimJoined
import GoSem.ClaimMapViews
import Derived.JoinedTies
import Derived.KernelRfl
namespace Go.Proofs.Ytpgecholpbpakaa
/- THE CELL 'sum', in the pinned program and in every row, IS THE sha256 OF THE DUMP (.gsa) THAT YtpgecholpbpakaaProg.lean LOADS. Nothing in Lean hashes anything: it is a label: what it is worth is what the hold of that sum in a sandbox is worth. -/
noncomputable def Try.pinned : Pinned := { name := "ytpgecholpbpakaa", sum := "57c6a3777bf42666604a66d445acde442b7997bae90eeb361f19dbcbade960f9", checked := Try.checked }
namespace Rows
def none {H : Type} : Left H := { results := [], args := [] }

/-- 'fairlaw.SpliceSays': WHATEVER THE INPUT: true; the input reads as it did. -/
def spliceSaysSpec : ChangeSpec := { name := "spliceSays", fn := fun _ => fun
  | [d1, d2, d3, d4] => { results := [.lit (.bool true)], args := [d1, d2, d3, d4] }
  | _ => none }
def spliceSaysRow : OpenClaim := { program := "ytpgecholpbpakaa", sum := "57c6a3777bf42666604a66d445acde442b7997bae90eeb361f19dbcbade960f9", func := "fairhand/fairlaw.SpliceSays", spec := "spliceSays", unfollowed := true, recurses := true, apart := false }
def SpliceSaysSaid : Prop := spliceSaysRow.holds Try.pinned (OpenSpec.ofChange spliceSaysSpec)

/-- ITS FALSE NEIGHBOUR: 'it returns false'. Refute it at one input. -/
def spliceSaysWrong : ChangeSpec := { name := "spliceSays", fn := fun _ => fun
  | [d1, d2, d3, d4] => { results := [.lit (.bool false)], args := [d1, d2, d3, d4] }
  | _ => none }
def SpliceSaysWrongFalsely : Prop := spliceSaysRow.holds Try.pinned (OpenSpec.ofChange spliceSaysWrong)

/-- 'fairlaw.SpliceOvers': WHATEVER THE INPUT: true; the input reads as it did. -/
def spliceOversSpec : ChangeSpec := { name := "spliceOvers", fn := fun _ => fun
  | [d1, d2, d3, d4] => { results := [.lit (.bool true)], args := [d1, d2, d3, d4] }
  | _ => none }
def spliceOversRow : OpenClaim := { program := "ytpgecholpbpakaa", sum := "57c6a3777bf42666604a66d445acde442b7997bae90eeb361f19dbcbade960f9", func := "fairhand/fairlaw.SpliceOvers", spec := "spliceOvers", unfollowed := true, recurses := true, apart := false }
def SpliceOversSaid : Prop := spliceOversRow.holds Try.pinned (OpenSpec.ofChange spliceOversSpec)

/-- ITS FALSE NEIGHBOUR: 'it returns false'. Refute it at one input. -/
def spliceOversWrong : ChangeSpec := { name := "spliceOvers", fn := fun _ => fun
  | [d1, d2, d3, d4] => { results := [.lit (.bool false)], args := [d1, d2, d3, d4] }
  | _ => none }
def SpliceOversWrongFalsely : Prop := spliceOversRow.holds Try.pinned (OpenSpec.ofChange spliceOversWrong)

/-- 'fairkeep.SpliceBack': WHATEVER THE INPUT: true; the input reads as it did. -/
def spliceBackSpec : ChangeSpec := { name := "spliceBack", fn := fun _ => fun
  | [d1, d2] => { results := [.lit (.bool true)], args := [d1, d2] }
  | _ => none }
def spliceBackRow : OpenClaim := { program := "ytpgecholpbpakaa", sum := "57c6a3777bf42666604a66d445acde442b7997bae90eeb361f19dbcbade960f9", func := "fairhand/fairkeep.SpliceBack", spec := "spliceBack", unfollowed := true, recurses := true, apart := false }
def SpliceBackSaid : Prop := spliceBackRow.holds Try.pinned (OpenSpec.ofChange spliceBackSpec)

/-- ITS FALSE NEIGHBOUR: 'it returns false'. Refute it at one input. -/
def spliceBackWrong : ChangeSpec := { name := "spliceBack", fn := fun _ => fun
  | [d1, d2] => { results := [.lit (.bool false)], args := [d1, d2] }
  | _ => none }
def SpliceBackWrongFalsely : Prop := spliceBackRow.holds Try.pinned (OpenSpec.ofChange spliceBackWrong)

/-- 'fairkeep.SpliceMeets': WHATEVER THE INPUT: true; the input reads as it did. -/
def spliceMeetsSpec : ChangeSpec := { name := "spliceMeets", fn := fun _ => fun
  | [d1, d2, d3, d4] => { results := [.lit (.bool true)], args := [d1, d2, d3, d4] }
  | _ => none }
def spliceMeetsRow : OpenClaim := { program := "ytpgecholpbpakaa", sum := "57c6a3777bf42666604a66d445acde442b7997bae90eeb361f19dbcbade960f9", func := "fairhand/fairkeep.SpliceMeets", spec := "spliceMeets", unfollowed := true, recurses := true, apart := false }
def SpliceMeetsSaid : Prop := spliceMeetsRow.holds Try.pinned (OpenSpec.ofChange spliceMeetsSpec)

/-- ITS FALSE NEIGHBOUR: 'it returns false'. Refute it at one input. -/
def spliceMeetsWrong : ChangeSpec := { name := "spliceMeets", fn := fun _ => fun
  | [d1, d2, d3, d4] => { results := [.lit (.bool false)], args := [d1, d2, d3, d4] }
  | _ => none }
def SpliceMeetsWrongFalsely : Prop := spliceMeetsRow.holds Try.pinned (OpenSpec.ofChange spliceMeetsWrong)

/-- 'fairkeep.SpliceNone': WHATEVER THE INPUT: true; the input reads as it did. -/
def spliceNoneSpec : ChangeSpec := { name := "spliceNone", fn := fun _ => fun
  | [d1, d2, d3] => { results := [.lit (.bool true)], args := [d1, d2, d3] }
  | _ => none }
def spliceNoneRow : OpenClaim := { program := "ytpgecholpbpakaa", sum := "57c6a3777bf42666604a66d445acde442b7997bae90eeb361f19dbcbade960f9", func := "fairhand/fairkeep.SpliceNone", spec := "spliceNone", unfollowed := true, recurses := true, apart := false }
def SpliceNoneSaid : Prop := spliceNoneRow.holds Try.pinned (OpenSpec.ofChange spliceNoneSpec)

/-- ITS FALSE NEIGHBOUR: 'it returns false'. Refute it at one input. -/
def spliceNoneWrong : ChangeSpec := { name := "spliceNone", fn := fun _ => fun
  | [d1, d2, d3] => { results := [.lit (.bool false)], args := [d1, d2, d3] }
  | _ => none }
def SpliceNoneWrongFalsely : Prop := spliceNoneRow.holds Try.pinned (OpenSpec.ofChange spliceNoneWrong)

/-- 'fairkeep.SpliceBetween': WHATEVER THE INPUT: true; the input reads as it did. -/
def spliceBetweenSpec : ChangeSpec := { name := "spliceBetween", fn := fun _ => fun
  | [d1, d2] => { results := [.lit (.bool true)], args := [d1, d2] }
  | _ => none }
def spliceBetweenRow : OpenClaim := { program := "ytpgecholpbpakaa", sum := "57c6a3777bf42666604a66d445acde442b7997bae90eeb361f19dbcbade960f9", func := "fairhand/fairkeep.SpliceBetween", spec := "spliceBetween", unfollowed := true, recurses := true, apart := false }
def SpliceBetweenSaid : Prop := spliceBetweenRow.holds Try.pinned (OpenSpec.ofChange spliceBetweenSpec)

/-- ITS FALSE NEIGHBOUR: 'it returns false'. Refute it at one input. -/
def spliceBetweenWrong : ChangeSpec := { name := "spliceBetween", fn := fun _ => fun
  | [d1, d2] => { results := [.lit (.bool false)], args := [d1, d2] }
  | _ => none }
def SpliceBetweenWrongFalsely : Prop := spliceBetweenRow.holds Try.pinned (OpenSpec.ofChange spliceBetweenWrong)

/- THE SECOND FORM. 'bulk': how many values and letters a reading holds, each counted each time it is reached (what is shared counts as often as it is met; a slice's spare places count too). A statement '..UptoSaid' is the law's where the arguments, and the package variables that the reading takes, are together of bulk at most 1048576: NARROWER than '..Said'. Prove '..Said' where nothing that the law and all that it calls make is longer than what came in: it says more and counts as full. Else prove '..UptoSaid'. A law counts once. -/
mutual
def uptoBulk {H : Type} : DataW H → Nat
  | .lit (.string bytes) => bytes.length + 1
  | .lit _ => 1
  | .nil => 1
  | .ptr d => uptoBulk d + 1
  | .slice elems spare => uptoBulkAll elems + uptoBulkAll spare + 1
  | .agg parts => uptoBulkAll parts + 1
  | .iface _ d => uptoBulk d + 1
  | .map entries => uptoBulkEntries entries + 1
  | .held _ => 1
def uptoBulkAll {H : Type} : List (DataW H) → Nat
  | [] => 0
  | d :: r => uptoBulk d + uptoBulkAll r
def uptoBulkEntries {H : Type} : List (Lit × DataW H) → Nat
  | [] => 0
  | x :: r => uptoBulkEntry x + uptoBulkEntries r
def uptoBulkEntry {H : Type} : Lit × DataW H → Nat
  | (.string bytes, d) => bytes.length + uptoBulk d + 1
  | (_, d) => uptoBulk d + 1
 end
def uptoSmall : (H : Type) → List (DataW H) → Bool := fun _ ds => decide (uptoBulkAll ds ≤ 1048576)
def OpenSpec.upto (s : _root_.Go.ChangeSpec) : _root_.Go.OpenSpec := { _root_.Go.OpenSpec.ofChange s with cond := some uptoSmall }

/-- 'fairlaw.SpliceSays', WHERE WHAT IT READS IS OF BULK AT MOST 1048576: true; the input reads as it did. -/
def spliceSaysUptoRow : OpenClaim := { program := "ytpgecholpbpakaa", sum := "57c6a3777bf42666604a66d445acde442b7997bae90eeb361f19dbcbade960f9", func := "fairhand/fairlaw.SpliceSays", spec := "spliceSays", unfollowed := true, recurses := true, apart := false, narrowed := true }
def SpliceSaysUptoSaid : Prop := spliceSaysUptoRow.holds Try.pinned (OpenSpec.upto spliceSaysSpec)

/-- 'fairlaw.SpliceOvers', WHERE WHAT IT READS IS OF BULK AT MOST 1048576: true; the input reads as it did. -/
def spliceOversUptoRow : OpenClaim := { program := "ytpgecholpbpakaa", sum := "57c6a3777bf42666604a66d445acde442b7997bae90eeb361f19dbcbade960f9", func := "fairhand/fairlaw.SpliceOvers", spec := "spliceOvers", unfollowed := true, recurses := true, apart := false, narrowed := true }
def SpliceOversUptoSaid : Prop := spliceOversUptoRow.holds Try.pinned (OpenSpec.upto spliceOversSpec)

/-- 'fairkeep.SpliceBack', WHERE WHAT IT READS IS OF BULK AT MOST 1048576: true; the input reads as it did. -/
def spliceBackUptoRow : OpenClaim := { program := "ytpgecholpbpakaa", sum := "57c6a3777bf42666604a66d445acde442b7997bae90eeb361f19dbcbade960f9", func := "fairhand/fairkeep.SpliceBack", spec := "spliceBack", unfollowed := true, recurses := true, apart := false, narrowed := true }
def SpliceBackUptoSaid : Prop := spliceBackUptoRow.holds Try.pinned (OpenSpec.upto spliceBackSpec)

/-- 'fairkeep.SpliceMeets', WHERE WHAT IT READS IS OF BULK AT MOST 1048576: true; the input reads as it did. -/
def spliceMeetsUptoRow : OpenClaim := { program := "ytpgecholpbpakaa", sum := "57c6a3777bf42666604a66d445acde442b7997bae90eeb361f19dbcbade960f9", func := "fairhand/fairkeep.SpliceMeets", spec := "spliceMeets", unfollowed := true, recurses := true, apart := false, narrowed := true }
def SpliceMeetsUptoSaid : Prop := spliceMeetsUptoRow.holds Try.pinned (OpenSpec.upto spliceMeetsSpec)

/-- 'fairkeep.SpliceNone', WHERE WHAT IT READS IS OF BULK AT MOST 1048576: true; the input reads as it did. -/
def spliceNoneUptoRow : OpenClaim := { program := "ytpgecholpbpakaa", sum := "57c6a3777bf42666604a66d445acde442b7997bae90eeb361f19dbcbade960f9", func := "fairhand/fairkeep.SpliceNone", spec := "spliceNone", unfollowed := true, recurses := true, apart := false, narrowed := true }
def SpliceNoneUptoSaid : Prop := spliceNoneUptoRow.holds Try.pinned (OpenSpec.upto spliceNoneSpec)

/-- 'fairkeep.SpliceBetween', WHERE WHAT IT READS IS OF BULK AT MOST 1048576: true; the input reads as it did. -/
def spliceBetweenUptoRow : OpenClaim := { program := "ytpgecholpbpakaa", sum := "57c6a3777bf42666604a66d445acde442b7997bae90eeb361f19dbcbade960f9", func := "fairhand/fairkeep.SpliceBetween", spec := "spliceBetween", unfollowed := true, recurses := true, apart := false, narrowed := true }
def SpliceBetweenUptoSaid : Prop := spliceBetweenUptoRow.holds Try.pinned (OpenSpec.upto spliceBetweenSpec)

end Rows
end Go.Proofs.Ytpgecholpbpakaa
