/-
  No cell of these rows narrows 'for every input' (looked for: loops, veiled, ifaces, maps, wideKeys, modest, calm, conditions, laid).
  DERIVED. THE GIVEN ROWS OF THIS SEAT. 3 by the template 'for every input the law returns true; each argument reads behind the call as it read before'; 0 by the template 'total and deterministic' (their statements: YtobmggijdmdidaaTotals.lean).
  GIVEN WITH THE SEED: the statements are not yours to turn. If you find one false, say at which input.
  Laid BY PROGRAM, IN A SANDBOX (cutbox-rows.mjs): the forced cells as the released guide's own fill.sh prints them over the translation d7060e9b1c6de13b… (all of the seat's roots in one cut). By AI agents, Wed Nov 11 2026. No macro, syntax, notation, axiom, sorry.
-/
import Derived.Test.YtobmggijdmdidaaChecked
import GoSem.Claim
import GoSem.ClaimJoined
import GoSem.ClaimMapViews
import Derived.JoinedTies
import Derived.KernelRfl
namespace Go.Proofs.Ytobmggijdmdidaa
/- THE CELL 'sum', in the pinned program and in every row, IS THE sha256 OF THE DUMP (.gsa) THAT YtobmggijdmdidaaProg.lean LOADS. Nothing in Lean hashes anything: it is a label: what it is worth is what the hold of that sum in a sandbox is worth. -/
noncomputable def Try.pinned : Pinned := { name := "ytobmggijdmdidaa", sum := "d7060e9b1c6de13bd82de4b168f8d4a8dc4e962c927cc423811d3d4c7c35d1ce", checked := Try.checked }
namespace Rows
def none {H : Type} : Left H := { results := [], args := [] }

/-- 'fairlaw.RegSays': WHATEVER THE INPUT: true; the input reads as it did. -/
def regSaysSpec : ChangeSpec := { name := "regSays", fn := fun _ => fun
  | [d1, d2, d3] => { results := [.lit (.bool true)], args := [d1, d2, d3] }
  | _ => none }
def regSaysRow : OpenClaim := { program := "ytobmggijdmdidaa", sum := "d7060e9b1c6de13bd82de4b168f8d4a8dc4e962c927cc423811d3d4c7c35d1ce", func := "fairhand/fairlaw.RegSays", spec := "regSays", apart := false }
def RegSaysSaid : Prop := regSaysRow.holds Try.pinned (OpenSpec.ofChange regSaysSpec)

/-- ITS FALSE NEIGHBOUR: 'it returns false'. Refute it at one input. -/
def regSaysWrong : ChangeSpec := { name := "regSays", fn := fun _ => fun
  | [d1, d2, d3] => { results := [.lit (.bool false)], args := [d1, d2, d3] }
  | _ => none }
def RegSaysWrongFalsely : Prop := regSaysRow.holds Try.pinned (OpenSpec.ofChange regSaysWrong)

/-- 'fairkeep.RegBack': WHATEVER THE INPUT: true; the input reads as it did. -/
def regBackSpec : ChangeSpec := { name := "regBack", fn := fun _ => fun
  | [d1, d2, d3, d4, d5] => { results := [.lit (.bool true)], args := [d1, d2, d3, d4, d5] }
  | _ => none }
def regBackRow : OpenClaim := { program := "ytobmggijdmdidaa", sum := "d7060e9b1c6de13bd82de4b168f8d4a8dc4e962c927cc423811d3d4c7c35d1ce", func := "fairhand/fairkeep.RegBack", spec := "regBack", apart := false }
def RegBackSaid : Prop := regBackRow.holds Try.pinned (OpenSpec.ofChange regBackSpec)

/-- ITS FALSE NEIGHBOUR: 'it returns false'. Refute it at one input. -/
def regBackWrong : ChangeSpec := { name := "regBack", fn := fun _ => fun
  | [d1, d2, d3, d4, d5] => { results := [.lit (.bool false)], args := [d1, d2, d3, d4, d5] }
  | _ => none }
def RegBackWrongFalsely : Prop := regBackRow.holds Try.pinned (OpenSpec.ofChange regBackWrong)

/-- 'fairkeep.RegOwn': WHATEVER THE INPUT: true; the input reads as it did. -/
def regOwnSpec : ChangeSpec := { name := "regOwn", fn := fun _ => fun
  | [d1, d2, d3] => { results := [.lit (.bool true)], args := [d1, d2, d3] }
  | _ => none }
def regOwnRow : OpenClaim := { program := "ytobmggijdmdidaa", sum := "d7060e9b1c6de13bd82de4b168f8d4a8dc4e962c927cc423811d3d4c7c35d1ce", func := "fairhand/fairkeep.RegOwn", spec := "regOwn", apart := false }
def RegOwnSaid : Prop := regOwnRow.holds Try.pinned (OpenSpec.ofChange regOwnSpec)

/-- ITS FALSE NEIGHBOUR: 'it returns false'. Refute it at one input. -/
def regOwnWrong : ChangeSpec := { name := "regOwn", fn := fun _ => fun
  | [d1, d2, d3] => { results := [.lit (.bool false)], args := [d1, d2, d3] }
  | _ => none }
def RegOwnWrongFalsely : Prop := regOwnRow.holds Try.pinned (OpenSpec.ofChange regOwnWrong)

/- THE SECOND FORM. 'bulk': how many values and letters a reading holds, each counted each time it is reached (what is shared counts as often as it is met; a slice's spare places count too). A statement '..UptoSaid' is the law's where the arguments, and the package variables that the reading takes, are together of bulk at most 1048576: NARROWER than '..Said'. Prove '..Said' where nothing that the law and all that it calls make is longer than what came in: it says more and counts as full. Else prove '..UptoSaid'. A law counts once. -/
mutual
def uptoBulk {H : Type} : DataW H → Nat
  | .lit (.string bytes) => bytes.length + 1
  | .lit _ => 1
  | .nil => 1
  | .ptr d => uptoBulk d + 1
  | .slice elems spare => uptoBulkAll elems + uptoBulkAll spare + 1
  | .agg parts => uptoBulkAll parts + 1
  | .iface _ d => uptoBulk d + 1
  | .map entries => uptoBulkEntries entries + 1
  | .held _ => 1
def uptoBulkAll {H : Type} : List (DataW H) → Nat
  | [] => 0
  | d :: r => uptoBulk d + uptoBulkAll r
def uptoBulkEntries {H : Type} : List (Lit × DataW H) → Nat
  | [] => 0
  | x :: r => uptoBulkEntry x + uptoBulkEntries r
def uptoBulkEntry {H : Type} : Lit × DataW H → Nat
  | (.string bytes, d) => bytes.length + uptoBulk d + 1
  | (_, d) => uptoBulk d + 1
 end
def uptoSmall : (H : Type) → List (DataW H) → Bool := fun _ ds => decide (uptoBulkAll ds ≤ 1048576)
def OpenSpec.upto (s : _root_.Go.ChangeSpec) : _root_.Go.OpenSpec := { _root_.Go.OpenSpec.ofChange s with cond := some uptoSmall }

/-- 'fairlaw.RegSays', WHERE WHAT IT READS IS OF BULK AT MOST 1048576: true; the input reads as it did. -/
def regSaysUptoRow : OpenClaim := { program := "ytobmggijdmdidaa", sum := "d7060e9b1c6de13bd82de4b168f8d4a8dc4e962c927cc423811d3d4c7c35d1ce", func := "fairhand/fairlaw.RegSays", spec := "regSays", apart := false, narrowed := true }
def RegSaysUptoSaid : Prop := regSaysUptoRow.holds Try.pinned (OpenSpec.upto regSaysSpec)

/-- 'fairkeep.RegBack', WHERE WHAT IT READS IS OF BULK AT MOST 1048576: true; the input reads as it did. -/
def regBackUptoRow : OpenClaim := { program := "ytobmggijdmdidaa", sum := "d7060e9b1c6de13bd82de4b168f8d4a8dc4e962c927cc423811d3d4c7c35d1ce", func := "fairhand/fairkeep.RegBack", spec := "regBack", apart := false, narrowed := true }
def RegBackUptoSaid : Prop := regBackUptoRow.holds Try.pinned (OpenSpec.upto regBackSpec)

/-- 'fairkeep.RegOwn', WHERE WHAT IT READS IS OF BULK AT MOST 1048576: true; the input reads as it did. -/
def regOwnUptoRow : OpenClaim := { program := "ytobmggijdmdidaa", sum := "d7060e9b1c6de13bd82de4b168f8d4a8dc4e962c927cc423811d3d4c7c35d1ce", func := "fairhand/fairkeep.RegOwn", spec := "regOwn", apart := false, narrowed := true }
def RegOwnUptoSaid : Prop := regOwnUptoRow.holds Try.pinned (OpenSpec.upto regOwnSpec)

end Rows
end Go.Proofs.Ytobmggijdmdidaa
