/-
  No cell of these rows narrows 'for every input' (looked for: loops, veiled, ifaces, maps, wideKeys, modest, calm, conditions, laid).
  DERIVED. THE GIVEN ROWS OF THIS SEAT. 3 by the template 'for every input the law returns true; each argument reads behind the call as it read before'; 0 by the template 'total and deterministic' (their statements: YtpjpkndinobijaaTotals.lean).
  GIVEN WITH THE SEED: the statements are not yours to turn. If you find one false, say at which input.
  Laid BY PROGRAM, IN A SANDBOX (cutbox-rows.mjs): the forced cells as the released guide's own fill.sh prints them over the translation b91f62c3dbc9424f… (all of the seat's roots in one cut). By AI agents, Wed Nov 11 2026. No macro, syntax, notation, axiom, sorry.
-/
import Derived.Test.YtpjpkndinobijaaChecked
import GoSem.Claim
import GoSem.ClaimJoined
import GoSem.ClaimMapViews
import Derived.JoinedTies
import Derived.KernelRfl
namespace Go.Proofs.Ytpjpkndinobijaa
/- THE CELL 'sum', in the pinned program and in every row, IS THE sha256 OF THE DUMP (.gsa) THAT YtpjpkndinobijaaProg.lean LOADS. Nothing in Lean hashes anything: it is a label: what it is worth is what the hold of that sum in a sandbox is worth. -/
noncomputable def Try.pinned : Pinned := { name := "ytpjpkndinobijaa", sum := "b91f62c3dbc9424fc81291a018dc0a33ad648736ad90f49753fd2cdc99096926", checked := Try.checked }
namespace Rows
def none {H : Type} : Left H := { results := [], args := [] }

/-- 'fairlaw.WordSays': WHATEVER THE INPUT: true; the input reads as it did. -/
def wordSaysSpec : ChangeSpec := { name := "wordSays", fn := fun _ => fun
  | [d1, d2, d3, d4] => { results := [.lit (.bool true)], args := [d1, d2, d3, d4] }
  | _ => none }
def wordSaysRow : OpenClaim := { program := "ytpjpkndinobijaa", sum := "b91f62c3dbc9424fc81291a018dc0a33ad648736ad90f49753fd2cdc99096926", func := "fairhand/fairlaw.WordSays", spec := "wordSays", apart := false }
def WordSaysSaid : Prop := wordSaysRow.holds Try.pinned (OpenSpec.ofChange wordSaysSpec)

/-- ITS FALSE NEIGHBOUR: 'it returns false'. Refute it at one input. -/
def wordSaysWrong : ChangeSpec := { name := "wordSays", fn := fun _ => fun
  | [d1, d2, d3, d4] => { results := [.lit (.bool false)], args := [d1, d2, d3, d4] }
  | _ => none }
def WordSaysWrongFalsely : Prop := wordSaysRow.holds Try.pinned (OpenSpec.ofChange wordSaysWrong)

/-- 'fairkeep.WordWays': WHATEVER THE INPUT: true; the input reads as it did. -/
def wordWaysSpec : ChangeSpec := { name := "wordWays", fn := fun _ => fun
  | [d1, d2, d3] => { results := [.lit (.bool true)], args := [d1, d2, d3] }
  | _ => none }
def wordWaysRow : OpenClaim := { program := "ytpjpkndinobijaa", sum := "b91f62c3dbc9424fc81291a018dc0a33ad648736ad90f49753fd2cdc99096926", func := "fairhand/fairkeep.WordWays", spec := "wordWays", unfollowed := true, recurses := true, apart := false }
def WordWaysSaid : Prop := wordWaysRow.holds Try.pinned (OpenSpec.ofChange wordWaysSpec)

/-- ITS FALSE NEIGHBOUR: 'it returns false'. Refute it at one input. -/
def wordWaysWrong : ChangeSpec := { name := "wordWays", fn := fun _ => fun
  | [d1, d2, d3] => { results := [.lit (.bool false)], args := [d1, d2, d3] }
  | _ => none }
def WordWaysWrongFalsely : Prop := wordWaysRow.holds Try.pinned (OpenSpec.ofChange wordWaysWrong)

/-- 'fairkeep.WordBig': WHATEVER THE INPUT: true; the input reads as it did. -/
def wordBigSpec : ChangeSpec := { name := "wordBig", fn := fun _ => fun
  | [d1, d2] => { results := [.lit (.bool true)], args := [d1, d2] }
  | _ => none }
def wordBigRow : OpenClaim := { program := "ytpjpkndinobijaa", sum := "b91f62c3dbc9424fc81291a018dc0a33ad648736ad90f49753fd2cdc99096926", func := "fairhand/fairkeep.WordBig", spec := "wordBig", apart := false }
def WordBigSaid : Prop := wordBigRow.holds Try.pinned (OpenSpec.ofChange wordBigSpec)

/-- ITS FALSE NEIGHBOUR: 'it returns false'. Refute it at one input. -/
def wordBigWrong : ChangeSpec := { name := "wordBig", fn := fun _ => fun
  | [d1, d2] => { results := [.lit (.bool false)], args := [d1, d2] }
  | _ => none }
def WordBigWrongFalsely : Prop := wordBigRow.holds Try.pinned (OpenSpec.ofChange wordBigWrong)

/- THE SECOND FORM. 'bulk': how many values and letters a reading holds, each counted each time it is reached (what is shared counts as often as it is met; a slice's spare places count too). A statement '..UptoSaid' is the law's where the arguments, and the package variables that the reading takes, are together of bulk at most 1048576: NARROWER than '..Said'. Prove '..Said' where nothing that the law and all that it calls make is longer than what came in: it says more and counts as full. Else prove '..UptoSaid'. A law counts once. -/
mutual
def uptoBulk {H : Type} : DataW H → Nat
  | .lit (.string bytes) => bytes.length + 1
  | .lit _ => 1
  | .nil => 1
  | .ptr d => uptoBulk d + 1
  | .slice elems spare => uptoBulkAll elems + uptoBulkAll spare + 1
  | .agg parts => uptoBulkAll parts + 1
  | .iface _ d => uptoBulk d + 1
  | .map entries => uptoBulkEntries entries + 1
  | .held _ => 1
def uptoBulkAll {H : Type} : List (DataW H) → Nat
  | [] => 0
  | d :: r => uptoBulk d + uptoBulkAll r
def uptoBulkEntries {H : Type} : List (Lit × DataW H) → Nat
  | [] => 0
  | x :: r => uptoBulkEntry x + uptoBulkEntries r
def uptoBulkEntry {H : Type} : Lit × DataW H → Nat
  | (.string bytes, d) => bytes.length + uptoBulk d + 1
  | (_, d) => uptoBulk d + 1
 end
def uptoSmall : (H : Type) → List (DataW H) → Bool := fun _ ds => decide (uptoBulkAll ds ≤ 1048576)
def OpenSpec.upto (s : _root_.Go.ChangeSpec) : _root_.Go.OpenSpec := { _root_.Go.OpenSpec.ofChange s with cond := some uptoSmall }

/-- 'fairlaw.WordSays', WHERE WHAT IT READS IS OF BULK AT MOST 1048576: true; the input reads as it did. -/
def wordSaysUptoRow : OpenClaim := { program := "ytpjpkndinobijaa", sum := "b91f62c3dbc9424fc81291a018dc0a33ad648736ad90f49753fd2cdc99096926", func := "fairhand/fairlaw.WordSays", spec := "wordSays", apart := false, narrowed := true }
def WordSaysUptoSaid : Prop := wordSaysUptoRow.holds Try.pinned (OpenSpec.upto wordSaysSpec)

/-- 'fairkeep.WordWays', WHERE WHAT IT READS IS OF BULK AT MOST 1048576: true; the input reads as it did. -/
def wordWaysUptoRow : OpenClaim := { program := "ytpjpkndinobijaa", sum := "b91f62c3dbc9424fc81291a018dc0a33ad648736ad90f49753fd2cdc99096926", func := "fairhand/fairkeep.WordWays", spec := "wordWays", unfollowed := true, recurses := true, apart := false, narrowed := true }
def WordWaysUptoSaid : Prop := wordWaysUptoRow.holds Try.pinned (OpenSpec.upto wordWaysSpec)

/-- 'fairkeep.WordBig', WHERE WHAT IT READS IS OF BULK AT MOST 1048576: true; the input reads as it did. -/
def wordBigUptoRow : OpenClaim := { program := "ytpjpkndinobijaa", sum := "b91f62c3dbc9424fc81291a018dc0a33ad648736ad90f49753fd2cdc99096926", func := "fairhand/fairkeep.WordBig", spec := "wordBig", apart := false, narrowed := true }
def WordBigUptoSaid : Prop := wordBigUptoRow.holds Try.pinned (OpenSpec.upto wordBigSpec)

end Rows
end Go.Proofs.Ytpjpkndinobijaa
