/-
  No cell of these rows narrows 'for every input' (looked for: loops, veiled, ifaces, maps, wideKeys, modest, calm, conditions, laid).
  DERIVED. THE GIVEN ROWS OF THIS SEAT. 5 by the template 'for every input the law returns true; each argument reads behind the call as it read before'; 0 by the template 'total and deterministic' (their statements: YtdhoackhjojobaaTotals.lean).
  GIVEN WITH THE SEED: the statements are not yours to turn. If you find one false, say at which input.
  Laid BY PROGRAM, IN A SANDBOX (cutbox-rows.mjs): the forced cells as the released guide's own fill.sh prints them over the translation f76a235867d3210a… (all of the seat's roots in one cut). By AI agents, Wed Nov 11 2026. No macro, syntax, notation, axiom, sorry.
-/
import Derived.Test.YtdhoackhjojobaaChecked
import GoSem.Claim
import GoSem.ClaimJoined
import GoSem.ClaimMapViews
import Derived.JoinedTies
import Derived.KernelRfl
namespace Go.Proofs.Ytdhoackhjojobaa
/- THE CELL 'sum', in the pinned program and in every row, IS THE sha256 OF THE DUMP (.gsa) THAT YtdhoackhjojobaaProg.lean LOADS. Nothing in Lean hashes anything: it is a label: what it is worth is what the hold of that sum in a sandbox is worth. -/
noncomputable def Try.pinned : Pinned := { name := "ytdhoackhjojobaa", sum := "f76a235867d3210aa518a9f9fb5ce3ec1fed767a9a0a7628bd4958e8ac2c8b99", checked := Try.checked }
namespace Rows
def none {H : Type} : Left H := { results := [], args := [] }

/-- 'fairlaw.UtfSays': WHATEVER THE INPUT: true; the input reads as it did. -/
def utfSaysSpec : ChangeSpec := { name := "utfSays", fn := fun _ => fun
  | [d1, d2, d3] => { results := [.lit (.bool true)], args := [d1, d2, d3] }
  | _ => none }
def utfSaysRow : OpenClaim := { program := "ytdhoackhjojobaa", sum := "f76a235867d3210aa518a9f9fb5ce3ec1fed767a9a0a7628bd4958e8ac2c8b99", func := "fairhand/fairlaw.UtfSays", spec := "utfSays", inPlace := ["internal/abi.NoEscape"], apart := false }
def UtfSaysSaid : Prop := utfSaysRow.holds Try.pinned (OpenSpec.ofChange utfSaysSpec)

/-- ITS FALSE NEIGHBOUR: 'it returns false'. Refute it at one input. -/
def utfSaysWrong : ChangeSpec := { name := "utfSays", fn := fun _ => fun
  | [d1, d2, d3] => { results := [.lit (.bool false)], args := [d1, d2, d3] }
  | _ => none }
def UtfSaysWrongFalsely : Prop := utfSaysRow.holds Try.pinned (OpenSpec.ofChange utfSaysWrong)

/-- 'fairkeep.UtfBack': WHATEVER THE INPUT: true; the input reads as it did. -/
def utfBackSpec : ChangeSpec := { name := "utfBack", fn := fun _ => fun
  | [d1, d2, d3] => { results := [.lit (.bool true)], args := [d1, d2, d3] }
  | _ => none }
def utfBackRow : OpenClaim := { program := "ytdhoackhjojobaa", sum := "f76a235867d3210aa518a9f9fb5ce3ec1fed767a9a0a7628bd4958e8ac2c8b99", func := "fairhand/fairkeep.UtfBack", spec := "utfBack", inPlace := ["internal/abi.NoEscape"], apart := false }
def UtfBackSaid : Prop := utfBackRow.holds Try.pinned (OpenSpec.ofChange utfBackSpec)

/-- ITS FALSE NEIGHBOUR: 'it returns false'. Refute it at one input. -/
def utfBackWrong : ChangeSpec := { name := "utfBack", fn := fun _ => fun
  | [d1, d2, d3] => { results := [.lit (.bool false)], args := [d1, d2, d3] }
  | _ => none }
def UtfBackWrongFalsely : Prop := utfBackRow.holds Try.pinned (OpenSpec.ofChange utfBackWrong)

/-- 'fairkeep.UtfOne': WHATEVER THE INPUT: true; the input reads as it did. -/
def utfOneSpec : ChangeSpec := { name := "utfOne", fn := fun _ => fun
  | [d] => { results := [.lit (.bool true)], args := [d] }
  | _ => none }
def utfOneRow : OpenClaim := { program := "ytdhoackhjojobaa", sum := "f76a235867d3210aa518a9f9fb5ce3ec1fed767a9a0a7628bd4958e8ac2c8b99", func := "fairhand/fairkeep.UtfOne", spec := "utfOne", inPlace := ["internal/abi.NoEscape"], apart := false }
def UtfOneSaid : Prop := utfOneRow.holds Try.pinned (OpenSpec.ofChange utfOneSpec)

/-- ITS FALSE NEIGHBOUR: 'it returns false'. Refute it at one input. -/
def utfOneWrong : ChangeSpec := { name := "utfOne", fn := fun _ => fun
  | [d] => { results := [.lit (.bool false)], args := [d] }
  | _ => none }
def UtfOneWrongFalsely : Prop := utfOneRow.holds Try.pinned (OpenSpec.ofChange utfOneWrong)

/-- 'fairkeep.UtfOrder': WHATEVER THE INPUT: true; the input reads as it did. -/
def utfOrderSpec : ChangeSpec := { name := "utfOrder", fn := fun _ => fun
  | [d1, d2] => { results := [.lit (.bool true)], args := [d1, d2] }
  | _ => none }
def utfOrderRow : OpenClaim := { program := "ytdhoackhjojobaa", sum := "f76a235867d3210aa518a9f9fb5ce3ec1fed767a9a0a7628bd4958e8ac2c8b99", func := "fairhand/fairkeep.UtfOrder", spec := "utfOrder", apart := false }
def UtfOrderSaid : Prop := utfOrderRow.holds Try.pinned (OpenSpec.ofChange utfOrderSpec)

/-- ITS FALSE NEIGHBOUR: 'it returns false'. Refute it at one input. -/
def utfOrderWrong : ChangeSpec := { name := "utfOrder", fn := fun _ => fun
  | [d1, d2] => { results := [.lit (.bool false)], args := [d1, d2] }
  | _ => none }
def UtfOrderWrongFalsely : Prop := utfOrderRow.holds Try.pinned (OpenSpec.ofChange utfOrderWrong)

/-- 'fairkeep.UtfSync': WHATEVER THE INPUT: true; the input reads as it did. -/
def utfSyncSpec : ChangeSpec := { name := "utfSync", fn := fun _ => fun
  | [d1, d2] => { results := [.lit (.bool true)], args := [d1, d2] }
  | _ => none }
def utfSyncRow : OpenClaim := { program := "ytdhoackhjojobaa", sum := "f76a235867d3210aa518a9f9fb5ce3ec1fed767a9a0a7628bd4958e8ac2c8b99", func := "fairhand/fairkeep.UtfSync", spec := "utfSync", inPlace := ["internal/abi.NoEscape"], apart := false }
def UtfSyncSaid : Prop := utfSyncRow.holds Try.pinned (OpenSpec.ofChange utfSyncSpec)

/-- ITS FALSE NEIGHBOUR: 'it returns false'. Refute it at one input. -/
def utfSyncWrong : ChangeSpec := { name := "utfSync", fn := fun _ => fun
  | [d1, d2] => { results := [.lit (.bool false)], args := [d1, d2] }
  | _ => none }
def UtfSyncWrongFalsely : Prop := utfSyncRow.holds Try.pinned (OpenSpec.ofChange utfSyncWrong)

/- THE SECOND FORM. 'bulk': how many values and letters a reading holds, each counted each time it is reached (what is shared counts as often as it is met; a slice's spare places count too). A statement '..UptoSaid' is the law's where the arguments, and the package variables that the reading takes, are together of bulk at most 1048576: NARROWER than '..Said'. Prove '..Said' where nothing that the law and all that it calls make is longer than what came in: it says more and counts as full. Else prove '..UptoSaid'. A law counts once. -/
mutual
def uptoBulk {H : Type} : DataW H → Nat
  | .lit (.string bytes) => bytes.length + 1
  | .lit _ => 1
  | .nil => 1
  | .ptr d => uptoBulk d + 1
  | .slice elems spare => uptoBulkAll elems + uptoBulkAll spare + 1
  | .agg parts => uptoBulkAll parts + 1
  | .iface _ d => uptoBulk d + 1
  | .map entries => uptoBulkEntries entries + 1
  | .held _ => 1
def uptoBulkAll {H : Type} : List (DataW H) → Nat
  | [] => 0
  | d :: r => uptoBulk d + uptoBulkAll r
def uptoBulkEntries {H : Type} : List (Lit × DataW H) → Nat
  | [] => 0
  | x :: r => uptoBulkEntry x + uptoBulkEntries r
def uptoBulkEntry {H : Type} : Lit × DataW H → Nat
  | (.string bytes, d) => bytes.length + uptoBulk d + 1
  | (_, d) => uptoBulk d + 1
 end
def uptoSmall : (H : Type) → List (DataW H) → Bool := fun _ ds => decide (uptoBulkAll ds ≤ 1048576)
def OpenSpec.upto (s : _root_.Go.ChangeSpec) : _root_.Go.OpenSpec := { _root_.Go.OpenSpec.ofChange s with cond := some uptoSmall }

/-- 'fairlaw.UtfSays', WHERE WHAT IT READS IS OF BULK AT MOST 1048576: true; the input reads as it did. -/
def utfSaysUptoRow : OpenClaim := { program := "ytdhoackhjojobaa", sum := "f76a235867d3210aa518a9f9fb5ce3ec1fed767a9a0a7628bd4958e8ac2c8b99", func := "fairhand/fairlaw.UtfSays", spec := "utfSays", inPlace := ["internal/abi.NoEscape"], apart := false, narrowed := true }
def UtfSaysUptoSaid : Prop := utfSaysUptoRow.holds Try.pinned (OpenSpec.upto utfSaysSpec)

/-- 'fairkeep.UtfBack', WHERE WHAT IT READS IS OF BULK AT MOST 1048576: true; the input reads as it did. -/
def utfBackUptoRow : OpenClaim := { program := "ytdhoackhjojobaa", sum := "f76a235867d3210aa518a9f9fb5ce3ec1fed767a9a0a7628bd4958e8ac2c8b99", func := "fairhand/fairkeep.UtfBack", spec := "utfBack", inPlace := ["internal/abi.NoEscape"], apart := false, narrowed := true }
def UtfBackUptoSaid : Prop := utfBackUptoRow.holds Try.pinned (OpenSpec.upto utfBackSpec)

/-- 'fairkeep.UtfOne', WHERE WHAT IT READS IS OF BULK AT MOST 1048576: true; the input reads as it did. -/
def utfOneUptoRow : OpenClaim := { program := "ytdhoackhjojobaa", sum := "f76a235867d3210aa518a9f9fb5ce3ec1fed767a9a0a7628bd4958e8ac2c8b99", func := "fairhand/fairkeep.UtfOne", spec := "utfOne", inPlace := ["internal/abi.NoEscape"], apart := false, narrowed := true }
def UtfOneUptoSaid : Prop := utfOneUptoRow.holds Try.pinned (OpenSpec.upto utfOneSpec)

/-- 'fairkeep.UtfOrder', WHERE WHAT IT READS IS OF BULK AT MOST 1048576: true; the input reads as it did. -/
def utfOrderUptoRow : OpenClaim := { program := "ytdhoackhjojobaa", sum := "f76a235867d3210aa518a9f9fb5ce3ec1fed767a9a0a7628bd4958e8ac2c8b99", func := "fairhand/fairkeep.UtfOrder", spec := "utfOrder", apart := false, narrowed := true }
def UtfOrderUptoSaid : Prop := utfOrderUptoRow.holds Try.pinned (OpenSpec.upto utfOrderSpec)

/-- 'fairkeep.UtfSync', WHERE WHAT IT READS IS OF BULK AT MOST 1048576: true; the input reads as it did. -/
def utfSyncUptoRow : OpenClaim := { program := "ytdhoackhjojobaa", sum := "f76a235867d3210aa518a9f9fb5ce3ec1fed767a9a0a7628bd4958e8ac2c8b99", func := "fairhand/fairkeep.UtfSync", spec := "utfSync", inPlace := ["internal/abi.NoEscape"], apart := false, narrowed := true }
def UtfSyncUptoSaid : Prop := utfSyncUptoRow.holds Try.pinned (OpenSpec.upto utfSyncSpec)

end Rows
end Go.Proofs.Ytdhoackhjojobaa
