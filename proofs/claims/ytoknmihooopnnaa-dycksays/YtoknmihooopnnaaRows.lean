/-
  No cell of these rows narrows 'for every input' (looked for: loops, veiled, ifaces, maps, wideKeys, modest, calm, conditions, laid).
  DERIVED. THE GIVEN ROWS OF THIS SEAT. 4 by the template 'for every input the law returns true; each argument reads behind the call as it read before'; 0 by the template 'total and deterministic' (their statements: YtoknmihooopnnaaTotals.lean).
  GIVEN WITH THE SEED: the statements are not yours to turn. If you find one false, say at which input.
  Laid BY PROGRAM, IN A SANDBOX (cutbox-rows.mjs): the forced cells as the released guide's own fill.sh prints them over the translation 00d61c2325f289ed… (all of the seat's roots in one cut). By AI agents, Wed Nov 11 2026. No macro, syntax, notation, axiom, sorry.
-/
import Derived.Test.YtoknmihooopnnaaChecked
import GoSem.Claim
import GoSem.ClaimJoined
import GoSem.ClaimMapViews
import Derived.JoinedTies
import Derived.KernelRfl
namespace Go.Proofs.Ytoknmihooopnnaa
/- THE CELL 'sum', in the pinned program and in every row, IS THE sha256 OF THE DUMP (.gsa) THAT YtoknmihooopnnaaProg.lean LOADS. Nothing in Lean hashes anything: it is a label: what it is worth is what the hold of that sum in a sandbox is worth. -/
noncomputable def Try.pinned : Pinned := { name := "ytoknmihooopnnaa", sum := "00d61c2325f289ed58b1a6d43e5e1786724b8c46c7705e18624b5c5b851137ed", checked := Try.checked }
namespace Rows
def none {H : Type} : Left H := { results := [], args := [] }

/-- 'fairlaw.DyckSays': WHATEVER THE INPUT: true; the input reads as it did. -/
def dyckSaysSpec : ChangeSpec := { name := "dyckSays", fn := fun _ => fun
  | [d1, d2] => { results := [.lit (.bool true)], args := [d1, d2] }
  | _ => none }
def dyckSaysRow : OpenClaim := { program := "ytoknmihooopnnaa", sum := "00d61c2325f289ed58b1a6d43e5e1786724b8c46c7705e18624b5c5b851137ed", func := "fairhand/fairlaw.DyckSays", spec := "dyckSays", apart := false }
def DyckSaysSaid : Prop := dyckSaysRow.holds Try.pinned (OpenSpec.ofChange dyckSaysSpec)

/-- ITS FALSE NEIGHBOUR: 'it returns false'. Refute it at one input. -/
def dyckSaysWrong : ChangeSpec := { name := "dyckSays", fn := fun _ => fun
  | [d1, d2] => { results := [.lit (.bool false)], args := [d1, d2] }
  | _ => none }
def DyckSaysWrongFalsely : Prop := dyckSaysRow.holds Try.pinned (OpenSpec.ofChange dyckSaysWrong)

/-- 'fairkeep.DyckPairs': WHATEVER THE INPUT: true; the input reads as it did. -/
def dyckPairsSpec : ChangeSpec := { name := "dyckPairs", fn := fun _ => fun
  | [d] => { results := [.lit (.bool true)], args := [d] }
  | _ => none }
def dyckPairsRow : OpenClaim := { program := "ytoknmihooopnnaa", sum := "00d61c2325f289ed58b1a6d43e5e1786724b8c46c7705e18624b5c5b851137ed", func := "fairhand/fairkeep.DyckPairs", spec := "dyckPairs", apart := false }
def DyckPairsSaid : Prop := dyckPairsRow.holds Try.pinned (OpenSpec.ofChange dyckPairsSpec)

/-- ITS FALSE NEIGHBOUR: 'it returns false'. Refute it at one input. -/
def dyckPairsWrong : ChangeSpec := { name := "dyckPairs", fn := fun _ => fun
  | [d] => { results := [.lit (.bool false)], args := [d] }
  | _ => none }
def DyckPairsWrongFalsely : Prop := dyckPairsRow.holds Try.pinned (OpenSpec.ofChange dyckPairsWrong)

/-- 'fairkeep.DyckNests': WHATEVER THE INPUT: true; the input reads as it did. -/
def dyckNestsSpec : ChangeSpec := { name := "dyckNests", fn := fun _ => fun
  | [d] => { results := [.lit (.bool true)], args := [d] }
  | _ => none }
def dyckNestsRow : OpenClaim := { program := "ytoknmihooopnnaa", sum := "00d61c2325f289ed58b1a6d43e5e1786724b8c46c7705e18624b5c5b851137ed", func := "fairhand/fairkeep.DyckNests", spec := "dyckNests", apart := false }
def DyckNestsSaid : Prop := dyckNestsRow.holds Try.pinned (OpenSpec.ofChange dyckNestsSpec)

/-- ITS FALSE NEIGHBOUR: 'it returns false'. Refute it at one input. -/
def dyckNestsWrong : ChangeSpec := { name := "dyckNests", fn := fun _ => fun
  | [d] => { results := [.lit (.bool false)], args := [d] }
  | _ => none }
def DyckNestsWrongFalsely : Prop := dyckNestsRow.holds Try.pinned (OpenSpec.ofChange dyckNestsWrong)

/-- 'fairkeep.DyckWords': WHATEVER THE INPUT: true; the input reads as it did. -/
def dyckWordsSpec : ChangeSpec := { name := "dyckWords", fn := fun _ => fun
  | [d1, d2] => { results := [.lit (.bool true)], args := [d1, d2] }
  | _ => none }
def dyckWordsRow : OpenClaim := { program := "ytoknmihooopnnaa", sum := "00d61c2325f289ed58b1a6d43e5e1786724b8c46c7705e18624b5c5b851137ed", func := "fairhand/fairkeep.DyckWords", spec := "dyckWords", apart := false }
def DyckWordsSaid : Prop := dyckWordsRow.holds Try.pinned (OpenSpec.ofChange dyckWordsSpec)

/-- ITS FALSE NEIGHBOUR: 'it returns false'. Refute it at one input. -/
def dyckWordsWrong : ChangeSpec := { name := "dyckWords", fn := fun _ => fun
  | [d1, d2] => { results := [.lit (.bool false)], args := [d1, d2] }
  | _ => none }
def DyckWordsWrongFalsely : Prop := dyckWordsRow.holds Try.pinned (OpenSpec.ofChange dyckWordsWrong)

/- THE SECOND FORM. 'bulk': how many values and letters a reading holds, each counted each time it is reached (what is shared counts as often as it is met; a slice's spare places count too). A statement '..UptoSaid' is the law's where the arguments, and the package variables that the reading takes, are together of bulk at most 1048576: NARROWER than '..Said'. Prove '..Said' where nothing that the law and all that it calls make is longer than what came in: it says more and counts as full. Else prove '..UptoSaid'. A law counts once. -/
mutual
def uptoBulk {H : Type} : DataW H → Nat
  | .lit (.string bytes) => bytes.length + 1
  | .lit _ => 1
  | .nil => 1
  | .ptr d => uptoBulk d + 1
  | .slice elems spare => uptoBulkAll elems + uptoBulkAll spare + 1
  | .agg parts => uptoBulkAll parts + 1
  | .iface _ d => uptoBulk d + 1
  | .map entries => uptoBulkEntries entries + 1
  | .held _ => 1
def uptoBulkAll {H : Type} : List (DataW H) → Nat
  | [] => 0
  | d :: r => uptoBulk d + uptoBulkAll r
def uptoBulkEntries {H : Type} : List (Lit × DataW H) → Nat
  | [] => 0
  | x :: r => uptoBulkEntry x + uptoBulkEntries r
def uptoBulkEntry {H : Type} : Lit × DataW H → Nat
  | (.string bytes, d) => bytes.length + uptoBulk d + 1
  | (_, d) => uptoBulk d + 1
 end
def uptoSmall : (H : Type) → List (DataW H) → Bool := fun _ ds => decide (uptoBulkAll ds ≤ 1048576)
def OpenSpec.upto (s : _root_.Go.ChangeSpec) : _root_.Go.OpenSpec := { _root_.Go.OpenSpec.ofChange s with cond := some uptoSmall }

/-- 'fairlaw.DyckSays', WHERE WHAT IT READS IS OF BULK AT MOST 1048576: true; the input reads as it did. -/
def dyckSaysUptoRow : OpenClaim := { program := "ytoknmihooopnnaa", sum := "00d61c2325f289ed58b1a6d43e5e1786724b8c46c7705e18624b5c5b851137ed", func := "fairhand/fairlaw.DyckSays", spec := "dyckSays", apart := false, narrowed := true }
def DyckSaysUptoSaid : Prop := dyckSaysUptoRow.holds Try.pinned (OpenSpec.upto dyckSaysSpec)

/-- 'fairkeep.DyckPairs', WHERE WHAT IT READS IS OF BULK AT MOST 1048576: true; the input reads as it did. -/
def dyckPairsUptoRow : OpenClaim := { program := "ytoknmihooopnnaa", sum := "00d61c2325f289ed58b1a6d43e5e1786724b8c46c7705e18624b5c5b851137ed", func := "fairhand/fairkeep.DyckPairs", spec := "dyckPairs", apart := false, narrowed := true }
def DyckPairsUptoSaid : Prop := dyckPairsUptoRow.holds Try.pinned (OpenSpec.upto dyckPairsSpec)

/-- 'fairkeep.DyckNests', WHERE WHAT IT READS IS OF BULK AT MOST 1048576: true; the input reads as it did. -/
def dyckNestsUptoRow : OpenClaim := { program := "ytoknmihooopnnaa", sum := "00d61c2325f289ed58b1a6d43e5e1786724b8c46c7705e18624b5c5b851137ed", func := "fairhand/fairkeep.DyckNests", spec := "dyckNests", apart := false, narrowed := true }
def DyckNestsUptoSaid : Prop := dyckNestsUptoRow.holds Try.pinned (OpenSpec.upto dyckNestsSpec)

/-- 'fairkeep.DyckWords', WHERE WHAT IT READS IS OF BULK AT MOST 1048576: true; the input reads as it did. -/
def dyckWordsUptoRow : OpenClaim := { program := "ytoknmihooopnnaa", sum := "00d61c2325f289ed58b1a6d43e5e1786724b8c46c7705e18624b5c5b851137ed", func := "fairhand/fairkeep.DyckWords", spec := "dyckWords", apart := false, narrowed := true }
def DyckWordsUptoSaid : Prop := dyckWordsUptoRow.holds Try.pinned (OpenSpec.upto dyckWordsSpec)

end Rows
end Go.Proofs.Ytoknmihooopnnaa
