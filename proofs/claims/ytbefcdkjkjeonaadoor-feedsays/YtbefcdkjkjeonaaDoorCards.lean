/-
  DERIVED. GIVEN WITH THE SEED: THE CARDS: each row of YtbefcdkjkjeonaaDoorRows.lean that lists a variable, with what it lists TIED to the program's text (the seventh form; the later family's looks); each row that meets fmt, with fmt's text TOLD by the authors' own Lean function (tested against real Go, not proved from fmt's source: count such statements apart). THE CARD IS WHAT COUNTS. Prove the row's statement (the work); the ties are given (YtbefcdkjkjeonaaDoorTie.lean); close each card by the builder's one call (the guide's Derived/Test/ToyasCard.lean, 'card_holds'). Laid BY PROGRAM, IN A SANDBOX (cutbox-door.mjs). By AI agents, Wed Nov 11 2026. No macro, syntax, notation, axiom, sorry.
-/
import Derived.Test.YtbefcdkjkjeonaaDoorRows
import GoSem.ClaimSeven
namespace Go.Proofs.YtbefcdkjkjeonaaDoor
namespace Rows

/-- THE TIED CARD OF 'fairlaw.FeedSays'. -/
def feedSaysCard : Claim7 := { stood := { row := feedSaysRow, standIns := [], harness := (true, "7c43dd2212f37154605452c8a917be32528c566bce0e7972959ad21f9957cc12"), looks := false }, kinds := [], alts := [], laidByText := true, laidKinds := [.data, .pinned], laidTests := true, laidLooks := .later }
def FeedSaysCardSaid : Prop := Claim7.holds Tryd.pinned (.plain (OpenSpec.ofChange feedSaysSpec)) feedSaysCard

/-- THE TIED CARD OF 'fairkeep.FeedCuts'. -/
def feedCutsCard : Claim7 := { stood := { row := feedCutsRow, standIns := [], harness := (true, "7c43dd2212f37154605452c8a917be32528c566bce0e7972959ad21f9957cc12"), looks := false }, kinds := [], alts := [], laidByText := true, laidKinds := [.data, .pinned], laidTests := true, laidLooks := .later }
def FeedCutsCardSaid : Prop := Claim7.holds Tryd.pinned (.plain (OpenSpec.ofChange feedCutsSpec)) feedCutsCard

/-- THE TIED CARD OF 'fairkeep.FeedGood'. -/
def feedGoodCard : Claim7 := { stood := { row := feedGoodRow, standIns := [], harness := (true, "7c43dd2212f37154605452c8a917be32528c566bce0e7972959ad21f9957cc12"), looks := false }, kinds := [], alts := [], laidByText := true, laidKinds := [.data, .pinned], laidTests := true, laidLooks := .later }
def FeedGoodCardSaid : Prop := Claim7.holds Tryd.pinned (.plain (OpenSpec.ofChange feedGoodSpec)) feedGoodCard

/-- THE TIED CARD OF 'fairkeep.FeedWaits'. -/
def feedWaitsCard : Claim7 := { stood := { row := feedWaitsRow, standIns := [], harness := (true, "7c43dd2212f37154605452c8a917be32528c566bce0e7972959ad21f9957cc12"), looks := false }, kinds := [], alts := [], laidByText := true, laidKinds := [.data, .pinned], laidTests := true, laidLooks := .later }
def FeedWaitsCardSaid : Prop := Claim7.holds Tryd.pinned (.plain (OpenSpec.ofChange feedWaitsSpec)) feedWaitsCard

/-- THE SECOND FORM's CARD OF 'fairlaw.FeedSays'. -/
def feedSaysUptoCard : Claim7 := { stood := { row := feedSaysUptoRow, standIns := [], harness := (true, "7c43dd2212f37154605452c8a917be32528c566bce0e7972959ad21f9957cc12"), looks := false }, kinds := [], alts := [], laidByText := true, laidKinds := [.data, .pinned], laidTests := true, laidLooks := .later }
def FeedSaysUptoCardSaid : Prop := Claim7.holds Tryd.pinned (.plain (OpenSpec.upto feedSaysSpec)) feedSaysUptoCard

/-- THE SECOND FORM's CARD OF 'fairkeep.FeedCuts'. -/
def feedCutsUptoCard : Claim7 := { stood := { row := feedCutsUptoRow, standIns := [], harness := (true, "7c43dd2212f37154605452c8a917be32528c566bce0e7972959ad21f9957cc12"), looks := false }, kinds := [], alts := [], laidByText := true, laidKinds := [.data, .pinned], laidTests := true, laidLooks := .later }
def FeedCutsUptoCardSaid : Prop := Claim7.holds Tryd.pinned (.plain (OpenSpec.upto feedCutsSpec)) feedCutsUptoCard

/-- THE SECOND FORM's CARD OF 'fairkeep.FeedGood'. -/
def feedGoodUptoCard : Claim7 := { stood := { row := feedGoodUptoRow, standIns := [], harness := (true, "7c43dd2212f37154605452c8a917be32528c566bce0e7972959ad21f9957cc12"), looks := false }, kinds := [], alts := [], laidByText := true, laidKinds := [.data, .pinned], laidTests := true, laidLooks := .later }
def FeedGoodUptoCardSaid : Prop := Claim7.holds Tryd.pinned (.plain (OpenSpec.upto feedGoodSpec)) feedGoodUptoCard

/-- THE SECOND FORM's CARD OF 'fairkeep.FeedWaits'. -/
def feedWaitsUptoCard : Claim7 := { stood := { row := feedWaitsUptoRow, standIns := [], harness := (true, "7c43dd2212f37154605452c8a917be32528c566bce0e7972959ad21f9957cc12"), looks := false }, kinds := [], alts := [], laidByText := true, laidKinds := [.data, .pinned], laidTests := true, laidLooks := .later }
def FeedWaitsUptoCardSaid : Prop := Claim7.holds Tryd.pinned (.plain (OpenSpec.upto feedWaitsSpec)) feedWaitsUptoCard
end Rows
end Go.Proofs.YtbefcdkjkjeonaaDoor
