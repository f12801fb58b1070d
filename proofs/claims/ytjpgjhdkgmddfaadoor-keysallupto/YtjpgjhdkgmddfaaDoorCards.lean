/-
  DERIVED. GIVEN WITH THE SEED: THE CARDS: each row of YtjpgjhdkgmddfaaDoorRows.lean that lists a variable, with what it lists TIED to the program's text (the seventh form; the later family's looks); each row that meets fmt, with fmt's text TOLD by the authors' own Lean function (tested against real Go, not proved from fmt's source: count such statements apart). THE CARD IS WHAT COUNTS. Prove the row's statement (the work); the ties are given (YtjpgjhdkgmddfaaDoorTie.lean); close each card by the builder's one call (the guide's Derived/Test/ToyasCard.lean, 'card_holds'). Laid BY PROGRAM, IN A SANDBOX (cutbox-door.mjs). By AI agents, Wed Nov 11 2026. No macro, syntax, notation, axiom, sorry.
-/
import Derived.Test.YtjpgjhdkgmddfaaDoorRows
import GoSem.ClaimSeven
namespace Go.Proofs.YtjpgjhdkgmddfaaDoor
namespace Rows

/-- THE TIED CARD OF 'fairlaw.KeysAll'. -/
def keysAllCard : Claim7 := { stood := { row := keysAllRow, standIns := [], harness := (true, "e19ee669c1935f98e04bf54838094474e57d602d4ffeccf9bcdcb31a6bab9df0"), looks := false }, kinds := [], alts := [], laidByText := true, laidKinds := [.data, .data, .data], laidTests := true, laidLooks := .later }
def KeysAllCardSaid : Prop := Claim7.holds Tryd.pinned (.plain (OpenSpec.ofChange keysAllSpec)) keysAllCard

/-- THE TIED CARD OF 'fairkeep.KeysBack'. -/
def keysBackCard : Claim7 := { stood := { row := keysBackRow, standIns := [], harness := (true, "e19ee669c1935f98e04bf54838094474e57d602d4ffeccf9bcdcb31a6bab9df0"), looks := false }, kinds := [], alts := [], laidByText := true, laidKinds := [.data, .data, .data], laidTests := true, laidLooks := .later }
def KeysBackCardSaid : Prop := Claim7.holds Tryd.pinned (.plain (OpenSpec.ofChange keysBackSpec)) keysBackCard

/-- THE TIED CARD OF 'fairkeep.KeysCount'. -/
def keysCountCard : Claim7 := { stood := { row := keysCountRow, standIns := [], harness := (true, "e19ee669c1935f98e04bf54838094474e57d602d4ffeccf9bcdcb31a6bab9df0"), looks := false }, kinds := [], alts := [], laidByText := true, laidKinds := [.data, .data, .data], laidTests := true, laidLooks := .later }
def KeysCountCardSaid : Prop := Claim7.holds Tryd.pinned (.plain (OpenSpec.ofChange keysCountSpec)) keysCountCard

/-- THE SECOND FORM's CARD OF 'fairlaw.KeysAll'. -/
def keysAllUptoCard : Claim7 := { stood := { row := keysAllUptoRow, standIns := [], harness := (true, "e19ee669c1935f98e04bf54838094474e57d602d4ffeccf9bcdcb31a6bab9df0"), looks := false }, kinds := [], alts := [], laidByText := true, laidKinds := [.data, .data, .data], laidTests := true, laidLooks := .later }
def KeysAllUptoCardSaid : Prop := Claim7.holds Tryd.pinned (.plain (OpenSpec.upto keysAllSpec)) keysAllUptoCard

/-- THE SECOND FORM's CARD OF 'fairkeep.KeysBack'. -/
def keysBackUptoCard : Claim7 := { stood := { row := keysBackUptoRow, standIns := [], harness := (true, "e19ee669c1935f98e04bf54838094474e57d602d4ffeccf9bcdcb31a6bab9df0"), looks := false }, kinds := [], alts := [], laidByText := true, laidKinds := [.data, .data, .data], laidTests := true, laidLooks := .later }
def KeysBackUptoCardSaid : Prop := Claim7.holds Tryd.pinned (.plain (OpenSpec.upto keysBackSpec)) keysBackUptoCard

/-- THE SECOND FORM's CARD OF 'fairkeep.KeysCount'. -/
def keysCountUptoCard : Claim7 := { stood := { row := keysCountUptoRow, standIns := [], harness := (true, "e19ee669c1935f98e04bf54838094474e57d602d4ffeccf9bcdcb31a6bab9df0"), looks := false }, kinds := [], alts := [], laidByText := true, laidKinds := [.data, .data, .data], laidTests := true, laidLooks := .later }
def KeysCountUptoCardSaid : Prop := Claim7.holds Tryd.pinned (.plain (OpenSpec.upto keysCountSpec)) keysCountUptoCard
end Rows
end Go.Proofs.YtjpgjhdkgmddfaaDoor
