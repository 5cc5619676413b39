/-
  DERIVED. GIVEN WITH THE SEED: THE CARDS: each row of YtcchhalmlkdepaaGreatDoorRows.lean that lists a variable, with what it lists TIED to the program's text (the seventh form; the later family's looks); each row that meets fmt, with fmt's text TOLD by the authors' own Lean function (tested against real Go, not proved from fmt's source: count such statements apart). THE CARD IS WHAT COUNTS. Prove the row's statement (the work); the ties are given (YtcchhalmlkdepaaGreatDoorTie.lean); close each card by the builder's one call (the guide's Derived/Test/ToyasCard.lean, 'card_holds'). Laid BY PROGRAM, IN A SANDBOX (cutbox-door.mjs). By AI agents, Wed Nov 11 2026. No macro, syntax, notation, axiom, sorry.
-/
import Derived.Test.YtcchhalmlkdepaaGreatDoorRows
import GoSem.ClaimSeven
namespace Go.Proofs.YtcchhalmlkdepaaGreatDoor
namespace Rows

/-- THE TIED CARD OF 'lagoonlaw6.WalCommits'. -/
def walCommitsCard : Claim7 := { stood := { row := walCommitsRow, standIns := [], harness := (true, "cfff6473a90480ea30ad6dfae54d39cf58c2278a4b8ee2fe229e17e082dbc31b"), looks := false }, kinds := [], alts := [], laidByText := true, laidKinds := [.data], laidTests := true, laidLooks := .later }
def WalCommitsCardSaid : Prop := Claim7.holds Tryz.pinned (.plain (OpenSpec.ofChange walCommitsSpec)) walCommitsCard

/-- THE TIED CARD OF 'lagoonlaw6.WalFormat'. -/
def walFormatCard : Claim7 := { stood := { row := walFormatRow, standIns := [], harness := (true, "cfff6473a90480ea30ad6dfae54d39cf58c2278a4b8ee2fe229e17e082dbc31b"), looks := false }, kinds := [], alts := [], laidByText := true, laidKinds := [.data], laidTests := true, laidLooks := .later }
def WalFormatCardSaid : Prop := Claim7.holds Tryz.pinned (.plain (OpenSpec.ofChange walFormatSpec)) walFormatCard

/-- THE TIED CARD OF 'lagoonlaw6.WalWhole'. -/
def walWholeCard : Claim7 := { stood := { row := walWholeRow, standIns := [], harness := (true, "cfff6473a90480ea30ad6dfae54d39cf58c2278a4b8ee2fe229e17e082dbc31b"), looks := false }, kinds := [], alts := [], laidByText := true, laidKinds := [.data], laidTests := true, laidLooks := .later }
def WalWholeCardSaid : Prop := Claim7.holds Tryz.pinned (.plain (OpenSpec.ofChange walWholeSpec)) walWholeCard

/-- THE SECOND FORM's CARD OF 'lagoonlaw6.WalCommits'. -/
def walCommitsUptoCard : Claim7 := { stood := { row := walCommitsUptoRow, standIns := [], harness := (true, "cfff6473a90480ea30ad6dfae54d39cf58c2278a4b8ee2fe229e17e082dbc31b"), looks := false }, kinds := [], alts := [], laidByText := true, laidKinds := [.data], laidTests := true, laidLooks := .later }
def WalCommitsUptoCardSaid : Prop := Claim7.holds Tryz.pinned (.plain (OpenSpec.upto walCommitsSpec)) walCommitsUptoCard

/-- THE SECOND FORM's CARD OF 'lagoonlaw6.WalFormat'. -/
def walFormatUptoCard : Claim7 := { stood := { row := walFormatUptoRow, standIns := [], harness := (true, "cfff6473a90480ea30ad6dfae54d39cf58c2278a4b8ee2fe229e17e082dbc31b"), looks := false }, kinds := [], alts := [], laidByText := true, laidKinds := [.data], laidTests := true, laidLooks := .later }
def WalFormatUptoCardSaid : Prop := Claim7.holds Tryz.pinned (.plain (OpenSpec.upto walFormatSpec)) walFormatUptoCard

/-- THE SECOND FORM's CARD OF 'lagoonlaw6.WalWhole'. -/
def walWholeUptoCard : Claim7 := { stood := { row := walWholeUptoRow, standIns := [], harness := (true, "cfff6473a90480ea30ad6dfae54d39cf58c2278a4b8ee2fe229e17e082dbc31b"), looks := false }, kinds := [], alts := [], laidByText := true, laidKinds := [.data], laidTests := true, laidLooks := .later }
def WalWholeUptoCardSaid : Prop := Claim7.holds Tryz.pinned (.plain (OpenSpec.upto walWholeSpec)) walWholeUptoCard
end Rows
end Go.Proofs.YtcchhalmlkdepaaGreatDoor
