/-
  DERIVED. GIVEN WITH THE SEED: THE CARDS: each row of YthhakekbffembaaGreatDoorRows.lean that lists a variable, with what it lists TIED to the program's text (the seventh form; the later family's looks); each row that meets fmt, with fmt's text TOLD by the authors' own Lean function (tested against real Go, not proved from fmt's source: count such statements apart). THE CARD IS WHAT COUNTS. Prove the row's statement (the work); the ties are given (YthhakekbffembaaGreatDoorTie.lean); close each card by the builder's one call (the guide's Derived/Test/ToyasCard.lean, 'card_holds'). Laid BY PROGRAM, IN A SANDBOX (cutbox-door.mjs). By AI agents, Wed Nov 11 2026. No macro, syntax, notation, axiom, sorry.
-/
import Derived.Test.YthhakekbffembaaGreatDoorRows
import GoSem.ClaimSeven
namespace Go.Proofs.YthhakekbffembaaGreatDoor
namespace Rows

/-- THE TIED CARD OF 'lagoonlaw18.ViewAll'. -/
def viewAllCard : Claim7 := { stood := { row := viewAllRow, standIns := [], harness := (true, "ef065959896b6d96ad8a504e301c7883e9f8f4824cf8f33dd98cdd01ef0323a1"), looks := true }, kinds := [], alts := [], laidByText := true, laidKinds := [.data, .data, .data, .sentinel, .sentinel], laidTests := true, laidLooks := .later }
def ViewAllCardSaid : Prop := Claim7.holds Tryz.pinned (.plain (OpenSpec.ofChange viewAllSpec)) viewAllCard

/-- THE TIED CARD OF 'lagoonlaw18.ViewWalk'. -/
def viewWalkCard : Claim7 := { stood := { row := viewWalkRow, standIns := [], harness := (true, "ef065959896b6d96ad8a504e301c7883e9f8f4824cf8f33dd98cdd01ef0323a1"), looks := true }, kinds := [], alts := [], laidByText := true, laidKinds := [.data, .data, .data, .sentinel, .sentinel], laidTests := true, laidLooks := .later }
def ViewWalkCardSaid : Prop := Claim7.holds Tryz.pinned (.plain (OpenSpec.ofChange viewWalkSpec)) viewWalkCard

/-- THE TIED CARD OF 'lagoonlaw18.ViewNone'. -/
def viewNoneCard : Claim7 := { stood := { row := viewNoneRow, standIns := [], harness := (true, "ef065959896b6d96ad8a504e301c7883e9f8f4824cf8f33dd98cdd01ef0323a1"), looks := true }, kinds := [], alts := [], laidByText := true, laidKinds := [.data, .data, .data, .sentinel, .sentinel], laidTests := true, laidLooks := .later }
def ViewNoneCardSaid : Prop := Claim7.holds Tryz.pinned (.plain (OpenSpec.ofChange viewNoneSpec)) viewNoneCard

/-- THE SECOND FORM's CARD OF 'lagoonlaw18.ViewAll'. -/
def viewAllUptoCard : Claim7 := { stood := { row := viewAllUptoRow, standIns := [], harness := (true, "ef065959896b6d96ad8a504e301c7883e9f8f4824cf8f33dd98cdd01ef0323a1"), looks := true }, kinds := [], alts := [], laidByText := true, laidKinds := [.data, .data, .data, .sentinel, .sentinel], laidTests := true, laidLooks := .later }
def ViewAllUptoCardSaid : Prop := Claim7.holds Tryz.pinned (.plain (OpenSpec.upto viewAllSpec)) viewAllUptoCard

/-- THE SECOND FORM's CARD OF 'lagoonlaw18.ViewWalk'. -/
def viewWalkUptoCard : Claim7 := { stood := { row := viewWalkUptoRow, standIns := [], harness := (true, "ef065959896b6d96ad8a504e301c7883e9f8f4824cf8f33dd98cdd01ef0323a1"), looks := true }, kinds := [], alts := [], laidByText := true, laidKinds := [.data, .data, .data, .sentinel, .sentinel], laidTests := true, laidLooks := .later }
def ViewWalkUptoCardSaid : Prop := Claim7.holds Tryz.pinned (.plain (OpenSpec.upto viewWalkSpec)) viewWalkUptoCard

/-- THE SECOND FORM's CARD OF 'lagoonlaw18.ViewNone'. -/
def viewNoneUptoCard : Claim7 := { stood := { row := viewNoneUptoRow, standIns := [], harness := (true, "ef065959896b6d96ad8a504e301c7883e9f8f4824cf8f33dd98cdd01ef0323a1"), looks := true }, kinds := [], alts := [], laidByText := true, laidKinds := [.data, .data, .data, .sentinel, .sentinel], laidTests := true, laidLooks := .later }
def ViewNoneUptoCardSaid : Prop := Claim7.holds Tryz.pinned (.plain (OpenSpec.upto viewNoneSpec)) viewNoneUptoCard
end Rows
end Go.Proofs.YthhakekbffembaaGreatDoor
