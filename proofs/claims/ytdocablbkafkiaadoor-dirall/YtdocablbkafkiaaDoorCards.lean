/-
  DERIVED. GIVEN WITH THE SEED: THE CARDS: each row of YtdocablbkafkiaaDoorRows.lean that lists a variable, with what it lists TIED to the program's text (the seventh form; the later family's looks); each row that meets fmt, with fmt's text TOLD by the authors' own Lean function (tested against real Go, not proved from fmt's source: count such statements apart). THE CARD IS WHAT COUNTS. Prove the row's statement (the work); the ties are given (YtdocablbkafkiaaDoorTie.lean); close each card by the builder's one call (the guide's Derived/Test/ToyasCard.lean, 'card_holds'). Laid BY PROGRAM, IN A SANDBOX (cutbox-door.mjs). By AI agents, Wed Nov 11 2026. No macro, syntax, notation, axiom, sorry.
-/
import Derived.Test.YtdocablbkafkiaaDoorRows
import GoSem.ClaimSeven
namespace Go.Proofs.YtdocablbkafkiaaDoor
namespace Rows

/-- THE TIED CARD OF 'lagoonlaw10.DirAll'. -/
def dirAllCard : Claim7 := { stood := { row := dirAllRow, standIns := [], harness := (true, "4dc386e72171147364521b051bbf2fad721c30d18356ee8540477fb98c155d52"), looks := true }, kinds := [], alts := [], laidByText := true, laidKinds := [.data], laidTests := true, laidLooks := .later }
def DirAllCardSaid : Prop := Claim7.holds Tryd.pinned (.plain (OpenSpec.ofChange dirAllSpec)) dirAllCard

/-- THE TIED CARD OF 'lagoonlaw10.DirLoad'. -/
def dirLoadCard : Claim7 := { stood := { row := dirLoadRow, standIns := [], harness := (true, "4dc386e72171147364521b051bbf2fad721c30d18356ee8540477fb98c155d52"), looks := true }, kinds := [], alts := [], laidByText := true, laidKinds := [.data], laidTests := true, laidLooks := .later }
def DirLoadCardSaid : Prop := Claim7.holds Tryd.pinned (.plain (OpenSpec.ofChange dirLoadSpec)) dirLoadCard

/-- THE TIED CARD OF 'lagoonlaw10.DirFull'. -/
def dirFullCard : Claim7 := { stood := { row := dirFullRow, standIns := [], harness := (true, "4dc386e72171147364521b051bbf2fad721c30d18356ee8540477fb98c155d52"), looks := true }, kinds := [], alts := [], laidByText := true, laidKinds := [.data], laidTests := true, laidLooks := .later }
def DirFullCardSaid : Prop := Claim7.holds Tryd.pinned (.plain (OpenSpec.ofChange dirFullSpec)) dirFullCard

/-- THE SECOND FORM's CARD OF 'lagoonlaw10.DirAll'. -/
def dirAllUptoCard : Claim7 := { stood := { row := dirAllUptoRow, standIns := [], harness := (true, "4dc386e72171147364521b051bbf2fad721c30d18356ee8540477fb98c155d52"), looks := true }, kinds := [], alts := [], laidByText := true, laidKinds := [.data], laidTests := true, laidLooks := .later }
def DirAllUptoCardSaid : Prop := Claim7.holds Tryd.pinned (.plain (OpenSpec.upto dirAllSpec)) dirAllUptoCard

/-- THE SECOND FORM's CARD OF 'lagoonlaw10.DirLoad'. -/
def dirLoadUptoCard : Claim7 := { stood := { row := dirLoadUptoRow, standIns := [], harness := (true, "4dc386e72171147364521b051bbf2fad721c30d18356ee8540477fb98c155d52"), looks := true }, kinds := [], alts := [], laidByText := true, laidKinds := [.data], laidTests := true, laidLooks := .later }
def DirLoadUptoCardSaid : Prop := Claim7.holds Tryd.pinned (.plain (OpenSpec.upto dirLoadSpec)) dirLoadUptoCard

/-- THE SECOND FORM's CARD OF 'lagoonlaw10.DirFull'. -/
def dirFullUptoCard : Claim7 := { stood := { row := dirFullUptoRow, standIns := [], harness := (true, "4dc386e72171147364521b051bbf2fad721c30d18356ee8540477fb98c155d52"), looks := true }, kinds := [], alts := [], laidByText := true, laidKinds := [.data], laidTests := true, laidLooks := .later }
def DirFullUptoCardSaid : Prop := Claim7.holds Tryd.pinned (.plain (OpenSpec.upto dirFullSpec)) dirFullUptoCard
end Rows
end Go.Proofs.YtdocablbkafkiaaDoor
