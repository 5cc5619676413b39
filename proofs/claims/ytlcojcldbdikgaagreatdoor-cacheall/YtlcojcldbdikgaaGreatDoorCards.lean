/-
  DERIVED. GIVEN WITH THE SEED: THE CARDS: each row of YtlcojcldbdikgaaGreatDoorRows.lean that lists a variable, with what it lists TIED to the program's text (the seventh form; the later family's looks); each row that meets fmt, with fmt's text TOLD by the authors' own Lean function (tested against real Go, not proved from fmt's source: count such statements apart). THE CARD IS WHAT COUNTS. Prove the row's statement (the work); the ties are given (YtlcojcldbdikgaaGreatDoorTie.lean); close each card by the builder's one call (the guide's Derived/Test/ToyasCard.lean, 'card_holds'). Laid BY PROGRAM, IN A SANDBOX (cutbox-door.mjs). By AI agents, Wed Nov 11 2026. No macro, syntax, notation, axiom, sorry.
-/
import Derived.Test.YtlcojcldbdikgaaGreatDoorRows
import GoSem.ClaimSeven
namespace Go.Proofs.YtlcojcldbdikgaaGreatDoor
namespace Rows

/-- THE TIED CARD OF 'lagoonlaw7.CacheAll'. -/
def cacheAllCard : Claim7 := { stood := { row := cacheAllRow, standIns := [], harness := (true, "cd178728738bf1d9697a0fe4c8c34d047ccdc822ce2236bb508812d3e3dbad42"), looks := true }, kinds := [], alts := [], laidByText := true, laidKinds := [.data], laidTests := true, laidLooks := .later }
def CacheAllCardSaid : Prop := Claim7.holds Tryz.pinned (.plain (OpenSpec.ofChange cacheAllSpec)) cacheAllCard

/-- THE SECOND FORM's CARD OF 'lagoonlaw7.CacheAll'. -/
def cacheAllUptoCard : Claim7 := { stood := { row := cacheAllUptoRow, standIns := [], harness := (true, "cd178728738bf1d9697a0fe4c8c34d047ccdc822ce2236bb508812d3e3dbad42"), looks := true }, kinds := [], alts := [], laidByText := true, laidKinds := [.data], laidTests := true, laidLooks := .later }
def CacheAllUptoCardSaid : Prop := Claim7.holds Tryz.pinned (.plain (OpenSpec.upto cacheAllSpec)) cacheAllUptoCard
end Rows
end Go.Proofs.YtlcojcldbdikgaaGreatDoor
