/-
  DERIVED. GIVEN WITH THE SEED: THE CARDS: each row of YtjggnmeeeofepaaDoorRows.lean that lists a variable, with what it lists TIED to the program's text (the seventh form; the later family's looks); each row that meets fmt, with fmt's text TOLD by the authors' own Lean function (tested against real Go, not proved from fmt's source: count such statements apart). THE CARD IS WHAT COUNTS. Prove the row's statement (the work); the ties are given (YtjggnmeeeofepaaDoorTie.lean); close each card by the builder's one call (the guide's Derived/Test/ToyasCard.lean, 'card_holds'). Laid BY PROGRAM, IN A SANDBOX (cutbox-door.mjs). By AI agents, Wed Nov 11 2026. No macro, syntax, notation, axiom, sorry.
-/
import Derived.Test.YtjggnmeeeofepaaDoorRows
import GoSem.ClaimSeven
namespace Go.Proofs.YtjggnmeeeofepaaDoor
namespace Rows

/-- THE TIED CARD OF 'lagoonlaw19.PathParse'. -/
def pathParseCard : Claim7 := { stood := { row := pathParseRow, standIns := [], harness := (true, "5d9936cfcf712942c973b4a24bf230a4c892f4f5ca955ab467127ad7ed895582"), looks := true }, kinds := [], alts := [], laidByText := true, laidKinds := [.data, .data, .data, .data, .sentinel, .sentinel, .pinned], laidTests := true, laidLooks := .later }
def PathParseCardSaid : Prop := Claim7.holds Tryd.pinned (.plain (OpenSpec.ofChange pathParseSpec)) pathParseCard

/-- THE TIED CARD OF 'lagoonlaw19.PathLong'. -/
def pathLongCard : Claim7 := { stood := { row := pathLongRow, standIns := [], harness := (true, "5d9936cfcf712942c973b4a24bf230a4c892f4f5ca955ab467127ad7ed895582"), looks := true }, kinds := [], alts := [], laidByText := true, laidKinds := [.data, .data, .data, .data, .sentinel, .sentinel, .pinned], laidTests := true, laidLooks := .later }
def PathLongCardSaid : Prop := Claim7.holds Tryd.pinned (.plain (OpenSpec.ofChange pathLongSpec)) pathLongCard

/-- THE SECOND FORM's CARD OF 'lagoonlaw19.PathParse'. -/
def pathParseUptoCard : Claim7 := { stood := { row := pathParseUptoRow, standIns := [], harness := (true, "5d9936cfcf712942c973b4a24bf230a4c892f4f5ca955ab467127ad7ed895582"), looks := true }, kinds := [], alts := [], laidByText := true, laidKinds := [.data, .data, .data, .data, .sentinel, .sentinel, .pinned], laidTests := true, laidLooks := .later }
def PathParseUptoCardSaid : Prop := Claim7.holds Tryd.pinned (.plain (OpenSpec.upto pathParseSpec)) pathParseUptoCard

/-- THE SECOND FORM's CARD OF 'lagoonlaw19.PathLong'. -/
def pathLongUptoCard : Claim7 := { stood := { row := pathLongUptoRow, standIns := [], harness := (true, "5d9936cfcf712942c973b4a24bf230a4c892f4f5ca955ab467127ad7ed895582"), looks := true }, kinds := [], alts := [], laidByText := true, laidKinds := [.data, .data, .data, .data, .sentinel, .sentinel, .pinned], laidTests := true, laidLooks := .later }
def PathLongUptoCardSaid : Prop := Claim7.holds Tryd.pinned (.plain (OpenSpec.upto pathLongSpec)) pathLongUptoCard
end Rows
end Go.Proofs.YtjggnmeeeofepaaDoor
