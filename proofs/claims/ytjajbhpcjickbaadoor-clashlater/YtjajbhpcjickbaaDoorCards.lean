/-
  DERIVED. GIVEN WITH THE SEED: THE CARDS: each row of YtjajbhpcjickbaaDoorRows.lean that lists a variable, with what it lists TIED to the program's text (the seventh form; the later family's looks); each row that meets fmt, with fmt's text TOLD by the authors' own Lean function (tested against real Go, not proved from fmt's source: count such statements apart). THE CARD IS WHAT COUNTS. Prove the row's statement (the work); the ties are given (YtjajbhpcjickbaaDoorTie.lean); close each card by the builder's one call (the guide's Derived/Test/ToyasCard.lean, 'card_holds'). Laid BY PROGRAM, IN A SANDBOX (cutbox-door.mjs). By AI agents, Wed Nov 11 2026. No macro, syntax, notation, axiom, sorry.
-/
import Derived.Test.YtjajbhpcjickbaaDoorRows
import GoSem.ClaimSeven
namespace Go.Proofs.YtjajbhpcjickbaaDoor
namespace Rows

/-- THE TIED CARD OF 'lagoonlaw16.ClashShown'. -/
def clashShownCard : Claim7 := { stood := { row := clashShownRow, standIns := [], harness := (true, "d2461eab87307b96abf25011497d04cd09101fea4ffdfc4d3eac608eb471e731"), looks := true }, kinds := [], alts := [], laidByText := true, laidKinds := [.data, .data, .data, .sentinel, .sentinel], laidTests := true, laidLooks := .later }
def ClashShownCardSaid : Prop := Claim7.holds Tryd.pinned (.plain (OpenSpec.ofChange clashShownSpec)) clashShownCard

/-- THE TIED CARD OF 'lagoonlaw16.ClashApart'. -/
def clashApartCard : Claim7 := { stood := { row := clashApartRow, standIns := [], harness := (true, "d2461eab87307b96abf25011497d04cd09101fea4ffdfc4d3eac608eb471e731"), looks := true }, kinds := [], alts := [], laidByText := true, laidKinds := [.data, .data, .data, .sentinel, .sentinel], laidTests := true, laidLooks := .later }
def ClashApartCardSaid : Prop := Claim7.holds Tryd.pinned (.plain (OpenSpec.ofChange clashApartSpec)) clashApartCard

/-- THE TIED CARD OF 'lagoonlaw16.ClashSplit'. -/
def clashSplitCard : Claim7 := { stood := { row := clashSplitRow, standIns := [], harness := (true, "d2461eab87307b96abf25011497d04cd09101fea4ffdfc4d3eac608eb471e731"), looks := true }, kinds := [], alts := [], laidByText := true, laidKinds := [.data, .data, .data, .sentinel, .sentinel], laidTests := true, laidLooks := .later }
def ClashSplitCardSaid : Prop := Claim7.holds Tryd.pinned (.plain (OpenSpec.ofChange clashSplitSpec)) clashSplitCard

/-- THE TIED CARD OF 'lagoonlaw16.ClashLater'. -/
def clashLaterCard : Claim7 := { stood := { row := clashLaterRow, standIns := [], harness := (true, "d2461eab87307b96abf25011497d04cd09101fea4ffdfc4d3eac608eb471e731"), looks := true }, kinds := [], alts := [], laidByText := true, laidKinds := [.data, .data, .data, .sentinel, .sentinel], laidTests := true, laidLooks := .later }
def ClashLaterCardSaid : Prop := Claim7.holds Tryd.pinned (.plain (OpenSpec.ofChange clashLaterSpec)) clashLaterCard

/-- THE SECOND FORM's CARD OF 'lagoonlaw16.ClashShown'. -/
def clashShownUptoCard : Claim7 := { stood := { row := clashShownUptoRow, standIns := [], harness := (true, "d2461eab87307b96abf25011497d04cd09101fea4ffdfc4d3eac608eb471e731"), looks := true }, kinds := [], alts := [], laidByText := true, laidKinds := [.data, .data, .data, .sentinel, .sentinel], laidTests := true, laidLooks := .later }
def ClashShownUptoCardSaid : Prop := Claim7.holds Tryd.pinned (.plain (OpenSpec.upto clashShownSpec)) clashShownUptoCard

/-- THE SECOND FORM's CARD OF 'lagoonlaw16.ClashApart'. -/
def clashApartUptoCard : Claim7 := { stood := { row := clashApartUptoRow, standIns := [], harness := (true, "d2461eab87307b96abf25011497d04cd09101fea4ffdfc4d3eac608eb471e731"), looks := true }, kinds := [], alts := [], laidByText := true, laidKinds := [.data, .data, .data, .sentinel, .sentinel], laidTests := true, laidLooks := .later }
def ClashApartUptoCardSaid : Prop := Claim7.holds Tryd.pinned (.plain (OpenSpec.upto clashApartSpec)) clashApartUptoCard

/-- THE SECOND FORM's CARD OF 'lagoonlaw16.ClashSplit'. -/
def clashSplitUptoCard : Claim7 := { stood := { row := clashSplitUptoRow, standIns := [], harness := (true, "d2461eab87307b96abf25011497d04cd09101fea4ffdfc4d3eac608eb471e731"), looks := true }, kinds := [], alts := [], laidByText := true, laidKinds := [.data, .data, .data, .sentinel, .sentinel], laidTests := true, laidLooks := .later }
def ClashSplitUptoCardSaid : Prop := Claim7.holds Tryd.pinned (.plain (OpenSpec.upto clashSplitSpec)) clashSplitUptoCard

/-- THE SECOND FORM's CARD OF 'lagoonlaw16.ClashLater'. -/
def clashLaterUptoCard : Claim7 := { stood := { row := clashLaterUptoRow, standIns := [], harness := (true, "d2461eab87307b96abf25011497d04cd09101fea4ffdfc4d3eac608eb471e731"), looks := true }, kinds := [], alts := [], laidByText := true, laidKinds := [.data, .data, .data, .sentinel, .sentinel], laidTests := true, laidLooks := .later }
def ClashLaterUptoCardSaid : Prop := Claim7.holds Tryd.pinned (.plain (OpenSpec.upto clashLaterSpec)) clashLaterUptoCard
end Rows
end Go.Proofs.YtjajbhpcjickbaaDoor
