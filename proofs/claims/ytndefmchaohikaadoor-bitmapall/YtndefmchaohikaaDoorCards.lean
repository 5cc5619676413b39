/-
  DERIVED. GIVEN WITH THE SEED: THE CARDS: each row of YtndefmchaohikaaDoorRows.lean that lists a variable, with what it lists TIED to the program's text (the seventh form; the later family's looks); each row that meets fmt, with fmt's text TOLD by the authors' own Lean function (tested against real Go, not proved from fmt's source: count such statements apart). THE CARD IS WHAT COUNTS. Prove the row's statement (the work); the ties are given (YtndefmchaohikaaDoorTie.lean); close each card by the builder's one call (the guide's Derived/Test/ToyasCard.lean, 'card_holds'). Laid BY PROGRAM, IN A SANDBOX (cutbox-door.mjs). By AI agents, Wed Nov 11 2026. No macro, syntax, notation, axiom, sorry.
-/
import Derived.Test.YtndefmchaohikaaDoorRows
import GoSem.ClaimSeven
namespace Go.Proofs.YtndefmchaohikaaDoor
namespace Rows

/-- THE TIED CARD OF 'lagoonlaw8.BitmapAll'. -/
def bitmapAllCard : Claim7 := { stood := { row := bitmapAllRow, standIns := [], harness := (true, "1e124fee6e04e2309eab48621ade007b8f94fc6fc87e924363501874e90e7416"), looks := false }, kinds := [], alts := [], laidByText := true, laidKinds := [.data], laidTests := true, laidLooks := .later }
def BitmapAllCardSaid : Prop := Claim7.holds Tryd.pinned (.plain (OpenSpec.ofChange bitmapAllSpec)) bitmapAllCard

/-- THE TIED CARD OF 'lagoonlaw8.BitmapLoad'. -/
def bitmapLoadCard : Claim7 := { stood := { row := bitmapLoadRow, standIns := [], harness := (true, "1e124fee6e04e2309eab48621ade007b8f94fc6fc87e924363501874e90e7416"), looks := false }, kinds := [], alts := [], laidByText := true, laidKinds := [.data], laidTests := true, laidLooks := .later }
def BitmapLoadCardSaid : Prop := Claim7.holds Tryd.pinned (.plain (OpenSpec.ofChange bitmapLoadSpec)) bitmapLoadCard

/-- THE TIED CARD OF 'lagoonlaw8.BitmapNone'. -/
def bitmapNoneCard : Claim7 := { stood := { row := bitmapNoneRow, standIns := [], harness := (true, "1e124fee6e04e2309eab48621ade007b8f94fc6fc87e924363501874e90e7416"), looks := false }, kinds := [], alts := [], laidByText := true, laidKinds := [.data], laidTests := true, laidLooks := .later }
def BitmapNoneCardSaid : Prop := Claim7.holds Tryd.pinned (.plain (OpenSpec.ofChange bitmapNoneSpec)) bitmapNoneCard

/-- THE SECOND FORM's CARD OF 'lagoonlaw8.BitmapAll'. -/
def bitmapAllUptoCard : Claim7 := { stood := { row := bitmapAllUptoRow, standIns := [], harness := (true, "1e124fee6e04e2309eab48621ade007b8f94fc6fc87e924363501874e90e7416"), looks := false }, kinds := [], alts := [], laidByText := true, laidKinds := [.data], laidTests := true, laidLooks := .later }
def BitmapAllUptoCardSaid : Prop := Claim7.holds Tryd.pinned (.plain (OpenSpec.upto bitmapAllSpec)) bitmapAllUptoCard

/-- THE SECOND FORM's CARD OF 'lagoonlaw8.BitmapLoad'. -/
def bitmapLoadUptoCard : Claim7 := { stood := { row := bitmapLoadUptoRow, standIns := [], harness := (true, "1e124fee6e04e2309eab48621ade007b8f94fc6fc87e924363501874e90e7416"), looks := false }, kinds := [], alts := [], laidByText := true, laidKinds := [.data], laidTests := true, laidLooks := .later }
def BitmapLoadUptoCardSaid : Prop := Claim7.holds Tryd.pinned (.plain (OpenSpec.upto bitmapLoadSpec)) bitmapLoadUptoCard

/-- THE SECOND FORM's CARD OF 'lagoonlaw8.BitmapNone'. -/
def bitmapNoneUptoCard : Claim7 := { stood := { row := bitmapNoneUptoRow, standIns := [], harness := (true, "1e124fee6e04e2309eab48621ade007b8f94fc6fc87e924363501874e90e7416"), looks := false }, kinds := [], alts := [], laidByText := true, laidKinds := [.data], laidTests := true, laidLooks := .later }
def BitmapNoneUptoCardSaid : Prop := Claim7.holds Tryd.pinned (.plain (OpenSpec.upto bitmapNoneSpec)) bitmapNoneUptoCard
end Rows
end Go.Proofs.YtndefmchaohikaaDoor
