/-
  DERIVED. GIVEN WITH THE SEED: THE CARDS: each row of YtlmnhnimneimkaaDoorRows.lean that lists a variable, with what it lists TIED to the program's text (the seventh form; the later family's looks); each row that meets fmt, with fmt's text TOLD by the authors' own Lean function (tested against real Go, not proved from fmt's source: count such statements apart). THE CARD IS WHAT COUNTS. Prove the row's statement (the work); the ties are given (YtlmnhnimneimkaaDoorTie.lean); close each card by the builder's one call (the guide's Derived/Test/ToyasCard.lean, 'card_holds'). Laid BY PROGRAM, IN A SANDBOX (cutbox-door.mjs). By AI agents, Wed Nov 11 2026. No macro, syntax, notation, axiom, sorry.
-/
import Derived.Test.YtlmnhnimneimkaaDoorRows
import GoSem.ClaimSeven
namespace Go.Proofs.YtlmnhnimneimkaaDoor
namespace Rows

/-- THE TIED CARD OF 'lagoonlaw2.CrcParts'. -/
def crcPartsCard : Claim7 := { stood := { row := crcPartsRow, standIns := [], harness := (true, "59b337baeb518e1a631498a3f7c68090b8bccc798e9d81cce1f8e2937699470f"), looks := false }, kinds := [], alts := [], laidByText := true, laidKinds := [.data], laidTests := true, laidLooks := .later }
def CrcPartsCardSaid : Prop := Claim7.holds Tryd.pinned (.plain (OpenSpec.ofChange crcPartsSpec)) crcPartsCard

/-- THE TIED CARD OF 'lagoonlaw2.CrcFrame'. -/
def crcFrameCard : Claim7 := { stood := { row := crcFrameRow, standIns := [], harness := (true, "59b337baeb518e1a631498a3f7c68090b8bccc798e9d81cce1f8e2937699470f"), looks := false }, kinds := [], alts := [], laidByText := true, laidKinds := [.data], laidTests := true, laidLooks := .later }
def CrcFrameCardSaid : Prop := Claim7.holds Tryd.pinned (.plain (OpenSpec.ofChange crcFrameSpec)) crcFrameCard

/-- THE TIED CARD OF 'lagoonlaw2.CrcSpoilt'. -/
def crcSpoiltCard : Claim7 := { stood := { row := crcSpoiltRow, standIns := [], harness := (true, "59b337baeb518e1a631498a3f7c68090b8bccc798e9d81cce1f8e2937699470f"), looks := false }, kinds := [], alts := [], laidByText := true, laidKinds := [.data], laidTests := true, laidLooks := .later }
def CrcSpoiltCardSaid : Prop := Claim7.holds Tryd.pinned (.plain (OpenSpec.ofChange crcSpoiltSpec)) crcSpoiltCard

/-- THE TIED CARD OF 'lagoonlaw2.CrcBig'. -/
def crcBigCard : Claim7 := { stood := { row := crcBigRow, standIns := [], harness := (true, "59b337baeb518e1a631498a3f7c68090b8bccc798e9d81cce1f8e2937699470f"), looks := false }, kinds := [], alts := [], laidByText := true, laidKinds := [.data], laidTests := true, laidLooks := .later }
def CrcBigCardSaid : Prop := Claim7.holds Tryd.pinned (.plain (OpenSpec.ofChange crcBigSpec)) crcBigCard

/-- THE SECOND FORM's CARD OF 'lagoonlaw2.CrcParts'. -/
def crcPartsUptoCard : Claim7 := { stood := { row := crcPartsUptoRow, standIns := [], harness := (true, "59b337baeb518e1a631498a3f7c68090b8bccc798e9d81cce1f8e2937699470f"), looks := false }, kinds := [], alts := [], laidByText := true, laidKinds := [.data], laidTests := true, laidLooks := .later }
def CrcPartsUptoCardSaid : Prop := Claim7.holds Tryd.pinned (.plain (OpenSpec.upto crcPartsSpec)) crcPartsUptoCard

/-- THE SECOND FORM's CARD OF 'lagoonlaw2.CrcFrame'. -/
def crcFrameUptoCard : Claim7 := { stood := { row := crcFrameUptoRow, standIns := [], harness := (true, "59b337baeb518e1a631498a3f7c68090b8bccc798e9d81cce1f8e2937699470f"), looks := false }, kinds := [], alts := [], laidByText := true, laidKinds := [.data], laidTests := true, laidLooks := .later }
def CrcFrameUptoCardSaid : Prop := Claim7.holds Tryd.pinned (.plain (OpenSpec.upto crcFrameSpec)) crcFrameUptoCard

/-- THE SECOND FORM's CARD OF 'lagoonlaw2.CrcSpoilt'. -/
def crcSpoiltUptoCard : Claim7 := { stood := { row := crcSpoiltUptoRow, standIns := [], harness := (true, "59b337baeb518e1a631498a3f7c68090b8bccc798e9d81cce1f8e2937699470f"), looks := false }, kinds := [], alts := [], laidByText := true, laidKinds := [.data], laidTests := true, laidLooks := .later }
def CrcSpoiltUptoCardSaid : Prop := Claim7.holds Tryd.pinned (.plain (OpenSpec.upto crcSpoiltSpec)) crcSpoiltUptoCard

/-- THE SECOND FORM's CARD OF 'lagoonlaw2.CrcBig'. -/
def crcBigUptoCard : Claim7 := { stood := { row := crcBigUptoRow, standIns := [], harness := (true, "59b337baeb518e1a631498a3f7c68090b8bccc798e9d81cce1f8e2937699470f"), looks := false }, kinds := [], alts := [], laidByText := true, laidKinds := [.data], laidTests := true, laidLooks := .later }
def CrcBigUptoCardSaid : Prop := Claim7.holds Tryd.pinned (.plain (OpenSpec.upto crcBigSpec)) crcBigUptoCard
end Rows
end Go.Proofs.YtlmnhnimneimkaaDoor
