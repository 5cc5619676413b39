/-
  DERIVED. GIVEN WITH THE SEED: THE CARDS: each row of YtebdgcoandfocaaGreatDoorRows.lean that lists a variable, with what it lists TIED to the program's text (the seventh form; the later family's looks); each row that meets fmt, with fmt's text TOLD by the authors' own Lean function (tested against real Go, not proved from fmt's source: count such statements apart). THE CARD IS WHAT COUNTS. Prove the row's statement (the work); the ties are given (YtebdgcoandfocaaGreatDoorTie.lean); close each card by the builder's one call (the guide's Derived/Test/ToyasCard.lean, 'card_holds'). Laid BY PROGRAM, IN A SANDBOX (cutbox-door.mjs). By AI agents, Wed Nov 11 2026. No macro, syntax, notation, axiom, sorry.
-/
import Derived.Test.YtebdgcoandfocaaGreatDoorRows
import GoSem.ClaimSeven
namespace Go.Proofs.YtebdgcoandfocaaGreatDoor
namespace Rows

/-- THE TIED CARD OF 'lagoonlaw9.InodeAll'. -/
def inodeAllCard : Claim7 := { stood := { row := inodeAllRow, standIns := [], harness := (true, "cecb481315b4ba134393785ef4a1e65ebfd3e57123777f6bd7464960c2f9d831"), looks := true }, kinds := [], alts := [], laidByText := true, laidKinds := [.data, .data], laidTests := true, laidLooks := .later }
def InodeAllCardSaid : Prop := Claim7.holds Tryz.pinned (.plain (OpenSpec.ofChange inodeAllSpec)) inodeAllCard

/-- THE TIED CARD OF 'lagoonlaw9.InodeHoles'. -/
def inodeHolesCard : Claim7 := { stood := { row := inodeHolesRow, standIns := [], harness := (true, "cecb481315b4ba134393785ef4a1e65ebfd3e57123777f6bd7464960c2f9d831"), looks := true }, kinds := [], alts := [], laidByText := true, laidKinds := [.data, .data], laidTests := true, laidLooks := .later }
def InodeHolesCardSaid : Prop := Claim7.holds Tryz.pinned (.plain (OpenSpec.ofChange inodeHolesSpec)) inodeHolesCard

/-- THE TIED CARD OF 'lagoonlaw9.InodeEdges'. -/
def inodeEdgesCard : Claim7 := { stood := { row := inodeEdgesRow, standIns := [], harness := (true, "cecb481315b4ba134393785ef4a1e65ebfd3e57123777f6bd7464960c2f9d831"), looks := true }, kinds := [], alts := [], laidByText := true, laidKinds := [.data, .data], laidTests := true, laidLooks := .later }
def InodeEdgesCardSaid : Prop := Claim7.holds Tryz.pinned (.plain (OpenSpec.ofChange inodeEdgesSpec)) inodeEdgesCard

/-- THE SECOND FORM's CARD OF 'lagoonlaw9.InodeAll'. -/
def inodeAllUptoCard : Claim7 := { stood := { row := inodeAllUptoRow, standIns := [], harness := (true, "cecb481315b4ba134393785ef4a1e65ebfd3e57123777f6bd7464960c2f9d831"), looks := true }, kinds := [], alts := [], laidByText := true, laidKinds := [.data, .data], laidTests := true, laidLooks := .later }
def InodeAllUptoCardSaid : Prop := Claim7.holds Tryz.pinned (.plain (OpenSpec.upto inodeAllSpec)) inodeAllUptoCard

/-- THE SECOND FORM's CARD OF 'lagoonlaw9.InodeHoles'. -/
def inodeHolesUptoCard : Claim7 := { stood := { row := inodeHolesUptoRow, standIns := [], harness := (true, "cecb481315b4ba134393785ef4a1e65ebfd3e57123777f6bd7464960c2f9d831"), looks := true }, kinds := [], alts := [], laidByText := true, laidKinds := [.data, .data], laidTests := true, laidLooks := .later }
def InodeHolesUptoCardSaid : Prop := Claim7.holds Tryz.pinned (.plain (OpenSpec.upto inodeHolesSpec)) inodeHolesUptoCard

/-- THE SECOND FORM's CARD OF 'lagoonlaw9.InodeEdges'. -/
def inodeEdgesUptoCard : Claim7 := { stood := { row := inodeEdgesUptoRow, standIns := [], harness := (true, "cecb481315b4ba134393785ef4a1e65ebfd3e57123777f6bd7464960c2f9d831"), looks := true }, kinds := [], alts := [], laidByText := true, laidKinds := [.data, .data], laidTests := true, laidLooks := .later }
def InodeEdgesUptoCardSaid : Prop := Claim7.holds Tryz.pinned (.plain (OpenSpec.upto inodeEdgesSpec)) inodeEdgesUptoCard
end Rows
end Go.Proofs.YtebdgcoandfocaaGreatDoor
