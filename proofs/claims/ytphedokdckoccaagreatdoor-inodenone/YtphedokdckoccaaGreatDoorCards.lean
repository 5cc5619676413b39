/-
  DERIVED. GIVEN WITH THE SEED: THE CARDS: each row of YtphedokdckoccaaGreatDoorRows.lean that lists a variable, with what it lists TIED to the program's text (the seventh form; the later family's looks); each row that meets fmt, with fmt's text TOLD by the authors' own Lean function (tested against real Go, not proved from fmt's source: count such statements apart). THE CARD IS WHAT COUNTS. Prove the row's statement (the work); the ties are given (YtphedokdckoccaaGreatDoorTie.lean); close each card by the builder's one call (the guide's Derived/Test/ToyasCard.lean, 'card_holds'). Laid BY PROGRAM, IN A SANDBOX (cutbox-door.mjs). By AI agents, Wed Nov 11 2026. No macro, syntax, notation, axiom, sorry.
-/
import Derived.Test.YtphedokdckoccaaGreatDoorRows
import GoSem.ClaimSeven
namespace Go.Proofs.YtphedokdckoccaaGreatDoor
namespace Rows

/-- THE TIED CARD OF 'lagoonlaw6.WalCommits'. -/
def walCommitsCard : Claim7 := { stood := { row := walCommitsRow, standIns := [], harness := (true, "6290c98088592f1a622494b956730ae1ac396d543706dcc102938560aeed2c55"), looks := true }, kinds := [], alts := [], laidByText := true, laidKinds := [.data], laidTests := true, laidLooks := .later }
def WalCommitsCardSaid : Prop := Claim7.holds Tryz.pinned (.plain (OpenSpec.ofChange walCommitsSpec)) walCommitsCard

/-- THE TIED CARD OF 'lagoonlaw7.CacheAll'. -/
def cacheAllCard : Claim7 := { stood := { row := cacheAllRow, standIns := [], harness := (true, "6290c98088592f1a622494b956730ae1ac396d543706dcc102938560aeed2c55"), looks := true }, kinds := [], alts := [], laidByText := true, laidKinds := [.data], laidTests := true, laidLooks := .later }
def CacheAllCardSaid : Prop := Claim7.holds Tryz.pinned (.plain (OpenSpec.ofChange cacheAllSpec)) cacheAllCard

/-- THE TIED CARD OF 'lagoonlaw9.InodeCost'. -/
def inodeCostCard : Claim7 := { stood := { row := inodeCostRow, standIns := [], harness := (true, "6290c98088592f1a622494b956730ae1ac396d543706dcc102938560aeed2c55"), looks := true }, kinds := [], alts := [], laidByText := true, laidKinds := [.data, .data], laidTests := true, laidLooks := .later }
def InodeCostCardSaid : Prop := Claim7.holds Tryz.pinned (.plain (OpenSpec.ofChange inodeCostSpec)) inodeCostCard

/-- THE TIED CARD OF 'lagoonlaw9.InodeAll'. -/
def inodeAllCard : Claim7 := { stood := { row := inodeAllRow, standIns := [], harness := (true, "6290c98088592f1a622494b956730ae1ac396d543706dcc102938560aeed2c55"), looks := true }, kinds := [], alts := [], laidByText := true, laidKinds := [.data, .data], laidTests := true, laidLooks := .later }
def InodeAllCardSaid : Prop := Claim7.holds Tryz.pinned (.plain (OpenSpec.ofChange inodeAllSpec)) inodeAllCard

/-- THE TIED CARD OF 'lagoonlaw9.InodeLoad'. -/
def inodeLoadCard : Claim7 := { stood := { row := inodeLoadRow, standIns := [], harness := (true, "6290c98088592f1a622494b956730ae1ac396d543706dcc102938560aeed2c55"), looks := true }, kinds := [], alts := [], laidByText := true, laidKinds := [.data, .data], laidTests := true, laidLooks := .later }
def InodeLoadCardSaid : Prop := Claim7.holds Tryz.pinned (.plain (OpenSpec.ofChange inodeLoadSpec)) inodeLoadCard

/-- THE TIED CARD OF 'lagoonlaw9.InodeNone'. -/
def inodeNoneCard : Claim7 := { stood := { row := inodeNoneRow, standIns := [], harness := (true, "6290c98088592f1a622494b956730ae1ac396d543706dcc102938560aeed2c55"), looks := true }, kinds := [], alts := [], laidByText := true, laidKinds := [.data, .data], laidTests := true, laidLooks := .later }
def InodeNoneCardSaid : Prop := Claim7.holds Tryz.pinned (.plain (OpenSpec.ofChange inodeNoneSpec)) inodeNoneCard

/-- THE TIED CARD OF 'lagoonlaw9.InodeHoles'. -/
def inodeHolesCard : Claim7 := { stood := { row := inodeHolesRow, standIns := [], harness := (true, "6290c98088592f1a622494b956730ae1ac396d543706dcc102938560aeed2c55"), looks := true }, kinds := [], alts := [], laidByText := true, laidKinds := [.data, .data], laidTests := true, laidLooks := .later }
def InodeHolesCardSaid : Prop := Claim7.holds Tryz.pinned (.plain (OpenSpec.ofChange inodeHolesSpec)) inodeHolesCard

/-- THE TIED CARD OF 'lagoonlaw9.InodeEdges'. -/
def inodeEdgesCard : Claim7 := { stood := { row := inodeEdgesRow, standIns := [], harness := (true, "6290c98088592f1a622494b956730ae1ac396d543706dcc102938560aeed2c55"), looks := true }, kinds := [], alts := [], laidByText := true, laidKinds := [.data, .data], laidTests := true, laidLooks := .later }
def InodeEdgesCardSaid : Prop := Claim7.holds Tryz.pinned (.plain (OpenSpec.ofChange inodeEdgesSpec)) inodeEdgesCard

/-- THE SECOND FORM's CARD OF 'lagoonlaw6.WalCommits'. -/
def walCommitsUptoCard : Claim7 := { stood := { row := walCommitsUptoRow, standIns := [], harness := (true, "6290c98088592f1a622494b956730ae1ac396d543706dcc102938560aeed2c55"), looks := true }, kinds := [], alts := [], laidByText := true, laidKinds := [.data], laidTests := true, laidLooks := .later }
def WalCommitsUptoCardSaid : Prop := Claim7.holds Tryz.pinned (.plain (OpenSpec.upto walCommitsSpec)) walCommitsUptoCard

/-- THE SECOND FORM's CARD OF 'lagoonlaw7.CacheAll'. -/
def cacheAllUptoCard : Claim7 := { stood := { row := cacheAllUptoRow, standIns := [], harness := (true, "6290c98088592f1a622494b956730ae1ac396d543706dcc102938560aeed2c55"), looks := true }, kinds := [], alts := [], laidByText := true, laidKinds := [.data], laidTests := true, laidLooks := .later }
def CacheAllUptoCardSaid : Prop := Claim7.holds Tryz.pinned (.plain (OpenSpec.upto cacheAllSpec)) cacheAllUptoCard

/-- THE SECOND FORM's CARD OF 'lagoonlaw9.InodeCost'. -/
def inodeCostUptoCard : Claim7 := { stood := { row := inodeCostUptoRow, standIns := [], harness := (true, "6290c98088592f1a622494b956730ae1ac396d543706dcc102938560aeed2c55"), looks := true }, kinds := [], alts := [], laidByText := true, laidKinds := [.data, .data], laidTests := true, laidLooks := .later }
def InodeCostUptoCardSaid : Prop := Claim7.holds Tryz.pinned (.plain (OpenSpec.upto inodeCostSpec)) inodeCostUptoCard

/-- THE SECOND FORM's CARD OF 'lagoonlaw9.InodeAll'. -/
def inodeAllUptoCard : Claim7 := { stood := { row := inodeAllUptoRow, standIns := [], harness := (true, "6290c98088592f1a622494b956730ae1ac396d543706dcc102938560aeed2c55"), looks := true }, kinds := [], alts := [], laidByText := true, laidKinds := [.data, .data], laidTests := true, laidLooks := .later }
def InodeAllUptoCardSaid : Prop := Claim7.holds Tryz.pinned (.plain (OpenSpec.upto inodeAllSpec)) inodeAllUptoCard

/-- THE SECOND FORM's CARD OF 'lagoonlaw9.InodeLoad'. -/
def inodeLoadUptoCard : Claim7 := { stood := { row := inodeLoadUptoRow, standIns := [], harness := (true, "6290c98088592f1a622494b956730ae1ac396d543706dcc102938560aeed2c55"), looks := true }, kinds := [], alts := [], laidByText := true, laidKinds := [.data, .data], laidTests := true, laidLooks := .later }
def InodeLoadUptoCardSaid : Prop := Claim7.holds Tryz.pinned (.plain (OpenSpec.upto inodeLoadSpec)) inodeLoadUptoCard

/-- THE SECOND FORM's CARD OF 'lagoonlaw9.InodeNone'. -/
def inodeNoneUptoCard : Claim7 := { stood := { row := inodeNoneUptoRow, standIns := [], harness := (true, "6290c98088592f1a622494b956730ae1ac396d543706dcc102938560aeed2c55"), looks := true }, kinds := [], alts := [], laidByText := true, laidKinds := [.data, .data], laidTests := true, laidLooks := .later }
def InodeNoneUptoCardSaid : Prop := Claim7.holds Tryz.pinned (.plain (OpenSpec.upto inodeNoneSpec)) inodeNoneUptoCard

/-- THE SECOND FORM's CARD OF 'lagoonlaw9.InodeHoles'. -/
def inodeHolesUptoCard : Claim7 := { stood := { row := inodeHolesUptoRow, standIns := [], harness := (true, "6290c98088592f1a622494b956730ae1ac396d543706dcc102938560aeed2c55"), looks := true }, kinds := [], alts := [], laidByText := true, laidKinds := [.data, .data], laidTests := true, laidLooks := .later }
def InodeHolesUptoCardSaid : Prop := Claim7.holds Tryz.pinned (.plain (OpenSpec.upto inodeHolesSpec)) inodeHolesUptoCard

/-- THE SECOND FORM's CARD OF 'lagoonlaw9.InodeEdges'. -/
def inodeEdgesUptoCard : Claim7 := { stood := { row := inodeEdgesUptoRow, standIns := [], harness := (true, "6290c98088592f1a622494b956730ae1ac396d543706dcc102938560aeed2c55"), looks := true }, kinds := [], alts := [], laidByText := true, laidKinds := [.data, .data], laidTests := true, laidLooks := .later }
def InodeEdgesUptoCardSaid : Prop := Claim7.holds Tryz.pinned (.plain (OpenSpec.upto inodeEdgesSpec)) inodeEdgesUptoCard
end Rows
end Go.Proofs.YtphedokdckoccaaGreatDoor
