/-
  DERIVED. GIVEN WITH THE SEED: THE CARDS: each row of YtdepdcndfofknaaGreatDoorRows.lean that lists a variable, with what it lists TIED to the program's text (the seventh form; the later family's looks); each row that meets fmt, with fmt's text TOLD by the authors' own Lean function (tested against real Go, not proved from fmt's source: count such statements apart). THE CARD IS WHAT COUNTS. Prove the row's statement (the work); the ties are given (YtdepdcndfofknaaGreatDoorTie.lean); close each card by the builder's one call (the guide's Derived/Test/ToyasCard.lean, 'card_holds'). Laid BY PROGRAM, IN A SANDBOX (cutbox-door.mjs). By AI agents, Wed Nov 11 2026. No macro, syntax, notation, axiom, sorry.
-/
import Derived.Test.YtdepdcndfofknaaGreatDoorRows
import GoSem.ClaimSeven
namespace Go.Proofs.YtdepdcndfofknaaGreatDoor
namespace Rows

/-- THE TIED CARD OF 'lagoonlaw7.CacheAll'. -/
def cacheAllCard : Claim7 := { stood := { row := cacheAllRow, standIns := [], harness := (true, "e79a5391ec6edcefe191243ae30442a3c68ec04c59aab7416a63050085f3ce30"), looks := true }, kinds := [], alts := [], laidByText := true, laidKinds := [.data], laidTests := true, laidLooks := .later }
def CacheAllCardSaid : Prop := Claim7.holds Tryz.pinned (.plain (OpenSpec.ofChange cacheAllSpec)) cacheAllCard

/-- THE TIED CARD OF 'lagoonlaw7.CacheNone'. -/
def cacheNoneCard : Claim7 := { stood := { row := cacheNoneRow, standIns := [], harness := (true, "e79a5391ec6edcefe191243ae30442a3c68ec04c59aab7416a63050085f3ce30"), looks := true }, kinds := [], alts := [], laidByText := true, laidKinds := [.data], laidTests := true, laidLooks := .later }
def CacheNoneCardSaid : Prop := Claim7.holds Tryz.pinned (.plain (OpenSpec.ofChange cacheNoneSpec)) cacheNoneCard

/-- THE TIED CARD OF 'lagoonlaw7.CacheScan'. -/
def cacheScanCard : Claim7 := { stood := { row := cacheScanRow, standIns := [], harness := (true, "e79a5391ec6edcefe191243ae30442a3c68ec04c59aab7416a63050085f3ce30"), looks := true }, kinds := [], alts := [], laidByText := true, laidKinds := [.data], laidTests := true, laidLooks := .later }
def CacheScanCardSaid : Prop := Claim7.holds Tryz.pinned (.plain (OpenSpec.ofChange cacheScanSpec)) cacheScanCard

/-- THE TIED CARD OF 'lagoonlaw7.CachePins'. -/
def cachePinsCard : Claim7 := { stood := { row := cachePinsRow, standIns := [], harness := (true, "e79a5391ec6edcefe191243ae30442a3c68ec04c59aab7416a63050085f3ce30"), looks := true }, kinds := [], alts := [], laidByText := true, laidKinds := [.data], laidTests := true, laidLooks := .later }
def CachePinsCardSaid : Prop := Claim7.holds Tryz.pinned (.plain (OpenSpec.ofChange cachePinsSpec)) cachePinsCard

/-- THE TIED CARD OF 'lagoonlaw6.WalCommits'. -/
def walCommitsCard : Claim7 := { stood := { row := walCommitsRow, standIns := [], harness := (true, "e79a5391ec6edcefe191243ae30442a3c68ec04c59aab7416a63050085f3ce30"), looks := true }, kinds := [], alts := [], laidByText := true, laidKinds := [.data], laidTests := true, laidLooks := .later }
def WalCommitsCardSaid : Prop := Claim7.holds Tryz.pinned (.plain (OpenSpec.ofChange walCommitsSpec)) walCommitsCard

/-- THE TIED CARD OF 'lagoonlaw6.WalWhole'. -/
def walWholeCard : Claim7 := { stood := { row := walWholeRow, standIns := [], harness := (true, "e79a5391ec6edcefe191243ae30442a3c68ec04c59aab7416a63050085f3ce30"), looks := true }, kinds := [], alts := [], laidByText := true, laidKinds := [.data], laidTests := true, laidLooks := .later }
def WalWholeCardSaid : Prop := Claim7.holds Tryz.pinned (.plain (OpenSpec.ofChange walWholeSpec)) walWholeCard

/-- THE SECOND FORM's CARD OF 'lagoonlaw7.CacheAll'. -/
def cacheAllUptoCard : Claim7 := { stood := { row := cacheAllUptoRow, standIns := [], harness := (true, "e79a5391ec6edcefe191243ae30442a3c68ec04c59aab7416a63050085f3ce30"), looks := true }, kinds := [], alts := [], laidByText := true, laidKinds := [.data], laidTests := true, laidLooks := .later }
def CacheAllUptoCardSaid : Prop := Claim7.holds Tryz.pinned (.plain (OpenSpec.upto cacheAllSpec)) cacheAllUptoCard

/-- THE SECOND FORM's CARD OF 'lagoonlaw7.CacheNone'. -/
def cacheNoneUptoCard : Claim7 := { stood := { row := cacheNoneUptoRow, standIns := [], harness := (true, "e79a5391ec6edcefe191243ae30442a3c68ec04c59aab7416a63050085f3ce30"), looks := true }, kinds := [], alts := [], laidByText := true, laidKinds := [.data], laidTests := true, laidLooks := .later }
def CacheNoneUptoCardSaid : Prop := Claim7.holds Tryz.pinned (.plain (OpenSpec.upto cacheNoneSpec)) cacheNoneUptoCard

/-- THE SECOND FORM's CARD OF 'lagoonlaw7.CacheScan'. -/
def cacheScanUptoCard : Claim7 := { stood := { row := cacheScanUptoRow, standIns := [], harness := (true, "e79a5391ec6edcefe191243ae30442a3c68ec04c59aab7416a63050085f3ce30"), looks := true }, kinds := [], alts := [], laidByText := true, laidKinds := [.data], laidTests := true, laidLooks := .later }
def CacheScanUptoCardSaid : Prop := Claim7.holds Tryz.pinned (.plain (OpenSpec.upto cacheScanSpec)) cacheScanUptoCard

/-- THE SECOND FORM's CARD OF 'lagoonlaw7.CachePins'. -/
def cachePinsUptoCard : Claim7 := { stood := { row := cachePinsUptoRow, standIns := [], harness := (true, "e79a5391ec6edcefe191243ae30442a3c68ec04c59aab7416a63050085f3ce30"), looks := true }, kinds := [], alts := [], laidByText := true, laidKinds := [.data], laidTests := true, laidLooks := .later }
def CachePinsUptoCardSaid : Prop := Claim7.holds Tryz.pinned (.plain (OpenSpec.upto cachePinsSpec)) cachePinsUptoCard

/-- THE SECOND FORM's CARD OF 'lagoonlaw6.WalCommits'. -/
def walCommitsUptoCard : Claim7 := { stood := { row := walCommitsUptoRow, standIns := [], harness := (true, "e79a5391ec6edcefe191243ae30442a3c68ec04c59aab7416a63050085f3ce30"), looks := true }, kinds := [], alts := [], laidByText := true, laidKinds := [.data], laidTests := true, laidLooks := .later }
def WalCommitsUptoCardSaid : Prop := Claim7.holds Tryz.pinned (.plain (OpenSpec.upto walCommitsSpec)) walCommitsUptoCard

/-- THE SECOND FORM's CARD OF 'lagoonlaw6.WalWhole'. -/
def walWholeUptoCard : Claim7 := { stood := { row := walWholeUptoRow, standIns := [], harness := (true, "e79a5391ec6edcefe191243ae30442a3c68ec04c59aab7416a63050085f3ce30"), looks := true }, kinds := [], alts := [], laidByText := true, laidKinds := [.data], laidTests := true, laidLooks := .later }
def WalWholeUptoCardSaid : Prop := Claim7.holds Tryz.pinned (.plain (OpenSpec.upto walWholeSpec)) walWholeUptoCard
end Rows
end Go.Proofs.YtdepdcndfofknaaGreatDoor
