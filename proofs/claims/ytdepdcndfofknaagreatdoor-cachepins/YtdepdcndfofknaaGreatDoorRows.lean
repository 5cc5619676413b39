/-
  NARROWER THAN 'FOR EVERY INPUT', by the rows' own cells (each row's printed sentence says how): CacheAll: laid · CacheNone: laid · CacheScan: laid · CachePins: laid · WalCommits: laid · WalWhole: laid.
  DERIVED. THE GIVEN ROWS OF THIS SEAT. 6 by the template 'for every input the law returns true; each argument reads behind the call as it read before'; 0 by the template 'total and deterministic' (their statements: YtdepdcndfofknaaGreatDoorTotals.lean).
  GIVEN WITH THE SEED: the statements are not yours to turn. If you find one false, say at which input.
  Laid BY PROGRAM, IN A SANDBOX (cutbox-rows.mjs): the forced cells as the released guide's own fill.sh prints them over the translation dab3bac178cbd277… (all of the seat's roots in one cut). By AI agents, Wed Nov 11 2026. No macro, syntax, notation, axiom, sorry.
-/
import Derived.Test.YtdepdcndfofknaaGreatDoorChecked
import GoSem.Claim
import GoSem.ClaimJoined
import GoSem.ClaimMapViews
import Derived.JoinedTies
import Derived.KernelRfl
namespace Go.Proofs.YtdepdcndfofknaaGreatDoor
/- THE CELL 'sum', in the pinned program and in every row, IS THE sha256 OF THE DUMP (.gsa) THAT YtdepdcndfofknaaGreatDoorProg.lean LOADS. Nothing in Lean hashes anything: it is a label: what it is worth is what the hold of that sum in a sandbox is worth. -/
noncomputable def Tryz.pinned : Pinned := { name := "ytdepdcndfofknaagreatdoor", sum := "dab3bac178cbd27795e600fd9cd62ef8f20e96c6ff40b5b0114004f80879880a", checked := Tryz.checked }
namespace Rows
def none {H : Type} : Left H := { results := [], args := [] }

/- WHAT THE LISTED PACKAGE-LEVEL VARIABLES READ AS WHEN THE CALL BEGINS. Each datum BY PROGRAM (the guide's laid-datum.mjs) off the statement by which the dump's own 'gosem.cut.vars' lays the variable. In a bare row this is a premise. The card (YtdepdcndfofknaaGreatDoorCards.lean) ties it to the program's text. -/
def laid_lagoon_crc_steps {H : Type} : DataW H := .agg [.lit (.int .u32 0), .lit (.int .u32 498536548), .lit (.int .u32 997073096), .lit (.int .u32 651767980), .lit (.int .u32 1994146192), .lit (.int .u32 1802195444), .lit (.int .u32 1303535960), .lit (.int .u32 1342533948), .lit (.int .u32 3988292384), .lit (.int .u32 4027552580), .lit (.int .u32 3604390888), .lit (.int .u32 3412177804), .lit (.int .u32 2607071920), .lit (.int .u32 2262029012), .lit (.int .u32 2685067896), .lit (.int .u32 3183342108)]

/-- 'lagoonlaw7.CacheAll': WHATEVER THE INPUT: true; the input reads as it did. -/
def cacheAllSpec : ChangeSpec := { name := "cacheAll", fn := fun _ => fun
  | [d1, d2, d3] => { results := [.lit (.bool true)], args := [d1, d2, d3] }
  | _ => none }
def cacheAllRow : OpenClaim := { program := "ytdepdcndfofknaagreatdoor", sum := "dab3bac178cbd27795e600fd9cd62ef8f20e96c6ff40b5b0114004f80879880a", func := "lagoon/lagoonlaw7.CacheAll", spec := "cacheAll", unfollowed := true, recurses := true, named := ["lagoon/crc.steps"], apart := false, laid := [("lagoon/crc.steps", laid_lagoon_crc_steps)] }
def CacheAllSaid : Prop := cacheAllRow.holds Tryz.pinned (OpenSpec.ofChange cacheAllSpec)

/-- ITS FALSE NEIGHBOUR: 'it returns false'. Refute it at one input. -/
def cacheAllWrong : ChangeSpec := { name := "cacheAll", fn := fun _ => fun
  | [d1, d2, d3] => { results := [.lit (.bool false)], args := [d1, d2, d3] }
  | _ => none }
def CacheAllWrongFalsely : Prop := cacheAllRow.holds Tryz.pinned (OpenSpec.ofChange cacheAllWrong)

/-- 'lagoonlaw7.CacheNone': WHATEVER THE INPUT: true; the input reads as it did. -/
def cacheNoneSpec : ChangeSpec := { name := "cacheNone", fn := fun _ => fun
  | [] => { results := [.lit (.bool true)], args := [] }
  | _ => none }
def cacheNoneRow : OpenClaim := { program := "ytdepdcndfofknaagreatdoor", sum := "dab3bac178cbd27795e600fd9cd62ef8f20e96c6ff40b5b0114004f80879880a", func := "lagoon/lagoonlaw7.CacheNone", spec := "cacheNone", unfollowed := true, recurses := true, named := ["lagoon/crc.steps"], apart := false, laid := [("lagoon/crc.steps", laid_lagoon_crc_steps)] }
def CacheNoneSaid : Prop := cacheNoneRow.holds Tryz.pinned (OpenSpec.ofChange cacheNoneSpec)

/-- ITS FALSE NEIGHBOUR: 'it returns false'. Refute it at one input. -/
def cacheNoneWrong : ChangeSpec := { name := "cacheNone", fn := fun _ => fun
  | [] => { results := [.lit (.bool false)], args := [] }
  | _ => none }
def CacheNoneWrongFalsely : Prop := cacheNoneRow.holds Tryz.pinned (OpenSpec.ofChange cacheNoneWrong)

/-- 'lagoonlaw7.CacheScan': WHATEVER THE INPUT: true; the input reads as it did. -/
def cacheScanSpec : ChangeSpec := { name := "cacheScan", fn := fun _ => fun
  | [d1, d2, d3] => { results := [.lit (.bool true)], args := [d1, d2, d3] }
  | _ => none }
def cacheScanRow : OpenClaim := { program := "ytdepdcndfofknaagreatdoor", sum := "dab3bac178cbd27795e600fd9cd62ef8f20e96c6ff40b5b0114004f80879880a", func := "lagoon/lagoonlaw7.CacheScan", spec := "cacheScan", unfollowed := true, recurses := true, named := ["lagoon/crc.steps"], apart := false, laid := [("lagoon/crc.steps", laid_lagoon_crc_steps)] }
def CacheScanSaid : Prop := cacheScanRow.holds Tryz.pinned (OpenSpec.ofChange cacheScanSpec)

/-- ITS FALSE NEIGHBOUR: 'it returns false'. Refute it at one input. -/
def cacheScanWrong : ChangeSpec := { name := "cacheScan", fn := fun _ => fun
  | [d1, d2, d3] => { results := [.lit (.bool false)], args := [d1, d2, d3] }
  | _ => none }
def CacheScanWrongFalsely : Prop := cacheScanRow.holds Tryz.pinned (OpenSpec.ofChange cacheScanWrong)

/-- 'lagoonlaw7.CachePins': WHATEVER THE INPUT: true; the input reads as it did. -/
def cachePinsSpec : ChangeSpec := { name := "cachePins", fn := fun _ => fun
  | [d1, d2] => { results := [.lit (.bool true)], args := [d1, d2] }
  | _ => none }
def cachePinsRow : OpenClaim := { program := "ytdepdcndfofknaagreatdoor", sum := "dab3bac178cbd27795e600fd9cd62ef8f20e96c6ff40b5b0114004f80879880a", func := "lagoon/lagoonlaw7.CachePins", spec := "cachePins", unfollowed := true, recurses := true, named := ["lagoon/crc.steps"], apart := false, laid := [("lagoon/crc.steps", laid_lagoon_crc_steps)] }
def CachePinsSaid : Prop := cachePinsRow.holds Tryz.pinned (OpenSpec.ofChange cachePinsSpec)

/-- ITS FALSE NEIGHBOUR: 'it returns false'. Refute it at one input. -/
def cachePinsWrong : ChangeSpec := { name := "cachePins", fn := fun _ => fun
  | [d1, d2] => { results := [.lit (.bool false)], args := [d1, d2] }
  | _ => none }
def CachePinsWrongFalsely : Prop := cachePinsRow.holds Tryz.pinned (OpenSpec.ofChange cachePinsWrong)

/-- 'lagoonlaw6.WalCommits': WHATEVER THE INPUT: true; the input reads as it did. -/
def walCommitsSpec : ChangeSpec := { name := "walCommits", fn := fun _ => fun
  | [d1, d2] => { results := [.lit (.bool true)], args := [d1, d2] }
  | _ => none }
def walCommitsRow : OpenClaim := { program := "ytdepdcndfofknaagreatdoor", sum := "dab3bac178cbd27795e600fd9cd62ef8f20e96c6ff40b5b0114004f80879880a", func := "lagoon/lagoonlaw6.WalCommits", spec := "walCommits", unfollowed := true, recurses := true, named := ["lagoon/crc.steps"], apart := false, laid := [("lagoon/crc.steps", laid_lagoon_crc_steps)] }
def WalCommitsSaid : Prop := walCommitsRow.holds Tryz.pinned (OpenSpec.ofChange walCommitsSpec)

/-- ITS FALSE NEIGHBOUR: 'it returns false'. Refute it at one input. -/
def walCommitsWrong : ChangeSpec := { name := "walCommits", fn := fun _ => fun
  | [d1, d2] => { results := [.lit (.bool false)], args := [d1, d2] }
  | _ => none }
def WalCommitsWrongFalsely : Prop := walCommitsRow.holds Tryz.pinned (OpenSpec.ofChange walCommitsWrong)

/-- 'lagoonlaw6.WalWhole': WHATEVER THE INPUT: true; the input reads as it did. -/
def walWholeSpec : ChangeSpec := { name := "walWhole", fn := fun _ => fun
  | [d1, d2, d3] => { results := [.lit (.bool true)], args := [d1, d2, d3] }
  | _ => none }
def walWholeRow : OpenClaim := { program := "ytdepdcndfofknaagreatdoor", sum := "dab3bac178cbd27795e600fd9cd62ef8f20e96c6ff40b5b0114004f80879880a", func := "lagoon/lagoonlaw6.WalWhole", spec := "walWhole", unfollowed := true, recurses := true, named := ["lagoon/crc.steps"], apart := false, laid := [("lagoon/crc.steps", laid_lagoon_crc_steps)] }
def WalWholeSaid : Prop := walWholeRow.holds Tryz.pinned (OpenSpec.ofChange walWholeSpec)

/-- ITS FALSE NEIGHBOUR: 'it returns false'. Refute it at one input. -/
def walWholeWrong : ChangeSpec := { name := "walWhole", fn := fun _ => fun
  | [d1, d2, d3] => { results := [.lit (.bool false)], args := [d1, d2, d3] }
  | _ => none }
def WalWholeWrongFalsely : Prop := walWholeRow.holds Tryz.pinned (OpenSpec.ofChange walWholeWrong)

/- THE SECOND FORM. 'bulk': how many values and letters a reading holds, each counted each time it is reached (what is shared counts as often as it is met; a slice's spare places count too). A statement '..UptoSaid' is the law's where the arguments, and the package variables that the reading takes, are together of bulk at most 1048576: NARROWER than '..Said'. Prove '..Said' where nothing that the law and all that it calls make is longer than what came in: it says more and counts as full. Else prove '..UptoSaid'. A law counts once. -/
mutual
def uptoBulk {H : Type} : DataW H → Nat
  | .lit (.string bytes) => bytes.length + 1
  | .lit _ => 1
  | .nil => 1
  | .ptr d => uptoBulk d + 1
  | .slice elems spare => uptoBulkAll elems + uptoBulkAll spare + 1
  | .agg parts => uptoBulkAll parts + 1
  | .iface _ d => uptoBulk d + 1
  | .map entries => uptoBulkEntries entries + 1
  | .held _ => 1
def uptoBulkAll {H : Type} : List (DataW H) → Nat
  | [] => 0
  | d :: r => uptoBulk d + uptoBulkAll r
def uptoBulkEntries {H : Type} : List (Lit × DataW H) → Nat
  | [] => 0
  | x :: r => uptoBulkEntry x + uptoBulkEntries r
def uptoBulkEntry {H : Type} : Lit × DataW H → Nat
  | (.string bytes, d) => bytes.length + uptoBulk d + 1
  | (_, d) => uptoBulk d + 1
 end
def uptoSmall : (H : Type) → List (DataW H) → Bool := fun _ ds => decide (uptoBulkAll ds ≤ 1048576)
def OpenSpec.upto (s : _root_.Go.ChangeSpec) : _root_.Go.OpenSpec := { _root_.Go.OpenSpec.ofChange s with cond := some uptoSmall }

/-- 'lagoonlaw7.CacheAll', WHERE WHAT IT READS IS OF BULK AT MOST 1048576: true; the input reads as it did. -/
def cacheAllUptoRow : OpenClaim := { program := "ytdepdcndfofknaagreatdoor", sum := "dab3bac178cbd27795e600fd9cd62ef8f20e96c6ff40b5b0114004f80879880a", func := "lagoon/lagoonlaw7.CacheAll", spec := "cacheAll", unfollowed := true, recurses := true, named := ["lagoon/crc.steps"], apart := false, laid := [("lagoon/crc.steps", laid_lagoon_crc_steps)], narrowed := true }
def CacheAllUptoSaid : Prop := cacheAllUptoRow.holds Tryz.pinned (OpenSpec.upto cacheAllSpec)

/-- 'lagoonlaw7.CacheNone', WHERE WHAT IT READS IS OF BULK AT MOST 1048576: true; the input reads as it did. -/
def cacheNoneUptoRow : OpenClaim := { program := "ytdepdcndfofknaagreatdoor", sum := "dab3bac178cbd27795e600fd9cd62ef8f20e96c6ff40b5b0114004f80879880a", func := "lagoon/lagoonlaw7.CacheNone", spec := "cacheNone", unfollowed := true, recurses := true, named := ["lagoon/crc.steps"], apart := false, laid := [("lagoon/crc.steps", laid_lagoon_crc_steps)], narrowed := true }
def CacheNoneUptoSaid : Prop := cacheNoneUptoRow.holds Tryz.pinned (OpenSpec.upto cacheNoneSpec)

/-- 'lagoonlaw7.CacheScan', WHERE WHAT IT READS IS OF BULK AT MOST 1048576: true; the input reads as it did. -/
def cacheScanUptoRow : OpenClaim := { program := "ytdepdcndfofknaagreatdoor", sum := "dab3bac178cbd27795e600fd9cd62ef8f20e96c6ff40b5b0114004f80879880a", func := "lagoon/lagoonlaw7.CacheScan", spec := "cacheScan", unfollowed := true, recurses := true, named := ["lagoon/crc.steps"], apart := false, laid := [("lagoon/crc.steps", laid_lagoon_crc_steps)], narrowed := true }
def CacheScanUptoSaid : Prop := cacheScanUptoRow.holds Tryz.pinned (OpenSpec.upto cacheScanSpec)

/-- 'lagoonlaw7.CachePins', WHERE WHAT IT READS IS OF BULK AT MOST 1048576: true; the input reads as it did. -/
def cachePinsUptoRow : OpenClaim := { program := "ytdepdcndfofknaagreatdoor", sum := "dab3bac178cbd27795e600fd9cd62ef8f20e96c6ff40b5b0114004f80879880a", func := "lagoon/lagoonlaw7.CachePins", spec := "cachePins", unfollowed := true, recurses := true, named := ["lagoon/crc.steps"], apart := false, laid := [("lagoon/crc.steps", laid_lagoon_crc_steps)], narrowed := true }
def CachePinsUptoSaid : Prop := cachePinsUptoRow.holds Tryz.pinned (OpenSpec.upto cachePinsSpec)

/-- 'lagoonlaw6.WalCommits', WHERE WHAT IT READS IS OF BULK AT MOST 1048576: true; the input reads as it did. -/
def walCommitsUptoRow : OpenClaim := { program := "ytdepdcndfofknaagreatdoor", sum := "dab3bac178cbd27795e600fd9cd62ef8f20e96c6ff40b5b0114004f80879880a", func := "lagoon/lagoonlaw6.WalCommits", spec := "walCommits", unfollowed := true, recurses := true, named := ["lagoon/crc.steps"], apart := false, laid := [("lagoon/crc.steps", laid_lagoon_crc_steps)], narrowed := true }
def WalCommitsUptoSaid : Prop := walCommitsUptoRow.holds Tryz.pinned (OpenSpec.upto walCommitsSpec)

/-- 'lagoonlaw6.WalWhole', WHERE WHAT IT READS IS OF BULK AT MOST 1048576: true; the input reads as it did. -/
def walWholeUptoRow : OpenClaim := { program := "ytdepdcndfofknaagreatdoor", sum := "dab3bac178cbd27795e600fd9cd62ef8f20e96c6ff40b5b0114004f80879880a", func := "lagoon/lagoonlaw6.WalWhole", spec := "walWhole", unfollowed := true, recurses := true, named := ["lagoon/crc.steps"], apart := false, laid := [("lagoon/crc.steps", laid_lagoon_crc_steps)], narrowed := true }
def WalWholeUptoSaid : Prop := walWholeUptoRow.holds Tryz.pinned (OpenSpec.upto walWholeSpec)

end Rows
end Go.Proofs.YtdepdcndfofknaaGreatDoor
