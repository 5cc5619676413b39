/-
  NARROWER THAN 'FOR EVERY INPUT', by the rows' own cells (each row's printed sentence says how): DirAll: laid · DirLoad: laid · DirFull: laid.
  DERIVED. THE GIVEN ROWS OF THIS SEAT. 3 by the template 'for every input the law returns true; each argument reads behind the call as it read before'; 0 by the template 'total and deterministic' (their statements: YtdocablbkafkiaaDoorTotals.lean).
  GIVEN WITH THE SEED: the statements are not yours to turn. If you find one false, say at which input.
  Laid BY PROGRAM, IN A SANDBOX (cutbox-rows.mjs): the forced cells as the released guide's own fill.sh prints them over the translation 430c1989a6fd39cf… (all of the seat's roots in one cut). By AI agents, Wed Nov 11 2026. No macro, syntax, notation, axiom, sorry.
-/
import Derived.Test.YtdocablbkafkiaaDoorChecked
import GoSem.Claim
import GoSem.ClaimJoined
import GoSem.ClaimMapViews
import Derived.JoinedTies
import Derived.KernelRfl
namespace Go.Proofs.YtdocablbkafkiaaDoor
/- THE CELL 'sum', in the pinned program and in every row, IS THE sha256 OF THE DUMP (.gsa) THAT YtdocablbkafkiaaDoorProg.lean LOADS. Nothing in Lean hashes anything: it is a label: what it is worth is what the hold of that sum in a sandbox is worth. -/
noncomputable def Tryd.pinned : Pinned := { name := "ytdocablbkafkiaadoor", sum := "430c1989a6fd39cf980ef3aaeddc2ab9bc89e3fff469c657c6f6eb12035137ce", checked := Tryd.checked }
namespace Rows
def none {H : Type} : Left H := { results := [], args := [] }

/- WHAT THE LISTED PACKAGE-LEVEL VARIABLES READ AS WHEN THE CALL BEGINS. Each datum BY PROGRAM (the guide's laid-datum.mjs) off the statement by which the dump's own 'gosem.cut.vars' lays the variable. In a bare row this is a premise. The card (YtdocablbkafkiaaDoorCards.lean) ties it to the program's text. -/
def laid_lagoon_crc_steps {H : Type} : DataW H := .agg [.lit (.int .u32 0), .lit (.int .u32 498536548), .lit (.int .u32 997073096), .lit (.int .u32 651767980), .lit (.int .u32 1994146192), .lit (.int .u32 1802195444), .lit (.int .u32 1303535960), .lit (.int .u32 1342533948), .lit (.int .u32 3988292384), .lit (.int .u32 4027552580), .lit (.int .u32 3604390888), .lit (.int .u32 3412177804), .lit (.int .u32 2607071920), .lit (.int .u32 2262029012), .lit (.int .u32 2685067896), .lit (.int .u32 3183342108)]

/-- 'lagoonlaw10.DirAll': WHATEVER THE INPUT: true; the input reads as it did. -/
def dirAllSpec : ChangeSpec := { name := "dirAll", fn := fun _ => fun
  | [d] => { results := [.lit (.bool true)], args := [d] }
  | _ => none }
def dirAllRow : OpenClaim := { program := "ytdocablbkafkiaadoor", sum := "430c1989a6fd39cf980ef3aaeddc2ab9bc89e3fff469c657c6f6eb12035137ce", func := "lagoon/lagoonlaw10.DirAll", spec := "dirAll", inPlace := ["internal/bytealg.IndexByteString", "internal/bytealg.abigen_runtime_cmpstring", "slices.overlaps[lagoon/localdir.entry]"], unfollowed := true, recurses := true, named := ["lagoon/crc.steps"], apart := false, laid := [("lagoon/crc.steps", laid_lagoon_crc_steps)] }
def DirAllSaid : Prop := dirAllRow.holds Tryd.pinned (OpenSpec.ofChange dirAllSpec)

/-- ITS FALSE NEIGHBOUR: 'it returns false'. Refute it at one input. -/
def dirAllWrong : ChangeSpec := { name := "dirAll", fn := fun _ => fun
  | [d] => { results := [.lit (.bool false)], args := [d] }
  | _ => none }
def DirAllWrongFalsely : Prop := dirAllRow.holds Tryd.pinned (OpenSpec.ofChange dirAllWrong)

/-- 'lagoonlaw10.DirLoad': WHATEVER THE INPUT: true; the input reads as it did. -/
def dirLoadSpec : ChangeSpec := { name := "dirLoad", fn := fun _ => fun
  | [d1, d2, d3, d4] => { results := [.lit (.bool true)], args := [d1, d2, d3, d4] }
  | _ => none }
def dirLoadRow : OpenClaim := { program := "ytdocablbkafkiaadoor", sum := "430c1989a6fd39cf980ef3aaeddc2ab9bc89e3fff469c657c6f6eb12035137ce", func := "lagoon/lagoonlaw10.DirLoad", spec := "dirLoad", inPlace := ["internal/bytealg.IndexByteString", "internal/bytealg.abigen_runtime_cmpstring", "slices.overlaps[lagoon/localdir.entry]"], unfollowed := true, recurses := true, named := ["lagoon/crc.steps"], apart := false, laid := [("lagoon/crc.steps", laid_lagoon_crc_steps)] }
def DirLoadSaid : Prop := dirLoadRow.holds Tryd.pinned (OpenSpec.ofChange dirLoadSpec)

/-- ITS FALSE NEIGHBOUR: 'it returns false'. Refute it at one input. -/
def dirLoadWrong : ChangeSpec := { name := "dirLoad", fn := fun _ => fun
  | [d1, d2, d3, d4] => { results := [.lit (.bool false)], args := [d1, d2, d3, d4] }
  | _ => none }
def DirLoadWrongFalsely : Prop := dirLoadRow.holds Tryd.pinned (OpenSpec.ofChange dirLoadWrong)

/-- 'lagoonlaw10.DirFull': WHATEVER THE INPUT: true; the input reads as it did. -/
def dirFullSpec : ChangeSpec := { name := "dirFull", fn := fun _ => fun
  | [] => { results := [.lit (.bool true)], args := [] }
  | _ => none }
def dirFullRow : OpenClaim := { program := "ytdocablbkafkiaadoor", sum := "430c1989a6fd39cf980ef3aaeddc2ab9bc89e3fff469c657c6f6eb12035137ce", func := "lagoon/lagoonlaw10.DirFull", spec := "dirFull", inPlace := ["internal/bytealg.IndexByteString", "internal/bytealg.abigen_runtime_cmpstring", "slices.overlaps[lagoon/localdir.entry]"], unfollowed := true, recurses := true, named := ["lagoon/crc.steps"], apart := false, laid := [("lagoon/crc.steps", laid_lagoon_crc_steps)] }
def DirFullSaid : Prop := dirFullRow.holds Tryd.pinned (OpenSpec.ofChange dirFullSpec)

/-- ITS FALSE NEIGHBOUR: 'it returns false'. Refute it at one input. -/
def dirFullWrong : ChangeSpec := { name := "dirFull", fn := fun _ => fun
  | [] => { results := [.lit (.bool false)], args := [] }
  | _ => none }
def DirFullWrongFalsely : Prop := dirFullRow.holds Tryd.pinned (OpenSpec.ofChange dirFullWrong)

/- THE SECOND FORM. 'bulk': how many values and letters a reading holds, each counted each time it is reached (what is shared counts as often as it is met; a slice's spare places count too). A statement '..UptoSaid' is the law's where the arguments, and the package variables that the reading takes, are together of bulk at most 1048576: NARROWER than '..Said'. Prove '..Said' where nothing that the law and all that it calls make is longer than what came in: it says more and counts as full. Else prove '..UptoSaid'. A law counts once. -/
mutual
def uptoBulk {H : Type} : DataW H → Nat
  | .lit (.string bytes) => bytes.length + 1
  | .lit _ => 1
  | .nil => 1
  | .ptr d => uptoBulk d + 1
  | .slice elems spare => uptoBulkAll elems + uptoBulkAll spare + 1
  | .agg parts => uptoBulkAll parts + 1
  | .iface _ d => uptoBulk d + 1
  | .map entries => uptoBulkEntries entries + 1
  | .held _ => 1
def uptoBulkAll {H : Type} : List (DataW H) → Nat
  | [] => 0
  | d :: r => uptoBulk d + uptoBulkAll r
def uptoBulkEntries {H : Type} : List (Lit × DataW H) → Nat
  | [] => 0
  | x :: r => uptoBulkEntry x + uptoBulkEntries r
def uptoBulkEntry {H : Type} : Lit × DataW H → Nat
  | (.string bytes, d) => bytes.length + uptoBulk d + 1
  | (_, d) => uptoBulk d + 1
 end
def uptoSmall : (H : Type) → List (DataW H) → Bool := fun _ ds => decide (uptoBulkAll ds ≤ 1048576)
def OpenSpec.upto (s : _root_.Go.ChangeSpec) : _root_.Go.OpenSpec := { _root_.Go.OpenSpec.ofChange s with cond := some uptoSmall }

/-- 'lagoonlaw10.DirAll', WHERE WHAT IT READS IS OF BULK AT MOST 1048576: true; the input reads as it did. -/
def dirAllUptoRow : OpenClaim := { program := "ytdocablbkafkiaadoor", sum := "430c1989a6fd39cf980ef3aaeddc2ab9bc89e3fff469c657c6f6eb12035137ce", func := "lagoon/lagoonlaw10.DirAll", spec := "dirAll", inPlace := ["internal/bytealg.IndexByteString", "internal/bytealg.abigen_runtime_cmpstring", "slices.overlaps[lagoon/localdir.entry]"], unfollowed := true, recurses := true, named := ["lagoon/crc.steps"], apart := false, laid := [("lagoon/crc.steps", laid_lagoon_crc_steps)], narrowed := true }
def DirAllUptoSaid : Prop := dirAllUptoRow.holds Tryd.pinned (OpenSpec.upto dirAllSpec)

/-- 'lagoonlaw10.DirLoad', WHERE WHAT IT READS IS OF BULK AT MOST 1048576: true; the input reads as it did. -/
def dirLoadUptoRow : OpenClaim := { program := "ytdocablbkafkiaadoor", sum := "430c1989a6fd39cf980ef3aaeddc2ab9bc89e3fff469c657c6f6eb12035137ce", func := "lagoon/lagoonlaw10.DirLoad", spec := "dirLoad", inPlace := ["internal/bytealg.IndexByteString", "internal/bytealg.abigen_runtime_cmpstring", "slices.overlaps[lagoon/localdir.entry]"], unfollowed := true, recurses := true, named := ["lagoon/crc.steps"], apart := false, laid := [("lagoon/crc.steps", laid_lagoon_crc_steps)], narrowed := true }
def DirLoadUptoSaid : Prop := dirLoadUptoRow.holds Tryd.pinned (OpenSpec.upto dirLoadSpec)

/-- 'lagoonlaw10.DirFull', WHERE WHAT IT READS IS OF BULK AT MOST 1048576: true; the input reads as it did. -/
def dirFullUptoRow : OpenClaim := { program := "ytdocablbkafkiaadoor", sum := "430c1989a6fd39cf980ef3aaeddc2ab9bc89e3fff469c657c6f6eb12035137ce", func := "lagoon/lagoonlaw10.DirFull", spec := "dirFull", inPlace := ["internal/bytealg.IndexByteString", "internal/bytealg.abigen_runtime_cmpstring", "slices.overlaps[lagoon/localdir.entry]"], unfollowed := true, recurses := true, named := ["lagoon/crc.steps"], apart := false, laid := [("lagoon/crc.steps", laid_lagoon_crc_steps)], narrowed := true }
def DirFullUptoSaid : Prop := dirFullUptoRow.holds Tryd.pinned (OpenSpec.upto dirFullSpec)

end Rows
end Go.Proofs.YtdocablbkafkiaaDoor
