/-
  NARROWER THAN 'FOR EVERY INPUT', by the rows' own cells (each row's printed sentence says how): CrcParts: laid · CrcFrame: laid · CrcSpoilt: laid · CrcBig: laid.
  DERIVED. THE GIVEN ROWS OF THIS SEAT. 4 by the template 'for every input the law returns true; each argument reads behind the call as it read before'; 0 by the template 'total and deterministic' (their statements: YtlmnhnimneimkaaDoorTotals.lean).
  GIVEN WITH THE SEED: the statements are not yours to turn. If you find one false, say at which input.
  Laid BY PROGRAM, IN A SANDBOX (cutbox-rows.mjs): the forced cells as the released guide's own fill.sh prints them over the translation 310e08c50d215cb9… (all of the seat's roots in one cut). By AI agents, Wed Nov 11 2026. No macro, syntax, notation, axiom, sorry.
-/
import Derived.Test.YtlmnhnimneimkaaDoorChecked
import GoSem.Claim
import GoSem.ClaimJoined
import GoSem.ClaimMapViews
import Derived.JoinedTies
import Derived.KernelRfl
namespace Go.Proofs.YtlmnhnimneimkaaDoor
/- THE CELL 'sum', in the pinned program and in every row, IS THE sha256 OF THE DUMP (.gsa) THAT YtlmnhnimneimkaaDoorProg.lean LOADS. Nothing in Lean hashes anything: it is a label: what it is worth is what the hold of that sum in a sandbox is worth. -/
noncomputable def Tryd.pinned : Pinned := { name := "ytlmnhnimneimkaadoor", sum := "310e08c50d215cb9fbac02cbfa39c71227dfe9db91a9449bc2417a5493971edf", checked := Tryd.checked }
namespace Rows
def none {H : Type} : Left H := { results := [], args := [] }

/- WHAT THE LISTED PACKAGE-LEVEL VARIABLES READ AS WHEN THE CALL BEGINS. Each datum BY PROGRAM (the guide's laid-datum.mjs) off the statement by which the dump's own 'gosem.cut.vars' lays the variable. In a bare row this is a premise. The card (YtlmnhnimneimkaaDoorCards.lean) ties it to the program's text. -/
def laid_lagoon_crc_steps {H : Type} : DataW H := .agg [.lit (.int .u32 0), .lit (.int .u32 498536548), .lit (.int .u32 997073096), .lit (.int .u32 651767980), .lit (.int .u32 1994146192), .lit (.int .u32 1802195444), .lit (.int .u32 1303535960), .lit (.int .u32 1342533948), .lit (.int .u32 3988292384), .lit (.int .u32 4027552580), .lit (.int .u32 3604390888), .lit (.int .u32 3412177804), .lit (.int .u32 2607071920), .lit (.int .u32 2262029012), .lit (.int .u32 2685067896), .lit (.int .u32 3183342108)]

/-- 'lagoonlaw2.CrcParts': WHATEVER THE INPUT: true; the input reads as it did. -/
def crcPartsSpec : ChangeSpec := { name := "crcParts", fn := fun _ => fun
  | [d] => { results := [.lit (.bool true)], args := [d] }
  | _ => none }
def crcPartsRow : OpenClaim := { program := "ytlmnhnimneimkaadoor", sum := "310e08c50d215cb9fbac02cbfa39c71227dfe9db91a9449bc2417a5493971edf", func := "lagoon/lagoonlaw2.CrcParts", spec := "crcParts", unfollowed := true, recurses := true, named := ["lagoon/crc.steps"], apart := false, laid := [("lagoon/crc.steps", laid_lagoon_crc_steps)] }
def CrcPartsSaid : Prop := crcPartsRow.holds Tryd.pinned (OpenSpec.ofChange crcPartsSpec)

/-- ITS FALSE NEIGHBOUR: 'it returns false'. Refute it at one input. -/
def crcPartsWrong : ChangeSpec := { name := "crcParts", fn := fun _ => fun
  | [d] => { results := [.lit (.bool false)], args := [d] }
  | _ => none }
def CrcPartsWrongFalsely : Prop := crcPartsRow.holds Tryd.pinned (OpenSpec.ofChange crcPartsWrong)

/-- 'lagoonlaw2.CrcFrame': WHATEVER THE INPUT: true; the input reads as it did. -/
def crcFrameSpec : ChangeSpec := { name := "crcFrame", fn := fun _ => fun
  | [d1, d2, d3, d4] => { results := [.lit (.bool true)], args := [d1, d2, d3, d4] }
  | _ => none }
def crcFrameRow : OpenClaim := { program := "ytlmnhnimneimkaadoor", sum := "310e08c50d215cb9fbac02cbfa39c71227dfe9db91a9449bc2417a5493971edf", func := "lagoon/lagoonlaw2.CrcFrame", spec := "crcFrame", unfollowed := true, recurses := true, named := ["lagoon/crc.steps"], apart := false, laid := [("lagoon/crc.steps", laid_lagoon_crc_steps)] }
def CrcFrameSaid : Prop := crcFrameRow.holds Tryd.pinned (OpenSpec.ofChange crcFrameSpec)

/-- ITS FALSE NEIGHBOUR: 'it returns false'. Refute it at one input. -/
def crcFrameWrong : ChangeSpec := { name := "crcFrame", fn := fun _ => fun
  | [d1, d2, d3, d4] => { results := [.lit (.bool false)], args := [d1, d2, d3, d4] }
  | _ => none }
def CrcFrameWrongFalsely : Prop := crcFrameRow.holds Tryd.pinned (OpenSpec.ofChange crcFrameWrong)

/-- 'lagoonlaw2.CrcSpoilt': WHATEVER THE INPUT: true; the input reads as it did. -/
def crcSpoiltSpec : ChangeSpec := { name := "crcSpoilt", fn := fun _ => fun
  | [d1, d2, d3] => { results := [.lit (.bool true)], args := [d1, d2, d3] }
  | _ => none }
def crcSpoiltRow : OpenClaim := { program := "ytlmnhnimneimkaadoor", sum := "310e08c50d215cb9fbac02cbfa39c71227dfe9db91a9449bc2417a5493971edf", func := "lagoon/lagoonlaw2.CrcSpoilt", spec := "crcSpoilt", unfollowed := true, recurses := true, named := ["lagoon/crc.steps"], apart := false, laid := [("lagoon/crc.steps", laid_lagoon_crc_steps)] }
def CrcSpoiltSaid : Prop := crcSpoiltRow.holds Tryd.pinned (OpenSpec.ofChange crcSpoiltSpec)

/-- ITS FALSE NEIGHBOUR: 'it returns false'. Refute it at one input. -/
def crcSpoiltWrong : ChangeSpec := { name := "crcSpoilt", fn := fun _ => fun
  | [d1, d2, d3] => { results := [.lit (.bool false)], args := [d1, d2, d3] }
  | _ => none }
def CrcSpoiltWrongFalsely : Prop := crcSpoiltRow.holds Tryd.pinned (OpenSpec.ofChange crcSpoiltWrong)

/-- 'lagoonlaw2.CrcBig': WHATEVER THE INPUT: true; the input reads as it did. -/
def crcBigSpec : ChangeSpec := { name := "crcBig", fn := fun _ => fun
  | [] => { results := [.lit (.bool true)], args := [] }
  | _ => none }
def crcBigRow : OpenClaim := { program := "ytlmnhnimneimkaadoor", sum := "310e08c50d215cb9fbac02cbfa39c71227dfe9db91a9449bc2417a5493971edf", func := "lagoon/lagoonlaw2.CrcBig", spec := "crcBig", unfollowed := true, recurses := true, named := ["lagoon/crc.steps"], apart := false, laid := [("lagoon/crc.steps", laid_lagoon_crc_steps)] }
def CrcBigSaid : Prop := crcBigRow.holds Tryd.pinned (OpenSpec.ofChange crcBigSpec)

/-- ITS FALSE NEIGHBOUR: 'it returns false'. Refute it at one input. -/
def crcBigWrong : ChangeSpec := { name := "crcBig", fn := fun _ => fun
  | [] => { results := [.lit (.bool false)], args := [] }
  | _ => none }
def CrcBigWrongFalsely : Prop := crcBigRow.holds Tryd.pinned (OpenSpec.ofChange crcBigWrong)

/- THE SECOND FORM. 'bulk': how many values and letters a reading holds, each counted each time it is reached (what is shared counts as often as it is met; a slice's spare places count too). A statement '..UptoSaid' is the law's where the arguments, and the package variables that the reading takes, are together of bulk at most 1048576: NARROWER than '..Said'. Prove '..Said' where nothing that the law and all that it calls make is longer than what came in: it says more and counts as full. Else prove '..UptoSaid'. A law counts once. -/
mutual
def uptoBulk {H : Type} : DataW H → Nat
  | .lit (.string bytes) => bytes.length + 1
  | .lit _ => 1
  | .nil => 1
  | .ptr d => uptoBulk d + 1
  | .slice elems spare => uptoBulkAll elems + uptoBulkAll spare + 1
  | .agg parts => uptoBulkAll parts + 1
  | .iface _ d => uptoBulk d + 1
  | .map entries => uptoBulkEntries entries + 1
  | .held _ => 1
def uptoBulkAll {H : Type} : List (DataW H) → Nat
  | [] => 0
  | d :: r => uptoBulk d + uptoBulkAll r
def uptoBulkEntries {H : Type} : List (Lit × DataW H) → Nat
  | [] => 0
  | x :: r => uptoBulkEntry x + uptoBulkEntries r
def uptoBulkEntry {H : Type} : Lit × DataW H → Nat
  | (.string bytes, d) => bytes.length + uptoBulk d + 1
  | (_, d) => uptoBulk d + 1
 end
def uptoSmall : (H : Type) → List (DataW H) → Bool := fun _ ds => decide (uptoBulkAll ds ≤ 1048576)
def OpenSpec.upto (s : _root_.Go.ChangeSpec) : _root_.Go.OpenSpec := { _root_.Go.OpenSpec.ofChange s with cond := some uptoSmall }

/-- 'lagoonlaw2.CrcParts', WHERE WHAT IT READS IS OF BULK AT MOST 1048576: true; the input reads as it did. -/
def crcPartsUptoRow : OpenClaim := { program := "ytlmnhnimneimkaadoor", sum := "310e08c50d215cb9fbac02cbfa39c71227dfe9db91a9449bc2417a5493971edf", func := "lagoon/lagoonlaw2.CrcParts", spec := "crcParts", unfollowed := true, recurses := true, named := ["lagoon/crc.steps"], apart := false, laid := [("lagoon/crc.steps", laid_lagoon_crc_steps)], narrowed := true }
def CrcPartsUptoSaid : Prop := crcPartsUptoRow.holds Tryd.pinned (OpenSpec.upto crcPartsSpec)

/-- 'lagoonlaw2.CrcFrame', WHERE WHAT IT READS IS OF BULK AT MOST 1048576: true; the input reads as it did. -/
def crcFrameUptoRow : OpenClaim := { program := "ytlmnhnimneimkaadoor", sum := "310e08c50d215cb9fbac02cbfa39c71227dfe9db91a9449bc2417a5493971edf", func := "lagoon/lagoonlaw2.CrcFrame", spec := "crcFrame", unfollowed := true, recurses := true, named := ["lagoon/crc.steps"], apart := false, laid := [("lagoon/crc.steps", laid_lagoon_crc_steps)], narrowed := true }
def CrcFrameUptoSaid : Prop := crcFrameUptoRow.holds Tryd.pinned (OpenSpec.upto crcFrameSpec)

/-- 'lagoonlaw2.CrcSpoilt', WHERE WHAT IT READS IS OF BULK AT MOST 1048576: true; the input reads as it did. -/
def crcSpoiltUptoRow : OpenClaim := { program := "ytlmnhnimneimkaadoor", sum := "310e08c50d215cb9fbac02cbfa39c71227dfe9db91a9449bc2417a5493971edf", func := "lagoon/lagoonlaw2.CrcSpoilt", spec := "crcSpoilt", unfollowed := true, recurses := true, named := ["lagoon/crc.steps"], apart := false, laid := [("lagoon/crc.steps", laid_lagoon_crc_steps)], narrowed := true }
def CrcSpoiltUptoSaid : Prop := crcSpoiltUptoRow.holds Tryd.pinned (OpenSpec.upto crcSpoiltSpec)

/-- 'lagoonlaw2.CrcBig', WHERE WHAT IT READS IS OF BULK AT MOST 1048576: true; the input reads as it did. -/
def crcBigUptoRow : OpenClaim := { program := "ytlmnhnimneimkaadoor", sum := "310e08c50d215cb9fbac02cbfa39c71227dfe9db91a9449bc2417a5493971edf", func := "lagoon/lagoonlaw2.CrcBig", spec := "crcBig", unfollowed := true, recurses := true, named := ["lagoon/crc.steps"], apart := false, laid := [("lagoon/crc.steps", laid_lagoon_crc_steps)], narrowed := true }
def CrcBigUptoSaid : Prop := crcBigUptoRow.holds Tryd.pinned (OpenSpec.upto crcBigSpec)

end Rows
end Go.Proofs.YtlmnhnimneimkaaDoor
