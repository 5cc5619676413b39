/-
  No cell of these rows narrows 'for every input' (looked for: loops, veiled, ifaces, maps, wideKeys, modest, calm, conditions, laid).
  DERIVED. THE GIVEN ROWS OF THIS SEAT. 4 by the template 'for every input the law returns true; each argument reads behind the call as it read before'; 0 by the template 'total and deterministic' (their statements: YtgpbphjplbhfmaaTotals.lean).
  GIVEN WITH THE SEED: the statements are not yours to turn. If you find one false, say at which input.
  Laid BY PROGRAM, IN A SANDBOX (cutbox-rows.mjs): the forced cells as the released guide's own fill.sh prints them over the translation baccb0dad6cd6c37… (all of the seat's roots in one cut). By AI agents, Wed Nov 11 2026. No macro, syntax, notation, axiom, sorry.
-/
import Derived.Test.YtgpbphjplbhfmaaChecked
import GoSem.Claim
import GoSem.ClaimJoined
import GoSem.ClaimMapViews
import Derived.JoinedTies
import Derived.KernelRfl
namespace Go.Proofs.Ytgpbphjplbhfmaa
/- THE CELL 'sum', in the pinned program and in every row, IS THE sha256 OF THE DUMP (.gsa) THAT YtgpbphjplbhfmaaProg.lean LOADS. Nothing in Lean hashes anything: it is a label: what it is worth is what the hold of that sum in a sandbox is worth. -/
noncomputable def Try.pinned : Pinned := { name := "ytgpbphjplbhfmaa", sum := "baccb0dad6cd6c37e6acf9e14688cbd3b7c3d78219c1953e875c64b86eba9a3d", checked := Try.checked }
namespace Rows
def none {H : Type} : Left H := { results := [], args := [] }

/-- 'lagoonlaw15.TreeSound': WHATEVER THE INPUT: true; the input reads as it did. -/
def treeSoundSpec : ChangeSpec := { name := "treeSound", fn := fun _ => fun
  | [d] => { results := [.lit (.bool true)], args := [d] }
  | _ => none }
def treeSoundRow : OpenClaim := { program := "ytgpbphjplbhfmaa", sum := "baccb0dad6cd6c37e6acf9e14688cbd3b7c3d78219c1953e875c64b86eba9a3d", func := "lagoon/lagoonlaw15.TreeSound", spec := "treeSound", inPlace := ["internal/bytealg.IndexByteString", "slices.overlaps[*lagoon/movetree.object]", "slices.overlaps[*lagoon/movetree.step]"], unfollowed := true, recurses := true, plainKeys := false, apart := false }
def TreeSoundSaid : Prop := treeSoundRow.holds Try.pinned (OpenSpec.ofChange treeSoundSpec)

/-- ITS FALSE NEIGHBOUR: 'it returns false'. Refute it at one input. -/
def treeSoundWrong : ChangeSpec := { name := "treeSound", fn := fun _ => fun
  | [d] => { results := [.lit (.bool false)], args := [d] }
  | _ => none }
def TreeSoundWrongFalsely : Prop := treeSoundRow.holds Try.pinned (OpenSpec.ofChange treeSoundWrong)

/-- 'lagoonlaw15.TreeNone': WHATEVER THE INPUT: true; the input reads as it did. -/
def treeNoneSpec : ChangeSpec := { name := "treeNone", fn := fun _ => fun
  | [] => { results := [.lit (.bool true)], args := [] }
  | _ => none }
def treeNoneRow : OpenClaim := { program := "ytgpbphjplbhfmaa", sum := "baccb0dad6cd6c37e6acf9e14688cbd3b7c3d78219c1953e875c64b86eba9a3d", func := "lagoon/lagoonlaw15.TreeNone", spec := "treeNone", inPlace := ["internal/bytealg.IndexByteString", "slices.overlaps[*lagoon/movetree.object]", "slices.overlaps[*lagoon/movetree.step]"], unfollowed := true, recurses := true, plainKeys := false, apart := false }
def TreeNoneSaid : Prop := treeNoneRow.holds Try.pinned (OpenSpec.ofChange treeNoneSpec)

/-- ITS FALSE NEIGHBOUR: 'it returns false'. Refute it at one input. -/
def treeNoneWrong : ChangeSpec := { name := "treeNone", fn := fun _ => fun
  | [] => { results := [.lit (.bool false)], args := [] }
  | _ => none }
def TreeNoneWrongFalsely : Prop := treeNoneRow.holds Try.pinned (OpenSpec.ofChange treeNoneWrong)

/-- 'lagoonlaw15.TreeCross': WHATEVER THE INPUT: true; the input reads as it did. -/
def treeCrossSpec : ChangeSpec := { name := "treeCross", fn := fun _ => fun
  | [d1, d2, d3, d4, d5] => { results := [.lit (.bool true)], args := [d1, d2, d3, d4, d5] }
  | _ => none }
def treeCrossRow : OpenClaim := { program := "ytgpbphjplbhfmaa", sum := "baccb0dad6cd6c37e6acf9e14688cbd3b7c3d78219c1953e875c64b86eba9a3d", func := "lagoon/lagoonlaw15.TreeCross", spec := "treeCross", inPlace := ["internal/bytealg.IndexByteString", "slices.overlaps[*lagoon/movetree.object]", "slices.overlaps[*lagoon/movetree.step]"], unfollowed := true, recurses := true, plainKeys := false, apart := false }
def TreeCrossSaid : Prop := treeCrossRow.holds Try.pinned (OpenSpec.ofChange treeCrossSpec)

/-- ITS FALSE NEIGHBOUR: 'it returns false'. Refute it at one input. -/
def treeCrossWrong : ChangeSpec := { name := "treeCross", fn := fun _ => fun
  | [d1, d2, d3, d4, d5] => { results := [.lit (.bool false)], args := [d1, d2, d3, d4, d5] }
  | _ => none }
def TreeCrossWrongFalsely : Prop := treeCrossRow.holds Try.pinned (OpenSpec.ofChange treeCrossWrong)

/-- 'lagoonlaw15.TreeTrash': WHATEVER THE INPUT: true; the input reads as it did. -/
def treeTrashSpec : ChangeSpec := { name := "treeTrash", fn := fun _ => fun
  | [d1, d2] => { results := [.lit (.bool true)], args := [d1, d2] }
  | _ => none }
def treeTrashRow : OpenClaim := { program := "ytgpbphjplbhfmaa", sum := "baccb0dad6cd6c37e6acf9e14688cbd3b7c3d78219c1953e875c64b86eba9a3d", func := "lagoon/lagoonlaw15.TreeTrash", spec := "treeTrash", inPlace := ["internal/bytealg.IndexByteString", "slices.overlaps[*lagoon/movetree.object]", "slices.overlaps[*lagoon/movetree.step]"], unfollowed := true, recurses := true, plainKeys := false, apart := false }
def TreeTrashSaid : Prop := treeTrashRow.holds Try.pinned (OpenSpec.ofChange treeTrashSpec)

/-- ITS FALSE NEIGHBOUR: 'it returns false'. Refute it at one input. -/
def treeTrashWrong : ChangeSpec := { name := "treeTrash", fn := fun _ => fun
  | [d1, d2] => { results := [.lit (.bool false)], args := [d1, d2] }
  | _ => none }
def TreeTrashWrongFalsely : Prop := treeTrashRow.holds Try.pinned (OpenSpec.ofChange treeTrashWrong)

/- THE SECOND FORM. 'bulk': how many values and letters a reading holds, each counted each time it is reached (what is shared counts as often as it is met; a slice's spare places count too). A statement '..UptoSaid' is the law's where the arguments, and the package variables that the reading takes, are together of bulk at most 1048576: NARROWER than '..Said'. Prove '..Said' where nothing that the law and all that it calls make is longer than what came in: it says more and counts as full. Else prove '..UptoSaid'. A law counts once. -/
mutual
def uptoBulk {H : Type} : DataW H → Nat
  | .lit (.string bytes) => bytes.length + 1
  | .lit _ => 1
  | .nil => 1
  | .ptr d => uptoBulk d + 1
  | .slice elems spare => uptoBulkAll elems + uptoBulkAll spare + 1
  | .agg parts => uptoBulkAll parts + 1
  | .iface _ d => uptoBulk d + 1
  | .map entries => uptoBulkEntries entries + 1
  | .held _ => 1
def uptoBulkAll {H : Type} : List (DataW H) → Nat
  | [] => 0
  | d :: r => uptoBulk d + uptoBulkAll r
def uptoBulkEntries {H : Type} : List (Lit × DataW H) → Nat
  | [] => 0
  | x :: r => uptoBulkEntry x + uptoBulkEntries r
def uptoBulkEntry {H : Type} : Lit × DataW H → Nat
  | (.string bytes, d) => bytes.length + uptoBulk d + 1
  | (_, d) => uptoBulk d + 1
 end
def uptoSmall : (H : Type) → List (DataW H) → Bool := fun _ ds => decide (uptoBulkAll ds ≤ 1048576)
def OpenSpec.upto (s : _root_.Go.ChangeSpec) : _root_.Go.OpenSpec := { _root_.Go.OpenSpec.ofChange s with cond := some uptoSmall }

/-- 'lagoonlaw15.TreeSound', WHERE WHAT IT READS IS OF BULK AT MOST 1048576: true; the input reads as it did. -/
def treeSoundUptoRow : OpenClaim := { program := "ytgpbphjplbhfmaa", sum := "baccb0dad6cd6c37e6acf9e14688cbd3b7c3d78219c1953e875c64b86eba9a3d", func := "lagoon/lagoonlaw15.TreeSound", spec := "treeSound", inPlace := ["internal/bytealg.IndexByteString", "slices.overlaps[*lagoon/movetree.object]", "slices.overlaps[*lagoon/movetree.step]"], unfollowed := true, recurses := true, plainKeys := false, apart := false, narrowed := true }
def TreeSoundUptoSaid : Prop := treeSoundUptoRow.holds Try.pinned (OpenSpec.upto treeSoundSpec)

/-- 'lagoonlaw15.TreeNone', WHERE WHAT IT READS IS OF BULK AT MOST 1048576: true; the input reads as it did. -/
def treeNoneUptoRow : OpenClaim := { program := "ytgpbphjplbhfmaa", sum := "baccb0dad6cd6c37e6acf9e14688cbd3b7c3d78219c1953e875c64b86eba9a3d", func := "lagoon/lagoonlaw15.TreeNone", spec := "treeNone", inPlace := ["internal/bytealg.IndexByteString", "slices.overlaps[*lagoon/movetree.object]", "slices.overlaps[*lagoon/movetree.step]"], unfollowed := true, recurses := true, plainKeys := false, apart := false, narrowed := true }
def TreeNoneUptoSaid : Prop := treeNoneUptoRow.holds Try.pinned (OpenSpec.upto treeNoneSpec)

/-- 'lagoonlaw15.TreeCross', WHERE WHAT IT READS IS OF BULK AT MOST 1048576: true; the input reads as it did. -/
def treeCrossUptoRow : OpenClaim := { program := "ytgpbphjplbhfmaa", sum := "baccb0dad6cd6c37e6acf9e14688cbd3b7c3d78219c1953e875c64b86eba9a3d", func := "lagoon/lagoonlaw15.TreeCross", spec := "treeCross", inPlace := ["internal/bytealg.IndexByteString", "slices.overlaps[*lagoon/movetree.object]", "slices.overlaps[*lagoon/movetree.step]"], unfollowed := true, recurses := true, plainKeys := false, apart := false, narrowed := true }
def TreeCrossUptoSaid : Prop := treeCrossUptoRow.holds Try.pinned (OpenSpec.upto treeCrossSpec)

/-- 'lagoonlaw15.TreeTrash', WHERE WHAT IT READS IS OF BULK AT MOST 1048576: true; the input reads as it did. -/
def treeTrashUptoRow : OpenClaim := { program := "ytgpbphjplbhfmaa", sum := "baccb0dad6cd6c37e6acf9e14688cbd3b7c3d78219c1953e875c64b86eba9a3d", func := "lagoon/lagoonlaw15.TreeTrash", spec := "treeTrash", inPlace := ["internal/bytealg.IndexByteString", "slices.overlaps[*lagoon/movetree.object]", "slices.overlaps[*lagoon/movetree.step]"], unfollowed := true, recurses := true, plainKeys := false, apart := false, narrowed := true }
def TreeTrashUptoSaid : Prop := treeTrashUptoRow.holds Try.pinned (OpenSpec.upto treeTrashSpec)

end Rows
end Go.Proofs.Ytgpbphjplbhfmaa
