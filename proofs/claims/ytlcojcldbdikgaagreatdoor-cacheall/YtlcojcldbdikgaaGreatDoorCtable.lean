/-
  What every proof of this seat begins with: the table that the package lays.
-/
import Derived.Test.YtlcojcldbdikgaaGreatDoorCards
import Derived.Test.YtlcojcldbdikgaaGreatDoorTie
import Derived.Test.YtlcojcldbdikgaaGreatDoorCbase
import Derived.WalkKit
import Derived.ProofKit
import Derived.OpenShut
import Derived.Deep.DeepHandedRow
import Derived.Lib.LaidTab
import Derived.LaidMore
namespace Go.Proofs.YtlcojcldbdikgaaGreatDoor
open Go.ChangeShapes Go.WideShapes Go.ChangeAt Go.RowKit

theorem own : ownKnob Tryz.prog.godebug = none := by kernel_rfl
theorem laidOut : laidOutB Tryz.prog = true := by kernel_rfl
theorem gTab : Tryz.prog.globalNamed "lagoon/crc.steps" = some 0 := by kernel_rfl
theorem gTabType : (Tryz.prog.globals[0]?).map (·.type) = some 183 := by kernel_rfl
theorem cellsTab : Tryz.prog.cellsOf 183 = 16 := by kernel_rfl
theorem cellsU32 : Tryz.prog.cellsOf 131 = 1 := by kernel_rfl

/-- The list that every row of this seat bears. -/
theorem tab_of_laid {W : World} (h : laidMetH Tryz.prog [("lagoon/crc.steps", Rows.laid_lagoon_crc_steps)] W) : Tab W := by
  have ht : Lib.TabIs Tryz.prog W "lagoon/crc.steps" .u32 [0, 498536548, 997073096, 651767980, 1994146192, 1802195444, 1303535960, 1342533948, 3988292384, 4027552580, 3604390888, 3412177804, 2607071920, 2262029012, 2685067896, 3183342108] :=
    Lib.tabIs_of_head (rest := []) gTab gTabType Tryz.underlying183 Tryz.underlying131 cellsU32 cellsTab h
  intro k z hk
  have hlt : k < 16 := (List.getElem?_eq_some_iff.1 hk).1
  have hc := ht.cell gTab k (by simpa using hlt)
  rw [hc]
  match k, hlt with
  | 0, _ | 1, _ | 2, _ | 3, _ | 4, _ | 5, _ | 6, _ | 7, _ | 8, _ | 9, _ | 10, _ | 11, _ | 12, _ | 13, _ | 14, _ | 15, _ => cases hk; rfl

end Go.Proofs.YtlcojcldbdikgaaGreatDoor
