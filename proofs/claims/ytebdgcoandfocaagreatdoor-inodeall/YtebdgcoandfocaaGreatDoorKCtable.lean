/-
  What every proof of this seat begins with: the table that the package lays.
-/
import Derived.Test.YtebdgcoandfocaaGreatDoorCards
import Derived.Test.YtebdgcoandfocaaGreatDoorTie
import Derived.Test.YtebdgcoandfocaaGreatDoorKCbase
import Derived.WalkKit
import Derived.ProofKit
import Derived.OpenShut
import Derived.Deep.DeepHandedRow
import Derived.Lib.LaidTab
import Derived.LaidMore

namespace Go.Proofs.YtebdgcoandfocaaGreatDoor
open Go.ChangeShapes Go.WideShapes Go.ChangeAt Go.RowKit

theorem own : ownKnob Tryz.prog.godebug = none := by kernel_rfl
theorem laidOut : laidOutB Tryz.prog = true := by kernel_rfl
theorem gTab : Tryz.prog.globalNamed "lagoon/crc.steps" = some 0 := by kernel_rfl
theorem gTabType : (Tryz.prog.globals[0]?).map (·.type) = some 205 := by kernel_rfl
theorem cellsTab : Tryz.prog.cellsOf 205 = 16 := by kernel_rfl
theorem cellsU32 : Tryz.prog.cellsOf 53 = 1 := by kernel_rfl

end Go.Proofs.YtebdgcoandfocaaGreatDoor
