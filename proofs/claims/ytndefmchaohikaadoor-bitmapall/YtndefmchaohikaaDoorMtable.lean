/-
  What every proof of this seat begins with: the table that package math/bits lays.
-/
import Derived.Test.YtndefmchaohikaaDoorCards
import Derived.Test.YtndefmchaohikaaDoorTie
import Derived.Test.YtndefmchaohikaaDoorMbeg
import Derived.WalkKit
import Derived.ProofKit
import Derived.OpenShut
import Derived.Deep.DeepHandedRow
import Derived.Lib.LaidTab
import Derived.LaidMore
namespace Go.Proofs.YtndefmchaohikaaDoor
open Go.ChangeShapes Go.WideShapes Go.ChangeAt Go.RowKit

theorem own : ownKnob Tryd.prog.godebug = none := by kernel_rfl
theorem laidOut : laidOutB Tryd.prog = true := by kernel_rfl
theorem gTab : Tryd.prog.globalNamed "math/bits.deBruijn64tab" = some 0 := by kernel_rfl
theorem gTabType : (Tryd.prog.globals[0]?).map (·.type) = some 57 := by kernel_rfl
theorem cellsTab : Tryd.prog.cellsOf 57 = 64 := by kernel_rfl
theorem cellsU8 : Tryd.prog.cellsOf 5 = 1 := by kernel_rfl

def deB : List Int := Lib.deBruijn64tab.map fun (n : Nat) => (n : Int)
theorem laid_deB {H : Type} : (Rows.laid_math_bits_deBruijn64tab : DataW H) = Lib.tabData .u8 deB := rfl

/-- The list that every row of this seat bears. -/
theorem tab_of_laid {W : World} (h : laidMetH Tryd.prog [("math/bits.deBruijn64tab", Rows.laid_math_bits_deBruijn64tab)] W) : Tab64 W := by
  have ht : Lib.TabIs Tryd.prog W "math/bits.deBruijn64tab" .u8 deB :=
    Lib.tabIs_of_head (rest := []) gTab gTabType Tryd.underlying57 Tryd.underlying5 cellsU8 cellsTab h
  intro k hk
  have hc := ht.cell gTab k (show k < deB.length from hk)
  rw [hc]
  have : deB.getD k 0 = ((Lib.deBruijn64tab.getD k 0 : Nat) : Int) := by
    unfold deB
    rw [List.getD, List.getElem?_map, List.getD]
    have hl : k < Lib.deBruijn64tab.length := hk
    rw [List.getElem?_eq_getElem hl]
    rfl
  rw [← this]

end Go.Proofs.YtndefmchaohikaaDoor
