/-
  What the cards of package path begin with: what the library's variables hold.
-/
import Derived.Test.YtjggnmeeeofepaaDoorCards
import Derived.Test.YtjggnmeeeofepaaDoorTie
import Derived.Test.YtjggnmeeeofepaaDoorKAc
import Derived.WalkKit
import Derived.ProofKit
import Derived.OpenShut
import Derived.ChangeOld
import Derived.Deep.Slices
import Derived.Deep.Grids
import Derived.Deep.DeepHandedRow
import Derived.Deep.DeepWitnessRowRef
import Derived.Lib.LaidTab
import Derived.LaidMore
import Derived.Lay
import Derived.SizedLaws
import Derived.Stop.LaidErr

namespace Go.Proofs.YtjggnmeeeofepaaDoor
open Go.ChangeShapes Go.WideShapes Go.ChangeAt Go.RowKit Go.Deep

theorem own : ownKnob Tryd.prog.godebug = none := by kernel_rfl
theorem laidOut : laidOutB Tryd.prog = true := by kernel_rfl
theorem gPow : Tryd.prog.globalNamed "internal/strconv.uint64pow10" = some 5 := by kernel_rfl
theorem gPowType : (Tryd.prog.globals[5]?).map (·.type) = some 102 := by kernel_rfl
theorem cellsPow : Tryd.prog.cellsOf 102 = 20 := by kernel_rfl
theorem cellsU64 : Tryd.prog.cellsOf 79 = 1 := by kernel_rfl
theorem gSyn : Tryd.prog.globalNamed "strconv.ErrSyntax" = some 3 := by kernel_rfl
theorem gSynType : (Tryd.prog.globals[3]?).map (·.type) = some 49 := by kernel_rfl
theorem gRng : Tryd.prog.globalNamed "strconv.ErrRange" = some 4 := by kernel_rfl
theorem gRngType : (Tryd.prog.globals[4]?).map (·.type) = some 49 := by kernel_rfl
theorem cellsES : Tryd.prog.cellsOf 107 = 1 := by kernel_rfl
theorem cells9e : Tryd.prog.cellsOf 9 = 1 := by kernel_rfl
theorem star_es : "*" ++ "errors.errorString" = "*errors.errorString" := by decide
theorem row_es (u : TypeId) (h : Tryd.prog.typeName? 3 u = some "*errors.errorString") : u = 105 :=
  typeName_ptr_named (nm := "errors.errorString") (by rw [star_es]; kernel_rfl) (by kernel_rfl) (by decide) u (by rw [star_es]; exact h)

theorem lb_of_laid {W : World} (h : laidMetH Tryd.prog Rows.pathParseRow.laid W) (hsh : W.ShapedOpen Tryd.prog) : Ck.Sh.Lb W := by
  have h3 := laidMet.tail (laidMet.tail h)
  have h4 := laidMet.tail (laidMet.tail h3)
  have h5 := laidMet.tail h4
  have ht : Lib.TabIs Tryd.prog W "internal/strconv.uint64pow10" .u64 Lib.pow10Tab :=
    Lib.tabIs_of_head gPow gPowType Tryd.underlying102 Tryd.underlying79 cellsU64 cellsPow h3
  obtain ⟨a4, s4, hv4, -, -, -⟩ := laid_sentinel h4 gRng gRngType Tryd.underlying49 row_es Tryd.underlying105 Tryd.underlying107 rfl rfl Tryd.underlying9 cellsES cells9e
  obtain ⟨a5, s5, hv5, -, -, -⟩ := laid_sentinel h5 gSyn gSynType Tryd.underlying49 row_es Tryd.underlying105 Tryd.underlying107 rfl rfl Tryd.underlying9 cellsES cells9e
  have h0 := World.var?_cell gSyn hv5 0
  have h1 := World.var?_cell gRng hv4 0
  exact ⟨ht, ⟨105, .pointer (some a5), by simpa using h0⟩, ⟨105, .pointer (some a4), by simpa using h1⟩, Tryd.laysM145.s1_3 W hsh⟩

end Go.Proofs.YtjggnmeeeofepaaDoor
