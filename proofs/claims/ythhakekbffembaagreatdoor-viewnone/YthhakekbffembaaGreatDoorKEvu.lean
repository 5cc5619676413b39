import Derived.Test.YthhakekbffembaaGreatDoorCards
import Derived.Test.YthhakekbffembaaGreatDoorTie
import Derived.Test.YthhakekbffembaaGreatDoorKEvt
import Derived.Test.YthhakekbffembaaGreatDoorKAshelfb
import Derived.WalkKit
import Derived.ProofKit
import Derived.OpenShut
import Derived.ChangeOld
import Derived.Deep.Slices
import Derived.Deep.Grids
import Derived.Deep.DeepHandedRow
import Derived.Lib.LaidTab
import Derived.LaidMore
import Derived.SizedLaws
import Derived.Stop.LaidErr

namespace Go.Proofs.YthhakekbffembaaGreatDoor
open Go.ChangeShapes Go.WideShapes Go.ChangeAt Go.RowKit Go.Deep
theorem own : ownKnob Tryz.prog.godebug = none := by kernel_rfl
theorem gPow : Tryz.prog.globalNamed "internal/strconv.uint64pow10" = some 3 := by kernel_rfl
theorem gPowType : (Tryz.prog.globals[3]?).map (·.type) = some 264 := by kernel_rfl
theorem cellsPow : Tryz.prog.cellsOf 264 = 20 := by kernel_rfl
theorem cellsU64 : Tryz.prog.cellsOf 186 = 1 := by kernel_rfl
theorem gSyn : Tryz.prog.globalNamed "strconv.ErrSyntax" = some 1 := by kernel_rfl
theorem gSynType : (Tryz.prog.globals[1]?).map (·.type) = some 203 := by kernel_rfl
theorem gRng : Tryz.prog.globalNamed "strconv.ErrRange" = some 2 := by kernel_rfl
theorem gRngType : (Tryz.prog.globals[2]?).map (·.type) = some 203 := by kernel_rfl
theorem cellsES : Tryz.prog.cellsOf 269 = 1 := by kernel_rfl
theorem cells9e : Tryz.prog.cellsOf 9 = 1 := by kernel_rfl
theorem star_es : "*" ++ "errors.errorString" = "*errors.errorString" := by decide
theorem row_es (u : TypeId) (h : Tryz.prog.typeName? 3 u = some "*errors.errorString") : u = 267 :=
 typeName_ptr_named (nm := "errors.errorString") (by rw [star_es]; kernel_rfl) (by kernel_rfl) (by decide) u (by rw [star_es]; exact h)
theorem lb_of_laid {W : World} (h : laidMetH Tryz.prog Rows.viewNoneRow.laid W) (hsh : W.ShapedOpen Tryz.prog) : Ck.Sh.Lb W := by
 have h3 := laidMet.tail (laidMet.tail h)
 have h4 := laidMet.tail h3
 have h5 := laidMet.tail h4
 have ht : Lib.TabIs Tryz.prog W "internal/strconv.uint64pow10" .u64 Lib.pow10Tab :=
   Lib.tabIs_of_head gPow gPowType Tryz.underlying264 Tryz.underlying186 cellsU64 cellsPow h3
 obtain ⟨a4, s4, hv4, -, -, -⟩ := laid_sentinel h4 gRng gRngType Tryz.underlying203 row_es Tryz.underlying267 Tryz.underlying269 rfl rfl Tryz.underlying9 cellsES cells9e
 obtain ⟨a5, s5, hv5, -, -, -⟩ := laid_sentinel h5 gSyn gSynType Tryz.underlying203 row_es Tryz.underlying267 Tryz.underlying269 rfl rfl Tryz.underlying9 cellsES cells9e
 have h0 := World.var?_cell gSyn hv5 0
 have h1 := World.var?_cell gRng hv4 0
 exact ⟨ht, ⟨267, .pointer (some a5), by simpa using h0⟩, ⟨267, .pointer (some a4), by simpa using h1⟩, Tryz.laysM145.s1_3 W hsh⟩
end Go.Proofs.YthhakekbffembaaGreatDoor
