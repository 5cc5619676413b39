/-
  What every card of this seat begins with: what the library's variables hold; IDs and texts that came in.
-/
import Derived.Test.YtjajbhpcjickbaaDoorCards
import Derived.Test.YtjajbhpcjickbaaDoorTie
import Derived.Test.YtjajbhpcjickbaaDoorKAk
import Derived.Test.YtjajbhpcjickbaaDoorKAshelfb
import Derived.WalkKit
import Derived.ProofKit
import Derived.OpenShut
import Derived.ChangeOld
import Derived.Deep.Slices
import Derived.Deep.Grids
import Derived.Deep.DeepHandedRow
import Derived.Lib.LaidTab
import Derived.LaidMore
import Derived.SizedLaws
import Derived.Stop.LaidErr

namespace Go.Proofs.YtjajbhpcjickbaaDoor
open Go.ChangeShapes Go.WideShapes Go.ChangeAt Go.RowKit Go.Deep

theorem own : ownKnob Tryd.prog.godebug = none := by kernel_rfl
theorem laidOut : laidOutB Tryd.prog = true := by kernel_rfl
theorem gPow : Tryd.prog.globalNamed "internal/strconv.uint64pow10" = some 1 := by kernel_rfl
theorem gPowType : (Tryd.prog.globals[1]?).map (·.type) = some 82 := by kernel_rfl
theorem cellsPow : Tryd.prog.cellsOf 82 = 20 := by kernel_rfl
theorem cellsU64 : Tryd.prog.cellsOf 65 = 1 := by kernel_rfl
theorem gSyn : Tryd.prog.globalNamed "strconv.ErrSyntax" = some 2 := by kernel_rfl
theorem gSynType : (Tryd.prog.globals[2]?).map (·.type) = some 50 := by kernel_rfl
theorem gRng : Tryd.prog.globalNamed "strconv.ErrRange" = some 3 := by kernel_rfl
theorem gRngType : (Tryd.prog.globals[3]?).map (·.type) = some 50 := by kernel_rfl
theorem cellsES : Tryd.prog.cellsOf 96 = 1 := by kernel_rfl
theorem cells9e : Tryd.prog.cellsOf 9 = 1 := by kernel_rfl
theorem star_es : "*" ++ "errors.errorString" = "*errors.errorString" := by decide
theorem row_es (u : TypeId) (h : Tryd.prog.typeName? 3 u = some "*errors.errorString") : u = 94 :=
  typeName_ptr_named (nm := "errors.errorString") (by rw [star_es]; kernel_rfl) (by kernel_rfl) (by decide) u (by rw [star_es]; exact h)

theorem lb_of_laid {W : World} (h : laidMetH Tryd.prog Rows.clashSplitRow.laid W) (hsh : W.ShapedOpen Tryd.prog) : Ck.Sh.Lb W := by
  have h3 := laidMet.tail (laidMet.tail h)
  have h4 := laidMet.tail h3
  have h5 := laidMet.tail h4
  have ht : Lib.TabIs Tryd.prog W "internal/strconv.uint64pow10" .u64 Lib.pow10Tab :=
    Lib.tabIs_of_head gPow gPowType Tryd.underlying82 Tryd.underlying65 cellsU64 cellsPow h3
  obtain ⟨a4, s4, hv4, -, -, -⟩ := laid_sentinel h4 gRng gRngType Tryd.underlying50 row_es Tryd.underlying94 Tryd.underlying96 rfl rfl Tryd.underlying9 cellsES cells9e
  obtain ⟨a5, s5, hv5, -, -, -⟩ := laid_sentinel h5 gSyn gSynType Tryd.underlying50 row_es Tryd.underlying94 Tryd.underlying96 rfl rfl Tryd.underlying9 cellsES cells9e
  have h0 := World.var?_cell gSyn hv5 0
  have h1 := World.var?_cell gRng hv4 0
  exact ⟨ht, ⟨94, .pointer (some a5), by simpa using h0⟩, ⟨94, .pointer (some a4), by simpa using h1⟩, Tryd.laysM145.s1_3 W hsh⟩

theorem cellsIDc : Tryd.prog.cellsOf 29 = 2 := by kernel_rfl
theorem cells2c : Tryd.prog.cellsOf 2 = 1 := by kernel_rfl
theorem cells3c : Tryd.prog.cellsOf 3 = 1 := by kernel_rfl
theorem list2c {α : Type} {l : List α} (h : l.length = 2) : ∃ a b, l = [a, b] := by
  match l, h with
  | [a, b], _ => exact ⟨a, b, rfl⟩
theorem wf_in {n : Int} (h : (Lit.int .i64 n).wf = true) : Ck.Sh.InI n := by
  simp [Lit.wf] at h
  have h1 : (-9223372036854775808 : Int) ≤ n := h.1
  have h2 : n ≤ 9223372036854775807 := h.2
  exact ⟨h1, h2⟩
theorem id_cells {H : Type} {enc : TypeId × Value → H} {W : World} {fuel : Nat} {cs : List Value} {x : DataW H × List MemPlace} (h : DataW.trod enc Tryd.prog W 0 (fun _ => true) true fuel 29 cs = some x) :
    ∃ t n : Int, cs = [.int .i64 t, .int .i64 n] ∧ Ck.Sh.InI t ∧ Ck.Sh.InI n := by
  obtain ⟨zs, n', _, _, hl, hlen, hf⟩ := DataW.trod_struct Tryd.underlying29 h
  rw [cellsIDc] at hl
  obtain ⟨v0, v1, rfl⟩ := list2c hl
  obtain ⟨z0, z1, rfl⟩ := list2c (show zs.length = 2 from hlen)
  have g0 := hf 0 _ rfl
  have g1 := hf 1 _ rfl
  simp [cells3c, cells2c] at g0 g1
  obtain ⟨tt, e3, _, w1⟩ := DataW.trod_int Tryd.underlying2 g0
  obtain ⟨dd, e4, _, w2⟩ := DataW.trod_int Tryd.underlying3 g1
  simp at e3 e4
  subst e3 e4
  exact ⟨tt, dd, rfl, wf_in w1, wf_in w2⟩
end Go.Proofs.YtjajbhpcjickbaaDoor
