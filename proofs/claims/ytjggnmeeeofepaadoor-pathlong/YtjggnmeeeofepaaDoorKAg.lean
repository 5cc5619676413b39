/-
  The document's Split.
-/
import Derived.Test.YtjggnmeeeofepaaDoorKAd
import Derived.Deep.LoopGhost
import Derived.Laws.AppendOwn
import Derived.Laws.IdiomStrings

namespace Go.Proofs.YtjggnmeeeofepaaDoor.Ck.Sh
open Go.RowKit Go.Lib

attribute [local go_sem] Oper.semAt_some

theorem split_none1 {l : List UInt8} (h : (1 : UInt8) ∉ l) : SplitOf l none := fun nm t n _ _ e => h (by rw [e]; unfold sufL; simp)
theorem ext_head (l : List UInt8) (i : Nat) : (bas l).extract 0 i = bas (l.take i) := by
  apply ByteArray.ext
  rw [ByteArray.data_extract]
  apply Array.toList_inj.1
  simp [bas]
theorem ext_tail (l : List UInt8) (i : Nat) : (bas l).extract i l.length = bas (l.drop i) := by
  apply ByteArray.ext
  rw [ByteArray.data_extract]
  apply Array.toList_inj.1
  simp [bas]
  exact List.take_of_length_le (by simp)

end Go.Proofs.YtjggnmeeeofepaaDoor.Ck.Sh
