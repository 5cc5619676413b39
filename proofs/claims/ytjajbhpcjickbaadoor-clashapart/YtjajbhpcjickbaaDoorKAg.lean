/-
  The document's Split.
-/
import Derived.Test.YtjajbhpcjickbaaDoorKAe

namespace Go.Proofs.YtjajbhpcjickbaaDoor.Ck.Sh
open Go.RowKit Go.Lib

attribute [local go_sem] Oper.semAt_some

theorem split_none1 {l : List UInt8} (h : (1 : UInt8) ∉ l) : SplitOf l none := fun nm t n _ _ e => h (by rw [e]; unfold sufL; simp)
end Go.Proofs.YtjajbhpcjickbaaDoor.Ck.Sh
