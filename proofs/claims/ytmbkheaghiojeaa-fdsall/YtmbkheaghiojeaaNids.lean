/-
  Stamps: isNode, isTime, Compare, Or, Cmp, Less, Valid of the program; Less, Same, Valid of the document's own text.
-/
import Derived.Test.YtmbkheaghiojeaaNbase
namespace Go.Proofs.Ytmbkheaghiojeaa.Ck
open Go.RowKit

/-- Same, of equal stamps. -/
theorem same_true (t n : Int) (w : World) :
    Calls Try.prog 14 #[idv t n, idv t n] w fun e w' => e = .returned (.bool true) ∧ Below w.heap.size w w' := by
  go_enter Try.func14, Try.ntmps14
  go_wp2
  go_ret
  exact ⟨rfl, (below_two w _ _).out⟩

end Go.Proofs.Ytmbkheaghiojeaa.Ck
