/-
  ClashSplit's law.
-/
import Derived.Test.YtjajbhpcjickbaaDoorKAk

namespace Go.Proofs.YtjajbhpcjickbaaDoor.Ck.Sh
open Go.RowKit Go.Lib Go.Maps

attribute [local go_sem] Oper.semAt_some

def sameB (t n t' n' : Int) : Bool := decide (t = t') && decide (n = n')
theorem same_any (t n t' n' : Int) (w : World) : Calls Tryd.prog 12 #[idv t n, idv t' n'] w fun e w' => e = .returned (.bool (sameB t n t' n')) ∧ Below w.heap.size w w' := by
  have HB : Hid (∀ o o', Below w.heap.size w ((w.alloc o).alloc o')) := fun o o' => (below_two w o o').out
  by_cases h0 : t = t'
  · subst h0
    have HE : Hid (sameB t n t n' = decide (n = n')) := by show _ = _; simp [sameB]
    go_enter Tryd.func12, Tryd.ntmps12
    go_wp2
    go_ret
    rw [HE.out]
    exact ⟨by simp; rfl, HB.out _ _⟩
  · have HE : Hid (sameB t n t' n' = false) := by show _ = _; simp [sameB, h0]
    go_enter Tryd.func12, Tryd.ntmps12
    go_wp2
    go_ret
    rw [HE.out]
    exact ⟨by simp, HB.out _ _⟩
end Go.Proofs.YtjajbhpcjickbaaDoor.Ck.Sh
