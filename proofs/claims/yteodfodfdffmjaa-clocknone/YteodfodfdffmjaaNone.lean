/-
  The law ClockNone returns true.
-/
import Derived.Test.YteodfodfdffmjaaBegun
namespace Go.Proofs.Yteodfodfdffmjaa
open Go.RowKit

set_option maxRecDepth 8000 in
set_option maxHeartbeats 1000000 in
theorem none_any (w : World) : Calls Try.prog 5 #[] w fun e w' => e = .returned (.bool true) ∧ Below w.heap.size w w' := by
  have c15 := next_nil w
  have c13 : ∀ W, Calls Try.prog 13 #[.pointer none, idv 1 0] W fun e w' => e = .returned (.tuple #[.bool false, .int .i64 22]) ∧ Below W.heap.size W w' := see_nil 1 0
  go_enter Try.func5, Try.ntmps5
  go_wp2_with (first
    | (go_at_call 15; refine Calls_new c15 ?_; intro w1 HB1)
    | (go_at_call 13; refine Calls_new (c13 _) ?_; intro w2 HB2)
    | (go_at_call 6; refine Calls_new (begun_any _) ?_; intro w3 HB3)
    | (go_at_call 18; refine Calls_on (now_nil _) ?_)
    | (go_at_call 19; refine Calls_on (lease_nil _) ?_))
  go_ret
  have h1 := HB1.out.trans (((below_new w1 (.cells #[.int .i64 0, .int .i64 0] 23)).out).mono HB1.out.size)
  have h2 := h1.trans (HB2.out.mono h1.size)
  exact ⟨rfl, h2.trans (HB3.out.mono h2.size)⟩

end Go.Proofs.Yteodfodfdffmjaa
