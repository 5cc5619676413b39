/-
  WalNone of the law.
-/
import Derived.Test.YtcchhalmlkdepaaDoorWbegun
namespace Go.Proofs.YtcchhalmlkdepaaDoor
open Go.RowKit Go.Maps Go.Sort Go.Shelf

set_option maxRecDepth 8000 in
set_option maxHeartbeats 1000000 in
theorem none_true (w : World) (ht : Tab w) : Calls Tryd.prog 3 #[] w fun e w' => e = .returned (.bool true) ∧ Below w.heap.size w w' := by
  have c1 := vRead_nil 0 w
  have c2 := mount_nil w
  have c3 : ∀ W : World, Below w.heap.size w W → Calls Tryd.prog 6 #[] W fun e w' => e = .returned (.bool true) ∧ Below w.heap.size w w' := fun W hW => (begun_true W (below_tab hW ht.lt ht)).mono fun e w' ⟨h1, h2⟩ => ⟨h1, hW.trans (h2.mono hW.size)⟩
  have c4 := fun W => vCommit_nil none 0 0 W
  have c5 := fun W => vSync_nil W
  have c6 := fun W => vBlocks_nil W
  have c7 := fun W => vCommits_nil W
  have c8 := fun W => format_nil W
  go_enter Tryd.func3, Tryd.ntmps3
  go_wp2_with (first
    | (go_at_call 4; refine Calls_on c1 ?_)
    | (go_at_call 5; refine c2.mono ?_; rintro e w1 ⟨rfl, hB1⟩; clear c2; have c3' := c3 w1 hB1; clear c3)
    | (go_at_call 6; refine c3'.mono ?_; rintro e w2 ⟨rfl, hB2⟩; clear c3')
    | (go_at_call 7; refine Calls_on (c4 _) ?_)
    | (go_at_call 8; refine Calls_on (c5 _) ?_)
    | (go_at_call 9; refine Calls_on (c6 _) ?_)
    | (go_at_call 10; refine Calls_on (c7 _) ?_)
    | (go_at_call 11; refine (c8 _).mono ?_; rintro e w3 ⟨rfl, hB3⟩))
  go_ret
  exact ⟨rfl, hB2.trans (hB3.mono hB2.size)⟩

end Go.Proofs.YtcchhalmlkdepaaDoor
