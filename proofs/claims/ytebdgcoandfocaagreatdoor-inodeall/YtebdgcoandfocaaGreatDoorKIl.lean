/-
  Package inode: a change of one block is done.
-/
import Derived.Test.YtebdgcoandfocaaGreatDoorQWapk
import Derived.Test.YtebdgcoandfocaaGreatDoorQUd

namespace Go.Proofs.YtebdgcoandfocaaGreatDoor
open Go.RowKit Go.Maps Go.Sort Go.Shelf

theorem cmn_after {w0 w w1 w2 : World} (hb : Below w.heap.size w w1) (h : But (Cmn w0 w1) w1 w2) : But (Cmn w0 w) w w2 :=
  (But.of_below (S := Cmn w0 w) hb).after h fun i hi hc => ⟨hc.1, fun cs t fr hk => hc.2 cs t fr ((hb.block i hi).trans hk)⟩
theorem cmn_trans {w0 w w1 w2 : World} (h1 : But (Cmn w0 w) w w1) (h2 : But (Cmn w0 w1) w1 w2) : But (Cmn w0 w) w w2 := by
  refine h1.after h2 fun i hi hc => ⟨hc.1, fun cs t fr hk => ?_⟩
  apply Classical.byContradiction
  intro hn
  have := h1.block i hi (fun hc' => hn (hc'.2 cs t fr hk))
  exact hn (hc.2 cs t fr (this.trans hk))

end Go.Proofs.YtebdgcoandfocaaGreatDoor
