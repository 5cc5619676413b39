/-
  A number that can be written.
-/
import Derived.Test.YteimjkicinjcgaaKKbase

namespace Go.Proofs.Yteimjkicinjcgaa.Cd
open Go.RowKit

theorem below_new (w : World) (o : Obj) : Hid (Below w.heap.size w (w.alloc o)) := (Below.refl _ _).alloc (Nat.le_refl _) _

end Go.Proofs.Yteimjkicinjcgaa.Cd
