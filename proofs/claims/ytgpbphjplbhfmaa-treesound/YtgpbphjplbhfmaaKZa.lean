/-
  A heap of keys: what a step up and a step down keep; the key of a stamp and its coming.
-/
import Derived.Test.YtgpbphjplbhfmaaKNcmp

namespace Go.Proofs.Ytgpbphjplbhfmaa.Ck
open Go.RowKit

def par (k : Nat) : Nat := (k - 1) / 2
end Go.Proofs.Ytgpbphjplbhfmaa.Ck
