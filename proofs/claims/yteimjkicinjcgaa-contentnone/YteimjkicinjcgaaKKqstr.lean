/-
  The reader of the document's own text: a vector.
-/
import Derived.Test.YteimjkicinjcgaaKKqvec
import Derived.Test.YteimjkicinjcgaaKKbase
import Derived.Test.YteimjkicinjcgaaKKwany

namespace Go.Proofs.Yteimjkicinjcgaa.Cd
open Go.RowKit

theorem tl_zero (ns : List Int) : ∀ (k j : Nat), tl ns k ≤ j → j < k → ns[j]? = some 0
  | 0, j => fun _ h => by omega
  | k + 1, j => fun h1 h2 => by
    rw [tl] at h1
    split at h1
    · by_cases hj : j = k
      · subst hj; assumption
      · exact tl_zero ns k j h1 (by omega)
    · omega
/-- Numbers as integers. -/
def zs (vs : List Nat) : List Int := vs.map fun n : Nat => (n : Int)
end Go.Proofs.Yteimjkicinjcgaa.Cd
