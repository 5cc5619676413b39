/-
  A vector without the zeros at its end.
-/
import Derived.Test.YteimjkicinjcgaaKKbase

namespace Go.Proofs.Yteimjkicinjcgaa.Cd
open Go.RowKit

/-- How many of the first k are left without the zeros at the end. -/
def tl (ns : List Int) : Nat → Nat
  | 0 => 0
  | k + 1 => if ns[k]? = some 0 then tl ns k else k + 1
theorem tl_le (ns : List Int) : ∀ k, tl ns k ≤ k
  | 0 => Nat.le_refl _
  | k + 1 => by
    rw [tl]; split
    · exact Nat.le_succ_of_le (tl_le ns k)
    · exact Nat.le_refl _
end Go.Proofs.Yteimjkicinjcgaa.Cd
