/-
  The document's own text: Leq, Eq, Ahead, Is; the statement's Cut.
-/
import Derived.Test.YtegjageenofbjaaVrfn
namespace Go.Proofs.Ytegjageenofbjaa.Vc
open Go.RowKit

def cut (ns : List Int) : List Int := ns.take 80
theorem cut_le (ns : List Int) : (cut ns).length ≤ 80 := by unfold cut; rw [List.length_take]; omega
end Go.Proofs.Ytegjageenofbjaa.Vc
