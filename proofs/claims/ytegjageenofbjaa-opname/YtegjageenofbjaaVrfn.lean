/-
  The document's own text: short, Norm, With, Max, Min, each a vector in normal form.
-/
import Derived.Test.YtegjageenofbjaaVcmp
namespace Go.Proofs.Ytegjageenofbjaa.Vc
open Go.RowKit

end Go.Proofs.Ytegjageenofbjaa.Vc
