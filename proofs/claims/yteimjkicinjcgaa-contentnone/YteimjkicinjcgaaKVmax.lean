/-
  Max, of any number of vectors.
-/
import Derived.Test.YteimjkicinjcgaaKVwth

namespace Go.Proofs.Yteimjkicinjcgaa.Vc
open Go.RowKit

/-- Vectors vss lie from q on. -/
def Vecs (w : World) (q : Option Addr) (vss : List (List Int)) : Prop :=
  ∀ j v, vss[j]? = some v → ∃ b o p c, q = some ⟨b, o, none⟩ ∧ w.cell? ⟨b, o + j, none⟩ = some (.slice p v.length c) ∧ Lies w p (v.map iv)
theorem Vecs.below {w w' : World} {q : Option Addr} {vss : List (List Int)} (h : Vecs w q vss) (hb : Below w.heap.size w w') : Vecs w' q vss := by
  intro j v hv
  obtain ⟨b, o, p, c, rfl, hc, hl⟩ := h j v hv
  exact ⟨b, o, p, c, rfl, (hb.cell (p := ⟨b, o + j, none⟩) (cell_lt hc)).trans hc, below_lies hb hl⟩
theorem zeros_max : zeros = nums (maxAt []) := rfl

end Go.Proofs.Yteimjkicinjcgaa.Vc
