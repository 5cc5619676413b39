/-
  With, Min.
-/
import Derived.Test.YteimjkicinjcgaaKVvct

namespace Go.Proofs.Yteimjkicinjcgaa.Vc
open Go.RowKit

/-- A callee that answers a value and makes new memory alone. -/
theorem Calls_new {f : Nat} {args : Array Value} {w : World} {v : Ending} {K : Ending → World → Prop} (h : Calls Try.prog f args w fun e w' => e = v ∧ Below w.heap.size w w')
    (hk : ∀ w', Hid (Below w.heap.size w w') → K v w') : Calls Try.prog f args w K :=
  h.mono (by rintro e w' ⟨rfl, hb⟩; exact hk w' hb)

/-- A new block of zeros, in a world of its own name. -/
theorem wpList_new38 {w : World} {ops : Array Oper} {rest : List Oper} {o : Oper} {a : Act} {Q : Exit → Act → World → Prop} (hgd : o.guard = none) (ho : o.op = .alloc 87)
    (h : ∀ w', Hid (Blk w' w.heap.size zeros) → Hid (Below w.heap.size w w') → wpList Try.prog ops Q rest (a.put o.dst (.pointer (some ⟨w.heap.size, 0, none⟩))) w') : wpList Try.prog ops Q (o :: rest) a w :=
  wpList_alloc38 hgd ho (h _ (Blk.made w zeros) ((Below.refl _ _).alloc (Nat.le_refl _) _))
end Go.Proofs.Yteimjkicinjcgaa.Vc
