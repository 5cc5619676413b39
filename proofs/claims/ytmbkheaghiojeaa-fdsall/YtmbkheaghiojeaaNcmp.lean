/-
  Or of two numbers; Cmp and Less of the program.
-/
import Derived.Test.YtmbkheaghiojeaaNids
import Derived.Deep.RegionHeld3
namespace Go.Proofs.Ytmbkheaghiojeaa.Ck
open Go.RowKit

def or2 (x y : Int) : Int := if x = 0 then y else x

theorem cell_more {w : World} {b k : Nat} {v : Value} (h : w.cell? ⟨b, k, none⟩ = some v) (o : Obj) : (w.alloc o).drew.cell? ⟨b, k, none⟩ = some v :=
  (World.cell?_of_block (w := w) (a := ⟨b, k, none⟩) (Below.heap_alloc _ _ _ (cell_lt h))).trans h

theorem or2_cmp (t n t' n' : Int) : or2 (cmp1 t t') (cmp1 n n') = cmpZ t n t' n' := rfl

theorem less_cmp (t n t' n' : Int) : decide (cmpZ t n t' n' < 0) = lessB t n t' n' := by
  cases h : lessB t n t' n' with
  | true => rw [cmpZ_less h]; rfl
  | false =>
    cases h' : lessB t' n' t n with
    | true => rw [cmpZ_more h']; rfl
    | false => rw [cmpZ_same h h']; rfl

end Go.Proofs.Ytmbkheaghiojeaa.Ck
