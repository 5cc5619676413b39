/-
  The document's own way to write: a number, bytes, a truth, an ID.
-/
import Derived.Test.YtegjageenofbjaaKwany
import Derived.Test.YtegjageenofbjaaKcodq
namespace Go.Proofs.Ytegjageenofbjaa.Cd
open Go.RowKit

/-- Bytes in new memory and yes, or none and no. -/
def Enc (w : World) (o : St) (e : Ending) (w' : World) : Prop := ∃ v, e = .returned (.tuple #[v, .bool o.isSome]) ∧ Cloned w (o.getD []) v w'

def eNum (n : Int) : St := if 0 ≤ n ∧ n ≤ 4611686018427387904 then some (numB n.toNat) else none

theorem cloned_nil (w : World) : Cloned w [] (.slice none 0 0) w := ⟨World.ownsRow_nil _ _ _ _, Below.refl _ _⟩

/-- Bytes are added to a row that is new. -/
theorem wpList_grow {W0 W : World} {ops : Array Oper} {rest : List Oper} {o : Oper} {a : Act} {Q : Exit → Act → World → Prop} (hgd : o.guard = none) (s x : Operand)
    (ho : o.op = .call { callee := .builtin .append, args := #[s, x], argTypes := #[28, 28] })
    (w : World) (v : Value) (bs : List (BitVec 8)) (hs : a.eval s = v) (hown : Hid (W0.ownsRow w.heap.size 5 1 v bs.length (bs.map u8v))) (hB : Hid (Below w.heap.size w W0)) (hB' : Hid (Below W0.heap.size W0 W))
    (p : Option Addr) (cs : List (BitVec 8)) (cp : Nat) (hx : a.eval x = .slice p cs.length cp) (hb : Hid (Bytes W p cs)) (h63 : Hid (bs.length + cs.length ≤ 1099511627776))
    (h : ∀ v' w', Hid (w'.ownsRow w.heap.size 5 1 v' (bs ++ cs).length ((bs ++ cs).map u8v)) → Hid (Below w.heap.size w w') → Hid (W.grownBy w' v.ownBlock) → wpList Try.prog ops Q rest (a.put o.dst v') w') :
    wpList Try.prog ops Q (o :: rest) a W := by
  have hBW : Below w.heap.size w W := hB.out.trans (hB'.out.mono hB.out.size)
  have hownW := own_below hown.out hB'.out
  refine wpList_append_bytes hgd s x ho w.heap.size v bs.length (bs.map u8v) hs hownW p cs cp hx hb.out h63.out hBW.size ?_
  intro v' w' h1 h2 _
  exact h v' w' (by rw [List.length_append, List.map_append]; exact h1) (hBW.grown h2 hBW.size (fun k hk => (own_lt hownW hk).1)) h2

theorem bytes_lit (w : World) (z : Int) (x : BitVec 8) (h : (x.toNat : Int) = z) : Bytes (w.alloc (.cells #[.int .u8 z] 5)) (some ⟨w.heap.size, 0, none⟩) [x] := by
  subst h
  exact bytes_block (f := (0, 0)) (heap_alloc_new w _)

end Go.Proofs.Ytegjageenofbjaa.Cd
