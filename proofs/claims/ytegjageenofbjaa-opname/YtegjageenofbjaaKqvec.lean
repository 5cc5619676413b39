/-
  Vectors of the document's own text: At, short, Norm, May, Is; Same of two IDs.
-/
import Derived.Test.YtegjageenofbjaaKtrim
import Derived.Test.YtegjageenofbjaaKcodq
namespace Go.Proofs.Ytegjageenofbjaa.Cd
open Go.RowKit

def okN (x : Int) : Bool := decide (0 ≤ x) && decide (x ≤ 1152921504606846976)
def atOf (ns : List Int) (k : Nat) : Int := match ns[k]? with
  | some x => if okN x then x else 0
  | none => 0
def allOf (ns : List Int) (n : Nat) : List Int := (List.range n).map (atOf ns)
def normOf (ns : List Int) : List Int := (allOf ns 64).take (tl (allOf ns 64) 64)
def mayB (ns : List Int) : Bool := decide (tl ns ns.length ≤ 64) && (ns.take (tl ns ns.length)).all okN

theorem allOf_succ (ns : List Int) (n : Nat) : allOf ns (n + 1) = allOf ns n ++ [atOf ns n] := by simp [allOf, List.range_succ]
theorem allOf_length (ns : List Int) (n : Nat) : (allOf ns n).length = n := by simp [allOf]

theorem wpList_append_num {W : World} {ops : Array Oper} {rest : List Oper} {o : Oper} {a : Act} {Q : Exit → Act → World → Prop} (hgd : o.guard = none) (s x : Operand) (t e : TypeId)
    (ho : o.op = .call { callee := .builtin .append, args := #[s, x], argTypes := #[t, t] }) (ht : Try.prog.underlying t = some (.slice e)) (hie : (Try.prog.info? e).map (fun i => (i.zero, i.size, i.bytes)) = some (some (.int .i64 0), 1, 8))
    (base : Nat) (v : Value) (n : Nat) (xs : List Value) (hs : a.eval s = v) (W0 : World) (y : Int) (hW : W = W0.alloc (.cells #[.int .i64 y] e)) (hown : Hid (W0.ownsRow base e 1 v n xs))
    (hx : a.eval x = .slice (some ⟨W0.heap.size, 0, none⟩) 1 1) (h63 : Hid (n ≤ 1000000)) (hbase : Hid (base ≤ W0.heap.size))
    (h : ∀ v' w', Hid (w'.ownsRow base e 1 v' (n + 1) (xs ++ [.int .i64 y])) → Hid (W.grownBy w' v.ownBlock) → Hid (v'.ownBlock = v.ownBlock ∨ v'.ownBlock = some W.heap.size) → wpList Try.prog ops Q rest (a.put o.dst v') w') :
    wpList Try.prog ops Q (o :: rest) a W := by
  obtain ⟨i0, hi0, hz0, hz1, hz2⟩ := info_parts hie
  subst hW
  refine wpList_append_own_at _ hgd s x t ho base e i0 (.int .i64 0) 1 8 ht hi0 hz0 hz1 hz2 rfl (by decide) v n xs hs (hown.out.alloc _) ⟨W0.heap.size, 0, none⟩ 1 1 [.int .i64 y] hx rfl (cell_one_new _ _ _) (by simp [Value.oneCell'])
    (by have := h63.out; unfold maxLen; omega) (by have := h63.out; omega) (by have := hbase.out; simp; omega) ?_
  intro v' w' h1 h2 _ h4
  exact h v' w' h1 h2 h4

end Go.Proofs.Ytegjageenofbjaa.Cd
