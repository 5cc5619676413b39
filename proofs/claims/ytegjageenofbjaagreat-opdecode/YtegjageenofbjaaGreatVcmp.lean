/-
  Leq, Apart, Sum, Ahead.
-/
import Derived.Test.YtegjageenofbjaaGreatVwth
namespace Go.Proofs.YtegjageenofbjaaGreat.Vc
open Go.RowKit

theorem wpList_append_num {W : World} {ops : Array Oper} {rest : List Oper} {o : Oper} {a : Act} {Q : Exit → Act → World → Prop} (hgd : o.guard = none) (s x : Operand) (t e : TypeId)
    (ho : o.op = .call { callee := .builtin .append, args := #[s, x], argTypes := #[t, t] }) (ht : Tryz.prog.underlying t = some (.slice e)) (hie : (Tryz.prog.info? e).map (fun i => (i.zero, i.size, i.bytes)) = some (some (.int .i64 0), 1, 8))
    (base : Nat) (v : Value) (n : Nat) (xs : List Value) (hs : a.eval s = v) (W0 : World) (y : Int) (hW : W = W0.alloc (.cells #[.int .i64 y] e)) (hown : Hid (W0.ownsRow base e 1 v n xs))
    (hx : a.eval x = .slice (some ⟨W0.heap.size, 0, none⟩) 1 1) (h63 : Hid (n ≤ 1000000)) (hbase : Hid (base ≤ W0.heap.size))
    (h : ∀ v' w', Hid (w'.ownsRow base e 1 v' (n + 1) (xs ++ [.int .i64 y])) → Hid (W.grownBy w' v.ownBlock) → wpList Tryz.prog ops Q rest (a.put o.dst v') w') :
    wpList Tryz.prog ops Q (o :: rest) a W := by
  obtain ⟨i0, hi0, hz0, hz1, hz2⟩ := info_parts hie
  subst hW
  refine wpList_append_own_at _ hgd s x t ho base e i0 (.int .i64 0) 1 8 ht hi0 hz0 hz1 hz2 rfl (by decide) v n xs hs (hown.out.alloc _) ⟨W0.heap.size, 0, none⟩ 1 1 [.int .i64 y] hx rfl (cell_one_new _ _ _) (by simp [Value.oneCell'])
    (by have := h63.out; unfold maxLen; omega) (by have := h63.out; omega) (by have := hbase.out; simp; omega) ?_
  intro v' w' h1 h2 _ h4
  exact h v' w' h1 h2

/-- What a row's growth leaves of the old world. -/
theorem below_grown {W w' wr : World} {B e n : Nat} {v : Value} {xs : List Value} {o : Obj} (hB : Below B W wr) (hb : B ≤ W.heap.size) (ho : wr.ownsRow B e 1 v n xs) (hg : (wr.alloc o).grownBy w' v.ownBlock) : Below B W w' :=
  (hB.alloc (Nat.le_trans hb hB.size) _).grown hg (by have := hB.size; simp; omega) (fun _ hk => (own_lt ho hk).1)

end Go.Proofs.YtegjageenofbjaaGreat.Vc
