/-
  Rows that a call owns, appended to; the document's digits and Suffix.
-/
import Derived.Test.YtjggnmeeeofepaaDoorKAd
import Derived.Deep.LoopGhost
import Derived.Laws.AppendOwn
import Derived.Laws.IdiomStrings

namespace Go.Proofs.YtjggnmeeeofepaaDoor.Ck.Sh
open Go.RowKit Go.Lib

attribute [local go_sem] Oper.semAt_some

/-- Cells that lie in a row. -/
def Cs (w : World) (p : Option Addr) (xs : List Value) : Prop := ∀ (j : Nat) (u : Value), xs[j]? = some u → ∃ g o, p = some ⟨g, o, none⟩ ∧ w.cell? ⟨g, o + j, none⟩ = some u
theorem Cs.of_own {w : World} {base : Nat} {e : TypeId} {sz n : Nat} {v : Value} {xs : List Value} (h : w.ownsRow base e sz v n xs) : ∃ p c, v = .slice p n c ∧ Cs w p xs := by
  obtain ⟨hl, ⟨rfl, hn⟩ | ⟨g, cap, cur, rfl, _, hb, _, _, hs, ht⟩⟩ := h
  · subst hn
    exact ⟨none, 0, rfl, fun j u hj => by
      have := (List.getElem?_eq_some_iff.1 hj).1
      rw [hl] at this
      omega⟩
  · refine ⟨_, _, rfl, fun j u hj => ⟨g, 0, rfl, ?_⟩⟩
    have hjl := (List.getElem?_eq_some_iff.1 hj).1
    rw [hl] at hjl
    rw [Nat.zero_add, cellOf hb j, ← Array.getElem?_toList]
    rw [← ht, List.getElem?_take, if_pos hjl] at hj
    exact hj
theorem own_slice {w : World} {base : Nat} {e : TypeId} {sz n : Nat} {v : Value} {xs : List Value} (h : w.ownsRow base e sz v n xs) : ∃ p c, v = .slice p n c ∧ n ≤ c := by
  obtain ⟨hl, ⟨rfl, hn⟩ | ⟨g, cap, cur, rfl, _, hb, h1, _⟩⟩ := h
  · exact ⟨none, 0, by rw [hn], by omega⟩
  · exact ⟨_, _, rfl, h1⟩
theorem own_below {w w' : World} {base : Nat} {e : TypeId} {sz n : Nat} {v : Value} {xs : List Value} (h : w.ownsRow base e sz v n xs) (hb : Below w.heap.size w w') : w'.ownsRow base e sz v n xs := by
  obtain ⟨hl, h | ⟨g, cap, cur, rfl, h1, hg, h2⟩⟩ := h
  · exact ⟨hl, .inl h⟩
  · exact ⟨hl, .inr ⟨g, cap, cur, rfl, h1, (hb.block g (block_lt hg)).trans hg, h2⟩⟩
/-- What the program's text says of a type. -/
structure TI (e : TypeId) (z : Value) (sz by_ : Nat) : Prop where
  info : ∃ i, Tryd.prog.info? e = some i ∧ i.zero = some z ∧ i.size = sz ∧ i.bytes = by_
  cells : z.cells.size = sz
  pos : 0 < sz
theorem ti_of {e : TypeId} {z : Value} {sz by_ : Nat} (h : (Tryd.prog.info? e).map (fun i => (i.zero, i.size, i.bytes)) = some (some z, sz, by_)) (h1 : z.cells.size = sz) (h2 : 0 < sz) : TI e z sz by_ := by
  obtain ⟨i, hi, he⟩ := Option.map_eq_some_iff.1 h
  injection he with e1 e2
  injection e2 with e2 e3
  exact ⟨⟨i, hi, e1, e2, e3⟩, h1, h2⟩
theorem ti_str : TI 9 (.string ⟨#[]⟩) 1 16 := ti_of (by kernel_rfl) rfl (by decide)
/-- A row is appended to a row of the call's own. -/
theorem app_run {t e : TypeId} {z : Value} {sz by_ : Nat} (ht : Tryd.prog.underlying t = some (.slice e)) (hti : TI e z sz by_) (ty : TypeId) (w : World) (base : Nat) (v : Value) (n m : Nat) (xs news : List Value) (p : Option Addr) (c : Nat)
    (h1 : w.ownsRow base e sz v n xs) (h2 : Cs w p news) (hl : news.length = m * sz) (ho : ∀ u ∈ news, u.oneCell' = true) (hb : (n + m) * by_ ≤ 140737488355328) (hm : n + m ≤ 140737488355328) (hbase : base ≤ w.heap.size) :
    ∃ p' c' w', (Builtin.append_ #[t, t] ty #[v, .slice p m c]).run Tryd.prog w = .ok (.slice p' (n + m) c') w' ∧ w'.ownsRow base e sz (.slice p' (n + m) c') (n + m) (xs ++ news) ∧ w.grownBy w' v.ownBlock := by
  obtain ⟨i0, hi0, hz0, hz1, hz2⟩ := hti.info
  by_cases hk : m = 0
  · subst hk
    have hnil : news = [] := List.length_eq_zero_iff.1 (by rw [hl]; simp)
    subst hnil
    obtain ⟨p1, c1, rfl, hc⟩ := own_slice h1
    refine ⟨p1, c1, w, ?_, by simpa using h1, ⟨rfl, rfl, rfl, Nat.le_refl _, fun _ _ _ => rfl⟩⟩
    cases p1 <;> cases p <;> simp [Builtin.append_, run_underlying ht, sizeOf, typeInfo, hi0, Builtin.lenOf, Builtin.firstCells, hc, storeCells, loadCells, loadCellsFrom]
  · have hpos : 0 < news.length := by
      rw [hl]
      exact Nat.mul_pos (by omega) hti.pos
    obtain ⟨g, o, rfl, _⟩ := h2 0 _ (List.getElem?_eq_getElem hpos)
    obtain ⟨v', w', hr, ho', hg, _⟩ := run_append_own (w := w) base t ty e i0 z sz by_ ht hi0 hz0 hz1 hz2 hti.cells hti.pos v n xs h1 ⟨g, o, none⟩ m c news hl (fun j u hj => by
      obtain ⟨g', o', e', hc⟩ := h2 j u hj
      cases e'
      rw [Addr.add_lit]
      exact hc) ho (by unfold maxLen; omega) hb hbase
    obtain ⟨p', c', rfl, _⟩ := own_slice ho'
    exact ⟨p', c', w', hr, ho', hg⟩
theorem wpList_appG {w : World} {ops : Array Oper} {rest : List Oper} {o : Oper} {a : Act} {Q : Exit → Act → World → Prop} {t e : TypeId} {z : Value} {sz by_ : Nat} (hgd : o.guard = none) (s x : Operand) (ho : o.op = .call { callee := .builtin .append, args := #[s, x], argTypes := #[t, t] })
    (ht : Tryd.prog.underlying t = some (.slice e)) (hti : TI e z sz by_) (base : Nat) (v : Value) (n m : Nat) (xs news : List Value) (p : Option Addr) (c : Nat) (hs : a.eval s = v) (hx : a.eval x = .slice p m c)
    (h : Hid (w.ownsRow base e sz v n xs ∧ Cs w p news ∧ news.length = m * sz ∧ (∀ u ∈ news, u.oneCell' = true) ∧ (n + m) * by_ ≤ 140737488355328 ∧ n + m ≤ 140737488355328 ∧ base ≤ w.heap.size))
    (hK : ∀ p' c' w', Hid (w'.ownsRow base e sz (.slice p' (n + m) c') (n + m) (xs ++ news) ∧ w.grownBy w' v.ownBlock) → wpList Tryd.prog ops Q rest (a.put o.dst (.slice p' (n + m) c')) w') : wpList Tryd.prog ops Q (o :: rest) a w := by
  obtain ⟨h1, h2, h3, h4, h5, h6, h7⟩ := h.out
  obtain ⟨p', c', w', hr, h8, h9⟩ := app_run ht hti o.type w base v n m xs news p c h1 h2 h3 h4 h5 h6 h7
  refine wpList_plain hgd fun K hK' => ?_
  unfold Oper.wp execOp
  simp only [ho, resolve, invoke, builtin, Sem.run_bind, Sem.run_pure, Result.andThen_ok, List.map_toArray, List.map_cons, List.map_nil, hs, hx, hr]
  exact hK' _ _ (hK p' c' w' ⟨h8, h9⟩)
theorem grown_low {w0 w w' : World} {base : Nat} {e : TypeId} {sz n : Nat} {v : Value} {xs : List Value} (hb : Below w0.heap.size w0 w) (ho : w.ownsRow base e sz v n xs) (hg : w.grownBy w' v.ownBlock) (h : w0.heap.size ≤ base) : Below w0.heap.size w0 w' := by
  refine ⟨hg.os.trans hb.os, hg.tape.trans hb.tape, hg.output.trans hb.output, Nat.le_trans hb.size hg.size, fun i hi => ?_⟩
  refine (hg.block i (Nat.lt_of_lt_of_le hi hb.size) ?_).trans (hb.block i hi)
  rcases ho.2 with ⟨rfl, _⟩ | ⟨g, cap, cur, rfl, h1, _⟩
  · intro e; cases e
  · intro e
    injection e with e
    have : i = g := e
    omega

end Go.Proofs.YtjggnmeeeofepaaDoor.Ck.Sh
