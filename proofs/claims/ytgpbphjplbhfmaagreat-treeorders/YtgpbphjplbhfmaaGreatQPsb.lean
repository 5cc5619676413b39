import Derived.Test.YtgpbphjplbhfmaaGreatKPad
import Derived.Test.YtgpbphjplbhfmaaGreatKPsa
import Derived.Laws.Tables

namespace Go.Proofs.YtgpbphjplbhfmaaGreat.Ck.Y.S
open Go.RowKit Go.Maps Go.Lib
section
variable {u w w' : World} {F0 : Nat → Prop} {gt s : Nat} {l : List OG} {E : List Nat} {T : List OB}
def KidsR (T : List OB) (t n : Int) (e : Ending) (w' : World) : Prop := ∃ v m, e = .returned v ∧ RowI w' 0 v m ∧ IsKids T t n m ∧ m.length ≤ 900
theorem WIn.op {o : OG} {ns : List Int} {bs : List (BitVec 8)} (h : WIn w o ns bs) : OpIn w o ns := ⟨h.seen, h.sl, h.sc, h.le, by have := h.dl; have := h.bl; omega, h.nm⟩
end
structure Srt (l m : List OG) : Prop where
  rise : l.Pairwise fun a b => lessP (a.t, a.n) (b.t, b.n)
  perm : l.Perm m
theorem Srt.nil : Srt [] [] := ⟨List.Pairwise.nil, List.Perm.refl _⟩
theorem Srt.ins {l m : List OG} {o : OG} {i : Nat} (h : Srt l m) (hi : InsAt l (o.t, o.n) i) : Srt (l.take i ++ o :: l.drop i) (m ++ [o]) := by
  have h' := h.rise
  rw [← List.take_append_drop i l, List.pairwise_append] at h'
  refine ⟨List.pairwise_append.2 ⟨h'.1, List.pairwise_cons.2 ⟨fun b hb => ?_, h'.2.1⟩, fun a ha b hb => ?_⟩, ?_⟩
  · obtain ⟨k, hk, e⟩ := List.getElem_of_mem hb
    rw [List.length_drop] at hk
    exact hi.hi (i + k) b (by omega) (by rw [List.getElem?_eq_getElem (by omega), ← e, List.getElem_drop])
  · rcases List.mem_cons.1 hb with rfl | hb
    · obtain ⟨k, hk, e⟩ := List.getElem_of_mem ha
      rw [List.length_take] at hk
      exact hi.lo k a (by omega) (by rw [List.getElem?_eq_getElem (by omega), ← e, List.getElem_take])
    · exact h'.2.2 a ha b hb
  · have h1 : (l.take i ++ o :: l.drop i).Perm (o :: (l.take i ++ l.drop i)) := List.perm_middle
    rw [List.take_append_drop] at h1
    exact (h1.trans (h.perm.cons o)).trans (List.perm_append_comm (l₁ := [o]) (l₂ := m))
theorem Srt.len {l m : List OG} (h : Srt l m) : l.length = m.length := h.perm.length_eq
theorem wpList_putW {w : World} {ops : Array Oper} {rest : List Oper} {o : Oper} {a : Act} {Q : Exit → Act → World → Prop} (hgd : o.guard = none) (ty : TypeId) (x y : Operand) (ho : o.op = .store ty x y)
    (g : Nat) (cells : Array Value) (hx : a.eval x = .pointer (some ⟨g, 0, none⟩)) (hy : a.eval y = .agg cells) (t : TypeId) (old : Array Value) (hg : Hid (w.heap[g]? = some (.cells old t (0, 0)))) (hi : (Tryz.prog.info? ty).map (·.size) = some cells.size) (hold : old.size = cells.size) (h1 : cells.all (·.oneCell') = true) (h : ∀ w', Hid (w'.heap[g]? = some (.cells cells t (0, 0)) ∧ Only (· = g) w w' ∧ w'.heap.size = w.heap.size) → wpList Tryz.prog ops Q rest (a.put o.dst undef) w') : wpList Tryz.prog ops Q (o :: rest) a w :=
  wpList_store_row hgd ty x y ho g cells hx hy t old hg.out hi hold h1 (h _ ⟨setRow_heap w g _ _ t _ hg.out, ⟨rfl, rfl, rfl, by simp, fun k _ hk => setRow_other w g k cells hk⟩, by simp⟩)
theorem infoID : (Tryz.prog.info? 29).map (·.size) = some 2 := by kernel_rfl
theorem idC_one (t n : Int) : (#[.int .i64 t, .int .i64 n] : Array Value).all (·.oneCell') = true := by simp [Value.oneCell']
end Go.Proofs.YtgpbphjplbhfmaaGreat.Ck.Y.S

namespace Go.Proofs.YtgpbphjplbhfmaaGreat.Ck.Y.S
open Go.RowKit Go.Maps Go.Lib
theorem fold_len : ∀ {l : List OG} {T T' : List OB} {s s' : Nat}, FoldT T s l T' s' → T'.length ≤ T.length + l.length
  | [], _, _, _, _, .nil _ _ => Nat.le_refl _
  | _ :: _, _, _, _, _, .cons a1 a2 => by
    have h1 := a1.length
    have h2 := fold_len a2
    rw [List.length_cons]
    omega
theorem may_ok' {o : OG} {ns : List Int} (h : mayW o ns = true) : 1 ≤ o.t ∧ ¬ o.ot = 0 := ⟨(may_ok (show mayG o ns = true from h)).1, (may_ok (show mayG o ns = true from h)).2.1⟩
theorem Taken.new {u : World} {m : List OG} (h : Taken u m) {i : Nat} {x : OG} (hx : m[i]? = some x) {l : List OG} (hs : Srt l (m.take i)) : ∀ y ∈ l, (y.t, y.n) ≠ (x.t, x.n) := by
  intro y hy
  have hy' := hs.perm.mem_iff.1 hy
  obtain ⟨j, hj, e⟩ := List.getElem_of_mem hy'
  rw [List.length_take] at hj
  obtain ⟨hi, ex⟩ := List.getElem?_eq_some_iff.1 hx
  have := List.pairwise_iff_getElem.1 h.apart j i (by omega) hi (by omega)
  rw [ex] at this
  rw [List.getElem_take] at e
  rw [e] at this
  exact this
theorem Srt.snoc {l m : List OG} {i j : Nat} {x : OG} (h : Srt l (m.take i)) (hi : InsAt l (x.t, x.n) j) (hx : m[i]? = some x) : Srt (l.take j ++ x :: l.drop j) (m.take (i + 1)) := by
  rw [List.take_add_one, hx]
  exact h.ins hi
end Go.Proofs.YtgpbphjplbhfmaaGreat.Ck.Y.S
