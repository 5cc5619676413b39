/-
  Names that are apart, and whose they are: of lists alone; rows of IDs.
-/
import Derived.Test.YtjajbhpcjickbaaDoorKAn

namespace Go.Proofs.YtjajbhpcjickbaaDoor.Ck.Sh
open Go.RowKit Go.Lib Go.Maps

/- Rows of IDs. -/
def idsC : List (Int × Int) → List Value
  | [] => []
  | x :: l => .int .i64 x.1 :: .int .i64 x.2 :: idsC l
theorem idsC_length : ∀ l : List (Int × Int), (idsC l).length = l.length * 2
  | [] => rfl
  | _ :: l => by simp only [idsC, List.length_cons, idsC_length l]; omega
theorem idsC_append : ∀ l m : List (Int × Int), idsC (l ++ m) = idsC l ++ idsC m
  | [], _ => rfl
  | _ :: l, m => by simp only [List.cons_append, idsC, idsC_append l m]
theorem idsC_one : ∀ (l : List (Int × Int)), ∀ u ∈ idsC l, u.oneCell' = true
  | [], _, h => by simp [idsC] at h
  | x :: l, u, h => by
    simp only [idsC, List.mem_cons] at h
    rcases h with rfl | rfl | h
    · rfl
    · rfl
    · exact idsC_one l u h
theorem idsC_at : ∀ (l : List (Int × Int)) (j : Nat) (x : Int × Int), l[j]? = some x → (idsC l)[j * 2]? = some (.int .i64 x.1) ∧ (idsC l)[j * 2 + 1]? = some (.int .i64 x.2)
  | [], j, x, h => by simp at h
  | y :: l, 0, x, h => by
    simp only [List.getElem?_cons_zero, Option.some.injEq] at h
    subst h
    exact ⟨rfl, rfl⟩
  | y :: l, j + 1, x, h => by
    have := idsC_at l j x (by simpa using h)
    rw [show (j + 1) * 2 = j * 2 + 1 + 1 by omega]
    simp only [idsC, List.getElem?_cons_succ]
    exact this
theorem ids_of_cs {w : World} {p : Option Addr} {l : List (Int × Int)} (h : Cs w p (idsC l)) : Ids w p l := fun j x hx => by
  obtain ⟨e1, e2⟩ := idsC_at l j x hx
  obtain ⟨g, o, e, h1⟩ := h _ _ e1
  obtain ⟨g', o', e', h2⟩ := h _ _ e2
  cases e
  cases e'
  exact ⟨g, o, rfl, h1, by rw [Nat.add_assoc]; exact h2⟩
theorem cs_of_ids {w : World} {p : Option Addr} {l : List (Int × Int)} (h : Ids w p l) : Cs w p (idsC l) := fun j u hu => by
  have hj := (List.getElem?_eq_some_iff.1 hu).1
  rw [idsC_length] at hj
  obtain ⟨x, hx⟩ : ∃ x, l[j / 2]? = some x := ⟨_, List.getElem?_eq_getElem (by omega)⟩
  obtain ⟨e1, e2⟩ := idsC_at l _ x hx
  obtain ⟨g, o, e, h1, h2⟩ := h _ x hx
  refine ⟨g, o, e, ?_⟩
  by_cases hp : j % 2 = 0
  · have : j = j / 2 * 2 := by omega
    rw [this] at hu ⊢
    rw [e1] at hu
    cases hu
    exact h1
  · have : j = j / 2 * 2 + 1 := by omega
    rw [this] at hu ⊢
    rw [e2] at hu
    cases hu
    rw [← Nat.add_assoc]
    exact h2
/-- A row of another type stays where a row is appended to. -/
theorem own_other {w w' : World} {b1 b2 : Nat} {e1 e2 : TypeId} {s1 s2 n1 n2 : Nat} {v1 v2 : Value} {x1 x2 : List Value} (h1 : w.ownsRow b1 e1 s1 v1 n1 x1) (h2 : w.ownsRow b2 e2 s2 v2 n2 x2) (hne : e1 ≠ e2) (hg : w.grownBy w' v2.ownBlock) : w'.ownsRow b1 e1 s1 v1 n1 x1 := by
  obtain ⟨hl, h | ⟨g, cap, cur, rfl, k1, hb, k2⟩⟩ := h1
  · exact ⟨hl, .inl h⟩
  · refine ⟨hl, .inr ⟨g, cap, cur, rfl, k1, (hg.block g (block_lt hb) ?_).trans hb, k2⟩⟩
    intro e
    rcases h2.2 with ⟨rfl, _⟩ | ⟨g', cap', cur', rfl, _, hb', _⟩
    · cases e
    · injection e with e
      have e : g = g' := e
      subst e
      rw [hb] at hb'
      injection hb' with hb'
      injection hb' with _ e2
      exact hne e2

end Go.Proofs.YtjajbhpcjickbaaDoor.Ck.Sh
