import Derived.Test.YthhakekbffembaaGreatDoorKQe

namespace Go.Proofs.YthhakekbffembaaGreatDoor.Ck.Y
open Go.RowKit Go.Maps
abbrev PI := Int × Int
def idL (x : PI) : List Value := [.int .i64 x.1, .int .i64 x.2]
def flatI : List PI → List Value
 | [] => []
 | x :: l => idL x ++ flatI l
theorem idL_length (x : PI) : (idL x).length = 2 := rfl
theorem flatI_length : ∀ l : List PI, (flatI l).length = l.length * 2
 | [] => rfl
 | x :: l => by rw [flatI, List.length_append, idL_length, flatI_length l, List.length_cons]; omega
theorem flatI_append : ∀ l m : List PI, flatI (l ++ m) = flatI l ++ flatI m
 | [], _ => rfl
 | x :: l, m => by rw [List.cons_append, flatI, flatI, flatI_append l m, List.append_assoc]
theorem flatI_at : ∀ (l : List PI) (i j : Nat) (x : PI), l[i]? = some x → j < 2 → (flatI l)[i * 2 + j]? = (idL x)[j]?
 | [], _, _, _, h, _ => by simp at h
 | y :: l, 0, j, x, h, hj => by
   have : y = x := by simpa using h
   subst this
   rw [flatI, Nat.zero_mul, Nat.zero_add, List.getElem?_append_left (by rw [idL_length]; exact hj)]
 | y :: l, i + 1, j, x, h, hj => by
   rw [flatI, List.getElem?_append_right (by rw [idL_length]; omega), idL_length, show (i + 1) * 2 + j - 2 = i * 2 + j by omega]
   exact flatI_at l i j x (by simpa using h) hj
def RowI (w : World) (base : Nat) (v : Value) (l : List PI) : Prop := w.ownsRow base 28 2 v l.length (flatI l)
theorem RowI.nil (w : World) (base : Nat) : RowI w base (.slice none 0 0) [] := ⟨rfl, .inl ⟨rfl, rfl⟩⟩
theorem RowI.below {w w' : World} {base : Nat} {v : Value} {l : List PI} (h : RowI w base v l) (hb : Below w.heap.size w w') : RowI w' base v l := own_below h hb
theorem RowI.tag {w : World} {base : Nat} {v : Value} {l : List PI} (h : RowI w base v l) {g : Nat} (hg : v.ownBlock = some g) : ∃ cs, w.heap[g]? = some (.cells cs 28 (0, 0)) ∧ base ≤ g := by
 rcases h.2 with ⟨rfl, _⟩ | ⟨g', cap, cur, rfl, hb, hblk, _⟩
 · simp [Value.ownBlock] at hg
 · have e' : g' = g := by simpa [Value.ownBlock] using hg
   subst e'
   exact ⟨cur, hblk, hb⟩
theorem RowI.cur {w : World} {base g n cap : Nat} {l : List PI} (h : RowI w base (.slice (some ⟨g, 0, none⟩) n cap) l) : ∃ cur, w.heap[g]? = some (.cells cur 28 (0, 0)) ∧ n = l.length ∧ base ≤ g ∧ n ≤ cap ∧ cap ≤ maxLen ∧ cur.size = cap * 2 ∧ cur.toList.take (n * 2) = flatI l := by
 rcases h.2 with ⟨e, _⟩ | ⟨g', cap', cur, e, hb, hblk, h1, h2, h3, h4⟩
 · cases e
 · cases e
   exact ⟨cur, hblk, rfl, hb, h1, h2, h3, h4⟩
theorem RowI.cells {w : World} {base g n cap : Nat} {l : List PI} (h : RowI w base (.slice (some ⟨g, 0, none⟩) n cap) l) {i : Nat} {x : PI} (hx : l[i]? = some x) :
   w.cell? ⟨g, i * 2, none⟩ = some (.int .i64 x.1) ∧ w.cell? ⟨g, i * 2 + 1, none⟩ = some (.int .i64 x.2) := by
 obtain ⟨cur, hblk, hn, _, _, _, _, h4⟩ := h.cur
 have hil := (List.getElem?_eq_some_iff.1 hx).1
 have key : ∀ j, j < 2 → w.cell? ⟨g, i * 2 + j, none⟩ = (idL x)[j]? := fun j hj => by
   rw [cellOf hblk, ← flatI_at l i j x hx hj, ← h4, List.getElem?_take, if_pos (by omega), Array.getElem?_toList]
 exact ⟨key 0 (by omega), key 1 (by omega)⟩
theorem infoIdA : ∃ i, Tryz.prog.info? 28 = some i ∧ i.zero = some (.agg #[.int .i64 0, .int .i64 0]) ∧ i.size = 2 ∧ i.bytes = 16 := by
 have e : (Tryz.prog.info? 28).map (fun i => (i.zero, i.size, i.bytes)) = some (some (.agg #[.int .i64 0, .int .i64 0]), 2, 16) := by kernel_rfl
 obtain ⟨i, hi, he⟩ := Option.map_eq_some_iff.1 e
 injection he with h1 h2
 injection h2 with h2 h3
 exact ⟨i, hi, h1, h2, h3⟩
def lessP (a b : PI) : Prop := lessB a.1 a.2 b.1 b.2 = true
theorem lessP_iff (a b : PI) : lessP a b ↔ a.1 < b.1 ∨ (a.1 = b.1 ∧ a.2 < b.2) := by simp [lessP, lessB]
theorem lessP_asymm {a b : PI} (h : lessP a b) (h' : lessP b a) : False := by
 rw [lessP_iff] at h h'
 omega
theorem lessP_trans {a b c : PI} (h : lessP a b) (h' : lessP b c) : lessP a c := by
 rw [lessP_iff] at h h' ⊢
 omega
theorem lessP_or {a b : PI} (h : ¬ lessP a b) (hn : ¬ (a.1 = b.1 ∧ a.2 = b.2)) : lessP b a := by
 rw [lessP_iff] at h ⊢
 omega
def kidsL (T : List OB) (t n : Int) : List PI := (T.filter fun o => sameB o.pt o.pn t n).map idp
structure IsKids (T : List OB) (t n : Int) (m : List PI) : Prop where
 perm : m.Perm (kidsL T t n)
 rise : m.Pairwise lessP
theorem riseP_unique : ∀ {l m : List PI}, l.Pairwise lessP → m.Pairwise lessP → l.Perm m → l = m
 | [], m, _, _, h => (List.Perm.nil_eq h)
 | x :: l, [], _, _, h => by have := h.length_eq; simp at this
 | x :: l, y :: m, h1, h2, h => by
   have a1 := List.pairwise_cons.1 h1
   have a2 := List.pairwise_cons.1 h2
   have e : x = y := by
     have hx : x ∈ y :: m := h.mem_iff.1 (by simp)
     have hy : y ∈ x :: l := h.mem_iff.2 (by simp)
     rcases List.mem_cons.1 hx with e | hx
     · exact e
     · rcases List.mem_cons.1 hy with e | hy
       · exact e.symm
       · exact (lessP_asymm (a2.1 x hx) (a1.1 y hy)).elim
   subst e
   rw [riseP_unique a1.2 a2.2 (List.Perm.cons_inv h)]
theorem IsKids.unique {T : List OB} {t n : Int} {m m' : List PI} (h : IsKids T t n m) (h' : IsKids T t n m') : m = m' := riseP_unique h.rise h'.rise (h.perm.trans h'.perm.symm)
def insI (T : List PI) (k : Nat) (x : PI) : List PI := T.take k ++ x :: T.drop k
theorem insI_perm (T : List PI) (k : Nat) (x : PI) : (insI T k x).Perm (T ++ [x]) := by
 unfold insI
 have h1 : (T.take k ++ x :: T.drop k).Perm (x :: (T.take k ++ T.drop k)) := List.perm_middle
 rw [List.take_append_drop] at h1
 exact h1.trans (List.perm_append_comm (l₁ := [x]) (l₂ := T))
theorem insI_rise {l : List PI} {x : PI} {j : Nat} (h : l.Pairwise lessP) (h1 : ∀ a ∈ l.take j, lessP a x) (h2 : ∀ a ∈ l.drop j, lessP x a) : (insI l j x).Pairwise lessP := by
 unfold insI
 have h' := h
 rw [← List.take_append_drop j l, List.pairwise_append] at h'
 rw [List.pairwise_append]
 refine ⟨h'.1, List.pairwise_cons.2 ⟨h2, h'.2.1⟩, fun a ha b hb => ?_⟩
 rcases List.mem_cons.1 hb with rfl | hb
 · exact h1 a ha
 · exact h'.2.2 a ha b hb
end Go.Proofs.YthhakekbffembaaGreatDoor.Ck.Y
