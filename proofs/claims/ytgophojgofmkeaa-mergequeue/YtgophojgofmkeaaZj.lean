/-
  Rows of operations of a stamp and a mark.
-/
import Derived.Test.YtgophojgofmkeaaZi
import Derived.Deep.MidRow
import Derived.Laws.OwnMore
namespace Go.Proofs.Ytgophojgofmkeaa.Ck
open Go.RowKit Go.Maps

structure OT where
  t : Int
  n : Int
  k : Int
def opL (x : OT) : List Value := [.int .i64 x.t, .int .i64 x.n, .int .i64 0, .int .i64 x.k, .int .i64 0, .int .i64 0, .int .i64 0, .int .i64 0, .string ⟨#[]⟩, .slice none 0 0, .slice none 0 0]
def flatO : List OT → List Value
  | [] => []
  | x :: l => opL x ++ flatO l
theorem opL_length (x : OT) : (opL x).length = 11 := rfl
theorem opL_one (x : OT) : ∀ v ∈ opL x, v.oneCell' = true := by
  intro v hv
  simp [opL] at hv
  rcases hv with rfl | rfl | rfl | rfl | rfl | rfl | rfl <;> rfl
theorem flatO_length : ∀ l : List OT, (flatO l).length = l.length * 11
  | [] => rfl
  | x :: l => by rw [flatO, List.length_append, opL_length, flatO_length l, List.length_cons]; omega
theorem flatO_append : ∀ l m : List OT, flatO (l ++ m) = flatO l ++ flatO m
  | [], _ => rfl
  | x :: l, m => by rw [List.cons_append, flatO, flatO, flatO_append l m, List.append_assoc]
theorem flatO_one : ∀ (l : List OT), ∀ v ∈ flatO l, v.oneCell' = true
  | [], v, h => by simp [flatO] at h
  | x :: l, v, h => by
    rw [flatO, List.mem_append] at h
    rcases h with h | h
    · exact opL_one x v h
    · exact flatO_one l v h
theorem flatO_at : ∀ (l : List OT) (i j : Nat) (x : OT), l[i]? = some x → j < 11 → (flatO l)[i * 11 + j]? = (opL x)[j]?
  | [], _, _, _, h, _ => by simp at h
  | y :: l, 0, j, x, h, hj => by
    have : y = x := by simpa using h
    subst this
    rw [flatO, Nat.zero_mul, Nat.zero_add, List.getElem?_append_left (by rw [opL_length]; exact hj)]
  | y :: l, i + 1, j, x, h, hj => by
    rw [flatO, List.getElem?_append_right (by rw [opL_length]; omega), opL_length, show (i + 1) * 11 + j - 11 = i * 11 + j by omega]
    exact flatO_at l i j x (by simpa using h) hj
theorem flatO_take : ∀ (l : List OT) (i : Nat), (flatO l).take (i * 11) = flatO (l.take i)
  | [], i => by simp [flatO]
  | x :: l, 0 => by simp [flatO]
  | x :: l, i + 1 => by
    rw [flatO, List.take_succ_cons, flatO, List.take_append, opL_length, show (i + 1) * 11 - 11 = i * 11 by omega, flatO_take l i, List.take_of_length_le (by rw [opL_length]; omega)]
theorem flatO_drop : ∀ (l : List OT) (i : Nat), (flatO l).drop (i * 11) = flatO (l.drop i)
  | [], i => by simp [flatO]
  | x :: l, 0 => by simp
  | x :: l, i + 1 => by
    rw [flatO, List.drop_succ_cons, List.drop_append, opL_length, show (i + 1) * 11 - 11 = i * 11 by omega, flatO_drop l i, List.drop_of_length_le (by rw [opL_length]; omega), List.nil_append]
theorem flatO_set (l : List OT) (i : Nat) (x : OT) (hi : i < l.length) : flatO (l.set i x) = (flatO l).take (i * 11) ++ opL x ++ (flatO l).drop (i * 11 + 11) := by
  rw [flatO_take, show i * 11 + 11 = (i + 1) * 11 by omega, flatO_drop, List.set_eq_take_append_cons_drop, if_pos hi, flatO_append, flatO, List.append_assoc]

/-- A row of operations that a slice shows. -/
def RowO (w : World) (base : Nat) (v : Value) (l : List OT) : Prop := w.ownsRow base 33 11 v l.length (flatO l)
theorem RowO.nil (w : World) (base : Nat) : RowO w base (.slice none 0 0) [] := ⟨rfl, .inl ⟨rfl, rfl⟩⟩
theorem RowO.kept {w w' : World} {base : Nat} {v : Value} {l : List OT} {S : Nat → Prop} (h : RowO w base v l) (ho : Only S w w') (hn : ∀ g, v.ownBlock = some g → ¬ S g) : RowO w' base v l := by
  refine ⟨h.1, ?_⟩
  rcases h.2 with e | ⟨g, cp, cur, hv, hbs, hblk, r⟩
  · exact .inl e
  · exact .inr ⟨g, cp, cur, hv, hbs, (ho.block g (block_lt hblk) (hn g (by rw [hv]; rfl))).trans hblk, r⟩
theorem RowO.below {w w' : World} {base : Nat} {v : Value} {l : List OT} (h : RowO w base v l) (hb : Below w.heap.size w w') : RowO w' base v l := own_below h hb
theorem RowO.form {w : World} {base : Nat} {v : Value} {l : List OT} (h : RowO w base v l) (hl : 0 < l.length) : ∃ g cap cur, v = .slice (some ⟨g, 0, none⟩) l.length cap ∧ w.heap[g]? = some (.cells cur 33 (0, 0)) ∧ base ≤ g ∧ l.length ≤ cap ∧ cap ≤ maxLen ∧ cur.size = cap * 11 ∧ cur.toList.take (l.length * 11) = flatO l := by
  rcases h.2 with ⟨_, h0⟩ | ⟨g, cap, cur, hv, hb, hblk, h1, h2, h3, h4⟩
  · omega
  · exact ⟨g, cap, cur, hv, hblk, hb, h1, h2, h3, h4⟩
theorem RowO.slice {w : World} {base : Nat} {v : Value} {l : List OT} (h : RowO w base v l) : ∃ p cap, v = .slice p l.length cap := own_slice h
/-- Its block is one of operations. -/
theorem RowO.tag {w : World} {base : Nat} {v : Value} {l : List OT} (h : RowO w base v l) {g : Nat} (hg : v.ownBlock = some g) : ∃ cs, w.heap[g]? = some (.cells cs 33 (0, 0)) ∧ base ≤ g := by
  rcases h.2 with ⟨rfl, _⟩ | ⟨g', cap, cur, rfl, hb, hblk, _⟩
  · simp [Value.ownBlock] at hg
  · have e' : g' = g := by simpa [Value.ownBlock] using hg
    subst e'
    exact ⟨cur, hblk, hb⟩
theorem RowO.fm {w w' : World} {base b : Nat} {v : Value} {l : List OT} (h : RowO w base v l) (hf : Fm b w w') : RowO w' base v l := by
  refine ⟨h.1, ?_⟩
  rcases h.2 with e | ⟨g, cp, cur, hv, hbs, hblk, r⟩
  · exact .inl e
  · exact .inr ⟨g, cp, cur, hv, hbs, hf.keep hblk (by decide) (by decide) (by decide), r⟩
theorem RowO.cur {w : World} {base g n cap : Nat} {l : List OT} (h : RowO w base (.slice (some ⟨g, 0, none⟩) n cap) l) : ∃ cur, w.heap[g]? = some (.cells cur 33 (0, 0)) ∧ n = l.length ∧ base ≤ g ∧ n ≤ cap ∧ cap ≤ maxLen ∧ cur.size = cap * 11 ∧ cur.toList.take (n * 11) = flatO l := by
  rcases h.2 with ⟨e, _⟩ | ⟨g', cap', cur, e, hb, hblk, h1, h2, h3, h4⟩
  · cases e
  · cases e
    exact ⟨cur, hblk, rfl, hb, h1, h2, h3, h4⟩
/-- The cells of one of them. -/
theorem RowO.cells {w : World} {base g n cap : Nat} {l : List OT} (h : RowO w base (.slice (some ⟨g, 0, none⟩) n cap) l) {i : Nat} {x : OT} (hx : l[i]? = some x) :
    w.cell? ⟨g, i * 11, none⟩ = some (.int .i64 x.t) ∧ w.cell? ⟨g, i * 11 + 1, none⟩ = some (.int .i64 x.n) ∧ w.cell? ⟨g, i * 11 + 2, none⟩ = some (.int .i64 0) ∧ w.cell? ⟨g, i * 11 + 3, none⟩ = some (.int .i64 x.k) ∧ w.cell? ⟨g, i * 11 + 4, none⟩ = some (.int .i64 0) ∧ w.cell? ⟨g, i * 11 + 5, none⟩ = some (.int .i64 0) ∧ w.cell? ⟨g, i * 11 + 6, none⟩ = some (.int .i64 0) ∧ w.cell? ⟨g, i * 11 + 7, none⟩ = some (.int .i64 0) ∧ w.cell? ⟨g, i * 11 + 8, none⟩ = some (.string ⟨#[]⟩) ∧ w.cell? ⟨g, i * 11 + 9, none⟩ = some (.slice none 0 0) ∧ w.cell? ⟨g, i * 11 + 10, none⟩ = some (.slice none 0 0) := by
  obtain ⟨cur, hblk, hn, _, _, _, _, h4⟩ := h.cur
  have hil := (List.getElem?_eq_some_iff.1 hx).1
  have key : ∀ j, j < 11 → w.cell? ⟨g, i * 11 + j, none⟩ = (opL x)[j]? := fun j hj => by
    rw [cellOf hblk, ← flatO_at l i j x hx hj, ← h4, List.getElem?_take, if_pos (by omega), Array.getElem?_toList]
  exact ⟨key 0 (by omega), key 1 (by omega), key 2 (by omega), key 3 (by omega), key 4 (by omega), key 5 (by omega), key 6 (by omega), key 7 (by omega), key 8 (by omega), key 9 (by omega), key 10 (by omega)⟩

theorem infoOpA : ∃ i, Try.prog.info? 33 = some i ∧ i.zero = some (opv 0 0 0) ∧ i.size = 11 ∧ i.bytes = 128 := by
  have e : (Try.prog.info? 33).map (fun i => (i.zero, i.size, i.bytes)) = some (some (opv 0 0 0), 11, 128) := by kernel_rfl
  obtain ⟨i, hi, he⟩ := Option.map_eq_some_iff.1 e
  injection he with h1 h2
  injection h2 with h2 h3
  exact ⟨i, hi, h1, h2, h3⟩

/-- One of them is written. -/
theorem RowO.set {w : World} {base g n cap : Nat} {l : List OT} {i : Nat} {cur : Array Value} (h : RowO w base (.slice (some ⟨g, 0, none⟩) n cap) l) (hi : i < l.length) (x : OT) (hc : w.heap[g]? = some (.cells cur 33 (0, 0))) :
    RowO (w.setRow g (cur.toList.take (i * 11) ++ opL x ++ cur.toList.drop (i * 11 + 11)).toArray) base (.slice (some ⟨g, 0, none⟩) n cap) (l.set i x) := by
  obtain ⟨cur', hblk, hn, hb, h1, h2, h3, h4⟩ := h.cur
  rw [hc] at hblk
  injection hblk with hblk
  injection hblk with hblk
  subst hblk
  refine ⟨by rw [flatO_length], .inr ⟨g, cap, _, by rw [List.length_set, hn], hb, setRow_heap w g _ _ _ _ hc, by rw [List.length_set]; omega, h2, ?_, ?_⟩⟩
  · simp only [List.size_toArray, List.length_append, List.length_take, List.length_drop, Array.length_toList, opL_length, h3]
    omega
  · rw [flatO_set l i x hi, ← h4, List.length_set, ← hn]
    have hlen : cur.toList.length = cap * 11 := by rw [Array.length_toList, h3]
    apply List.ext_getElem?
    intro j
    simp only [List.getElem?_take, List.getElem?_append, List.length_append, List.length_take, opL_length, List.getElem?_drop, hlen]
    by_cases a1 : j < n * 11
    · rw [if_pos a1]
      have e1 : min (i * 11) (cap * 11) = i * 11 := by omega
      have e2 : min (i * 11) (min (n * 11) (cap * 11)) = i * 11 := by omega
      rw [e1, e2]
      by_cases a2 : j < i * 11
      · have a4 : j < i * 11 + 11 := by omega
        simp only [a4, a2, a1, if_true]
      · by_cases a3 : j < i * 11 + 11
        · simp only [a3, a2, if_true, if_false]
        · simp only [a3, if_false]
          rw [if_pos (by omega)]
    · rw [if_neg a1]
      have e2 : min (i * 11) (min (n * 11) (cap * 11)) = i * 11 := by omega
      rw [e2, if_neg (by omega), if_neg (by omega)]
theorem wpList_setOp {w : World} {ops : Array Oper} {rest : List Oper} {o : Oper} {a : Act} {Q : Exit → Act → World → Prop} (hgd : o.guard = none) (x y : Operand) (ho : o.op = .store 33 x y)
    (base g n cap i : Nat) (l : List OT) (z : OT) (hx : a.eval x = .pointer (some ⟨g, i * 11, none⟩)) (hy : a.eval y = opv z.t z.n z.k) (h : Hid (RowO w base (.slice (some ⟨g, 0, none⟩) n cap) l ∧ i < l.length))
    (hK : ∀ w', Hid (RowO w' base (.slice (some ⟨g, 0, none⟩) n cap) (l.set i z) ∧ Only (· = g) w w' ∧ w'.heap.size = w.heap.size) → wpList Try.prog ops Q rest (a.put o.dst undef) w') : wpList Try.prog ops Q (o :: rest) a w := by
  obtain ⟨h1, hi⟩ := h.out
  obtain ⟨cur, hblk, hn, hb, g1, g2, g3, g4⟩ := h1.cur
  obtain ⟨i0, hi0, hz0, hz1, hz2⟩ := infoOpA
  have hr := run_storeCells_at (P := Try.prog) g (i * 11) 33 (opL z) 0 cur w hblk (by rw [opL_length, g3]; omega) (opL_one z)
  rw [Nat.add_zero, opL_length] at hr
  have hs : (storeVar 33 ⟨g, i * 11, none⟩ (opv z.t z.n z.k)).run Try.prog w = .ok () (w.setRow g (cur.toList.take (i * 11) ++ opL z ++ cur.toList.drop (i * 11 + 11)).toArray) := by
    rw [← hr]
    simp [storeVar, sizeOf, typeInfo, hi0, Value.cells, hz1, opL]
  refine wpList_plain hgd fun K hK' => ?_
  unfold Oper.wp execOp
  simp only [ho, hx, hy, Instr.storeAt, Instr.sureAddr, Sem.run_bind, Sem.run_pure, Result.andThen_ok, hs]
  exact hK' _ _ (hK _ ⟨h1.set hi z hblk, ⟨rfl, rfl, rfl, by simp, fun k _ hk => setRow_other w g k _ hk⟩, by simp⟩)

/-- One operation more is appended. -/
theorem wpList_appOp {w : World} {ops : Array Oper} {rest : List Oper} {o : Oper} {a : Act} {Q : Exit → Act → World → Prop} (hgd : o.guard = none) (s x : Operand) (ho : o.op = .call { callee := .builtin .append, args := #[s, x], argTypes := #[25, 25] })
    (base : Nat) (v : Value) (l : List OT) (z : OT) (hs : a.eval s = v) (g : Nat) (hx : a.eval x = .slice (some ⟨g, 0, none⟩) 1 1) (h : Hid (RowO w base v l ∧ w.heap[g]? = some (.cells (opC z.t z.n z.k) 33 (0, 0)) ∧ l.length < 1000000 ∧ base ≤ w.heap.size))
    (hK : ∀ p c w', Hid (RowO w' base (.slice p (l.length + 1) c) (l ++ [z]) ∧ w.grownBy w' v.ownBlock ∧ ((Value.slice p (l.length + 1) c).ownBlock = v.ownBlock ∨ (Value.slice p (l.length + 1) c).ownBlock = some w.heap.size)) → wpList Try.prog ops Q rest (a.put o.dst (.slice p (l.length + 1) c)) w') : wpList Try.prog ops Q (o :: rest) a w := by
  obtain ⟨h1, hg, hl, hb⟩ := h.out
  obtain ⟨i0, hi0, hz0, hz1, hz2⟩ := infoOpA
  refine wpList_append_own_at _ hgd s x 25 ho base 33 i0 _ 11 128 Try.underlying25 hi0 hz0 hz1 hz2 rfl (by decide) v l.length (flatO l) hs h1 ⟨g, 0, none⟩ 1 1 (opL z) hx rfl (fun j u hj => by
    rw [Addr.add_lit, Nat.zero_add, cellOf hg j]
    simpa [opC, opL] using hj) (opL_one z) (by unfold maxLen; omega) (by omega) hb ?_
  intro v' w' g1 g2 _ g4
  obtain ⟨p, c, rfl⟩ := own_slice g1
  refine hK p c w' ⟨?_, g2, g4⟩
  have e : flatO (l ++ [z]) = flatO l ++ opL z := by rw [flatO_append]; simp [flatO]
  unfold RowO
  rw [e, List.length_append]
  exact g1
end Go.Proofs.Ytgophojgofmkeaa.Ck
