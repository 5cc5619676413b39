/-
  Versions: their cells, rows of them, and what they hold.
-/
import Derived.Test.YteimjkicinjcgaaKQa
import Derived.Test.YteimjkicinjcgaaKKwany
import Derived.Test.YteimjkicinjcgaaKVcmp
import Derived.Lib.Overlaps
import Derived.Lib.AppendZerosOnto
import Derived.Lib.JoinLaws
import Derived.Laws.IdiomCopy
import Derived.Laws.NewBlocks
import Derived.Deep.RegionLaw

namespace Go.Proofs.Yteimjkicinjcgaa.Ck.Y.L
open Go.RowKit Go.Maps

/-- A version: its stamp, its number, what it has seen and its bytes, and where these lie. -/
structure VG where
  t : Int
  n : Int
  sq : Int
  ns : List Int
  sp : Option Addr
  sc : Nat
  bs : List (BitVec 8)
  dp : Option Addr
  dc : Nat
def verL (x : VG) : List Value := [.int .i64 x.t, .int .i64 x.n, .int .i64 x.sq, .slice x.sp x.ns.length x.sc, .slice x.dp x.bs.length x.dc]
abbrev vgC (x : VG) : Array Value := #[.int .i64 x.t, .int .i64 x.n, .int .i64 x.sq, .slice x.sp x.ns.length x.sc, .slice x.dp x.bs.length x.dc]
abbrev vgv (x : VG) : Value := .agg (vgC x)
def flatV : List VG → List Value
  | [] => []
  | x :: l => verL x ++ flatV l
theorem verL_length (x : VG) : (verL x).length = 5 := rfl
theorem verL_one (x : VG) : ∀ v ∈ verL x, v.oneCell' = true := by
  intro v hv
  simp only [verL, List.mem_cons, List.not_mem_nil, or_false] at hv
  rcases hv with rfl | rfl | rfl | rfl | rfl <;> rfl
theorem flatV_length : ∀ l : List VG, (flatV l).length = l.length * 5
  | [] => rfl
  | x :: l => by rw [flatV, List.length_append, verL_length, flatV_length l, List.length_cons]; omega
theorem flatV_append : ∀ l m : List VG, flatV (l ++ m) = flatV l ++ flatV m
  | [], _ => rfl
  | x :: l, m => by rw [List.cons_append, flatV, flatV, flatV_append l m, List.append_assoc]
theorem flatV_one : ∀ (l : List VG), ∀ v ∈ flatV l, v.oneCell' = true
  | [], v, h => by simp [flatV] at h
  | x :: l, v, h => by
    rw [flatV, List.mem_append] at h
    rcases h with h | h
    · exact verL_one x v h
    · exact flatV_one l v h
theorem flatV_at : ∀ (l : List VG) (i j : Nat) (x : VG), l[i]? = some x → j < 5 → (flatV l)[i * 5 + j]? = (verL x)[j]?
  | [], _, _, _, h, _ => by simp at h
  | y :: l, 0, j, x, h, hj => by
    have : y = x := by simpa using h
    subst this
    rw [flatV, Nat.zero_mul, Nat.zero_add, List.getElem?_append_left (by rw [verL_length]; exact hj)]
  | y :: l, i + 1, j, x, h, hj => by
    rw [flatV, List.getElem?_append_right (by rw [verL_length]; omega), verL_length, show (i + 1) * 5 + j - 5 = i * 5 + j by omega]
    exact flatV_at l i j x (by simpa using h) hj
theorem flatV_take : ∀ (l : List VG) (i : Nat), (flatV l).take (i * 5) = flatV (l.take i)
  | [], i => by simp [flatV]
  | x :: l, 0 => by simp [flatV]
  | x :: l, i + 1 => by
    rw [flatV, List.take_succ_cons, flatV, List.take_append, verL_length, show (i + 1) * 5 - 5 = i * 5 by omega, flatV_take l i, List.take_of_length_le (by rw [verL_length]; omega)]
theorem flatV_drop : ∀ (l : List VG) (i : Nat), (flatV l).drop (i * 5) = flatV (l.drop i)
  | [], i => by simp [flatV]
  | x :: l, 0 => by simp
  | x :: l, i + 1 => by
    rw [flatV, List.drop_succ_cons, List.drop_append, verL_length, show (i + 1) * 5 - 5 = i * 5 by omega, flatV_drop l i, List.drop_of_length_le (by rw [verL_length]; omega), List.nil_append]
theorem flatV_set (l : List VG) (i : Nat) (x : VG) (hi : i < l.length) : flatV (l.set i x) = (flatV l).take (i * 5) ++ verL x ++ (flatV l).drop (i * 5 + 5) := by
  rw [flatV_take, show i * 5 + 5 = (i + 1) * 5 by omega, flatV_drop, List.set_eq_take_append_cons_drop, if_pos hi, flatV_append, flatV, List.append_assoc]

/-- A row of operations that a slice shows. -/
def RowV (w : World) (base : Nat) (v : Value) (l : List VG) : Prop := w.ownsRow base 43 5 v l.length (flatV l)
theorem RowV.nil (w : World) (base : Nat) : RowV w base (.slice none 0 0) [] := ⟨rfl, .inl ⟨rfl, rfl⟩⟩
theorem RowV.kept {w w' : World} {base : Nat} {v : Value} {l : List VG} {S : Nat → Prop} (h : RowV w base v l) (ho : Only S w w') (hn : ∀ g, v.ownBlock = some g → ¬ S g) : RowV w' base v l := by
  refine ⟨h.1, ?_⟩
  rcases h.2 with e | ⟨g, cp, cur, hv, hbs, hblk, r⟩
  · exact .inl e
  · exact .inr ⟨g, cp, cur, hv, hbs, (ho.block g (block_lt hblk) (hn g (by rw [hv]; rfl))).trans hblk, r⟩
theorem RowV.below {w w' : World} {base : Nat} {v : Value} {l : List VG} (h : RowV w base v l) (hb : Below w.heap.size w w') : RowV w' base v l := own_below h hb
theorem RowV.form {w : World} {base : Nat} {v : Value} {l : List VG} (h : RowV w base v l) (hl : 0 < l.length) : ∃ g cap cur, v = .slice (some ⟨g, 0, none⟩) l.length cap ∧ w.heap[g]? = some (.cells cur 43 (0, 0)) ∧ base ≤ g ∧ l.length ≤ cap ∧ cap ≤ maxLen ∧ cur.size = cap * 5 ∧ cur.toList.take (l.length * 5) = flatV l := by
  rcases h.2 with ⟨_, h0⟩ | ⟨g, cap, cur, hv, hb, hblk, h1, h2, h3, h4⟩
  · omega
  · exact ⟨g, cap, cur, hv, hblk, hb, h1, h2, h3, h4⟩
/-- Its block is one of operations. -/
theorem RowV.tag {w : World} {base : Nat} {v : Value} {l : List VG} (h : RowV w base v l) {g : Nat} (hg : v.ownBlock = some g) : ∃ cs, w.heap[g]? = some (.cells cs 43 (0, 0)) ∧ base ≤ g := by
  rcases h.2 with ⟨rfl, _⟩ | ⟨g', cap, cur, rfl, hb, hblk, _⟩
  · simp [Value.ownBlock] at hg
  · have e' : g' = g := by simpa [Value.ownBlock] using hg
    subst e'
    exact ⟨cur, hblk, hb⟩
theorem RowV.cur {w : World} {base g n cap : Nat} {l : List VG} (h : RowV w base (.slice (some ⟨g, 0, none⟩) n cap) l) : ∃ cur, w.heap[g]? = some (.cells cur 43 (0, 0)) ∧ n = l.length ∧ base ≤ g ∧ n ≤ cap ∧ cap ≤ maxLen ∧ cur.size = cap * 5 ∧ cur.toList.take (n * 5) = flatV l := by
  rcases h.2 with ⟨e, _⟩ | ⟨g', cap', cur, e, hb, hblk, h1, h2, h3, h4⟩
  · cases e
  · cases e
    exact ⟨cur, hblk, rfl, hb, h1, h2, h3, h4⟩
/-- The cells of one of them. -/
theorem RowV.cells {w : World} {base g n cap : Nat} {l : List VG} (h : RowV w base (.slice (some ⟨g, 0, none⟩) n cap) l) {i : Nat} {x : VG} (hx : l[i]? = some x) :
    w.cell? ⟨g, i * 5, none⟩ = some (.int .i64 x.t) ∧ w.cell? ⟨g, i * 5 + 1, none⟩ = some (.int .i64 x.n) ∧ w.cell? ⟨g, i * 5 + 2, none⟩ = some (.int .i64 x.sq) ∧ w.cell? ⟨g, i * 5 + 3, none⟩ = some (.slice x.sp x.ns.length x.sc) ∧ w.cell? ⟨g, i * 5 + 4, none⟩ = some (.slice x.dp x.bs.length x.dc) := by
  obtain ⟨cur, hblk, hn, _, _, _, _, h4⟩ := h.cur
  have hil := (List.getElem?_eq_some_iff.1 hx).1
  have key : ∀ j, j < 5 → w.cell? ⟨g, i * 5 + j, none⟩ = (verL x)[j]? := fun j hj => by
    rw [cellOf hblk, ← flatV_at l i j x hx hj, ← h4, List.getElem?_take, if_pos (by omega), Array.getElem?_toList]
  exact ⟨key 0 (by omega), key 1 (by omega), key 2 (by omega), key 3 (by omega), key 4 (by omega)⟩

theorem infoV : ∃ i, Try.prog.info? 43 = some i ∧ i.zero = some (.agg #[.int .i64 0, .int .i64 0, .int .i64 0, .slice none 0 0, .slice none 0 0]) ∧ i.size = 5 ∧ i.bytes = 72 := by
  have e : (Try.prog.info? 43).map (fun i => (i.zero, i.size, i.bytes)) = some (some (.agg #[.int .i64 0, .int .i64 0, .int .i64 0, .slice none 0 0, .slice none 0 0]), 5, 72) := by kernel_rfl
  obtain ⟨i, hi, he⟩ := Option.map_eq_some_iff.1 e
  injection he with h1 h2
  injection h2 with h2 h3
  exact ⟨i, hi, h1, h2, h3⟩

/-- One of them is written. -/
theorem RowV.set {w : World} {base g n cap : Nat} {l : List VG} {i : Nat} {cur : Array Value} (h : RowV w base (.slice (some ⟨g, 0, none⟩) n cap) l) (hi : i < l.length) (x : VG) (hc : w.heap[g]? = some (.cells cur 43 (0, 0))) :
    RowV (w.setRow g (cur.toList.take (i * 5) ++ verL x ++ cur.toList.drop (i * 5 + 5)).toArray) base (.slice (some ⟨g, 0, none⟩) n cap) (l.set i x) := by
  obtain ⟨cur', hblk, hn, hb, h1, h2, h3, h4⟩ := h.cur
  rw [hc] at hblk
  injection hblk with hblk
  injection hblk with hblk
  subst hblk
  refine ⟨by rw [flatV_length], .inr ⟨g, cap, _, by rw [List.length_set, hn], hb, setRow_heap w g _ _ _ _ hc, by rw [List.length_set]; omega, h2, ?_, ?_⟩⟩
  · simp only [List.size_toArray, List.length_append, List.length_take, List.length_drop, Array.length_toList, verL_length, h3]
    omega
  · rw [flatV_set l i x hi, ← h4, List.length_set, ← hn]
    have hlen : cur.toList.length = cap * 5 := by rw [Array.length_toList, h3]
    apply List.ext_getElem?
    intro j
    simp only [List.getElem?_take, List.getElem?_append, List.length_append, List.length_take, verL_length, List.getElem?_drop, hlen]
    by_cases a1 : j < n * 5
    · rw [if_pos a1]
      have e1 : min (i * 5) (cap * 5) = i * 5 := by omega
      have e2 : min (i * 5) (min (n * 5) (cap * 5)) = i * 5 := by omega
      rw [e1, e2]
      by_cases a2 : j < i * 5
      · have a4 : j < i * 5 + 5 := by omega
        simp only [a4, a2, a1, if_true]
      · by_cases a3 : j < i * 5 + 5
        · simp only [a3, a2, if_true, if_false]
        · simp only [a3, if_false]
          rw [if_pos (by omega)]
    · rw [if_neg a1]
      have e2 : min (i * 5) (min (n * 5) (cap * 5)) = i * 5 := by omega
      rw [e2, if_neg (by omega), if_neg (by omega)]
theorem wpList_setV {w : World} {ops : Array Oper} {rest : List Oper} {o : Oper} {a : Act} {Q : Exit → Act → World → Prop} (hgd : o.guard = none) (x y : Operand) (ho : o.op = .store 43 x y)
    (base g n cap i : Nat) (l : List VG) (z : VG) (hx : a.eval x = .pointer (some ⟨g, i * 5, none⟩)) (hy : a.eval y = vgv z) (h : Hid (RowV w base (.slice (some ⟨g, 0, none⟩) n cap) l ∧ i < l.length))
    (hK : ∀ w', Hid (RowV w' base (.slice (some ⟨g, 0, none⟩) n cap) (l.set i z) ∧ Only (· = g) w w' ∧ w'.heap.size = w.heap.size) → wpList Try.prog ops Q rest (a.put o.dst undef) w') : wpList Try.prog ops Q (o :: rest) a w := by
  obtain ⟨h1, hi⟩ := h.out
  obtain ⟨cur, hblk, hn, hb, g1, g2, g3, g4⟩ := h1.cur
  obtain ⟨i0, hi0, hz0, hz1, hz2⟩ := infoV
  have hr := run_storeCells_at (P := Try.prog) g (i * 5) 43 (verL z) 0 cur w hblk (by rw [verL_length, g3]; omega) (verL_one z)
  rw [Nat.add_zero, verL_length] at hr
  have hs : (storeVar 43 ⟨g, i * 5, none⟩ (vgv z)).run Try.prog w = .ok () (w.setRow g (cur.toList.take (i * 5) ++ verL z ++ cur.toList.drop (i * 5 + 5)).toArray) := by
    rw [← hr]
    simp [storeVar, sizeOf, typeInfo, hi0, Value.cells, hz1, verL]
  refine wpList_plain hgd fun K hK' => ?_
  unfold Oper.wp execOp
  simp only [ho, hx, hy, Instr.storeAt, Instr.sureAddr, Sem.run_bind, Sem.run_pure, Result.andThen_ok, hs]
  exact hK' _ _ (hK _ ⟨h1.set hi z hblk, ⟨rfl, rfl, rfl, by simp, fun k _ hk => setRow_other w g k _ hk⟩, by simp⟩)

/-- One operation more is appended. -/
theorem wpList_appV {w : World} {ops : Array Oper} {rest : List Oper} {o : Oper} {a : Act} {Q : Exit → Act → World → Prop} (hgd : o.guard = none) (s x : Operand) (ho : o.op = .call { callee := .builtin .append, args := #[s, x], argTypes := #[38, 38] })
    (base : Nat) (v : Value) (l : List VG) (z : VG) (hs : a.eval s = v) (g : Nat) (hx : a.eval x = .slice (some ⟨g, 0, none⟩) 1 1) (h : Hid (RowV w base v l ∧ w.heap[g]? = some (.cells (vgC z) 43 (0, 0)) ∧ l.length < 1000000 ∧ base ≤ w.heap.size))
    (hK : ∀ p c w', Hid (RowV w' base (.slice p (l.length + 1) c) (l ++ [z]) ∧ w.grownBy w' v.ownBlock ∧ ((Value.slice p (l.length + 1) c).ownBlock = v.ownBlock ∨ (Value.slice p (l.length + 1) c).ownBlock = some w.heap.size)) → wpList Try.prog ops Q rest (a.put o.dst (.slice p (l.length + 1) c)) w') : wpList Try.prog ops Q (o :: rest) a w := by
  obtain ⟨h1, hg, hl, hb⟩ := h.out
  obtain ⟨i0, hi0, hz0, hz1, hz2⟩ := infoV
  refine wpList_append_own_at _ hgd s x 38 ho base 43 i0 _ 5 72 Try.underlying38 hi0 hz0 hz1 hz2 rfl (by decide) v l.length (flatV l) hs h1 ⟨g, 0, none⟩ 1 1 (verL z) hx rfl (fun j u hj => by
    rw [Addr.add_lit, Nat.zero_add, cellOf hg j]
    simpa [vgC, verL] using hj) (verL_one z) (by unfold maxLen; omega) (by omega) hb ?_
  intro v' w' g1 g2 _ g4
  obtain ⟨p, c, rfl⟩ := own_slice g1
  refine hK p c w' ⟨?_, g2, g4⟩
  have e : flatV (l ++ [z]) = flatV l ++ verL z := by rw [flatV_append]; simp [flatV]
  unfold RowV
  rw [e, List.length_append]
  exact g1
theorem ver_cells {w : World} {g : Nat} {T : TypeId} {fr : Nat × Nat} {x : VG} (h : w.heap[g]? = some (.cells (vgC x) T fr)) :
    w.cell? ⟨g, 0, none⟩ = some (.int .i64 x.t) ∧ w.cell? ⟨g, 1, none⟩ = some (.int .i64 x.n) ∧ w.cell? ⟨g, 2, none⟩ = some (.int .i64 x.sq) ∧ w.cell? ⟨g, 3, none⟩ = some (.slice x.sp x.ns.length x.sc) ∧ w.cell? ⟨g, 4, none⟩ = some (.slice x.dp x.bs.length x.dc) :=
  ⟨cellOf h 0, cellOf h 1, cellOf h 2, cellOf h 3, cellOf h 4⟩
end Go.Proofs.Yteimjkicinjcgaa.Ck.Y.L
