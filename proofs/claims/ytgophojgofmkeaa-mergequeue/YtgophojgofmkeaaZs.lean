/-
  The law MergeQueue's own list, and its search.
-/
import Derived.Test.YtgophojgofmkeaaZq
import Derived.Laws.Append
namespace Go.Proofs.Ytgophojgofmkeaa.Ck
open Go.RowKit Go.Maps

/-- A row of operations, or what is left of one that was cut at its end. -/
def MRow (w : World) (base : Nat) (v : Value) (l : List OT) : Prop :=
  RowO w base v l ∨ ∃ g cs, v = .slice (some ⟨g, 0, none⟩) l.length l.length ∧ base ≤ g ∧ w.heap[g]? = some (.cells cs 33 (0, 0)) ∧ ∀ (j : Nat) (u : Value), (flatO l)[j]? = some u → cs[j]? = some u
theorem MRow.below {w w' : World} {base : Nat} {v : Value} {l : List OT} (h : MRow w base v l) (hb : Below w.heap.size w w') : MRow w' base v l := by
  rcases h with h | ⟨g, cs, e, hl, hg, hc⟩
  · exact .inl (h.below hb)
  · exact .inr ⟨g, cs, e, hl, (hb.block g (block_lt hg)).trans hg, hc⟩
theorem MRow.fm {w w' : World} {base b : Nat} {v : Value} {l : List OT} (h : MRow w base v l) (hf : Fm b w w') : MRow w' base v l := by
  rcases h with h | ⟨g, cs, e, hl, hg, hc⟩
  · exact .inl (h.fm hf)
  · exact .inr ⟨g, cs, e, hl, hf.keep hg (by decide) (by decide) (by decide), hc⟩
theorem MRow.view {w : World} {base : Nat} {v : Value} {l : List OT} (h : MRow w base v l) : ∃ p c, v = .slice p l.length c ∧ l.length ≤ c ∧ (p = none ∧ l.length = 0 ∨ ∃ g cs, p = some ⟨g, 0, none⟩ ∧ base ≤ g ∧ w.heap[g]? = some (.cells cs 33 (0, 0)) ∧ ∀ (j : Nat) (u : Value), (flatO l)[j]? = some u → cs[j]? = some u) := by
  rcases h with h | ⟨g, cs, e, hl, hg, hc⟩
  · rcases h.2 with ⟨e, h0⟩ | ⟨g, cap, cur, e, hb, hblk, h1, h2, h3, h4⟩
    · exact ⟨none, 0, by rw [h0]; exact e, by omega, .inl ⟨rfl, h0⟩⟩
    · refine ⟨_, cap, e, h1, .inr ⟨g, cur, rfl, hb, hblk, fun j u hj => ?_⟩⟩
      have hjl := (List.getElem?_eq_some_iff.1 hj).1
      rw [flatO_length] at hjl
      rw [← h4, List.getElem?_take, if_pos hjl, Array.getElem?_toList] at hj
      exact hj
  · exact ⟨_, _, e, Nat.le_refl _, .inr ⟨g, cs, rfl, hl, hg, hc⟩⟩
theorem MRow.cells {w : World} {base g n c : Nat} {l : List OT} (h : MRow w base (.slice (some ⟨g, 0, none⟩) n c) l) {i : Nat} {x : OT} (hx : l[i]? = some x) :
    w.cell? ⟨g, i * 11, none⟩ = some (.int .i64 x.t) ∧ w.cell? ⟨g, i * 11 + 1, none⟩ = some (.int .i64 x.n) ∧ w.cell? ⟨g, i * 11 + 3, none⟩ = some (.int .i64 x.k) := by
  obtain ⟨p, c', e, _, hv⟩ := h.view
  injection e with e1 e2 e3
  subst e1
  rcases hv with ⟨e, _⟩ | ⟨g', cs, e, _, hg, hc⟩
  · cases e
  · cases e
    have key : ∀ j u, j < 11 → (opL x)[j]? = some u → w.cell? ⟨g, i * 11 + j, none⟩ = some u := fun j u hj hu => by
      rw [cellOf hg]
      exact hc _ u ((flatO_at l i j x hx hj).trans hu)
    exact ⟨key 0 _ (by omega) rfl, key 1 _ (by omega) rfl, key 3 _ (by omega) rfl⟩

theorem grown_ops (w : World) (base old : Nat) (l k : List OT) (hs : l.length + k.length ≤ 100000) (hb : base ≤ w.heap.size) :
    RowO (w.drew.alloc (.cells ((flatO l).toArray ++ (flatO k).toArray ++ Builtin.zeroCells (opv 0 0 0).cells (grownCap w (l.length + k.length) old 33 - (l.length + k.length))) 33)) base (.slice (some ⟨w.heap.size, 0, none⟩) (l.length + k.length) (grownCap w (l.length + k.length) old 33)) (l ++ k) ∧
    Below w.heap.size w (w.drew.alloc (.cells ((flatO l).toArray ++ (flatO k).toArray ++ Builtin.zeroCells (opv 0 0 0).cells (grownCap w (l.length + k.length) old 33 - (l.length + k.length))) 33)) := by
  have hge := grownCap_ge w (l.length + k.length) old 33
  have hcm := grownCap_le_maxLen w (l.length + k.length) old 33 (by unfold maxLen; omega)
  refine ⟨⟨flatO_length _, .inr ⟨w.heap.size, _, _, by rw [List.length_append], hb, heap_alloc_new w.drew _, by rw [List.length_append]; exact hge, hcm, ?_, ?_⟩⟩, ?_⟩
  · simp only [Array.size_append, List.size_toArray, size_zeroCells, flatO_length]
    rw [show (opv 0 0 0).cells.size = 11 from rfl]
    omega
  · simp only [Array.toList_append, List.append_assoc]
    rw [← List.append_assoc, ← flatO_append, ← flatO_length]
    exact List.take_left
  · exact ((Below.refl _ w).drew).alloc (Nat.le_refl _) _

/-- One operation more. -/
theorem wpList_appM {w : World} {ops : Array Oper} {rest : List Oper} {o : Oper} {a : Act} {Q : Exit → Act → World → Prop} (hgd : o.guard = none) (s x : Operand) (ho : o.op = .call { callee := .builtin .append, args := #[s, x], argTypes := #[25, 25] })
    (base : Nat) (v : Value) (l : List OT) (z : OT) (hs : a.eval s = v) (g : Nat) (hx : a.eval x = .slice (some ⟨g, 0, none⟩) 1 1) (h : Hid (MRow w base v l ∧ w.heap[g]? = some (.cells (opC z.t z.n z.k) 33 (0, 0)) ∧ l.length < 1000 ∧ base ≤ w.heap.size))
    (hK : ∀ p c w', Hid (RowO w' base (.slice p (l.length + 1) c) (l ++ [z]) ∧ w.grownBy w' v.ownBlock) → wpList Try.prog ops Q rest (a.put o.dst (.slice p (l.length + 1) c)) w') : wpList Try.prog ops Q (o :: rest) a w := by
  obtain ⟨h1, hg, hl, hb⟩ := h.out
  rcases h1 with h1 | ⟨g', cs, e, hl', hg', hc⟩
  · exact wpList_appOp hgd s x ho base v l z hs g hx ⟨h1, hg, by omega, hb⟩ (fun p c w' H => hK p c w' ⟨H.out.1, H.out.2.1⟩)
  · obtain ⟨i0, hi0, hz0, hz1, hz2⟩ := infoOpA
    have hr := run_append_grow (P := Try.prog) w 25 o.type 33 i0 _ Try.underlying25 hi0 hz0 ⟨g', 0, none⟩ l.length l.length (flatO l) (by rw [hz1, flatO_length]) (fun j u hj => by
      rw [Addr.add_lit, Nat.zero_add, cellOf hg']; exact hc j u hj) ⟨g, 0, none⟩ 1 1 (flatO [z]) (by rw [hz1, flatO_length]; rfl) (fun j u hj => by
      rw [Addr.add_lit, Nat.zero_add, cellOf hg j]
      simpa [opC, opL, flatO] using hj) (by omega) (by omega) (growslice_fits (by omega) (by rw [hz2]; omega))
    obtain ⟨k1, k2⟩ := grown_ops w base l.length l [z] (by simp; omega) hb
    subst e
    refine wpList_plain hgd fun K hK' => ?_
    unfold Oper.wp execOp
    simp only [ho, resolve, invoke, builtin, Sem.run_bind, Sem.run_pure, Result.andThen_ok, List.map_toArray, List.map_cons, List.map_nil, hs, hx, hr]
    exact hK' _ _ (hK _ _ _ ⟨k1, ⟨k2.os, k2.tape, k2.output, k2.size, fun k hk _ => k2.block k hk⟩⟩)

theorem slice_headO (p : Option Addr) (hp : p = none ∨ ∃ g, p = some ⟨g, 0, none⟩) (n c b : Nat) (W : World) (h1 : b ≤ n) (h2 : n ≤ c) : (Instr.sliceAt 25 (.slice p n c) none (some (.int .i64 (b : Nat))) (some (.int .i64 (b : Nat)))).run Try.prog W = .ok (.slice p b b) W := by
  obtain ⟨i0, hi0, hz0, hz1, hz2⟩ := infoOpA
  have hac : b ≤ c := by omega
  rcases hp with rfl | ⟨g, rfl⟩
  · simp [Instr.sliceAt, Instr.slice, Instr.sliceBounds, Instr.sliceBound, run_underlying Try.underlying25, sizeOf, typeInfo, hi0, hac, go_sem, Addr.add]
  · simp [Instr.sliceAt, Instr.slice, Instr.sliceBounds, Instr.sliceBound, run_underlying Try.underlying25, sizeOf, typeInfo, hi0, hac, go_sem, Addr.add]
def tailO (p : Option Addr) (c b : Nat) : Option Addr := if c = b then p else p.map (·.add (b * 11))
theorem slice_tailO (p : Option Addr) (n c b : Nat) (W : World) (h1 : b ≤ n) : (Instr.sliceAt 25 (.slice p n c) (some (.int .i64 (b : Nat))) none none).run Try.prog W = .ok (.slice (tailO p c b) (n - b) (c - b)) W := by
  obtain ⟨i0, hi0, hz0, hz1, hz2⟩ := infoOpA
  unfold tailO
  simp [Instr.sliceAt, Instr.slice, Instr.sliceBounds, Instr.sliceBound, run_underlying Try.underlying25, sizeOf, typeInfo, hi0, hz1, h1, go_sem]

/-- One is taken out of the row. -/
theorem MRow.cut {w : World} {base g n c : Nat} {l : List OT} (h : MRow w base (.slice (some ⟨g, 0, none⟩) n c) l) (hn : l.length = n) (hs : n ≤ 1000) {b : Nat} (hbn : b < n) (hbw : base ≤ w.heap.size) :
    ∃ p' c' w', (∀ ty, (Builtin.append_ #[25, 25] ty #[.slice (some ⟨g, 0, none⟩) b b, .slice (tailO (some ⟨g, 0, none⟩) c (b + 1)) (n - (b + 1)) (c - (b + 1))]).run Try.prog w = .ok (.slice p' (n - 1) c') w') ∧ MRow w' base (.slice p' (n - 1) c') (l.eraseIdx b) ∧ Below w.heap.size w w' := by
  obtain ⟨i0, hi0, hz0, hz1, hz2⟩ := infoOpA
  obtain ⟨p, c', e, hlc, hv⟩ := h.view
  injection e with e1 e2 e3
  subst e1
  subst e3
  rcases hv with ⟨e, _⟩ | ⟨g', cs, e, hbg, hg, hc⟩
  · cases e
  · cases e
    have hcut : ∀ j u, (flatO (l.take b))[j]? = some u → cs[j]? = some u := fun j u hj => by
      rw [← flatO_take, List.getElem?_take] at hj
      split at hj
      · exact hc j u hj
      · cases hj
    have hel : (l.eraseIdx b).length = n - 1 := by rw [List.length_eraseIdx, if_pos (by omega)]; omega
    by_cases hlast : b + 1 = n
    · have e0 : n - (b + 1) = 0 := by omega
      rw [e0]
      have hr : ∀ ty, (Builtin.append_ #[25, 25] ty #[.slice (some ⟨g, 0, none⟩) b b, .slice (tailO (some ⟨g, 0, none⟩) c (b + 1)) 0 (c - (b + 1))]).run Try.prog w = .ok (.slice (some ⟨g, 0, none⟩) b b) w := by
        intro ty
        generalize tailO (some ⟨g, 0, none⟩) c (b + 1) = q
        cases q <;> simp [Builtin.append_, run_underlying Try.underlying25, sizeOf, typeInfo, hi0, Builtin.lenOf, Builtin.firstCells, storeCells, loadCells, loadCellsFrom]
      have hb1 : n - 1 = b := by omega
      have hee : l.eraseIdx b = l.take b := by
        rw [List.eraseIdx_eq_take_drop_succ, List.drop_of_length_le (by omega), List.append_nil]
      rw [hb1]
      refine ⟨some ⟨g, 0, none⟩, b, w, hr, .inr ⟨g, cs, ?_, hbg, hg, ?_⟩, Below.refl _ _⟩
      · rw [hel, hb1]
      · rw [hee]; exact hcut
    · have ht : tailO (some ⟨g, 0, none⟩) c (b + 1) = some ⟨g, (b + 1) * 11, none⟩ := by
        unfold tailO
        rw [if_neg (by omega), Option.map_some, Addr.add_lit, Nat.zero_add]
      rw [ht]
      have hr := fun ty => run_append_grow (P := Try.prog) w 25 ty 33 i0 _ Try.underlying25 hi0 hz0 ⟨g, 0, none⟩ b b (flatO (l.take b)) (by rw [hz1, flatO_length, List.length_take]; omega) (fun j u hj => by
        rw [Addr.add_lit, Nat.zero_add, cellOf hg]; exact hcut j u hj) ⟨g, (b + 1) * 11, none⟩ (n - (b + 1)) (c - (b + 1)) (flatO (l.drop (b + 1))) (by rw [hz1, flatO_length, List.length_drop]; omega) (fun j u hj => by
        rw [Addr.add_lit, cellOf hg]
        rw [← flatO_drop, List.getElem?_drop] at hj
        exact hc _ u hj) (by omega) (by omega) (growslice_fits (by omega) (by rw [hz2]; omega))
      have hl1 : (l.take b).length = b := by rw [List.length_take]; omega
      have hl2 : (l.drop (b + 1)).length = n - (b + 1) := by rw [List.length_drop]; omega
      obtain ⟨k1, k2⟩ := grown_ops w base b (l.take b) (l.drop (b + 1)) (by omega) hbw
      rw [hl1, hl2] at k1 k2
      have hnb : b + (n - (b + 1)) = n - 1 := by omega
      rw [hnb] at k1 k2
      simp only [hnb] at hr
      rw [List.eraseIdx_eq_take_drop_succ]
      exact ⟨_, _, _, hr, .inl k1, k2⟩

/- The search. -/
/-- Those of the queue, as they came. -/
structure Came (bk : Bool) (cm : Nat) (L : List QE) : Prop where
  rise : L.Pairwise fun a b => a.came < b.came
  low : ∀ e ∈ L, e.came < cm
  ok : ∀ e ∈ L, e.ok
theorem Came.push {bk : Bool} {cm : Nat} {L : List QE} (h : Came bk cm L) {t n k : Int} (hr : Rng t n) (hc : cm < 1000000) : Came bk (cm + 1) (L ++ [⟨t, n, k, cm⟩]) := by
  refine ⟨?_, fun e he => ?_, fun e he => ?_⟩
  · rw [List.pairwise_append]
    exact ⟨h.rise, by simp, fun a ha b hb => by rw [List.mem_singleton.1 hb]; exact h.low a ha⟩
  · rcases List.mem_append.1 he with he | he
    · have := h.low e he; omega
    · rw [List.mem_singleton.1 he]; show cm < cm + 1; omega
  · rcases List.mem_append.1 he with he | he
    · exact h.ok e he
    · rw [List.mem_singleton.1 he]; exact ⟨hr, hc⟩
theorem Came.drop {bk : Bool} {cm cm' : Nat} {L : List QE} (h : Came bk cm L) (b : Nat) (hc : L.eraseIdx b = [] ∨ cm' = cm) : Came bk cm' (L.eraseIdx b) := by
  have hsub := List.eraseIdx_sublist L b
  refine ⟨h.rise.sublist hsub, fun e he => ?_, fun e he => h.ok e (hsub.subset he)⟩
  rcases hc with hc | hc
  · rw [hc] at he; cases he
  · rw [hc]; exact h.low e (hsub.subset he)
/-- b is the first of the least ones among the first k. -/
def BestOf (bk : Bool) (L : List QE) (k b : Nat) : Prop := b < k ∧ ∃ x, L[b]? = some x ∧ ∀ (j : Nat) (y : QE), j < k → L[j]? = some y → keyE bk x ≤ keyE bk y
theorem BestOf.first {bk : Bool} {L : List QE} {x : QE} (hx : L[0]? = some x) : BestOf bk L 1 0 := by
  refine ⟨by omega, x, hx, fun j y hj hy => ?_⟩
  have : j = 0 := by omega
  subst this
  rw [hx] at hy
  cases hy
  exact Nat.le_refl _
theorem BestOf.step {bk : Bool} {cm k b : Nat} {L : List QE} (h : BestOf bk L k b) (hC : Came bk cm L) {x y : QE} (hx : L[b]? = some x) (hy : L[k]? = some y) : BestOf bk L (k + 1) (if LB bk y.t y.n x.t x.n then k else b) := by
  obtain ⟨h1, x', hx', h2⟩ := h
  rw [hx] at hx'
  cases hx'
  have okx := hC.ok x (List.mem_of_getElem? hx)
  have oky := hC.ok y (List.mem_of_getElem? hy)
  have hcm : x.came < y.came := by
    obtain ⟨hb, e1⟩ := List.getElem?_eq_some_iff.1 hx
    obtain ⟨hk, e2⟩ := List.getElem?_eq_some_iff.1 hy
    have := (List.pairwise_iff_getElem.1 hC.rise) b k hb hk h1
    rw [e1, e2] at this
    exact this
  cases hl : LB bk y.t y.n x.t x.n
  · simp only [Bool.false_eq_true, if_false]
    refine ⟨by omega, x, hx, fun j z hj hz => ?_⟩
    by_cases hjk : j < k
    · exact h2 j z hjk hz
    · have : j = k := by omega
      subst this
      rw [hy] at hz
      cases hz
      have : keyE bk x < keyE bk y := by rw [keyE_lt okx oky]; exact .inr ⟨hl, hcm⟩
      omega
  · simp only [if_true]
    have hlt : keyE bk y < keyE bk x := by rw [keyE_lt oky okx]; exact .inl hl
    refine ⟨by omega, y, hy, fun j z hj hz => ?_⟩
    by_cases hjk : j < k
    · have := h2 j z hjk hz; omega
    · have : j = k := by omega
      subst this
      rw [hy] at hz
      cases hz
      exact Nat.le_refl _
/-- The queue gives just that one. -/
theorem BestOf.least {bk : Bool} {cm b : Nat} {L : List QE} {q : QP} (hq : q.key = keyE bk) (h : BestOf bk L L.length b) (hC : Came bk cm L) {e : QE} (he : Least q L e) : L[b]? = some e := by
  obtain ⟨h1, x, hx, h2⟩ := h
  rw [hx]
  have okx := hC.ok x (List.mem_of_getElem? hx)
  have oke := hC.ok e he.1
  obtain ⟨j, hj, ej⟩ := List.getElem_of_mem he.1
  have a1 := h2 j e hj (by rw [List.getElem?_eq_getElem hj, ej])
  have a2 := he.2 x (List.mem_of_getElem? hx)
  rw [hq] at a2
  have hc := (keyE_inj okx oke (Nat.le_antisymm a1 a2)).2.2
  obtain ⟨hb, eb⟩ := List.getElem?_eq_some_iff.1 hx
  have hjb : b = j := by
    rcases Nat.lt_trichotomy b j with h | h | h
    · have := (List.pairwise_iff_getElem.1 hC.rise) b j hb hj h
      rw [eb, ej] at this; omega
    · exact h
    · have := (List.pairwise_iff_getElem.1 hC.rise) j b hj hb h
      rw [eb, ej] at this; omega
  subst hjb
  rw [← eb, ej]
theorem erase_perm {L L' : List QE} {b : Nat} {x : QE} (hx : L[b]? = some x) (hp : (L' ++ [x]).Perm L) : L'.Perm (L.eraseIdx b) := by
  obtain ⟨hb, eb⟩ := List.getElem?_eq_some_iff.1 hx
  have h1 : L.Perm (L.eraseIdx b ++ [x]) := by
    have e : L = L.take b ++ x :: L.drop (b + 1) := by
      conv => lhs; rw [← List.take_append_drop b L, List.drop_eq_getElem_cons hb, eb]
    rw [List.eraseIdx_eq_take_drop_succ]
    conv => lhs; rw [e]
    exact List.perm_middle.trans (List.perm_append_comm (l₁ := [x]) (l₂ := L.take b ++ L.drop (b + 1)))
  exact (List.perm_append_right_iff [x]).1 (hp.trans h1)
theorem QL.perm {w : World} {q : QP} {L L' : List QE} (h : QL w q L) (hp : L.Perm L') : QL w q L' := by
  obtain ⟨p, cap, I, U, h1, h2, h3⟩ := h
  exact ⟨p, cap, I, U, h1, h2, h3.trans hp⟩
theorem map_erase (L : List QE) (b : Nat) : (L.eraseIdx b).map strip = (L.map strip).eraseIdx b := by
  rw [List.eraseIdx_eq_take_drop_succ, List.eraseIdx_eq_take_drop_succ, List.map_append, List.map_take, List.map_drop]
end Go.Proofs.Ytgophojgofmkeaa.Ck
