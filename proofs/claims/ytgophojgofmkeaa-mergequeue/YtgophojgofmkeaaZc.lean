/-
  A queue's heap in memory: Len, Less, Swap.
-/
import Derived.Test.YtgophojgofmkeaaZb
namespace Go.Proofs.Ytgophojgofmkeaa.Ck
open Go.RowKit

/-- To halt a walk. -/
structure Stop (p : Prop) : Prop where
  out : p

/-- The blocks that a queue's calls may turn: told by their types, none that was there before. -/
def MT (base : Nat) (w : World) (k : Nat) : Prop := base ≤ k ∧ ∃ cs t fr, w.heap[k]? = some (.cells cs t fr) ∧ (t = 51 ∨ t = 53 ∨ t = 55)
def Fm (base : Nat) (w w' : World) : Prop := Only (MT base w) w w'
theorem Fm.refl (base : Nat) (w : World) : Fm base w w := Only.refl _ _
theorem Fm.next {base : Nat} {a b c : World} (h : Fm base a b) (k : Fm base b c) : Fm base a c := by
  refine ⟨k.os.trans h.os, k.tape.trans h.tape, k.output.trans h.output, Nat.le_trans h.size k.size, fun i hi hn => ?_⟩
  have e := h.block i hi hn
  refine (k.block i (Nat.lt_of_lt_of_le hi h.size) (fun hm => hn ?_)).trans e
  unfold MT at *
  rw [e] at hm
  exact hm
theorem Fm.of_below {base : Nat} {w w' : World} (h : Below w.heap.size w w') : Fm base w w' := Below.only h _
theorem Fm.toBelow {base : Nat} {w w' : World} (h : Fm base w w') (hb : base ≤ w.heap.size) : Below base w w' := Only.below h hb (fun _ h => h.1)
theorem Fm.setCell {base : Nat} {w : World} {g k : Nat} {cs : Array Value} {t : TypeId} {fr : Nat × Nat} (hb : base ≤ g) (hg : w.heap[g]? = some (.cells cs t fr)) (ht : t = 51 ∨ t = 53 ∨ t = 55) (v : Value) : Fm base w (w.setCell ⟨g, k, none⟩ v) :=
  Only.setCell w ⟨g, k, none⟩ v ⟨hb, cs, t, fr, hg, ht⟩
/-- A block of another type stays. -/
theorem Fm.keep {base : Nat} {w w' : World} {g : Nat} {cs : Array Value} {t : TypeId} {fr : Nat × Nat} (h : Fm base w w') (hg : w.heap[g]? = some (.cells cs t fr)) (h1 : t ≠ 51) (h2 : t ≠ 53) (h3 : t ≠ 55) : w'.heap[g]? = some (.cells cs t fr) := by
  refine (h.block g (block_lt hg) ?_).trans hg
  rintro ⟨_, cs', t', fr', e, ht⟩
  rw [hg] at e
  injection e with e
  injection e with _ e _
  subst e
  rcases ht with rfl | rfl | rfl
  · exact h1 rfl
  · exact h2 rfl
  · exact h3 rfl

/-- A queue: where it lies, its order, how many came. -/
structure QP where
  base : Nat
  c : Nat
  lv : Value
  bk : Bool
  cm : Nat
  key : QE → Nat
def keyQ (q : QP) (U : Nat → QE) : Nat → Nat := fun a => q.key (U a)
/-- The key of one tells the queue's order. -/
def KeyOk (q : QP) : Prop := ∀ a b : QE, a.ok → b.ok → (q.key a < q.key b ↔ LB q.bk a.t a.n b.t b.n = true ∨ (LB q.bk b.t b.n a.t a.n = false ∧ a.came < b.came))

/-- A queue's heap: its row and those that are in it. -/
structure HQ (w : World) (q : QP) (p : Option Addr) (cap : Nat) (I : List Nat) (U : Nat → QE) : Prop where
  cell : w.heap[q.c]? = some (.cells (queueCells (.slice p I.length cap) q.lv q.cm false) 51 (0, 0))
  row : w.ownsRow q.base 53 1 (.slice p I.length cap) I.length (I.map ep)
  ents : ∀ k, k < I.length → IsHeld w (I.getD k 0) (U (I.getD k 0))
  nodup : I.Nodup
  len : I.length < 1000000
  lo : q.base ≤ q.c
  los : ∀ a ∈ I, q.base ≤ a
  ok : ∀ a ∈ I, (U a).ok
  less : LessIs q.lv q.bk ∧ KeyOk q

theorem HQ.form {w : World} {q : QP} {p : Option Addr} {cap : Nat} {I : List Nat} {U : Nat → QE} (h : HQ w q p cap I U) (hn : 0 < I.length) :
    ∃ g cur, p = some ⟨g, 0, none⟩ ∧ w.heap[g]? = some (.cells cur 53 (0, 0)) ∧ I.length ≤ cap ∧ cap ≤ maxLen ∧ cur.size = cap ∧ cur.toList.take I.length = I.map ep ∧ q.base ≤ g := by
  rcases h.row.2 with ⟨e, h0⟩ | ⟨g, cap', cur, e, hlo, hb, h1, h2, h3, h4⟩
  · omega
  · cases e
    rw [Nat.mul_one] at h3 h4
    exact ⟨g, cur, rfl, hb, h1, h2, h3, h4, hlo⟩
theorem HQ.cellAt {w : World} {q : QP} {g cap : Nat} {I : List Nat} {U : Nat → QE} (h : HQ w q (some ⟨g, 0, none⟩) cap I U) (k : Nat) (hk : k < I.length) : w.cell? ⟨g, k, none⟩ = some (ep (I.getD k 0)) := by
  rw [h.row.cellAt k (by simpa using hk), List.getElem?_map, List.getElem?_eq_getElem hk]
  simp [List.getD, hk]
theorem HQ.cell0 {w : World} {q : QP} {p : Option Addr} {cap : Nat} {I : List Nat} {U : Nat → QE} (h : HQ w q p cap I U) : w.cell? ⟨q.c, 0, none⟩ = some (.slice p I.length cap) := by rw [cellOf h.cell 0]; rfl
theorem own_below {w w' : World} {base : Nat} {e : TypeId} {size : Nat} {v : Value} {n : Nat} {xs : List Value} (h : w.ownsRow base e size v n xs) (hb : Below w.heap.size w w') : w'.ownsRow base e size v n xs := by
  refine ⟨h.1, ?_⟩
  rcases h.2 with h0 | ⟨g, cap, cur, hv, hbs, hblk, r⟩
  · exact .inl h0
  · exact .inr ⟨g, cap, cur, hv, hbs, (hb.block g (block_lt hblk)).trans hblk, r⟩
theorem HQ.below {w w' : World} {q : QP} {p : Option Addr} {cap : Nat} {I : List Nat} {U : Nat → QE} (h : HQ w q p cap I U) (hb : Below w.heap.size w w') : HQ w' q p cap I U :=
  ⟨(hb.block _ (block_lt h.cell)).trans h.cell, own_below h.row hb, fun k hk => (h.ents k hk).below hb, h.nodup, h.len, h.lo, h.los, h.ok, h.less⟩
theorem getD_mem {I : List Nat} {k : Nat} (h : k < I.length) : I.getD k 0 ∈ I := by
  simp [List.getD, h]
theorem getD_inj {I : List Nat} (hn : I.Nodup) {i j : Nat} (hi : i < I.length) (hj : j < I.length) (h : I.getD i 0 = I.getD j 0) : i = j := by
  simp [List.getD, hi, hj] at h
  exact (List.getElem_inj hn).1 h

set_option maxRecDepth 8000 in
set_option maxHeartbeats 400000 in
theorem gpLen_any (q : QP) (p : Option Addr) (cap : Nat) (I : List Nat) (U : Nat → QE) (w : World) (h : HQ w q p cap I U) :
    Calls Try.prog 23 #[ep q.c] w fun e w' => e = .returned (.int .i64 (I.length : Nat)) ∧ w' = w := by
  have c0 := h.cell0
  clear h
  go_enter Try.func23, Try.ntmps23
  go_wp2
  go_ret
  exact ⟨rfl, rfl⟩

theorem stamps_eq {bk : Bool} {x y : QE} (h1 : LB bk x.t x.n y.t y.n = false) (h2 : LB bk y.t y.n x.t x.n = false) : y.t = x.t ∧ y.n = x.n := by
  cases bk
  · simp only [LB, Bool.false_eq_true, if_false, lessB_false] at h1 h2
    omega
  · simp only [LB, if_true, lessB_false] at h1 h2
    omega

set_option maxRecDepth 8000 in
set_option maxHeartbeats 2000000 in
theorem gpLess_any (q : QP) (p : Option Addr) (cap : Nat) (I : List Nat) (U : Nat → QE) (i j : Nat) (w : World) (h : HQ w q p cap I U) (hi : i < I.length) (hj : j < I.length) :
    Calls Try.prog 57 #[ep q.c, .int .i64 i, .int .i64 j] w fun e w' => e = .returned (.bool (decide (kvOf (keyQ q U) I i < kvOf (keyQ q U) I j))) ∧ Below w.heap.size w w' := by
  have hk : decide (kvOf (keyQ q U) I i < kvOf (keyQ q U) I j) = (LB q.bk (U (I.getD i 0)).t (U (I.getD i 0)).n (U (I.getD j 0)).t (U (I.getD j 0)).n || (!LB q.bk (U (I.getD j 0)).t (U (I.getD j 0)).n (U (I.getD i 0)).t (U (I.getD i 0)).n && decide ((U (I.getD i 0)).came < (U (I.getD j 0)).came))) := by
    rw [Bool.eq_iff_iff, decide_eq_true_iff]
    unfold kvOf keyQ
    rw [h.less.2 _ _ (h.ok _ (getD_mem hi)) (h.ok _ (getD_mem hj))]
    simp
  have HE : Hid (decide (kvOf (keyQ q U) I i < kvOf (keyQ q U) I j) = (LB q.bk (U (I.getD i 0)).t (U (I.getD i 0)).n (U (I.getD j 0)).t (U (I.getD j 0)).n || (!LB q.bk (U (I.getD j 0)).t (U (I.getD j 0)).n (U (I.getD i 0)).t (U (I.getD i 0)).n && decide ((U (I.getD i 0)).came < (U (I.getD j 0)).came)))) := hk
  clear hk
  obtain ⟨g, cur, rfl, hb, h1, h2, h3, h4, _⟩ := h.form (by omega)
  have c0 := h.cell0
  have c1 := h.cellAt i hi
  have c2 := h.cellAt j hj
  have hx := h.ents i hi
  have hy := h.ents j hj
  have hlen := h.len
  have b1 : (0 : Int) ≤ (i : Int) := by omega
  have b2 : (0 : Int) ≤ (j : Int) := by omega
  have b3 : (i : Int) < (I.length : Int) := by omega
  have b4 : (j : Int) < (I.length : Int) := by omega
  have HC : Hid (w.heap[q.c]? = some (.cells (queueCells (.slice (some ⟨g, 0, none⟩) I.length cap) q.lv q.cm false) 51 (0, 0)) ∧ LessIs q.lv q.bk) := ⟨h.cell, h.less.1⟩
  generalize I.getD i 0 = a at *
  generalize I.getD j 0 = b at *
  have HX : Hid (IsHeld w a (U a) ∧ IsHeld w b (U b)) := ⟨hx, hy⟩
  generalize U a = x at *
  generalize U b = y at *
  clear h hb h1 h2 h3 h4 hx hy
  have HL : Hid (∀ W, Below w.heap.size w W → Calls Try.prog 36 #[ep q.c, ep a, ep b] W fun e w' => e = .returned (.bool (LB q.bk x.t x.n y.t y.n)) ∧ Below W.heap.size W w') := fun W hW => isLess_any q.c a b q.lv q.bk HC.out.2 _ q.cm x y W ((hW.block _ (block_lt HC.out.1)).trans HC.out.1) (HX.out.1.below hW) (HX.out.2.below hW)
  have HM : Hid (∀ W, Below w.heap.size w W → Calls Try.prog 36 #[ep q.c, ep b, ep a] W fun e w' => e = .returned (.bool (LB q.bk y.t y.n x.t x.n)) ∧ Below W.heap.size W w') := fun W hW => isLess_any q.c b a q.lv q.bk HC.out.2 _ q.cm y x W ((hW.block _ (block_lt HC.out.1)).trans HC.out.1) (HX.out.2.below hW) (HX.out.1.below hW)
  generalize q.c = c at *
  generalize q.bk = bk at *
  generalize I.length = m at *
  have B0 : Hid (∀ k, Below w.heap.size w (w.drewN k)) := fun k => ⟨rfl, rfl, rfl, Nat.le_refl _, fun _ _ => rfl⟩
  clear HC
  cases hA : LB bk x.t x.n y.t y.n
  · cases hB : LB bk y.t y.n x.t x.n
    · obtain ⟨e1, e2⟩ := stamps_eq hA hB
      have HS : Hid (y.t = x.t ∧ y.n = x.n) := ⟨e1, e2⟩
      rw [hA] at HL HE
      rw [hB] at HM HE
      clear e1 e2 hA hB
      have tok : True := trivial
      go_enter Try.func57, Try.ntmps57
      go_wp2_with fail
      go_quiet (fail)
      go_wp2_with (first
        | (go_at_call 36; have tk := tok; refine Calls_new (HL.out _ (B0.out _)) ?_; clear tk tok; intro w1 hb1; have HB1 : Hid (Below w.heap.size w w1) := (B0.out _).trans hb1.out; clear hb1)
        | (go_at_call 36; refine Stop.out ?_))
      refine Stop.mk ?_
      refine Calls_new (HM.out _ HB1.out) ?_
      intro w2 hb2
      have HB2 : Hid (Below w.heap.size w w2) := HB1.out.trans (hb2.out.mono HB1.out.size)
      clear hb2 HB1
      have hX2 := HX.out.1.below HB2.out
      have hY2 := HX.out.2.below HB2.out
      have x0 : w2.cell? ⟨a, 0, none⟩ = some (.int .i64 x.t) := by rw [cellOf hX2 0]; rfl
      have x1 : w2.cell? ⟨a, 1, none⟩ = some (.int .i64 x.n) := by rw [cellOf hX2 1]; rfl
      have y0 : w2.cell? ⟨b, 0, none⟩ = some (.int .i64 x.t) := by rw [cellOf hY2 0, ← HS.out.1]; rfl
      have y1 : w2.cell? ⟨b, 1, none⟩ = some (.int .i64 x.n) := by rw [cellOf hY2 1, ← HS.out.2]; rfl
      have x11 : w2.cell? ⟨a, 11, none⟩ = some (.int .i64 (x.came : Nat)) := by rw [cellOf hX2 11]; rfl
      have y11 : w2.cell? ⟨b, 11, none⟩ = some (.int .i64 (y.came : Nat)) := by rw [cellOf hY2 11]; rfl
      clear hX2 hY2
      go_wp2_with fail
      go_quiet (fail)
      go_wp2_with fail
      go_quiet (fail)
      go_wp2
      go_ret
      rw [HE.out]
      exact ⟨by simp, HB2.out.trans ⟨rfl, rfl, rfl, Nat.le_refl _, fun _ _ => rfl⟩⟩
    · rw [hA] at HL HE
      rw [hB] at HM HE
      clear hA hB
      have tok : True := trivial
      go_enter Try.func57, Try.ntmps57
      go_wp2_with fail
      go_quiet (fail)
      go_wp2_with (first
        | (go_at_call 36; have tk := tok; refine Calls_new (HL.out _ (B0.out _)) ?_; clear tk tok; intro w1 hb1; have HB1 : Hid (Below w.heap.size w w1) := (B0.out _).trans hb1.out; clear hb1)
        | (go_at_call 36; refine Calls_new (HM.out _ HB1.out) ?_; intro w2 hb2; have HB2 : Hid (Below w.heap.size w w2) := HB1.out.trans (hb2.out.mono HB1.out.size); clear hb2))
      go_ret
      rw [HE.out]
      exact ⟨by simp, HB2.out⟩
  · rw [hA] at HL HE
    clear hA
    go_enter Try.func57, Try.ntmps57
    go_wp2_with fail
    go_quiet (fail)
    go_wp2_with (go_at_call 36; refine Calls_new (HL.out _ (B0.out _)) ?_; intro w1 hb1)
    go_ret
    rw [HE.out]
    exact ⟨by simp, (B0.out _).trans hb1.out⟩
end Go.Proofs.Ytgophojgofmkeaa.Ck
