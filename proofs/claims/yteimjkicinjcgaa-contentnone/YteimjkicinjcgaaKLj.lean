/-
  A file keeps that a version with a stamp is there: mark; how many there are: Len.
-/
import Derived.Test.YteimjkicinjcgaaKLi
import Derived.Test.YteimjkicinjcgaaKVown

namespace Go.Proofs.Yteimjkicinjcgaa.Ck.Y.L
open Go.RowKit Go.Maps Go.Lib

theorem meq_some (mb : Nat) (w : World) : (binOp .eql 53 (.map (some mb)) (.map none)).run Try.prog w = .ok (.bool false) w := by kernel_rfl
theorem meq_none (w : World) : (binOp .eql 53 (.map none) (.map none)).run Try.prog w = .ok (.bool true) w := by kernel_rfl
theorem MapS.below {w w' : World} {mb : Nat} {E : List KP} (h : MapS w mb E) (hb : Below w.heap.size w w') : MapS w' mb E := h.kept (Below.only hb (fun _ => False)) (fun f => f)

set_option maxRecDepth 8000 in
set_option maxHeartbeats 1000000 in
theorem mark_some (fb mb : Nat) (t n : Int) (E : List KP) (w : World) (hf : w.cell? ⟨fb, 0, none⟩ = some (.map (some mb))) (hm : MapS w mb E) (hq : (t, n) ∉ E) :
    Calls Try.prog 28 #[.pointer (some ⟨fb, 0, none⟩), idv t n] w fun e w' => e = .returned (.tuple #[]) ∧ MapS w' mb (E ++ [(t, n)]) ∧ Only (· = mb) w w' := by
  obtain ⟨w2, hw2⟩ : ∃ w2, w2 = w.alloc (.cells #[.int .i64 t, .int .i64 n] 30) := ⟨_, rfl⟩
  have hk : w2.heap[w.heap.size]? = some (.cells #[.int .i64 t, .int .i64 n] 30 (0, 0)) := by rw [hw2]; exact heap_alloc_new w _
  have hB : Below w.heap.size w w2 := by rw [hw2]; exact below_new w _
  have f0 : w2.cell? ⟨fb, 0, none⟩ = some (.map (some mb)) := cell_keptH hf hB
  have t0 : w2.cell? ⟨w.heap.size, 0, none⟩ = some (.int .i64 t) := cellOf hk 0
  have t1 : w2.cell? ⟨w.heap.size, 1, none⟩ = some (.int .i64 n) := cellOf hk 1
  have hm1 : MapS w2 mb E := hm.below hB
  have hm2 : MapS w2.drew mb E := hm1
  obtain ⟨W, hput, hW1, hW2, _⟩ := put_map hm2 hq
  have H : Hid (MapS W mb (E ++ [(t, n)]) ∧ Only (· = mb) w W) := ⟨hW1, (Below.only hB _).next (Only.next (a := w2) (b := w2.drew) ⟨rfl, rfl, rfl, Nat.le_refl _, fun _ _ _ => rfl⟩ hW2)⟩
  have g0 : (w.alloc (.cells #[.int .i64 t, .int .i64 n] 30)).cell? ⟨fb, 0, none⟩ = some (.map (some mb)) := by rw [← hw2]; exact f0
  have q1 := meq_some mb
  rw [hw2] at hput
  clear hf hm hq hk hB hm1 hm2 hW1 hW2 hw2 f0 t0 t1
  go_enter Try.func28, Try.ntmps28
  go_wp2_with fail
  go_region
  go_wp2
  go_end0
  exact ⟨rfl, H.out⟩

set_option maxRecDepth 8000 in
set_option maxHeartbeats 1000000 in
theorem mark_nil (fb : Nat) (t n : Int) (x1 x2 : Value) (w : World) (hf : w.heap[fb]? = some (.cells #[.map none, x1, x2] 55 (0, 0))) :
    Calls Try.prog 28 #[.pointer (some ⟨fb, 0, none⟩), idv t n] w fun e w' => e = .returned (.tuple #[]) ∧ ∃ mb, w'.heap[fb]? = some (.cells #[.map (some mb), x1, x2] 55 (0, 0)) ∧ MapS w' mb [(t, n)] ∧ Only (· = fb) w w' ∧ w.heap.size ≤ mb := by
  obtain ⟨A, hA⟩ : ∃ A, A = (w.alloc (.cells #[.int .i64 t, .int .i64 n] 30)).alloc (.map #[] 0) := ⟨_, rfl⟩
  have bA : Below w.heap.size w A := by rw [hA]; exact (below_two w _ _).out
  have kf : A.heap[fb]? = some (.cells #[.map none, x1, x2] 55 (0, 0)) := (bA.block fb (block_lt hf)).trans hf
  have kk : A.heap[w.heap.size]? = some (.cells #[.int .i64 t, .int .i64 n] 30 (0, 0)) := by rw [hA, Below.heap_alloc _ _ _ (by simp)]; exact heap_alloc_new w _
  have km : A.heap[w.heap.size + 1]? = some (.map #[] 0) := by
    have := heap_alloc_new (w.alloc (.cells #[.int .i64 t, .int .i64 n] 30)) (.map #[] 0)
    rw [← hA] at this
    rwa [show (w.alloc (.cells #[.int .i64 t, .int .i64 n] 30)).heap.size = w.heap.size + 1 by simp] at this
  have hfl := block_lt hf
  obtain ⟨B, hB⟩ : ∃ B, B = A.setCell ⟨fb, 0, none⟩ (.map (some (w.heap.size + 1))) := ⟨_, rfl⟩
  have bf : B.heap[fb]? = some (.cells #[.map (some (w.heap.size + 1)), x1, x2] 55 (0, 0)) := by rw [hB]; exact heap_set_same kf _
  have bk : B.heap[w.heap.size]? = some (.cells #[.int .i64 t, .int .i64 n] 30 (0, 0)) := by rw [hB, Below.heap_setCell _ _ _ _ (by simp; omega)]; exact kk
  have bm : B.heap[w.heap.size + 1]? = some (.map #[] 0) := by rw [hB, Below.heap_setCell _ _ _ _ (by simp; omega)]; exact km
  have hm2 : MapS B.drew (w.heap.size + 1) [] := ⟨#[], 0, bm, rfl⟩
  obtain ⟨W, hput, hW1, hW2, _⟩ := put_map hm2 (t := t) (n := n) (by simp)
  have oB : Only (· = fb) w B := (Below.only bA _).next (by rw [hB]; exact Only.setCell (S := (· = fb)) _ _ _ rfl)
  have H : Hid (∃ mb, W.heap[fb]? = some (.cells #[.map (some mb), x1, x2] 55 (0, 0)) ∧ MapS W mb [(t, n)] ∧ Only (· = fb) w W ∧ w.heap.size ≤ mb) := by
    refine ⟨w.heap.size + 1, (hW2.block fb (block_lt bf) (by show ¬ fb = _; omega)).trans bf, hW1, ?_, by omega⟩
    exact oB.trans (Only.trans (a := B) (b := B.drew) (S := (· = w.heap.size + 1)) ⟨rfl, rfl, rfl, Nat.le_refl _, fun _ _ _ => rfl⟩ hW2 (fun i hi => .inl hi)) (fun i hi => .inr (by show w.heap.size ≤ i; have : i = w.heap.size + 1 := hi; omega))
  have g0 : A.cell? ⟨fb, 0, none⟩ = some (.map none) := cellOf kf 0
  have g1 : A.frozen? ⟨fb, 0, none⟩ = false := frozenOf kf 0
  have g2 : B.cell? ⟨w.heap.size, 0, none⟩ = some (.int .i64 t) := cellOf bk 0
  have g3 : B.cell? ⟨w.heap.size, 1, none⟩ = some (.int .i64 n) := cellOf bk 1
  have e0 : (w.alloc (.cells #[.int .i64 t, .int .i64 n] 30)).cell? ⟨fb, 0, none⟩ = some (.map none) := cell_keptH (cellOf hf 0) (below_new w _).out
  have q1 := meq_none
  have hmm := @run_makeMap Try.prog
  rw [hB] at g2 g3 hput
  rw [hA] at g0 g1 g2 g3 hput
  clear hf bA kf kk km hfl hB bf bk bm hm2 hW1 hW2 oB hA
  go_enter Try.func28, Try.ntmps28
  go_wp2_with fail
  go_region
  go_wp2
  go_end0
  exact ⟨rfl, H.out⟩

end Go.Proofs.Yteimjkicinjcgaa.Ck.Y.L
