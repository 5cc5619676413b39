/-
  The heap by name, whatever it holds: Less.
-/
import Derived.Test.YtdocablbkafkiaaDoorFb
namespace Go.Proofs.YtdocablbkafkiaaDoor.Cd
open Go.RowKit Go.Maps

attribute [local go_sem] Oper.semAt_some

/-- An entry of a heap lies in its row. -/
theorem HB.at_ {w : World} {base kb : Nat} {p : Option Addr} {n c : Nat} {L : List En} (h : HB w base kb (.slice p n c) L) {i : Nat} {x : En} (hx : L[i]? = some x) : ∃ q cur, p = some ⟨q, 0, none⟩ ∧ w.heap[q]? = some (.cells cur 55 (0, 0)) ∧ base ≤ q ∧ cur[i * 2]? = some (.string (bas x.name)) ∧ cur[i * 2 + 1]? = some (.int .i64 (x.num : Nat)) ∧ n = L.length ∧ n ≤ c ∧ c ≤ maxLen ∧ cur.size = c * 2 ∧ cur.toList.take (n * 2) = ents L := by
  have hil : i < L.length := (List.getElem?_eq_some_iff.1 hx).1
  rcases h.blk.2 with ⟨e1, e2⟩ | ⟨q, cap, cur, e1, e2, e3, e4, e5, e6, e7⟩
  · cases L with
    | nil => simp at hx
    | cons a l => simp at e2
  · cases e1
    have hg : ∀ j, j < 2 → cur[i * 2 + j]? = (entCells x)[j]? := fun j hj => by
      have := congrArg (fun l => l[i * 2 + j]?) e7
      simp only [List.getElem?_take] at this
      rw [if_pos (by omega), Array.getElem?_toList] at this
      rw [this]
      exact ents_at L i j x hx hj
    exact ⟨q, cur, rfl, e3, e2, hg 0 (by omega), hg 1 (by omega), rfl, e4, e5, e6, e7⟩

set_option maxRecDepth 8000 in
set_option maxHeartbeats 1000000 in
theorem zless_any (base kb : Nat) (p : Option Addr) (n c : Nat) (L : List En) (i j : Nat) (x y : En) (w : World) (h : HB w base kb (.slice p n c) L) (hx : L[i]? = some x) (hy : L[j]? = some y) (hn : n < 1000000) :
    Calls Tryd.prog 103 #[.slice p n c, .int .i64 i, .int .i64 j] w fun e w' => e = .returned (.bool (Op.bytesLess x.name y.name)) ∧ ∃ k, w' = w.drewN k := by
  obtain ⟨q, cur, rfl, h3, _, g0, _, rfl, _⟩ := h.at_ hx
  obtain ⟨q', cur', e, h3', _, k0, _⟩ := h.at_ hy
  cases e
  rw [h3] at h3'
  cases h3'
  have c0 : w.cell? ⟨q, i * 2, none⟩ = some (.string (bas x.name)) := by rw [cellOf h3]; exact g0
  have c1 : w.cell? ⟨q, j * 2, none⟩ = some (.string (bas y.name)) := by rw [cellOf h3]; exact k0
  have hi := (List.getElem?_eq_some_iff.1 hx).1
  have hj := (List.getElem?_eq_some_iff.1 hy).1
  have hiI : (i : Int) < (L.length : Int) := by omega
  have hjI : (j : Int) < (L.length : Int) := by omega
  clear hx hy h
  generalize L.length = m at *
  go_enter Tryd.func103, Tryd.ntmps103
  go_wp2_with fail
  go_region
  go_wp2
  go_ret
  refine ⟨?_, 1, rfl⟩
  rw [bas_toList, bas_toList]
  rfl

theorem ents_put : ∀ (L : List En) (i : Nat) (y : En), i < L.length → ents (L.set i y) = ((ents L).set (i * 2) (.string (bas y.name))).set (i * 2 + 1) (.int .i64 (y.num : Nat))
  | [], _, _, h => by simp at h
  | x :: L, 0, y, _ => by simp [ents_cons, entCells]
  | x :: L, i + 1, y, h => by
    rw [List.set_cons_succ, ents_cons, ents_cons, ents_put L i y (by simpa using h)]
    simp [entCells, show (i + 1) * 2 = i * 2 + 2 by omega]
theorem HB.put {w : World} {base kb q n c : Nat} {L : List En} (h : HB w base kb (.slice (some ⟨q, 0, none⟩) n c) L) (i : Nat) (y : En) (hi : i < L.length) :
    HB ((w.setCell ⟨q, i * 2, none⟩ (.string (bas y.name))).setCell ⟨q, i * 2 + 1, none⟩ (.int .i64 (y.num : Nat))) base kb (.slice (some ⟨q, 0, none⟩) n c) (L.set i y) ∧
    Only (hS kb (.slice (some ⟨q, 0, none⟩) n c)) w ((w.setCell ⟨q, i * 2, none⟩ (.string (bas y.name))).setCell ⟨q, i * 2 + 1, none⟩ (.int .i64 (y.num : Nat))) := by
  have hne : q ≠ kb := h.ne rfl
  obtain ⟨x, hx⟩ : ∃ x, L[i]? = some x := ⟨_, List.getElem?_eq_getElem hi⟩
  obtain ⟨q', cur, e, h3, hbq, _, _, rfl, hc1, hc2, hc3, hc4⟩ := h.at_ hx
  cases e
  refine ⟨⟨h.lo, ?_, ?_, .inr ⟨q, c, (cur.setIfInBounds (i * 2) (.string (bas y.name))).setIfInBounds (i * 2 + 1) (.int .i64 (y.num : Nat)), ?_, hbq, ?_, ?_, hc2, by simp [hc3], ?_⟩⟩, (Only.setCell w ⟨q, i * 2, none⟩ _ (.inr rfl)).next (Only.setCell _ ⟨q, i * 2 + 1, none⟩ _ (.inr rfl))⟩
  · exact (Below.heap_setCell _ _ _ _ hne.symm).trans ((Below.heap_setCell _ _ _ _ hne.symm).trans h.box)
  · rw [ents_length]
  · rw [List.length_set]
  · simp [World.setCell, Array.getElem?_modify, h3]
  · rw [List.length_set]; exact hc1
  · rw [List.length_set, ents_put L i y hi, ← hc4, Array.toList_setIfInBounds, Array.toList_setIfInBounds, List.take_set, List.take_set]

set_option maxRecDepth 8000 in
set_option maxHeartbeats 2000000 in
theorem zswap_any (base kb : Nat) (p : Option Addr) (n c : Nat) (L : List En) (i j : Nat) (x y : En) (w : World) (h : HB w base kb (.slice p n c) L) (hx : L[i]? = some x) (hy : L[j]? = some y) (hn : n < 1000000) (hij : i ≠ j) :
    Calls Tryd.prog 106 #[.slice p n c, .int .i64 i, .int .i64 j] w fun e w' => e = .returned (.tuple #[]) ∧ HB w' base kb (.slice p n c) ((L.set i y).set j x) ∧ Only (hS kb (.slice p n c)) w w' := by
  obtain ⟨q, cur, rfl, h3, hbq, g0, g1, rfl, hc1, hc2, hc3, hc4⟩ := h.at_ hx
  obtain ⟨q', cur', e, h3', _, k0, k1, _⟩ := h.at_ hy
  cases e
  rw [h3] at h3'
  cases h3'
  have a0 : w.cell? ⟨q, i * 2, none⟩ = some (.string (bas x.name)) := by rw [cellOf h3]; exact g0
  have a1 : w.cell? ⟨q, i * 2 + 1, none⟩ = some (.int .i64 (x.num : Nat)) := by rw [cellOf h3]; exact g1
  have b0 : w.cell? ⟨q, j * 2, none⟩ = some (.string (bas y.name)) := by rw [cellOf h3]; exact k0
  have b1 : w.cell? ⟨q, j * 2 + 1, none⟩ = some (.int .i64 (y.num : Nat)) := by rw [cellOf h3]; exact k1
  have f0 := frozenOf h3 (i * 2)
  have f1 := frozenOf h3 (i * 2 + 1)
  have f2 := frozenOf h3 (j * 2)
  have f3 := frozenOf h3 (j * 2 + 1)
  have hi := (List.getElem?_eq_some_iff.1 hx).1
  have hj := (List.getElem?_eq_some_iff.1 hy).1
  have hiI : (i : Int) < (L.length : Int) := by omega
  have hjI : (j : Int) < (L.length : Int) := by omega
  have o1 : ¬ i * 2 + 1 = j * 2 := by omega
  have o2 : ¬ j * 2 = i * 2 + 1 := by omega
  have o3 : ¬ j * 2 + 1 = i * 2 := by omega
  have o4 : ¬ i * 2 = j * 2 + 1 := by omega
  have o5 : ¬ j = i := by omega
  have HH : Hid (HB w base kb (.slice (some ⟨q, 0, none⟩) L.length c) L) := h
  obtain ⟨s1, t1⟩ := h.put i y hi
  obtain ⟨s2, t2⟩ := s1.put j x (by rw [List.length_set]; exact hj)
  have HF : Hid (HB ((((w.setCell ⟨q, i * 2, none⟩ (.string (bas y.name))).setCell ⟨q, i * 2 + 1, none⟩ (.int .i64 (y.num : Nat))).setCell ⟨q, j * 2, none⟩ (.string (bas x.name))).setCell ⟨q, j * 2 + 1, none⟩ (.int .i64 (x.num : Nat))).drew base kb (.slice (some ⟨q, 0, none⟩) L.length c) ((L.set i y).set j x) ∧
      Only (hS kb (.slice (some ⟨q, 0, none⟩) L.length c)) w ((((w.setCell ⟨q, i * 2, none⟩ (.string (bas y.name))).setCell ⟨q, i * 2 + 1, none⟩ (.int .i64 (y.num : Nat))).setCell ⟨q, j * 2, none⟩ (.string (bas x.name))).setCell ⟨q, j * 2 + 1, none⟩ (.int .i64 (x.num : Nat))).drew) :=
    ⟨s2.below (Below.refl _ _).drew, by have t3 := t1.next t2; exact ⟨t3.os, t3.tape, t3.output, t3.size, t3.block⟩⟩
  clear h hc4 s1 s2 t1 t2 HH
  go_enter Tryd.func106, Tryd.ntmps106
  go_wp2_with fail
  go_region
  go_end0
  exact ⟨rfl, HF.out⟩

end Go.Proofs.YtdocablbkafkiaaDoor.Cd
