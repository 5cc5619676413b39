import Derived.Test.YthhakekbffembaaGreatDoorQAi
import Derived.Test.YthhakekbffembaaGreatDoorKZr

namespace Go.Proofs.YthhakekbffembaaGreatDoor.Ck.Sh
open Go.RowKit Go.Lib Go.Maps
attribute [local go_sem] Oper.semAt_some
def strs (l : List (List UInt8)) : List Value := l.map fun x => Value.string (bas x)
theorem nms_of_cs {w : World} {p : Option Addr} {l : List (List UInt8)} (h : Cs w p (strs l)) : Nms w p l := fun j x hx => h j _ (by unfold strs; rw [List.getElem?_map, hx]; rfl)
theorem happ {W : World} {base : Nat} {p : Option Addr} {i c : Nat} {xs : List Value} (s : ByteArray) (h : W.ownsRow base 9 1 (.slice p i c) i xs) (hb : base ≤ W.heap.size) (hi : i < 1000000000000) :
   Hid ((W.alloc (.cells #[.string s] 9)).ownsRow base 9 1 (.slice p i c) i xs ∧ Cs (W.alloc (.cells #[.string s] 9)) (some ⟨W.heap.size, 0, none⟩) [.string s] ∧ [Value.string s].length = 1 * 1 ∧ (∀ u ∈ [Value.string s], u.oneCell' = true) ∧ (i + 1) * 16 ≤ 140737488355328 ∧ i + 1 ≤ 140737488355328 ∧ base ≤ (W.alloc (.cells #[.string s] 9)).heap.size) := by
 refine ⟨own_below h (below_new W _).out, fun j u hu => ⟨W.heap.size, 0, rfl, ?_⟩, rfl, fun u hu => by rw [List.mem_singleton.1 hu]; rfl, by omega, by omega, by simp; omega⟩
 rw [Nat.zero_add, cellOf (heap_alloc_new W _) j]
 simpa using hu
theorem shown_len (ids : List (Int × Int)) (names : List (List UInt8)) (n : Nat) : (shownL ids names n).length = n := by simp [shownL]
theorem shown_at (ids : List (Int × Int)) (names : List (List UInt8)) {n i : Nat} (h : i < n) : (shownL ids names n)[i]? = some (shownAt ids names n i) := by
 unfold shownL
 rw [List.getElem?_map, List.getElem?_range h]; rfl
end Go.Proofs.YthhakekbffembaaGreatDoor.Ck.Sh

namespace Go.Proofs.YthhakekbffembaaGreatDoor.Ck.Sh
open Go.RowKit Go.Lib Go.Maps
structure AP (a : List (Int × Int)) (b : List (List UInt8)) : Prop where
 len : a.length = b.length
 val : ∀ x ∈ a, validB x.1 x.2 = true
 nam : ∀ x ∈ b, nameN x = 0
 dif : a.Nodup
theorem AP.valAt {a : List (Int × Int)} {b : List (List UInt8)} (h : AP a b) {i : Nat} (hi : i < a.length) : validB (idA a i).1 (idA a i).2 = true := h.val _ (List.mem_of_getElem? (idA_of hi))
theorem AP.namAt {a : List (Int × Int)} {b : List (List UInt8)} (h : AP a b) {i : Nat} (hi : i < a.length) : nameN (nmA b i) = 0 := h.nam _ (List.mem_of_getElem? (nmA_of (by rw [← h.len]; exact hi)))
theorem name_len {l : List UInt8} (h : nameN l = 0) : l.length ≤ 64 := by
 unfold nameN fineN at h
 split at h
 · cases h
 · split at h
   · cases h
   · split at h
     · cases h
     · split at h
       · cases h
       · omega
theorem shown_kept {a : List (Int × Int)} {b : List (List UInt8)} {n i : Nat} (h : keptB a b n i = true) : shownAt a b n i = nmA b i := by unfold shownAt; rw [if_pos h]
theorem shown_not {a : List (Int × Int)} {b : List (List UInt8)} {n i : Nat} (h : keptB a b n i = false) : shownAt a b n i = nmA b i ++ sufL (idA a i).1 (idA a i).2 := by unfold shownAt; rw [if_neg (by rw [h]; decide)]
theorem AP.split_kept {a : List (Int × Int)} {b : List (List UInt8)} (h : AP a b) {i : Nat} (hi : i < a.length) (hk : keptB a b a.length i = true) : splitP (shownAt a b a.length i) = none := by
 rw [shown_kept hk]
 exact (splitP_of _).unique (split_none1 (name_no1 (h.namAt hi)))
theorem AP.split_not {a : List (Int × Int)} {b : List (List UInt8)} (h : AP a b) {i : Nat} (hi : i < a.length) (hk : keptB a b a.length i = false) : splitP (shownAt a b a.length i) = some (nmA b i, (idA a i).1, (idA a i).2) := by
 rw [shown_not hk]
 exact (splitP_of _).unique ⟨h.namAt hi, h.valAt hi, rfl⟩
theorem AP.ins {a : List (Int × Int)} {b : List (List UInt8)} (h : AP a b) : ∀ x ∈ a, InI x.1 ∧ InI x.2 := fun x hx => by
 have := valid_bounds (h.val x hx)
 exact ⟨⟨by omega, by omega⟩, ⟨by omega, by omega⟩⟩
theorem AP.lens {a : List (Int × Int)} {b : List (List UInt8)} (h : AP a b) : ∀ x ∈ b, x.length ≤ 150000000000000 := fun x hx => by
 have := name_len (h.nam x hx)
 omega
def idsC : List (Int × Int) → List Value
 | [] => []
 | x :: l => .int .i64 x.1 :: .int .i64 x.2 :: idsC l
theorem idsC_append : ∀ l m : List (Int × Int), idsC (l ++ m) = idsC l ++ idsC m
 | [], _ => rfl
 | _ :: l, m => by simp only [List.cons_append, idsC, idsC_append l m]
theorem idsC_at : ∀ (l : List (Int × Int)) (j : Nat) (x : Int × Int), l[j]? = some x → (idsC l)[j * 2]? = some (.int .i64 x.1) ∧ (idsC l)[j * 2 + 1]? = some (.int .i64 x.2)
 | [], j, x, h => by simp at h
 | y :: l, 0, x, h => by
   simp only [List.getElem?_cons_zero, Option.some.injEq] at h
   subst h
   exact ⟨rfl, rfl⟩
 | y :: l, j + 1, x, h => by
   have := idsC_at l j x (by simpa using h)
   rw [show (j + 1) * 2 = j * 2 + 1 + 1 by omega]
   simp only [idsC, List.getElem?_cons_succ]
   exact this
theorem ids_of_cs {w : World} {p : Option Addr} {l : List (Int × Int)} (h : Cs w p (idsC l)) : Ids w p l := fun j x hx => by
 obtain ⟨e1, e2⟩ := idsC_at l j x hx
 obtain ⟨g, o, e, h1⟩ := h _ _ e1
 obtain ⟨g', o', e', h2⟩ := h _ _ e2
 cases e
 cases e'
 exact ⟨g, o, rfl, h1, by rw [Nat.add_assoc]; exact h2⟩
theorem happI {W : World} {base : Nat} {p : Option Addr} {i c : Nat} {xs : List Value} (t u : Int) (h : W.ownsRow base 28 2 (.slice p i c) i xs) (hb : base ≤ W.heap.size) (hi : i < 1000000000000) :
   Hid ((W.alloc (.cells #[.int .i64 t, .int .i64 u] 28)).ownsRow base 28 2 (.slice p i c) i xs ∧ Cs (W.alloc (.cells #[.int .i64 t, .int .i64 u] 28)) (some ⟨W.heap.size, 0, none⟩) [.int .i64 t, .int .i64 u] ∧ [Value.int .i64 t, Value.int .i64 u].length = 1 * 2 ∧ (∀ x ∈ [Value.int .i64 t, Value.int .i64 u], x.oneCell' = true) ∧ (i + 1) * 16 ≤ 140737488355328 ∧ i + 1 ≤ 140737488355328 ∧ base ≤ (W.alloc (.cells #[.int .i64 t, .int .i64 u] 28)).heap.size) := by
 refine ⟨own_below h (below_new W _).out, fun j v hv => ⟨W.heap.size, 0, rfl, ?_⟩, rfl, fun x hx => ?_, by omega, by omega, by simp; omega⟩
 · rw [Nat.zero_add, cellOf (heap_alloc_new W _) j]
   simpa using hv
 · rcases List.mem_cons.1 hx with rfl | hx
   · rfl
   · rw [List.mem_singleton.1 hx]; rfl
theorem own_other {w w' : World} {b1 b2 : Nat} {e1 e2 : TypeId} {s1 s2 n1 n2 : Nat} {v1 v2 : Value} {x1 x2 : List Value} (h1 : w.ownsRow b1 e1 s1 v1 n1 x1) (h2 : w.ownsRow b2 e2 s2 v2 n2 x2) (hne : e1 ≠ e2) (hg : w.grownBy w' v2.ownBlock) : w'.ownsRow b1 e1 s1 v1 n1 x1 := by
 obtain ⟨hl, h | ⟨g, cap, cur, rfl, k1, hb, k2⟩⟩ := h1
 · exact ⟨hl, .inl h⟩
 · refine ⟨hl, .inr ⟨g, cap, cur, rfl, k1, (hg.block g (block_lt hb) ?_).trans hb, k2⟩⟩
   intro e
   rcases h2.2 with ⟨rfl, _⟩ | ⟨g', cap', cur', rfl, _, hb', _⟩
   · cases e
   · injection e with e
     have e : g = g' := e
     subst e
     rw [hb] at hb'
     injection hb' with hb'
     injection hb' with _ e2
     exact hne e2
end Go.Proofs.YthhakekbffembaaGreatDoor.Ck.Sh
