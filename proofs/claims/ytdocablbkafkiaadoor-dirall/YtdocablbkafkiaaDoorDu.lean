/-
  A name is copied; an entry gets another number.
-/
import Derived.Test.YtdocablbkafkiaaDoorDt
import Derived.Test.YtdocablbkafkiaaDoorDr
namespace Go.Proofs.YtdocablbkafkiaaDoor.Cd
open Go.RowKit

set_option maxRecDepth 8000 in
set_option maxHeartbeats 1000000 in
theorem lclone_any (s : ByteArray) (w : World) (hlim : s.size ≤ 1000000) : Calls Tryd.prog 42 #[.string s] w fun e w' => e = .returned (.string s) ∧ Below w.heap.size w w' := by
  by_cases h0 : s.size = 0
  · have hs : s = ⟨#[]⟩ := by
      apply ByteArray.ext
      exact Array.eq_empty_of_size_eq_zero h0
    subst hs
    go_enter Tryd.func42, Tryd.ntmps42
    go_wp2
    go_ret
    exact ⟨rfl, Below.refl _ _⟩
  · have e5 : (Tryd.prog.info? 5).map (fun i => (i.zero, i.size, i.bytes)) = some (some (.int .u8 0), 1, 1) := by kernel_rfl
    obtain ⟨i0, hi, he⟩ := Option.map_eq_some_iff.1 e5
    injection he with hz0 he
    injection he with hz1 hz2
    have hinfo : (Tryd.prog.info? 5).map (·.size) = some 1 := by rw [hi]; simp [hz1]
    have hco : Tryd.prog.cellsOf 5 = 1 := by simp [Program.cellsOf, hi, hz1]
    obtain ⟨M, hM⟩ : ∃ M, M = madeCells (Value.int .u8 0).cells (((s.size : Nat) : Int).toNat * i0.size) := ⟨_, rfl⟩
    have hMs : M.size = s.size := by rw [hM, size_madeCells, hz1]; simp
    have hmk : ∀ W : World, (Instr.makeSlice 36 (.int .i64 (s.size : Int)) (.int .i64 (s.size : Int))).run Tryd.prog W = .ok (.slice (some ⟨W.heap.size, 0, none⟩) s.size s.size) (W.alloc (.cells M 5)) := fun W => by
      have h := run_make (P := Tryd.prog) W 36 5 i0 (.int .u8 0) Tryd.underlying36 hi hz0 .i64 .i64 (s.size : Int) (s.size : Int) (by omega) (by omega) (by rw [hz2]; omega) (by omega)
      rw [← hM] at h
      simpa using h
    clear hM
    have hcp := Lib.run_copy_row_string (P := Tryd.prog) (w.alloc (.cells M 5)) 36 9 3 5 w.heap.size 0 s.size s.size s M 5 Tryd.underlying36 hinfo (heap_alloc_new w _) (Nat.le_refl _) (by omega)
    obtain ⟨Y, hY⟩ : ∃ Y, Y = (M.toList.take 0 ++ Lib.byteCells s.data.toList ++ M.toList.drop (0 + s.size)).toArray := ⟨_, rfl⟩
    rw [← hY] at hcp
    have hYl : Y.toList = Lib.byteCells s.data.toList := by
      rw [hY, List.toList_toArray, List.take_zero, List.nil_append, List.drop_of_length_le (by rw [Array.length_toList]; omega), List.append_nil]
    have hYs : Y.size = s.size := by rw [← Array.length_toList, hYl, Lib.byteCells_length, ← Lib.size_eq]
    have hgY : ((w.alloc (.cells M 5)).setRow w.heap.size Y).heap[w.heap.size]? = some (.cells Y 5 (0, 0)) := setRow_heap _ _ M _ 5 (0, 0) (heap_alloc_new w _)
    have hne : s.data.toList ≠ [] := fun e => h0 (by rw [Lib.size_eq, e]; rfl)
    have hUS := Lib.run_unsafeString_row (P := Tryd.prog) ((w.alloc (.cells M 5)).setRow w.heap.size Y) 101 3 9 5 Tryd.underlying101 hco w.heap.size Y.size (by unfold World.shape?; rw [hgY]) s.data.toList hne (by rw [← Lib.size_eq]; omega) (by rw [← Lib.size_eq]; omega)
      (fun j x hx => Lib.cells_of_row hgY Y.size j _ (by rw [List.take_of_length_le (by rw [Array.length_toList]; exact Nat.le_refl _), hYl]; simp [Lib.byteCells, hx]))
    rw [← Lib.size_eq] at hUS
    clear hY
    go_enter Tryd.func42, Tryd.ntmps42
    go_wp2
    go_ret
    have hb1 : Below w.heap.size w (w.alloc (.cells M 5)) := (Below.refl _ w).alloc (Nat.le_refl _) _
    have hb2 : Below w.heap.size (w.alloc (.cells M 5)) ((w.alloc (.cells M 5)).setRow w.heap.size Y) := ⟨rfl, rfl, rfl, by simp, fun k hk => setRow_other _ _ _ _ (by omega)⟩
    exact ⟨rfl, Lib.below_freeze (hb1.trans hb2) (p := ⟨w.heap.size, 0, none⟩) (Nat.le_refl _) _⟩
theorem sclone_any (s : ByteArray) (w : World) (hlim : s.size ≤ 1000000) : Calls Tryd.prog 24 #[.string s] w fun e w' => e = .returned (.string s) ∧ Below w.heap.size w w' := by
  have c := lclone_any s w hlim
  go_enter Tryd.func24, Tryd.ntmps24
  go_wp2_with (go_at_call 42; refine c.mono ?_; rintro e w1 ⟨rfl, hb⟩; have HB : Hid (Below w.heap.size w w1) := hb; clear hb)
  go_ret
  exact ⟨rfl, HB.out⟩

/-- What lies by its names alone. -/
theorem WF.same_names {H : List UInt8 → Nat → Nat} {n : Nat} {D E : List (List En)} (h : WF H n D) (hE : E.map (List.map En.name) = D.map (List.map En.name)) : WF H n E := by
  have at_ : ∀ (j : Nat) b, E[j]? = some b → ∃ b', D[j]? = some b' ∧ b.map En.name = b'.map En.name := fun j b hb => by
    have : (E.map (List.map En.name))[j]? = some (b.map En.name) := by rw [List.getElem?_map, hb]; rfl
    rw [hE, List.getElem?_map] at this
    obtain ⟨b', h1, h2⟩ := Option.map_eq_some_iff.1 this
    exact ⟨b', h1, h2.symm⟩
  have at' : ∀ (j : Nat) b, D[j]? = some b → ∃ b', E[j]? = some b' ∧ b'.map En.name = b.map En.name := fun j b hb => by
    have : (D.map (List.map En.name))[j]? = some (b.map En.name) := by rw [List.getElem?_map, hb]; rfl
    rw [← hE, List.getElem?_map] at this
    obtain ⟨b', h1, h2⟩ := Option.map_eq_some_iff.1 this
    exact ⟨b', h1, h2⟩
  have mem : ∀ {b b' : List En}, b.map En.name = b'.map En.name → ∀ x ∈ b, ∃ y ∈ b', y.name = x.name := fun {b b'} e x hx => by
    have : x.name ∈ b.map En.name := List.mem_map_of_mem hx
    rw [e] at this
    exact List.mem_map.1 this
  have len : ∀ {b b' : List En}, b.map En.name = b'.map En.name → b.length = b'.length := fun {b b'} e => by
    have := congrArg List.length e; simpa using this
  refine ⟨by have := congrArg List.length hE; simp at this; rw [this]; exact h.len, fun j b hb => ?_, fun j b hb => ?_, fun j b hb a ha t ht => ?_, fun i j b c hb hc hij x hx y hy => ?_⟩
  · obtain ⟨b', h1, h2⟩ := at_ j b hb
    have hs := h.srt j b' h1
    have : (b'.map En.name).Pairwise (fun p q => Op.bytesLess p q = true) := List.pairwise_map.2 hs
    rw [← h2] at this
    exact (List.pairwise_map.1 this).imp (fun {p q} hpq => hpq)
  · obtain ⟨b', h1, h2⟩ := at_ j b hb
    rw [len h2]; exact h.room j b' h1
  · obtain ⟨b', h1, h2⟩ := at_ j b hb
    obtain ⟨a', ha', e⟩ := mem h2 a ha
    have hp := h.path j b' h1 a' ha'
    obtain ⟨c, hc, h7, hl⟩ := hp t (by rw [e]; exact ht)
    rw [e] at hc
    obtain ⟨c', hc', e'⟩ := at' _ c hc
    refine ⟨c', hc', by rw [len e']; exact h7, fun x hx => ?_⟩
    obtain ⟨y, hy, ey⟩ := mem e' x hx
    have := hl y hy
    unfold En.lt at this ⊢
    rw [← ey, ← e]; exact this
  · obtain ⟨b', h1, h2⟩ := at_ i b hb
    obtain ⟨c', h3, h4⟩ := at_ j c hc
    obtain ⟨x', hx', e1⟩ := mem h2 x hx
    obtain ⟨y', hy', e2⟩ := mem h4 y hy
    rw [← e1, ← e2]
    exact h.apart i j b' c' h1 h3 hij x' hx' y' hy'

theorem ents_set : ∀ (L : List En) (j : Nat) (x : En) (k : Nat), L[j]? = some x → ents (L.set j { x with num := k }) = (ents L).set (j * 2 + 1) (.int .i64 (k : Nat))
  | [], j, x, k, h => by simp at h
  | y :: L, 0, x, k, h => by
    simp at h; subst h
    simp [ents_cons, entCells]
  | y :: L, j + 1, x, k, h => by
    rw [List.set_cons_succ, ents_cons, ents_set L j x k (by simpa using h), ents_cons, List.set_append_right _ _ (by simp [entCells]; omega)]
    have : (j + 1) * 2 + 1 - (entCells y).length = j * 2 + 1 := by simp [entCells]; omega
    rw [this]

end Go.Proofs.YtdocablbkafkiaaDoor.Cd
