/-
  Making a device, reading a block of it, burning its fuse, flushing it.
-/
import Derived.Test.YtebdgcoandfocaaGreatDoorKDbase

namespace Go.Proofs.YtebdgcoandfocaaGreatDoor
open Go.RowKit Go.Maps

theorem Tryz.info155 : (Tryz.prog.info? 155).map (fun i => (i.zero, i.size, i.bytes)) = some (some (.pointer none), 1, 8) := by kernel_rfl
/-- A row of zero bytes. -/
def zeros : List Value := List.replicate 512 (.int .u8 0)

theorem zeros_length : zeros.length = 512 := by rw [zeros, List.length_replicate]

theorem made_zeros {w : World} {base g : Nat} (h : w.ownsRow base 5 1 (.slice (some ⟨g, 0, none⟩) 512 512) 512 (madeCells (Value.int .u8 0).cells (512 * 1)).toList) :
    w.heap[g]? = some (.cells zeros.toArray 5 (0, 0)) := by
  rw [show (Value.int .u8 0).cells = #[.int .u8 0] from rfl, Nat.mul_one, toList_madeCells_one] at h
  exact owns_whole h

theorem splice_all {α : Type} (L cs : List α) (h : cs.length = L.length) : splice L 0 cs = cs := by
  unfold splice
  simp [h]

set_option maxRecDepth 8000 in
set_option maxHeartbeats 400000 in
/-- A new device: three new blocks: its row of blocks (all nil), its map (empty), its struct. -/
theorem new_yes (n : Nat) (w : World) (h1 : 1 ≤ n) (h2 : n ≤ 65536) :
    Calls Tryz.prog 34 #[.int .i64 n] w fun e w' => ∃ a m, e = .returned (.pointer (some ⟨a, 0, none⟩)) ∧ w.heap.size ≤ m ∧ w.heap.size < m ∧ m < a ∧ a < w'.heap.size ∧
      IsDevAt w' a (.slice (some ⟨w.heap.size, 0, none⟩) n n) m false 0 0 ∧ w'.heap[w.heap.size]? = some (.cells (List.replicate n (.pointer none)).toArray 155 (0, 0)) ∧
      w'.heap[m]? = some (.map #[] 0) ∧ Below w.heap.size w w' := by
  obtain ⟨i0, hi, hz0, hz1, hz2⟩ := info_parts Tryz.info155
  go_enter Tryz.func34, Tryz.ntmps34
  go_wp2_with (first
    | (at_make; refine wpList_make_full _ rfl _ _ 112 rfl 0 155 i0 (.pointer none) 1 Tryz.underlying112 hi hz0 hz1 .i64 .i64 _ _ n rfl rfl rfl rfl (by rw [hz2]; omega) (by unfold maxLen; omega) (Nat.zero_le _) ?_; intro w1 hrow hg1)
    | (go_at_call 48; refine (hold_any _ _ _ _ rfl _).mono ?_; rintro e w' ⟨rfl, rfl⟩))
  go_ret
  have hw := owns_whole hrow
  rw [Nat.mul_one] at hw
  have hlt := (Array.getElem?_eq_some_iff.1 hw).1
  refine ⟨w1.heap.size + 1, w1.heap.size, rfl, hg1.size, hlt, by omega, by simp, ?_, ?_, ?_, ?_⟩
  · have := heap_alloc_new (w1.alloc (.map #[] 0)) (.cells (devCells (.slice (some ⟨w.heap.size, 0, none⟩) n n) w1.heap.size false 0 0) 127)
    rw [World.size_alloc] at this
    exact this
  · rw [Below.heap_alloc _ _ _ (by simp; omega), Below.heap_alloc _ _ _ hlt, hw, show (Value.pointer none).cells = #[.pointer none] from rfl]
    simp [← toList_madeCells_one]
  · rw [Below.heap_alloc _ _ _ (by simp)]
    exact (MapKept.heap_alloc w1 _).1
  · exact (((Below.refl _ w).grown hg1 (Nat.le_refl _) (by simp)).alloc hg1.size _).alloc (by simp; have := hg1.size; omega) _

set_option maxRecDepth 8000 in
set_option maxHeartbeats 400000 in
theorem read_no (i : Int) (a : Nat) (p : Option Addr) (n c : Nat) (m : Nat) (fused : Bool) (left count : Int) (w : World) (h : IsDevAt w a (.slice p n c) m fused left count) (hi : ¬ (0 ≤ i ∧ i < n)) :
    Calls Tryz.prog 75 #[.pointer (some ⟨a, 0, none⟩), .int .i64 i] w fun e w' => e = .returned (.tuple #[.slice none 0 0, .int .i64 22]) ∧ w' = w := by
  have hb := has_any i a p n c m fused left count w h
  rw [decide_eq_false hi] at hb
  clear h
  go_enter Tryz.func75, Tryz.ntmps75
  go_wp2_with (go_at_call 93; refine Calls_on hb ?_)
  go_ret2
  exact ⟨rfl, rfl⟩

/-- What a pointer to a block reads as: nil as zeros. -/
def Holds512 (w : World) (p : Option Addr) (l : List Value) : Prop :=
  (p = none ∧ l = zeros) ∨ ∃ g, p = some ⟨g, 0, none⟩ ∧ w.heap[g]? = some (.cells l.toArray 158 (0, 0)) ∧ l.length = 512 ∧ ∀ v ∈ l, v.oneCell' = true

set_option maxRecDepth 8000 in
set_option maxHeartbeats 1000000 in
theorem read_yes (i : Nat) (a s : Nat) (n c : Nat) (m : Nat) (fused : Bool) (left count : Int) (cur : Array Value) (p : Option Addr) (l : List Value) (w : World)
    (h : IsDevAt w a (.slice (some ⟨s, 0, none⟩) n c) m fused left count) (hs : w.heap[s]? = some (.cells cur 155 (0, 0))) (hi : i < n) (hcur : cur[i]? = some (.pointer p)) (hp : Holds512 w p l) :
    Calls Tryz.prog 75 #[.pointer (some ⟨a, 0, none⟩), .int .i64 i] w fun e w' => e = .returned (.tuple #[.slice (some ⟨w.heap.size, 0, none⟩) 512 512, .int .i64 0]) ∧
      w'.heap[w.heap.size]? = some (.cells l.toArray 5 (0, 0)) ∧ Below w.heap.size w w' := by
  have hb := has_any i a _ n c m fused left count w h
  rw [decide_eq_true (by omega)] at hb
  obtain ⟨i0, hi0, hz0, hz1, hz2⟩ := info_parts Tryz.info5
  have ha := (Array.getElem?_eq_some_iff.1 h).1
  have hslt := (Array.getElem?_eq_some_iff.1 hs).1
  have c0 := cellOf h 0
  simp [devCells] at c0
  have c1 : w.cell? ⟨s, i, none⟩ = some (.pointer p) := (cellOf hs i).trans hcur
  clear h hs hcur
  rcases hp with ⟨rfl, rfl⟩ | ⟨g, rfl, hg, hlen, hone⟩
  · go_enter Tryz.func75, Tryz.ntmps75
    go_wp2_with (first
      | (go_at_call 93; refine Calls_on hb ?_)
      | (at_make; refine wpList_make_full _ rfl _ _ 30 rfl 0 5 i0 (.int .u8 0) 1 Tryz.underlying30 hi0 hz0 hz1 .i64 .i64 _ _ 512 rfl rfl rfl rfl (by rw [hz2]; omega) (by unfold maxLen; omega) (Nat.zero_le _) ?_; intro w1 hrow hg1; have d0 := hg1.cell c0 (by simp); have d1 := hg1.cell c1 (by simp)))
    go_ret2
    exact ⟨rfl, made_zeros hrow, (Below.refl _ w).grown hg1 (Nat.le_refl _) (by simp)⟩
  · have hglt := (Array.getElem?_eq_some_iff.1 hg).1
    go_enter Tryz.func75, Tryz.ntmps75
    go_wp2_with (first
      | (go_at_call 93; refine Calls_on hb ?_)
      | (at_make; refine wpList_make_full _ rfl _ _ 30 rfl 0 5 i0 (.int .u8 0) 1 Tryz.underlying30 hi0 hz0 hz1 .i64 .i64 _ _ 512 rfl rfl rfl rfl (by rw [hz2]; omega) (by unfold maxLen; omega) (Nat.zero_le _) ?_; intro w1 hrow hg1; have d0 := hg1.cell c0 (by simp); have d1 := hg1.cell c1 (by simp); have hz : Hid (w1.heap[w.heap.size]? = some (.cells zeros.toArray 5 (0, 0))) := made_zeros hrow; have hq : Hid (w1.heap[g]? = some (.cells l.toArray 158 (0, 0))) := (hg1.block g hglt (by simp)).trans hg; clear hrow)
      | (have tk := hz; refine wpList_copy_splice rfl _ _ 30 30 rfl 5 Tryz.underlying30 Tryz.size5 (some ⟨w.heap.size, 0, none⟩) (some ⟨g, 0, none⟩) 512 512 512 512 rfl rfl w.heap.size 0 zeros 5 hz.out l hlen (fun _ => ⟨rfl, ⟨g, 0, none⟩, rfl, fun j v hj => by rw [Addr.add_lit, Nat.zero_add, cellOf hq.out j]; simpa using hj⟩) (by rw [hlen, zeros_length]; decide) hone w.heap.size w ((Below.refl _ w).grown hg1 (Nat.le_refl _) (by simp)) (Nat.le_refl _) ?_; clear tk hz; intro w2 hz2 hb2))
    go_ret2
    refine ⟨rfl, ?_, hb2⟩
    have := hz2.out
    rw [splice_all zeros l (by rw [hlen, zeros_length])] at this
    exact this

end Go.Proofs.YtebdgcoandfocaaGreatDoor
