/-
  The small functions of package device: what each call answers and does to memory.
-/
import Derived.Test.YtebdgcoandfocaaGreatDoorKCunfr

namespace Go.Proofs.YtebdgcoandfocaaGreatDoor
open Go.RowKit Go.Maps

/-- The five cells of a device. -/
def devCells (v : Value) (m : Nat) (fused : Bool) (left count : Int) : Array Value :=
  #[v, .map (some m), .bool fused, .int .i64 left, .int .i64 count]

/-- Block a of w is a device's struct. -/
def IsDevAt (w : World) (a : Nat) (v : Value) (m : Nat) (fused : Bool) (left count : Int) : Prop :=
  w.heap[a]? = some (.cells (devCells v m fused left count) 127 (0, 0))

set_option maxRecDepth 8000 in
set_option maxHeartbeats 400000 in
theorem hold_any (v : Value) (a : Option Addr) (l c : Nat) (hv : v = .slice a l c) (w : World) :
    Calls Tryz.prog 48 #[v] w fun e w' => e = .returned (.pointer (some ⟨w.heap.size + 1, 0, none⟩)) ∧
      w' = (w.alloc (.map #[] 0)).alloc (.cells (devCells v w.heap.size false 0 0) 127) := by
  subst hv
  have hmm := @run_makeMap Tryz.prog
  go_enter Tryz.func48, Tryz.ntmps48
  go_wp2
  go_ret
  exact ⟨rfl, rfl⟩

set_option maxRecDepth 8000 in
set_option maxHeartbeats 400000 in
theorem dead_any (a : Nat) (v : Value) (m : Nat) (fused : Bool) (left count : Int) (w : World) (h : IsDevAt w a v m fused left count) :
    Calls Tryz.prog 71 #[.pointer (some ⟨a, 0, none⟩)] w fun e w' => e = .returned (.bool (fused && decide (left < 1))) ∧ w' = w := by
  have h2 := cellOf h 2
  have h3 := cellOf h 3
  simp [devCells] at h2 h3
  clear h
  cases fused
  · go_enter Tryz.func71, Tryz.ntmps71
    go_wp2
    go_ret
    exact ⟨rfl, rfl⟩
  · go_enter Tryz.func71, Tryz.ntmps71
    go_wp2
    go_ret
    exact ⟨by simp, rfl⟩

set_option maxRecDepth 8000 in
set_option maxHeartbeats 400000 in
theorem blocks_nil (w : World) :
    Calls Tryz.prog 69 #[.pointer none] w fun e w' => e = .returned (.int .i64 0) ∧ w' = w := by
  go_enter Tryz.func69, Tryz.ntmps69
  go_wp2
  go_ret
  exact ⟨rfl, rfl⟩

set_option maxRecDepth 8000 in
set_option maxHeartbeats 400000 in
theorem blocks_any (a : Nat) (p : Option Addr) (n c : Nat) (m : Nat) (fused : Bool) (left count : Int) (w : World) (h : IsDevAt w a (.slice p n c) m fused left count) :
    Calls Tryz.prog 69 #[.pointer (some ⟨a, 0, none⟩)] w fun e w' => e = .returned (.int .i64 n) ∧ w' = w := by
  have h0 := cellOf h 0
  simp [devCells] at h0
  clear h
  go_enter Tryz.func69, Tryz.ntmps69
  go_wp2
  go_ret
  exact ⟨rfl, rfl⟩

set_option maxRecDepth 8000 in
set_option maxHeartbeats 400000 in
theorem has_nil (i : Int) (w : World) :
    Calls Tryz.prog 93 #[.pointer none, .int .i64 i] w fun e w' => e = .returned (.bool false) ∧ w' = w := by
  by_cases h : 0 ≤ i
  · go_enter Tryz.func93, Tryz.ntmps93
    go_wp2_with (go_at_call 69; refine (blocks_nil _).mono ?_; rintro e w' ⟨rfl, rfl⟩)
    go_ret
    exact ⟨by simp; omega, rfl⟩
  · go_enter Tryz.func93, Tryz.ntmps93
    go_wp2_with (go_at_call 69; refine (blocks_nil _).mono ?_; rintro e w' ⟨rfl, rfl⟩)
    go_ret
    exact ⟨rfl, rfl⟩

set_option maxRecDepth 8000 in
set_option maxHeartbeats 400000 in
theorem has_any (i : Int) (a : Nat) (p : Option Addr) (n c : Nat) (m : Nat) (fused : Bool) (left count : Int) (w : World) (h : IsDevAt w a (.slice p n c) m fused left count) :
    Calls Tryz.prog 93 #[.pointer (some ⟨a, 0, none⟩), .int .i64 i] w fun e w' => e = .returned (.bool (decide (0 ≤ i ∧ i < n))) ∧ w' = w := by
  have hb := blocks_any a p n c m fused left count w h
  clear h
  by_cases h : 0 ≤ i
  · go_enter Tryz.func93, Tryz.ntmps93
    go_wp2_with (go_at_call 69; refine hb.mono ?_; rintro e w' ⟨rfl, rfl⟩)
    go_ret
    exact ⟨by simp [h], rfl⟩
  · go_enter Tryz.func93, Tryz.ntmps93
    go_wp2_with (go_at_call 69; refine hb.mono ?_; rintro e w' ⟨rfl, rfl⟩)
    go_ret
    exact ⟨by simp; omega, rfl⟩

set_option maxRecDepth 8000 in
set_option maxHeartbeats 400000 in
theorem count_any (a : Nat) (v : Value) (m : Nat) (fused : Bool) (left count : Int) (w : World) (h : IsDevAt w a v m fused left count) :
    Calls Tryz.prog 59 #[.pointer (some ⟨a, 0, none⟩)] w fun e w' => e = .returned (.int .i64 count) ∧ w' = w := by
  have h4 := cellOf h 4
  simp [devCells] at h4
  clear h
  go_enter Tryz.func59, Tryz.ntmps59
  go_wp2
  go_ret
  exact ⟨rfl, rfl⟩

/-- What is left of a fuse behind one more step. -/
def stepped (fused : Bool) (left : Int) : Int := if fused then left - 1 else left

theorem IsDevAt.set3 {w : World} {a : Nat} {v : Value} {m : Nat} {f : Bool} {l c : Int} (h : IsDevAt w a v m f l c) (l' : Int) : IsDevAt (w.setCell ⟨a, 3, none⟩ (.int .i64 l')) a v m f l' c := by
  unfold IsDevAt at *; simp [World.setCell, Array.getElem?_modify, h, devCells]
theorem IsDevAt.set4 {w : World} {a : Nat} {v : Value} {m : Nat} {f : Bool} {l c : Int} (h : IsDevAt w a v m f l c) (c' : Int) : IsDevAt (w.setCell ⟨a, 4, none⟩ (.int .i64 c')) a v m f l c' := by
  unfold IsDevAt at *; simp [World.setCell, Array.getElem?_modify, h, devCells]
theorem IsDevAt.set1 {w : World} {a : Nat} {v : Value} {m : Nat} {f : Bool} {l c : Int} (h : IsDevAt w a v m f l c) (m' : Nat) : IsDevAt (w.setCell ⟨a, 1, none⟩ (.map (some m'))) a v m' f l c := by
  unfold IsDevAt at *; simp [World.setCell, Array.getElem?_modify, h, devCells]

/-- A store into block a turns block a alone. -/
theorem grown_set (w : World) (p : Addr) (u : Value) : w.grownBy (w.setCell p u) (some p.block) :=
  ⟨rfl, rfl, rfl, by simp [World.setCell], fun k _ hk => Below.heap_setCell _ _ _ _ (fun e => hk (by rw [e]))⟩

theorem grown_trans {a b c : World} {row : Option Nat} (h : a.grownBy b row) (k : b.grownBy c row) : a.grownBy c row :=
  ⟨k.os.trans h.os, k.tape.trans h.tape, k.output.trans h.output, Nat.le_trans h.size k.size, fun i hi hn => (k.block i (Nat.lt_of_lt_of_le hi h.size) hn).trans (h.block i hi hn)⟩

set_option maxRecDepth 8000 in
set_option maxHeartbeats 400000 in
theorem done_any (a : Nat) (v : Value) (m : Nat) (fused : Bool) (left count : Int) (w : World) (h : IsDevAt w a v m fused left count)
    (hc0 : 0 ≤ count) (hc1 : count < 1000000000) (hl : fused = true → 1 ≤ left ∧ left ≤ 9223372036854775807) :
    Calls Tryz.prog 72 #[.pointer (some ⟨a, 0, none⟩)] w fun e w' => e = .returned (.tuple #[]) ∧ IsDevAt w' a v m fused (stepped fused left) (count + 1) ∧ w.grownBy w' (some a) ∧ w'.heap.size = w.heap.size := by
  have h2 := cellOf h 2
  have h3 := cellOf h 3
  have h4 := cellOf h 4
  have f3 := frozenOf h 3
  have f4 := frozenOf h 4
  have H : Hid (IsDevAt w a v m fused left count) := h
  simp [devCells] at h2 h3 h4
  clear h
  cases fused
  · go_enter Tryz.func72, Tryz.ntmps72
    go_wp2
    go_end0
    exact ⟨rfl, H.out.set4 _, grown_set _ _ _, by simp [World.setCell]⟩
  · obtain ⟨hl1, hl2⟩ := hl rfl
    go_enter Tryz.func72, Tryz.ntmps72
    go_wp2
    go_end0
    exact ⟨rfl, (H.out.set4 _).set3 _, grown_trans (grown_set _ _ _) (grown_set _ _ _), by simp [World.setCell]⟩

end Go.Proofs.YtebdgcoandfocaaGreatDoor
