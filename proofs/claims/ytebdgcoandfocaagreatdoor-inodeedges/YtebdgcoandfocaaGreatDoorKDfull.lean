/-
  Full of the law's package: n bytes of some bytes, over and over; Flush and Fuse of package device.
-/
import Derived.Test.YtebdgcoandfocaaGreatDoorKDwrite

namespace Go.Proofs.YtebdgcoandfocaaGreatDoor
open Go.RowKit Go.Maps

/-- A byte as a value. -/
def u8 (x : Int) : Value := .int .u8 x

/-- n bytes of bs, over and over. -/
def full (bs : List Int) (n : Nat) : List Int := (List.range n).map fun i => bs[i % bs.length]?.getD 0

set_option maxRecDepth 8000 in
set_option maxHeartbeats 400000 in
theorem flush_yes (a : Nat) (v : Value) (m : Nat) (fused : Bool) (left count : Int) (w : World) (h : IsDevAt w a v m fused left count)
    (hd : alive fused left) (hc0 : 0 ≤ count) (hc1 : count < 1000000000) (hlf : fused = true → 1 ≤ left ∧ left ≤ 9223372036854775807) :
    Calls Tryz.prog 52 #[.pointer (some ⟨a, 0, none⟩)] w fun e w' => ∃ m', e = .returned (.int .i64 0) ∧ w.heap.size ≤ m' ∧ IsDevAt w' a v m' fused (stepped fused left) (count + 1) ∧
      w'.heap[m']? = some (.map #[] 0) ∧ But (fun k => k = a) w w' := by
  have c21 := dead_any a v m fused left count w h
  rw [hd] at c21
  have halt := (Array.getElem?_eq_some_iff.1 h).1
  have hmm := @run_makeMap Tryz.prog
  have k1 := cellOf h 1
  have f1 := frozenOf h 1
  simp [devCells] at k1
  have HH : Hid (IsDevAt w a v m fused left count) := h
  clear h hd
  have hdev : Hid (IsDevAt ((w.setCell ⟨a, 1, none⟩ (.map (some w.heap.size))).alloc (.map #[] 0)) a v w.heap.size fused left count) := by
    show _ = _
    have := HH.out.set1 w.heap.size
    rw [Below.heap_alloc _ _ _ (by simp [World.setCell]; exact halt)]
    exact this
  go_enter Tryz.func52, Tryz.ntmps52
  go_wp2_with (first
    | (go_at_call 71; refine Calls_on c21 ?_)
    | (go_at_call 72; refine (done_any a v w.heap.size fused left count _ hdev.out hc0 hc1 hlf).mono ?_; rintro e w3 ⟨rfl, hdev3, hg3, hsz3⟩))
  go_ret
  have hszs : ((w.setCell ⟨a, 1, none⟩ (.map (some w.heap.size))).alloc (.map #[] 0)).heap.size = w.heap.size + 1 := by simp [World.setCell]
  refine ⟨w.heap.size, rfl, Nat.le_refl _, hdev3, ?_, ?_⟩
  · rw [hg3.block _ (by rw [hszs]; omega) (by simp; omega)]
    have := (MapKept.heap_alloc (w.setCell ⟨a, 1, none⟩ (.map (some w.heap.size))) (.map #[] 0)).1
    simpa [World.setCell] using this
  · exact (((But.refl (fun k => k = a) w).setCell ⟨a, 1, none⟩ rfl _).alloc _).trans (But.of_grown hg3 (by intro k hk; cases hk; rfl))

end Go.Proofs.YtebdgcoandfocaaGreatDoor
