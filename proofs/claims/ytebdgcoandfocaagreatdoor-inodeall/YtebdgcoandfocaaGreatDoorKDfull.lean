/-
  Full of the law's package: n bytes of some bytes, over and over; Flush and Fuse of package device.
-/
import Derived.Test.YtebdgcoandfocaaGreatDoorKDwrite

namespace Go.Proofs.YtebdgcoandfocaaGreatDoor
open Go.RowKit Go.Maps

/-- A byte as a value. -/
def u8 (x : Int) : Value := .int .u8 x

/-- n bytes of which the first k are those of bs, over and over. -/
def fill (bs : List Int) (n k : Nat) : List Int := (List.range n).map fun i => if i < k then bs[i % bs.length]?.getD 0 else 0
/-- n bytes of bs, over and over. -/
def full (bs : List Int) (n : Nat) : List Int := (List.range n).map fun i => bs[i % bs.length]?.getD 0

theorem fill_full (bs : List Int) (n : Nat) : fill bs n n = full bs n := by
  unfold fill full
  apply List.map_congr_left
  intro i hi
  rw [if_pos (List.mem_range.1 hi)]
theorem fill_zero (bs : List Int) (n : Nat) : (fill bs n 0).map u8 = List.replicate n (.int .u8 0) := by
  unfold fill u8
  apply List.ext_getElem?
  intro j
  by_cases hj : j < n <;> simp [hj]
theorem full_nil (n : Nat) : full [] n = fill [] n 0 := by
  unfold fill full
  apply List.map_congr_left
  intro i _
  simp
theorem fill_nil (n k : Nat) : fill [] n k = fill [] n 0 := by
  unfold fill
  apply List.map_congr_left
  intro i _
  simp
theorem fill_length (bs : List Int) (n k : Nat) : (fill bs n k).length = n := by simp [fill]
theorem fill_get (bs : List Int) (n k i : Nat) (hi : i < n) : (fill bs n k)[i]? = some (if i < k then bs[i % bs.length]?.getD 0 else 0) := by
  unfold fill
  simp [hi]
theorem fill_step (bs : List Int) (n k : Nat) (hk : k < n) :
    ((fill bs n k).map u8).toArray.setIfInBounds k (.int .u8 (bs[k % bs.length]?.getD 0)) = ((fill bs n (k + 1)).map u8).toArray := by
  apply Array.ext_getElem?
  intro j
  rw [Array.getElem?_setIfInBounds]
  by_cases hkj : k = j
  · subst hkj
    rw [if_pos rfl, if_pos (by simp [fill_length]; exact hk)]
    simp [fill_get bs n (k + 1) k hk, u8]
  · rw [if_neg hkj]
    simp only [List.getElem?_toArray, List.getElem?_map]
    by_cases hj : j < n
    · rw [fill_get bs n k j hj, fill_get bs n (k + 1) j hj]
      by_cases h1 : j < k
      · rw [if_pos h1, if_pos (by omega)]
      · rw [if_neg h1, if_neg (by omega)]
    · rw [List.getElem?_eq_none (by rw [fill_length]; omega), List.getElem?_eq_none (by rw [fill_length]; omega)]

set_option maxRecDepth 8000 in
set_option maxHeartbeats 1000000 in
theorem full_any (bs : List Int) (bp : Option Addr) (bc n : Nat) (w : World) (hn : n ≤ 70000) (hbl : bs.length < 9223372036854775808)
    (hsrc : 0 < bs.length → ∃ bb bo, bp = some ⟨bb, bo, none⟩ ∧ ∀ j x, bs[j]? = some x → w.cell? ⟨bb, bo + j, none⟩ = some (.int .u8 x)) :
    Calls Tryz.prog 10 #[.slice bp bs.length bc, .int .i64 n] w fun e w' => e = .returned (.slice (some ⟨w.heap.size, 0, none⟩) n n) ∧
      w'.heap[w.heap.size]? = some (.cells ((full bs n).map u8).toArray 5 (0, 0)) ∧ Below w.heap.size w w' := by
  obtain ⟨i0, hi0, hz0, hz1, hz2⟩ := info_parts Tryz.info5
  have HS : Hid (0 < bs.length → ∃ bb bo, bp = some ⟨bb, bo, none⟩ ∧ ∀ j x, bs[j]? = some x → w.cell? ⟨bb, bo + j, none⟩ = some (.int .u8 x)) := hsrc
  clear hsrc
  go_enter Tryz.func10, Tryz.ntmps10
  go_wp2_with (at_make; refine wpList_make_full _ rfl _ _ 30 rfl 0 5 i0 (.int .u8 0) 1 Tryz.underlying30 hi0 hz0 hz1 .i64 .i64 _ _ n rfl rfl rfl rfl (by rw [hz2]; omega) (by unfold maxLen; omega) (Nat.zero_le _) ?_; intro w1 hrow hg1; have hrep : Hid (w1.heap[w.heap.size]? = some (.cells (List.replicate n (.int .u8 0)).toArray 5 (0, 0))) := made_rep hrow; clear hrow)
  go_loopw [6] (fun ix wr => ∃ k : Nat, k ≤ n ∧ ix = .int .i64 k ∧ Hid (wr.heap[w.heap.size]? = some (.cells ((fill bs n k).map u8).toArray 5 (0, 0))) ∧ Below w.heap.size w wr) (fun ix _ => n - (intOf ix).toNat)
  case atStart =>
    refine ⟨0, Nat.zero_le _, rfl, ?_, (Below.refl _ w).grown hg1 (Nat.le_refl _) (by simp)⟩
    show _ = _
    rw [fill_zero]
    exact hrep.out
  case round =>
    obtain ⟨k, hk, rfl, hblk, hB⟩ := hrel
    by_cases hlt : k < n
    · by_cases hpos : 0 < bs.length
      · obtain ⟨bb, bo, hbp, hcell⟩ := HS.out hpos
        subst hbp
        have hmod : k % bs.length < bs.length := Nat.mod_lt _ hpos
        have hx : bs[k % bs.length]? = some (bs[k % bs.length]?.getD 0) := by rw [List.getElem?_eq_getElem hmod]; rfl
        have hc0 := hcell _ _ hx
        have hlt0 : bb < w.heap.size := World.block_lt_of_cell? w _ hc0
        have c1 : wr.cell? ⟨bb, bo + k % bs.length, none⟩ = some (.int .u8 (bs[k % bs.length]?.getD 0)) := (hB.cell (p := ⟨bb, _, none⟩) hlt0).trans hc0
        have c2 : wr.cell? ⟨w.heap.size, k, none⟩ = some (.int .u8 0) := by
          rw [cellOf hblk.out k]
          simp [fill_get bs n k k hlt, u8]
        have f2 : wr.frozen? ⟨w.heap.size, k, none⟩ = false := frozenOf hblk.out k
        have HC : Hid (bs[k % bs.length]? = some (bs[k % bs.length]?.getD 0)) := hx
        generalize hv : bs[k % bs.length]?.getD 0 = v at c1
        have HV : Hid (bs[k % bs.length]?.getD 0 = v) := hv
        clear hx hc0 hcell hv
        go_wp2
        refine ⟨⟨k + 1, by omega, by go_num, ?_, hB.setCell (p := ⟨w.heap.size, k, none⟩) (Nat.le_refl _) _⟩, by simp [intOf]; omega⟩
        show _ = _
        rw [← fill_step bs n k hlt, HV.out]
        have hbo := hblk.out
        simp [World.setCell, Array.getElem?_modify, hbo]
      · have hz : bs.length = 0 := by omega
        obtain rfl : bs = [] := List.eq_nil_of_length_eq_zero hz
        go_wp2
        go_ret
        refine ⟨rfl, ?_, hB⟩
        have hbo := hblk.out
        rw [full_nil, ← fill_nil n k]
        exact hbo
    · obtain rfl : k = n := by omega
      go_wp2
      go_ret
      refine ⟨rfl, ?_, hB⟩
      rw [← fill_full]
      exact hblk.out

set_option maxRecDepth 8000 in
set_option maxHeartbeats 400000 in
theorem flush_yes (a : Nat) (v : Value) (m : Nat) (fused : Bool) (left count : Int) (w : World) (h : IsDevAt w a v m fused left count)
    (hd : alive fused left) (hc0 : 0 ≤ count) (hc1 : count < 1000000000) (hlf : fused = true → 1 ≤ left ∧ left ≤ 9223372036854775807) :
    Calls Tryz.prog 52 #[.pointer (some ⟨a, 0, none⟩)] w fun e w' => ∃ m', e = .returned (.int .i64 0) ∧ w.heap.size ≤ m' ∧ IsDevAt w' a v m' fused (stepped fused left) (count + 1) ∧
      w'.heap[m']? = some (.map #[] 0) ∧ But (fun k => k = a) w w' := by
  have c21 := dead_any a v m fused left count w h
  rw [hd] at c21
  have halt := (Array.getElem?_eq_some_iff.1 h).1
  have hmm := @run_makeMap Tryz.prog
  have k1 := cellOf h 1
  have f1 := frozenOf h 1
  simp [devCells] at k1
  have HH : Hid (IsDevAt w a v m fused left count) := h
  clear h hd
  have hdev : Hid (IsDevAt ((w.setCell ⟨a, 1, none⟩ (.map (some w.heap.size))).alloc (.map #[] 0)) a v w.heap.size fused left count) := by
    show _ = _
    have := HH.out.set1 w.heap.size
    rw [Below.heap_alloc _ _ _ (by simp [World.setCell]; exact halt)]
    exact this
  go_enter Tryz.func52, Tryz.ntmps52
  go_wp2_with (first
    | (go_at_call 71; refine Calls_on c21 ?_)
    | (go_at_call 72; refine (done_any a v w.heap.size fused left count _ hdev.out hc0 hc1 hlf).mono ?_; rintro e w3 ⟨rfl, hdev3, hg3, hsz3⟩))
  go_ret
  have hszs : ((w.setCell ⟨a, 1, none⟩ (.map (some w.heap.size))).alloc (.map #[] 0)).heap.size = w.heap.size + 1 := by simp [World.setCell]
  refine ⟨w.heap.size, rfl, Nat.le_refl _, hdev3, ?_, ?_⟩
  · rw [hg3.block _ (by rw [hszs]; omega) (by simp; omega)]
    have := (MapKept.heap_alloc (w.setCell ⟨a, 1, none⟩ (.map (some w.heap.size))) (.map #[] 0)).1
    simpa [World.setCell] using this
  · exact (((But.refl (fun k => k = a) w).setCell ⟨a, 1, none⟩ rfl _).alloc _).trans (But.of_grown hg3 (by intro k hk; cases hk; rfl))

end Go.Proofs.YtebdgcoandfocaaGreatDoor
