/-
  erase of package wal, where all is zeros already; and its two callers.
-/
import Derived.Test.YtebdgcoandfocaaGreatDoorKWhead

namespace Go.Proofs.YtebdgcoandfocaaGreatDoor
open Go.RowKit Go.Maps Go.Sort Go.Shelf

set_option maxRecDepth 8000 in
set_option maxHeartbeats 1000000 in
theorem erase_zeros (frm to : Nat) (v : Nat) (commits turn next : Nat) (f : Option Nat) (count : Int) (d : DS) (w : World) (h : IsVol w v (dp d.a) commits turn next f count) (hd : Dev w d)
    (hto : to ≤ d.n) (hft : frm ≤ to) (hz : ∀ i, i < d.n → d.B i = zeroB) :
    Calls Tryz.prog 70 #[dp v, .int .i64 frm, .int .i64 to] w fun e w' => e = .returned (.int .i64 0) ∧ Below w.heap.size w w' := by
  obtain ⟨i0, hi0, hz0, hz1, hz2⟩ := info_parts Tryz.info5
  have hn := hd.hn
  have HV : Hid (IsVol w v (dp d.a) commits turn next f count) := h
  have HD : Hid (Dev w d) := hd
  have HZ : Hid (∀ i, i < d.n → d.B i = zeroB) := hz
  clear h hd hz
  go_enter Tryz.func70, Tryz.ntmps70
  go_wp2_with (at_make; refine wpList_make_full _ rfl _ _ 30 rfl 0 5 i0 (.int .u8 0) 1 Tryz.underlying30 hi0 hz0 hz1 .i64 .i64 _ _ 512 rfl rfl rfl rfl (by rw [hz2]; omega) (by unfold maxLen; omega) (Nat.zero_le _) ?_; intro w1 hrow hg1; have hrep : Hid (w1.heap[w.heap.size]? = some (.cells (zeroB.map u8v).toArray 5 (0, 0))) := by { have := made_zeros hrow; rw [← zeros_bytes] at this; exact this }; have HB1 : Hid (Below w.heap.size w w1) := (Below.refl _ w).grown hg1 (Nat.le_refl _) (by simp); clear hrow hg1)
  go_loopw [8] (fun ii wr => ∃ i : Nat, frm ≤ i ∧ i ≤ to ∧ ii = .int .i64 i ∧ Hid (Below w.heap.size w wr ∧ wr.heap[w.heap.size]? = some (.cells (zeroB.map u8v).toArray 5 (0, 0)))) (fun ii _ => to - (intOf ii).toNat)
  case atStart => exact ⟨frm, Nat.le_refl _, hft, rfl, HB1.out, hrep.out⟩
  case round =>
    obtain ⟨i, hfi, hi, rfl, HJ⟩ := hrel
    by_cases hlt : i < to
    · have hltI : (i : Int) < to := by omega
      obtain ⟨hB, hzz⟩ := HJ.out
      have c0 := cellOf (HV.out.below hB) 0
      simp [volCells] at c0
      have c15 := dev_read d i wr (HD.out.below hB) (by omega)
      rw [HZ.out i (by omega)] at c15
      have c40 : ∀ w2 : World, w2.heap[wr.heap.size]? = some (.cells (zeroB.map u8v).toArray 5 (0, 0)) → Below wr.heap.size wr w2 → Calls Tryz.prog 79 #[.slice (some ⟨wr.heap.size, 0, none⟩) 512 512, .slice (some ⟨w.heap.size, 0, none⟩) 512 512] w2 fun e w' => e = .returned (.bool true) ∧ w' = w2 := by
        intro w2 h2 hB2
        have := equal_any (some ⟨wr.heap.size, 0, none⟩) (some ⟨w.heap.size, 0, none⟩) zeroB zeroB 512 512 w2 (bytes_block h2) (bytes_block (below_block hzz hB2))
        rw [zeroB_length, decide_eq_true rfl] at this
        exact this
      clear hB hzz
      go_wp2_with (first
        | (go_at_call 75; refine c15.mono ?_; rintro e w2 ⟨rfl, hg2, hB2⟩; clear c15; have c40' := c40 w2 hg2 hB2; clear c40)
        | (go_at_call 79; refine Calls_on c40' ?_))
      go_roundw
      case rel => exact ⟨i + 1, by omega, by omega, by go_num, HJ.out.1.trans (hB2.mono HJ.out.1.size), below_block HJ.out.2 hB2⟩
      case measure => simp [intOf]; omega
    · obtain rfl : i = to := by omega
      go_wp2
      go_ret
      exact ⟨rfl, HJ.out.1⟩

set_option maxRecDepth 8000 in
set_option maxHeartbeats 400000 in
theorem eraseHead_zeros (v : Nat) (commits turn next : Nat) (f : Option Nat) (count : Int) (d : DS) (w : World) (h : IsVol w v (dp d.a) commits turn next f count) (hd : Dev w d) (hz : ∀ i, i < d.n → d.B i = zeroB) :
    Calls Tryz.prog 51 #[dp v] w fun e w' => e = .returned (.int .i64 0) ∧ Below w.heap.size w w' := by
  have c58 := erase_zeros 0 1 v commits turn next f count d w h hd hd.hn1 (by omega) hz
  clear h hd hz
  go_enter Tryz.func51, Tryz.ntmps51
  go_wp2_with (go_at_call 70; refine (show Calls Tryz.prog 70 #[dp v, .int .i64 0, .int .i64 1] _ _ from c58).mono ?_; rintro e w1 ⟨rfl, hB1⟩; clear c58)
  go_ret
  exact ⟨rfl, hB1⟩

set_option maxRecDepth 8000 in
set_option maxHeartbeats 400000 in
theorem eraseRest_zeros (v : Nat) (commits turn next : Nat) (f : Option Nat) (count : Int) (d : DS) (w : World) (h : IsVol w v (dp d.a) commits turn next f count) (hd : Dev w d) (hz : ∀ i, i < d.n → d.B i = zeroB) :
    Calls Tryz.prog 53 #[dp v] w fun e w' => e = .returned (.int .i64 0) ∧ Below w.heap.size w w' := by
  have c58 := erase_zeros 1 d.n v commits turn next f count d w h hd (Nat.le_refl _) hd.hn1 hz
  have c31 := dev_blocks d w hd
  have c0 := cellOf h 0
  simp [volCells] at c0
  clear h hd hz
  go_enter Tryz.func53, Tryz.ntmps53
  go_wp2_with (first
    | (go_at_call 69; refine Calls_on c31 ?_)
    | (go_at_call 70; refine (show Calls Tryz.prog 70 #[dp v, .int .i64 1, .int .i64 d.n] _ _ from c58).mono ?_; rintro e w1 ⟨rfl, hB1⟩; clear c58))
  go_ret
  exact ⟨rfl, hB1⟩

end Go.Proofs.YtebdgcoandfocaaGreatDoor
