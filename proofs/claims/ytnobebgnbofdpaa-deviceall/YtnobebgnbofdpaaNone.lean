/-
  The law DeviceNone returns true.
-/
import Derived.Test.YtnobebgnbofdpaaBegun
namespace Go.Proofs.Ytnobebgnbofdpaa
open Go.RowKit Go.Maps Go.Sort Go.Shelf

theorem make512 (w : World) : ∃ w', (Instr.makeSlice 28 (.int .i64 512) (.int .i64 512)).run Try.prog w = .ok (.slice (some ⟨w.heap.size, 0, none⟩) 512 512) w' ∧
    w'.heap[w.heap.size]? = some (.cells zeros.toArray 5 (0, 0)) ∧ Below w.heap.size w w' := by
  obtain ⟨i0, hi0, hz0, hz1, hz2⟩ := info_parts Try.info5
  obtain ⟨w', h1, h2, h3⟩ := run_make_full (P := Try.prog) w 0 28 5 i0 (.int .u8 0) 1 Try.underlying28 hi0 hz0 hz1 .i64 .i64 512 (by rw [hz2]; omega) (by unfold maxLen; omega) (Nat.zero_le _)
  exact ⟨w', h1, made_zeros h2, (Below.refl _ w).grown h3 (Nat.le_refl _) (by simp)⟩

set_option maxHeartbeats 1000000 in
theorem none_any (w : World) : Calls Try.prog 4 #[] w fun e w' => e = .returned (.bool true) ∧ Below w.heap.size w w' := by
  go_enter Try.func4, Try.ntmps4
  go_wp2_with (first
    | (go_at_call 14; refine Calls_on (fuse_nil _ _) ?_)
    | (go_at_call 20; refine Calls_on (read_nil _ _) ?_)
    | (go_at_call 6; refine (begun_any _).mono ?_; rintro e w1 ⟨rfl, hB1⟩; obtain ⟨w2, hmk, _, hB2⟩ := make512 w1)
    | (go_at_call 10; refine Calls_on (write_nil _ _ _ _ _) ?_)
    | (go_at_call 12; refine Calls_on (flush_nil _) ?_)
    | (go_at_call 21; refine Calls_on (dead_nil _) ?_)
    | (go_at_call 22; refine Calls_on (blocks_nil _) ?_)
    | (go_at_call 23; refine Calls_on (count_nil _) ?_)
    | (go_at_call 24; refine Calls_on (loose_nil _) ?_)
    | (go_at_call 16; refine Calls_on (crash_nil _ _) ?_)
    | (go_at_call 7; refine Calls_on (new_no _ _ (by omega)) ?_))
  go_ret
  exact ⟨rfl, hB1.trans (hB2.mono hB1.size)⟩

end Go.Proofs.Ytnobebgnbofdpaa
