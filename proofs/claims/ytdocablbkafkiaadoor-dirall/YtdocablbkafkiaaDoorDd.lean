/-
  The small calls of a directory: in how many blocks, how many names, the next block, where a name is sought first.
-/
import Derived.Test.YtdocablbkafkiaaDoorDc
import Derived.Deep.RegionHeld3
namespace Go.Proofs.YtdocablbkafkiaaDoor.Cd
open Go.RowKit

theorem bforAt_stop {m : Nat} : ∀ (f next size : Nat), ¬ next ≤ m → bforAt m f next size = size
  | 0, _, _, _ => rfl
  | f + 1, next, size, h => by rw [bforAt, if_neg h]

set_option maxRecDepth 8000 in
set_option maxHeartbeats 1000000 in
theorem for_any (c : Nat) (w : World) (hc : c ≤ 2048) : Calls Tryd.prog 40 #[.int .i64 (c : Nat)] w fun e w' => e = .returned (.int .i64 (bfor c : Nat)) ∧ w' = w := by
  obtain ⟨m, hm⟩ : ∃ m, (c + 3) / 4 = m := ⟨_, rfl⟩
  have hmI : ((c : Int) + 3) / 4 = (m : Nat) := by omega
  have hml : m ≤ 600 := by omega
  have H : Hid (bfor c = bforAt m 601 1 0) := by show bfor c = _; unfold bfor; rw [hm]
  clear hm
  go_enter Tryd.func40, Tryd.ntmps40
  go_wp2_with fail
  go_loop [3, 4] (fun ss nn => ∃ size next f : Nat, ss = .int .i64 size ∧ nn = .int .i64 next ∧ 1 ≤ next ∧ next ≤ 2000 ∧ size ≤ 2000 ∧ Hid (bforAt m f next size = bfor c) ∧ Hid (next + f ≥ 602)) (fun _ nn => 2000 - (intOf nn).toNat)
  case atStart => exact ⟨0, 1, 601, rfl, rfl, by omega, by omega, by omega, H.out.symm, by show 1 + 601 ≥ 602; omega⟩
  case round =>
    obtain ⟨size, next, f, rfl, rfl, h1, h2, h3, HB, HF⟩ := hrel
    by_cases hlt : next ≤ m
    · have hltI : (next : Int) ≤ m := by omega
      obtain ⟨q, hq⟩ : ∃ q, (next + 1) / 2 = q := ⟨_, rfl⟩
      have hqI : ((next : Int) + 1) / 2 = (q : Nat) := by omega
      have hq1 : 1 ≤ q := by omega
      have hq2 : q ≤ next := by omega
      have HQ : Hid ((next + 1) / 2 = q) := hq
      clear hq
      go_wp2
      all_goals go_round
      all_goals first
        | refine ⟨next, next + q, f - 1, rfl, by go_num, by omega, by omega, by omega, ?_, ?_⟩
          · have hf := HF.out
            have e : f = (f - 1) + 1 := by omega
            have hb := HB.out
            rw [e, bforAt, if_pos hlt, HQ.out] at hb
            exact hb
          · show next + q + (f - 1) ≥ 602
            have hf := HF.out
            omega
        | (simp [intOf]; omega)
    · have hltI : ¬ (next : Int) ≤ m := by omega
      have e : bfor c = size := by rw [← HB.out]; exact bforAt_stop _ _ _ hlt
      rw [e]
      go_wp2
      go_ret
      exact ⟨rfl, rfl⟩

theorem len_nil (w : World) : Calls Tryd.prog 16 #[.pointer none] w fun e w' => e = .returned (.int .i64 0) ∧ w' = w := by
  go_enter Tryd.func16, Tryd.ntmps16
  go_wp2
  go_ret
  exact ⟨rfl, rfl⟩
theorem len_any (a : Nat) (c : Nat) (w : World) (h : w.cell? ⟨a, 0, none⟩ = some (.int .i64 (c : Nat))) : Calls Tryd.prog 16 #[.pointer (some ⟨a, 0, none⟩)] w fun e w' => e = .returned (.int .i64 (c : Nat)) ∧ w' = w := by
  go_enter Tryd.func16, Tryd.ntmps16
  go_wp2
  go_ret
  exact ⟨rfl, rfl⟩
theorem new_dir (w : World) : Calls Tryd.prog 7 #[] w fun e w' => e = .returned (.pointer (some ⟨w.heap.size, 0, none⟩)) ∧ w' = w.alloc (.cells #[.int .i64 0, .slice none 0 0] 49) := by
  go_enter Tryd.func7, Tryd.ntmps7
  go_wp2
  go_ret
  exact ⟨rfl, rfl⟩
theorem next_any (a i n c : Nat) (p : Option Addr) (w : World) (h : w.cell? ⟨a, 1, none⟩ = some (.slice p n c)) (hi : i < n) (hn : n < 100000) : Calls Tryd.prog 39 #[.pointer (some ⟨a, 0, none⟩), .int .i64 (i : Nat)] w fun e w' => e = .returned (.int .i64 (nx n i 1 : Nat)) ∧ w' = w := by
  have hne : ¬ (n : Int) = 0 := by omega
  obtain ⟨k, hk⟩ : ∃ k, nx n i 1 = k := ⟨_, rfl⟩
  have hkI : ((i : Int) + 1) % (n : Nat) = (k : Nat) := by
    have := nx_one hi
    rw [hk] at this
    rw [← this]; rfl
  rw [hk]
  clear hk
  go_enter Tryd.func39, Tryd.ntmps39
  go_wp2
  go_ret
  exact ⟨congrArg (fun z => Ending.returned (Value.int .i64 z)) hkI, rfl⟩

/-- In which of n blocks a name is sought first. -/
def H1 (a : List UInt8) (n : Nat) : Nat := (crcSum (bits8 a)).toNat % n
theorem H1_ok : HOk H1 := fun _ _ h => Nat.mod_lt _ h

end Go.Proofs.YtdocablbkafkiaaDoor.Cd
