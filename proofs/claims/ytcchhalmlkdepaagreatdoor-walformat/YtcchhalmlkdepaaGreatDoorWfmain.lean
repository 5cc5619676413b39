/-
  WalFormat of the law.
-/
import Derived.Test.YtcchhalmlkdepaaGreatDoorWfend
import Derived.Test.YtcchhalmlkdepaaGreatDoorWrhome
import Derived.Test.YtcchhalmlkdepaaGreatDoorWbegun
import Derived.BigRegion
namespace Go.Proofs.YtcchhalmlkdepaaGreatDoor
open Go.RowKit Go.Maps Go.Sort Go.Shelf

/-- begun, in memory that was added to. -/
theorem begun_on {w W : World} (ht : Tab w) (hW : Below w.heap.size w W) : Calls Tryz.prog 6 #[] W fun e w' => e = .returned (.bool true) ∧ Below w.heap.size w w' :=
  (begun_true W (below_tab hW ht.lt ht)).mono fun _ _ ⟨h1, h2⟩ => ⟨h1, hW.trans (h2.mono hW.size)⟩

set_option maxRecDepth 8000 in
set_option maxHeartbeats 1000000 in
theorem format_out (blocks fuse : Int) (p : Option Addr) (l c : Nat) (w : World) (ht : Tab w) (h : blocks < 0 ∨ 100 < blocks ∨ fuse < 0) :
    Calls Tryz.prog 4 #[.int .i64 blocks, .int .i64 fuse, .slice p l c] w fun e w' => e = .returned (.bool true) ∧ Below w.heap.size w w' := by
  have c1 := begun_true w ht
  clear ht
  by_cases h1 : blocks < 0
  · clear h
    go_enter Tryz.func4, Tryz.ntmps4
    go_wp2_with (go_at_call 6; refine c1.mono ?_; rintro e w1 ⟨rfl, hB1⟩; clear c1)
    go_ret
    exact ⟨rfl, hB1⟩
  · by_cases h2 : 100 < blocks
    · clear h
      have h2' : blocks > 100 := h2
      go_enter Tryz.func4, Tryz.ntmps4
      go_wp2_with (go_at_call 6; refine c1.mono ?_; rintro e w1 ⟨rfl, hB1⟩; clear c1)
      go_ret
      exact ⟨rfl, hB1⟩
    · have h3 : fuse < 0 := by omega
      have h2' : ¬ blocks > 100 := h2
      clear h
      go_enter Tryz.func4, Tryz.ntmps4
      go_wp2_with (go_at_call 6; refine c1.mono ?_; rintro e w1 ⟨rfl, hB1⟩; clear c1)
      go_ret
      exact ⟨rfl, hB1⟩

set_option maxRecDepth 8000 in
set_option maxHeartbeats 1000000 in
theorem format_none (fuse : Int) (p : Option Addr) (l c : Nat) (w : World) (ht : Tab w) (h3 : ¬ fuse < 0) :
    Calls Tryz.prog 4 #[.int .i64 0, .int .i64 fuse, .slice p l c] w fun e w' => e = .returned (.bool true) ∧ Below w.heap.size w w' := by
  have c1 := begun_true w ht
  have c2 := fun W => new_no 0 W (by omega)
  have c3 := fun W => mount_nil W
  have c4 := fun W => format_nil W
  clear ht
  go_enter Tryz.func4, Tryz.ntmps4
  go_wp2_with (first
    | (go_at_call 6; refine c1.mono ?_; rintro e w1 ⟨rfl, hB1⟩; clear c1)
    | (go_at_call 16; refine Calls_on (c2 _) ?_)
    | (go_at_call 14; refine (c3 _).mono ?_; rintro e w2 ⟨rfl, hB2⟩; clear c3)
    | (go_at_call 17; refine (c4 _).mono ?_; rintro e w3 ⟨rfl, hB3⟩; clear c4))
  go_ret
  exact ⟨rfl, (hB1.trans (hB2.mono hB1.size)).trans (hB3.mono (Nat.le_trans hB1.size hB2.size))⟩

set_option maxRecDepth 8000 in
set_option maxHeartbeats 1000000 in
theorem format_few (n : Nat) (fuse : Int) (p : Option Addr) (l c : Nat) (w : World) (ht : Tab w) (h1 : 1 ≤ n) (h2 : n < 16) (h3 : ¬ fuse < 0) :
    Calls Tryz.prog 4 #[.int .i64 n, .int .i64 fuse, .slice p l c] w fun e w' => e = .returned (.bool true) ∧ Below w.heap.size w w' := by
  have c1 := begun_true w ht
  have c2 := fun W => dev_new n W h1 (by omega)
  have i1 : ¬ (n : Int) < 0 := by omega
  have i2 : ¬ (n : Int) > 100 := by omega
  have i3 : (n : Int) < 16 := by omega
  clear ht
  go_enter Tryz.func4, Tryz.ntmps4
  go_wp2_with (first
    | (go_at_call 6; refine c1.mono ?_; rintro e w1 ⟨rfl, hB1⟩; clear c1)
    | (go_at_call 16; refine (c2 _).mono ?_; rintro e w2 ⟨a, s, c', m, rfl, hd2, hB2, _⟩; clear c2; refine Stop.out ?_))
  refine Stop.mk ?_
  obtain ⟨d2, hdd⟩ : ∃ d2, d2 = newDS a s c' m n := ⟨_, rfl⟩
  have ea2 : d2.a = a := by rw [hdd]; rfl
  have en2 : d2.n = n := by rw [hdd]; rfl
  rw [← hdd] at hd2
  clear hdd
  have c3 := mount_small d2 w2 hd2 (by omega)
  have c4 : ∀ W, Below w2.heap.size w2 W → Calls Tryz.prog 17 #[dp d2.a] W fun e w' => e = .returned (.int .i64 22) ∧ Below W.heap.size W w' := fun W hW => format_small d2 W (hd2.below hW) (by omega)
  rw [ea2] at c3 c4
  clear hd2
  go_wp2_with (first
    | (go_at_call 14; refine c3.mono ?_; rintro e w3 ⟨rfl, hB3⟩; clear c3; have c4' := c4 w3 hB3; clear c4)
    | (go_at_call 17; refine c4'.mono ?_; rintro e w4 ⟨rfl, hB4⟩; clear c4'))
  go_ret
  have b2 := hB1.trans (hB2.mono hB1.size)
  have b3 := b2.trans (hB3.mono b2.size)
  exact ⟨rfl, b3.trans (hB4.mono b3.size)⟩

end Go.Proofs.YtcchhalmlkdepaaGreatDoor
