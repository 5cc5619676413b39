/-
  Fuse of package device.
-/
import Derived.Test.YtcchhalmlkdepaaGreatDoorDfull
namespace Go.Proofs.YtcchhalmlkdepaaGreatDoor
open Go.RowKit Go.Maps

set_option maxRecDepth 8000 in
set_option maxHeartbeats 400000 in
theorem fuse_nil (n : Int) (w : World) :
    Calls Tryz.prog 18 #[.pointer none, .int .i64 n] w fun e w' => e = .returned (.tuple #[]) ∧ w' = w := by
  go_enter Tryz.func18, Tryz.ntmps18
  go_wp2_with (go_at_call 41; refine Calls_on (dead_nil _) ?_)
  first | go_end0 | refine bodyPost_ret (results_none rfl _ _ _) rfl ?_
  exact ⟨rfl, rfl⟩

set_option maxRecDepth 8000 in
set_option maxHeartbeats 400000 in
theorem fuse_dead (n : Int) (a : Nat) (v : Value) (m : Nat) (fused : Bool) (left count : Int) (w : World) (h : IsDevAt w a v m fused left count)
    (hd : (fused && decide (left < 1)) = true) :
    Calls Tryz.prog 18 #[.pointer (some ⟨a, 0, none⟩), .int .i64 n] w fun e w' => e = .returned (.tuple #[]) ∧ w' = w := by
  have c21 := dead_any a v m fused left count w h
  rw [hd] at c21
  clear h hd
  go_enter Tryz.func18, Tryz.ntmps18
  go_wp2_with (go_at_call 41; refine Calls_on c21 ?_)
  first | go_end0 | refine bodyPost_ret (results_none rfl _ _ _) rfl ?_
  exact ⟨rfl, rfl⟩

set_option maxRecDepth 8000 in
set_option maxHeartbeats 400000 in
theorem fuse_yes (n : Int) (a : Nat) (v : Value) (m : Nat) (fused : Bool) (left count : Int) (w : World) (h : IsDevAt w a v m fused left count)
    (hd : alive fused left) :
    Calls Tryz.prog 18 #[.pointer (some ⟨a, 0, none⟩), .int .i64 n] w fun e w' => e = .returned (.tuple #[]) ∧ IsDevAt w' a v m true n count ∧ But (fun k => k = a) w w' := by
  have c21 := dead_any a v m fused left count w h
  rw [hd] at c21
  have k2 := cellOf h 2
  have f2 := frozenOf h 2
  have k3 := cellOf h 3
  have f3 := frozenOf h 3
  simp [devCells] at k2 k3
  have HH : Hid (IsDevAt w a v m fused left count) := h
  clear h hd
  go_enter Tryz.func18, Tryz.ntmps18
  go_wp2_with (go_at_call 41; refine Calls_on c21 ?_)
  first | go_end0 | refine bodyPost_ret (results_none rfl _ _ _) rfl ?_
  exact ⟨rfl, (HH.out.set2 _).set3 _, ((But.refl (fun k => k = a) w).setCell ⟨a, 2, none⟩ rfl _).setCell ⟨a, 3, none⟩ rfl _⟩

end Go.Proofs.YtcchhalmlkdepaaGreatDoor
