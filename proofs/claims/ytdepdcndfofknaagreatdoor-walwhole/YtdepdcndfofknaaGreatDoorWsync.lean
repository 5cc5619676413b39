/-
  Sync and Read of package wal.
-/
import Derived.Test.YtdepdcndfofknaaGreatDoorWwl
namespace Go.Proofs.YtdepdcndfofknaaGreatDoor
open Go.RowKit Go.Maps Go.Sort Go.Shelf

set_option maxRecDepth 8000 in
set_option maxHeartbeats 400000 in
theorem vSync_nil (w : World) : Calls Tryz.prog 38 #[.pointer none] w fun e w' => e = .returned (.int .i64 5) ∧ w' = w := by
  go_enter Tryz.func38, Tryz.ntmps38
  go_wp2
  go_ret
  exact ⟨rfl, rfl⟩

set_option maxRecDepth 8000 in
set_option maxHeartbeats 400000 in
theorem vCommit_nil (p : Option Addr) (l c : Nat) (w : World) : Calls Tryz.prog 42 #[.pointer none, .slice p l c] w fun e w' => e = .returned (.int .i64 5) ∧ w' = w := by
  go_enter Tryz.func42, Tryz.ntmps42
  go_wp2
  go_ret
  exact ⟨rfl, rfl⟩

set_option maxRecDepth 8000 in
set_option maxHeartbeats 400000 in
theorem vRead_nil (i : Int) (w : World) : Calls Tryz.prog 26 #[.pointer none, .int .i64 i] w fun e w' => e = .returned (.tuple #[.slice none 0 0, .int .i64 22]) ∧ w' = w := by
  go_enter Tryz.func26, Tryz.ntmps26
  go_wp2_with (go_at_call 56; refine Calls_on (vHas_nil _ _) ?_)
  go_ret2
  exact ⟨rfl, rfl⟩

set_option maxRecDepth 8000 in
set_option maxHeartbeats 1000000 in
theorem vSync_ok (v : Nat) (commits turn next : Nat) (f : Option Nat) (d : DS) (w : World) (h : IsVol w v (dp d.a) commits turn next f d.count) (hd : Dev w d) (hl : d.lives 1) (hcn : d.count < 1000000000) :
    Calls Tryz.prog 38 #[dp v] w fun e w' => ∃ m, e = .returned (.int .i64 0) ∧ w.heap.size ≤ m ∧ IsVol w' v (dp d.a) commits turn next f (d.count + 1) ∧ Dev w' (d.flushed m) ∧ But (fun k => k = v ∨ d.mine k) w w' := by
  have c13 := catchUp_idle v commits turn next f d w h hd
  have c30 : ∀ k, Calls Tryz.prog 63 #[dp d.a] (w.drewN k) fun e w' => ∃ m, e = .returned (.int .i64 0) ∧ w.heap.size ≤ m ∧ Dev w' (d.flushed m) ∧ But d.mine w w' := by
    intro k
    refine (dev_flush d (w.drewN k) (hd.drewN k) (hl.alive (by omega)) hcn).mono ?_
    rintro e w' ⟨m, rfl, h1, h2, h3⟩
    exact ⟨m, rfl, h1, h2, ⟨h3.os, h3.tape, h3.output, h3.size, h3.block⟩⟩
  have x0 : ∀ k, (w.drewN k).cell? ⟨v, 0, none⟩ = some (dp d.a) := fun k => by have := cellOf h 0; simpa [volCells] using this
  have HV : Hid (IsVol w v (dp d.a) commits turn next f d.count) := h
  have HD : Hid (Dev w d) := hd
  clear h hd
  go_enter Tryz.func38, Tryz.ntmps38
  go_wp2_with (first
    | (go_at_call 57; refine c13.mono ?_; rintro e w1 ⟨rfl, k1, rfl⟩; clear c13; have x0' := x0 k1; have c30' := c30 k1; clear c30 x0)
    | (go_at_call 63; refine c30'.mono ?_; rintro e w2 ⟨m2, rfl, hm2, hd2, hb2⟩; clear c30'; have hv2 := HV.out.but hb2 (HV.out.mine HD.out); have c23 := dev_count _ w2 hd2; have y0 := cellOf hv2 0; have y5 := cellOf hv2 5; have f5 := frozenOf hv2 5; simp [volCells] at y0 y5)
    | (go_at_call 64; refine Calls_on (show Calls Tryz.prog 64 #[dp d.a] w2 (fun e w' => e = .returned (.int .i64 (d.count + 1)) ∧ w' = w2) from c23) ?_))
  go_ret
  have hbv : But (fun k => k = v) w2 (w2.setCell ⟨v, 5, none⟩ (.int .i64 (d.count + 1))) := (But.refl (fun k => k = v) w2).setCell ⟨v, 5, none⟩ rfl _
  exact ⟨m2, rfl, hm2, hv2.setK _, hd2.butV hv2 hbv, (hb2.mono (fun k _ hk => .inr hk)).trans (hbv.mono (fun k _ hk => .inl hk))⟩

end Go.Proofs.YtdepdcndfofknaaGreatDoor
