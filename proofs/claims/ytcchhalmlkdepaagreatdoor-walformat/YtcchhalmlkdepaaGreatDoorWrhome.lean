/-
  Read of package wal, of a block that the log doesn't hold; and of one that isn't there.
-/
import Derived.Test.YtcchhalmlkdepaaGreatDoorWread
namespace Go.Proofs.YtcchhalmlkdepaaGreatDoor
open Go.RowKit Go.Maps Go.Sort Go.Shelf

set_option maxRecDepth 8000 in
set_option maxHeartbeats 1000000 in
theorem vRead_home (i : Nat) (v : Nat) (commits turn next : Nat) (f nf : Nat) (F : DataW Value) (fr : Nat → Option By) (d : DS) (w : World) (h : IsVol w v (dp d.a) commits turn next (some f) d.count) (hd : Dev w d) (hn : 16 ≤ d.n) (hF : Fresh w f nf F fr) (hi : i < nbOf d.n) (hfr : fr i = none) :
    Calls Tryz.prog 21 #[dp v, .int .i64 i] w fun e w' => ∃ g, e = .returned (.tuple #[.slice (some ⟨g, 0, none⟩) 512 512, .int .i64 0]) ∧ Bytes w' (some ⟨g, 0, none⟩) (d.B (1 + i)) ∧ Below w.heap.size w w' ∧ w.heap.size ≤ g := by
  have hle := hd.hn
  have hnb : nbOf d.n ≤ 65536 := by unfold nbOf; omega
  have hin : 1 + i < d.n := by unfold nbOf at hi; omega
  have c47 := vHas i v commits turn next (some f) d.count d w h hd hn
  rw [show decide ((0 : Int) ≤ (i : Int) ∧ (i : Int) < (nbOf d.n : Nat)) = true by simp; omega] at c47
  have c13 := catchUp_idle v commits turn next (some f) d w h hd
  have c16 := fun W => homeOf_any i W (by omega)
  have HD : Hid (Dev w d) := hd
  have hhas := hF.has i (by omega)
  rw [hfr] at hhas
  have lk : ∀ k, ∃ p n c, (Instr.lookup 66 (.map (some f)) (.int .i64 i) true).run Tryz.prog (w.drewN k) = .ok (.tuple #[.slice p n c, .bool false]) (w.drewN k) := by
    intro k
    have hown : (w.drewN k).ownsMap Tryz.prog 3 slElem f nf F := hF.own
    obtain ⟨p, n, c, hrun, he⟩ := slook_ok hown (i := i) (by omega)
    rw [hhas] at hrun
    exact ⟨p, n, c, hrun⟩
  have x4 : ∀ k, (w.drewN k).cell? ⟨v, 4, none⟩ = some (.map (some f)) := fun k => by have := cellOf h 4; simpa [volCells] using this
  have x0 : ∀ k, (w.drewN k).cell? ⟨v, 0, none⟩ = some (dp d.a) := fun k => by have := cellOf h 0; simpa [volCells] using this
  clear h hd hF hhas hfr
  go_enter Tryz.func21, Tryz.ntmps21
  go_wp2_with (first
    | (go_at_call 44; refine Calls_on c47 ?_)
    | (go_at_call 25; refine c13.mono ?_; rintro e w1 ⟨rfl, k1, rfl⟩; clear c13; obtain ⟨p, n, c, lk'⟩ := lk k1; have x4' := x4 k1; clear lk x4))
  obtain ⟨W3, hW3⟩ : ∃ W3, W3 = w.drewN k1 := ⟨_, rfl⟩
  have x0' : W3.drew.cell? ⟨v, 0, none⟩ = some (dp d.a) := by rw [hW3]; exact x0 k1
  have c15' := dev_read d (1 + i) W3.drew (by rw [hW3]; exact (HD.out.drewN k1).drew) hin
  have B3 : Below w.heap.size w W3.drew := by rw [hW3]; exact (below_drewN (Below.refl _ w) k1).drew
  rw [← hW3]
  clear hW3 x0 x4' lk'
  go_region_with (first
    | (go_at_call 47; refine Calls_on (c16 _) ?_)
    | (go_at_call 46; refine c15'.mono ?_; rintro e w2 ⟨rfl, hb2, hB2⟩))
  all_goals go_wp2
  all_goals go_ret2
  all_goals exact ⟨_, rfl, bytes_block hb2, B3.trans (hB2.mono B3.size), B3.size⟩

set_option maxRecDepth 8000 in
set_option maxHeartbeats 1000000 in
theorem vRead_no (i : Int) (v : Nat) (commits turn next : Nat) (f : Option Nat) (count : Int) (d : DS) (w : World) (h : IsVol w v (dp d.a) commits turn next f count) (hd : Dev w d) (hn : 16 ≤ d.n) (hi : ¬ (0 ≤ i ∧ i < nbOf d.n)) :
    Calls Tryz.prog 21 #[dp v, .int .i64 i] w fun e w' => e = .returned (.tuple #[.slice none 0 0, .int .i64 22]) ∧ w' = w := by
  have c47 := vHas i v commits turn next f count d w h hd hn
  rw [show decide ((0 : Int) ≤ i ∧ i < (nbOf d.n : Nat)) = false from decide_eq_false hi] at c47
  clear h hd
  go_enter Tryz.func21, Tryz.ntmps21
  go_wp2_with (go_at_call 44; refine Calls_on c47 ?_)
  go_ret2
  exact ⟨rfl, rfl⟩

end Go.Proofs.YtcchhalmlkdepaaGreatDoor
