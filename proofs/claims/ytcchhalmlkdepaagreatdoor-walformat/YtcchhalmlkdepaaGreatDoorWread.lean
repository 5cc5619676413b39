/-
  Read of package wal, of a block that the log holds.
-/
import Derived.Test.YtcchhalmlkdepaaGreatDoorWcommit
namespace Go.Proofs.YtcchhalmlkdepaaGreatDoor
open Go.RowKit Go.Maps Go.Sort Go.Shelf

set_option maxRecDepth 8000 in
set_option maxHeartbeats 1000000 in
theorem vRead_fresh (i : Nat) (b : By) (v : Nat) (commits turn next : Nat) (f nf : Nat) (F : DataW Value) (fr : Nat → Option By) (d : DS) (w : World) (h : IsVol w v (dp d.a) commits turn next (some f) d.count) (hd : Dev w d) (hn : 16 ≤ d.n) (hF : Fresh w f nf F fr) (hi : i < nbOf d.n) (hfr : fr i = some b) :
    Calls Tryz.prog 21 #[dp v, .int .i64 i] w fun e w' => ∃ g cp, e = .returned (.tuple #[.slice (some ⟨g, 0, none⟩) 512 cp, .int .i64 0]) ∧ 512 ≤ cp ∧ b.length = 512 ∧ Bytes w' (some ⟨g, 0, none⟩) b ∧ Below w.heap.size w w' ∧ w.heap.size ≤ g := by
  have hle := hd.hn
  have hnb : nbOf d.n ≤ 65536 := by unfold nbOf; omega
  have c47 := vHas i v commits turn next (some f) d.count d w h hd hn
  rw [show decide ((0 : Int) ≤ (i : Int) ∧ (i : Int) < (nbOf d.n : Nat)) = true by simp; omega] at c47
  have c13 := catchUp_idle v commits turn next (some f) d w h hd
  obtain ⟨hbl, g0, cp0, hat, hcp0, hb0, _⟩ := hF.val i b (by omega) hfr
  have hhas := hF.has i (by omega)
  rw [hfr] at hhas
  have lk : ∀ k, (Instr.lookup 66 (.map (some f)) (.int .i64 i) true).run Tryz.prog (w.drewN k) = .ok (.tuple #[.slice (some ⟨g0, 0, none⟩) 512 cp0, .bool true]) (w.drewN k) := by
    intro k
    have hown : (w.drewN k).ownsMap Tryz.prog 3 slElem f nf F := hF.own
    obtain ⟨p, n, c, hrun, he⟩ := slook_ok hown (i := i) (by omega)
    rw [hat] at he
    simp only [slD, DataW.held.injEq, Value.slice.injEq] at he
    obtain ⟨rfl, rfl, rfl⟩ := he
    rw [hhas] at hrun
    exact hrun
  have x4 : ∀ k, (w.drewN k).cell? ⟨v, 4, none⟩ = some (.map (some f)) := fun k => by have := cellOf h 4; simpa [volCells] using this
  have cl : ∀ k, Calls Tryz.prog 45 #[.slice (some ⟨g0, 0, none⟩) 512 cp0] (w.drewN k) fun e w' => ∃ g cap, e = .returned (.slice (some ⟨g, 0, none⟩) 512 cap) ∧ w.heap.size ≤ g ∧ 512 ≤ cap ∧ Bytes w' (some ⟨g, 0, none⟩) b ∧ Below w.heap.size w w' := by
    intro k
    have := clone_bytes g0 0 b cp0 (w.drewN k) (below_bytes (below_drewN (Below.refl _ w) k) hb0) (by omega) (by omega)
    rw [hbl] at this
    refine this.mono ?_
    rintro e w' ⟨g, cap, rfl, h1, h2, h3, h4, _⟩
    exact ⟨g, cap, rfl, h1, h2, h3, (below_drewN (Below.refl _ w) k).trans h4⟩
  clear h hd hF hat hb0 hhas hfr
  go_enter Tryz.func21, Tryz.ntmps21
  go_wp2_with (first
    | (go_at_call 44; refine Calls_on c47 ?_)
    | (go_at_call 25; refine c13.mono ?_; rintro e w1 ⟨rfl, k1, rfl⟩; clear c13; have lk' := lk k1; have x4' := x4 k1; have cl' := cl k1; clear lk x4 cl)
    | (go_at_call 45; refine cl'.mono ?_; rintro e w2 ⟨g2, cap2, rfl, hg2, hc2, hb2, hB2⟩; clear cl'))
  go_ret2
  exact ⟨g2, cap2, rfl, hc2, hbl, hb2, hB2, hg2⟩

end Go.Proofs.YtcchhalmlkdepaaGreatDoor
