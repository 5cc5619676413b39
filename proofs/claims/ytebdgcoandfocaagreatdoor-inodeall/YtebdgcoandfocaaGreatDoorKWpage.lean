/-
  readPage of package wal.
-/
import Derived.Test.YtebdgcoandfocaaGreatDoorKWrhead

namespace Go.Proofs.YtebdgcoandfocaaGreatDoor
open Go.RowKit Go.Maps Go.Sort Go.Shelf

theorem below_drewN {B : Nat} {w w' : World} (h : Below B w w') (k : Nat) : Below B w (w'.drewN k) := ⟨h.os, h.tape, h.output, h.size, h.block⟩

/-- No page of turn t, nor of a later one. -/
def OldB (t : Nat) (b : By) : Prop := ∀ C, opened b = some C → leN (C.take 8) < t
theorem oldB_zero (t : Nat) : OldB t zeroB := fun C hC => by rw [opened_zero] at hC; cases hC
theorem opened_nil : opened [] = none := by
  unfold opened unf
  simp

/-- unseal, taken apart. -/
theorem unseal_old (g : Nat) (b : By) (t : Nat) (w w1 : World) (hl : b.length = 512) (ht : Tab w) (hB1 : Below w.heap.size w w1) (h1 : w1.heap[g]? = some (.cells (b.map u8v).toArray 5 (0, 0))) (ho : OldB t b) :
    Calls Tryz.prog 76 #[.slice (some ⟨g, 0, none⟩) 512 512] w1 fun e w' => Below w.heap.size w w' ∧ ((∃ q l c, e = .returned (.tuple #[.slice q l c, .bool false])) ∨
      ∃ g' o' C, e = .returned (.tuple #[.slice (some ⟨g', o', none⟩) 504 504, .bool true]) ∧ leN (C.take 8) < t ∧ C.length = 504 ∧ Bytes w' (some ⟨g', o', none⟩) C) := by
  have := unseal_any (some ⟨g, 0, none⟩) b 512 w1 (below_tab hB1 ht.lt ht) (by omega) (by omega) (bytes_block h1)
  rw [hl] at this
  refine this.mono ?_
  rintro e w' ⟨hB, ⟨q, l, c, rfl, hx⟩ | ⟨q, c, rfl, hx, hl', hb⟩⟩
  · exact ⟨hB1.trans (hB.mono hB1.size), .inl ⟨q, l, c, rfl⟩⟩
  · obtain ⟨g', o', rfl, hy⟩ := hb (by omega)
    exact ⟨hB1.trans (hB.mono hB1.size), .inr ⟨g', o', c, rfl, ho c hx, hl', fun _ => ⟨g', o', rfl, hy⟩⟩⟩

set_option maxRecDepth 8000 in
set_option maxHeartbeats 1000000 in
theorem readPage_none (at_ : Nat) (v : Nat) (commits turn next : Nat) (f : Option Nat) (count : Int) (d : DS) (w : World) (h : IsVol w v (dp d.a) commits turn next f count) (hd : Dev w d) (ht : Tab w)
    (htu : turn < 4611686018427387904) (ho : at_ < d.n → OldB turn (d.B at_)) :
    Calls Tryz.prog 99 #[dp v, .int .i64 at_] w fun e w' => e = .returned (.tuple #[.slice none 0 0, .bool false]) ∧ Below w.heap.size w w' := by
  have c0 := cellOf h 0
  simp [volCells] at c0
  by_cases hin : at_ < d.n
  · have c15 := dev_read d at_ w hd hin
    have c37 := fun (w1 : World) (h1 : w1.heap[w.heap.size]? = some (.cells ((d.B at_).map u8v).toArray 5 (0, 0))) (hB1 : Below w.heap.size w w1) => unseal_old w.heap.size (d.B at_) turn w w1 (hd.len at_ hin) ht hB1 h1 (ho hin)
    have HV : Hid (IsVol w v (dp d.a) commits turn next f count) := h
    clear h hd ht ho
    go_enter Tryz.func99, Tryz.ntmps99
    go_wp2_with (first
      | (go_at_call 75; refine c15.mono ?_; rintro e w1 ⟨rfl, hg1, hB1⟩; clear c15; have c37' := c37 w1 hg1 hB1; clear c37)
      | (go_at_call 76; refine Stop.out ?_))
    refine Stop.mk ?_
    refine c37'.mono ?_
    clear c37'
    rintro e w2 ⟨hB2, ⟨q, l, cc, rfl⟩ | ⟨g', o', C, rfl, hC, hCl, hbC⟩⟩
    · go_wp2_with fail
      go_quiet (fail)
      go_wp2
      go_ret2
      exact ⟨rfl, below_drewN hB2 _⟩
    · have m2 := cellOf (HV.out.below hB2) 2
      simp [volCells] at m2
      have c38 : ∀ k, Calls Tryz.prog 77 #[.slice (some ⟨g', o', none⟩) 504 504] (w2.drewN k) fun e w' => e = .returned (.int .i64 (leN (C.take 8) : Nat)) ∧ w' = w2.drewN k := by
        intro k
        have := number_any (some ⟨g', o', none⟩) C 504 (w2.drewN k) (by omega) (by omega) hbC (by omega)
        rw [hCl] at this
        exact this
      obtain ⟨x, hx⟩ : ∃ x, x = leN (C.take 8) := ⟨_, rfl⟩
      rw [← hx] at c38 hC
      have hne : ((x : Int) != (turn : Int)) = true := by simp; omega
      clear hbC hx
      go_wp2_with fail
      go_quiet ((go_at_call 77; exact Calls.quiet_of_same (c38 _)))
      go_wp2
      go_ret2
      exact ⟨rfl, below_drewN hB2 _⟩
  · have c15 := dev_read_no d at_ w hd (by omega)
    have c37 : Calls Tryz.prog 76 #[.slice none 0 0] w fun e w' => ∃ q l c, e = .returned (.tuple #[.slice q l c, .bool false]) ∧ Below w.heap.size w w' := by
      refine (unseal_any none [] 0 w ht (by simp) (by simp) (bytes_nil _ _)).mono ?_
      rintro e w' ⟨hB, ⟨q, l, c, rfl, hx⟩ | ⟨q, c, rfl, hx, _⟩⟩
      · exact ⟨q, l, c, rfl, hB⟩
      · rw [opened_nil] at hx; cases hx
    clear h hd ht ho
    go_enter Tryz.func99, Tryz.ntmps99
    go_wp2_with (first
      | (go_at_call 75; refine Calls_on c15 ?_)
      | (go_at_call 76; refine c37.mono ?_; clear c37; rintro e w2 ⟨q, l, cc, rfl, hB2⟩))
    go_quiet (fail)
    go_wp2
    go_ret2
    exact ⟨rfl, below_drewN hB2 _⟩

set_option maxRecDepth 8000 in
set_option maxHeartbeats 1000000 in
theorem readPage_some (at_ : Nat) (bd : By) (v : Nat) (commits turn next : Nat) (f : Option Nat) (count : Int) (d : DS) (w : World) (h : IsVol w v (dp d.a) commits turn next f count) (hd : Dev w d) (ht : Tab w)
    (hat : at_ < d.n) (htu : turn < 4611686018427387904) (ho : opened (d.B at_) = some (le8 turn ++ bd)) (hbd : bd.length = 496) :
    Calls Tryz.prog 99 #[dp v, .int .i64 at_] w fun e w' => ∃ g o, e = .returned (.tuple #[.slice (some ⟨g, o, none⟩) 496 496, .bool true]) ∧ Bytes w' (some ⟨g, o, none⟩) bd ∧ Below w.heap.size w w' := by
  have c0 := cellOf h 0
  simp [volCells] at c0
  have c15 := dev_read d at_ w hd hat
  have hl0 := hd.len at_ hat
  have hCl : (le8 turn ++ bd).length = 504 := by rw [List.length_append, le8_length, hbd]
  have c37 : ∀ w1 : World, w1.heap[w.heap.size]? = some (.cells ((d.B at_).map u8v).toArray 5 (0, 0)) → Below w.heap.size w w1 → Calls Tryz.prog 76 #[.slice (some ⟨w.heap.size, 0, none⟩) 512 512] w1 fun e w' => ∃ g o, e = .returned (.tuple #[.slice (some ⟨g, o, none⟩) 504 504, .bool true]) ∧ Bytes w' (some ⟨g, o, none⟩) (le8 turn ++ bd) ∧ Below w.heap.size w w' := by
    intro w1 h1 hB1
    have := unseal_any (some ⟨w.heap.size, 0, none⟩) (d.B at_) 512 w1 (below_tab hB1 ht.lt ht) (by omega) (by omega) (bytes_block h1)
    rw [hl0] at this
    refine this.mono ?_
    rintro e w' ⟨hB, ⟨q, l, c, rfl, hx⟩ | ⟨q, c, rfl, hx, _, hb⟩⟩
    · rw [ho] at hx; cases hx
    · rw [ho] at hx; cases hx
      obtain ⟨g, o, rfl, hy⟩ := hb (by omega)
      exact ⟨g, o, rfl, fun _ => ⟨g, o, rfl, hy⟩, hB1.trans (hB.mono hB1.size)⟩
  have HV : Hid (IsVol w v (dp d.a) commits turn next f count) := h
  clear h hd ht ho hl0
  go_enter Tryz.func99, Tryz.ntmps99
  go_wp2_with (first
    | (go_at_call 75; refine c15.mono ?_; rintro e w1 ⟨rfl, hg1, hB1⟩; clear c15; have c37' := c37 w1 hg1 hB1; clear c37)
    | (go_at_call 76; refine c37'.mono ?_; clear c37'; rintro e w2 ⟨g, o, rfl, hbC, hB2⟩))
  have m2 := cellOf (HV.out.below hB2) 2
  simp [volCells] at m2
  have c38 : ∀ k, Calls Tryz.prog 77 #[.slice (some ⟨g, o, none⟩) 504 504] (w2.drewN k) fun e w' => e = .returned (.int .i64 (turn : Nat)) ∧ w' = w2.drewN k := by
    intro k
    have e8 : leN ((le8 turn ++ bd).take 8) = turn := by rw [List.take_left' (le8_length turn), leN_le8 turn (by omega)]
    have := number_any (some ⟨g, o, none⟩) (le8 turn ++ bd) 504 (w2.drewN k) (by omega) (by omega) hbC (by omega)
    rw [hCl, e8] at this
    exact this
  have hne : ((turn : Int) != (turn : Int)) = false := by simp
  have HC : Hid (Bytes w2 (some ⟨g, o, none⟩) (le8 turn ++ bd)) := hbC
  clear hbC
  go_quiet ((go_at_call 77; exact Calls.quiet_of_same (c38 _)))
  go_wp2
  go_ret2
  refine ⟨g, o + 8, rfl, ?_, below_drewN hB2 _⟩
  · have := bytes_drop HC.out 8 496
    rw [List.drop_left' (le8_length turn), List.take_of_length_le (by omega)] at this
    exact this

end Go.Proofs.YtebdgcoandfocaaGreatDoor
