/-
  What the proof leans on, part 5.
-/
import Derived.Test.YtebdgcoandfocaaGreatDoorQ03
import Derived.RangeFuncNested
import Derived.RangeFuncBound
import Derived.RangeFuncCalls
import Derived.RangeFuncLeaves
import Derived.Shelf.Abstract
import Derived.Shelf.RegionOpen
import Derived.OwnWalkIn
import Derived.TacticsInMore
import Derived.LoopNIn
import Derived.LoopIn
import Derived.Test.YtebdgcoandfocaaGreatDoorQ00
import Derived.RangeFuncBox

/-
  readHead of package wal.
-/
namespace Go.Proofs.YtebdgcoandfocaaGreatDoor
open Go.RowKit Go.Maps Go.Sort Go.Shelf

theorem pad_head (t c n : Nat) : pad (headC t c n) = le8 t ++ (le8 c ++ (le8 n ++ mark ++ List.replicate 454 0#8)) := by
  unfold pad
  rw [show 504 - (headC t c n).length = 454 by rw [headC_length]]
  simp only [headC, List.append_assoc]

set_option maxRecDepth 8000 in
set_option maxHeartbeats 2000000 in
theorem readHead_ok (v : Nat) (commits turn next : Nat) (f : Option Nat) (count : Int) (t c : Nat) (d : DS) (w : World) (h : IsVol w v (dp d.a) commits turn next f count) (hd : Dev w d) (ht : Tab w)
    (hb0 : d.B 0 = headB t c d.n) (hc : c < 4611686018427387904) (htu : t < 4611686018427387904) :
    Calls Tryz.prog 56 #[dp v] w fun e w' => e = .returned (.int .i64 0) ∧ IsVol w' v (dp d.a) c t next f count ∧ But (fun k => k = v) w w' := by
  obtain ⟨C, hC⟩ : ∃ C, C = pad (headC t c d.n) := ⟨_, rfl⟩
  have hCl : C.length = 504 := by rw [hC]; exact pad_length _ (by rw [headC_length]; omega)
  have ho : opened (d.B 0) = some C := by rw [hb0, headB, opened_sealed _ (by rw [headC_length]; omega), hC]
  have n1 : leN (C.take 8) = t := by rw [hC, pad_head, List.take_left' (le8_length t), leN_le8 t (by omega)]
  have n2 : leN ((C.drop 8).take 8) = c := by rw [hC, pad_head, List.drop_left' (le8_length t), List.take_left' (le8_length c), leN_le8 c (by omega)]
  have c0 := cellOf h 0
  simp [volCells] at c0
  have c15 := dev_read d 0 w hd hd.hn1
  have hl0 := hd.len 0 hd.hn1
  have c37 : ∀ w1 : World, w1.heap[w.heap.size]? = some (.cells ((d.B 0).map u8v).toArray 5 (0, 0)) → Below w.heap.size w w1 → Calls Tryz.prog 76 #[.slice (some ⟨w.heap.size, 0, none⟩) 512 512] w1 fun e w' => ∃ g o, e = .returned (.tuple #[.slice (some ⟨g, o, none⟩) 504 504, .bool true]) ∧ Bytes w' (some ⟨g, o, none⟩) C ∧ Below w1.heap.size w1 w' := by
    intro w1 h1 hB1
    have := unseal_any (some ⟨w.heap.size, 0, none⟩) (d.B 0) 512 w1 (below_tab hB1 ht.lt ht) (by omega) (by omega) (bytes_block h1)
    rw [hl0] at this
    refine this.mono ?_
    rintro e w' ⟨hB, ⟨q, l, c, rfl, hx⟩ | ⟨q, c, rfl, hx, _, hb⟩⟩
    · rw [ho] at hx; cases hx
    · rw [ho] at hx; cases hx
      obtain ⟨g, o, rfl, hy⟩ := hb (by omega)
      exact ⟨g, o, rfl, fun _ => ⟨g, o, rfl, hy⟩, hB⟩
  have HV : Hid (IsVol w v (dp d.a) commits turn next f count) := h
  have HD : Hid (Dev w d) := hd
  have HT : Hid (Tab w) := ht
  clear h hd ht ho hl0
  go_enter Tryz.func56, Tryz.ntmps56
  go_wp2_with (first
    | (go_at_call 75; refine (show Calls Tryz.prog 75 #[dp d.a, .int .i64 0] _ _ from c15).mono ?_; rintro e w1 ⟨rfl, hg1, hB1⟩; clear c15; have c37' := c37 w1 hg1 hB1; clear c37)
    | (go_at_call 76; refine c37'.mono ?_; rintro e w2 ⟨g, o, rfl, hbC, hB2⟩; clear c37'))
  have hB02 : Below w.heap.size w w2 := hB1.trans (hB2.mono hB1.size)
  have m1 := cellOf (HV.out.below hB02) 1
  have m2 := cellOf (HV.out.below hB02) 2
  have f1 := frozenOf (HV.out.below hB02) 1
  have f2 := frozenOf (HV.out.below hB02) 2
  simp [volCells] at m1 m2
  have c38a : ∀ W : World, Below w2.heap.size w2 W → Calls Tryz.prog 77 #[.slice (some ⟨g, o, none⟩) 504 504] W fun e w' => e = .returned (.int .i64 (t : Nat)) ∧ w' = W := by
    intro W hW
    have := number_any (some ⟨g, o, none⟩) C 504 W (by omega) (by omega) (below_bytes hW hbC) (by omega)
    rw [hCl, n1] at this
    exact this
  have c38b : ∀ W : World, Below w2.heap.size w2 W → Calls Tryz.prog 77 #[.slice (some ⟨g, o + 8, none⟩) 496 496] W fun e w' => e = .returned (.int .i64 (c : Nat)) ∧ w' = W := by
    intro W hW
    have hx := bytes_drop (below_bytes hW hbC) 8 496
    have hl : ((C.drop 8).take 496).length = 496 := by simp [hCl]
    have e8 : ((C.drop 8).take 496).take 8 = (C.drop 8).take 8 := by rw [List.take_take]; rfl
    have := number_any (some ⟨g, o + 8, none⟩) _ 496 W (by omega) (by omega) hx (by rw [e8, n2]; exact hc)
    rw [hl, e8, n2] at this
    exact this
  have hR := (Below.refl w2.heap.size w2).drew
  have t1 : True := trivial
  have t2 : True := trivial
  have HG1 : Hid (w1.heap[w.heap.size]? = some (.cells ((d.B 0).map u8v).toArray 5 (0, 0))) := hg1
  clear hbC hg1
  go_region_with (first
    | (have tk := t1; go_at_call 77; refine Calls_on (c38a _ hR) ?_; clear tk t1 c38a)
    | (have tk := t2; go_at_call 77; refine Calls_on (c38b _ hR) ?_; clear tk t2 c38b))
  all_goals
    obtain ⟨w3, hw3⟩ : ∃ w3, w3 = ((w2.setCell ⟨v, 2, none⟩ (.int .i64 (t : Nat))).setCell ⟨v, 1, none⟩ (.int .i64 (c : Nat))).drew := ⟨_, rfl⟩
    rw [← hw3]
    have hv3 : IsVol w3 v (dp d.a) c t next f count := by rw [hw3]; exact ((HV.out.below hB02).setT t).setC c
    have hb3 : But (fun k => k = v) w2 w3 := by rw [hw3]; exact (((But.refl (fun k => k = v) w2).setCell ⟨v, 2, none⟩ rfl _).setCell ⟨v, 1, none⟩ rfl _).drew
    have hb03 : But (fun k => k = v) w w3 := (But.of_below hB02).trans hb3
    clear hw3
    have hd3 : Dev w3 d := HD.out.but hb03 (fun k hk e => by subst e; exact HV.out.mine HD.out hk) (fun g l hg e => by subst e; have := HV.out; rw [IsVol, hg] at this; simp at this)
    have ht3 : Tab w3 := hb03.tab HT.out (fun e => by
      have h0 := HT.out 0 0 rfl
      have hx := HV.out
      rw [← e] at hx
      have := cellOf hx 0
      rw [h0] at this
      simp [volCells] at this)
    have c41 := head_any v c t next f count d w3 hv3 hd3 ht3 hc htu
    have hg3 : w3.heap[w.heap.size]? = some (.cells ((d.B 0).map u8v).toArray 5 (0, 0)) := by
      have e1 := below_block HG1.out hB2
      refine (hb3.block _ (Array.getElem?_eq_some_iff.1 e1).1 ?_).trans e1
      have := HV.out.lt
      omega
    have c40 : ∀ (w4 : World) (g4 : Nat), w4.heap[g4]? = some (.cells ((headB t c d.n).map u8v).toArray 5 (0, 0)) → Below w3.heap.size w3 w4 → Calls Tryz.prog 79 #[.slice (some ⟨w.heap.size, 0, none⟩) 512 512, .slice (some ⟨g4, 0, none⟩) 512 512] w4 fun e w' => e = .returned (.bool true) ∧ w' = w4 := by
      intro w4 g4 h4 hB4
      have := equal_any (some ⟨w.heap.size, 0, none⟩) (some ⟨g4, 0, none⟩) (d.B 0) (headB t c d.n) 512 512 w4 (bytes_block (below_block hg3 hB4)) (bytes_block h4)
      rw [HD.out.len 0 HD.out.hn1, headB_length, decide_eq_true hb0] at this
      exact this
    have m1 := cellOf hv3 1
    have m2 := cellOf hv3 2
    simp [volCells] at m1 m2
    have i1 := isCount_yes t w3 htu
    have i2 := isCount_yes c w3 hc
    have HV3 : Hid (IsVol w3 v (dp d.a) c t next f count) := hv3
    have HB03 : Hid (But (fun k => k = v) w w3) := hb03
    have t3 : True := trivial
    have t4 : True := trivial
    clear hv3 hb03 hb3 hd3 ht3 hg3
    go_wp2_with (first
      | (have tk := t3; go_at_call 78; refine Calls_on i1 ?_; clear tk t3 i1)
      | (have tk := t4; go_at_call 78; refine Calls_on i2 ?_; clear tk t4 i2)
      | (go_at_call 74; refine c41.mono ?_; rintro e w4 ⟨g4, rfl, hg4', hg4, hB4⟩; clear c41; have c40' := c40 w4 g4 hg4 hB4; clear c40)
      | (go_at_call 79; refine Calls_on c40' ?_))
    go_ret
    exact ⟨rfl, HV3.out.below hB4, HB03.out.trans (But.of_below hB4)⟩

end Go.Proofs.YtebdgcoandfocaaGreatDoor

/-
  readPage of package wal.
-/
namespace Go.Proofs.YtebdgcoandfocaaGreatDoor
open Go.RowKit Go.Maps Go.Sort Go.Shelf

theorem below_drewN {B : Nat} {w w' : World} (h : Below B w w') (k : Nat) : Below B w (w'.drewN k) := ⟨h.os, h.tape, h.output, h.size, h.block⟩

/-- No page of turn t, nor of a later one. -/
def OldB (t : Nat) (b : By) : Prop := ∀ C, opened b = some C → leN (C.take 8) < t
theorem oldB_zero (t : Nat) : OldB t zeroB := fun C hC => by rw [opened_zero] at hC; cases hC
theorem opened_nil : opened [] = none := by
  unfold opened unf
  simp

/-- unseal, taken apart. -/
theorem unseal_old (g : Nat) (b : By) (t : Nat) (w w1 : World) (hl : b.length = 512) (ht : Tab w) (hB1 : Below w.heap.size w w1) (h1 : w1.heap[g]? = some (.cells (b.map u8v).toArray 5 (0, 0))) (ho : OldB t b) :
    Calls Tryz.prog 76 #[.slice (some ⟨g, 0, none⟩) 512 512] w1 fun e w' => Below w.heap.size w w' ∧ ((∃ q l c, e = .returned (.tuple #[.slice q l c, .bool false])) ∨
      ∃ g' o' C, e = .returned (.tuple #[.slice (some ⟨g', o', none⟩) 504 504, .bool true]) ∧ leN (C.take 8) < t ∧ C.length = 504 ∧ Bytes w' (some ⟨g', o', none⟩) C) := by
  have := unseal_any (some ⟨g, 0, none⟩) b 512 w1 (below_tab hB1 ht.lt ht) (by omega) (by omega) (bytes_block h1)
  rw [hl] at this
  refine this.mono ?_
  rintro e w' ⟨hB, ⟨q, l, c, rfl, hx⟩ | ⟨q, c, rfl, hx, hl', hb⟩⟩
  · exact ⟨hB1.trans (hB.mono hB1.size), .inl ⟨q, l, c, rfl⟩⟩
  · obtain ⟨g', o', rfl, hy⟩ := hb (by omega)
    exact ⟨hB1.trans (hB.mono hB1.size), .inr ⟨g', o', c, rfl, ho c hx, hl', fun _ => ⟨g', o', rfl, hy⟩⟩⟩

set_option maxRecDepth 8000 in
set_option maxHeartbeats 1000000 in
theorem readPage_none (at_ : Nat) (v : Nat) (commits turn next : Nat) (f : Option Nat) (count : Int) (d : DS) (w : World) (h : IsVol w v (dp d.a) commits turn next f count) (hd : Dev w d) (ht : Tab w)
    (htu : turn < 4611686018427387904) (ho : at_ < d.n → OldB turn (d.B at_)) :
    Calls Tryz.prog 99 #[dp v, .int .i64 at_] w fun e w' => e = .returned (.tuple #[.slice none 0 0, .bool false]) ∧ Below w.heap.size w w' := by
  have c0 := cellOf h 0
  simp [volCells] at c0
  by_cases hin : at_ < d.n
  · have c15 := dev_read d at_ w hd hin
    have c37 := fun (w1 : World) (h1 : w1.heap[w.heap.size]? = some (.cells ((d.B at_).map u8v).toArray 5 (0, 0))) (hB1 : Below w.heap.size w w1) => unseal_old w.heap.size (d.B at_) turn w w1 (hd.len at_ hin) ht hB1 h1 (ho hin)
    have HV : Hid (IsVol w v (dp d.a) commits turn next f count) := h
    clear h hd ht ho
    go_enter Tryz.func99, Tryz.ntmps99
    go_wp2_with (first
      | (go_at_call 75; refine c15.mono ?_; rintro e w1 ⟨rfl, hg1, hB1⟩; clear c15; have c37' := c37 w1 hg1 hB1; clear c37)
      | (go_at_call 76; refine Stop.out ?_))
    refine Stop.mk ?_
    refine c37'.mono ?_
    clear c37'
    rintro e w2 ⟨hB2, ⟨q, l, cc, rfl⟩ | ⟨g', o', C, rfl, hC, hCl, hbC⟩⟩
    · go_wp2_with fail
      go_quiet (fail)
      go_wp2
      go_ret2
      exact ⟨rfl, below_drewN hB2 _⟩
    · have m2 := cellOf (HV.out.below hB2) 2
      simp [volCells] at m2
      have c38 : ∀ k, Calls Tryz.prog 77 #[.slice (some ⟨g', o', none⟩) 504 504] (w2.drewN k) fun e w' => e = .returned (.int .i64 (leN (C.take 8) : Nat)) ∧ w' = w2.drewN k := by
        intro k
        have := number_any (some ⟨g', o', none⟩) C 504 (w2.drewN k) (by omega) (by omega) hbC (by omega)
        rw [hCl] at this
        exact this
      obtain ⟨x, hx⟩ : ∃ x, x = leN (C.take 8) := ⟨_, rfl⟩
      rw [← hx] at c38 hC
      have hne : ((x : Int) != (turn : Int)) = true := by simp; omega
      clear hbC hx
      go_wp2_with fail
      go_quiet ((go_at_call 77; exact Calls.quiet_of_same (c38 _)))
      go_wp2
      go_ret2
      exact ⟨rfl, below_drewN hB2 _⟩
  · have c15 := dev_read_no d at_ w hd (by omega)
    have c37 : Calls Tryz.prog 76 #[.slice none 0 0] w fun e w' => ∃ q l c, e = .returned (.tuple #[.slice q l c, .bool false]) ∧ Below w.heap.size w w' := by
      refine (unseal_any none [] 0 w ht (by simp) (by simp) (bytes_nil _ _)).mono ?_
      rintro e w' ⟨hB, ⟨q, l, c, rfl, hx⟩ | ⟨q, c, rfl, hx, _⟩⟩
      · exact ⟨q, l, c, rfl, hB⟩
      · rw [opened_nil] at hx; cases hx
    clear h hd ht ho
    go_enter Tryz.func99, Tryz.ntmps99
    go_wp2_with (first
      | (go_at_call 75; refine Calls_on c15 ?_)
      | (go_at_call 76; refine c37.mono ?_; clear c37; rintro e w2 ⟨q, l, cc, rfl, hB2⟩))
    go_quiet (fail)
    go_wp2
    go_ret2
    exact ⟨rfl, below_drewN hB2 _⟩

set_option maxRecDepth 8000 in
set_option maxHeartbeats 1000000 in
theorem readPage_some (at_ : Nat) (bd : By) (v : Nat) (commits turn next : Nat) (f : Option Nat) (count : Int) (d : DS) (w : World) (h : IsVol w v (dp d.a) commits turn next f count) (hd : Dev w d) (ht : Tab w)
    (hat : at_ < d.n) (htu : turn < 4611686018427387904) (ho : opened (d.B at_) = some (le8 turn ++ bd)) (hbd : bd.length = 496) :
    Calls Tryz.prog 99 #[dp v, .int .i64 at_] w fun e w' => ∃ g o, e = .returned (.tuple #[.slice (some ⟨g, o, none⟩) 496 496, .bool true]) ∧ Bytes w' (some ⟨g, o, none⟩) bd ∧ Below w.heap.size w w' := by
  have c0 := cellOf h 0
  simp [volCells] at c0
  have c15 := dev_read d at_ w hd hat
  have hl0 := hd.len at_ hat
  have hCl : (le8 turn ++ bd).length = 504 := by rw [List.length_append, le8_length, hbd]
  have c37 : ∀ w1 : World, w1.heap[w.heap.size]? = some (.cells ((d.B at_).map u8v).toArray 5 (0, 0)) → Below w.heap.size w w1 → Calls Tryz.prog 76 #[.slice (some ⟨w.heap.size, 0, none⟩) 512 512] w1 fun e w' => ∃ g o, e = .returned (.tuple #[.slice (some ⟨g, o, none⟩) 504 504, .bool true]) ∧ Bytes w' (some ⟨g, o, none⟩) (le8 turn ++ bd) ∧ Below w.heap.size w w' := by
    intro w1 h1 hB1
    have := unseal_any (some ⟨w.heap.size, 0, none⟩) (d.B at_) 512 w1 (below_tab hB1 ht.lt ht) (by omega) (by omega) (bytes_block h1)
    rw [hl0] at this
    refine this.mono ?_
    rintro e w' ⟨hB, ⟨q, l, c, rfl, hx⟩ | ⟨q, c, rfl, hx, _, hb⟩⟩
    · rw [ho] at hx; cases hx
    · rw [ho] at hx; cases hx
      obtain ⟨g, o, rfl, hy⟩ := hb (by omega)
      exact ⟨g, o, rfl, fun _ => ⟨g, o, rfl, hy⟩, hB1.trans (hB.mono hB1.size)⟩
  have HV : Hid (IsVol w v (dp d.a) commits turn next f count) := h
  clear h hd ht ho hl0
  go_enter Tryz.func99, Tryz.ntmps99
  go_wp2_with (first
    | (go_at_call 75; refine c15.mono ?_; rintro e w1 ⟨rfl, hg1, hB1⟩; clear c15; have c37' := c37 w1 hg1 hB1; clear c37)
    | (go_at_call 76; refine c37'.mono ?_; clear c37'; rintro e w2 ⟨g, o, rfl, hbC, hB2⟩))
  have m2 := cellOf (HV.out.below hB2) 2
  simp [volCells] at m2
  have c38 : ∀ k, Calls Tryz.prog 77 #[.slice (some ⟨g, o, none⟩) 504 504] (w2.drewN k) fun e w' => e = .returned (.int .i64 (turn : Nat)) ∧ w' = w2.drewN k := by
    intro k
    have e8 : leN ((le8 turn ++ bd).take 8) = turn := by rw [List.take_left' (le8_length turn), leN_le8 turn (by omega)]
    have := number_any (some ⟨g, o, none⟩) (le8 turn ++ bd) 504 (w2.drewN k) (by omega) (by omega) hbC (by omega)
    rw [hCl, e8] at this
    exact this
  have hne : ((turn : Int) != (turn : Int)) = false := by simp
  have HC : Hid (Bytes w2 (some ⟨g, o, none⟩) (le8 turn ++ bd)) := hbC
  clear hbC
  go_quiet ((go_at_call 77; exact Calls.quiet_of_same (c38 _)))
  go_wp2
  go_ret2
  refine ⟨g, o + 8, rfl, ?_, below_drewN hB2 _⟩
  · have := bytes_drop HC.out 8 496
    rw [List.drop_left' (le8_length turn), List.take_of_length_le (by omega)] at this
    exact this

end Go.Proofs.YtebdgcoandfocaaGreatDoor

/-
  slices.Chunk of package slices at bytes: what the iterator hands over, round by round.
-/
namespace Go.Proofs.YtebdgcoandfocaaGreatDoor
open Go.RowKit Go.Maps Go.Sort Go.Shelf

attribute [local go_sem] Oper.semAt_some

/-- Piece k of a row of L bytes, cut into pieces of c. -/
def pieceLen (L c k : Nat) : Nat := min c (L - k * c)
def pieceV (g o L c k : Nat) : Value := .slice (some ⟨g, o + k * c, none⟩) (pieceLen L c k) (pieceLen L c k)
def pieces (L c : Nat) : Nat := (L + c - 1) / c

/-- What a round must leave alone: the two boxes of the iterator. -/
def KpC (w : World) (bs bn : Nat) : World → World → Prop := fun W W' => (W.heap[bs]? = w.heap[bs]? ∧ W.heap[bn]? = w.heap[bn]?) → (W'.heap[bs]? = w.heap[bs]? ∧ W'.heap[bn]? = w.heap[bn]?)
theorem KpC.t {w : World} {bs bn : Nat} {A B C : World} (h : KpC w bs bn A B) (h' : KpC w bs bn B C) : KpC w bs bn A C := fun x => h' (h x)

set_option maxRecDepth 8000 in
set_option maxHeartbeats 400000 in
theorem chunk_any (p : Option Addr) (l cp c : Nat) (w : World) (hc : 1 ≤ c) (hc' : c < 1000000) :
    Calls Tryz.prog 114 #[.slice p l cp, .int .i64 c] w fun e w' => e = .returned (.func (.func 133) #[] #[.pointer (some ⟨w.heap.size, 0, none⟩), .pointer (some ⟨w.heap.size + 1, 0, none⟩)]) ∧
      w' = (w.alloc (.cells #[.slice p l cp] 30)).alloc (.cells #[.int .i64 c] 3) := by
  have hmf := mkf
  have hcI : ¬ (c : Int) < 1 := by omega
  go_enter Tryz.func114, Tryz.ntmps114
  go_wp2
  go_ret
  exact ⟨rfl, rfl⟩

set_option maxRecDepth 8000 in
set_option maxHeartbeats 2000000 in
theorem chunk1_in (l bs bn g o L cp c N : Nat) (hL : L < 1099511627776) (hcp : L ≤ cp) (hc : 1 ≤ c) (hc' : c < 1000000) (hN : N = pieces L c) (J Jx : List Nat → World → Prop) (w0 : World)
    (hbs : w0.heap[bs]? = some (.cells #[.slice (some ⟨g, o, none⟩) L cp] 30 (0, 0))) (hbn : w0.heap[bn]? = some (.cells #[.int .i64 c] 3 (0, 0)))
    (n : Nat) (hn : 1 ≤ n)
    (hY : ∀ k W, k < N → J (List.range k) W → YieldAt Fence.wide (n - 1) Tryz.prog l #[pieceV g o L c k] W fun e W' =>
      (e = .returned (.bool true) ∧ J (List.range (k + 1)) W' ∧ KpC w0 bs bn W W') ∨ (e = .returned (.bool false) ∧ Jx (List.range (k + 1)) W'))
    (W : World) (hJ : ∀ s W W' , J s W → W.grownBy W' none → J s W') (hW1 : W.heap[bs]? = w0.heap[bs]?) (hW2 : W.heap[bn]? = w0.heap[bn]?) (h0 : J [] W) :
    CallsIn Fence.wide n Tryz.prog 133 #[.func (.yield l) #[] #[], .pointer (some ⟨bs, 0, none⟩), .pointer (some ⟨bn, 0, none⟩)] W fun e W' => (∃ v, e = .returned v) ∧
      ((∃ xs, xs = List.range N ∧ J xs W') ∨ (∃ pre, (∃ k, k ≤ N ∧ pre = List.range k) ∧ Jx pre W')) := by
  refine callsIn_of_wp Tryz.func133 rfl trivial ?_ rfl
  simp only [Tryz.ntmps133, List.size_toArray, List.length_cons, List.length_nil, Nat.reduceAdd, Nat.reduceSub, Array.replicate_succ, Array.replicate_zero, List.push_toArray, List.append_toArray, List.nil_append, List.cons_append]
  gi_wp2
  gi_loopw [4] (fun i wr => ∃ k : Nat, k ≤ N ∧ i = .int .i64 (k * c : Nat) ∧ Hid (J (List.range k) wr) ∧ Hid (wr.heap[bs]? = w0.heap[bs]? ∧ wr.heap[bn]? = w0.heap[bn]?))
    (fun i _ => L + c - (intOf i).toNat)
  case atStart => exact ⟨0, Nat.zero_le _, by simp, h0, hW1, hW2⟩
  case round =>
    obtain ⟨k, hk, rfl, HJ, HK⟩ := hrel
    have b1 : wr.cell? ⟨bs, 0, none⟩ = some (.slice (some ⟨g, o, none⟩) L cp) := cellOf (HK.out.1.trans hbs) 0
    have b2 : wr.cell? ⟨bn, 0, none⟩ = some (.int .i64 c) := cellOf (HK.out.2.trans hbn) 0
    obtain ⟨ik, hik⟩ : ∃ ik, ik = k * c := ⟨_, rfl⟩
    rw [← hik]
    by_cases hlt : k < N
    · have hik' : ik < L := by
        rw [hN, pieces] at hlt
        have h1 : (k + 1) * c ≤ (L + c - 1) / c * c := Nat.mul_le_mul_right _ hlt
        have h2 := Nat.div_mul_le_self (L + c - 1) c
        rw [Nat.add_mul] at h1
        omega
      have hltI : (ik : Int) < L := by omega
      obtain ⟨ek, hek⟩ : ∃ ek, ek = pieceLen L c k := ⟨_, rfl⟩
      have hek' : ek = min c (L - ik) := by rw [hek, hik]; rfl
      have HMIN : Hid (min (c : Int) ((L - ik : Nat) : Int) = (ek : Int)) := by show _ = _; rw [hek']; omega
      have hek1 : ek ≤ L - ik := by omega
      have hek2 : 0 < ek := by omega
      have hek3 : ¬ ek = 0 := by omega
      have HIK : Hid (ik = k * c) := hik
      have HEK : Hid (ek = pieceLen L c k) := hek
      have HY : Hid (∀ k W, k < N → J (List.range k) W → YieldAt Fence.wide (n - 1) Tryz.prog l #[pieceV g o L c k] W fun e W' =>
        (e = .returned (.bool true) ∧ J (List.range (k + 1)) W' ∧ KpC w0 bs bn W W') ∨ (e = .returned (.bool false) ∧ Jx (List.range (k + 1)) W')) := hY
      clear hik hek hek' hY
      gi_wp2
      gi_region
      rw [HMIN.out]
      obtain ⟨w1, hw1⟩ : ∃ w1, w1 = wr.drew := ⟨_, rfl⟩
      have hJ1 : J (List.range k) w1 := by rw [hw1]; exact hJ _ _ _ HJ.out ⟨rfl, rfl, rfl, Nat.le_refl _, fun _ _ _ => rfl⟩
      have HK1 : Hid (w1.heap[bs]? = w0.heap[bs]? ∧ w1.heap[bn]? = w0.heap[bn]?) := by rw [hw1]; exact HK.out
      rw [← hw1]
      clear hw1 b1 b2
      have b1 : w1.cell? ⟨bs, 0, none⟩ = some (.slice (some ⟨g, o, none⟩) L cp) := cellOf (HK1.out.1.trans hbs) 0
      obtain ⟨fn, tmps, assign, body, hy, hR⟩ := HY.out k w1 hlt hJ1
      unfold pieceV at hy
      rw [← HEK.out, ← HIK.out] at hy
      clear hJ1
      gi_wp2
      refine hR.mono ?_
      rintro e W3 (⟨rfl, hJ3, hk3⟩ | ⟨rfl, hJx3⟩)
      · have HK3 : Hid (W3.heap[bs]? = w0.heap[bs]? ∧ W3.heap[bn]? = w0.heap[bn]?) := hk3 HK1.out
        have HJ3 : Hid (J (List.range (k + 1)) W3) := hJ3
        have b3 : W3.cell? ⟨bn, 0, none⟩ = some (.int .i64 c) := cellOf (HK3.out.2.trans hbn) 0
        clear hJ3 hk3 hy hR
        gi_wp2
        go_roundw
        case rel => exact ⟨k + 1, by omega, by rw [Nat.add_mul, ← HIK.out]; simp, HJ3.out, HK3⟩
        case measure => simp [intOf]; omega
      · have HJx3 : Hid (Jx (List.range (k + 1)) W3) := hJx3
        clear hJx3 hy hR
        gi_wp2
        refine bodyPost_ret (results_none rfl _ _ _) rfl ?_
        exact ⟨⟨_, rfl⟩, .inr ⟨_, ⟨k + 1, by omega, rfl⟩, HJx3.out⟩⟩
    · obtain rfl : k = N := by omega
      have hge : ¬ (ik : Int) < L := by
        have h1 : L ≤ pieces L c * c := by
          unfold pieces
          have h2 := Nat.div_add_mod (L + c - 1) c
          have h3 := Nat.mod_lt (L + c - 1) hc
          rw [Nat.mul_comm] at h2
          omega
        rw [← hN] at h1
        omega
      clear hik
      gi_wp2
      go_end0
      first | exact ⟨⟨_, rfl⟩, .inl ⟨_, rfl, HJ.out⟩⟩ | exact ⟨⟨_, rfl⟩, .inl (by rw [← hN]; exact HJ.out)⟩

/-- Chunk's iterator, in the form that a loop over it asks for. -/
theorem chunk_stops (bs bn g o L cp c N : Nat) (hN : N = pieces L c) (hL : L < 1099511627776) (hcp : L ≤ cp) (hc : 1 ≤ c) (hc' : c < 1000000) (w0 : World)
    (hbs : w0.heap[bs]? = some (.cells #[.slice (some ⟨g, o, none⟩) L cp] 30 (0, 0))) (hbn : w0.heap[bn]? = some (.cells #[.int .i64 c] 3 (0, 0))) (n : Nat) (hn : 1 ≤ n) :
    SeqStopsK Fence.wide n Tryz.prog 133 #[.pointer (some ⟨bs, 0, none⟩), .pointer (some ⟨bn, 0, none⟩)] (fun k : Fin N => #[pieceV g o L c k.1]) (KpC w0 bs bn) (fun xs => xs.map Fin.val = List.range N) (fun pre => ∃ k, k ≤ N ∧ pre.map Fin.val = List.range k) N w0 := by
  intro l J Jx W hW hJ _ hY h0
  refine (chunk1_in l bs bn g o L cp c N hL hcp hc hc' hN (fun l W => ∃ l' : List (Fin N), l'.map Fin.val = l ∧ J l' W) (fun l W => ∃ l' : List (Fin N), l'.map Fin.val = l ∧ Jx l' W) w0 hbs hbn n hn ?_ W ?_ (hW.block bs (Array.getElem?_eq_some_iff.1 hbs).1) (hW.block bn (Array.getElem?_eq_some_iff.1 hbn).1) ⟨[], rfl, h0⟩).mono ?_
  · rintro k W1 hk ⟨l', hl', hj⟩
    have hlen : l'.length = k := by have := congrArg List.length hl'; simpa using this
    have hap : (l' ++ [(⟨k, hk⟩ : Fin N)]).map Fin.val = List.range (k + 1) := by rw [List.map_append, hl', List.range_succ]; rfl
    refine (hY l' ⟨k, hk⟩ W1 hj (by omega)).mono ?_
    rintro e W' (⟨rfl, hJ', hK'⟩ | ⟨rfl, hJ'⟩)
    · exact .inl ⟨rfl, ⟨_, hap, hJ'⟩, hK'⟩
    · exact .inr ⟨rfl, _, hap, hJ'⟩
  · rintro s A B ⟨l', hl', hj⟩ hg
    exact ⟨l', hl', hJ l' A B none hj hg (fun r e => by cases e)⟩
  · rintro e W' ⟨he, ⟨xs, rfl, l', hl', hj⟩ | ⟨pre, ⟨k, hk, rfl⟩, l', hl', hj⟩⟩
    · exact ⟨he, .inl ⟨l', hl', hj⟩⟩
    · exact ⟨he, .inr ⟨l', ⟨k, hk, hl'⟩, hj⟩⟩

theorem KpC.b {w0 w : World} {bs bn : Nat} (h1 : bs < w.heap.size) (h2 : bn < w.heap.size) : ∀ (W : World) (l : Nat) (o o' : Obj), w.heap.size ≤ l → W.heap[l]? = some o → o.isCells = false → o.isWalk = false → KpC w0 bs bn W (W.putObj l o') := by
  intro W l o o' hl hx _ _ h
  have hg := grownBy_putObj' W l o'
  have hlt := (Array.getElem?_eq_some_iff.1 hx).1
  exact ⟨(hg.block bs (by omega) (by simp; omega)).trans h.1, (hg.block bn (by omega) (by simp; omega)).trans h.2⟩

end Go.Proofs.YtebdgcoandfocaaGreatDoor

/-
  putsOf of package wal: the puts of a record.
-/
namespace Go.Proofs.YtebdgcoandfocaaGreatDoor
open Go.RowKit Go.Maps Go.Sort Go.Shelf

attribute [local go_sem] Oper.semAt_some

/-- A put in memory. -/
structure PutM where
  block : Int
  at_ : Option Addr
  cap : Nat
  bytes : By
def putCells (x : PutM) : List Value := [.int .i64 x.block, .slice x.at_ x.bytes.length x.cap]
/-- Some puts, one behind the other, from q on. -/
def PutsAt (w : World) (q : Option Addr) (ps : List PutM) : Prop :=
  (0 < ps.length → ∃ b o, q = some ⟨b, o, none⟩ ∧ (∃ cs fr, w.heap[b]? = some (.cells cs 143 fr)) ∧ ∀ (j : Nat) (x : PutM), ps[j]? = some x → w.cell? ⟨b, o + j * 2, none⟩ = some (.int .i64 x.block) ∧ w.cell? ⟨b, o + j * 2 + 1, none⟩ = some (.slice x.at_ x.bytes.length x.cap)) ∧
  ∀ (j : Nat) (x : PutM), ps[j]? = some x → x.bytes.length ≤ x.cap ∧ Bytes w x.at_ x.bytes ∧ ∀ b o, x.at_ = some ⟨b, o, none⟩ → ∃ cs fr, w.heap[b]? = some (.cells cs 5 fr)

theorem PutsAt.but {w w' : World} {q : Option Addr} {ps : List PutM} (h : PutsAt w q ps) {S : Nat → Prop} (hb : But S w w') (hS : ∀ k cs t fr, w.heap[k]? = some (.cells cs t fr) → t = 5 ∨ t = 143 → ¬ S k) : PutsAt w' q ps := by
  have key : ∀ (k : Nat) cs t fr, w.heap[k]? = some (.cells cs t fr) → t = 5 ∨ t = 143 → w'.heap[k]? = w.heap[k]? := fun k cs t fr hk ht => hb.block k (Array.getElem?_eq_some_iff.1 hk).1 (hS k cs t fr hk ht)
  refine ⟨fun hp => ?_, fun j x hj => ⟨(h.2 j x hj).1, fun hl => ?_, fun b o e => ?_⟩⟩
  · obtain ⟨b, o, e, ⟨cs, fr, ht⟩, hx⟩ := h.1 hp
    have hk := key b cs _ fr ht (.inr rfl)
    exact ⟨b, o, e, ⟨cs, fr, hk.trans ht⟩, fun j x hj => ⟨(World.cell?_of_block (w := w) hk).trans (hx j x hj).1, (World.cell?_of_block (w := w) hk).trans (hx j x hj).2⟩⟩
  · obtain ⟨b, o, e, hx⟩ := (h.2 j x hj).2.1 hl
    obtain ⟨cs, fr, ht⟩ := (h.2 j x hj).2.2 b o e
    exact ⟨b, o, e, fun j x hj => (World.cell?_of_block (w := w) (key b cs _ fr ht (.inl rfl))).trans (hx j x hj)⟩
  · obtain ⟨cs, fr, ht⟩ := (h.2 j x hj).2.2 b o e
    exact ⟨cs, fr, (key b cs _ fr ht (.inl rfl)).trans ht⟩
theorem PutsAt.below {w w' : World} {q : Option Addr} {ps : List PutM} (h : PutsAt w q ps) (hb : Below w.heap.size w w') : PutsAt w' q ps :=
  h.but (S := fun _ => False) (But.of_below hb) (fun _ _ _ _ _ _ h => h)

theorem Tryz.info143 : (Tryz.prog.info? 143).map (fun i => (i.zero, i.size, i.bytes)) = some (some (.agg #[.int .i64 0, .slice none 0 0]), 2, 32) := by kernel_rfl

theorem CallsIn_on {F : Fence} {n : Nat} {P : Program} {f : Nat} {args : Array Value} {w : World} {v : Ending} {K : Ending → World → Prop}
    (h : CallsIn F n P f args w fun e w' => e = v ∧ w' = w) (hk : K v w) : CallsIn F n P f args w K :=
  h.mono (by rintro e w' ⟨rfl, rfl⟩; exact hk)

/-- Put k of a record's bytes. -/
def putK (g o : Nat) (r : By) (k : Nat) : PutM := ⟨(leN (((r.drop (8 + k * 520))).take 8) : Nat), some ⟨g, o + (8 + k * 520 + 8), none⟩, 512, (r.drop (8 + k * 520 + 8)).take 512⟩

theorem pieceLen_put (n k : Nat) (hk : k < n) : pieceLen (n * 520) 520 k = 520 := by
  unfold pieceLen
  have : (k + 1) * 520 ≤ n * 520 := Nat.mul_le_mul_right _ hk
  omega
theorem pieces_put (n : Nat) : pieces (n * 520) 520 = n := by unfold pieces; omega

theorem fl_length {n : Nat} (f : Nat → PutM) (pre : List (Fin n)) : ((pre.map fun k => putCells (f k.1)).flatten).length = pre.length * 2 := by
  induction pre with
  | nil => rfl
  | cons x pre ih =>
    simp only [List.map_cons, List.flatten_cons, List.length_append, ih, List.length_cons]
    show 2 + _ = _
    omega
theorem flat_get (f : Nat → PutM) (n j : Nat) (hj : j < n) (i : Nat) (hi : i < 2) : (((List.range n).map fun k => putCells (f k)).flatten)[j * 2 + i]? = (putCells (f j))[i]? := by
  have key : ∀ (l : List Nat) (j : Nat) (x : Nat), l[j]? = some x → ((l.map fun k => putCells (f k)).flatten)[j * 2 + i]? = (putCells (f x))[i]? := by
    intro l
    induction l with
    | nil => intro j x h; simp at h
    | cons y l ih =>
      intro j x h
      cases j with
      | zero =>
        simp at h
        subst h
        rw [List.map_cons, List.flatten_cons, Nat.zero_mul, Nat.zero_add, List.getElem?_append_left (by show i < 2; exact hi)]
      | succ j =>
        rw [List.map_cons, List.flatten_cons, List.getElem?_append_right (by show 2 ≤ _; omega)]
        have e : (j + 1) * 2 + i - (putCells (f y)).length = j * 2 + i := by show (j + 1) * 2 + i - 2 = _; omega
        rw [e]
        exact ih j x (by simpa using h)
  exact key _ j j (List.getElem?_range hj)

/-- The row of puts, as far as it is filled. -/
def FillAt (W : World) (gp n : Nat) (xs : List Value) : Prop := ∃ cur, W.heap[gp]? = some (.cells cur 143 (0, 0)) ∧ cur.size = n * 2 ∧ ∀ (j : Nat) x, xs[j]? = some x → cur[j]? = some x
theorem collect_own {β : Type} (n₀ B B' gp n : Nat) (t : TypeId) (k : β → Nat) (f : β → List Value) (w : World) (hw : n₀ ≤ w.heap.size) (hb : n₀ ≤ B') :
    OwnFrom B' (fun (pre : β) W => Boxed W B t (.slice (some ⟨gp, 0, none⟩) (k pre) n) ∧ FillAt W gp n (f pre) ∧ Below n₀ w W) := by
  rintro s X Y row ⟨hv, ⟨cur, hc, r⟩, hB⟩ hg hrow
  have key : ∀ (b : Nat) cs (t : TypeId) fr, X.heap[b]? = some (.cells cs t fr) → Y.heap[b]? = some (.cells cs t fr) := by
    intro b cs t fr hx
    refine (hg.block b (Array.getElem?_eq_some_iff.1 hx).1 (fun e => ?_)).trans hx
    obtain ⟨_, o, ho, hcell⟩ := hrow b e.symm
    rw [hx] at ho; cases ho; cases hcell
  exact ⟨key _ _ _ _ hv, ⟨cur, key _ _ _ _ hc, r⟩, hB.grown hg (Nat.le_trans hw hB.size) (fun j e => by have := (hrow j e).1; omega)⟩

theorem FillAt.made {W : World} {base g n : Nat} (h : W.ownsRow base 143 2 (.slice (some ⟨g, 0, none⟩) 0 n) 0 []) : FillAt W g n [] := by
  rcases h.2 with ⟨e, _⟩ | ⟨g', cap, cur, e, _, hb, _, _, hs, _⟩
  · cases e
  · cases e
    exact ⟨cur, hb, hs, fun j x hj => by simp at hj⟩
theorem FillAt.alloc {W : World} {g n : Nat} {xs : List Value} (h : FillAt W g n xs) (o : Obj) : FillAt (W.alloc o) g n xs := by
  obtain ⟨cur, hc, r⟩ := h
  exact ⟨cur, (Below.heap_alloc _ _ _ (Array.getElem?_eq_some_iff.1 hc).1).trans hc, r⟩

set_option maxRecDepth 8000 in
set_option maxHeartbeats 4000000 in
theorem putsOf_any (g o L cp n : Nat) (r : By) (w : World) (hr : r.length = L) (hb : Bytes w (some ⟨g, o, none⟩) r) (htg : ∃ cs fr, w.heap[g]? = some (.cells cs 5 fr)) (hLc : L ≤ cp) (hL : L < 1099511627776) (hn : leN (r.take 8) = n) (hn1 : 1 ≤ n) (hnL : 8 + n * 520 ≤ L)
    (hbl : ∀ k, k < n → leN (((r.drop (8 + k * 520))).take 8) < 4611686018427387904) :
    Calls Tryz.prog 101 #[.slice (some ⟨g, o, none⟩) L cp] w fun e w' => ∃ g' c', e = .returned (.slice (some ⟨g', 0, none⟩) n c') ∧ Below w.heap.size w w' ∧ n ≤ c' ∧ PutsAt w' (some ⟨g', 0, none⟩) ((List.range n).map (putK g o r)) := by
  obtain ⟨i0, hi, hz0, hz1, hz2⟩ := info_parts Tryz.info143
  have c38 := number_any (some ⟨g, o, none⟩) r cp w (by omega) (by omega) hb (by omega)
  rw [hr, hn] at c38
  have HB : Hid (Bytes w (some ⟨g, o, none⟩) r) := hb
  refine (callsIn_wide (n := 4)).1 ?_
  refine callsIn_of_wp_marks Tryz.func101 rfl trivial ?_ rfl
  simp only [Tryz.ntmps101, List.size_toArray, List.length_cons, List.length_nil, Nat.reduceAdd, Nat.reduceSub, Array.replicate_succ, Array.replicate_zero, List.push_toArray, List.append_toArray, List.nil_append, List.cons_append]
  gi_wp2_with (first
    | (refine ⟨trivial, ?_⟩; gi_at_call 77; refine CallsIn_on (callsIn_wide.2 c38) ?_)
    | (gi_at_call 77; refine CallsIn_on (callsIn_wide.2 c38) ?_)
    | (gi_at_make; refine wpListIn_make_own _ rfl _ _ 66 rfl w.heap.size 143 i0 (.agg #[.int .i64 0, .slice none 0 0]) 2 Tryz.underlying66 hi hz0 hz1 .i64 .i64 _ n rfl rfl rfl (by rw [hz2]; omega) (by unfold maxLen; omega) (Nat.le_refl _) ?_; intro w1 hrow1 hg1)
    | (refine ⟨trivial, ?_⟩; gi_at_call 114; refine Stop.out ?_)
    | (gi_at_call 114; refine Stop.out ?_))
  refine Stop.mk ?_
  obtain ⟨w2, hw2⟩ : ∃ w2, w2 = w1.alloc (.cells #[.slice (some ⟨w.heap.size, 0, none⟩) 0 n] 66) := ⟨_, rfl⟩
  have hB1 : Below w.heap.size w w1 := (Below.refl _ w).grown hg1 (Nat.le_refl _) (by simp)
  have bO2 : Boxed w2 w1.heap.size 66 (.slice (some ⟨w.heap.size, 0, none⟩) 0 n) := by rw [hw2]; exact Boxed.new _ _ _
  have hr2 : FillAt w2 w.heap.size n [] := by rw [hw2]; exact FillAt.alloc (FillAt.made hrow1) _
  have hB2 : Below w.heap.size w w2 := by rw [hw2]; exact hB1.alloc hB1.size _
  have hs2 : w2.heap.size = w1.heap.size + 1 := by rw [hw2]; simp
  rw [← hw2]
  clear hw2 hrow1
  refine (callsIn_wide.2 (chunk_any (some ⟨g, o + 8, none⟩) (n * 520) (cp - 8) 520 w2 (by omega) (by omega))).mono ?_
  rintro e w3' ⟨rfl, hw3⟩
  have bS : w3'.heap[w2.heap.size]? = some (.cells #[.slice (some ⟨g, o + 8, none⟩) (n * 520) (cp - 8)] 30 (0, 0)) := by rw [hw3]; exact (Below.heap_alloc _ _ _ (by simp)).trans (heap_alloc_new _ _)
  have bN : w3'.heap[w2.heap.size + 1]? = some (.cells #[.int .i64 520] 3 (0, 0)) := by
    rw [hw3]
    have := heap_alloc_new (w2.alloc (.cells #[.slice (some ⟨g, o + 8, none⟩) (n * 520) (cp - 8)] 30)) (.cells #[.int .i64 520] 3)
    rw [World.size_alloc] at this
    exact this
  have hs3 : w3'.heap.size = w2.heap.size + 2 := by rw [hw3]; simp
  have bO3 : Boxed w3' w1.heap.size 66 (.slice (some ⟨w.heap.size, 0, none⟩) 0 n) := by rw [hw3]; exact (bO2.alloc _).alloc _
  have hr3 : FillAt w3' w.heap.size n [] := by rw [hw3]; exact FillAt.alloc (FillAt.alloc hr2 _) _
  have hB3 : Below w.heap.size w w3' := by rw [hw3]; exact (hB2.alloc hB2.size _).alloc (by simp; have := hB2.size; omega) _
  clear hw3 bO2 hr2
  have hseq := chunk_stops w2.heap.size (w2.heap.size + 1) g (o + 8) (n * 520) (cp - 8) 520 n (pieces_put n).symm (by omega) (by omega) (by omega) (by omega) w3' bS bN 3 (by omega)
  obtain ⟨fl, hfl⟩ : ∃ fl : List (Fin n) → List Value, fl = fun pre => (pre.map fun k => putCells (putK g o r k.1)).flatten := ⟨_, rfl⟩
  have hfl0 : fl [] = [] := by rw [hfl]; rfl
  have hI := collect_own (β := List (Fin n)) w.heap.size w1.heap.size w3'.heap.size w.heap.size n 66 List.length fl w (Nat.le_refl _) hB3.size
  have HS2 : Hid (w2.heap.size = w1.heap.size + 1) := hs2
  have HS3 : Hid (w3'.heap.size = w2.heap.size + 2) := hs3
  have HFL : Hid (fl = fun pre => (pre.map fun k => putCells (putK g o r k.1)).flatten) := hfl
  clear hfl
  have hKb : ∀ (W : World) (l : Nat) (o o' : Obj), w3'.heap.size ≤ l → W.heap[l]? = some o → o.isCells = false → o.isWalk = false → KpC w3' w2.heap.size (w2.heap.size + 1) W (W.putObj l o') := KpC.b (by omega) (by omega)
  clear hs2 hs3
  gi_wp2_with fail
  refine wpIn_rangeFunc_ownG (α := Fin n) rfl (by omega) (gf := 133) (lb := #[.pointer (some ⟨w2.heap.size, 0, none⟩), .pointer (some ⟨w2.heap.size + 1, 0, none⟩)]) rfl trivial (enters_of Tryz.func133 (by kernel_rfl) rfl)
    hseq KpC.t hKb (Below.refl _ _) (fun _ => rfl) _ (fun _ _ _ => False) hI (fun _ _ _ _ _ hs _ _ => hs) ⟨bO3, by rw [hfl0]; exact hr3, hB3⟩
    (fun x => { tmps := #[.slice (some ⟨g, o, none⟩) L cp, undef, .slice none 0 0, .int .i64 n, .pointer (some ⟨w1.heap.size, 0, none⟩), pieceV g (o + 8) (n * 520) 520 x.1, .slice (some ⟨g, o, none⟩) L cp, .int .i64 n, .int .i64 n, .slice (some ⟨w.heap.size, 0, none⟩) 0 n, .slice (some ⟨g, o, none⟩) L cp, .int .i64 n, .int .i64 (n * 520), .int .i64 (8 + n * 520), .slice (some ⟨g, o + 8, none⟩) (n * 520) (cp - 8), .func (.func 133) #[] #[.pointer (some ⟨w2.heap.size, 0, none⟩), .pointer (some ⟨w2.heap.size + 1, 0, none⟩)], pieceV g (o + 8) (n * 520) 520 x.1, undef, undef, undef, undef, undef, undef, undef, undef, undef], defers := [] }) ?assign ?body ?done ?stop
  case assign =>
    intro l x W K hK
    gi_wp2
    exact hK
  case body =>
    rintro l pre ⟨k, hkn⟩ W ⟨hv, ⟨cur, hcur, hcs, hcx⟩, hB⟩ hlt
    have hc := hv.cell
    have hk1 : (k + 1) * 520 ≤ n * 520 := Nat.mul_le_mul_right _ hkn
    obtain ⟨ao, hao⟩ : ∃ ao, ao = o + 8 + k * 520 := ⟨_, rfl⟩
    have hpv : pieceV g (o + 8) (n * 520) 520 k = .slice (some ⟨g, ao, none⟩) 520 520 := by
      unfold pieceV; rw [pieceLen_put n k hkn, hao]
    have hbk : Bytes W (some ⟨g, ao, none⟩) ((r.drop (8 + k * 520)).take 520) := by
      have := bytes_drop (below_bytes hB HB.out) (8 + k * 520) 520
      rw [← Nat.add_assoc, ← hao] at this
      exact this
    have hlk : ((r.drop (8 + k * 520)).take 520).length = 520 := by rw [List.length_take, List.length_drop]; omega
    obtain ⟨bk, hbkd⟩ : ∃ bk, bk = leN ((r.drop (8 + k * 520)).take 8) := ⟨_, rfl⟩
    have c38' : ∀ W' : World, Below W.heap.size W W' → Calls Tryz.prog 77 #[.slice (some ⟨g, ao, none⟩) 520 520] W' fun e w' => e = .returned (.int .i64 (bk : Nat)) ∧ w' = W' := by
      intro W' hW'
      have e8 : ((r.drop (8 + k * 520)).take 520).take 8 = (r.drop (8 + k * 520)).take 8 := by rw [List.take_take]; rfl
      have := number_any (some ⟨g, ao, none⟩) _ 520 W' (by omega) (by omega) (below_bytes hW' hbk) (by rw [e8]; exact hbl k hkn)
      rw [hlk, e8, ← hbkd] at this
      exact this
    have HBKD : Hid (bk = leN ((r.drop (8 + k * 520)).take 8)) := hbkd
    have HAO : Hid (ao = o + 8 + k * 520) := hao
    have hmix : Tryz.prog.follows .mixedOrders = true := by kernel_rfl
    have hR := (Below.refl W.heap.size W).drew
    simp only [hpv]
    clear hbk hlk hbkd hao hpv
    obtain ⟨x0, hx0⟩ : ∃ x, cur[pre.length * 2]? = some x := ⟨_, Array.getElem?_eq_getElem (by omega)⟩
    obtain ⟨x1, hx1⟩ : ∃ x, cur[pre.length * 2 + 1]? = some x := ⟨_, Array.getElem?_eq_getElem (by omega)⟩
    have hgp : w.heap.size < W.heap.size := (Array.getElem?_eq_some_iff.1 hcur).1
    have hroom : pre.length + 1 ≤ n := by omega
    have hgb : w1.heap.size ≠ w.heap.size := by
      intro e
      have h1 : W.heap[w1.heap.size]? = _ := hv
      rw [e, hcur] at h1
      simp at h1
    obtain ⟨W4, hW4⟩ : ∃ W4, W4 = (W.alloc (.cells #[.int .i64 (bk : Nat), .slice (some ⟨g, ao + 8, none⟩) 512 512] 143)).drew := ⟨_, rfl⟩
    have hB4 : Below W.heap.size W W4 := by rw [hW4]; exact ((Below.refl _ W).alloc (Nat.le_refl _) _).drew
    have hn4 : W4.heap[W.heap.size]? = some (.cells #[.int .i64 (bk : Nat), .slice (some ⟨g, ao + 8, none⟩) 512 512] 143 (0, 0)) := by rw [hW4]; exact heap_alloc_new W _
    have hcur4 : W4.heap[w.heap.size]? = some (.cells cur 143 (0, 0)) := below_block hcur hB4
    have hv4 : Boxed W4 w1.heap.size 66 (.slice (some ⟨w.heap.size, 0, none⟩) pre.length n) := below_block hv hB4
    have y0 : W4.cell? ⟨W.heap.size, 0, none⟩ = some (.int .i64 (bk : Nat)) := cellOf hn4 0
    have y1 : W4.cell? ⟨W.heap.size, 1, none⟩ = some (.slice (some ⟨g, ao + 8, none⟩) 512 512) := cellOf hn4 1
    have z0 : W4.cell? ⟨w.heap.size, pre.length * 2, none⟩ = some x0 := (cellOf hcur4 _).trans hx0
    have f0 : W4.frozen? ⟨w.heap.size, pre.length * 2, none⟩ = false := frozenOf hcur4 _
    have hcur45 : (W4.setCell ⟨w.heap.size, pre.length * 2, none⟩ (.int .i64 (bk : Nat))).heap[w.heap.size]? = some (.cells (cur.setIfInBounds (pre.length * 2) (.int .i64 (bk : Nat))) 143 (0, 0)) := by simp [World.setCell, Array.getElem?_modify, hcur4]
    have z1 : (W4.setCell ⟨w.heap.size, pre.length * 2, none⟩ (.int .i64 (bk : Nat))).cell? ⟨w.heap.size, pre.length * 2 + 1, none⟩ = some x1 := by rw [cellOf hcur45, Array.getElem?_setIfInBounds, if_neg (by omega)]; exact hx1
    have f1 : (W4.setCell ⟨w.heap.size, pre.length * 2, none⟩ (.int .i64 (bk : Nat))).frozen? ⟨w.heap.size, pre.length * 2 + 1, none⟩ = false := frozenOf hcur45 _
    obtain ⟨W5, hW5⟩ : ∃ W5, W5 = (W4.setCell ⟨w.heap.size, pre.length * 2, none⟩ (.int .i64 (bk : Nat))).setCell ⟨w.heap.size, pre.length * 2 + 1, none⟩ (.slice (some ⟨g, ao + 8, none⟩) 512 512) := ⟨_, rfl⟩
    have hcur5 : W5.heap[w.heap.size]? = some (.cells ((cur.setIfInBounds (pre.length * 2) (.int .i64 (bk : Nat))).setIfInBounds (pre.length * 2 + 1) (.slice (some ⟨g, ao + 8, none⟩) 512 512)) 143 (0, 0)) := by rw [hW5]; simp [World.setCell, Array.getElem?_modify, hcur4]
    have hk5 : ∀ b, b ≠ w.heap.size → W5.heap[b]? = W4.heap[b]? := fun b h1 => by rw [hW5]; exact (Below.heap_setCell _ _ _ _ h1).trans (Below.heap_setCell _ _ _ _ h1)
    have hs5 : W5.heap.size = W4.heap.size := by rw [hW5]; simp [World.setCell]
    have hB5 : Below w.heap.size W4 W5 := by rw [hW5]; exact ((Below.refl _ W4).setCell (p := ⟨w.heap.size, pre.length * 2, none⟩) (Nat.le_refl _) _).setCell (p := ⟨w.heap.size, pre.length * 2 + 1, none⟩) (Nat.le_refl _) _
    have hv5 : Boxed W5 w1.heap.size 66 (.slice (some ⟨w.heap.size, 0, none⟩) pre.length n) := (hk5 _ hgb).trans hv4
    have hc4 := hv4.cell
    have hc5 := hv5.cell
    have hf5 := hv5.frozen
    obtain ⟨W6, hW6⟩ : ∃ W6, W6 = W5.setCell ⟨w1.heap.size, 0, none⟩ (.slice (some ⟨w.heap.size, 0, none⟩) (pre.length + 1) n) := ⟨_, rfl⟩
    have HCX : Hid (∀ (j : Nat) x, (fl pre)[j]? = some x → cur[j]? = some x) := hcx
    gi_wp2_with fail
    refine region_done hmix (by kernel_rfl) (fun b ac wd => ac = { tmps := #[.slice (some ⟨g, o, none⟩) L cp, undef, .slice none 0 0, .int .i64 n, .pointer (some ⟨w1.heap.size, 0, none⟩), .slice (some ⟨g, ao, none⟩) 520 520, .slice (some ⟨g, o, none⟩) L cp, .int .i64 n, .int .i64 n, .slice (some ⟨w.heap.size, 0, none⟩) 0 n, .slice (some ⟨g, o, none⟩) L cp, .int .i64 n, .int .i64 (n * 520), .int .i64 (8 + n * 520), .slice (some ⟨g, o + 8, none⟩) (n * 520) (cp - 8), .func (.func 133) #[] #[.pointer (some ⟨w2.heap.size, 0, none⟩), .pointer (some ⟨w2.heap.size + 1, 0, none⟩)], .slice (some ⟨g, ao, none⟩) 520 520, (if b 0 = true then .slice (some ⟨w.heap.size, 0, none⟩) pre.length n else undef), (if b 1 = true then .slice (some ⟨g, ao, none⟩) 520 520 else undef), (if b 2 = true then .int .i64 (bk : Nat) else undef), (if b 3 = true then .slice (some ⟨g, ao, none⟩) 520 520 else undef), (if b 4 = true then .slice (some ⟨g, ao + 8, none⟩) 512 512 else undef), (if b 5 = true then .agg #[.int .i64 (bk : Nat), .slice (some ⟨g, ao + 8, none⟩) 512 512] else undef), (if b 6 = true then .slice (some ⟨W.heap.size, 0, none⟩) 1 1 else undef), (if b 7 = true then .slice (some ⟨w.heap.size, 0, none⟩) (pre.length + 1) n else undef), undef], defers := [] } ∧ wd = (if b 8 = true then W6 else if b 7 = true then W5 else if b 6 = true then W4 else W.drew)) ?_ ?_ ?_
    · exact ⟨rfl, rfl⟩
    · rintro b ac wd i op ⟨rfl, rfl⟩ hcl hop hbi hd
      have h86 : b 8 = true → b 7 = true := fun h => hcl 8 _ rfl h ⟨7, .data⟩ (by simp) rfl
      have h70 : b 7 = true → b 0 = true := fun h => hcl 7 _ rfl h ⟨0, .data⟩ (by simp) rfl
      have h76 : b 7 = true → b 6 = true := fun h => hcl 7 _ rfl h ⟨6, .data⟩ (by simp) rfl
      have h65 : b 6 = true → b 5 = true := fun h => hcl 6 _ rfl h ⟨5, .data⟩ (by simp) rfl
      have h52 : b 5 = true → b 2 = true := fun h => hcl 5 _ rfl h ⟨2, .data⟩ (by simp) rfl
      match i with
      | 0 =>
        simp only [List.getElem?_toArray, List.getElem?_cons_zero, Option.some.injEq] at hop
        subst hop
        have h7 : b 7 = false := by cases h : b 7; rfl; rw [h70 h] at hbi; cases hbi
        have h8 : b 8 = false := by cases h : b 8; rfl; rw [h86 h] at h7; cases h7
        refine op_value rfl rfl (by intro c h; cases h) (v := .slice (some ⟨w.heap.size, 0, none⟩) pre.length n) (w' := if b 8 = true then W6 else if b 7 = true then W5 else if b 6 = true then W4 else W.drew) ?_ ?_
        · rw [h7, h8]
          cases b 6
          · simp [execOp, go_sem, hc]
          · simp [execOp, go_sem, hc4]
        · exact ⟨by simp [Act.put, did], by simp [did]⟩
      | 1 =>
        simp only [List.getElem?_toArray, List.getElem?_cons_zero, List.getElem?_cons_succ, Option.some.injEq] at hop
        subst hop
        refine op_value rfl rfl (by intro c h; cases h) (v := .slice (some ⟨g, ao, none⟩) 520 520) (w' := if b 8 = true then W6 else if b 7 = true then W5 else if b 6 = true then W4 else W.drew) ?_ ?_
        · simp [execOp, go_sem]
        · exact ⟨by simp [Act.put, did], by simp [did]⟩
      | 2 =>
        simp only [List.getElem?_toArray, List.getElem?_cons_zero, List.getElem?_cons_succ, Option.some.injEq] at hop
        subst hop
        have p1 : b 1 = true := hd ⟨1, .data⟩ (by simp) rfl
        have h5 : b 5 = false := by cases h : b 5; rfl; rw [h52 h] at hbi; cases hbi
        have h6 : b 6 = false := by cases h : b 6; rfl; rw [h65 h] at h5; cases h5
        have h7 : b 7 = false := by cases h : b 7; rfl; rw [h76 h] at h6; cases h6
        have h8 : b 8 = false := by cases h : b 8; rfl; rw [h86 h] at h7; cases h7
        refine op_enter rfl rfl (by intro c h; cases h) (f := 77) (args := #[.slice (some ⟨g, ao, none⟩) 520 520]) (w' := W.drew) ?_ ?_
        · rw [h6, h7, h8]
          simp [execOp, go_sem, p1]
        · refine (c38' _ hR).mono ?_
          rintro e w' ⟨rfl, rfl⟩
          exact ⟨_, rfl, by simp [Act.put, did], by simp [did, h6, h7, h8]⟩
      | 3 =>
        simp only [List.getElem?_toArray, List.getElem?_cons_zero, List.getElem?_cons_succ, Option.some.injEq] at hop
        subst hop
        refine op_value rfl rfl (by intro c h; cases h) (v := .slice (some ⟨g, ao, none⟩) 520 520) (w' := if b 8 = true then W6 else if b 7 = true then W5 else if b 6 = true then W4 else W.drew) ?_ ?_
        · simp [execOp, go_sem]
        · exact ⟨by simp [Act.put, did], by simp [did]⟩
      | 4 =>
        simp only [List.getElem?_toArray, List.getElem?_cons_zero, List.getElem?_cons_succ, Option.some.injEq] at hop
        subst hop
        have p3 : b 3 = true := hd ⟨3, .data⟩ (by simp) rfl
        refine op_value rfl rfl (by intro c h; cases h) (v := .slice (some ⟨g, ao + 8, none⟩) 512 512) (w' := if b 8 = true then W6 else if b 7 = true then W5 else if b 6 = true then W4 else W.drew) ?_ ?_
        · simp [execOp, go_sem, p3]
        · exact ⟨by simp [Act.put, did], by simp [did]⟩
      | 5 =>
        simp only [List.getElem?_toArray, List.getElem?_cons_zero, List.getElem?_cons_succ, Option.some.injEq] at hop
        subst hop
        have p2 : b 2 = true := hd ⟨2, .data⟩ (by simp) rfl
        have p4 : b 4 = true := hd ⟨4, .data⟩ (by simp) rfl
        refine op_value rfl rfl (by intro c h; cases h) (v := .agg #[.int .i64 (bk : Nat), .slice (some ⟨g, ao + 8, none⟩) 512 512]) (w' := if b 8 = true then W6 else if b 7 = true then W5 else if b 6 = true then W4 else W.drew) ?_ ?_
        · simp [execOp, go_sem, p2, p4]
        · exact ⟨by simp [Act.put, did], by simp [did]⟩
      | 6 =>
        simp only [List.getElem?_toArray, List.getElem?_cons_zero, List.getElem?_cons_succ, Option.some.injEq] at hop
        subst hop
        have p5 : b 5 = true := hd ⟨5, .data⟩ (by simp) rfl
        have h7 : b 7 = false := by cases h : b 7; rfl; rw [h76 h] at hbi; cases hbi
        have h8 : b 8 = false := by cases h : b 8; rfl; rw [h86 h] at h7; cases h7
        refine op_value rfl rfl (by intro c h; cases h) (v := .slice (some ⟨W.heap.size, 0, none⟩) 1 1) (w' := W4) ?_ ?_
        · rw [hbi, h7, h8]
          simp [execOp, go_sem, p5, hW4]
        · exact ⟨by simp [Act.put, did], by simp [did, h7, h8]⟩
      | 7 =>
        simp only [List.getElem?_toArray, List.getElem?_cons_zero, List.getElem?_cons_succ, Option.some.injEq] at hop
        subst hop
        have p0 : b 0 = true := hd ⟨0, .data⟩ (by simp) rfl
        have p6 : b 6 = true := hd ⟨6, .data⟩ (by simp) rfl
        have h8 : b 8 = false := by cases h : b 8; rfl; rw [h86 h] at hbi; cases hbi
        refine op_value rfl rfl (by intro c h; cases h) (v := .slice (some ⟨w.heap.size, 0, none⟩) (pre.length + 1) n) (w' := W5) ?_ ?_
        · rw [hbi, h8, p6]
          simp [execOp, go_sem, p0, hroom, y0, y1, storeCells, z0, f0, z1, f1, hW5]
        · exact ⟨by simp [Act.put, did], by simp [did, h8]⟩
      | 8 =>
        simp only [List.getElem?_toArray, List.getElem?_cons_zero, List.getElem?_cons_succ, Option.some.injEq] at hop
        subst hop
        have p7 : b 7 = true := hd ⟨7, .data⟩ (by simp) rfl
        refine op_skip rfl rfl (by intro c h; cases h) (w' := W6) ?_ ?_
        · rw [hbi, p7]
          simp [execOp, go_sem, hc5, hf5, hW6]
        · exact ⟨by simp [Act.put, did], by simp [did]⟩
      | k + 9 => simp at hop
    · rintro b ac wd ⟨rfl, rfl⟩ hall
      have h8 := hall 8 (by simp)
      rw [if_pos h8]
      have hv6 : Boxed W6 w1.heap.size 66 (.slice (some ⟨w.heap.size, 0, none⟩) (pre.length + 1) n) := by rw [hW6]; exact hv5.set _
      have hk6 : ∀ b, b ≠ w1.heap.size → W6.heap[b]? = W5.heap[b]? := fun b h1 => by rw [hW6]; exact Below.heap_setCell _ _ _ _ h1
      have hB6 : Below w.heap.size W W6 := by
        have h1 : Below w.heap.size W W5 := (hB4.mono hB.size).trans hB5
        rw [hW6]
        exact h1.setCell (p := ⟨w1.heap.size, 0, none⟩) (by have := hB1.size; exact this) _
      have hK6 : KeepsOthers W W6 := by
        rw [hW6, hW5, hW4]
        exact ((((KeepsOthers.alloc W _).trans (KeepsOthers.drew _)).trans (KeepsOthers.setCell _ _ _)).trans (KeepsOthers.setCell _ _ _)).trans (KeepsOthers.setCell _ _ _)
      refine ⟨hK6.from _, ?_, ?_, ?_, hB.trans hB6⟩
      · intro hK
        have hlt : ∀ b o, W.heap[b]? = some o → w1.heap.size < b → W6.heap[b]? = W.heap[b]? := fun b o hb h1 => by
          have h2 := hB1.size
          rw [hk6 b (by omega), hk5 b (by omega), below_block hb hB4, hb]
        have hs2 := HS2.out
        exact ⟨(hlt _ _ (hK.1.trans bS) (by omega)).trans hK.1, (hlt _ _ (hK.2.trans bN) (by omega)).trans hK.2⟩
      · simpa using hv6
      · refine ⟨_, (hk6 _ hgb.symm).trans hcur5, by simp [hcs], fun j x hj => ?_⟩
        have hfl : fl (pre ++ [⟨k, hkn⟩]) = fl pre ++ putCells (putK g o r k) := by rw [HFL.out]; simp
        have hpk : putCells (putK g o r k) = [.int .i64 (bk : Nat), .slice (some ⟨g, ao + 8, none⟩) 512 512] := by
          have h1 : ((r.drop (8 + k * 520 + 8)).take 512).length = 512 := by rw [List.length_take, List.length_drop]; omega
          unfold putCells putK
          simp only [h1]
          rw [← HBKD.out, show o + (8 + k * 520 + 8) = ao + 8 by rw [HAO.out]; omega]
        have hfn : (fl pre).length = pre.length * 2 := by rw [HFL.out]; exact fl_length _ _
        rw [hfl, hpk, List.getElem?_append] at hj
        split at hj
        · rename_i hjl
          rw [Array.getElem?_setIfInBounds, if_neg (by omega), Array.getElem?_setIfInBounds, if_neg (by omega)]
          exact HCX.out j x hj
        · rename_i hjl
          have hj2 : j = pre.length * 2 ∨ j = pre.length * 2 + 1 := by
            have := (List.getElem?_eq_some_iff.1 hj).1
            simp at this
            omega
          rcases hj2 with rfl | rfl
          · rw [hfn, Nat.sub_self] at hj
            rw [Array.getElem?_setIfInBounds, if_neg (by omega), Array.getElem?_setIfInBounds, if_pos rfl, if_pos (by omega)]
            simpa using hj
          · rw [hfn, show pre.length * 2 + 1 - pre.length * 2 = 1 by omega] at hj
            rw [Array.getElem?_setIfInBounds, if_pos rfl, if_pos (by simp; omega)]
            simpa using hj
  case done =>
    rintro D ys W hD hys ⟨hv, ⟨cur, hcur, hcs, hcx⟩, hB⟩ hK
    have hc := hv.cell
    have hlen : ys.length = n := by have := congrArg List.length hys; simpa using this
    rw [hlen] at hc
    have HF : Hid (W.heap[w.heap.size]? = some (.cells cur 143 (0, 0)) ∧ cur.size = n * 2 ∧ ∀ (j : Nat) x, (fl ys)[j]? = some x → cur[j]? = some x) := ⟨hcur, hcs, hcx⟩
    have HB9 : Hid (Below w.heap.size w W) := hB
    clear hcur hcs hcx hB
    gi_wp2
    refine ⟨by simp, .inl ⟨_, _, rfl, run_takeDeferred hK, ?_⟩⟩
    have hdD : w.heap.size ≤ D := by have := hB3.size; have := HS3.out; omega
    have hB' : Below w.heap.size w (W.putObj D (.deferred none)) := HB9.out.trans (belowK_b (w := w) (Nat.le_refl _) W D _ _ hdD hK rfl rfl)
    refine ⟨_, results_tmp rfl _ _ _, _, _, rfl, hB', Nat.le_refl _, ?_⟩
    obtain ⟨hcur, hcs, hcx⟩ := HF.out
    have hcur' : (W.putObj D (.deferred none)).heap[w.heap.size]? = some (.cells cur 143 (0, 0)) := by
      refine ((grownBy_putObj' W D (.deferred none)).block _ (Array.getElem?_eq_some_iff.1 hcur).1 (fun e => ?_)).trans hcur
      simp at e
      rw [e, hK] at hcur
      cases hcur
    have hflv : fl ys = ((List.range n).map fun k => putCells (putK g o r k)).flatten := by
      rw [HFL.out, ← hys]
      simp [Function.comp_def]
    refine ⟨fun _ => ⟨w.heap.size, 0, rfl, ⟨_, _, hcur'⟩, fun j x hj => ?_⟩, fun j x hj => ?_⟩
    · have hjn : j < n := by have := (List.getElem?_eq_some_iff.1 hj).1; simpa using this
      have hx : x = putK g o r j := by rw [List.getElem?_map, List.getElem?_range hjn] at hj; simpa using hj.symm
      have h0 : (fl ys)[j * 2]? = (putCells x)[0]? := by rw [hflv, hx]; exact flat_get _ _ _ (by omega) 0 (by omega)
      have h1 : (fl ys)[j * 2 + 1]? = (putCells x)[1]? := by rw [hflv, hx]; exact flat_get _ _ _ (by omega) 1 (by omega)
      rw [Nat.zero_add]
      exact ⟨(cellOf hcur' _).trans (hcx _ _ (h0.trans rfl)), (cellOf hcur' _).trans (hcx _ _ (h1.trans rfl))⟩
    · have hjn : j < n := by have := (List.getElem?_eq_some_iff.1 hj).1; simpa using this
      have hx : x = putK g o r j := by rw [List.getElem?_map, List.getElem?_range hjn] at hj; simpa using hj.symm
      subst hx
      have hk1 : (j + 1) * 520 ≤ n * 520 := Nat.mul_le_mul_right _ hjn
      have hl : ((r.drop (8 + j * 520 + 8)).take 512).length = 512 := by rw [List.length_take, List.length_drop]; omega
      refine ⟨by show ((r.drop (8 + j * 520 + 8)).take 512).length ≤ 512; omega, bytes_drop (below_bytes hB' HB.out) (8 + j * 520 + 8) 512, fun b o' e => ?_⟩
      cases e
      obtain ⟨cs, fr, ht⟩ := htg
      exact ⟨cs, fr, below_block ht hB'⟩
  case stop =>
    rintro D c pre W _ _ h _
    exact h.elim

end Go.Proofs.YtebdgcoandfocaaGreatDoor
