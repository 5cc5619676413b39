/-
  readHead of package wal.
-/
import Derived.Test.YtebdgcoandfocaaGreatDoorKWfmt

namespace Go.Proofs.YtebdgcoandfocaaGreatDoor
open Go.RowKit Go.Maps Go.Sort Go.Shelf

theorem pad_head (t c n : Nat) : pad (headC t c n) = le8 t ++ (le8 c ++ (le8 n ++ mark ++ List.replicate 454 0#8)) := by
  unfold pad
  rw [show 504 - (headC t c n).length = 454 by rw [headC_length]]
  simp only [headC, List.append_assoc]

set_option maxRecDepth 8000 in
set_option maxHeartbeats 2000000 in
theorem readHead_ok (v : Nat) (commits turn next : Nat) (f : Option Nat) (count : Int) (t c : Nat) (d : DS) (w : World) (h : IsVol w v (dp d.a) commits turn next f count) (hd : Dev w d) (ht : Tab w)
    (hb0 : d.B 0 = headB t c d.n) (hc : c < 4611686018427387904) (htu : t < 4611686018427387904) :
    Calls Tryz.prog 56 #[dp v] w fun e w' => e = .returned (.int .i64 0) ∧ IsVol w' v (dp d.a) c t next f count ∧ But (fun k => k = v) w w' := by
  obtain ⟨C, hC⟩ : ∃ C, C = pad (headC t c d.n) := ⟨_, rfl⟩
  have hCl : C.length = 504 := by rw [hC]; exact pad_length _ (by rw [headC_length]; omega)
  have ho : opened (d.B 0) = some C := by rw [hb0, headB, opened_sealed _ (by rw [headC_length]; omega), hC]
  have n1 : leN (C.take 8) = t := by rw [hC, pad_head, List.take_left' (le8_length t), leN_le8 t (by omega)]
  have n2 : leN ((C.drop 8).take 8) = c := by rw [hC, pad_head, List.drop_left' (le8_length t), List.take_left' (le8_length c), leN_le8 c (by omega)]
  have c0 := cellOf h 0
  simp [volCells] at c0
  have c15 := dev_read d 0 w hd hd.hn1
  have hl0 := hd.len 0 hd.hn1
  have c37 : ∀ w1 : World, w1.heap[w.heap.size]? = some (.cells ((d.B 0).map u8v).toArray 5 (0, 0)) → Below w.heap.size w w1 → Calls Tryz.prog 76 #[.slice (some ⟨w.heap.size, 0, none⟩) 512 512] w1 fun e w' => ∃ g o, e = .returned (.tuple #[.slice (some ⟨g, o, none⟩) 504 504, .bool true]) ∧ Bytes w' (some ⟨g, o, none⟩) C ∧ Below w1.heap.size w1 w' := by
    intro w1 h1 hB1
    have := unseal_any (some ⟨w.heap.size, 0, none⟩) (d.B 0) 512 w1 (below_tab hB1 ht.lt ht) (by omega) (by omega) (bytes_block h1)
    rw [hl0] at this
    refine this.mono ?_
    rintro e w' ⟨hB, ⟨q, l, c, rfl, hx⟩ | ⟨q, c, rfl, hx, _, hb⟩⟩
    · rw [ho] at hx; cases hx
    · rw [ho] at hx; cases hx
      obtain ⟨g, o, rfl, hy⟩ := hb (by omega)
      exact ⟨g, o, rfl, fun _ => ⟨g, o, rfl, hy⟩, hB⟩
  have HV : Hid (IsVol w v (dp d.a) commits turn next f count) := h
  have HD : Hid (Dev w d) := hd
  have HT : Hid (Tab w) := ht
  clear h hd ht ho hl0
  go_enter Tryz.func56, Tryz.ntmps56
  go_wp2_with (first
    | (go_at_call 75; refine (show Calls Tryz.prog 75 #[dp d.a, .int .i64 0] _ _ from c15).mono ?_; rintro e w1 ⟨rfl, hg1, hB1⟩; clear c15; have c37' := c37 w1 hg1 hB1; clear c37)
    | (go_at_call 76; refine c37'.mono ?_; rintro e w2 ⟨g, o, rfl, hbC, hB2⟩; clear c37'))
  have hB02 : Below w.heap.size w w2 := hB1.trans (hB2.mono hB1.size)
  have m1 := cellOf (HV.out.below hB02) 1
  have m2 := cellOf (HV.out.below hB02) 2
  have f1 := frozenOf (HV.out.below hB02) 1
  have f2 := frozenOf (HV.out.below hB02) 2
  simp [volCells] at m1 m2
  have c38a : ∀ W : World, Below w2.heap.size w2 W → Calls Tryz.prog 77 #[.slice (some ⟨g, o, none⟩) 504 504] W fun e w' => e = .returned (.int .i64 (t : Nat)) ∧ w' = W := by
    intro W hW
    have := number_any (some ⟨g, o, none⟩) C 504 W (by omega) (by omega) (below_bytes hW hbC) (by omega)
    rw [hCl, n1] at this
    exact this
  have c38b : ∀ W : World, Below w2.heap.size w2 W → Calls Tryz.prog 77 #[.slice (some ⟨g, o + 8, none⟩) 496 496] W fun e w' => e = .returned (.int .i64 (c : Nat)) ∧ w' = W := by
    intro W hW
    have hx := bytes_drop (below_bytes hW hbC) 8 496
    have hl : ((C.drop 8).take 496).length = 496 := by simp [hCl]
    have e8 : ((C.drop 8).take 496).take 8 = (C.drop 8).take 8 := by rw [List.take_take]; rfl
    have := number_any (some ⟨g, o + 8, none⟩) _ 496 W (by omega) (by omega) hx (by rw [e8, n2]; exact hc)
    rw [hl, e8, n2] at this
    exact this
  have hR := (Below.refl w2.heap.size w2).drew
  have t1 : True := trivial
  have t2 : True := trivial
  have HG1 : Hid (w1.heap[w.heap.size]? = some (.cells ((d.B 0).map u8v).toArray 5 (0, 0))) := hg1
  clear hbC hg1
  go_region_with (first
    | (have tk := t1; go_at_call 77; refine Calls_on (c38a _ hR) ?_; clear tk t1 c38a)
    | (have tk := t2; go_at_call 77; refine Calls_on (c38b _ hR) ?_; clear tk t2 c38b))
  all_goals
    obtain ⟨w3, hw3⟩ : ∃ w3, w3 = ((w2.setCell ⟨v, 2, none⟩ (.int .i64 (t : Nat))).setCell ⟨v, 1, none⟩ (.int .i64 (c : Nat))).drew := ⟨_, rfl⟩
    rw [← hw3]
    have hv3 : IsVol w3 v (dp d.a) c t next f count := by rw [hw3]; exact ((HV.out.below hB02).setT t).setC c
    have hb3 : But (fun k => k = v) w2 w3 := by rw [hw3]; exact (((But.refl (fun k => k = v) w2).setCell ⟨v, 2, none⟩ rfl _).setCell ⟨v, 1, none⟩ rfl _).drew
    have hb03 : But (fun k => k = v) w w3 := (But.of_below hB02).trans hb3
    clear hw3
    have hd3 : Dev w3 d := HD.out.but hb03 (fun k hk e => by subst e; exact HV.out.mine HD.out hk) (fun g l hg e => by subst e; have := HV.out; rw [IsVol, hg] at this; simp at this)
    have ht3 : Tab w3 := hb03.tab HT.out (fun e => by
      have h0 := HT.out 0 0 rfl
      have hx := HV.out
      rw [← e] at hx
      have := cellOf hx 0
      rw [h0] at this
      simp [volCells] at this)
    have c41 := head_any v c t next f count d w3 hv3 hd3 ht3 hc htu
    have hg3 : w3.heap[w.heap.size]? = some (.cells ((d.B 0).map u8v).toArray 5 (0, 0)) := by
      have e1 := below_block HG1.out hB2
      refine (hb3.block _ (Array.getElem?_eq_some_iff.1 e1).1 ?_).trans e1
      have := HV.out.lt
      omega
    have c40 : ∀ (w4 : World) (g4 : Nat), w4.heap[g4]? = some (.cells ((headB t c d.n).map u8v).toArray 5 (0, 0)) → Below w3.heap.size w3 w4 → Calls Tryz.prog 79 #[.slice (some ⟨w.heap.size, 0, none⟩) 512 512, .slice (some ⟨g4, 0, none⟩) 512 512] w4 fun e w' => e = .returned (.bool true) ∧ w' = w4 := by
      intro w4 g4 h4 hB4
      have := equal_any (some ⟨w.heap.size, 0, none⟩) (some ⟨g4, 0, none⟩) (d.B 0) (headB t c d.n) 512 512 w4 (bytes_block (below_block hg3 hB4)) (bytes_block h4)
      rw [HD.out.len 0 HD.out.hn1, headB_length, decide_eq_true hb0] at this
      exact this
    have m1 := cellOf hv3 1
    have m2 := cellOf hv3 2
    simp [volCells] at m1 m2
    have i1 := isCount_yes t w3 htu
    have i2 := isCount_yes c w3 hc
    have HV3 : Hid (IsVol w3 v (dp d.a) c t next f count) := hv3
    have HB03 : Hid (But (fun k => k = v) w w3) := hb03
    have t3 : True := trivial
    have t4 : True := trivial
    clear hv3 hb03 hb3 hd3 ht3 hg3
    go_wp2_with (first
      | (have tk := t3; go_at_call 78; refine Calls_on i1 ?_; clear tk t3 i1)
      | (have tk := t4; go_at_call 78; refine Calls_on i2 ?_; clear tk t4 i2)
      | (go_at_call 74; refine c41.mono ?_; rintro e w4 ⟨g4, rfl, hg4', hg4, hB4⟩; clear c41; have c40' := c40 w4 g4 hg4 hB4; clear c40)
      | (go_at_call 79; refine Calls_on c40' ?_))
    go_ret
    exact ⟨rfl, HV3.out.below hB4, HB03.out.trans (But.of_below hB4)⟩

end Go.Proofs.YtebdgcoandfocaaGreatDoor
