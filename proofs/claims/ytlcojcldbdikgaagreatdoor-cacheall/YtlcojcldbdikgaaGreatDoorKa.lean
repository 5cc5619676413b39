/-
  take of package wal.
-/
import Derived.Test.YtlcojcldbdikgaaGreatDoorWord
import Derived.RangeFuncNested
import Derived.RangeFuncBound
import Derived.RangeFuncCalls
import Derived.RangeFuncLeaves
import Derived.Shelf.Abstract
import Derived.Shelf.RegionOpen
import Derived.OwnWalkIn
import Derived.TacticsInMore
import Derived.LoopNIn
import Derived.LoopIn
import Derived.Test.YtlcojcldbdikgaaGreatDoorRg
import Derived.RangeFuncBox
import Derived.Maps.Ext

/-
  The head of a volume: head and writeHead of package wal.
-/
namespace Go.Proofs.YtlcojcldbdikgaaGreatDoor
open Go.RowKit Go.Maps Go.Sort Go.Shelf

theorem mark_str : strOf mark = ⟨#[108, 97, 103, 111, 111, 110, 58, 32, 97, 32, 118, 111, 108, 117, 109, 101, 32, 111, 102, 32, 98, 108, 111, 99, 107, 115]⟩ := by decide

theorem below_dev {w w' : World} {d : DS} (h : Dev w d) (hb : Below w.heap.size w w') : Dev w' d := h.below hb

set_option maxRecDepth 8000 in
set_option maxHeartbeats 1000000 in
theorem head_any (v : Nat) (commits turn next : Nat) (f : Option Nat) (count : Int) (d : DS) (w : World) (h : IsVol w v (dp d.a) commits turn next f count) (hd : Dev w d) (ht : Tab w)
    (hc : commits < 4611686018427387904) (htu : turn < 4611686018427387904) :
    Calls Tryz.prog 78 #[dp v] w fun e w' => ∃ g, e = .returned (.slice (some ⟨g, 0, none⟩) 512 512) ∧ w.heap.size ≤ g ∧
      w'.heap[g]? = some (.cells ((headB turn commits d.n).map u8v).toArray 5 (0, 0)) ∧ Below w.heap.size w w' := by
  have hn := hd.hn
  have HT : Hid (Tab w) := ht
  have HD : Hid (Dev w d) := hd
  have HV : Hid (IsVol w v (dp d.a) commits turn next f count) := h
  have h2 := cellOf h 2
  simp [volCells] at h2
  have c54a := appendNumber_any (.slice none 0 0) 0 [] turn w.heap.size w (World.ownsRow_nil _ _ _ _) (by omega) htu (Nat.le_refl _)
  clear h hd ht
  go_enter Tryz.func78, Tryz.ntmps78
  go_wp2_with fail
  refine c54a.mono ?_
  rintro e w1 ⟨v1, rfl, hr1, hB1⟩
  clear c54a h2
  have h1 := cellOf (HV.out.below hB1) 1
  simp [volCells] at h1
  have c54b := appendNumber_any v1 8 (le8 turn) commits w.heap.size w1 hr1 (by omega) hc hB1.size
  clear hr1
  go_wp2_with fail
  refine c54b.mono ?_
  rintro e w2 ⟨v2, rfl, hr2, hB2'⟩
  have hB2 := hB1.trans hB2'
  clear c54b h1 hB1 hB2'
  have h0 := cellOf (HV.out.below hB2) 0
  simp [volCells] at h0
  have c31 := dev_blocks d w2 (HD.out.below hB2)
  have c54c := appendNumber_any v2 16 (le8 turn ++ le8 commits) d.n w.heap.size w2 hr2 (by omega) (by omega) hB2.size
  clear hr2
  go_wp2_with (first | (go_at_call 63; refine Calls_on c31 ?_; clear c31) | (go_at_call 104; refine c54c.mono ?_; rintro e w3 ⟨v3, rfl, hr3, hB3'⟩; clear c54c; refine Stop.out ?_))
  refine Stop.mk ?_
  have hB3 := hB2.trans hB3'
  clear hB2 hB3' h0
  obtain ⟨g3, cap3, rfl, _⟩ := hr3.form (by omega)
  have HR3 : Hid (w3.ownsRow w.heap.size 5 1 (.slice (some ⟨g3, 0, none⟩) 24 cap3) 24 ((le8 turn ++ le8 commits ++ le8 d.n).map u8v)) := hr3
  have HB3 : Hid (Below w.heap.size w w3) := hB3
  clear hr3 hB3
  have hms := mark_str
  go_wp2_with (at_builtin; refine wpList_append_text rfl _ _ rfl w.heap.size _ 24 _ rfl HR3.out mark (by rw [hms]; rfl) (by decide) HB3.out.size ?_; intro v4 w4 hr4 hg4; refine Stop.out ?_)
  refine Stop.mk ?_
  have hB4 : Below w.heap.size w w4 := HB3.out.grown hg4 HB3.out.size (by intro k hk; exact owns_block HR3.out k hk)
  rw [← List.map_append] at hr4
  obtain ⟨g4, cap4, rfl, hg4', hb4⟩ := owns_bytes hr4 (by simp [mark])
  have c56 := seal_any (some ⟨g4, 0, none⟩) (headC turn commits d.n) cap4 w4 (below_tab hB4 HT.out.lt HT.out) (by rw [headC_length]; omega) (by
    have e : headC turn commits d.n = le8 turn ++ le8 commits ++ le8 d.n ++ mark := by simp [headC]
    rw [e]; exact hb4)
  rw [headC_length] at c56
  have HB4 : Hid (Below w.heap.size w w4) := hB4
  clear hr4 hb4 hB4 hg4
  show wpList Tryz.prog _ _ _ { tmps := _, defers := _ } w4
  go_wp2_with (go_at_call 105; refine c56.mono ?_; rintro e w5 ⟨g5, rfl, hg5, hb5, hB5⟩; clear c56)
  go_ret
  exact ⟨g5, rfl, Nat.le_trans HB4.out.size hg5, hb5, HB4.out.trans (hB5.mono HB4.out.size)⟩

/-- writeHead: the head is block 0. -/
theorem below_block {w w' : World} {g : Nat} {o : Obj} (h : w.heap[g]? = some o) (hb : Below w.heap.size w w') : w'.heap[g]? = some o := (hb.block g (Array.getElem?_eq_some_iff.1 h).1).trans h

set_option maxRecDepth 8000 in
set_option maxHeartbeats 1000000 in
theorem writeHead_any (v : Nat) (commits turn next : Nat) (f : Option Nat) (count : Int) (d : DS) (w : World) (h : IsVol w v (dp d.a) commits turn next f count) (hd : Dev w d) (ht : Tab w)
    (hc : commits < 4611686018427387904) (htu : turn < 4611686018427387904) (hdd : d.dead = false) (hcnt : d.count < 1000000000) :
    Calls Tryz.prog 52 #[dp v] w fun e w' => e = .returned (.int .i64 0) ∧ But d.mine w w' ∧ ∃ p, Holds512 w' p ((d.B 0).map u8v) ∧ Dev w' (d.wrote 0 (headB turn commits d.n) (loosened d.D 0 p)) := by
  have hn1 := hd.hn1
  have SOf : ∀ W, Below w.heap.size w W → W.cell? ⟨v, 0, none⟩ = some (dp d.a) ∧ Below w.heap.size w W := fun W hB => ⟨by have := cellOf (h.below hB) 0; simpa [volCells] using this, hB⟩
  have cH : ∀ W, (W.cell? ⟨v, 0, none⟩ = some (dp d.a) ∧ Below w.heap.size w W) → Calls Tryz.prog 78 #[dp v] W fun e w' => ∃ g, e = .returned (.slice (some ⟨g, 0, none⟩) 512 512) ∧
      w'.heap[g]? = some (.cells ((headB turn commits d.n).map u8v).toArray 5 (0, 0)) ∧ Below w.heap.size w w' := by
    rintro W ⟨_, hB⟩
    refine (head_any v commits turn next f count d W (h.below hB) (hd.below hB) (below_tab hB ht.lt ht) hc htu).mono ?_
    rintro e w' ⟨g, rfl, _, hg, hB'⟩
    exact ⟨g, rfl, hg, hB.trans (hB'.mono hB.size)⟩
  have cW : ∀ g W, (W.cell? ⟨v, 0, none⟩ = some (dp d.a) ∧ Below w.heap.size w W) → W.heap[g]? = some (.cells ((headB turn commits d.n).map u8v).toArray 5 (0, 0)) →
      Calls Tryz.prog 77 #[dp d.a, .int .i64 0, .slice (some ⟨g, 0, none⟩) 512 512] W fun e w' => e = .returned (.int .i64 0) ∧ But d.mine w w' ∧ ∃ p, Holds512 w' p ((d.B 0).map u8v) ∧ Dev w' (d.wrote 0 (headB turn commits d.n) (loosened d.D 0 p)) := by
    rintro g W ⟨_, hB⟩ hg
    refine (dev_write d 0 (headB turn commits d.n) g 0 512 W (hd.below hB) (by omega) (headB_length _ _ _) (bytes_block hg) hdd hcnt).mono ?_
    rintro e w' ⟨rfl, hbut, p, hp, hdv⟩
    exact ⟨rfl, (But.of_below hB).trans hbut, p, hp, hdv⟩
  clear h hd ht
  go_enter Tryz.func52, Tryz.ntmps52
  go_wp2_with fail
  have S0 := SOf w.drew (Below.refl _ _).drew
  go_region_with (first
    | (go_at_call 78; refine (cH _ S0).mono ?_; rintro e W1 ⟨g, rfl, hg, hB1⟩; have S1 := SOf _ hB1)
    | (go_at_call 77; refine (cW _ _ S1 hg).mono ?_; rintro e W2 ⟨rfl, hbut2, p2, hp2, hdv2⟩))
  all_goals go_wp2
  all_goals go_ret
  all_goals exact ⟨rfl, hbut2, p2, hp2, hdv2⟩

set_option maxRecDepth 8000 in
set_option maxHeartbeats 1000000 in
theorem writeHead_dead (v : Nat) (commits turn next : Nat) (f : Option Nat) (count : Int) (d : DS) (w : World) (h : IsVol w v (dp d.a) commits turn next f count) (hd : Dev w d) (ht : Tab w)
    (hc : commits < 4611686018427387904) (htu : turn < 4611686018427387904) (hdd : d.dead = true) :
    Calls Tryz.prog 52 #[dp v] w fun e w' => e = .returned (.int .i64 5) ∧ Below w.heap.size w w' := by
  have SOf : ∀ W, Below w.heap.size w W → W.cell? ⟨v, 0, none⟩ = some (dp d.a) ∧ Below w.heap.size w W := fun W hB => ⟨by have := cellOf (h.below hB) 0; simpa [volCells] using this, hB⟩
  have cH : ∀ W, (W.cell? ⟨v, 0, none⟩ = some (dp d.a) ∧ Below w.heap.size w W) → Calls Tryz.prog 78 #[dp v] W fun e w' => ∃ g, e = .returned (.slice (some ⟨g, 0, none⟩) 512 512) ∧
      w'.heap[g]? = some (.cells ((headB turn commits d.n).map u8v).toArray 5 (0, 0)) ∧ Below w.heap.size w w' := by
    rintro W ⟨_, hB⟩
    refine (head_any v commits turn next f count d W (h.below hB) (hd.below hB) (below_tab hB ht.lt ht) hc htu).mono ?_
    rintro e w' ⟨g, rfl, _, hg, hB'⟩
    exact ⟨g, rfl, hg, hB.trans (hB'.mono hB.size)⟩
  have cW : ∀ g W, (W.cell? ⟨v, 0, none⟩ = some (dp d.a) ∧ Below w.heap.size w W) →
      Calls Tryz.prog 77 #[dp d.a, .int .i64 0, .slice (some ⟨g, 0, none⟩) 512 512] W fun e w' => e = .returned (.int .i64 5) ∧ w' = W := by
    rintro g W ⟨_, hB⟩
    exact dev_write_dead d 0 _ 512 512 W (hd.below hB) hdd
  clear h hd ht
  go_enter Tryz.func52, Tryz.ntmps52
  go_wp2_with fail
  have S0 := SOf w.drew (Below.refl _ _).drew
  go_region_with (first
    | (go_at_call 78; refine (cH _ S0).mono ?_; rintro e W1 ⟨g, rfl, hg, hB1⟩; have S1 := SOf _ hB1)
    | (go_at_call 77; refine Calls_on (cW _ _ S1) ?_))
  all_goals go_wp2
  all_goals go_ret
  all_goals exact ⟨rfl, hB1⟩

end Go.Proofs.YtlcojcldbdikgaaGreatDoor

/-
  erase of package wal, where all is zeros already; and its two callers.
-/
namespace Go.Proofs.YtlcojcldbdikgaaGreatDoor
open Go.RowKit Go.Maps Go.Sort Go.Shelf

set_option maxRecDepth 8000 in
set_option maxHeartbeats 1000000 in
theorem erase_zeros (frm to : Nat) (v : Nat) (commits turn next : Nat) (f : Option Nat) (count : Int) (d : DS) (w : World) (h : IsVol w v (dp d.a) commits turn next f count) (hd : Dev w d)
    (hto : to ≤ d.n) (hft : frm ≤ to) (hz : ∀ i, i < d.n → d.B i = zeroB) :
    Calls Tryz.prog 74 #[dp v, .int .i64 frm, .int .i64 to] w fun e w' => e = .returned (.int .i64 0) ∧ Below w.heap.size w w' := by
  obtain ⟨i0, hi0, hz0, hz1, hz2⟩ := info_parts Tryz.info5
  have hn := hd.hn
  have HV : Hid (IsVol w v (dp d.a) commits turn next f count) := h
  have HD : Hid (Dev w d) := hd
  have HZ : Hid (∀ i, i < d.n → d.B i = zeroB) := hz
  clear h hd hz
  go_enter Tryz.func74, Tryz.ntmps74
  go_wp2_with (at_make; refine wpList_make_full _ rfl _ _ 33 rfl 0 5 i0 (.int .u8 0) 1 Tryz.underlying33 hi0 hz0 hz1 .i64 .i64 _ _ 512 rfl rfl rfl rfl (by rw [hz2]; omega) (by unfold maxLen; omega) (Nat.zero_le _) ?_; intro w1 hrow hg1; have hrep : Hid (w1.heap[w.heap.size]? = some (.cells (zeroB.map u8v).toArray 5 (0, 0))) := by { have := made_zeros hrow; rw [← zeros_bytes] at this; exact this }; have HB1 : Hid (Below w.heap.size w w1) := (Below.refl _ w).grown hg1 (Nat.le_refl _) (by simp); clear hrow hg1)
  go_loopw [8] (fun ii wr => ∃ i : Nat, frm ≤ i ∧ i ≤ to ∧ ii = .int .i64 i ∧ Hid (Below w.heap.size w wr ∧ wr.heap[w.heap.size]? = some (.cells (zeroB.map u8v).toArray 5 (0, 0)))) (fun ii _ => to - (intOf ii).toNat)
  case atStart => exact ⟨frm, Nat.le_refl _, hft, rfl, HB1.out, hrep.out⟩
  case round =>
    obtain ⟨i, hfi, hi, rfl, HJ⟩ := hrel
    by_cases hlt : i < to
    · have hltI : (i : Int) < to := by omega
      obtain ⟨hB, hzz⟩ := HJ.out
      have c0 := cellOf (HV.out.below hB) 0
      simp [volCells] at c0
      have c15 := dev_read d i wr (HD.out.below hB) (by omega)
      rw [HZ.out i (by omega)] at c15
      have c40 : ∀ w2 : World, w2.heap[wr.heap.size]? = some (.cells (zeroB.map u8v).toArray 5 (0, 0)) → Below wr.heap.size wr w2 → Calls Tryz.prog 82 #[.slice (some ⟨wr.heap.size, 0, none⟩) 512 512, .slice (some ⟨w.heap.size, 0, none⟩) 512 512] w2 fun e w' => e = .returned (.bool true) ∧ w' = w2 := by
        intro w2 h2 hB2
        have := equal_any (some ⟨wr.heap.size, 0, none⟩) (some ⟨w.heap.size, 0, none⟩) zeroB zeroB 512 512 w2 (bytes_block h2) (bytes_block (below_block hzz hB2))
        rw [zeroB_length, decide_eq_true rfl] at this
        exact this
      clear hB hzz
      go_wp2_with (first
        | (go_at_call 44; refine c15.mono ?_; rintro e w2 ⟨rfl, hg2, hB2⟩; clear c15; have c40' := c40 w2 hg2 hB2; clear c40)
        | (go_at_call 82; refine Calls_on c40' ?_))
      go_roundw
      case rel => exact ⟨i + 1, by omega, by omega, by go_num, HJ.out.1.trans (hB2.mono HJ.out.1.size), below_block HJ.out.2 hB2⟩
      case measure => simp [intOf]; omega
    · obtain rfl : i = to := by omega
      go_wp2
      go_ret
      exact ⟨rfl, HJ.out.1⟩

set_option maxRecDepth 8000 in
set_option maxHeartbeats 400000 in
theorem eraseHead_zeros (v : Nat) (commits turn next : Nat) (f : Option Nat) (count : Int) (d : DS) (w : World) (h : IsVol w v (dp d.a) commits turn next f count) (hd : Dev w d) (hz : ∀ i, i < d.n → d.B i = zeroB) :
    Calls Tryz.prog 49 #[dp v] w fun e w' => e = .returned (.int .i64 0) ∧ Below w.heap.size w w' := by
  have c58 := erase_zeros 0 1 v commits turn next f count d w h hd hd.hn1 (by omega) hz
  clear h hd hz
  go_enter Tryz.func49, Tryz.ntmps49
  go_wp2_with (go_at_call 74; refine (show Calls Tryz.prog 74 #[dp v, .int .i64 0, .int .i64 1] _ _ from c58).mono ?_; rintro e w1 ⟨rfl, hB1⟩; clear c58)
  go_ret
  exact ⟨rfl, hB1⟩

set_option maxRecDepth 8000 in
set_option maxHeartbeats 400000 in
theorem eraseRest_zeros (v : Nat) (commits turn next : Nat) (f : Option Nat) (count : Int) (d : DS) (w : World) (h : IsVol w v (dp d.a) commits turn next f count) (hd : Dev w d) (hz : ∀ i, i < d.n → d.B i = zeroB) :
    Calls Tryz.prog 51 #[dp v] w fun e w' => e = .returned (.int .i64 0) ∧ Below w.heap.size w w' := by
  have c58 := erase_zeros 1 d.n v commits turn next f count d w h hd (Nat.le_refl _) hd.hn1 hz
  have c31 := dev_blocks d w hd
  have c0 := cellOf h 0
  simp [volCells] at c0
  clear h hd hz
  go_enter Tryz.func51, Tryz.ntmps51
  go_wp2_with (first
    | (go_at_call 63; refine Calls_on c31 ?_)
    | (go_at_call 74; refine (show Calls Tryz.prog 74 #[dp v, .int .i64 1, .int .i64 d.n] _ _ from c58).mono ?_; rintro e w1 ⟨rfl, hB1⟩; clear c58))
  go_ret
  exact ⟨rfl, hB1⟩

end Go.Proofs.YtlcojcldbdikgaaGreatDoor

/-
  Format of package wal: of no device, of a small one, of one of zeros.
-/
namespace Go.Proofs.YtlcojcldbdikgaaGreatDoor
open Go.RowKit Go.Maps Go.Sort Go.Shelf

theorem mkf (fn : Fn) (first cap : Array Value) (w : World) : (Instr.makeFunc fn first cap).run Tryz.prog w = .ok (.func fn first cap) w := rfl

/-- A later state of the same device. -/
structure Near (w : World) (d d' : DS) : Prop where
  a : d'.a = d.a
  s : d'.s = d.s
  m : d'.m = d.m ∨ w.heap.size ≤ d'.m
theorem Near.refl (w : World) (d : DS) : Near w d d := ⟨rfl, rfl, .inl rfl⟩
theorem Near.but {w w1 w2 : World} {d d' : DS} (hn : Near w d d') (h : But d.mine w w1) (h' : But d'.mine w1 w2) : But d.mine w w2 := by
  refine ⟨h'.os.trans h.os, h'.tape.trans h.tape, h'.output.trans h.output, Nat.le_trans h.size h'.size, fun k hk hm => (h'.block k (Nat.lt_of_lt_of_le hk h.size) ?_).trans (h.block k hk hm)⟩
  rintro (e | e | e)
  · exact hm (.inl (e.trans hn.a))
  · exact hm (.inr (.inl (e.trans hn.s)))
  · rcases hn.m with h1 | h1
    · exact hm (.inr (.inr (e.trans h1)))
    · omega
theorem Near.trans {w w1 : World} {d d' d'' : DS} (h : Near w d d') (h' : Near w1 d' d'') (hs : w.heap.size ≤ w1.heap.size) : Near w d d'' := by
  refine ⟨h'.a.trans h.a, h'.s.trans h.s, ?_⟩
  rcases h'.m with e | e
  · rcases h.m with e' | e'
    · exact .inl (e.trans e')
    · exact .inr (by omega)
  · exact .inr (by omega)

/-- A block of steps is none of the device's. -/
theorem keep_steps {w w' : World} {d : DS} {g : Nat} {l : Array Value} (hg : w.heap[g]? = some (.cells l 42 (0, 0))) (hd : Dev w d) (hb : But d.mine w w') : w'.heap[g]? = w.heap[g]? :=
  hb.block g (Array.getElem?_eq_some_iff.1 hg).1 (hd.other hg (by decide) (by decide))

theorem new_vol (w : World) (o : Obj) (dv : Value) (commits turn next : Nat) (f : Option Nat) (count : Int) : IsVol ((w.alloc (.cells (volCells dv commits turn next f count) 85)).alloc o) w.heap.size dv commits turn next f count :=
  (Below.heap_alloc _ _ _ (by simp)).trans (heap_alloc_new w _)

theorem Dev.noTab {w : World} {d : DS} (h : Dev w d) (ht : Tab w) : ¬ d.mine 0 := by
  have h0 := ht 0 0 rfl
  have lt := ht.lt
  rintro (e | e | e)
  · have hx := h.dev
    rw [← e] at hx
    have := cellOf hx 0
    rw [h0] at this
    simp [devCells] at this
  · obtain ⟨cur, hr, hc, hx⟩ := h.row
    rw [← e] at hr
    obtain ⟨p, hp, _⟩ := hx 0 h.hn1
    have := cellOf hr 0
    rw [h0, hp] at this
    simp at this
  · obtain ⟨es, clock, hm, _⟩ := h.own
    rw [← e] at hm
    simp [World.cell?, hm] at h0
theorem But.tab {S : Nat → Prop} {w w' : World} (hb : But S w w') (ht : Tab w) (h0 : ¬ S 0) : Tab w' := fun k z hk =>
  (World.cell?_of_block (w := w) (hb.block 0 ht.lt h0)).trans (ht k z hk)

/-- Format is its steps. -/
theorem format_steps (dv : Value) (p : Option Addr) (hdv : dv = .pointer p) (w : World) (Q : Int → World → Prop)
    (fs : List (Nat × Value)) (hfs : fs = [(48, dp w.heap.size), (49, dp w.heap.size), (50, dv), (51, dp w.heap.size), (50, dv), (52, dp w.heap.size), (50, dv)])
    (hr : Runs Tryz.prog (w.heap.size + 1) fs ((w.alloc (.cells (volCells dv 0 1 0 none 0) 85)).alloc (.cells (fs.map stepV).toArray 42)) Q) :
    Calls Tryz.prog 25 #[dv] w fun e w' => ∃ z : Int, e = .returned (.int .i64 z) ∧ Q z w' := by
  have hent : ∀ x ∈ fs, ∀ args w, (callFunc x.1 args).run Tryz.prog w = .ok (.enter x.1 args) w := by
    subst hfs
    intro x hx
    simp only [List.mem_cons, List.not_mem_nil, or_false] at hx
    rcases hx with rfl | rfl | rfl | rfl | rfl | rfl | rfl
    · exact enters_of Tryz.func48 (by kernel_rfl) rfl
    · exact enters_of Tryz.func49 (by kernel_rfl) rfl
    · exact enters_of Tryz.func50 (by kernel_rfl) rfl
    · exact enters_of Tryz.func51 (by kernel_rfl) rfl
    · exact enters_of Tryz.func50 (by kernel_rfl) rfl
    · exact enters_of Tryz.func52 (by kernel_rfl) rfl
    · exact enters_of Tryz.func50 (by kernel_rfl) rfl
  have hc := inOrder_any (w.heap.size + 1) fs 7 _ Q hent (by rw [hfs]; simp) (by
    have := heap_alloc_new (w.alloc (.cells (volCells dv 0 1 0 none 0) 85)) (.cells (fs.map stepV).toArray 42)
    rw [World.size_alloc] at this
    exact this) hr
  have hl : fs.length = 7 := by rw [hfs]; rfl
  have hcell : (fs.map stepV).toArray = #[.func (.func 48) #[dp w.heap.size] #[], .func (.func 49) #[dp w.heap.size] #[], .func (.func 50) #[dv] #[], .func (.func 51) #[dp w.heap.size] #[], .func (.func 50) #[dv] #[], .func (.func 52) #[dp w.heap.size] #[], .func (.func 50) #[dv] #[]] := by rw [hfs]; rfl
  rw [hl, hcell] at hc
  clear hr hent hfs hl hcell
  subst hdv
  have hmf := mkf
  go_enter Tryz.func25, Tryz.ntmps25
  go_wp2_with (go_at_call 47; refine (show Calls Tryz.prog 47 _ _ _ from hc).mono ?_; rintro e w1 ⟨z, rfl, hQ⟩; clear hc)
  go_ret
  exact ⟨z, rfl, hQ⟩

theorem format_nil (w : World) : Calls Tryz.prog 25 #[.pointer none] w fun e w' => e = .returned (.int .i64 22) ∧ Below w.heap.size w w' := by
  refine (format_steps (.pointer none) none rfl w (fun z w' => z = 22 ∧ Below w.heap.size w w') _ rfl ?_).mono (by rintro e w' ⟨z, rfl, rfl, hB⟩; exact ⟨rfl, hB⟩)
  refine (checkRoom_nil w.heap.size 0 1 0 none 0 _ ?_).mono ?_
  · exact new_vol _ _ _ _ _ _ _ _
  · rintro e w' ⟨rfl, rfl⟩
    exact ⟨22, rfl, rfl, .inl ⟨by decide, rfl, ((Below.refl _ w).alloc (Nat.le_refl _) _).alloc (by simp) _⟩⟩

theorem format_small (d : DS) (w : World) (hd : Dev w d) (hn : d.n < 16) : Calls Tryz.prog 25 #[dp d.a] w fun e w' => e = .returned (.int .i64 22) ∧ Below w.heap.size w w' := by
  refine (format_steps (dp d.a) _ rfl w (fun z w' => z = 22 ∧ Below w.heap.size w w') _ rfl ?_).mono (by rintro e w' ⟨z, rfl, rfl, hB⟩; exact ⟨rfl, hB⟩)
  refine (checkRoom_no w.heap.size 0 1 0 none 0 d _ ?_ (hd.below (((Below.refl _ w).alloc (Nat.le_refl _) _).alloc (by simp) _)) hn).mono ?_
  · exact new_vol _ _ _ _ _ _ _ _
  · rintro e w' ⟨rfl, rfl⟩
    exact ⟨22, rfl, rfl, .inl ⟨by decide, rfl, ((Below.refl _ w).alloc (Nat.le_refl _) _).alloc (by simp) _⟩⟩

/-- The device lives for k more steps. -/
def DS.lives (d : DS) (k : Int) : Prop := d.fused = true → k ≤ d.left
theorem DS.lives.alive {d : DS} {k : Int} (h : d.lives k) (hk : 1 ≤ k) : d.dead = false := by
  unfold DS.dead
  cases hf : d.fused
  · rfl
  · have := h hf; simp; omega
theorem DS.lives.flushed {d : DS} {k : Int} (h : d.lives (k + 1)) (m : Nat) : (d.flushed m).lives k := by
  intro hf
  have hf' : d.fused = true := hf
  have := h hf'
  simp [DS.flushed, stepped, hf']; omega
theorem DS.lives.wrote {d : DS} {k : Int} (h : d.lives (k + 1)) (i : Nat) (l : By) (D : DataW Value) : (d.wrote i l D).lives k := by
  intro hf
  have hf' : d.fused = true := hf
  have := h hf'
  simp [DS.wrote, stepped, hf']; omega

theorem Near.flushed {w : World} {d : DS} {m : Nat} (h : w.heap.size ≤ m) : Near w d (d.flushed m) := ⟨rfl, rfl, .inr h⟩
theorem Near.wrote (w : World) (d : DS) (i : Nat) (l : By) (D : DataW Value) : Near w d (d.wrote i l D) := ⟨rfl, rfl, .inl rfl⟩

/-- Format of a device of zeros that lives on. -/
theorem format_ok (d : DS) (w : World) (hd : Dev w d) (ht : Tab w) (hn : 16 ≤ d.n) (hz : ∀ i, i < d.n → d.B i = zeroB) (hl : d.lives 4) (hc : d.count < 900000000) :
    Calls Tryz.prog 25 #[dp d.a] w fun e w' => ∃ d', e = .returned (.int .i64 0) ∧ But d.mine w w' ∧ Near w d d' ∧ Dev w' d' ∧ d'.n = d.n ∧ d'.D = .map [] ∧ d'.B = upd d.B 0 (headB 1 0 d.n) ∧ d'.count = d.count + 4 ∧ d'.fused = d.fused := by
  refine (format_steps (dp d.a) _ rfl w (fun z w' => z = 0 ∧ ∃ d', But d.mine w w' ∧ Near w d d' ∧ Dev w' d' ∧ d'.n = d.n ∧ d'.D = .map [] ∧ d'.B = upd d.B 0 (headB 1 0 d.n) ∧ d'.count = d.count + 4 ∧ d'.fused = d.fused) _ rfl ?_).mono (by rintro e w' ⟨z, rfl, rfl, d', hB⟩; exact ⟨d', rfl, hB⟩)
  obtain ⟨w0, hw0⟩ : ∃ w0, w0 = (w.alloc (.cells (volCells (dp d.a) 0 1 0 none 0) 85)).alloc (.cells (([(48, dp w.heap.size), (49, dp w.heap.size), (50, dp d.a), (51, dp w.heap.size), (50, dp d.a), (52, dp w.heap.size), (50, dp d.a)] : List (Nat × Value)).map stepV).toArray 42) := ⟨_, rfl⟩
  rw [← hw0]
  have hB0 : Below w.heap.size w w0 := by rw [hw0]; exact ((Below.refl _ w).alloc (Nat.le_refl _) _).alloc (by simp) _
  have hv0 : IsVol w0 w.heap.size (dp d.a) 0 1 0 none 0 := by rw [hw0]; exact new_vol _ _ _ _ _ _ _ _
  obtain ⟨cs, hg0⟩ : ∃ cs, w0.heap[w.heap.size + 1]? = some (.cells cs 42 (0, 0)) := ⟨_, by
    rw [hw0]
    have := heap_alloc_new (w.alloc (.cells (volCells (dp d.a) 0 1 0 none 0) 85)) (.cells (([(48, dp w.heap.size), (49, dp w.heap.size), (50, dp d.a), (51, dp w.heap.size), (50, dp d.a), (52, dp w.heap.size), (50, dp d.a)] : List (Nat × Value)).map stepV).toArray 42)
    rw [World.size_alloc] at this
    exact this⟩
  clear hw0
  have hd0 := hd.below hB0
  refine (checkRoom_yes w.heap.size 0 1 0 none 0 d w0 hv0 hd0 hn).mono ?_
  rintro e w1 ⟨rfl, rfl⟩
  refine ⟨0, rfl, rfl, .inr ⟨rfl, ?_⟩⟩
  refine (eraseHead_zeros w.heap.size 0 1 0 none 0 d w1 hv0 hd0 hz).mono ?_
  rintro e w2 ⟨rfl, hB2⟩
  refine ⟨0, rfl, below_block hg0 hB2 ▸ hg0.symm, .inr ⟨rfl, ?_⟩⟩
  have hg2 := below_block hg0 hB2
  have hv2 := hv0.below hB2
  have hd2 := hd0.below hB2
  have b2 : But d.mine w w2 := But.of_below (hB0.trans (hB2.mono hB0.size))
  refine (dev_flush d w2 hd2 (hl.alive (by omega)) (by omega)).mono ?_
  rintro e w3 ⟨m3, rfl, hm3, hd3, b3⟩
  refine ⟨0, rfl, keep_steps hg2 hd2 b3, .inr ⟨rfl, ?_⟩⟩
  have hg3 := (keep_steps hg2 hd2 b3).trans hg2
  have hv3 := hv2.but b3 (hv2.mine hd2)
  have n3 : Near w d (d.flushed m3) := Near.flushed (Nat.le_trans b2.size hm3)
  have b3' := (Near.refl w d).but b2 b3
  refine (eraseRest_zeros w.heap.size 0 1 0 none 0 (d.flushed m3) w3 hv3 hd3 hz).mono ?_
  rintro e w4 ⟨rfl, hB4⟩
  refine ⟨0, rfl, below_block hg3 hB4 ▸ hg3.symm, .inr ⟨rfl, ?_⟩⟩
  have hg4 := below_block hg3 hB4
  have hv4 := hv3.below hB4
  have hd4 := hd3.below hB4
  have b4 := b3'.trans (But.of_below hB4)
  have l4 : (d.flushed m3).lives 3 := DS.lives.flushed (k := 3) hl m3
  refine (dev_flush (d.flushed m3) w4 hd4 (l4.alive (by omega)) (by simp [DS.flushed]; omega)).mono ?_
  rintro e w5 ⟨m5, rfl, hm5, hd5, b5⟩
  refine ⟨0, rfl, keep_steps hg4 hd4 b5, .inr ⟨rfl, ?_⟩⟩
  have hg5 := (keep_steps hg4 hd4 b5).trans hg4
  have hv5 := hv4.but b5 (hv4.mine hd4)
  have n5 : Near w d ((d.flushed m3).flushed m5) := n3.trans (Near.flushed hm5) b4.size
  have b5' := n3.but b4 b5
  have l5 : ((d.flushed m3).flushed m5).lives 2 := DS.lives.flushed (k := 2) l4 m5
  have ht5 : Tab w5 := b5'.tab ht (hd.noTab ht)
  refine (writeHead_any w.heap.size 0 1 0 none 0 ((d.flushed m3).flushed m5) w5 hv5 hd5 ht5 (by omega) (by omega) (l5.alive (by omega)) (by simp [DS.flushed]; omega)).mono ?_
  rintro e w6 ⟨rfl, b6, p6, hp6, hd6⟩
  refine ⟨0, rfl, keep_steps hg5 hd5 b6, .inr ⟨rfl, ?_⟩⟩
  have n6 := n5.trans (Near.wrote w5 ((d.flushed m3).flushed m5) 0 (headB 1 0 d.n) (loosened ((d.flushed m3).flushed m5).D 0 p6)) b5'.size
  have b6' := n5.but b5' b6
  have l6 := DS.lives.wrote (k := 1) l5 0 (headB 1 0 d.n) (loosened ((d.flushed m3).flushed m5).D 0 p6)
  refine (dev_flush _ w6 hd6 (l6.alive (by omega)) (by simp [DS.flushed, DS.wrote]; omega)).mono ?_
  rintro e w7 ⟨m7, rfl, hm7, hd7, b7⟩
  refine ⟨0, rfl, keep_steps ((keep_steps hg5 hd5 b6).trans hg5) hd6 b7, .inr ⟨rfl, rfl, _, n6.but b6' b7, n6.trans (Near.flushed hm7) b6'.size, hd7, rfl, rfl, rfl, ?_, rfl⟩⟩
  simp [DS.flushed, DS.wrote]; omega

end Go.Proofs.YtlcojcldbdikgaaGreatDoor

/-
  readHead of package wal.
-/
namespace Go.Proofs.YtlcojcldbdikgaaGreatDoor
open Go.RowKit Go.Maps Go.Sort Go.Shelf

set_option maxRecDepth 8000 in
set_option maxHeartbeats 1000000 in
/-- No head. -/
theorem readHead_none (v : Nat) (commits turn next : Nat) (f : Option Nat) (count : Int) (d : DS) (w : World) (h : IsVol w v (dp d.a) commits turn next f count) (hd : Dev w d) (ht : Tab w) (ho : opened (d.B 0) = none) :
    Calls Tryz.prog 54 #[dp v] w fun e w' => e = .returned (.int .i64 74) ∧ Below w.heap.size w w' := by
  have c0 := cellOf h 0
  simp [volCells] at c0
  have c15 := dev_read d 0 w hd hd.hn1
  have hl0 := hd.len 0 hd.hn1
  have c37 : ∀ w1 : World, w1.heap[w.heap.size]? = some (.cells ((d.B 0).map u8v).toArray 5 (0, 0)) → Below w.heap.size w w1 → Calls Tryz.prog 79 #[.slice (some ⟨w.heap.size, 0, none⟩) 512 512] w1 fun e w' => ∃ q l c, e = .returned (.tuple #[.slice q l c, .bool false]) ∧ Below w.heap.size w w' := by
    intro w1 h1 hB1
    have := unseal_any (some ⟨w.heap.size, 0, none⟩) (d.B 0) 512 w1 (below_tab hB1 ht.lt ht) (by omega) (by omega) (bytes_block h1)
    rw [hl0] at this
    refine this.mono ?_
    rintro e w' ⟨hB, ⟨q, l, c, rfl, _⟩ | ⟨q, c, rfl, hx, _⟩⟩
    · exact ⟨q, l, c, rfl, hB1.trans (hB.mono hB1.size)⟩
    · rw [ho] at hx; cases hx
  clear h hd ht ho hl0
  go_enter Tryz.func54, Tryz.ntmps54
  go_wp2_with (first
    | (go_at_call 44; refine (show Calls Tryz.prog 44 #[dp d.a, .int .i64 0] _ _ from c15).mono ?_; rintro e w1 ⟨rfl, hg1, hB1⟩; clear c15; have c37' := c37 w1 hg1 hB1; clear c37)
    | (go_at_call 79; refine c37'.mono ?_; rintro e w2 ⟨q2, l2, cc2, rfl, hB2⟩; clear c37'))
  go_ret
  exact ⟨rfl, hB2⟩

theorem pad_head (t c n : Nat) : pad (headC t c n) = le8 t ++ (le8 c ++ (le8 n ++ mark ++ List.replicate 454 0#8)) := by
  unfold pad
  rw [show 504 - (headC t c n).length = 454 by rw [headC_length]]
  simp only [headC, List.append_assoc]

set_option maxRecDepth 8000 in
set_option maxHeartbeats 2000000 in
theorem readHead_ok (v : Nat) (commits turn next : Nat) (f : Option Nat) (count : Int) (t c : Nat) (d : DS) (w : World) (h : IsVol w v (dp d.a) commits turn next f count) (hd : Dev w d) (ht : Tab w)
    (hb0 : d.B 0 = headB t c d.n) (hc : c < 4611686018427387904) (htu : t < 4611686018427387904) :
    Calls Tryz.prog 54 #[dp v] w fun e w' => e = .returned (.int .i64 0) ∧ IsVol w' v (dp d.a) c t next f count ∧ But (fun k => k = v) w w' := by
  obtain ⟨C, hC⟩ : ∃ C, C = pad (headC t c d.n) := ⟨_, rfl⟩
  have hCl : C.length = 504 := by rw [hC]; exact pad_length _ (by rw [headC_length]; omega)
  have ho : opened (d.B 0) = some C := by rw [hb0, headB, opened_sealed _ (by rw [headC_length]; omega), hC]
  have n1 : leN (C.take 8) = t := by rw [hC, pad_head, List.take_left' (le8_length t), leN_le8 t (by omega)]
  have n2 : leN ((C.drop 8).take 8) = c := by rw [hC, pad_head, List.drop_left' (le8_length t), List.take_left' (le8_length c), leN_le8 c (by omega)]
  have c0 := cellOf h 0
  simp [volCells] at c0
  have c15 := dev_read d 0 w hd hd.hn1
  have hl0 := hd.len 0 hd.hn1
  have c37 : ∀ w1 : World, w1.heap[w.heap.size]? = some (.cells ((d.B 0).map u8v).toArray 5 (0, 0)) → Below w.heap.size w w1 → Calls Tryz.prog 79 #[.slice (some ⟨w.heap.size, 0, none⟩) 512 512] w1 fun e w' => ∃ g o, e = .returned (.tuple #[.slice (some ⟨g, o, none⟩) 504 504, .bool true]) ∧ Bytes w' (some ⟨g, o, none⟩) C ∧ Below w1.heap.size w1 w' := by
    intro w1 h1 hB1
    have := unseal_any (some ⟨w.heap.size, 0, none⟩) (d.B 0) 512 w1 (below_tab hB1 ht.lt ht) (by omega) (by omega) (bytes_block h1)
    rw [hl0] at this
    refine this.mono ?_
    rintro e w' ⟨hB, ⟨q, l, c, rfl, hx⟩ | ⟨q, c, rfl, hx, _, hb⟩⟩
    · rw [ho] at hx; cases hx
    · rw [ho] at hx; cases hx
      obtain ⟨g, o, rfl, hy⟩ := hb (by omega)
      exact ⟨g, o, rfl, fun _ => ⟨g, o, rfl, hy⟩, hB⟩
  have HV : Hid (IsVol w v (dp d.a) commits turn next f count) := h
  have HD : Hid (Dev w d) := hd
  have HT : Hid (Tab w) := ht
  clear h hd ht ho hl0
  go_enter Tryz.func54, Tryz.ntmps54
  go_wp2_with (first
    | (go_at_call 44; refine (show Calls Tryz.prog 44 #[dp d.a, .int .i64 0] _ _ from c15).mono ?_; rintro e w1 ⟨rfl, hg1, hB1⟩; clear c15; have c37' := c37 w1 hg1 hB1; clear c37)
    | (go_at_call 79; refine c37'.mono ?_; rintro e w2 ⟨g, o, rfl, hbC, hB2⟩; clear c37'))
  have hB02 : Below w.heap.size w w2 := hB1.trans (hB2.mono hB1.size)
  have m1 := cellOf (HV.out.below hB02) 1
  have m2 := cellOf (HV.out.below hB02) 2
  have f1 := frozenOf (HV.out.below hB02) 1
  have f2 := frozenOf (HV.out.below hB02) 2
  simp [volCells] at m1 m2
  have c38a : ∀ W : World, Below w2.heap.size w2 W → Calls Tryz.prog 80 #[.slice (some ⟨g, o, none⟩) 504 504] W fun e w' => e = .returned (.int .i64 (t : Nat)) ∧ w' = W := by
    intro W hW
    have := number_any (some ⟨g, o, none⟩) C 504 W (by omega) (by omega) (below_bytes hW hbC) (by omega)
    rw [hCl, n1] at this
    exact this
  have c38b : ∀ W : World, Below w2.heap.size w2 W → Calls Tryz.prog 80 #[.slice (some ⟨g, o + 8, none⟩) 496 496] W fun e w' => e = .returned (.int .i64 (c : Nat)) ∧ w' = W := by
    intro W hW
    have hx := bytes_drop (below_bytes hW hbC) 8 496
    have hl : ((C.drop 8).take 496).length = 496 := by simp [hCl]
    have e8 : ((C.drop 8).take 496).take 8 = (C.drop 8).take 8 := by rw [List.take_take]; rfl
    have := number_any (some ⟨g, o + 8, none⟩) _ 496 W (by omega) (by omega) hx (by rw [e8, n2]; exact hc)
    rw [hl, e8, n2] at this
    exact this
  have hR := (Below.refl w2.heap.size w2).drew
  have t1 : True := trivial
  have t2 : True := trivial
  have HG1 : Hid (w1.heap[w.heap.size]? = some (.cells ((d.B 0).map u8v).toArray 5 (0, 0))) := hg1
  clear hbC hg1
  go_region_with (first
    | (have tk := t1; go_at_call 80; refine Calls_on (c38a _ hR) ?_; clear tk t1 c38a)
    | (have tk := t2; go_at_call 80; refine Calls_on (c38b _ hR) ?_; clear tk t2 c38b))
  all_goals
    obtain ⟨w3, hw3⟩ : ∃ w3, w3 = ((w2.setCell ⟨v, 2, none⟩ (.int .i64 (t : Nat))).setCell ⟨v, 1, none⟩ (.int .i64 (c : Nat))).drew := ⟨_, rfl⟩
    rw [← hw3]
    have hv3 : IsVol w3 v (dp d.a) c t next f count := by rw [hw3]; exact ((HV.out.below hB02).setT t).setC c
    have hb3 : But (fun k => k = v) w2 w3 := by rw [hw3]; exact (((But.refl (fun k => k = v) w2).setCell ⟨v, 2, none⟩ rfl _).setCell ⟨v, 1, none⟩ rfl _).drew
    have hb03 : But (fun k => k = v) w w3 := (But.of_below hB02).trans hb3
    clear hw3
    have hd3 : Dev w3 d := HD.out.but hb03 (fun k hk e => by subst e; exact HV.out.mine HD.out hk) (fun g l hg e => by subst e; have := HV.out; rw [IsVol, hg] at this; simp at this)
    have ht3 : Tab w3 := hb03.tab HT.out (fun e => by
      have h0 := HT.out 0 0 rfl
      have hx := HV.out
      rw [← e] at hx
      have := cellOf hx 0
      rw [h0] at this
      simp [volCells] at this)
    have c41 := head_any v c t next f count d w3 hv3 hd3 ht3 hc htu
    have hg3 : w3.heap[w.heap.size]? = some (.cells ((d.B 0).map u8v).toArray 5 (0, 0)) := by
      have e1 := below_block HG1.out hB2
      refine (hb3.block _ (Array.getElem?_eq_some_iff.1 e1).1 ?_).trans e1
      have := HV.out.lt
      omega
    have c40 : ∀ (w4 : World) (g4 : Nat), w4.heap[g4]? = some (.cells ((headB t c d.n).map u8v).toArray 5 (0, 0)) → Below w3.heap.size w3 w4 → Calls Tryz.prog 82 #[.slice (some ⟨w.heap.size, 0, none⟩) 512 512, .slice (some ⟨g4, 0, none⟩) 512 512] w4 fun e w' => e = .returned (.bool true) ∧ w' = w4 := by
      intro w4 g4 h4 hB4
      have := equal_any (some ⟨w.heap.size, 0, none⟩) (some ⟨g4, 0, none⟩) (d.B 0) (headB t c d.n) 512 512 w4 (bytes_block (below_block hg3 hB4)) (bytes_block h4)
      rw [HD.out.len 0 HD.out.hn1, headB_length, decide_eq_true hb0] at this
      exact this
    have m1 := cellOf hv3 1
    have m2 := cellOf hv3 2
    simp [volCells] at m1 m2
    have i1 := isCount_yes t w3 htu
    have i2 := isCount_yes c w3 hc
    have HV3 : Hid (IsVol w3 v (dp d.a) c t next f count) := hv3
    have HB03 : Hid (But (fun k => k = v) w w3) := hb03
    have t3 : True := trivial
    have t4 : True := trivial
    clear hv3 hb03 hb3 hd3 ht3 hg3
    go_wp2_with (first
      | (have tk := t3; go_at_call 81; refine Calls_on i1 ?_; clear tk t3 i1)
      | (have tk := t4; go_at_call 81; refine Calls_on i2 ?_; clear tk t4 i2)
      | (go_at_call 78; refine c41.mono ?_; rintro e w4 ⟨g4, rfl, hg4', hg4, hB4⟩; clear c41; have c40' := c40 w4 g4 hg4 hB4; clear c40)
      | (go_at_call 82; refine Calls_on c40' ?_))
    go_ret
    exact ⟨rfl, HV3.out.below hB4, HB03.out.trans (But.of_below hB4)⟩

end Go.Proofs.YtlcojcldbdikgaaGreatDoor

/-
  readPage of package wal.
-/
namespace Go.Proofs.YtlcojcldbdikgaaGreatDoor
open Go.RowKit Go.Maps Go.Sort Go.Shelf

theorem below_drewN {B : Nat} {w w' : World} (h : Below B w w') (k : Nat) : Below B w (w'.drewN k) := ⟨h.os, h.tape, h.output, h.size, h.block⟩

/-- No page of turn t, nor of a later one. -/
def OldB (t : Nat) (b : By) : Prop := ∀ C, opened b = some C → leN (C.take 8) < t
theorem OldB.mono {t t' : Nat} {b : By} (h : OldB t b) (ht : t ≤ t') : OldB t' b := fun C hC => Nat.lt_of_lt_of_le (h C hC) ht
theorem oldB_zero (t : Nat) : OldB t zeroB := fun C hC => by rw [opened_zero] at hC; cases hC
theorem oldB_page (t : Nat) (ht : t < 18446744073709551616) (ps : Rec) (h : ∀ p ∈ ps, p.2.length = 512) (i : Nat) (hi : i < pagesFor ps.length) : OldB (t + 1) (pageB t ps i) := by
  intro C hC
  rw [opened_pageB t ps h i hi] at hC
  cases hC
  rw [List.take_left' (le8_length t), leN_le8 t ht]
  omega

theorem opened_nil : opened [] = none := by
  unfold opened unf
  simp

/-- unseal, taken apart. -/
theorem unseal_old (g : Nat) (b : By) (t : Nat) (w w1 : World) (hl : b.length = 512) (ht : Tab w) (hB1 : Below w.heap.size w w1) (h1 : w1.heap[g]? = some (.cells (b.map u8v).toArray 5 (0, 0))) (ho : OldB t b) :
    Calls Tryz.prog 79 #[.slice (some ⟨g, 0, none⟩) 512 512] w1 fun e w' => Below w.heap.size w w' ∧ ((∃ q l c, e = .returned (.tuple #[.slice q l c, .bool false])) ∨
      ∃ g' o' C, e = .returned (.tuple #[.slice (some ⟨g', o', none⟩) 504 504, .bool true]) ∧ leN (C.take 8) < t ∧ C.length = 504 ∧ Bytes w' (some ⟨g', o', none⟩) C) := by
  have := unseal_any (some ⟨g, 0, none⟩) b 512 w1 (below_tab hB1 ht.lt ht) (by omega) (by omega) (bytes_block h1)
  rw [hl] at this
  refine this.mono ?_
  rintro e w' ⟨hB, ⟨q, l, c, rfl, hx⟩ | ⟨q, c, rfl, hx, hl', hb⟩⟩
  · exact ⟨hB1.trans (hB.mono hB1.size), .inl ⟨q, l, c, rfl⟩⟩
  · obtain ⟨g', o', rfl, hy⟩ := hb (by omega)
    exact ⟨hB1.trans (hB.mono hB1.size), .inr ⟨g', o', c, rfl, ho c hx, hl', fun _ => ⟨g', o', rfl, hy⟩⟩⟩

set_option maxRecDepth 8000 in
set_option maxHeartbeats 1000000 in
theorem readPage_none (at_ : Nat) (v : Nat) (commits turn next : Nat) (f : Option Nat) (count : Int) (d : DS) (w : World) (h : IsVol w v (dp d.a) commits turn next f count) (hd : Dev w d) (ht : Tab w)
    (htu : turn < 4611686018427387904) (ho : at_ < d.n → OldB turn (d.B at_)) :
    Calls Tryz.prog 110 #[dp v, .int .i64 at_] w fun e w' => e = .returned (.tuple #[.slice none 0 0, .bool false]) ∧ Below w.heap.size w w' := by
  have c0 := cellOf h 0
  simp [volCells] at c0
  by_cases hin : at_ < d.n
  · have c15 := dev_read d at_ w hd hin
    have c37 := fun (w1 : World) (h1 : w1.heap[w.heap.size]? = some (.cells ((d.B at_).map u8v).toArray 5 (0, 0))) (hB1 : Below w.heap.size w w1) => unseal_old w.heap.size (d.B at_) turn w w1 (hd.len at_ hin) ht hB1 h1 (ho hin)
    have HV : Hid (IsVol w v (dp d.a) commits turn next f count) := h
    clear h hd ht ho
    go_enter Tryz.func110, Tryz.ntmps110
    go_wp2_with (first
      | (go_at_call 44; refine c15.mono ?_; rintro e w1 ⟨rfl, hg1, hB1⟩; clear c15; have c37' := c37 w1 hg1 hB1; clear c37)
      | (go_at_call 79; refine Stop.out ?_))
    refine Stop.mk ?_
    refine c37'.mono ?_
    clear c37'
    rintro e w2 ⟨hB2, ⟨q, l, cc, rfl⟩ | ⟨g', o', C, rfl, hC, hCl, hbC⟩⟩
    · go_wp2_with fail
      go_quiet (fail)
      go_wp2
      go_ret2
      exact ⟨rfl, below_drewN hB2 _⟩
    · have m2 := cellOf (HV.out.below hB2) 2
      simp [volCells] at m2
      have c38 : ∀ k, Calls Tryz.prog 80 #[.slice (some ⟨g', o', none⟩) 504 504] (w2.drewN k) fun e w' => e = .returned (.int .i64 (leN (C.take 8) : Nat)) ∧ w' = w2.drewN k := by
        intro k
        have := number_any (some ⟨g', o', none⟩) C 504 (w2.drewN k) (by omega) (by omega) hbC (by omega)
        rw [hCl] at this
        exact this
      obtain ⟨x, hx⟩ : ∃ x, x = leN (C.take 8) := ⟨_, rfl⟩
      rw [← hx] at c38 hC
      have hne : ((x : Int) != (turn : Int)) = true := by simp; omega
      clear hbC hx
      go_wp2_with fail
      go_quiet ((go_at_call 80; exact Calls.quiet_of_same (c38 _)))
      go_wp2
      go_ret2
      exact ⟨rfl, below_drewN hB2 _⟩
  · have c15 := dev_read_no d at_ w hd (by omega)
    have c37 : Calls Tryz.prog 79 #[.slice none 0 0] w fun e w' => ∃ q l c, e = .returned (.tuple #[.slice q l c, .bool false]) ∧ Below w.heap.size w w' := by
      refine (unseal_any none [] 0 w ht (by simp) (by simp) (bytes_nil _ _)).mono ?_
      rintro e w' ⟨hB, ⟨q, l, c, rfl, hx⟩ | ⟨q, c, rfl, hx, _⟩⟩
      · exact ⟨q, l, c, rfl, hB⟩
      · rw [opened_nil] at hx; cases hx
    clear h hd ht ho
    go_enter Tryz.func110, Tryz.ntmps110
    go_wp2_with (first
      | (go_at_call 44; refine Calls_on c15 ?_)
      | (go_at_call 79; refine c37.mono ?_; clear c37; rintro e w2 ⟨q, l, cc, rfl, hB2⟩))
    go_quiet (fail)
    go_wp2
    go_ret2
    exact ⟨rfl, below_drewN hB2 _⟩

set_option maxRecDepth 8000 in
set_option maxHeartbeats 1000000 in
theorem readPage_some (at_ : Nat) (bd : By) (v : Nat) (commits turn next : Nat) (f : Option Nat) (count : Int) (d : DS) (w : World) (h : IsVol w v (dp d.a) commits turn next f count) (hd : Dev w d) (ht : Tab w)
    (hat : at_ < d.n) (htu : turn < 4611686018427387904) (ho : opened (d.B at_) = some (le8 turn ++ bd)) (hbd : bd.length = 496) :
    Calls Tryz.prog 110 #[dp v, .int .i64 at_] w fun e w' => ∃ g o, e = .returned (.tuple #[.slice (some ⟨g, o, none⟩) 496 496, .bool true]) ∧ Bytes w' (some ⟨g, o, none⟩) bd ∧ Below w.heap.size w w' := by
  have c0 := cellOf h 0
  simp [volCells] at c0
  have c15 := dev_read d at_ w hd hat
  have hl0 := hd.len at_ hat
  have hCl : (le8 turn ++ bd).length = 504 := by rw [List.length_append, le8_length, hbd]
  have c37 : ∀ w1 : World, w1.heap[w.heap.size]? = some (.cells ((d.B at_).map u8v).toArray 5 (0, 0)) → Below w.heap.size w w1 → Calls Tryz.prog 79 #[.slice (some ⟨w.heap.size, 0, none⟩) 512 512] w1 fun e w' => ∃ g o, e = .returned (.tuple #[.slice (some ⟨g, o, none⟩) 504 504, .bool true]) ∧ Bytes w' (some ⟨g, o, none⟩) (le8 turn ++ bd) ∧ Below w.heap.size w w' := by
    intro w1 h1 hB1
    have := unseal_any (some ⟨w.heap.size, 0, none⟩) (d.B at_) 512 w1 (below_tab hB1 ht.lt ht) (by omega) (by omega) (bytes_block h1)
    rw [hl0] at this
    refine this.mono ?_
    rintro e w' ⟨hB, ⟨q, l, c, rfl, hx⟩ | ⟨q, c, rfl, hx, _, hb⟩⟩
    · rw [ho] at hx; cases hx
    · rw [ho] at hx; cases hx
      obtain ⟨g, o, rfl, hy⟩ := hb (by omega)
      exact ⟨g, o, rfl, fun _ => ⟨g, o, rfl, hy⟩, hB1.trans (hB.mono hB1.size)⟩
  have HV : Hid (IsVol w v (dp d.a) commits turn next f count) := h
  clear h hd ht ho hl0
  go_enter Tryz.func110, Tryz.ntmps110
  go_wp2_with (first
    | (go_at_call 44; refine c15.mono ?_; rintro e w1 ⟨rfl, hg1, hB1⟩; clear c15; have c37' := c37 w1 hg1 hB1; clear c37)
    | (go_at_call 79; refine c37'.mono ?_; clear c37'; rintro e w2 ⟨g, o, rfl, hbC, hB2⟩))
  have m2 := cellOf (HV.out.below hB2) 2
  simp [volCells] at m2
  have c38 : ∀ k, Calls Tryz.prog 80 #[.slice (some ⟨g, o, none⟩) 504 504] (w2.drewN k) fun e w' => e = .returned (.int .i64 (turn : Nat)) ∧ w' = w2.drewN k := by
    intro k
    have e8 : leN ((le8 turn ++ bd).take 8) = turn := by rw [List.take_left' (le8_length turn), leN_le8 turn (by omega)]
    have := number_any (some ⟨g, o, none⟩) (le8 turn ++ bd) 504 (w2.drewN k) (by omega) (by omega) hbC (by omega)
    rw [hCl, e8] at this
    exact this
  have hne : ((turn : Int) != (turn : Int)) = false := by simp
  have HC : Hid (Bytes w2 (some ⟨g, o, none⟩) (le8 turn ++ bd)) := hbC
  clear hbC
  go_quiet ((go_at_call 80; exact Calls.quiet_of_same (c38 _)))
  go_wp2
  go_ret2
  refine ⟨g, o + 8, rfl, ?_, below_drewN hB2 _⟩
  · have := bytes_drop HC.out 8 496
    rw [List.drop_left' (le8_length turn), List.take_of_length_le (by omega)] at this
    exact this

end Go.Proofs.YtlcojcldbdikgaaGreatDoor

/-
  slices.Chunk of package slices at bytes: what the iterator hands over, round by round.
-/
namespace Go.Proofs.YtlcojcldbdikgaaGreatDoor
open Go.RowKit Go.Maps Go.Sort Go.Shelf

attribute [local go_sem] Oper.semAt_some

/-- Piece k of a row of L bytes, cut into pieces of c. -/
def pieceLen (L c k : Nat) : Nat := min c (L - k * c)
def pieceV (g o L c k : Nat) : Value := .slice (some ⟨g, o + k * c, none⟩) (pieceLen L c k) (pieceLen L c k)
def pieces (L c : Nat) : Nat := (L + c - 1) / c

/-- What a round must leave alone: the two boxes of the iterator. -/
def KpC (w : World) (bs bn : Nat) : World → World → Prop := fun W W' => (W.heap[bs]? = w.heap[bs]? ∧ W.heap[bn]? = w.heap[bn]?) → (W'.heap[bs]? = w.heap[bs]? ∧ W'.heap[bn]? = w.heap[bn]?)
theorem KpC.t {w : World} {bs bn : Nat} {A B C : World} (h : KpC w bs bn A B) (h' : KpC w bs bn B C) : KpC w bs bn A C := fun x => h' (h x)

set_option maxRecDepth 8000 in
set_option maxHeartbeats 400000 in
theorem chunk_any (p : Option Addr) (l cp c : Nat) (w : World) (hc : 1 ≤ c) (hc' : c < 1000000) :
    Calls Tryz.prog 102 #[.slice p l cp, .int .i64 c] w fun e w' => e = .returned (.func (.func 120) #[] #[.pointer (some ⟨w.heap.size, 0, none⟩), .pointer (some ⟨w.heap.size + 1, 0, none⟩)]) ∧
      w' = (w.alloc (.cells #[.slice p l cp] 33)).alloc (.cells #[.int .i64 c] 3) := by
  have hmf := mkf
  have hcI : ¬ (c : Int) < 1 := by omega
  go_enter Tryz.func102, Tryz.ntmps102
  go_wp2
  go_ret
  exact ⟨rfl, rfl⟩

set_option maxRecDepth 8000 in
set_option maxHeartbeats 2000000 in
theorem chunk1_in (l bs bn g o L cp c N : Nat) (hL : L < 1099511627776) (hcp : L ≤ cp) (hc : 1 ≤ c) (hc' : c < 1000000) (hN : N = pieces L c) (J Jx : List Nat → World → Prop) (w0 : World)
    (hbs : w0.heap[bs]? = some (.cells #[.slice (some ⟨g, o, none⟩) L cp] 33 (0, 0))) (hbn : w0.heap[bn]? = some (.cells #[.int .i64 c] 3 (0, 0)))
    (n : Nat) (hn : 1 ≤ n)
    (hY : ∀ k W, k < N → J (List.range k) W → YieldAt Fence.wide (n - 1) Tryz.prog l #[pieceV g o L c k] W fun e W' =>
      (e = .returned (.bool true) ∧ J (List.range (k + 1)) W' ∧ KpC w0 bs bn W W') ∨ (e = .returned (.bool false) ∧ Jx (List.range (k + 1)) W'))
    (W : World) (hJ : ∀ s W W' , J s W → W.grownBy W' none → J s W') (hW1 : W.heap[bs]? = w0.heap[bs]?) (hW2 : W.heap[bn]? = w0.heap[bn]?) (h0 : J [] W) :
    CallsIn Fence.wide n Tryz.prog 120 #[.func (.yield l) #[] #[], .pointer (some ⟨bs, 0, none⟩), .pointer (some ⟨bn, 0, none⟩)] W fun e W' => (∃ v, e = .returned v) ∧
      ((∃ xs, xs = List.range N ∧ J xs W') ∨ (∃ pre, (∃ k, k ≤ N ∧ pre = List.range k) ∧ Jx pre W')) := by
  refine callsIn_of_wp Tryz.func120 rfl trivial ?_ rfl
  simp only [Tryz.ntmps120, List.size_toArray, List.length_cons, List.length_nil, Nat.reduceAdd, Nat.reduceSub, Array.replicate_succ, Array.replicate_zero, List.push_toArray, List.append_toArray, List.nil_append, List.cons_append]
  gi_wp2
  gi_loopw [4] (fun i wr => ∃ k : Nat, k ≤ N ∧ i = .int .i64 (k * c : Nat) ∧ Hid (J (List.range k) wr) ∧ Hid (wr.heap[bs]? = w0.heap[bs]? ∧ wr.heap[bn]? = w0.heap[bn]?))
    (fun i _ => L + c - (intOf i).toNat)
  case atStart => exact ⟨0, Nat.zero_le _, by simp, h0, hW1, hW2⟩
  case round =>
    obtain ⟨k, hk, rfl, HJ, HK⟩ := hrel
    have b1 : wr.cell? ⟨bs, 0, none⟩ = some (.slice (some ⟨g, o, none⟩) L cp) := cellOf (HK.out.1.trans hbs) 0
    have b2 : wr.cell? ⟨bn, 0, none⟩ = some (.int .i64 c) := cellOf (HK.out.2.trans hbn) 0
    obtain ⟨ik, hik⟩ : ∃ ik, ik = k * c := ⟨_, rfl⟩
    rw [← hik]
    by_cases hlt : k < N
    · have hik' : ik < L := by
        rw [hN, pieces] at hlt
        have h1 : (k + 1) * c ≤ (L + c - 1) / c * c := Nat.mul_le_mul_right _ hlt
        have h2 := Nat.div_mul_le_self (L + c - 1) c
        rw [Nat.add_mul] at h1
        omega
      have hltI : (ik : Int) < L := by omega
      obtain ⟨ek, hek⟩ : ∃ ek, ek = pieceLen L c k := ⟨_, rfl⟩
      have hek' : ek = min c (L - ik) := by rw [hek, hik]; rfl
      have HMIN : Hid (min (c : Int) ((L - ik : Nat) : Int) = (ek : Int)) := by show _ = _; rw [hek']; omega
      have hek1 : ek ≤ L - ik := by omega
      have hek2 : 0 < ek := by omega
      have hek3 : ¬ ek = 0 := by omega
      have HIK : Hid (ik = k * c) := hik
      have HEK : Hid (ek = pieceLen L c k) := hek
      have HY : Hid (∀ k W, k < N → J (List.range k) W → YieldAt Fence.wide (n - 1) Tryz.prog l #[pieceV g o L c k] W fun e W' =>
        (e = .returned (.bool true) ∧ J (List.range (k + 1)) W' ∧ KpC w0 bs bn W W') ∨ (e = .returned (.bool false) ∧ Jx (List.range (k + 1)) W')) := hY
      clear hik hek hek' hY
      gi_wp2
      gi_region
      rw [HMIN.out]
      obtain ⟨w1, hw1⟩ : ∃ w1, w1 = wr.drew := ⟨_, rfl⟩
      have hJ1 : J (List.range k) w1 := by rw [hw1]; exact hJ _ _ _ HJ.out ⟨rfl, rfl, rfl, Nat.le_refl _, fun _ _ _ => rfl⟩
      have HK1 : Hid (w1.heap[bs]? = w0.heap[bs]? ∧ w1.heap[bn]? = w0.heap[bn]?) := by rw [hw1]; exact HK.out
      rw [← hw1]
      clear hw1 b1 b2
      have b1 : w1.cell? ⟨bs, 0, none⟩ = some (.slice (some ⟨g, o, none⟩) L cp) := cellOf (HK1.out.1.trans hbs) 0
      obtain ⟨fn, tmps, assign, body, hy, hR⟩ := HY.out k w1 hlt hJ1
      unfold pieceV at hy
      rw [← HEK.out, ← HIK.out] at hy
      clear hJ1
      gi_wp2
      refine hR.mono ?_
      rintro e W3 (⟨rfl, hJ3, hk3⟩ | ⟨rfl, hJx3⟩)
      · have HK3 : Hid (W3.heap[bs]? = w0.heap[bs]? ∧ W3.heap[bn]? = w0.heap[bn]?) := hk3 HK1.out
        have HJ3 : Hid (J (List.range (k + 1)) W3) := hJ3
        have b3 : W3.cell? ⟨bn, 0, none⟩ = some (.int .i64 c) := cellOf (HK3.out.2.trans hbn) 0
        clear hJ3 hk3 hy hR
        gi_wp2
        go_roundw
        case rel => exact ⟨k + 1, by omega, by rw [Nat.add_mul, ← HIK.out]; simp, HJ3.out, HK3⟩
        case measure => simp [intOf]; omega
      · have HJx3 : Hid (Jx (List.range (k + 1)) W3) := hJx3
        clear hJx3 hy hR
        gi_wp2
        refine bodyPost_ret (results_none rfl _ _ _) rfl ?_
        exact ⟨⟨_, rfl⟩, .inr ⟨_, ⟨k + 1, by omega, rfl⟩, HJx3.out⟩⟩
    · obtain rfl : k = N := by omega
      have hge : ¬ (ik : Int) < L := by
        have h1 : L ≤ pieces L c * c := by
          unfold pieces
          have h2 := Nat.div_add_mod (L + c - 1) c
          have h3 := Nat.mod_lt (L + c - 1) hc
          rw [Nat.mul_comm] at h2
          omega
        rw [← hN] at h1
        omega
      clear hik
      gi_wp2
      go_end0
      first | exact ⟨⟨_, rfl⟩, .inl ⟨_, rfl, HJ.out⟩⟩ | exact ⟨⟨_, rfl⟩, .inl (by rw [← hN]; exact HJ.out)⟩

/-- Chunk's iterator, in the form that a loop over it asks for. -/
theorem chunk_stops (bs bn g o L cp c N : Nat) (hN : N = pieces L c) (hL : L < 1099511627776) (hcp : L ≤ cp) (hc : 1 ≤ c) (hc' : c < 1000000) (w0 : World)
    (hbs : w0.heap[bs]? = some (.cells #[.slice (some ⟨g, o, none⟩) L cp] 33 (0, 0))) (hbn : w0.heap[bn]? = some (.cells #[.int .i64 c] 3 (0, 0))) (n : Nat) (hn : 1 ≤ n) :
    SeqStopsK Fence.wide n Tryz.prog 120 #[.pointer (some ⟨bs, 0, none⟩), .pointer (some ⟨bn, 0, none⟩)] (fun k : Fin N => #[pieceV g o L c k.1]) (KpC w0 bs bn) (fun xs => xs.map Fin.val = List.range N) (fun pre => ∃ k, k ≤ N ∧ pre.map Fin.val = List.range k) N w0 := by
  intro l J Jx W hW hJ _ hY h0
  refine (chunk1_in l bs bn g o L cp c N hL hcp hc hc' hN (fun l W => ∃ l' : List (Fin N), l'.map Fin.val = l ∧ J l' W) (fun l W => ∃ l' : List (Fin N), l'.map Fin.val = l ∧ Jx l' W) w0 hbs hbn n hn ?_ W ?_ (hW.block bs (Array.getElem?_eq_some_iff.1 hbs).1) (hW.block bn (Array.getElem?_eq_some_iff.1 hbn).1) ⟨[], rfl, h0⟩).mono ?_
  · rintro k W1 hk ⟨l', hl', hj⟩
    have hlen : l'.length = k := by have := congrArg List.length hl'; simpa using this
    have hap : (l' ++ [(⟨k, hk⟩ : Fin N)]).map Fin.val = List.range (k + 1) := by rw [List.map_append, hl', List.range_succ]; rfl
    refine (hY l' ⟨k, hk⟩ W1 hj (by omega)).mono ?_
    rintro e W' (⟨rfl, hJ', hK'⟩ | ⟨rfl, hJ'⟩)
    · exact .inl ⟨rfl, ⟨_, hap, hJ'⟩, hK'⟩
    · exact .inr ⟨rfl, _, hap, hJ'⟩
  · rintro s A B ⟨l', hl', hj⟩ hg
    exact ⟨l', hl', hJ l' A B none hj hg (fun r e => by cases e)⟩
  · rintro e W' ⟨he, ⟨xs, rfl, l', hl', hj⟩ | ⟨pre, ⟨k, hk, rfl⟩, l', hl', hj⟩⟩
    · exact ⟨he, .inl ⟨l', hl', hj⟩⟩
    · exact ⟨he, .inr ⟨l', ⟨k, hk, hl'⟩, hj⟩⟩

theorem KpC.b {w0 w : World} {bs bn : Nat} (h1 : bs < w.heap.size) (h2 : bn < w.heap.size) : ∀ (W : World) (l : Nat) (o o' : Obj), w.heap.size ≤ l → W.heap[l]? = some o → o.isCells = false → o.isWalk = false → KpC w0 bs bn W (W.putObj l o') := by
  intro W l o o' hl hx _ _ h
  have hg := grownBy_putObj' W l o'
  have hlt := (Array.getElem?_eq_some_iff.1 hx).1
  exact ⟨(hg.block bs (by omega) (by simp; omega)).trans h.1, (hg.block bn (by omega) (by simp; omega)).trans h.2⟩

end Go.Proofs.YtlcojcldbdikgaaGreatDoor

/-
  putsOf of package wal: the puts of a record.
-/
namespace Go.Proofs.YtlcojcldbdikgaaGreatDoor
open Go.RowKit Go.Maps Go.Sort Go.Shelf

attribute [local go_sem] Oper.semAt_some

/-- A put in memory. -/
structure PutM where
  block : Int
  at_ : Option Addr
  cap : Nat
  bytes : By
def putCells (x : PutM) : List Value := [.int .i64 x.block, .slice x.at_ x.bytes.length x.cap]
/-- Some puts, one behind the other, from q on. -/
def PutsAt (w : World) (q : Option Addr) (ps : List PutM) : Prop :=
  (0 < ps.length → ∃ b o, q = some ⟨b, o, none⟩ ∧ (∃ cs fr, w.heap[b]? = some (.cells cs 77 fr)) ∧ ∀ (j : Nat) (x : PutM), ps[j]? = some x → w.cell? ⟨b, o + j * 2, none⟩ = some (.int .i64 x.block) ∧ w.cell? ⟨b, o + j * 2 + 1, none⟩ = some (.slice x.at_ x.bytes.length x.cap)) ∧
  ∀ (j : Nat) (x : PutM), ps[j]? = some x → x.bytes.length ≤ x.cap ∧ Bytes w x.at_ x.bytes ∧ ∀ b o, x.at_ = some ⟨b, o, none⟩ → ∃ cs fr, w.heap[b]? = some (.cells cs 5 fr)

theorem PutsAt.but {w w' : World} {q : Option Addr} {ps : List PutM} (h : PutsAt w q ps) {S : Nat → Prop} (hb : But S w w') (hS : ∀ k cs t fr, w.heap[k]? = some (.cells cs t fr) → t = 5 ∨ t = 77 → ¬ S k) : PutsAt w' q ps := by
  have key : ∀ (k : Nat) cs t fr, w.heap[k]? = some (.cells cs t fr) → t = 5 ∨ t = 77 → w'.heap[k]? = w.heap[k]? := fun k cs t fr hk ht => hb.block k (Array.getElem?_eq_some_iff.1 hk).1 (hS k cs t fr hk ht)
  refine ⟨fun hp => ?_, fun j x hj => ⟨(h.2 j x hj).1, fun hl => ?_, fun b o e => ?_⟩⟩
  · obtain ⟨b, o, e, ⟨cs, fr, ht⟩, hx⟩ := h.1 hp
    have hk := key b cs _ fr ht (.inr rfl)
    exact ⟨b, o, e, ⟨cs, fr, hk.trans ht⟩, fun j x hj => ⟨(World.cell?_of_block (w := w) hk).trans (hx j x hj).1, (World.cell?_of_block (w := w) hk).trans (hx j x hj).2⟩⟩
  · obtain ⟨b, o, e, hx⟩ := (h.2 j x hj).2.1 hl
    obtain ⟨cs, fr, ht⟩ := (h.2 j x hj).2.2 b o e
    exact ⟨b, o, e, fun j x hj => (World.cell?_of_block (w := w) (key b cs _ fr ht (.inl rfl))).trans (hx j x hj)⟩
  · obtain ⟨cs, fr, ht⟩ := (h.2 j x hj).2.2 b o e
    exact ⟨cs, fr, (key b cs _ fr ht (.inl rfl)).trans ht⟩
theorem PutsAt.below {w w' : World} {q : Option Addr} {ps : List PutM} (h : PutsAt w q ps) (hb : Below w.heap.size w w') : PutsAt w' q ps :=
  h.but (S := fun _ => False) (But.of_below hb) (fun _ _ _ _ _ _ h => h)

theorem Tryz.info77 : (Tryz.prog.info? 77).map (fun i => (i.zero, i.size, i.bytes)) = some (some (.agg #[.int .i64 0, .slice none 0 0]), 2, 32) := by kernel_rfl

theorem CallsIn_on {F : Fence} {n : Nat} {P : Program} {f : Nat} {args : Array Value} {w : World} {v : Ending} {K : Ending → World → Prop}
    (h : CallsIn F n P f args w fun e w' => e = v ∧ w' = w) (hk : K v w) : CallsIn F n P f args w K :=
  h.mono (by rintro e w' ⟨rfl, rfl⟩; exact hk)

/-- Put k of a record's bytes. -/
def putK (g o : Nat) (r : By) (k : Nat) : PutM := ⟨(leN (((r.drop (8 + k * 520))).take 8) : Nat), some ⟨g, o + (8 + k * 520 + 8), none⟩, 512, (r.drop (8 + k * 520 + 8)).take 512⟩

theorem pieceLen_put (n k : Nat) (hk : k < n) : pieceLen (n * 520) 520 k = 520 := by
  unfold pieceLen
  have : (k + 1) * 520 ≤ n * 520 := Nat.mul_le_mul_right _ hk
  omega
theorem pieces_put (n : Nat) : pieces (n * 520) 520 = n := by unfold pieces; omega

theorem fl_length {n : Nat} (f : Nat → PutM) (pre : List (Fin n)) : ((pre.map fun k => putCells (f k.1)).flatten).length = pre.length * 2 := by
  induction pre with
  | nil => rfl
  | cons x pre ih =>
    simp only [List.map_cons, List.flatten_cons, List.length_append, ih, List.length_cons]
    show 2 + _ = _
    omega
theorem flat_get (f : Nat → PutM) (n j : Nat) (hj : j < n) (i : Nat) (hi : i < 2) : (((List.range n).map fun k => putCells (f k)).flatten)[j * 2 + i]? = (putCells (f j))[i]? := by
  have key : ∀ (l : List Nat) (j : Nat) (x : Nat), l[j]? = some x → ((l.map fun k => putCells (f k)).flatten)[j * 2 + i]? = (putCells (f x))[i]? := by
    intro l
    induction l with
    | nil => intro j x h; simp at h
    | cons y l ih =>
      intro j x h
      cases j with
      | zero =>
        simp at h
        subst h
        rw [List.map_cons, List.flatten_cons, Nat.zero_mul, Nat.zero_add, List.getElem?_append_left (by show i < 2; exact hi)]
      | succ j =>
        rw [List.map_cons, List.flatten_cons, List.getElem?_append_right (by show 2 ≤ _; omega)]
        have e : (j + 1) * 2 + i - (putCells (f y)).length = j * 2 + i := by show (j + 1) * 2 + i - 2 = _; omega
        rw [e]
        exact ih j x (by simpa using h)
  exact key _ j j (List.getElem?_range hj)

/-- The row of puts, as far as it is filled. -/
def FillAt (W : World) (gp n : Nat) (xs : List Value) : Prop := ∃ cur, W.heap[gp]? = some (.cells cur 77 (0, 0)) ∧ cur.size = n * 2 ∧ ∀ (j : Nat) x, xs[j]? = some x → cur[j]? = some x
theorem collect_own {β : Type} (n₀ B B' gp n : Nat) (t : TypeId) (k : β → Nat) (f : β → List Value) (w : World) (hw : n₀ ≤ w.heap.size) (hb : n₀ ≤ B') :
    OwnFrom B' (fun (pre : β) W => Boxed W B t (.slice (some ⟨gp, 0, none⟩) (k pre) n) ∧ FillAt W gp n (f pre) ∧ Below n₀ w W) := by
  rintro s X Y row ⟨hv, ⟨cur, hc, r⟩, hB⟩ hg hrow
  have key : ∀ (b : Nat) cs (t : TypeId) fr, X.heap[b]? = some (.cells cs t fr) → Y.heap[b]? = some (.cells cs t fr) := by
    intro b cs t fr hx
    refine (hg.block b (Array.getElem?_eq_some_iff.1 hx).1 (fun e => ?_)).trans hx
    obtain ⟨_, o, ho, hcell⟩ := hrow b e.symm
    rw [hx] at ho; cases ho; cases hcell
  exact ⟨key _ _ _ _ hv, ⟨cur, key _ _ _ _ hc, r⟩, hB.grown hg (Nat.le_trans hw hB.size) (fun j e => by have := (hrow j e).1; omega)⟩

theorem FillAt.made {W : World} {base g n : Nat} (h : W.ownsRow base 77 2 (.slice (some ⟨g, 0, none⟩) 0 n) 0 []) : FillAt W g n [] := by
  rcases h.2 with ⟨e, _⟩ | ⟨g', cap, cur, e, _, hb, _, _, hs, _⟩
  · cases e
  · cases e
    exact ⟨cur, hb, hs, fun j x hj => by simp at hj⟩
theorem FillAt.alloc {W : World} {g n : Nat} {xs : List Value} (h : FillAt W g n xs) (o : Obj) : FillAt (W.alloc o) g n xs := by
  obtain ⟨cur, hc, r⟩ := h
  exact ⟨cur, (Below.heap_alloc _ _ _ (Array.getElem?_eq_some_iff.1 hc).1).trans hc, r⟩

set_option maxRecDepth 8000 in
set_option maxHeartbeats 4000000 in
theorem putsOf_any (g o L cp n : Nat) (r : By) (w : World) (hr : r.length = L) (hb : Bytes w (some ⟨g, o, none⟩) r) (htg : ∃ cs fr, w.heap[g]? = some (.cells cs 5 fr)) (hLc : L ≤ cp) (hL : L < 1099511627776) (hn : leN (r.take 8) = n) (hn1 : 1 ≤ n) (hnL : 8 + n * 520 ≤ L)
    (hbl : ∀ k, k < n → leN (((r.drop (8 + k * 520))).take 8) < 4611686018427387904) :
    Calls Tryz.prog 111 #[.slice (some ⟨g, o, none⟩) L cp] w fun e w' => ∃ g' c', e = .returned (.slice (some ⟨g', 0, none⟩) n c') ∧ Below w.heap.size w w' ∧ n ≤ c' ∧ PutsAt w' (some ⟨g', 0, none⟩) ((List.range n).map (putK g o r)) := by
  obtain ⟨i0, hi, hz0, hz1, hz2⟩ := info_parts Tryz.info77
  have c38 := number_any (some ⟨g, o, none⟩) r cp w (by omega) (by omega) hb (by omega)
  rw [hr, hn] at c38
  have HB : Hid (Bytes w (some ⟨g, o, none⟩) r) := hb
  refine (callsIn_wide (n := 4)).1 ?_
  refine callsIn_of_wp_marks Tryz.func111 rfl trivial ?_ rfl
  simp only [Tryz.ntmps111, List.size_toArray, List.length_cons, List.length_nil, Nat.reduceAdd, Nat.reduceSub, Array.replicate_succ, Array.replicate_zero, List.push_toArray, List.append_toArray, List.nil_append, List.cons_append]
  gi_wp2_with (first
    | (refine ⟨trivial, ?_⟩; gi_at_call 80; refine CallsIn_on (callsIn_wide.2 c38) ?_)
    | (gi_at_call 80; refine CallsIn_on (callsIn_wide.2 c38) ?_)
    | (gi_at_make; refine wpListIn_make_own _ rfl _ _ 75 rfl w.heap.size 77 i0 (.agg #[.int .i64 0, .slice none 0 0]) 2 Tryz.underlying75 hi hz0 hz1 .i64 .i64 _ n rfl rfl rfl (by rw [hz2]; omega) (by unfold maxLen; omega) (Nat.le_refl _) ?_; intro w1 hrow1 hg1)
    | (refine ⟨trivial, ?_⟩; gi_at_call 102; refine Stop.out ?_)
    | (gi_at_call 102; refine Stop.out ?_))
  refine Stop.mk ?_
  obtain ⟨w2, hw2⟩ : ∃ w2, w2 = w1.alloc (.cells #[.slice (some ⟨w.heap.size, 0, none⟩) 0 n] 75) := ⟨_, rfl⟩
  have hB1 : Below w.heap.size w w1 := (Below.refl _ w).grown hg1 (Nat.le_refl _) (by simp)
  have bO2 : Boxed w2 w1.heap.size 75 (.slice (some ⟨w.heap.size, 0, none⟩) 0 n) := by rw [hw2]; exact Boxed.new _ _ _
  have hr2 : FillAt w2 w.heap.size n [] := by rw [hw2]; exact FillAt.alloc (FillAt.made hrow1) _
  have hB2 : Below w.heap.size w w2 := by rw [hw2]; exact hB1.alloc hB1.size _
  have hs2 : w2.heap.size = w1.heap.size + 1 := by rw [hw2]; simp
  rw [← hw2]
  clear hw2 hrow1
  refine (callsIn_wide.2 (chunk_any (some ⟨g, o + 8, none⟩) (n * 520) (cp - 8) 520 w2 (by omega) (by omega))).mono ?_
  rintro e w3' ⟨rfl, hw3⟩
  have bS : w3'.heap[w2.heap.size]? = some (.cells #[.slice (some ⟨g, o + 8, none⟩) (n * 520) (cp - 8)] 33 (0, 0)) := by rw [hw3]; exact (Below.heap_alloc _ _ _ (by simp)).trans (heap_alloc_new _ _)
  have bN : w3'.heap[w2.heap.size + 1]? = some (.cells #[.int .i64 520] 3 (0, 0)) := by
    rw [hw3]
    have := heap_alloc_new (w2.alloc (.cells #[.slice (some ⟨g, o + 8, none⟩) (n * 520) (cp - 8)] 33)) (.cells #[.int .i64 520] 3)
    rw [World.size_alloc] at this
    exact this
  have hs3 : w3'.heap.size = w2.heap.size + 2 := by rw [hw3]; simp
  have bO3 : Boxed w3' w1.heap.size 75 (.slice (some ⟨w.heap.size, 0, none⟩) 0 n) := by rw [hw3]; exact (bO2.alloc _).alloc _
  have hr3 : FillAt w3' w.heap.size n [] := by rw [hw3]; exact FillAt.alloc (FillAt.alloc hr2 _) _
  have hB3 : Below w.heap.size w w3' := by rw [hw3]; exact (hB2.alloc hB2.size _).alloc (by simp; have := hB2.size; omega) _
  clear hw3 bO2 hr2
  have hseq := chunk_stops w2.heap.size (w2.heap.size + 1) g (o + 8) (n * 520) (cp - 8) 520 n (pieces_put n).symm (by omega) (by omega) (by omega) (by omega) w3' bS bN 3 (by omega)
  obtain ⟨fl, hfl⟩ : ∃ fl : List (Fin n) → List Value, fl = fun pre => (pre.map fun k => putCells (putK g o r k.1)).flatten := ⟨_, rfl⟩
  have hfl0 : fl [] = [] := by rw [hfl]; rfl
  have hI := collect_own (β := List (Fin n)) w.heap.size w1.heap.size w3'.heap.size w.heap.size n 75 List.length fl w (Nat.le_refl _) hB3.size
  have HS2 : Hid (w2.heap.size = w1.heap.size + 1) := hs2
  have HS3 : Hid (w3'.heap.size = w2.heap.size + 2) := hs3
  have HFL : Hid (fl = fun pre => (pre.map fun k => putCells (putK g o r k.1)).flatten) := hfl
  clear hfl
  have hKb : ∀ (W : World) (l : Nat) (o o' : Obj), w3'.heap.size ≤ l → W.heap[l]? = some o → o.isCells = false → o.isWalk = false → KpC w3' w2.heap.size (w2.heap.size + 1) W (W.putObj l o') := KpC.b (by omega) (by omega)
  clear hs2 hs3
  gi_wp2_with fail
  refine wpIn_rangeFunc_ownG (α := Fin n) rfl (by omega) (gf := 120) (lb := #[.pointer (some ⟨w2.heap.size, 0, none⟩), .pointer (some ⟨w2.heap.size + 1, 0, none⟩)]) rfl trivial (enters_of Tryz.func120 (by kernel_rfl) rfl)
    hseq KpC.t hKb (Below.refl _ _) (fun _ => rfl) _ (fun _ _ _ => False) hI (fun _ _ _ _ _ hs _ _ => hs) ⟨bO3, by rw [hfl0]; exact hr3, hB3⟩
    (fun x => { tmps := #[.slice (some ⟨g, o, none⟩) L cp, undef, .slice none 0 0, .int .i64 n, .pointer (some ⟨w1.heap.size, 0, none⟩), pieceV g (o + 8) (n * 520) 520 x.1, .slice (some ⟨g, o, none⟩) L cp, .int .i64 n, .int .i64 n, .slice (some ⟨w.heap.size, 0, none⟩) 0 n, .slice (some ⟨g, o, none⟩) L cp, .int .i64 n, .int .i64 (n * 520), .int .i64 (8 + n * 520), .slice (some ⟨g, o + 8, none⟩) (n * 520) (cp - 8), .func (.func 120) #[] #[.pointer (some ⟨w2.heap.size, 0, none⟩), .pointer (some ⟨w2.heap.size + 1, 0, none⟩)], pieceV g (o + 8) (n * 520) 520 x.1, undef, undef, undef, undef, undef, undef, undef, undef, undef], defers := [] }) ?assign ?body ?done ?stop
  case assign =>
    intro l x W K hK
    gi_wp2
    exact hK
  case body =>
    rintro l pre ⟨k, hkn⟩ W ⟨hv, ⟨cur, hcur, hcs, hcx⟩, hB⟩ hlt
    have hc := hv.cell
    have hk1 : (k + 1) * 520 ≤ n * 520 := Nat.mul_le_mul_right _ hkn
    obtain ⟨ao, hao⟩ : ∃ ao, ao = o + 8 + k * 520 := ⟨_, rfl⟩
    have hpv : pieceV g (o + 8) (n * 520) 520 k = .slice (some ⟨g, ao, none⟩) 520 520 := by
      unfold pieceV; rw [pieceLen_put n k hkn, hao]
    have hbk : Bytes W (some ⟨g, ao, none⟩) ((r.drop (8 + k * 520)).take 520) := by
      have := bytes_drop (below_bytes hB HB.out) (8 + k * 520) 520
      rw [← Nat.add_assoc, ← hao] at this
      exact this
    have hlk : ((r.drop (8 + k * 520)).take 520).length = 520 := by rw [List.length_take, List.length_drop]; omega
    obtain ⟨bk, hbkd⟩ : ∃ bk, bk = leN ((r.drop (8 + k * 520)).take 8) := ⟨_, rfl⟩
    have c38' : ∀ W' : World, Below W.heap.size W W' → Calls Tryz.prog 80 #[.slice (some ⟨g, ao, none⟩) 520 520] W' fun e w' => e = .returned (.int .i64 (bk : Nat)) ∧ w' = W' := by
      intro W' hW'
      have e8 : ((r.drop (8 + k * 520)).take 520).take 8 = (r.drop (8 + k * 520)).take 8 := by rw [List.take_take]; rfl
      have := number_any (some ⟨g, ao, none⟩) _ 520 W' (by omega) (by omega) (below_bytes hW' hbk) (by rw [e8]; exact hbl k hkn)
      rw [hlk, e8, ← hbkd] at this
      exact this
    have HBKD : Hid (bk = leN ((r.drop (8 + k * 520)).take 8)) := hbkd
    have HAO : Hid (ao = o + 8 + k * 520) := hao
    have hmix : Tryz.prog.follows .mixedOrders = true := by kernel_rfl
    have hR := (Below.refl W.heap.size W).drew
    simp only [hpv]
    clear hbk hlk hbkd hao hpv
    obtain ⟨x0, hx0⟩ : ∃ x, cur[pre.length * 2]? = some x := ⟨_, Array.getElem?_eq_getElem (by omega)⟩
    obtain ⟨x1, hx1⟩ : ∃ x, cur[pre.length * 2 + 1]? = some x := ⟨_, Array.getElem?_eq_getElem (by omega)⟩
    have hgp : w.heap.size < W.heap.size := (Array.getElem?_eq_some_iff.1 hcur).1
    have hroom : pre.length + 1 ≤ n := by omega
    have hgb : w1.heap.size ≠ w.heap.size := by
      intro e
      have h1 : W.heap[w1.heap.size]? = _ := hv
      rw [e, hcur] at h1
      simp at h1
    obtain ⟨W4, hW4⟩ : ∃ W4, W4 = (W.alloc (.cells #[.int .i64 (bk : Nat), .slice (some ⟨g, ao + 8, none⟩) 512 512] 77)).drew := ⟨_, rfl⟩
    have hB4 : Below W.heap.size W W4 := by rw [hW4]; exact ((Below.refl _ W).alloc (Nat.le_refl _) _).drew
    have hn4 : W4.heap[W.heap.size]? = some (.cells #[.int .i64 (bk : Nat), .slice (some ⟨g, ao + 8, none⟩) 512 512] 77 (0, 0)) := by rw [hW4]; exact heap_alloc_new W _
    have hcur4 : W4.heap[w.heap.size]? = some (.cells cur 77 (0, 0)) := below_block hcur hB4
    have hv4 : Boxed W4 w1.heap.size 75 (.slice (some ⟨w.heap.size, 0, none⟩) pre.length n) := below_block hv hB4
    have y0 : W4.cell? ⟨W.heap.size, 0, none⟩ = some (.int .i64 (bk : Nat)) := cellOf hn4 0
    have y1 : W4.cell? ⟨W.heap.size, 1, none⟩ = some (.slice (some ⟨g, ao + 8, none⟩) 512 512) := cellOf hn4 1
    have z0 : W4.cell? ⟨w.heap.size, pre.length * 2, none⟩ = some x0 := (cellOf hcur4 _).trans hx0
    have f0 : W4.frozen? ⟨w.heap.size, pre.length * 2, none⟩ = false := frozenOf hcur4 _
    have hcur45 : (W4.setCell ⟨w.heap.size, pre.length * 2, none⟩ (.int .i64 (bk : Nat))).heap[w.heap.size]? = some (.cells (cur.setIfInBounds (pre.length * 2) (.int .i64 (bk : Nat))) 77 (0, 0)) := by simp [World.setCell, Array.getElem?_modify, hcur4]
    have z1 : (W4.setCell ⟨w.heap.size, pre.length * 2, none⟩ (.int .i64 (bk : Nat))).cell? ⟨w.heap.size, pre.length * 2 + 1, none⟩ = some x1 := by rw [cellOf hcur45, Array.getElem?_setIfInBounds, if_neg (by omega)]; exact hx1
    have f1 : (W4.setCell ⟨w.heap.size, pre.length * 2, none⟩ (.int .i64 (bk : Nat))).frozen? ⟨w.heap.size, pre.length * 2 + 1, none⟩ = false := frozenOf hcur45 _
    obtain ⟨W5, hW5⟩ : ∃ W5, W5 = (W4.setCell ⟨w.heap.size, pre.length * 2, none⟩ (.int .i64 (bk : Nat))).setCell ⟨w.heap.size, pre.length * 2 + 1, none⟩ (.slice (some ⟨g, ao + 8, none⟩) 512 512) := ⟨_, rfl⟩
    have hcur5 : W5.heap[w.heap.size]? = some (.cells ((cur.setIfInBounds (pre.length * 2) (.int .i64 (bk : Nat))).setIfInBounds (pre.length * 2 + 1) (.slice (some ⟨g, ao + 8, none⟩) 512 512)) 77 (0, 0)) := by rw [hW5]; simp [World.setCell, Array.getElem?_modify, hcur4]
    have hk5 : ∀ b, b ≠ w.heap.size → W5.heap[b]? = W4.heap[b]? := fun b h1 => by rw [hW5]; exact (Below.heap_setCell _ _ _ _ h1).trans (Below.heap_setCell _ _ _ _ h1)
    have hs5 : W5.heap.size = W4.heap.size := by rw [hW5]; simp [World.setCell]
    have hB5 : Below w.heap.size W4 W5 := by rw [hW5]; exact ((Below.refl _ W4).setCell (p := ⟨w.heap.size, pre.length * 2, none⟩) (Nat.le_refl _) _).setCell (p := ⟨w.heap.size, pre.length * 2 + 1, none⟩) (Nat.le_refl _) _
    have hv5 : Boxed W5 w1.heap.size 75 (.slice (some ⟨w.heap.size, 0, none⟩) pre.length n) := (hk5 _ hgb).trans hv4
    have hc4 := hv4.cell
    have hc5 := hv5.cell
    have hf5 := hv5.frozen
    obtain ⟨W6, hW6⟩ : ∃ W6, W6 = W5.setCell ⟨w1.heap.size, 0, none⟩ (.slice (some ⟨w.heap.size, 0, none⟩) (pre.length + 1) n) := ⟨_, rfl⟩
    have HCX : Hid (∀ (j : Nat) x, (fl pre)[j]? = some x → cur[j]? = some x) := hcx
    gi_wp2_with fail
    refine region_done hmix (by kernel_rfl) (fun b ac wd => ac = { tmps := #[.slice (some ⟨g, o, none⟩) L cp, undef, .slice none 0 0, .int .i64 n, .pointer (some ⟨w1.heap.size, 0, none⟩), .slice (some ⟨g, ao, none⟩) 520 520, .slice (some ⟨g, o, none⟩) L cp, .int .i64 n, .int .i64 n, .slice (some ⟨w.heap.size, 0, none⟩) 0 n, .slice (some ⟨g, o, none⟩) L cp, .int .i64 n, .int .i64 (n * 520), .int .i64 (8 + n * 520), .slice (some ⟨g, o + 8, none⟩) (n * 520) (cp - 8), .func (.func 120) #[] #[.pointer (some ⟨w2.heap.size, 0, none⟩), .pointer (some ⟨w2.heap.size + 1, 0, none⟩)], .slice (some ⟨g, ao, none⟩) 520 520, (if b 0 = true then .slice (some ⟨w.heap.size, 0, none⟩) pre.length n else undef), (if b 1 = true then .slice (some ⟨g, ao, none⟩) 520 520 else undef), (if b 2 = true then .int .i64 (bk : Nat) else undef), (if b 3 = true then .slice (some ⟨g, ao, none⟩) 520 520 else undef), (if b 4 = true then .slice (some ⟨g, ao + 8, none⟩) 512 512 else undef), (if b 5 = true then .agg #[.int .i64 (bk : Nat), .slice (some ⟨g, ao + 8, none⟩) 512 512] else undef), (if b 6 = true then .slice (some ⟨W.heap.size, 0, none⟩) 1 1 else undef), (if b 7 = true then .slice (some ⟨w.heap.size, 0, none⟩) (pre.length + 1) n else undef), undef], defers := [] } ∧ wd = (if b 8 = true then W6 else if b 7 = true then W5 else if b 6 = true then W4 else W.drew)) ?_ ?_ ?_
    · exact ⟨rfl, rfl⟩
    · rintro b ac wd i op ⟨rfl, rfl⟩ hcl hop hbi hd
      have h86 : b 8 = true → b 7 = true := fun h => hcl 8 _ rfl h ⟨7, .data⟩ (by simp) rfl
      have h70 : b 7 = true → b 0 = true := fun h => hcl 7 _ rfl h ⟨0, .data⟩ (by simp) rfl
      have h76 : b 7 = true → b 6 = true := fun h => hcl 7 _ rfl h ⟨6, .data⟩ (by simp) rfl
      have h65 : b 6 = true → b 5 = true := fun h => hcl 6 _ rfl h ⟨5, .data⟩ (by simp) rfl
      have h52 : b 5 = true → b 2 = true := fun h => hcl 5 _ rfl h ⟨2, .data⟩ (by simp) rfl
      match i with
      | 0 =>
        simp only [List.getElem?_toArray, List.getElem?_cons_zero, Option.some.injEq] at hop
        subst hop
        have h7 : b 7 = false := by cases h : b 7; rfl; rw [h70 h] at hbi; cases hbi
        have h8 : b 8 = false := by cases h : b 8; rfl; rw [h86 h] at h7; cases h7
        refine op_value rfl rfl (by intro c h; cases h) (v := .slice (some ⟨w.heap.size, 0, none⟩) pre.length n) (w' := if b 8 = true then W6 else if b 7 = true then W5 else if b 6 = true then W4 else W.drew) ?_ ?_
        · rw [h7, h8]
          cases b 6
          · simp [execOp, go_sem, hc]
          · simp [execOp, go_sem, hc4]
        · exact ⟨by simp [Act.put, did], by simp [did]⟩
      | 1 =>
        simp only [List.getElem?_toArray, List.getElem?_cons_zero, List.getElem?_cons_succ, Option.some.injEq] at hop
        subst hop
        refine op_value rfl rfl (by intro c h; cases h) (v := .slice (some ⟨g, ao, none⟩) 520 520) (w' := if b 8 = true then W6 else if b 7 = true then W5 else if b 6 = true then W4 else W.drew) ?_ ?_
        · simp [execOp, go_sem]
        · exact ⟨by simp [Act.put, did], by simp [did]⟩
      | 2 =>
        simp only [List.getElem?_toArray, List.getElem?_cons_zero, List.getElem?_cons_succ, Option.some.injEq] at hop
        subst hop
        have p1 : b 1 = true := hd ⟨1, .data⟩ (by simp) rfl
        have h5 : b 5 = false := by cases h : b 5; rfl; rw [h52 h] at hbi; cases hbi
        have h6 : b 6 = false := by cases h : b 6; rfl; rw [h65 h] at h5; cases h5
        have h7 : b 7 = false := by cases h : b 7; rfl; rw [h76 h] at h6; cases h6
        have h8 : b 8 = false := by cases h : b 8; rfl; rw [h86 h] at h7; cases h7
        refine op_enter rfl rfl (by intro c h; cases h) (f := 80) (args := #[.slice (some ⟨g, ao, none⟩) 520 520]) (w' := W.drew) ?_ ?_
        · rw [h6, h7, h8]
          simp [execOp, go_sem, p1]
        · refine (c38' _ hR).mono ?_
          rintro e w' ⟨rfl, rfl⟩
          exact ⟨_, rfl, by simp [Act.put, did], by simp [did, h6, h7, h8]⟩
      | 3 =>
        simp only [List.getElem?_toArray, List.getElem?_cons_zero, List.getElem?_cons_succ, Option.some.injEq] at hop
        subst hop
        refine op_value rfl rfl (by intro c h; cases h) (v := .slice (some ⟨g, ao, none⟩) 520 520) (w' := if b 8 = true then W6 else if b 7 = true then W5 else if b 6 = true then W4 else W.drew) ?_ ?_
        · simp [execOp, go_sem]
        · exact ⟨by simp [Act.put, did], by simp [did]⟩
      | 4 =>
        simp only [List.getElem?_toArray, List.getElem?_cons_zero, List.getElem?_cons_succ, Option.some.injEq] at hop
        subst hop
        have p3 : b 3 = true := hd ⟨3, .data⟩ (by simp) rfl
        refine op_value rfl rfl (by intro c h; cases h) (v := .slice (some ⟨g, ao + 8, none⟩) 512 512) (w' := if b 8 = true then W6 else if b 7 = true then W5 else if b 6 = true then W4 else W.drew) ?_ ?_
        · simp [execOp, go_sem, p3]
        · exact ⟨by simp [Act.put, did], by simp [did]⟩
      | 5 =>
        simp only [List.getElem?_toArray, List.getElem?_cons_zero, List.getElem?_cons_succ, Option.some.injEq] at hop
        subst hop
        have p2 : b 2 = true := hd ⟨2, .data⟩ (by simp) rfl
        have p4 : b 4 = true := hd ⟨4, .data⟩ (by simp) rfl
        refine op_value rfl rfl (by intro c h; cases h) (v := .agg #[.int .i64 (bk : Nat), .slice (some ⟨g, ao + 8, none⟩) 512 512]) (w' := if b 8 = true then W6 else if b 7 = true then W5 else if b 6 = true then W4 else W.drew) ?_ ?_
        · simp [execOp, go_sem, p2, p4]
        · exact ⟨by simp [Act.put, did], by simp [did]⟩
      | 6 =>
        simp only [List.getElem?_toArray, List.getElem?_cons_zero, List.getElem?_cons_succ, Option.some.injEq] at hop
        subst hop
        have p5 : b 5 = true := hd ⟨5, .data⟩ (by simp) rfl
        have h7 : b 7 = false := by cases h : b 7; rfl; rw [h76 h] at hbi; cases hbi
        have h8 : b 8 = false := by cases h : b 8; rfl; rw [h86 h] at h7; cases h7
        refine op_value rfl rfl (by intro c h; cases h) (v := .slice (some ⟨W.heap.size, 0, none⟩) 1 1) (w' := W4) ?_ ?_
        · rw [hbi, h7, h8]
          simp [execOp, go_sem, p5, hW4]
        · exact ⟨by simp [Act.put, did], by simp [did, h7, h8]⟩
      | 7 =>
        simp only [List.getElem?_toArray, List.getElem?_cons_zero, List.getElem?_cons_succ, Option.some.injEq] at hop
        subst hop
        have p0 : b 0 = true := hd ⟨0, .data⟩ (by simp) rfl
        have p6 : b 6 = true := hd ⟨6, .data⟩ (by simp) rfl
        have h8 : b 8 = false := by cases h : b 8; rfl; rw [h86 h] at hbi; cases hbi
        refine op_value rfl rfl (by intro c h; cases h) (v := .slice (some ⟨w.heap.size, 0, none⟩) (pre.length + 1) n) (w' := W5) ?_ ?_
        · rw [hbi, h8, p6]
          simp [execOp, go_sem, p0, hroom, y0, y1, storeCells, z0, f0, z1, f1, hW5]
        · exact ⟨by simp [Act.put, did], by simp [did, h8]⟩
      | 8 =>
        simp only [List.getElem?_toArray, List.getElem?_cons_zero, List.getElem?_cons_succ, Option.some.injEq] at hop
        subst hop
        have p7 : b 7 = true := hd ⟨7, .data⟩ (by simp) rfl
        refine op_skip rfl rfl (by intro c h; cases h) (w' := W6) ?_ ?_
        · rw [hbi, p7]
          simp [execOp, go_sem, hc5, hf5, hW6]
        · exact ⟨by simp [Act.put, did], by simp [did]⟩
      | k + 9 => simp at hop
    · rintro b ac wd ⟨rfl, rfl⟩ hall
      have h8 := hall 8 (by simp)
      rw [if_pos h8]
      have hv6 : Boxed W6 w1.heap.size 75 (.slice (some ⟨w.heap.size, 0, none⟩) (pre.length + 1) n) := by rw [hW6]; exact hv5.set _
      have hk6 : ∀ b, b ≠ w1.heap.size → W6.heap[b]? = W5.heap[b]? := fun b h1 => by rw [hW6]; exact Below.heap_setCell _ _ _ _ h1
      have hB6 : Below w.heap.size W W6 := by
        have h1 : Below w.heap.size W W5 := (hB4.mono hB.size).trans hB5
        rw [hW6]
        exact h1.setCell (p := ⟨w1.heap.size, 0, none⟩) (by have := hB1.size; exact this) _
      have hK6 : KeepsOthers W W6 := by
        rw [hW6, hW5, hW4]
        exact ((((KeepsOthers.alloc W _).trans (KeepsOthers.drew _)).trans (KeepsOthers.setCell _ _ _)).trans (KeepsOthers.setCell _ _ _)).trans (KeepsOthers.setCell _ _ _)
      refine ⟨hK6.from _, ?_, ?_, ?_, hB.trans hB6⟩
      · intro hK
        have hlt : ∀ b o, W.heap[b]? = some o → w1.heap.size < b → W6.heap[b]? = W.heap[b]? := fun b o hb h1 => by
          have h2 := hB1.size
          rw [hk6 b (by omega), hk5 b (by omega), below_block hb hB4, hb]
        have hs2 := HS2.out
        exact ⟨(hlt _ _ (hK.1.trans bS) (by omega)).trans hK.1, (hlt _ _ (hK.2.trans bN) (by omega)).trans hK.2⟩
      · simpa using hv6
      · refine ⟨_, (hk6 _ hgb.symm).trans hcur5, by simp [hcs], fun j x hj => ?_⟩
        have hfl : fl (pre ++ [⟨k, hkn⟩]) = fl pre ++ putCells (putK g o r k) := by rw [HFL.out]; simp
        have hpk : putCells (putK g o r k) = [.int .i64 (bk : Nat), .slice (some ⟨g, ao + 8, none⟩) 512 512] := by
          have h1 : ((r.drop (8 + k * 520 + 8)).take 512).length = 512 := by rw [List.length_take, List.length_drop]; omega
          unfold putCells putK
          simp only [h1]
          rw [← HBKD.out, show o + (8 + k * 520 + 8) = ao + 8 by rw [HAO.out]; omega]
        have hfn : (fl pre).length = pre.length * 2 := by rw [HFL.out]; exact fl_length _ _
        rw [hfl, hpk, List.getElem?_append] at hj
        split at hj
        · rename_i hjl
          rw [Array.getElem?_setIfInBounds, if_neg (by omega), Array.getElem?_setIfInBounds, if_neg (by omega)]
          exact HCX.out j x hj
        · rename_i hjl
          have hj2 : j = pre.length * 2 ∨ j = pre.length * 2 + 1 := by
            have := (List.getElem?_eq_some_iff.1 hj).1
            simp at this
            omega
          rcases hj2 with rfl | rfl
          · rw [hfn, Nat.sub_self] at hj
            rw [Array.getElem?_setIfInBounds, if_neg (by omega), Array.getElem?_setIfInBounds, if_pos rfl, if_pos (by omega)]
            simpa using hj
          · rw [hfn, show pre.length * 2 + 1 - pre.length * 2 = 1 by omega] at hj
            rw [Array.getElem?_setIfInBounds, if_pos rfl, if_pos (by simp; omega)]
            simpa using hj
  case done =>
    rintro D ys W hD hys ⟨hv, ⟨cur, hcur, hcs, hcx⟩, hB⟩ hK
    have hc := hv.cell
    have hlen : ys.length = n := by have := congrArg List.length hys; simpa using this
    rw [hlen] at hc
    have HF : Hid (W.heap[w.heap.size]? = some (.cells cur 77 (0, 0)) ∧ cur.size = n * 2 ∧ ∀ (j : Nat) x, (fl ys)[j]? = some x → cur[j]? = some x) := ⟨hcur, hcs, hcx⟩
    have HB9 : Hid (Below w.heap.size w W) := hB
    clear hcur hcs hcx hB
    gi_wp2
    refine ⟨by simp, .inl ⟨_, _, rfl, run_takeDeferred hK, ?_⟩⟩
    have hdD : w.heap.size ≤ D := by have := hB3.size; have := HS3.out; omega
    have hB' : Below w.heap.size w (W.putObj D (.deferred none)) := HB9.out.trans (belowK_b (w := w) (Nat.le_refl _) W D _ _ hdD hK rfl rfl)
    refine ⟨_, results_tmp rfl _ _ _, _, _, rfl, hB', Nat.le_refl _, ?_⟩
    obtain ⟨hcur, hcs, hcx⟩ := HF.out
    have hcur' : (W.putObj D (.deferred none)).heap[w.heap.size]? = some (.cells cur 77 (0, 0)) := by
      refine ((grownBy_putObj' W D (.deferred none)).block _ (Array.getElem?_eq_some_iff.1 hcur).1 (fun e => ?_)).trans hcur
      simp at e
      rw [e, hK] at hcur
      cases hcur
    have hflv : fl ys = ((List.range n).map fun k => putCells (putK g o r k)).flatten := by
      rw [HFL.out, ← hys]
      simp [Function.comp_def]
    refine ⟨fun _ => ⟨w.heap.size, 0, rfl, ⟨_, _, hcur'⟩, fun j x hj => ?_⟩, fun j x hj => ?_⟩
    · have hjn : j < n := by have := (List.getElem?_eq_some_iff.1 hj).1; simpa using this
      have hx : x = putK g o r j := by rw [List.getElem?_map, List.getElem?_range hjn] at hj; simpa using hj.symm
      have h0 : (fl ys)[j * 2]? = (putCells x)[0]? := by rw [hflv, hx]; exact flat_get _ _ _ (by omega) 0 (by omega)
      have h1 : (fl ys)[j * 2 + 1]? = (putCells x)[1]? := by rw [hflv, hx]; exact flat_get _ _ _ (by omega) 1 (by omega)
      rw [Nat.zero_add]
      exact ⟨(cellOf hcur' _).trans (hcx _ _ (h0.trans rfl)), (cellOf hcur' _).trans (hcx _ _ (h1.trans rfl))⟩
    · have hjn : j < n := by have := (List.getElem?_eq_some_iff.1 hj).1; simpa using this
      have hx : x = putK g o r j := by rw [List.getElem?_map, List.getElem?_range hjn] at hj; simpa using hj.symm
      subst hx
      have hk1 : (j + 1) * 520 ≤ n * 520 := Nat.mul_le_mul_right _ hjn
      have hl : ((r.drop (8 + j * 520 + 8)).take 512).length = 512 := by rw [List.length_take, List.length_drop]; omega
      refine ⟨by show ((r.drop (8 + j * 520 + 8)).take 512).length ≤ 512; omega, bytes_drop (below_bytes hB' HB.out) (8 + j * 520 + 8) 512, fun b o' e => ?_⟩
      cases e
      obtain ⟨cs, fr, ht⟩ := htg
      exact ⟨cs, fr, below_block ht hB'⟩
  case stop =>
    rintro D c pre W _ _ h _
    exact h.elim

end Go.Proofs.YtlcojcldbdikgaaGreatDoor

/-
  takes and take of package wal.
-/
namespace Go.Proofs.YtlcojcldbdikgaaGreatDoor
open Go.RowKit Go.Maps Go.Sort Go.Shelf

instance : Inhabited PutM := ⟨⟨0, none, 0, []⟩⟩

/-- A put that a volume of nb blocks takes. -/
def goodPut (nb : Nat) (x : PutM) : Bool := decide (0 ≤ x.block ∧ x.block < nb) && decide (x.bytes.length = 512)

theorem Tryz.agg77 (w : World) : (isAgg 77).run Tryz.prog w = .ok true w := by kernel_rfl
theorem Tryz.siz77 (w : World) : (Go.sizeOf 77).run Tryz.prog w = .ok 2 w := by kernel_rfl

set_option maxRecDepth 8000 in
set_option maxHeartbeats 1000000 in
theorem wrong_any (x : PutM) (bx v : Nat) (commits turn next : Nat) (f : Option Nat) (count : Int) (d : DS) (w : World) (h : IsVol w v (dp d.a) commits turn next f count) (hd : Dev w d) (hn : 16 ≤ d.n)
    (hbx : w.cell? ⟨bx, 0, none⟩ = some (dp v)) :
    Calls Tryz.prog 98 #[.agg #[.int .i64 x.block, .slice x.at_ x.bytes.length x.cap], .pointer (some ⟨bx, 0, none⟩)] w fun e w' => e = .returned (.bool (!goodPut (nbOf d.n) x)) ∧ Below w.heap.size w w' := by
  obtain ⟨w1, hw1⟩ : ∃ w1, w1 = w.alloc (.cells #[.int .i64 x.block, .slice x.at_ x.bytes.length x.cap] 77) := ⟨_, rfl⟩
  have hB1 : Below w.heap.size w w1 := by rw [hw1]; exact (Below.refl _ w).alloc (Nat.le_refl _) _
  have hb1 : w1.heap[w.heap.size]? = some (.cells #[.int .i64 x.block, .slice x.at_ x.bytes.length x.cap] 77 (0, 0)) := by rw [hw1]; exact heap_alloc_new w _
  have c12 := vHas x.block v commits turn next f count d w1 (h.below hB1) (hd.below hB1) hn
  have y0 := cellOf hb1 0
  have y1 := cellOf hb1 1
  simp at y0 y1
  have y2 : w1.cell? ⟨bx, 0, none⟩ = some (dp v) := (hB1.cell (p := ⟨bx, 0, none⟩) (cell_lt hbx)).trans hbx
  have HB1 : Hid (Below w.heap.size w w1) := hB1
  unfold goodPut
  clear h hd hB1 hb1 hbx
  subst hw1
  cases hg : decide (0 ≤ x.block ∧ x.block < (nbOf d.n : Int))
  · rw [hg] at c12
    clear hg
    go_enter Tryz.func98, Tryz.ntmps98
    go_wp2_with (go_at_call 42; refine Calls_on c12 ?_)
    go_ret
    exact ⟨rfl, HB1.out⟩
  · rw [hg] at c12
    clear hg
    obtain ⟨bb, hbb⟩ : ∃ bb, bb = ((x.bytes.length : Int) != 512) := ⟨_, rfl⟩
    have HBB : Hid (bb = !decide (x.bytes.length = 512)) := by
      show _ = _
      rw [hbb]
      by_cases h : x.bytes.length = 512
      · simp [h]
      · have : ¬ (x.bytes.length : Int) = 512 := by omega
        simp [h, this]
    go_enter Tryz.func98, Tryz.ntmps98
    go_wp2_with (go_at_call 42; refine Calls_on c12 ?_)
    go_ret
    refine ⟨?_, HB1.out⟩
    simp only [Bool.true_and]
    rw [← HBB.out, hbb]
    rfl

theorem agg_put (x : PutM) : (Value.agg (putCells x).toArray) = .agg #[.int .i64 x.block, .slice x.at_ x.bytes.length x.cap] := rfl

theorem contains_some (ps : List PutM) (b o c bx v : Nat) (commits turn next : Nat) (f : Option Nat) (count : Int) (d : DS) (w : World) (h : IsVol w v (dp d.a) commits turn next f count) (hd : Dev w d) (hn : 16 ≤ d.n)
    (hbx : w.cell? ⟨bx, 0, none⟩ = some (dp v)) (hps : PutsAt w (some ⟨b, o, none⟩) ps) (hpos : 0 < ps.length) (hbig : ps.length ≤ 9223372036854775807) :
    Calls Tryz.prog 99 #[.slice (some ⟨b, o, none⟩) ps.length c, .func (.func 98) #[] #[.pointer (some ⟨bx, 0, none⟩)]] w fun e w' => e = .returned (.bool (!ps.all (goodPut (nbOf d.n)))) ∧ Below w.heap.size w w' := by
  obtain ⟨b', o', e, _, hx⟩ := hps.1 hpos
  cases e
  obtain ⟨x0, hx0⟩ : ∃ x, ps[0]? = some x := ⟨_, List.getElem?_eq_getElem hpos⟩
  have hblt : b < w.heap.size := cell_lt (hx 0 x0 hx0).1
  have := AnyQ.slices_ContainsFunc Tryz.containsA 2 Tryz.agg77 Tryz.siz77 putCells (fun _ => rfl) (fun x => !goodPut (nbOf d.n) x) 98 #[.pointer (some ⟨bx, 0, none⟩)] (enters_of Tryz.func98 (by kernel_rfl) rfl) b o ps.length c ps w
    (fun W x hB => by
      refine (wrong_any x bx v commits turn next f count d W (h.below hB) (hd.below hB) hn ((hB.cell (p := ⟨bx, 0, none⟩) (cell_lt hbx)).trans hbx)).mono ?_
      rintro e w' ⟨rfl, hB'⟩
      exact ⟨rfl, hB.trans (hB'.mono hB.size)⟩) (Nat.le_refl _) hbig hblt
    (fun j hj i u hu => by
      have hj' : ps[j]? = some ps[j]! := by rw [List.getElem?_eq_getElem hj, getElem!_pos ps j hj]
      have hxx := hx j _ hj'
      clear hj'
      generalize ps[j]! = y at hu hxx
      match i, hu with
      | 0, hu => simp [putCells] at hu; rw [← hu]; exact hxx.1
      | 1, hu => simp [putCells] at hu; rw [← hu]; exact hxx.2
      | k + 2, hu => simp [putCells] at hu)
  refine (show Calls Tryz.prog 99 _ _ _ from this).mono ?_
  rintro e w' ⟨rfl, hB⟩
  refine ⟨?_, hB⟩
  rw [List.take_length, List.not_all_eq_any_not]

set_option maxRecDepth 8000 in
set_option maxHeartbeats 1000000 in
theorem index_nil (v : Value) (w : World) : Calls Tryz.prog 118 #[.slice none 0 0, v] w fun e w' => e = .returned (.int .i64 (-1)) ∧ w' = w := by
  go_enter Tryz.func118, Tryz.ntmps118
  go_wp2_with fail
  go_loop [8] (fun ii => ii = .int .i64 0) (fun _ => 0)
  case atStart => rfl
  case round =>
    subst hrel
    go_wp2
    go_ret
    exact ⟨rfl, rfl⟩

set_option maxRecDepth 8000 in
set_option maxHeartbeats 1000000 in
theorem contains_nil (v : Value) (w : World) : Calls Tryz.prog 99 #[.slice none 0 0, v] w fun e w' => e = .returned (.bool false) ∧ w' = w := by
  have c65 := index_nil v w
  go_enter Tryz.func99, Tryz.ntmps99
  go_wp2_with (go_at_call 118; refine Calls_on c65 ?_)
  go_ret
  exact ⟨rfl, rfl⟩

/-- takes. -/
def takesB (nb : Nat) (ps : List PutM) : Bool := decide (ps.length ≤ nb) && ps.all (goodPut nb)

set_option maxRecDepth 8000 in
set_option maxHeartbeats 1000000 in
theorem takes_any (q : Option Addr) (ps : List PutM) (c v : Nat) (commits turn next : Nat) (f : Option Nat) (count : Int) (d : DS) (w : World) (h : IsVol w v (dp d.a) commits turn next f count) (hd : Dev w d) (hn : 16 ≤ d.n)
    (hps : PutsAt w q ps) (hq : ps.length = 0 → q = none ∧ c = 0) (hbig : ps.length ≤ 9223372036854775807) :
    Calls Tryz.prog 68 #[dp v, .slice q ps.length c] w fun e w' => e = .returned (.bool (takesB (nbOf d.n) ps)) ∧ Below w.heap.size w w' := by
  have hmf := mkf
  have hB1 : Below w.heap.size w (w.alloc (.cells #[dp v] 24)) := (Below.refl _ w).alloc (Nat.le_refl _) _
  have hbx : (w.alloc (.cells #[dp v] 24)).cell? ⟨w.heap.size, 0, none⟩ = some (dp v) := cellOf (heap_alloc_new w _) 0
  have hv1 := h.below hB1
  have hd1 := hd.below hB1
  have c9 := vBlocks v commits turn next f count d _ hv1 hd1 hn
  have HB1 : Hid (Below w.heap.size w (w.alloc (.cells #[dp v] 24))) := hB1
  have hle := hd.hn
  obtain ⟨nb, hnb⟩ : ∃ nb, nbOf d.n = nb := ⟨_, rfl⟩
  rw [hnb] at c9
  rw [hnb]
  have c49 : Calls Tryz.prog 99 #[.slice q ps.length c, .func (.func 98) #[] #[.pointer (some ⟨w.heap.size, 0, none⟩)]] (w.alloc (.cells #[dp v] 24)) fun e w' => e = .returned (.bool (!ps.all (goodPut nb))) ∧ Below w.heap.size w w' := by
    rcases Nat.eq_zero_or_pos ps.length with h0 | hpos
    · obtain ⟨rfl, rfl⟩ := hq h0
      obtain rfl : ps = [] := List.eq_nil_of_length_eq_zero h0
      refine (contains_nil _ _).mono ?_
      rintro e w' ⟨rfl, rfl⟩
      exact ⟨rfl, hB1⟩
    · obtain ⟨b, o, rfl, _, _⟩ := hps.1 hpos
      have hps1 := hps.below hB1
      have := contains_some ps b o c w.heap.size v commits turn next f count d _ hv1 hd1 hn hbx hps1 hpos hbig
      rw [hnb] at this
      refine this.mono ?_
      rintro e w' ⟨rfl, hB⟩
      exact ⟨rfl, hB1.trans (hB.mono (by simp))⟩
  unfold takesB
  clear h hd hps hq hv1 hd1 hB1 hnb
  by_cases hl : ps.length ≤ nb
  · have hlI : (ps.length : Int) ≤ nb := by omega
    generalize ps.all (goodPut nb) = al at *
    rw [decide_eq_true hl]
    go_enter Tryz.func68, Tryz.ntmps68
    go_wp2_with (first | (go_at_call 33; refine Calls_on c9 ?_) | (go_at_call 99; refine c49.mono ?_; rintro e w2 ⟨rfl, hB2⟩; clear c49))
    go_ret
    exact ⟨by simp, hB2⟩
  · have hlI : ¬ (ps.length : Int) ≤ nb := by omega
    rw [decide_eq_false hl]
    go_enter Tryz.func68, Tryz.ntmps68
    go_wp2_with (go_at_call 33; refine Calls_on c9 ?_)
    go_ret
    exact ⟨rfl, HB1.out⟩

end Go.Proofs.YtlcojcldbdikgaaGreatDoor

/-
  The blocks that the log holds: the map 'fresh' of a volume; slices.Clone of bytes; take.
-/
namespace Go.Proofs.YtlcojcldbdikgaaGreatDoor
open Go.RowKit Go.Maps Go.Sort Go.Shelf

/-- How an element of the map reads: as the slice itself. -/
def slElem : Value → Option (DataW Value × List MemPlace)
  | .slice p n c => some (.held (.slice p n c), [])
  | _ => none
theorem slElem_inv {v : Value} {z : DataW Value × List MemPlace} (h : slElem v = some z) : ∃ p n c, v = .slice p n c ∧ z = (.held (.slice p n c), []) := by
  unfold slElem at h
  split at h
  · cases h; exact ⟨_, _, _, rfl, rfl⟩
  · cases h
def slD (p : Option Addr) (n c : Nat) : DataW Value := .held (.slice p n c)
theorem Tryz.zero33 (w : World) : (zeroValue 33).run Tryz.prog w = .ok (.slice none 0 0) w := by kernel_rfl
theorem lit_key {i : Nat} (h : i < 9223372036854775808) : WideAt.IsKeyLit (Lit.int .i64 (i : Int)) := keyed.key (key_i64 h)
theorem lit_ne {i j : Nat} (h : i ≠ j) : Lit.int .i64 (i : Int) ≠ Lit.int .i64 (j : Int) := by
  intro e; cases e; exact h rfl

theorem slook_ok {w : World} {m nn : Nat} {D : DataW Value} (h : w.ownsMap Tryz.prog 3 slElem m nn D) {i : Nat} (hi : i < 9223372036854775808) :
    ∃ p n c, (Instr.lookup 83 (.map (some m)) (.int .i64 i) true).run Tryz.prog w = .ok (.tuple #[.slice p n c, .bool (Maps.has D (.int .i64 i))]) w ∧ D.atKey (.int .i64 i) (slD none 0 0) = slD p n c := by
  obtain ⟨v, ps, hrun, hv⟩ := h.look_ok keyed Tryz.underlying83 (Tryz.zero33 w) (zd := slD none 0 0) (zp := []) rfl (key_i64 hi)
  obtain ⟨p, n, c, rfl, hz⟩ := slElem_inv hv
  simp only [Prod.mk.injEq] at hz
  exact ⟨p, n, c, hrun, hz.1⟩
theorem sput_run {w : World} {m nn : Nat} {D : DataW Value} (h : w.ownsMap Tryz.prog 3 slElem m nn D) (hn : nn < maxLen) {i : Nat} (hi : i < 9223372036854775808) (p : Option Addr) (n c : Nat) :
    ∃ w', (Instr.mapUpdate 83 (.map (some m)) (.int .i64 i) (.slice p n c)).run Tryz.prog w = .ok () w' ∧ w'.ownsMap Tryz.prog 3 slElem m (nn + 1) (D.put (.int .i64 i) (slD p n c)) ∧ w.mapTurned w' m :=
  h.store keyed Tryz.underlying83 hn (key_i64 hi) (d := slD p n c) (ps := []) rfl

/-- The map holds just these blocks. -/
structure Fresh (w : World) (f nf : Nat) (F : DataW Value) (fr : Nat → Option By) : Prop where
  own : w.ownsMap Tryz.prog 3 slElem f nf F
  has : ∀ i : Nat, i < 1000000000 → Maps.has F (.int .i64 i) = (fr i).isSome
  val : ∀ (i : Nat) b, i < 1000000000 → fr i = some b → b.length = 512 ∧ ∃ g c, F.atKey (.int .i64 i) (slD none 0 0) = slD (some ⟨g, 0, none⟩) 512 c ∧ 512 ≤ c ∧ Bytes w (some ⟨g, 0, none⟩) b ∧ ∃ cs fr, w.heap[g]? = some (.cells cs 5 fr)
  rng : ∀ x : Int, Maps.has F (.int .i64 x) = true → 0 ≤ x ∧ x < 1000000000

theorem Fresh.empty {w : World} {f : Nat} (h : w.heap[f]? = some (.map #[] 0)) : Fresh w f 0 (.map []) (fun _ => none) :=
  ⟨⟨#[], 0, h, ⟨by simp, MapKept.stamped_empty 0, by simp⟩, Nat.le_refl _, rfl⟩, fun _ _ => rfl, fun _ _ _ h => (by cases h), fun x h => absurd (show false = true from h) (by decide)⟩
theorem Fresh.but {w w' : World} {f nf : Nat} {F : DataW Value} {fr : Nat → Option By} (h : Fresh w f nf F fr) {S : Nat → Prop} (hb : But S w w') (hf : ¬ S f) (hS : ∀ k cs fr, w.heap[k]? = some (.cells cs 5 fr) → ¬ S k) : Fresh w' f nf F fr := by
  have hlt := h.own.lt
  refine ⟨?_, h.has, fun i b hi hfr => ?_, h.rng⟩
  · obtain ⟨es, clock, he, r⟩ := h.own
    exact ⟨es, clock, (hb.block f hlt hf).trans he, r⟩
  · obtain ⟨hl, g, c, ha, hc, hbb, cs, fr, ht⟩ := h.val i b hi hfr
    have hk := hb.block g (Array.getElem?_eq_some_iff.1 ht).1 (hS g cs fr ht)
    refine ⟨hl, g, c, ha, hc, fun hp => ?_, cs, fr, hk.trans ht⟩
    obtain ⟨g', o', e, hx⟩ := hbb hp
    cases e
    exact ⟨g, 0, rfl, fun j x hj => (World.cell?_of_block (w := w) hk).trans (hx j x hj)⟩
theorem Fresh.below {w w' : World} {f nf : Nat} {F : DataW Value} {fr : Nat → Option By} (h : Fresh w f nf F fr) (hb : Below w.heap.size w w') : Fresh w' f nf F fr :=
  h.but (S := fun _ => False) (But.of_below hb) (fun h => h) (fun _ _ _ _ h => h)
/-- One more block. -/
theorem Fresh.put {w w' : World} {f nf : Nat} {F : DataW Value} {fr : Nat → Option By} (h : Fresh w f nf F fr) {i : Nat} (hi : i < 1000000000) {g c : Nat} {b : By} (hl : b.length = 512) (hc : 512 ≤ c) (hb : Bytes w (some ⟨g, 0, none⟩) b) (htg : ∃ cs fr, w.heap[g]? = some (.cells cs 5 fr))
    (hown : w'.ownsMap Tryz.prog 3 slElem f (nf + 1) (F.put (.int .i64 i) (slD (some ⟨g, 0, none⟩) 512 c))) (hbut : But (fun k => k = f) w w') : Fresh w' f (nf + 1) (F.put (.int .i64 i) (slD (some ⟨g, 0, none⟩) 512 c)) (fun j => if j = i then some b else fr j) := by
  have hne : ∀ (g : Nat) (b : By), 0 < b.length → Bytes w (some ⟨g, 0, none⟩) b → Bytes w' (some ⟨g, 0, none⟩) b := by
    intro g b hp hb _
    obtain ⟨g', o', e, hx⟩ := hb hp
    refine ⟨g', o', e, fun j x hj => (World.cell?_of_block (w := w) (hbut.block g' (cell_lt (hx j x hj)) ?_)).trans (hx j x hj)⟩
    rintro rfl
    obtain ⟨es, clock, hm, _⟩ := h.own
    have := hx j x hj
    simp [World.cell?, hm] at this
  have tag : ∀ g : Nat, (∃ cs fr, w.heap[g]? = some (.cells cs 5 fr)) → ∃ cs fr, w'.heap[g]? = some (.cells cs 5 fr) := by
    rintro g ⟨cs, fr, ht⟩
    refine ⟨cs, fr, (hbut.block g (Array.getElem?_eq_some_iff.1 ht).1 ?_).trans ht⟩
    rintro rfl
    obtain ⟨es, clock, hm, _⟩ := h.own
    rw [hm] at ht
    cases ht
  refine ⟨hown, fun j hj => ?_, fun j b' hj hfr => ?_, fun x hx => ?_⟩
  · by_cases hji : j = i
    · subst hji; rw [has_put_same h.own.isMap (lit_key (by omega))]; simp
    · rw [has_put_other (lit_ne hji)]; simp [hji]; exact h.has j hj
  · by_cases hji : j = i
    · subst hji
      simp at hfr
      subst hfr
      exact ⟨hl, g, c, atKey_put_same h.own.isMap (lit_key (by omega)) _ _, hc, hne g b (by omega) hb, tag g htg⟩
    · simp [hji] at hfr
      obtain ⟨hl', g', c', ha, hc', hb', ht'⟩ := h.val j b' hj hfr
      exact ⟨hl', g', c', (atKey_put_other (lit_ne hji) _ _).trans ha, hc', hne g' b' (by omega) hb', tag g' ht'⟩
  · by_cases hxi : x = (i : Int)
    · omega
    · rw [has_put_other (fun e => by cases e; exact hxi rfl)] at hx
      exact h.rng x hx

/-- slices.Clone of bytes. -/
theorem clone_bytes (s o : Nat) (bs : By) (c : Nat) (w : World) (hb : Bytes w (some ⟨s, o, none⟩) bs) (h1 : 1 ≤ bs.length) (hl : bs.length ≤ 1000000) :
    Calls Tryz.prog 29 #[.slice (some ⟨s, o, none⟩) bs.length c] w fun e w' => ∃ g cap, e = .returned (.slice (some ⟨g, 0, none⟩) bs.length cap) ∧ w.heap.size ≤ g ∧ bs.length ≤ cap ∧ Bytes w' (some ⟨g, 0, none⟩) bs ∧ Below w.heap.size w w' ∧ ∃ cs fr, w'.heap[g]? = some (.cells cs 5 fr) := by
  obtain ⟨i0, hi, hz0, hz1, hz2⟩ := info_parts Tryz.info5
  obtain ⟨s', o', e, hx⟩ := hb (by omega)
  cases e
  have c := AnyE.slices_Clone Tryz.cloneBy i0 (.int .u8 0) 1 1 hi hz0 hz1 hz2 rfl (by decide) Tryz.sizeOf5 s o bs.length c (bs.map u8v) w (by simp) (by unfold maxLen; omega) (by omega)
    (fun j u hj => by
      rw [List.getElem?_map] at hj
      obtain ⟨x, hx', rfl⟩ := Option.map_eq_some_iff.1 hj
      exact hx j x hx') (u8v_one bs)
  refine (show Calls Tryz.prog 29 _ _ _ from c).mono ?_
  rintro e w' ⟨v', rfl, hrow, hnil, hB⟩
  obtain ⟨g, cap, rfl, hg, hbb⟩ := owns_bytes hrow h1
  rcases hrow.2 with ⟨e, _⟩ | ⟨g', cap', cur', e, _, hblk, hcap, _⟩
  · cases e
  · cases e; exact ⟨g, cap, rfl, hg, hcap, hbb, hB, _, _, hblk⟩

end Go.Proofs.YtlcojcldbdikgaaGreatDoor

/-
  The keys of a volume's map of fresh blocks, rising; the homes that take over what it holds.
-/
namespace Go.Proofs.YtlcojcldbdikgaaGreatDoor
open Go.RowKit Go.Maps Go.Sort Go.Shelf Go.ChangeMaps Go.MapKept
open Go.WideElems (Fit rd rg pl rd_val elemAt rd_key rg_of)

/-- Which blocks the log holds, rising. -/
def homeKeys (fr : Nat → Option By) (nb : Nat) : List Nat := (List.range nb).filter fun j => (fr j).isSome

theorem homeKeys_mem {fr : Nat → Option By} {nb i : Nat} : i ∈ homeKeys fr nb ↔ i < nb ∧ (fr i).isSome = true := by
  unfold homeKeys
  rw [List.mem_filter, List.mem_range]
theorem homeKeys_len (fr : Nat → Option By) (nb : Nat) : (homeKeys fr nb).length ≤ nb :=
  Nat.le_trans (List.length_filter_le _ _) (by simp)

set_option maxRecDepth 100000 in
theorem fresh_keys {w : World} {f nf nb : Nat} {F : DataW Value} {fr : Nat → Option By} (hF : Fresh w f nf F fr) (hfr : ∀ i, nb ≤ i → fr i = none) (hnb : nb ≤ 1000000000) :
    keys F = (homeKeys fr nb).map fun j : Nat => (j : Int) := by
  have hown := hF.own
  have hhas := hF.has
  have hrng := hF.rng
  obtain ⟨es, rfl, hp⟩ := hown.tidy keyed
  have hk : ∀ p ∈ es, ∃ x, p.1 = .int .i64 x := by
    intro p hpm
    obtain ⟨es0, clock, _, F, _, hD⟩ := hown
    cases hD
    obtain ⟨x, hx, rfl⟩ := List.mem_map.1 (mem_sorted.1 hpm)
    obtain ⟨y, hy⟩ := F.reads x hx
    rw [rg_of hy]
    obtain ⟨x, _, hx, _⟩ := Maps.keyOf_i64 Tryz.underlying3 (rd_key hy)
    exact ⟨x, hx⟩
  have hnd : ((homeKeys fr nb).map fun j : Nat => (j : Int)).Nodup := by
    refine List.pairwise_map.2 (List.Pairwise.imp (R := (· < ·)) (fun h => by omega) ?_)
    exact List.Pairwise.filter _ List.pairwise_lt_range
  have hperm := perm_intKeys hp hk hnd (fun x => by
    constructor
    · intro hx
      obtain ⟨j, hj, rfl⟩ := List.mem_map.1 hx
      obtain ⟨h1, h2⟩ := homeKeys_mem.1 hj
      rw [hhas j (by omega)]
      exact h2
    · intro hx
      obtain ⟨h0, h1⟩ := hrng x hx
      obtain ⟨j, rfl⟩ := Int.eq_ofNat_of_zero_le h0
      rw [hhas j (by omega)] at hx
      refine List.mem_map.2 ⟨j, homeKeys_mem.2 ⟨?_, hx⟩, rfl⟩
      apply Classical.byContradiction
      intro hlt
      rw [hfr j (by omega)] at hx
      cases hx)
  unfold keys
  rw [← mergeSort_of_perm_i hperm]
  refine List.mergeSort_of_pairwise ?_
  rw [List.pairwise_map]
  refine List.Pairwise.imp (R := (· < ·)) (fun h => by simp; omega) ?_
  exact List.Pairwise.filter _ List.pairwise_lt_range

/-- The homes of these blocks hold what the log does. -/
def putHomes (B : Nat → By) (fr : Nat → Option By) (l : List Nat) : Nat → By := fun j => if 1 ≤ j ∧ (j - 1) ∈ l then (fr (j - 1)).getD (B j) else B j
/-- All homes. -/
def homed (B : Nat → By) (fr : Nat → Option By) : Nat → By := fun j => if 1 ≤ j then (fr (j - 1)).getD (B j) else B j

theorem putHomes_nil (B : Nat → By) (fr : Nat → Option By) : putHomes B fr [] = B := by funext j; simp [putHomes]
theorem putHomes_step (B : Nat → By) (fr : Nat → Option By) {l : List Nat} {k i : Nat} {b : By} (hk : l[k]? = some i) (hb : fr i = some b) : upd (putHomes B fr (l.take k)) (1 + i) b = putHomes B fr (l.take (k + 1)) := by
  have hlt : k < l.length := (List.getElem?_eq_some_iff.1 hk).1
  have e : l.take (k + 1) = l.take k ++ [i] := by
    rw [List.take_succ_eq_append_getElem hlt]
    have : l[k] = i := by rw [List.getElem?_eq_getElem hlt] at hk; exact Option.some.inj hk
    rw [this]
  funext j
  unfold upd putHomes
  rw [e]
  by_cases h : j = 1 + i
  · subst h
    have h1 : 1 + i - 1 = i := by omega
    rw [if_pos rfl, if_pos ⟨by omega, by rw [h1]; simp⟩, h1, hb]
    rfl
  · rw [if_neg h]
    have hm : (1 ≤ j ∧ (j - 1) ∈ l.take k ++ [i]) ↔ (1 ≤ j ∧ (j - 1) ∈ l.take k) := by
      rw [List.mem_append, List.mem_singleton]
      constructor
      · rintro ⟨h1, h2 | h2⟩
        · exact ⟨h1, h2⟩
        · omega
      · rintro ⟨h1, h2⟩; exact ⟨h1, .inl h2⟩
    by_cases hx : 1 ≤ j ∧ (j - 1) ∈ l.take k
    · rw [if_pos hx, if_pos (hm.2 hx)]
    · rw [if_neg hx, if_neg (fun h' => hx (hm.1 h'))]
theorem putHomes_all (B : Nat → By) (fr : Nat → Option By) (nb : Nat) (hfr : ∀ i, nb ≤ i → fr i = none) : putHomes B fr (homeKeys fr nb) = homed B fr := by
  funext j
  unfold putHomes homed
  by_cases hj : 1 ≤ j
  · rw [if_pos hj]
    by_cases hm : (j - 1) ∈ homeKeys fr nb
    · rw [if_pos ⟨hj, hm⟩]
    · rw [if_neg (fun h => hm h.2)]
      cases hf : fr (j - 1) with
      | none => rfl
      | some b =>
        exfalso
        refine hm (homeKeys_mem.2 ⟨?_, by rw [hf]; rfl⟩)
        apply Classical.byContradiction
        intro hlt
        rw [hfr _ (by omega)] at hf
        cases hf
  · rw [if_neg (fun h => hj h.1), if_neg hj]

end Go.Proofs.YtlcojcldbdikgaaGreatDoor

namespace Go.Proofs.YtlcojcldbdikgaaGreatDoor
open Go.RowKit Go.Maps Go.Sort Go.Shelf

/-- A list of puts as a record. -/
def recOf (ps : List PutM) : Rec := ps.map fun x => (x.block.toNat, x.bytes)
theorem laidOn_step (fr : Nat → Option By) (ps : List PutM) (i : Nat) (x : PutM) (hx : ps[i]? = some x) : laidOn fr (recOf (ps.take (i + 1))) = fun j => if j = x.block.toNat then some x.bytes else laidOn fr (recOf (ps.take i)) j := by
  rw [List.take_add_one, hx]
  unfold recOf
  rw [List.map_append, laidOn_append]
  rfl

/-- A map's block has no cells. -/
theorem Fresh.noCell {w : World} {f nf : Nat} {F : DataW Value} {fr : Nat → Option By} (h : Fresh w f nf F fr) : ∀ k j x, w.cell? ⟨k, j, none⟩ = some x → k ≠ f := by
  rintro k j x hx rfl
  obtain ⟨es, clock, hm, _⟩ := h.own
  simp [World.cell?, hm] at hx

theorem IsVol.noByte {w : World} {v : Nat} {pd : Option Addr} {commits turn next : Nat} {f : Option Nat} {count : Int} (h : IsVol w v (.pointer pd) commits turn next f count) {j : Nat} {x : BitVec 8} (hx : w.cell? ⟨v, j, none⟩ = some (u8v x)) : False := by
  rw [cellOf h j] at hx
  unfold volCells u8v at hx
  match j, hx with
  | 0, hx | 1, hx | 2, hx | 3, hx | 4, hx | 5, hx => simp at hx
  | k + 6, hx => simp at hx

set_option maxRecDepth 8000 in
set_option maxHeartbeats 4000000 in
theorem take_any (q : Option Addr) (ps : List PutM) (c v : Nat) (pd : Option Addr) (commits turn next : Nat) (f nf : Nat) (F : DataW Value) (fr : Nat → Option By) (count : Int) (nb : Nat) (w : World) (h : IsVol w v (.pointer pd) commits turn next (some f) count)
    (hF : Fresh w f nf F fr) (hps : PutsAt w q ps) (hg : ps.all (goodPut nb) = true) (hnb : nb ≤ 1000000) (hnf : nf + ps.length < 1000000000) (hc : commits < 4611686018427387904) :
    Calls Tryz.prog 70 #[dp v, .slice q ps.length c] w fun e w' => e = .returned (.tuple #[]) ∧ IsVol w' v (.pointer pd) (commits + 1) turn next (some f) count ∧ (∃ F', Fresh w' f (nf + ps.length) F' (laidOn fr (recOf ps))) ∧ But (fun k => k = v ∨ k = f) w w' := by
  have HV : Hid (IsVol w v (.pointer pd) commits turn next (some f) count) := h
  have HF : Hid (Fresh w f nf F fr) := hF
  have HP : Hid (PutsAt w q ps) := hps
  have hgood : ∀ (j : Nat) (x : PutM), ps[j]? = some x → 0 ≤ x.block ∧ x.block < nb ∧ x.bytes.length = 512 := by
    intro j x hj
    have := (List.all_eq_true.1 hg) x (List.mem_of_getElem? hj)
    unfold goodPut at this
    simp at this
    exact ⟨this.1.1, this.1.2, this.2⟩
  have HG : Hid (∀ (j : Nat) (x : PutM), ps[j]? = some x → 0 ≤ x.block ∧ x.block < nb ∧ x.bytes.length = 512) := hgood
  clear h hF hps hg hgood
  go_enter Tryz.func70, Tryz.ntmps70
  go_wp2_with fail
  go_loopw [8] (fun ii wr => ∃ i : Nat, ii = .int .i64 i ∧ i ≤ ps.length ∧ Hid (But (fun k => k = f) w wr ∧ ∃ F', Fresh wr f (nf + i) F' (laidOn fr (recOf (ps.take i))))) (fun ii _ => ps.length - (intOf ii).toNat)
  case atStart => exact ⟨0, rfl, Nat.zero_le _, But.refl _ _, F, HF.out⟩
  case round =>
    obtain ⟨i, rfl, hi, HJ⟩ := hrel
    obtain ⟨hbut, F', hFi⟩ := HJ.out
    have hcell : ∀ k j x, w.cell? ⟨k, j, none⟩ = some x → ¬ (k = f) := fun k j x hx => HF.out.noCell k j x hx
    have hpi := HP.out.but hbut (fun k cs t fr hk _ e => by subst e; obtain ⟨es, clock, hm, _⟩ := HF.out.own; rw [hm] at hk; cases hk)
    have hvi : IsVol wr v (.pointer pd) commits turn next (some f) count := HV.out.but hbut (hcell v 1 _ (cellOf HV.out 1))
    by_cases hlt : i < ps.length
    · have hltI : (i : Int) < ps.length := by omega
      obtain ⟨b, o, rfl, _, hx⟩ := hpi.1 (by omega)
      obtain ⟨x, hxi⟩ : ∃ x, ps[i]? = some x := ⟨_, List.getElem?_eq_getElem hlt⟩
      obtain ⟨hg0, hg1, hg2⟩ := HG.out i x hxi
      obtain ⟨y0, y1⟩ := hx i x hxi
      obtain ⟨bn, hbn⟩ : ∃ bn : Nat, x.block = (bn : Int) := ⟨x.block.toNat, by omega⟩
      rw [hbn] at y0
      rw [hg2] at y1
      obtain ⟨s, so, hs, hsx⟩ := (hpi.2 i x hxi).2.1 (by omega)
      rw [hs] at y1
      obtain ⟨w1, hw1⟩ : ∃ w1, w1 = wr.alloc (.cells #[.int .i64 (bn : Nat), .slice (some ⟨s, so, none⟩) 512 x.cap] 77) := ⟨_, rfl⟩
      have hB1 : Below wr.heap.size wr w1 := by rw [hw1]; exact (Below.refl _ wr).alloc (Nat.le_refl _) _
      have hb1 : w1.heap[wr.heap.size]? = some (.cells #[.int .i64 (bn : Nat), .slice (some ⟨s, so, none⟩) 512 x.cap] 77 (0, 0)) := by rw [hw1]; exact heap_alloc_new wr _
      have hv1 := hvi.below hB1
      have hF1 := hFi.below hB1
      have hbs1 : Bytes w1 (some ⟨s, so, none⟩) x.bytes := below_bytes hB1 (fun _ => ⟨s, so, rfl, hsx⟩)
      have cl : ∀ W : World, Below w1.heap.size w1 W → Calls Tryz.prog 29 #[.slice (some ⟨s, so, none⟩) 512 x.cap] W fun e w' => ∃ g cap, e = .returned (.slice (some ⟨g, 0, none⟩) 512 cap) ∧ 512 ≤ cap ∧ Bytes w' (some ⟨g, 0, none⟩) x.bytes ∧ Below w1.heap.size w1 w' ∧ ∃ cs fr, w'.heap[g]? = some (.cells cs 5 fr) := by
        intro W hW
        have := clone_bytes s so x.bytes x.cap W (below_bytes hW hbs1) (by omega) (by omega)
        rw [hg2] at this
        refine this.mono ?_
        rintro e w' ⟨g, cap, rfl, _, h2, h3, h4, h5⟩
        exact ⟨g, cap, rfl, h2, h3, hW.trans (h4.mono hW.size), h5⟩
      have SOf : ∀ W : World, Below w1.heap.size w1 W → W.cell? ⟨v, 4, none⟩ = some (.map (some f)) ∧ W.cell? ⟨wr.heap.size, 0, none⟩ = some (.int .i64 (bn : Nat)) ∧ W.cell? ⟨wr.heap.size, 1, none⟩ = some (.slice (some ⟨s, so, none⟩) 512 x.cap) := by
        intro W hW
        refine ⟨?_, ?_, ?_⟩
        · have := cellOf (hv1.below hW) 4; simpa [volCells] using this
        · have := cellOf (below_block hb1 hW) 0; simpa using this
        · have := cellOf (below_block hb1 hW) 1; simpa using this
      have HX : Hid (ps[i]? = some x ∧ x.block = (bn : Int) ∧ x.bytes.length = 512) := ⟨hxi, hbn, hg2⟩
      have HF1 : Hid (Fresh w1 f (nf + i) F' (laidOn fr (recOf (ps.take i)))) := hF1
      have hbn' : bn < 1000000 := by omega
      have hB1' : Hid (But (fun k => k = f) w w1) := hbut.trans (But.of_below hB1)
      clear hx hxi hg0 hg1 hg2 hbn hs hsx hpi hvi hFi hbut hcell hbs1 hv1 hF1 hB1 hb1 HJ
      go_wp2_with fail
      rw [← hw1]
      clear hw1
      have hR := (Below.refl w1.heap.size w1).drew
      obtain ⟨z4, z0, z1⟩ := SOf w1 (Below.refl _ _)
      have hput0 : ∀ (W1 : World), Below w1.heap.size w1 W1 → ∀ g cap, ∃ W2, (Instr.mapUpdate 83 (.map (some f)) (.int .i64 (bn : Nat)) (.slice (some ⟨g, 0, none⟩) 512 cap)).run Tryz.prog W1 = .ok () W2 ∧
          Hid (W2.ownsMap Tryz.prog 3 slElem f (nf + i + 1) (F'.put (.int .i64 bn) (slD (some ⟨g, 0, none⟩) 512 cap)) ∧ But (fun k => k = f) W1 W2) := by
        intro W1 hW1 g cap
        obtain ⟨W2, h1, h2, h3⟩ := sput_run (w := W1) (HF1.out.below hW1).own (by unfold maxLen; omega) (i := bn) (by omega) (some ⟨g, 0, none⟩) 512 cap
        exact ⟨W2, h1, h2, But.of_grown h3.grown (by intro k hk; cases hk; rfl)⟩
      go_region_with (go_at_call 29; refine (cl _ hR).mono ?_; rintro e W1 ⟨g, cap, rfl, hcap, hbb, hBB, htg⟩; obtain ⟨s4, s0, s1⟩ := SOf W1 hBB; obtain ⟨W2, hput, H2⟩ := hput0 W1 hBB g cap; have HBB : Hid (Below w1.heap.size w1 W1 ∧ Bytes W1 (some ⟨g, 0, none⟩) x.bytes ∧ ∃ cs fr, W1.heap[g]? = some (.cells cs 5 fr)) := ⟨hBB, hbb, htg⟩; clear htg)
      all_goals
        have H3 : Hid (But (fun k => k = f) w W2 ∧ ∃ F', Fresh W2 f (nf + (i + 1)) F' (laidOn fr (recOf (ps.take (i + 1))))) := by
          have hbb1 : But (fun k => k = f) w1 W1 := But.of_below HBB.out.1
          refine ⟨(hB1'.out.trans hbb1).trans H2.out.2, F'.put (.int .i64 bn) (slD (some ⟨g, 0, none⟩) 512 cap), ?_⟩
          have h1 := (HF1.out.below HBB.out.1).put (i := bn) (by omega) HX.out.2.2 hcap HBB.out.2.1 HBB.out.2.2 H2.out.1 H2.out.2
          have e : (fun j => if j = bn then some x.bytes else laidOn fr (recOf (ps.take i)) j) = laidOn fr (recOf (ps.take (i + 1))) := by
            rw [laidOn_step fr ps i x HX.out.1, HX.out.2.1]; rfl
          rw [e] at h1
          exact h1
        clear hput0 cl SOf hput H2 HBB hbb hBB
        go_wp2
        go_roundw
        case rel => exact ⟨i + 1, by go_num, by omega, H3.out⟩
        case measure => simp [intOf]; omega
    · obtain rfl : i = ps.length := by omega
      have m1 := cellOf hvi 1
      have f1 := frozenOf hvi 1
      simp [volCells] at m1
      rw [List.take_length] at hFi
      have H3 : Hid (But (fun k => k = f) w wr ∧ Fresh wr f (nf + ps.length) F' (laidOn fr (recOf ps)) ∧ IsVol wr v (.pointer pd) commits turn next (some f) count) := ⟨hbut, hFi, hvi⟩
      clear hbut hFi hvi hpi hcell HJ
      go_wp2
      go_end0
      obtain ⟨hbut, hFi, hvi⟩ := H3.out
      have hvf : v ≠ f := hFi.noCell v 1 _ (cellOf hvi 1)
      have hbv : But (fun k => k = v) wr (wr.setCell ⟨v, 1, none⟩ (.int .i64 ((commits : Int) + 1))) := (But.refl (fun k => k = v) wr).setCell ⟨v, 1, none⟩ rfl _
      refine ⟨rfl, ?_, ⟨F', hFi.but hbv (fun e => hvf e.symm) (fun k cs fr hk e => ?_)⟩, (hbut.mono (fun k _ hk => .inr hk)).trans (hbv.mono (fun k _ hk => .inl hk))⟩
      · have := hvi.setC (commits + 1)
        rw [show ((commits + 1 : Nat) : Int) = (commits : Int) + 1 by omega] at this
        exact this
      · subst e; have := hvi; rw [IsVol, hk] at this; simp at this

end Go.Proofs.YtlcojcldbdikgaaGreatDoor
