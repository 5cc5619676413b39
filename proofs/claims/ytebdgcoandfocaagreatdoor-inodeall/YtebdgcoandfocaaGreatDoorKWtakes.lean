/-
  takes and take of package wal.
-/
import Derived.Test.YtebdgcoandfocaaGreatDoorKWputs

namespace Go.Proofs.YtebdgcoandfocaaGreatDoor
open Go.RowKit Go.Maps Go.Sort Go.Shelf

instance : Inhabited PutM := ⟨⟨0, none, 0, []⟩⟩

/-- A put that a volume of nb blocks takes. -/
def goodPut (nb : Nat) (x : PutM) : Bool := decide (0 ≤ x.block ∧ x.block < nb) && decide (x.bytes.length = 512)

theorem Tryz.agg143 (w : World) : (isAgg 143).run Tryz.prog w = .ok true w := by kernel_rfl
theorem Tryz.siz143 (w : World) : (Go.sizeOf 143).run Tryz.prog w = .ok 2 w := by kernel_rfl

set_option maxRecDepth 8000 in
set_option maxHeartbeats 1000000 in
theorem wrong_any (x : PutM) (bx v : Nat) (commits turn next : Nat) (f : Option Nat) (count : Int) (d : DS) (w : World) (h : IsVol w v (dp d.a) commits turn next f count) (hd : Dev w d) (hn : 16 ≤ d.n)
    (hbx : w.cell? ⟨bx, 0, none⟩ = some (dp v)) :
    Calls Tryz.prog 115 #[.agg #[.int .i64 x.block, .slice x.at_ x.bytes.length x.cap], .pointer (some ⟨bx, 0, none⟩)] w fun e w' => e = .returned (.bool (!goodPut (nbOf d.n) x)) ∧ Below w.heap.size w w' := by
  obtain ⟨w1, hw1⟩ : ∃ w1, w1 = w.alloc (.cells #[.int .i64 x.block, .slice x.at_ x.bytes.length x.cap] 143) := ⟨_, rfl⟩
  have hB1 : Below w.heap.size w w1 := by rw [hw1]; exact (Below.refl _ w).alloc (Nat.le_refl _) _
  have hb1 : w1.heap[w.heap.size]? = some (.cells #[.int .i64 x.block, .slice x.at_ x.bytes.length x.cap] 143 (0, 0)) := by rw [hw1]; exact heap_alloc_new w _
  have c12 := vHas x.block v commits turn next f count d w1 (h.below hB1) (hd.below hB1) hn
  have y0 := cellOf hb1 0
  have y1 := cellOf hb1 1
  simp at y0 y1
  have y2 : w1.cell? ⟨bx, 0, none⟩ = some (dp v) := (hB1.cell (p := ⟨bx, 0, none⟩) (cell_lt hbx)).trans hbx
  have HB1 : Hid (Below w.heap.size w w1) := hB1
  unfold goodPut
  clear h hd hB1 hb1 hbx
  subst hw1
  cases hg : decide (0 ≤ x.block ∧ x.block < (nbOf d.n : Int))
  · rw [hg] at c12
    clear hg
    go_enter Tryz.func115, Tryz.ntmps115
    go_wp2_with (go_at_call 116; refine Calls_on c12 ?_)
    go_ret
    exact ⟨rfl, HB1.out⟩
  · rw [hg] at c12
    clear hg
    obtain ⟨bb, hbb⟩ : ∃ bb, bb = ((x.bytes.length : Int) != 512) := ⟨_, rfl⟩
    have HBB : Hid (bb = !decide (x.bytes.length = 512)) := by
      show _ = _
      rw [hbb]
      by_cases h : x.bytes.length = 512
      · simp [h]
      · have : ¬ (x.bytes.length : Int) = 512 := by omega
        simp [h, this]
    go_enter Tryz.func115, Tryz.ntmps115
    go_wp2_with (go_at_call 116; refine Calls_on c12 ?_)
    go_ret
    refine ⟨?_, HB1.out⟩
    simp only [Bool.true_and]
    rw [← HBB.out, hbb]
    rfl

theorem contains_some (ps : List PutM) (b o c bx v : Nat) (commits turn next : Nat) (f : Option Nat) (count : Int) (d : DS) (w : World) (h : IsVol w v (dp d.a) commits turn next f count) (hd : Dev w d) (hn : 16 ≤ d.n)
    (hbx : w.cell? ⟨bx, 0, none⟩ = some (dp v)) (hps : PutsAt w (some ⟨b, o, none⟩) ps) (hpos : 0 < ps.length) (hbig : ps.length ≤ 9223372036854775807) :
    Calls Tryz.prog 117 #[.slice (some ⟨b, o, none⟩) ps.length c, .func (.func 115) #[] #[.pointer (some ⟨bx, 0, none⟩)]] w fun e w' => e = .returned (.bool (!ps.all (goodPut (nbOf d.n)))) ∧ Below w.heap.size w w' := by
  obtain ⟨b', o', e, _, hx⟩ := hps.1 hpos
  cases e
  obtain ⟨x0, hx0⟩ : ∃ x, ps[0]? = some x := ⟨_, List.getElem?_eq_getElem hpos⟩
  have hblt : b < w.heap.size := cell_lt (hx 0 x0 hx0).1
  have := AnyQ.slices_ContainsFunc Tryz.containsA 2 Tryz.agg143 Tryz.siz143 putCells (fun _ => rfl) (fun x => !goodPut (nbOf d.n) x) 115 #[.pointer (some ⟨bx, 0, none⟩)] (enters_of Tryz.func115 (by kernel_rfl) rfl) b o ps.length c ps w
    (fun W x hB => by
      refine (wrong_any x bx v commits turn next f count d W (h.below hB) (hd.below hB) hn ((hB.cell (p := ⟨bx, 0, none⟩) (cell_lt hbx)).trans hbx)).mono ?_
      rintro e w' ⟨rfl, hB'⟩
      exact ⟨rfl, hB.trans (hB'.mono hB.size)⟩) (Nat.le_refl _) hbig hblt
    (fun j hj i u hu => by
      have hj' : ps[j]? = some ps[j]! := by rw [List.getElem?_eq_getElem hj, getElem!_pos ps j hj]
      have hxx := hx j _ hj'
      clear hj'
      generalize ps[j]! = y at hu hxx
      match i, hu with
      | 0, hu => simp [putCells] at hu; rw [← hu]; exact hxx.1
      | 1, hu => simp [putCells] at hu; rw [← hu]; exact hxx.2
      | k + 2, hu => simp [putCells] at hu)
  refine (show Calls Tryz.prog 117 _ _ _ from this).mono ?_
  rintro e w' ⟨rfl, hB⟩
  refine ⟨?_, hB⟩
  rw [List.take_length, List.not_all_eq_any_not]

set_option maxRecDepth 8000 in
set_option maxHeartbeats 1000000 in
theorem index_nil (v : Value) (w : World) : Calls Tryz.prog 134 #[.slice none 0 0, v] w fun e w' => e = .returned (.int .i64 (-1)) ∧ w' = w := by
  go_enter Tryz.func134, Tryz.ntmps134
  go_wp2_with fail
  go_loop [8] (fun ii => ii = .int .i64 0) (fun _ => 0)
  case atStart => rfl
  case round =>
    subst hrel
    go_wp2
    go_ret
    exact ⟨rfl, rfl⟩

set_option maxRecDepth 8000 in
set_option maxHeartbeats 1000000 in
theorem contains_nil (v : Value) (w : World) : Calls Tryz.prog 117 #[.slice none 0 0, v] w fun e w' => e = .returned (.bool false) ∧ w' = w := by
  have c65 := index_nil v w
  go_enter Tryz.func117, Tryz.ntmps117
  go_wp2_with (go_at_call 134; refine Calls_on c65 ?_)
  go_ret
  exact ⟨rfl, rfl⟩

/-- takes. -/
def takesB (nb : Nat) (ps : List PutM) : Bool := decide (ps.length ≤ nb) && ps.all (goodPut nb)

set_option maxRecDepth 8000 in
set_option maxHeartbeats 1000000 in
theorem takes_any (q : Option Addr) (ps : List PutM) (c v : Nat) (commits turn next : Nat) (f : Option Nat) (count : Int) (d : DS) (w : World) (h : IsVol w v (dp d.a) commits turn next f count) (hd : Dev w d) (hn : 16 ≤ d.n)
    (hps : PutsAt w q ps) (hq : ps.length = 0 → q = none ∧ c = 0) (hbig : ps.length ≤ 9223372036854775807) :
    Calls Tryz.prog 102 #[dp v, .slice q ps.length c] w fun e w' => e = .returned (.bool (takesB (nbOf d.n) ps)) ∧ Below w.heap.size w w' := by
  have hmf := mkf
  have hB1 : Below w.heap.size w (w.alloc (.cells #[dp v] 49)) := (Below.refl _ w).alloc (Nat.le_refl _) _
  have hbx : (w.alloc (.cells #[dp v] 49)).cell? ⟨w.heap.size, 0, none⟩ = some (dp v) := cellOf (heap_alloc_new w _) 0
  have hv1 := h.below hB1
  have hd1 := hd.below hB1
  have c9 := vBlocks v commits turn next f count d _ hv1 hd1 hn
  have HB1 : Hid (Below w.heap.size w (w.alloc (.cells #[dp v] 49))) := hB1
  have hle := hd.hn
  obtain ⟨nb, hnb⟩ : ∃ nb, nbOf d.n = nb := ⟨_, rfl⟩
  rw [hnb] at c9
  rw [hnb]
  have c49 : Calls Tryz.prog 117 #[.slice q ps.length c, .func (.func 115) #[] #[.pointer (some ⟨w.heap.size, 0, none⟩)]] (w.alloc (.cells #[dp v] 49)) fun e w' => e = .returned (.bool (!ps.all (goodPut nb))) ∧ Below w.heap.size w w' := by
    rcases Nat.eq_zero_or_pos ps.length with h0 | hpos
    · obtain ⟨rfl, rfl⟩ := hq h0
      obtain rfl : ps = [] := List.eq_nil_of_length_eq_zero h0
      refine (contains_nil _ _).mono ?_
      rintro e w' ⟨rfl, rfl⟩
      exact ⟨rfl, hB1⟩
    · obtain ⟨b, o, rfl, _, _⟩ := hps.1 hpos
      have hps1 := hps.below hB1
      have := contains_some ps b o c w.heap.size v commits turn next f count d _ hv1 hd1 hn hbx hps1 hpos hbig
      rw [hnb] at this
      refine this.mono ?_
      rintro e w' ⟨rfl, hB⟩
      exact ⟨rfl, hB1.trans (hB.mono (by simp))⟩
  unfold takesB
  clear h hd hps hq hv1 hd1 hB1 hnb
  by_cases hl : ps.length ≤ nb
  · have hlI : (ps.length : Int) ≤ nb := by omega
    generalize ps.all (goodPut nb) = al at *
    rw [decide_eq_true hl]
    go_enter Tryz.func102, Tryz.ntmps102
    go_wp2_with (first | (go_at_call 98; refine Calls_on c9 ?_) | (go_at_call 117; refine c49.mono ?_; rintro e w2 ⟨rfl, hB2⟩; clear c49))
    go_ret
    exact ⟨by simp, hB2⟩
  · have hlI : ¬ (ps.length : Int) ≤ nb := by omega
    rw [decide_eq_false hl]
    go_enter Tryz.func102, Tryz.ntmps102
    go_wp2_with (go_at_call 98; refine Calls_on c9 ?_)
    go_ret
    exact ⟨rfl, HB1.out⟩

end Go.Proofs.YtebdgcoandfocaaGreatDoor
