/-
  take of package wal.
-/
import Derived.Test.YtebdgcoandfocaaGreatDoorKWfresh

namespace Go.Proofs.YtebdgcoandfocaaGreatDoor
open Go.RowKit Go.Maps Go.Sort Go.Shelf

/-- A list of puts as a record. -/
def recOf (ps : List PutM) : Rec := ps.map fun x => (x.block.toNat, x.bytes)
theorem laidOn_step (fr : Nat → Option By) (ps : List PutM) (i : Nat) (x : PutM) (hx : ps[i]? = some x) : laidOn fr (recOf (ps.take (i + 1))) = fun j => if j = x.block.toNat then some x.bytes else laidOn fr (recOf (ps.take i)) j := by
  rw [List.take_add_one, hx]
  unfold recOf
  rw [List.map_append, laidOn_append]
  rfl

/-- A map's block has no cells. -/
theorem Fresh.noCell {w : World} {f nf : Nat} {F : DataW Value} {fr : Nat → Option By} (h : Fresh w f nf F fr) : ∀ k j x, w.cell? ⟨k, j, none⟩ = some x → k ≠ f := by
  rintro k j x hx rfl
  obtain ⟨es, clock, hm, _⟩ := h.own
  simp [World.cell?, hm] at hx

set_option maxRecDepth 8000 in
set_option maxHeartbeats 4000000 in
theorem take_any (q : Option Addr) (ps : List PutM) (c v : Nat) (pd : Option Addr) (commits turn next : Nat) (f nf : Nat) (F : DataW Value) (fr : Nat → Option By) (count : Int) (nb : Nat) (w : World) (h : IsVol w v (.pointer pd) commits turn next (some f) count)
    (hF : Fresh w f nf F fr) (hps : PutsAt w q ps) (hg : ps.all (goodPut nb) = true) (hnb : nb ≤ 1000000) (hnf : nf + ps.length < 1000000000) (hc : commits < 4611686018427387904) :
    Calls Tryz.prog 82 #[dp v, .slice q ps.length c] w fun e w' => e = .returned (.tuple #[]) ∧ IsVol w' v (.pointer pd) (commits + 1) turn next (some f) count ∧ (∃ F', Fresh w' f (nf + ps.length) F' (laidOn fr (recOf ps))) ∧ But (fun k => k = v ∨ k = f) w w' := by
  have HV : Hid (IsVol w v (.pointer pd) commits turn next (some f) count) := h
  have HF : Hid (Fresh w f nf F fr) := hF
  have HP : Hid (PutsAt w q ps) := hps
  have hgood : ∀ (j : Nat) (x : PutM), ps[j]? = some x → 0 ≤ x.block ∧ x.block < nb ∧ x.bytes.length = 512 := by
    intro j x hj
    have := (List.all_eq_true.1 hg) x (List.mem_of_getElem? hj)
    unfold goodPut at this
    simp at this
    exact ⟨this.1.1, this.1.2, this.2⟩
  have HG : Hid (∀ (j : Nat) (x : PutM), ps[j]? = some x → 0 ≤ x.block ∧ x.block < nb ∧ x.bytes.length = 512) := hgood
  clear h hF hps hg hgood
  go_enter Tryz.func82, Tryz.ntmps82
  go_wp2_with fail
  go_loopw [8] (fun ii wr => ∃ i : Nat, ii = .int .i64 i ∧ i ≤ ps.length ∧ Hid (But (fun k => k = f) w wr ∧ ∃ F', Fresh wr f (nf + i) F' (laidOn fr (recOf (ps.take i))))) (fun ii _ => ps.length - (intOf ii).toNat)
  case atStart => exact ⟨0, rfl, Nat.zero_le _, But.refl _ _, F, HF.out⟩
  case round =>
    obtain ⟨i, rfl, hi, HJ⟩ := hrel
    obtain ⟨hbut, F', hFi⟩ := HJ.out
    have hcell : ∀ k j x, w.cell? ⟨k, j, none⟩ = some x → ¬ (k = f) := fun k j x hx => HF.out.noCell k j x hx
    have hpi := HP.out.but hbut (fun k cs t fr hk _ e => by subst e; obtain ⟨es, clock, hm, _⟩ := HF.out.own; rw [hm] at hk; cases hk)
    have hvi : IsVol wr v (.pointer pd) commits turn next (some f) count := HV.out.but hbut (hcell v 1 _ (cellOf HV.out 1))
    by_cases hlt : i < ps.length
    · have hltI : (i : Int) < ps.length := by omega
      obtain ⟨b, o, rfl, _, hx⟩ := hpi.1 (by omega)
      obtain ⟨x, hxi⟩ : ∃ x, ps[i]? = some x := ⟨_, List.getElem?_eq_getElem hlt⟩
      obtain ⟨hg0, hg1, hg2⟩ := HG.out i x hxi
      obtain ⟨y0, y1⟩ := hx i x hxi
      obtain ⟨bn, hbn⟩ : ∃ bn : Nat, x.block = (bn : Int) := ⟨x.block.toNat, by omega⟩
      rw [hbn] at y0
      rw [hg2] at y1
      obtain ⟨s, so, hs, hsx⟩ := (hpi.2 i x hxi).2.1 (by omega)
      rw [hs] at y1
      obtain ⟨w1, hw1⟩ : ∃ w1, w1 = wr.alloc (.cells #[.int .i64 (bn : Nat), .slice (some ⟨s, so, none⟩) 512 x.cap] 143) := ⟨_, rfl⟩
      have hB1 : Below wr.heap.size wr w1 := by rw [hw1]; exact (Below.refl _ wr).alloc (Nat.le_refl _) _
      have hb1 : w1.heap[wr.heap.size]? = some (.cells #[.int .i64 (bn : Nat), .slice (some ⟨s, so, none⟩) 512 x.cap] 143 (0, 0)) := by rw [hw1]; exact heap_alloc_new wr _
      have hv1 := hvi.below hB1
      have hF1 := hFi.below hB1
      have hbs1 : Bytes w1 (some ⟨s, so, none⟩) x.bytes := below_bytes hB1 (fun _ => ⟨s, so, rfl, hsx⟩)
      have cl : ∀ W : World, Below w1.heap.size w1 W → Calls Tryz.prog 92 #[.slice (some ⟨s, so, none⟩) 512 x.cap] W fun e w' => ∃ g cap, e = .returned (.slice (some ⟨g, 0, none⟩) 512 cap) ∧ 512 ≤ cap ∧ Bytes w' (some ⟨g, 0, none⟩) x.bytes ∧ Below w1.heap.size w1 w' ∧ ∃ cs fr, w'.heap[g]? = some (.cells cs 5 fr) := by
        intro W hW
        have := clone_bytes s so x.bytes x.cap W (below_bytes hW hbs1) (by omega) (by omega)
        rw [hg2] at this
        refine this.mono ?_
        rintro e w' ⟨g, cap, rfl, _, h2, h3, h4, h5⟩
        exact ⟨g, cap, rfl, h2, h3, hW.trans (h4.mono hW.size), h5⟩
      have SOf : ∀ W : World, Below w1.heap.size w1 W → W.cell? ⟨v, 4, none⟩ = some (.map (some f)) ∧ W.cell? ⟨wr.heap.size, 0, none⟩ = some (.int .i64 (bn : Nat)) ∧ W.cell? ⟨wr.heap.size, 1, none⟩ = some (.slice (some ⟨s, so, none⟩) 512 x.cap) := by
        intro W hW
        refine ⟨?_, ?_, ?_⟩
        · have := cellOf (hv1.below hW) 4; simpa [volCells] using this
        · have := cellOf (below_block hb1 hW) 0; simpa using this
        · have := cellOf (below_block hb1 hW) 1; simpa using this
      have HX : Hid (ps[i]? = some x ∧ x.block = (bn : Int) ∧ x.bytes.length = 512) := ⟨hxi, hbn, hg2⟩
      have HF1 : Hid (Fresh w1 f (nf + i) F' (laidOn fr (recOf (ps.take i)))) := hF1
      have hbn' : bn < 1000000 := by omega
      have hB1' : Hid (But (fun k => k = f) w w1) := hbut.trans (But.of_below hB1)
      clear hx hxi hg0 hg1 hg2 hbn hs hsx hpi hvi hFi hbut hcell hbs1 hv1 hF1 hB1 hb1 HJ
      go_wp2_with fail
      rw [← hw1]
      clear hw1
      have hR := (Below.refl w1.heap.size w1).drew
      obtain ⟨z4, z0, z1⟩ := SOf w1 (Below.refl _ _)
      have hput0 : ∀ (W1 : World), Below w1.heap.size w1 W1 → ∀ g cap, ∃ W2, (Instr.mapUpdate 113 (.map (some f)) (.int .i64 (bn : Nat)) (.slice (some ⟨g, 0, none⟩) 512 cap)).run Tryz.prog W1 = .ok () W2 ∧
          Hid (W2.ownsMap Tryz.prog 3 slElem f (nf + i + 1) (F'.put (.int .i64 bn) (slD (some ⟨g, 0, none⟩) 512 cap)) ∧ But (fun k => k = f) W1 W2) := by
        intro W1 hW1 g cap
        obtain ⟨W2, h1, h2, h3⟩ := sput_run (w := W1) (HF1.out.below hW1).own (by unfold maxLen; omega) (i := bn) (by omega) (some ⟨g, 0, none⟩) 512 cap
        exact ⟨W2, h1, h2, But.of_grown h3.grown (by intro k hk; cases hk; rfl)⟩
      go_region_with (go_at_call 92; refine (cl _ hR).mono ?_; rintro e W1 ⟨g, cap, rfl, hcap, hbb, hBB, htg⟩; obtain ⟨s4, s0, s1⟩ := SOf W1 hBB; obtain ⟨W2, hput, H2⟩ := hput0 W1 hBB g cap; have HBB : Hid (Below w1.heap.size w1 W1 ∧ Bytes W1 (some ⟨g, 0, none⟩) x.bytes ∧ ∃ cs fr, W1.heap[g]? = some (.cells cs 5 fr)) := ⟨hBB, hbb, htg⟩; clear htg)
      all_goals
        have H3 : Hid (But (fun k => k = f) w W2 ∧ ∃ F', Fresh W2 f (nf + (i + 1)) F' (laidOn fr (recOf (ps.take (i + 1))))) := by
          have hbb1 : But (fun k => k = f) w1 W1 := But.of_below HBB.out.1
          refine ⟨(hB1'.out.trans hbb1).trans H2.out.2, F'.put (.int .i64 bn) (slD (some ⟨g, 0, none⟩) 512 cap), ?_⟩
          have h1 := (HF1.out.below HBB.out.1).put (i := bn) (by omega) HX.out.2.2 hcap HBB.out.2.1 HBB.out.2.2 H2.out.1 H2.out.2
          have e : (fun j => if j = bn then some x.bytes else laidOn fr (recOf (ps.take i)) j) = laidOn fr (recOf (ps.take (i + 1))) := by
            rw [laidOn_step fr ps i x HX.out.1, HX.out.2.1]; rfl
          rw [e] at h1
          exact h1
        clear hput0 cl SOf hput H2 HBB hbb hBB
        go_wp2
        go_roundw
        case rel => exact ⟨i + 1, by go_num, by omega, H3.out⟩
        case measure => simp [intOf]; omega
    · obtain rfl : i = ps.length := by omega
      have m1 := cellOf hvi 1
      have f1 := frozenOf hvi 1
      simp [volCells] at m1
      rw [List.take_length] at hFi
      have H3 : Hid (But (fun k => k = f) w wr ∧ Fresh wr f (nf + ps.length) F' (laidOn fr (recOf ps)) ∧ IsVol wr v (.pointer pd) commits turn next (some f) count) := ⟨hbut, hFi, hvi⟩
      clear hbut hFi hvi hpi hcell HJ
      go_wp2
      go_end0
      obtain ⟨hbut, hFi, hvi⟩ := H3.out
      have hvf : v ≠ f := hFi.noCell v 1 _ (cellOf hvi 1)
      have hbv : But (fun k => k = v) wr (wr.setCell ⟨v, 1, none⟩ (.int .i64 ((commits : Int) + 1))) := (But.refl (fun k => k = v) wr).setCell ⟨v, 1, none⟩ rfl _
      refine ⟨rfl, ?_, ⟨F', hFi.but hbv (fun e => hvf e.symm) (fun k cs fr hk e => ?_)⟩, (hbut.mono (fun k _ hk => .inr hk)).trans (hbv.mono (fun k _ hk => .inl hk))⟩
      · have := hvi.setC (commits + 1)
        rw [show ((commits + 1 : Nat) : Int) = (commits : Int) + 1 by omega] at this
        exact this
      · subst e; have := hvi; rw [IsVol, hk] at this; simp at this

end Go.Proofs.YtebdgcoandfocaaGreatDoor
