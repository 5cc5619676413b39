/-
  Package inode: putAll of one put.
-/
import Derived.Test.YtebdgcoandfocaaGreatDoorQWapk
import Derived.Test.YtebdgcoandfocaaGreatDoorQUd

/-
  Package inode: a change of one block is done.
-/
namespace Go.Proofs.YtebdgcoandfocaaGreatDoor
open Go.RowKit Go.Maps Go.Sort Go.Shelf

/-- One put that lies in a row. -/
structure Put1 (w : World) (g cap r dg : Nat) (D : By) : Prop where
  row : ∃ cur, w.heap[g]? = some (.cells cur 143 (0, 0)) ∧ cur[0]? = some (.int .i64 (r : Nat)) ∧ cur[1]? = some (.slice (some ⟨dg, 0, none⟩) 512 512)
  dat : w.heap[dg]? = some (.cells (D.map u8v).toArray 5 (0, 0))
theorem Put1.c0 {w : World} {g cap r dg : Nat} {D : By} (h : Put1 w g cap r dg D) : w.cell? ⟨g, 0, none⟩ = some (.int .i64 (r : Nat)) := by
  obtain ⟨cur, h1, h2, _⟩ := h.row; rw [cellOf h1 0]; exact h2
theorem Put1.c1 {w : World} {g cap r dg : Nat} {D : By} (h : Put1 w g cap r dg D) : w.cell? ⟨g, 1, none⟩ = some (.slice (some ⟨dg, 0, none⟩) 512 512) := by
  obtain ⟨cur, h1, _, h2⟩ := h.row; rw [cellOf h1 1]; exact h2
theorem Put1.below {w w' : World} {g cap r dg : Nat} {D : By} (h : Put1 w g cap r dg D) (hb : Below w.heap.size w w') : Put1 w' g cap r dg D := by
  obtain ⟨cur, h1, h2, h3⟩ := h.row
  exact ⟨⟨cur, (hb.block g (Array.getElem?_eq_some_iff.1 h1).1).trans h1, h2, h3⟩, (hb.block dg (Array.getElem?_eq_some_iff.1 h.dat).1).trans h.dat⟩
theorem Put1.cache {w0 w w' : World} {g cap r dg : Nat} {D : By} (h : Put1 w g cap r dg D) (hb : But (Cmn w0 w) w w') : Put1 w' g cap r dg D := by
  obtain ⟨cur, h1, h2, h3⟩ := h.row
  exact ⟨⟨cur, (hb.block g (Array.getElem?_eq_some_iff.1 h1).1 (cmn_not h1 (cTag_not (by decide) (by decide) (by decide)))).trans h1, h2, h3⟩, (hb.block dg (Array.getElem?_eq_some_iff.1 h.dat).1 (cmn_not h.dat (cTag_not (by decide) (by decide) (by decide)))).trans h.dat⟩

/-- A cache in which one block was put. -/
def pinned1 (A : AC) (x : Nat) (d : By) : AC := A.meet x d (fun e => { e with pins := e.pins + 1 })

theorem cmn_after {w0 w w1 w2 : World} (hb : Below w.heap.size w w1) (h : But (Cmn w0 w1) w1 w2) : But (Cmn w0 w) w w2 :=
  (But.of_below (S := Cmn w0 w) hb).after h fun i hi hc => ⟨hc.1, fun cs t fr hk => hc.2 cs t fr ((hb.block i hi).trans hk)⟩
theorem cmn_trans {w0 w w1 w2 : World} (h1 : But (Cmn w0 w) w w1) (h2 : But (Cmn w0 w1) w1 w2) : But (Cmn w0 w) w w2 := by
  refine h1.after h2 fun i hi hc => ⟨hc.1, fun cs t fr hk => ?_⟩
  apply Classical.byContradiction
  intro hn
  have := h1.block i hi (fun hc' => hn (hc'.2 cs t fr hk))
  exact hn (hc.2 cs t fr (this.trans hk))

set_option maxRecDepth 8000 in
set_option maxHeartbeats 1000000 in
theorem unpin_one (w0 w : World) (wb c g cap r dg b : Nat) (cs : List Value) (t : TypeId) (D : By) (vs : VS) (A : AC) (hw : BlkAt w wb cs t) (h0 : cs[0]? = some (ep c)) (hP : Put1 w g cap r dg D) (hC : CW w0 w c vs A b) (he : ∃ e ∈ A.L, e.block = r ∧ 0 < e.pins ∧ e.pins < 1000000) :
    Calls Tryz.prog 86 #[.pointer (some ⟨wb, 0, none⟩), .slice (some ⟨g, 0, none⟩) 1 cap] w fun e w' => e = .returned (.tuple #[]) ∧ CW w0 w' c vs (A.unpin r) (b + 1) ∧ But (Cmn w0 w) w w' := by
  have p0 := hP.c0
  have p1 := hP.c1
  have HW : Hid (BlkAt w wb cs t ∧ Put1 w g cap r dg D ∧ CW w0 w c vs A b) := ⟨hw, hP, hC⟩
  clear hw hP hC
  go_enter Tryz.func86, Tryz.ntmps86
  go_wp2_with fail
  go_loopw [8] (fun ii wr => ∃ i : Nat, i ≤ 1 ∧ ii = .int .i64 i ∧ Hid ((i = 0 ∧ wr = w) ∨ (i = 1 ∧ CW w0 wr c vs (A.unpin r) (b + 1) ∧ But (Cmn w0 w) w wr))) (fun ii _ => 1 - (intOf ii).toNat)
  case atStart => exact ⟨0, by omega, rfl, .inl ⟨rfl, rfl⟩⟩
  case round =>
    obtain ⟨i, hi, rfl, HI⟩ := hrel
    by_cases hi0 : i = 0
    · subst hi0
      obtain rfl : wr = w := by
        rcases HI.out with ⟨_, e⟩ | ⟨e, _⟩
        · exact e
        · cases e
      clear HI
      obtain ⟨w1, hw1⟩ : ∃ w1, w1 = wr.alloc (.cells #[.int .i64 (r : Nat), .slice (some ⟨dg, 0, none⟩) 512 512] 143) := ⟨_, rfl⟩
      have hB1 : Below wr.heap.size wr w1 := by rw [hw1]; exact (Below.refl _ wr).alloc (Nat.le_refl _) _
      have d0 := (HW.out.1.below hB1).cell h0
      have q0 : w1.cell? ⟨wr.heap.size, 0, none⟩ = some (.int .i64 (r : Nat)) := by rw [hw1, cellOf (heap_alloc_new wr _) 0]; rfl
      have cU := cw_unpin w0 w1.drew c vs A b r ((HW.out.2.2.below hB1).below ((Below.refl _ w1).drew)) he
      have H1 : Hid (Below wr.heap.size wr w1) := hB1
      clear hB1
      go_wp2_with fail
      rw [← hw1]
      clear hw1 p0 p1
      go_region_with (go_at_call 106; refine cU.mono ?_; rintro e w2 ⟨rfl, hC2, hb2⟩)
      all_goals
        have H2 : Hid (CW w0 w2 c vs (A.unpin r) (b + 1) ∧ But (Cmn w0 wr) wr w2) := ⟨hC2, cmn_after H1.out.drew hb2⟩
        clear cU hC2 hb2 d0 q0
        go_wp2
        exact ⟨⟨1, by omega, rfl, .inr ⟨rfl, H2.out⟩⟩, by simp [intOf]⟩
    · obtain rfl : i = 1 := by omega
      go_wp2
      go_end0
      rcases HI.out with ⟨e, _⟩ | ⟨_, h⟩
      · omega
      · exact ⟨rfl, h⟩

end Go.Proofs.YtebdgcoandfocaaGreatDoor

namespace Go.Proofs.YtebdgcoandfocaaGreatDoor
open Go.RowKit Go.Maps Go.Sort Go.Shelf

set_option maxRecDepth 8000 in
set_option maxHeartbeats 4000000 in
theorem putAll_one (w0 w : World) (wb c g cap r dg b : Nat) (cs : List Value) (t : TypeId) (D : By) (vs : VS) (A : AC) (hw : BlkAt w wb cs t) (ht : ¬ cTag t) (h0 : cs[0]? = some (ep c)) (h4 : cs[4]? = some (.slice (some ⟨g, 0, none⟩) 1 cap)) (hP : Put1 w g cap r dg D) (hDl : D.length = 512) (hC : CW w0 w c vs A b) (hb : b < 700000) (hr : r < nbOf vs.d.n) (hok : A.held r = true ∨ A.full = false) (hp : ∀ e ∈ A.L, e.pins < 1000000)
    (he1 : ∃ e ∈ (pinned1 A r (vs.cont r)).L, e.block = r ∧ e.dirty = false) (he2 : ∃ e ∈ ((pinned1 A r (vs.cont r)).put r D).L, e.block = r ∧ 0 < e.pins ∧ e.pins < 1000000) :
    Calls Tryz.prog 65 #[.pointer (some ⟨wb, 0, none⟩)] w fun e w' => e = .returned (.int .i64 0) ∧ CW w0 w' c vs (((pinned1 A r (vs.cont r)).put r D).unpin r) (b + 3) ∧ But (Cmn w0 w) w w' := by
  have d4 := hw.cell h4
  have p0 := hP.c0
  have p1 := hP.c1
  have HW : Hid (BlkAt w wb cs t ∧ Put1 w g cap r dg D ∧ CW w0 w c vs A b) := ⟨hw, hP, hC⟩
  clear hw hP hC
  go_enter Tryz.func65, Tryz.ntmps65
  go_wp2_with fail
  go_loopw [13] (fun ii wr => ∃ i : Nat, i ≤ 1 ∧ ii = .int .i64 i ∧ Hid ((i = 0 ∧ wr = w) ∨ (i = 1 ∧ CW w0 wr c vs (pinned1 A r (vs.cont r)) (b + 1) ∧ But (Cmn w0 w) w wr))) (fun ii _ => 1 - (intOf ii).toNat)
  case atStart => exact ⟨0, by omega, rfl, .inl ⟨rfl, rfl⟩⟩
  case round =>
    obtain ⟨i, hi, rfl, HI⟩ := hrel
    by_cases hi0 : i = 0
    · subst hi0
      obtain rfl : wr = w := by
        rcases HI.out with ⟨_, e⟩ | ⟨e, _⟩
        · exact e
        · cases e
      clear HI
      obtain ⟨w1, hw1⟩ : ∃ w1, w1 = wr.alloc (.cells #[.int .i64 (r : Nat), .slice (some ⟨dg, 0, none⟩) 512 512] 143) := ⟨_, rfl⟩
      have hB1 : Below wr.heap.size wr w1 := by rw [hw1]; exact (Below.refl _ wr).alloc (Nat.le_refl _) _
      have d0 := (HW.out.1.below hB1).cell h0
      have q0 : w1.cell? ⟨wr.heap.size, 0, none⟩ = some (.int .i64 (r : Nat)) := by rw [hw1, cellOf (heap_alloc_new wr _) 0]; rfl
      have cU := cw_pin w0 w1.drew c vs A b r ((HW.out.2.2.below hB1).below ((Below.refl _ w1).drew)) (by omega) hr hok hp
      have H1 : Hid (Below wr.heap.size wr w1) := hB1
      clear hB1
      go_wp2_with fail
      rw [← hw1]
      clear hw1 p0 p1
      go_region_with (go_at_call 85; refine cU.mono ?_; rintro e w2 ⟨rfl, hC2, hb2⟩)
      all_goals
        have H2 : Hid (CW w0 w2 c vs (pinned1 A r (vs.cont r)) (b + 1) ∧ But (Cmn w0 wr) wr w2) := ⟨hC2, cmn_after H1.out.drew hb2⟩
        clear cU hC2 hb2 d0 q0
        go_wp2
        exact ⟨⟨1, by omega, rfl, .inr ⟨rfl, H2.out⟩⟩, by simp [intOf]⟩
    · obtain rfl : i = 1 := by omega
      have H1 : Hid (CW w0 wr c vs (pinned1 A r (vs.cont r)) (b + 1) ∧ But (Cmn w0 w) w wr) := by
        rcases HI.out with ⟨e, _⟩ | ⟨_, h⟩
        · omega
        · exact h
      clear HI d4 p0 p1
      have hw1 := HW.out.1.cache H1.out.2 ht
      have d4 := hw1.cell h4
      have hP1 := HW.out.2.1.cache H1.out.2
      have p0 := hP1.c0
      have p1 := hP1.c1
      clear hw1 hP1
      obtain ⟨wa, rfl⟩ : ∃ wa, wa = wr := ⟨_, rfl⟩
      go_wp2_with fail
      go_loopw [42] (fun ii wr => ∃ i : Nat, i ≤ 1 ∧ ii = .int .i64 i ∧ Hid ((i = 0 ∧ wr = wa) ∨ (i = 1 ∧ CW w0 wr c vs ((pinned1 A r (vs.cont r)).put r D) (b + 2) ∧ But (Cmn w0 w) w wr))) (fun ii _ => 1 - (intOf ii).toNat)
      case atStart => exact ⟨0, by omega, rfl, .inl ⟨rfl, rfl⟩⟩
      case round =>
        obtain ⟨j, hj, rfl, HJ⟩ := hrel
        by_cases hj0 : j = 0
        · subst hj0
          obtain rfl : wr = wa := by
            rcases HJ.out with ⟨_, e⟩ | ⟨e, _⟩
            · exact e
            · cases e
          clear HJ d4
          obtain ⟨w1, hw1⟩ : ∃ w1, w1 = wr.alloc (.cells #[.int .i64 (r : Nat), .slice (some ⟨dg, 0, none⟩) 512 512] 143) := ⟨_, rfl⟩
          have hB1 : Below wr.heap.size wr w1 := by rw [hw1]; exact (Below.refl _ wr).alloc (Nat.le_refl _) _
          have d0 := ((HW.out.1.cache H1.out.2 ht).below hB1).cell h0
          have q0 : w1.cell? ⟨wr.heap.size, 0, none⟩ = some (.int .i64 (r : Nat)) := by rw [hw1, cellOf (heap_alloc_new wr _) 0]; rfl
          have q1 : w1.cell? ⟨wr.heap.size, 1, none⟩ = some (.slice (some ⟨dg, 0, none⟩) 512 512) := by rw [hw1, cellOf (heap_alloc_new wr _) 1]; rfl
          have hPb := (HW.out.2.1.cache H1.out.2).below hB1
          have cU := cw_put w0 w1.drew c vs (pinned1 A r (vs.cont r)) (b + 1) r (some ⟨dg, 0, none⟩) 512 D ((H1.out.1.below hB1).below ((Below.refl _ w1).drew)) (by omega) he1 (bytes_block hPb.dat) hDl (fun g' o' e => by
            cases e
            exact ⟨_, _, hPb.dat⟩)
          have HB1 : Hid (Below wr.heap.size wr w1) := hB1
          clear hB1 hPb
          go_wp2_with fail
          rw [← hw1]
          clear hw1 p0 p1
          go_region_with (go_at_call 87; refine cU.mono ?_; rintro e w2 ⟨rfl, hC2, hb2⟩)
          all_goals
            have H2 : Hid (CW w0 w2 c vs ((pinned1 A r (vs.cont r)).put r D) (b + 2) ∧ But (Cmn w0 w) w w2) := ⟨hC2, cmn_trans H1.out.2 (cmn_after HB1.out.drew hb2)⟩
            clear cU hC2 hb2 d0 q0 q1
            go_wp2
            go_roundw
            case rel => exact ⟨_, _, _, _, _, _, _, _, _, _, _, _, _, _, _, ⟨1, by omega, rfl, .inr ⟨rfl, H2.out⟩⟩, rfl⟩
            case measure => simp [intOf]
        · obtain rfl : j = 1 := by omega
          have H2 : Hid (CW w0 wr c vs ((pinned1 A r (vs.cont r)).put r D) (b + 2) ∧ But (Cmn w0 w) w wr) := by
            rcases HJ.out with ⟨e, _⟩ | ⟨_, h⟩
            · omega
            · exact h
          clear HJ d4 p0 p1
          have hw2 := HW.out.1.cache H2.out.2 ht
          have d4 := hw2.cell h4
          have cU := unpin_one w0 wr wb c g cap r dg (b + 2) cs t D vs _ hw2 h0 (HW.out.2.1.cache H2.out.2) H2.out.1 he2
          clear hw2
          go_wp2_with (go_at_call 86; refine cU.mono ?_; rintro e w3 ⟨rfl, hC3, hb3⟩; clear cU)
          go_ret
          exact ⟨rfl, hC3, cmn_trans H2.out.2 hb3⟩

end Go.Proofs.YtebdgcoandfocaaGreatDoor
