/-
  The head of a volume: head and writeHead of package wal.
-/
import Derived.Test.YtebdgcoandfocaaGreatDoorKWord

namespace Go.Proofs.YtebdgcoandfocaaGreatDoor
open Go.RowKit Go.Maps Go.Sort Go.Shelf

theorem mark_str : strOf mark = ⟨#[108, 97, 103, 111, 111, 110, 58, 32, 97, 32, 118, 111, 108, 117, 109, 101, 32, 111, 102, 32, 98, 108, 111, 99, 107, 115]⟩ := by decide

set_option maxRecDepth 8000 in
set_option maxHeartbeats 1000000 in
theorem head_any (v : Nat) (commits turn next : Nat) (f : Option Nat) (count : Int) (d : DS) (w : World) (h : IsVol w v (dp d.a) commits turn next f count) (hd : Dev w d) (ht : Tab w)
    (hc : commits < 4611686018427387904) (htu : turn < 4611686018427387904) :
    Calls Tryz.prog 74 #[dp v] w fun e w' => ∃ g, e = .returned (.slice (some ⟨g, 0, none⟩) 512 512) ∧ w.heap.size ≤ g ∧
      w'.heap[g]? = some (.cells ((headB turn commits d.n).map u8v).toArray 5 (0, 0)) ∧ Below w.heap.size w w' := by
  have hn := hd.hn
  have HT : Hid (Tab w) := ht
  have HD : Hid (Dev w d) := hd
  have HV : Hid (IsVol w v (dp d.a) commits turn next f count) := h
  have h2 := cellOf h 2
  simp [volCells] at h2
  have c54a := appendNumber_any (.slice none 0 0) 0 [] turn w.heap.size w (World.ownsRow_nil _ _ _ _) (by omega) htu (Nat.le_refl _)
  clear h hd ht
  go_enter Tryz.func74, Tryz.ntmps74
  go_wp2_with fail
  refine c54a.mono ?_
  rintro e w1 ⟨v1, rfl, hr1, hB1⟩
  clear c54a h2
  have h1 := cellOf (HV.out.below hB1) 1
  simp [volCells] at h1
  have c54b := appendNumber_any v1 8 (le8 turn) commits w.heap.size w1 hr1 (by omega) hc hB1.size
  clear hr1
  go_wp2_with fail
  refine c54b.mono ?_
  rintro e w2 ⟨v2, rfl, hr2, hB2'⟩
  have hB2 := hB1.trans hB2'
  clear c54b h1 hB1 hB2'
  have h0 := cellOf (HV.out.below hB2) 0
  simp [volCells] at h0
  have c31 := dev_blocks d w2 (HD.out.below hB2)
  have c54c := appendNumber_any v2 16 (le8 turn ++ le8 commits) d.n w.heap.size w2 hr2 (by omega) (by omega) hB2.size
  clear hr2
  go_wp2_with (first | (go_at_call 69; refine Calls_on c31 ?_; clear c31) | (go_at_call 94; refine c54c.mono ?_; rintro e w3 ⟨v3, rfl, hr3, hB3'⟩; clear c54c; refine Stop.out ?_))
  refine Stop.mk ?_
  have hB3 := hB2.trans hB3'
  clear hB2 hB3' h0
  obtain ⟨g3, cap3, rfl, _⟩ := hr3.form (by omega)
  have HR3 : Hid (w3.ownsRow w.heap.size 5 1 (.slice (some ⟨g3, 0, none⟩) 24 cap3) 24 ((le8 turn ++ le8 commits ++ le8 d.n).map u8v)) := hr3
  have HB3 : Hid (Below w.heap.size w w3) := hB3
  clear hr3 hB3
  have hms := mark_str
  go_wp2_with (at_builtin; refine wpList_append_text rfl _ _ rfl w.heap.size _ 24 _ rfl HR3.out mark (by rw [hms]; rfl) (by decide) HB3.out.size ?_; intro v4 w4 hr4 hg4; refine Stop.out ?_)
  refine Stop.mk ?_
  have hB4 : Below w.heap.size w w4 := HB3.out.grown hg4 HB3.out.size (by intro k hk; exact owns_block HR3.out k hk)
  rw [← List.map_append] at hr4
  obtain ⟨g4, cap4, rfl, hg4', hb4⟩ := owns_bytes hr4 (by simp [mark])
  have c56 := seal_any (some ⟨g4, 0, none⟩) (headC turn commits d.n) cap4 w4 (below_tab hB4 HT.out.lt HT.out) (by rw [headC_length]; omega) (by
    have e : headC turn commits d.n = le8 turn ++ le8 commits ++ le8 d.n ++ mark := by simp [headC]
    rw [e]; exact hb4)
  rw [headC_length] at c56
  have HB4 : Hid (Below w.heap.size w w4) := hB4
  clear hr4 hb4 hB4 hg4
  show wpList Tryz.prog _ _ _ { tmps := _, defers := _ } w4
  go_wp2_with (go_at_call 95; refine c56.mono ?_; rintro e w5 ⟨g5, rfl, hg5, hb5, hB5⟩; clear c56)
  go_ret
  exact ⟨g5, rfl, Nat.le_trans HB4.out.size hg5, hb5, HB4.out.trans (hB5.mono HB4.out.size)⟩

/-- writeHead: the head is block 0. -/
theorem below_block {w w' : World} {g : Nat} {o : Obj} (h : w.heap[g]? = some o) (hb : Below w.heap.size w w') : w'.heap[g]? = some o := (hb.block g (Array.getElem?_eq_some_iff.1 h).1).trans h

set_option maxRecDepth 8000 in
set_option maxHeartbeats 1000000 in
theorem writeHead_any (v : Nat) (commits turn next : Nat) (f : Option Nat) (count : Int) (d : DS) (w : World) (h : IsVol w v (dp d.a) commits turn next f count) (hd : Dev w d) (ht : Tab w)
    (hc : commits < 4611686018427387904) (htu : turn < 4611686018427387904) (hdd : d.dead = false) (hcnt : d.count < 1000000000) :
    Calls Tryz.prog 54 #[dp v] w fun e w' => e = .returned (.int .i64 0) ∧ But d.mine w w' ∧ ∃ p, Holds512 w' p ((d.B 0).map u8v) ∧ Dev w' (d.wrote 0 (headB turn commits d.n) (loosened d.D 0 p)) := by
  have hn1 := hd.hn1
  have SOf : ∀ W, Below w.heap.size w W → W.cell? ⟨v, 0, none⟩ = some (dp d.a) ∧ Below w.heap.size w W := fun W hB => ⟨by have := cellOf (h.below hB) 0; simpa [volCells] using this, hB⟩
  have cH : ∀ W, (W.cell? ⟨v, 0, none⟩ = some (dp d.a) ∧ Below w.heap.size w W) → Calls Tryz.prog 74 #[dp v] W fun e w' => ∃ g, e = .returned (.slice (some ⟨g, 0, none⟩) 512 512) ∧
      w'.heap[g]? = some (.cells ((headB turn commits d.n).map u8v).toArray 5 (0, 0)) ∧ Below w.heap.size w w' := by
    rintro W ⟨_, hB⟩
    refine (head_any v commits turn next f count d W (h.below hB) (hd.below hB) (below_tab hB ht.lt ht) hc htu).mono ?_
    rintro e w' ⟨g, rfl, _, hg, hB'⟩
    exact ⟨g, rfl, hg, hB.trans (hB'.mono hB.size)⟩
  have cW : ∀ g W, (W.cell? ⟨v, 0, none⟩ = some (dp d.a) ∧ Below w.heap.size w W) → W.heap[g]? = some (.cells ((headB turn commits d.n).map u8v).toArray 5 (0, 0)) →
      Calls Tryz.prog 73 #[dp d.a, .int .i64 0, .slice (some ⟨g, 0, none⟩) 512 512] W fun e w' => e = .returned (.int .i64 0) ∧ But d.mine w w' ∧ ∃ p, Holds512 w' p ((d.B 0).map u8v) ∧ Dev w' (d.wrote 0 (headB turn commits d.n) (loosened d.D 0 p)) := by
    rintro g W ⟨_, hB⟩ hg
    refine (dev_write d 0 (headB turn commits d.n) g 0 512 W (hd.below hB) (by omega) (headB_length _ _ _) (bytes_block hg) hdd hcnt).mono ?_
    rintro e w' ⟨rfl, hbut, p, hp, hdv⟩
    exact ⟨rfl, (But.of_below hB).trans hbut, p, hp, hdv⟩
  clear h hd ht
  go_enter Tryz.func54, Tryz.ntmps54
  go_wp2_with fail
  have S0 := SOf w.drew (Below.refl _ _).drew
  go_region_with (first
    | (go_at_call 74; refine (cH _ S0).mono ?_; rintro e W1 ⟨g, rfl, hg, hB1⟩; have S1 := SOf _ hB1)
    | (go_at_call 73; refine (cW _ _ S1 hg).mono ?_; rintro e W2 ⟨rfl, hbut2, p2, hp2, hdv2⟩))
  all_goals go_wp2
  all_goals go_ret
  all_goals exact ⟨rfl, hbut2, p2, hp2, hdv2⟩

end Go.Proofs.YtebdgcoandfocaaGreatDoor
