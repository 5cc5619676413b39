/-
  A fuse; Format of a device of zeros whose fuse may burn within.
-/
import Derived.Test.YtcchhalmlkdepaaGreatDoorWmnt
import Derived.Test.YtcchhalmlkdepaaGreatDoorDfuse
namespace Go.Proofs.YtcchhalmlkdepaaGreatDoor
open Go.RowKit Go.Maps Go.Sort Go.Shelf

/-- Behind a Fuse. -/
def DS.fusedBy (d : DS) (n : Int) : DS := { d with fused := true, left := n }

theorem dev_fuse (d : DS) (n : Int) (w : World) (h : Dev w d) (hd : d.dead = false) (hn : n ≤ 9223372036854775807) :
    Calls Tryz.prog 18 #[dp d.a, .int .i64 n] w fun e w' => e = .returned (.tuple #[]) ∧ Dev w' (d.fusedBy n) ∧ But d.mine w w' := by
  refine (fuse_yes n d.a _ d.m d.fused d.left d.count w h.dev hd).mono ?_
  rintro e w' ⟨rfl, hdv, hb⟩
  refine ⟨rfl, ⟨hdv, ?_, ?_, h.aNs, h.hn1, h.hn, h.len, h.cnt, h.nnc, fun _ => hn⟩, hb.mono (fun k _ hk => .inl hk)⟩
  · obtain ⟨cur, hr, hcs, hx⟩ := h.row
    refine ⟨cur, (hb.block d.s h.slt (fun e => h.aNs e.symm)).trans hr, hcs, fun i hi => ?_⟩
    obtain ⟨p, hp, hh⟩ := hx i hi
    exact ⟨p, hp, hh.keep fun g hg' => hb.block g (Array.getElem?_eq_some_iff.1 hg').1 (fun e => h.blk hg' (.inl e))⟩
  · have hlt := h.mlt
    obtain ⟨es, clock, he, r⟩ := h.own
    exact ⟨es, clock, (hb.block d.m hlt (fun e => h.am e.symm)).trans he, r⟩

/-- How a Format ends: it died ahead of the head; it died with the head loose; it is done. -/
def FmtEnd (w' : World) (d d' : DS) (z : Int) : Prop :=
  (z = 5 ∧ d'.D = .map [] ∧ d'.B = d.B) ∨ (z = 5 ∧ (∃ p, d'.D = loosened (.map []) 0 p ∧ Holds512 w' p (zeroB.map u8v)) ∧ d'.B = upd d.B 0 (headB 1 0 d.n)) ∨ (z = 0 ∧ d'.D = .map [] ∧ d'.B = upd d.B 0 (headB 1 0 d.n))

theorem alive_of {d : DS} (h : ¬ d.dead = true) : d.dead = false := by cases hx : d.dead <;> simp_all

theorem format_fused (d : DS) (w : World) (hd : Dev w d) (ht : Tab w) (hn : 16 ≤ d.n) (hz : ∀ i, i < d.n → d.B i = zeroB) (hD : d.D = .map []) (hc : d.count < 900000000) :
    Calls Tryz.prog 17 #[dp d.a] w fun e w' => ∃ z d', e = .returned (.int .i64 z) ∧ But d.mine w w' ∧ Near w d d' ∧ Dev w' d' ∧ d'.n = d.n ∧ FmtEnd w' d d' z := by
  refine (format_steps (dp d.a) _ rfl w (fun z w' => ∃ d', But d.mine w w' ∧ Near w d d' ∧ Dev w' d' ∧ d'.n = d.n ∧ FmtEnd w' d d' z) _ rfl ?_).mono (by rintro e w' ⟨z, rfl, d', hB⟩; exact ⟨z, d', rfl, hB⟩)
  obtain ⟨w0, hw0⟩ : ∃ w0, w0 = (w.alloc (.cells (volCells (dp d.a) 0 1 0 none 0) 68)).alloc (.cells (([(29, dp w.heap.size), (38, dp w.heap.size), (26, dp d.a), (39, dp w.heap.size), (26, dp d.a), (40, dp w.heap.size), (26, dp d.a)] : List (Nat × Value)).map stepV).toArray 42) := ⟨_, rfl⟩
  rw [← hw0]
  have hB0 : Below w.heap.size w w0 := by rw [hw0]; exact ((Below.refl _ w).alloc (Nat.le_refl _) _).alloc (by simp) _
  have hv0 : IsVol w0 w.heap.size (dp d.a) 0 1 0 none 0 := by rw [hw0]; exact new_vol _ _ _ _ _ _ _ _
  obtain ⟨cs, hg0⟩ : ∃ cs, w0.heap[w.heap.size + 1]? = some (.cells cs 42 (0, 0)) := ⟨_, by
    rw [hw0]
    have := heap_alloc_new (w.alloc (.cells (volCells (dp d.a) 0 1 0 none 0) 68)) (.cells (([(29, dp w.heap.size), (38, dp w.heap.size), (26, dp d.a), (39, dp w.heap.size), (26, dp d.a), (40, dp w.heap.size), (26, dp d.a)] : List (Nat × Value)).map stepV).toArray 42)
    rw [World.size_alloc] at this
    exact this⟩
  clear hw0
  have hd0 := hd.below hB0
  refine (checkRoom_yes w.heap.size 0 1 0 none 0 d w0 hv0 hd0 hn).mono ?_
  rintro e w1 ⟨rfl, rfl⟩
  refine ⟨0, rfl, rfl, .inr ⟨rfl, ?_⟩⟩
  refine (eraseHead_zeros w.heap.size 0 1 0 none 0 d w1 hv0 hd0 hz).mono ?_
  rintro e w2 ⟨rfl, hB2⟩
  refine ⟨0, rfl, below_block hg0 hB2 ▸ hg0.symm, .inr ⟨rfl, ?_⟩⟩
  have hg2 := below_block hg0 hB2
  have hv2 := hv0.below hB2
  have hd2 := hd0.below hB2
  have b2 : But d.mine w w2 := But.of_below (hB0.trans (hB2.mono hB0.size))
  by_cases x2 : d.dead = true
  · refine (dev_flush_dead d w2 hd2 x2).mono ?_
    rintro e w3 ⟨rfl, rfl⟩
    exact ⟨5, rfl, rfl, .inl ⟨by decide, d, b2, Near.refl w d, hd2, rfl, .inl ⟨rfl, hD, rfl⟩⟩⟩
  refine (dev_flush d w2 hd2 (alive_of x2) (by omega)).mono ?_
  rintro e w3 ⟨m3, rfl, hm3, hd3, b3⟩
  refine ⟨0, rfl, keep_steps hg2 hd2 b3, .inr ⟨rfl, ?_⟩⟩
  have hg3 := (keep_steps hg2 hd2 b3).trans hg2
  have hv3 := hv2.but b3 (hv2.mine hd2)
  have n3 : Near w d (d.flushed m3) := Near.flushed (Nat.le_trans b2.size hm3)
  have b3' := (Near.refl w d).but b2 b3
  refine (eraseRest_zeros w.heap.size 0 1 0 none 0 (d.flushed m3) w3 hv3 hd3 hz).mono ?_
  rintro e w4 ⟨rfl, hB4⟩
  refine ⟨0, rfl, below_block hg3 hB4 ▸ hg3.symm, .inr ⟨rfl, ?_⟩⟩
  have hg4 := below_block hg3 hB4
  have hv4 := hv3.below hB4
  have hd4 := hd3.below hB4
  have b4 := b3'.trans (But.of_below hB4)
  by_cases x4 : (d.flushed m3).dead = true
  · refine (dev_flush_dead (d.flushed m3) w4 hd4 x4).mono ?_
    rintro e w5 ⟨rfl, rfl⟩
    exact ⟨5, rfl, rfl, .inl ⟨by decide, d.flushed m3, b4, n3, hd4, rfl, .inl ⟨rfl, rfl, rfl⟩⟩⟩
  refine (dev_flush (d.flushed m3) w4 hd4 (alive_of x4) (by simp [DS.flushed]; omega)).mono ?_
  rintro e w5 ⟨m5, rfl, hm5, hd5, b5⟩
  refine ⟨0, rfl, keep_steps hg4 hd4 b5, .inr ⟨rfl, ?_⟩⟩
  have hg5 := (keep_steps hg4 hd4 b5).trans hg4
  have hv5 := hv4.but b5 (hv4.mine hd4)
  have n5 : Near w d ((d.flushed m3).flushed m5) := n3.trans (Near.flushed hm5) b4.size
  have b5' := n3.but b4 b5
  have ht5 : Tab w5 := b5'.tab ht (hd.noTab ht)
  by_cases x5 : ((d.flushed m3).flushed m5).dead = true
  · refine (writeHead_dead w.heap.size 0 1 0 none 0 ((d.flushed m3).flushed m5) w5 hv5 hd5 ht5 (by omega) (by omega) x5).mono ?_
    rintro e w6 ⟨rfl, hB6⟩
    exact ⟨5, rfl, below_block hg5 hB6 ▸ hg5.symm, .inl ⟨by decide, _, b5'.trans (But.of_below hB6), n5, hd5.below hB6, rfl, .inl ⟨rfl, rfl, rfl⟩⟩⟩
  refine (writeHead_any w.heap.size 0 1 0 none 0 ((d.flushed m3).flushed m5) w5 hv5 hd5 ht5 (by omega) (by omega) (alive_of x5) (by simp [DS.flushed]; omega)).mono ?_
  rintro e w6 ⟨rfl, b6, p6, hp6, hd6⟩
  refine ⟨0, rfl, keep_steps hg5 hd5 b6, .inr ⟨rfl, ?_⟩⟩
  have n6 := n5.trans (Near.wrote w5 ((d.flushed m3).flushed m5) 0 (headB 1 0 d.n) (loosened ((d.flushed m3).flushed m5).D 0 p6)) b5'.size
  have b6' := n5.but b5' b6
  by_cases x6 : (((d.flushed m3).flushed m5).wrote 0 (headB 1 0 d.n) (loosened ((d.flushed m3).flushed m5).D 0 p6)).dead = true
  · refine (dev_flush_dead _ w6 hd6 x6).mono ?_
    rintro e w7 ⟨rfl, rfl⟩
    refine ⟨5, rfl, rfl, .inl ⟨by decide, _, b6', n6, hd6, rfl, .inr (.inl ⟨rfl, ⟨p6, rfl, ?_⟩, rfl⟩)⟩⟩
    have e0 : ((d.flushed m3).flushed m5).B 0 = zeroB := hz 0 (by omega)
    rw [e0] at hp6
    exact hp6
  refine (dev_flush _ w6 hd6 (alive_of x6) (by simp [DS.flushed, DS.wrote]; omega)).mono ?_
  rintro e w7 ⟨m7, rfl, hm7, hd7, b7⟩
  exact ⟨0, rfl, keep_steps ((keep_steps hg5 hd5 b6).trans hg5) hd6 b7, .inr ⟨rfl, _, n6.but b6' b7, n6.trans (Near.flushed hm7) b6'.size, hd7, rfl, .inr (.inr ⟨rfl, rfl, rfl⟩)⟩⟩

end Go.Proofs.YtcchhalmlkdepaaGreatDoor
