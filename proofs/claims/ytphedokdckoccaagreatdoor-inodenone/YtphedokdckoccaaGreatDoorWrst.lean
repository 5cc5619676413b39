/-
  restart of package wal, where the log holds no block.
-/
import Derived.Test.YtphedokdckoccaaGreatDoorWrest
namespace Go.Proofs.YtphedokdckoccaaGreatDoor
open Go.RowKit Go.Maps Go.Sort Go.Shelf

/-- Behind restart's steps. -/
structure Rst (w W : World) (d d' : DS) (commits turn f : Nat) : Prop where
  but : But d.mine w W
  near : Near w d d'
  dev : Dev W d'
  n : d'.n = d.n
  D : d'.D = .map []
  B : d'.B = upd d.B 0 (headB (turn + 1) commits d.n)
  count : d'.count = d.count + 4
  fused : d'.fused = d.fused
  map : W.heap[f]? = some (.map #[] 0)
  fm : f ≠ d'.m

theorem But.pass {w W : World} {d : DS} (hd : Dev w d) (hb : But d.mine w W) {g : Nat} {l : Array Value} {t : TypeId} {fr : Nat × Nat} (hg : w.heap[g]? = some (.cells l t fr)) (h1 : t ≠ 105) (h2 : t ≠ 102) : W.heap[g]? = some (.cells l t fr) :=
  (hb.block g (Array.getElem?_eq_some_iff.1 hg).1 (hd.other hg h1 h2)).trans hg

theorem map_cells_ne {w : World} {f b : Nat} {es : Array MapEntry} {clock : Nat} {cs : Array Value} {t : TypeId} {fr : Nat × Nat} (hm : w.heap[f]? = some (.map es clock)) (hb : w.heap[b]? = some (.cells cs t fr)) : f ≠ b := by
  rintro rfl
  rw [hm] at hb
  cases hb

theorem restart_none (v : Nat) (commits turn next f nf : Nat) (count : Int) (d : DS) (w : World) (h : IsVol w v (dp d.a) commits turn next (some f) count) (hd : Dev w d) (ht : Tab w) (hn : 16 ≤ d.n)
    (hown : w.ownsMap Tryz.prog 3 slElem f nf (.map [])) (hfm : f ≠ d.m) (hc : commits < 4000000000000000000) (htu : turn < 4000000000000000000) (hl : d.lives 4) (hcn : d.count < 900000000) :
    Calls Tryz.prog 146 #[dp v] w fun e w' => e = .returned (.int .i64 0) ∧ ∃ d', IsVol w' v (dp d.a) commits (turn + 1) (1 + nbOf d.n) (some w.heap.size) 0 ∧ Dev w' d' ∧ Near w d d' ∧ d'.n = d.n ∧ d'.D = .map [] ∧ d'.B = upd d.B 0 (headB (turn + 1) commits d.n) ∧ d'.count = d.count + 4 ∧ d'.fused = d.fused ∧ w'.heap[w.heap.size]? = some (.map #[] 0) ∧ w.heap.size ≠ d'.m ∧ But (fun k => k = v ∨ d.mine k) w w' := by
  refine (restart_steps v commits turn next f count d w h hd hn htu (fun W' => (∃ d', Rst w W' d d' commits turn w.heap.size) ∧ IsVol W' v (dp d.a) commits turn next (some f) count) ?_).mono ?_
  · intro Wc hBc hmc hvn hsc
    obtain ⟨cs, hgc⟩ := hsc
    have hdc := hd.below hBc
    have hvc := h.below hBc
    have hownc : Wc.ownsMap Tryz.prog 3 slElem f nf (.map []) := by
      have hlt := hown.lt
      obtain ⟨es, clock, he, r⟩ := hown
      exact ⟨es, clock, (hBc.block f hlt).trans he, r⟩
    have bc : But d.mine w Wc := But.of_below hBc
    have hmlt := hd.mlt
    have halt := hd.alt
    have hslt := hd.slt
    -- Flush
    refine (dev_flush d Wc hdc (hl.alive (by omega)) (by omega)).mono ?_
    rintro e w1 ⟨m1, rfl, hm1, hd1, b1⟩
    have n1 : Near w d (d.flushed m1) := Near.flushed (Nat.le_trans hBc.size hm1)
    have b1' := (Near.refl w d).but bc b1
    have hg1 := But.pass hdc b1 hgc (by decide) (by decide)
    have hvn1 := But.pass hdc b1 hvn (by decide) (by decide)
    have hv1 := But.pass hdc b1 hvc (by decide) (by decide)
    have hmc1 : w1.heap[w.heap.size]? = some (.map #[] 0) := (b1.block _ (Array.getElem?_eq_some_iff.1 hmc).1 (by rintro (e | e | e) <;> omega)).trans hmc
    have hown1 : w1.ownsMap Tryz.prog 3 slElem f nf (.map []) := by
      have hlt := hownc.lt
      obtain ⟨es, clock, he, r⟩ := hownc
      refine ⟨es, clock, (b1.block f hlt ?_).trans he, r⟩
      rintro (e | e | e)
      · exact map_cells_ne he hdc.dev e
      · obtain ⟨_, hr, _⟩ := hdc.row; exact map_cells_ne he hr e
      · exact hfm e
    refine ⟨0, rfl, hg1.trans hgc.symm, .inr ⟨rfl, ?_⟩⟩
    -- writeHomes
    refine (writeHomes_none v commits turn next f nf count d w1 hv1 hown1).mono ?_
    rintro e w2 ⟨rfl, hB2⟩
    refine ⟨0, rfl, (below_block hg1 hB2).trans hg1.symm, .inr ⟨rfl, ?_⟩⟩
    have hd2 := hd1.below hB2
    have b2' := b1'.trans (But.of_below hB2)
    have l2 : (d.flushed m1).lives 3 := DS.lives.flushed (k := 3) hl m1
    -- Flush
    refine (dev_flush (d.flushed m1) w2 hd2 (l2.alive (by omega)) (by simp [DS.flushed]; omega)).mono ?_
    rintro e w3 ⟨m3, rfl, hm3, hd3, b3⟩
    have hg2 := below_block hg1 hB2
    have hg3 := But.pass hd2 b3 hg2 (by decide) (by decide)
    have hvn3 := But.pass hd2 b3 (below_block hvn1 hB2) (by decide) (by decide)
    have hv3 := But.pass hd2 b3 (below_block hv1 hB2) (by decide) (by decide)
    have n3 := n1.trans (Near.flushed (d := d.flushed m1) hm3) b2'.size
    have b3' := n1.but b2' b3
    have hm2 := below_block hmc1 hB2
    have hmc3 : w3.heap[w.heap.size]? = some (.map #[] 0) := (b3.block _ (Array.getElem?_eq_some_iff.1 hm2).1 (by
      rintro (e | e | e)
      · have e' : w.heap.size = d.a := e; omega
      · have e' : w.heap.size = d.s := e; omega
      · have e' : w.heap.size = m1 := e
        have := (Array.getElem?_eq_some_iff.1 hmc).1
        omega)).trans hm2
    refine ⟨0, rfl, hg3.trans hg2.symm, .inr ⟨rfl, ?_⟩⟩
    have l3 := DS.lives.flushed (k := 2) l2 m3
    have ht3 : Tab w3 := b3'.tab ht (hd.noTab ht)
    -- writeHead
    refine (writeHead_any (w.heap.size + 1) commits (turn + 1) (1 + nbOf d.n) (some w.heap.size) 0 ((d.flushed m1).flushed m3) w3 hvn3 hd3 ht3 (by omega) (by omega) (l3.alive (by omega)) (by simp [DS.flushed]; omega)).mono ?_
    rintro e w4 ⟨rfl, b4, p4, hp4, hd4⟩
    have hg4 := But.pass hd3 b4 hg3 (by decide) (by decide)
    have hvn4 := But.pass hd3 b4 hvn3 (by decide) (by decide)
    have hv4 := But.pass hd3 b4 hv3 (by decide) (by decide)
    have b4' := n3.but b3' b4
    have n4 := n3.trans (Near.wrote w3 ((d.flushed m1).flushed m3) 0 (headB (turn + 1) commits d.n) (loosened ((d.flushed m1).flushed m3).D 0 p4)) b3'.size
    have hmc4 : w4.heap[w.heap.size]? = some (.map #[] 0) := (b4.block _ (Array.getElem?_eq_some_iff.1 hmc3).1 (by
      rintro (e | e | e)
      · have e' : w.heap.size = d.a := e; omega
      · have e' : w.heap.size = d.s := e; omega
      · have e' : w.heap.size = m3 := e
        have := (Array.getElem?_eq_some_iff.1 hm2).1
        omega)).trans hmc3
    refine ⟨0, rfl, hg4.trans hg3.symm, .inr ⟨rfl, ?_⟩⟩
    have l4 := DS.lives.wrote (k := 1) l3 0 (headB (turn + 1) commits d.n) (loosened ((d.flushed m1).flushed m3).D 0 p4)
    -- Flush
    refine (dev_flush _ w4 hd4 (l4.alive (by omega)) (by simp [DS.flushed, DS.wrote]; omega)).mono ?_
    rintro e w5 ⟨m5, rfl, hm5, hd5, b5⟩
    have hg5 := But.pass hd4 b5 hg4 (by decide) (by decide)
    have hmc5 : w5.heap[w.heap.size]? = some (.map #[] 0) := (b5.block _ (Array.getElem?_eq_some_iff.1 hmc4).1 (by
      rintro (e | e | e)
      · have e' : w.heap.size = d.a := e; omega
      · have e' : w.heap.size = d.s := e; omega
      · have e' : w.heap.size = m3 := e
        have := (Array.getElem?_eq_some_iff.1 hm2).1
        omega)).trans hmc4
    refine ⟨0, rfl, hg5.trans hg4.symm, .inr ⟨rfl, rfl, ⟨⟨_, n4.but b4' b5, n4.trans (Near.flushed hm5) b4'.size, hd5, rfl, rfl, rfl, ?_, rfl, hmc5, by have e := (Array.getElem?_eq_some_iff.1 hmc4).1; show w.heap.size ≠ m5; omega⟩, But.pass hd4 b5 hv4 (by decide) (by decide)⟩, But.pass hd4 b5 hvn4 (by decide) (by decide), But.pass hd4 b5 hv4 (by decide) (by decide)⟩⟩
    simp [DS.flushed, DS.wrote]; omega
  · rintro e w' ⟨rfl, W', ⟨⟨d', hR⟩, hvo⟩, hv', hb'⟩
    have hlt := h.lt
    refine ⟨rfl, d', hv', hR.dev.butV hvo hb', hR.near, hR.n, hR.D, hR.B, hR.count, hR.fused, (hb'.block _ (Array.getElem?_eq_some_iff.1 hR.map).1 (by omega)).trans hR.map, hR.fm, (hR.but.mono (fun k _ hk => .inr hk)).trans (hb'.mono (fun k _ hk => .inl hk))⟩

end Go.Proofs.YtphedokdckoccaaGreatDoor
