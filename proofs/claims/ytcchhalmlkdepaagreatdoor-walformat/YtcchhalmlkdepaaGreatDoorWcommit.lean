/-
  Commit of package wal, where the log must be begun anew and holds no block.
-/
import Derived.Test.YtcchhalmlkdepaaGreatDoorWwrite
namespace Go.Proofs.YtcchhalmlkdepaaGreatDoor
open Go.RowKit Go.Maps Go.Sort Go.Shelf

/-- Behind a Commit that begins the log anew. -/
structure Cmt (w w' : World) (v commits turn : Nat) (pm : List PutM) (d d' : DS) (f : Nat) : Prop where
  vol : IsVol w' v (dp d.a) (commits + 1) (turn + 1) (1 + nbOf d.n + pagesFor pm.length) (some f) d'.count
  map : ∃ F', Fresh w' f pm.length F' (laidOn (fun _ => none) (recOf pm))
  new : w.heap.size ≤ f
  fm : f ≠ d'.m
  dev : Dev w' d'
  n : d'.n = d.n
  B : d'.B = laidP (upd d.B 0 (headB (turn + 1) commits d.n)) (1 + nbOf d.n) ((List.range (pagesFor pm.length)).map fun k => pageB (turn + 1) (recOf pm) k)
  count : d'.count = d.count + 4 + pagesFor pm.length
  fused : d'.fused = d.fused
  near : Near w d d'
  but : But (fun k => k = v ∨ d.mine k) w w'

set_option maxRecDepth 8000 in
set_option maxHeartbeats 4000000 in
theorem vCommit_restart (q : Option Addr) (pm : List PutM) (c v : Nat) (commits turn next f nf : Nat) (d : DS) (w : World) (h : IsVol w v (dp d.a) commits turn next (some f) d.count) (hd : Dev w d) (ht : Tab w) (hn : 16 ≤ d.n)
    (hps : PutsAt w q pm) (hg : pm.all (goodPut (nbOf d.n)) = true) (hl1 : 1 ≤ pm.length) (hl2 : pm.length ≤ nbOf d.n) (hno : (d.n : Int) - next < pagesFor pm.length) (hnx : next ≤ d.n) (hfit : 1 + nbOf d.n + pagesFor pm.length ≤ d.n)
    (hown : w.ownsMap Tryz.prog 3 slElem f nf (.map [])) (hfm : f ≠ d.m) (hc : commits < 4000000000000000000) (htu : turn < 4000000000000000000) (hfu : d.fused = false) (hcn : d.count < 800000000) :
    Calls Tryz.prog 23 #[dp v, .slice q pm.length c] w fun e w' => e = .returned (.int .i64 0) ∧ ∃ d' f', Cmt w w' v commits turn pm d d' f' := by
  have hle := hd.hn
  have hnb : nbOf d.n ≤ 65536 := by unfold nbOf; omega
  have hdead : d.dead = false := by unfold DS.dead; rw [hfu]; rfl
  have htk : takesB (nbOf d.n) pm = true := by unfold takesB; rw [hg]; simp; omega
  have c46 := takes_any q pm c v commits turn next (some f) d.count d w h hd hn hps (fun e => by omega) (by omega)
  rw [htk] at c46
  have c48 : ∀ W : World, Below w.heap.size w W → Calls Tryz.prog 30 #[dp v] W fun e w' => e = .returned (.int .i64 0) ∧ w' = W := by
    intro W hW
    have := checkLife v commits turn next (some f) d.count d W (h.below hW) (hd.below hW)
    rw [hdead] at this
    exact this
  have c53 : ∀ W : World, Below w.heap.size w W → Calls Tryz.prog 25 #[dp v] W fun e w' => e = .returned (.tuple #[]) ∧ Below w.heap.size w w' := by
    intro W hW
    refine (catchUp_idle v commits turn next (some f) d W (h.below hW) (hd.below hW)).mono ?_
    rintro e w' ⟨rfl, k, rfl⟩
    exact ⟨rfl, below_drewN hW k⟩
  have cW : ∀ W : World, Below w.heap.size w W → Calls Tryz.prog 49 #[dp v, .slice q pm.length c] W fun e w' => e = .returned (.int .i64 0) ∧ ∃ d' f', Wrt W w' v commits turn pm d d' f' := by
    intro W hW
    refine write_restart q pm c v commits turn next f nf d.count d W (h.below hW) (hd.below hW) (below_tab hW ht.lt ht) hn ?_ hg hl1 hl2 hno hnx hfit ?_ hfm hc htu hfu hcn
    · exact hps.but (But.of_below (S := fun _ => False) hW) (fun k cs t fr hk ht => not_false)
    · have hlt := hown.lt
      obtain ⟨es, clock, he, r⟩ := hown
      exact ⟨es, clock, (hW.block f hlt).trans he, r⟩
  have x0 : ∀ W : World, Below w.heap.size w W → W.cell? ⟨v, 0, none⟩ = some (dp d.a) := fun W hW => by have := cellOf (h.below hW) 0; simpa [volCells] using this
  have HP : Hid (PutsAt w q pm ∧ IsVol w v (dp d.a) commits turn next (some f) d.count ∧ Dev w d) := ⟨hps, h, hd⟩
  have hl0 : ¬ ((pm.length : Int) = 0) := by omega
  clear h hd ht hps hown
  go_enter Tryz.func23, Tryz.ntmps23
  go_wp2_with (first
    | (go_at_call 48; refine c46.mono ?_; rintro e w1 ⟨rfl, hB1⟩; clear c46; have c48' := c48 w1 hB1; clear c48)
    | (go_at_call 30; refine Calls_on c48' ?_; have c53' := c53 w1 hB1; clear c53)
    | (go_at_call 25; refine c53'.mono ?_; rintro e w2 ⟨rfl, hB2⟩; clear c53'; have cW' := cW w2 hB2; clear cW)
    | (go_at_call 49; refine cW'.mono ?_; rintro e w3 ⟨rfl, d3, f3, hR⟩; clear cW'; refine Stop.out ?_))
  refine Stop.mk ?_
  obtain ⟨hps, hv, hd⟩ := HP.out
  have hv2 := hv.below hB2
  have hd2 := hd.below hB2
  have hps2 : PutsAt w2 q pm := hps.but (But.of_below (S := fun _ => False) hB2) (fun k cs t fr hk ht => not_false)
  have hps3 : PutsAt w3 q pm := hps2.but hR.but (fun k cs t fr hk ht => by rcases ht with rfl | rfl <;> exact away hv2 hd2 hk (by decide) (by decide) (by decide))
  have hv3 := hR.vol
  have c23 : Calls Tryz.prog 27 #[dp d.a] w3 fun e w' => e = .returned (.int .i64 d3.count) ∧ w' = w3 := by rw [← hR.near.a]; exact dev_count d3 w3 hR.dev
  have y0 := cellOf hv3 0
  have y5 := cellOf hv3 5
  have f5 := frozenOf hv3 5
  simp [volCells] at y0 y5
  obtain ⟨w4, hw4⟩ : ∃ w4, w4 = w3.setCell ⟨v, 5, none⟩ (.int .i64 d3.count) := ⟨_, rfl⟩
  have hb4 : But (fun k => k = v) w3 w4 := by rw [hw4]; exact (But.refl (fun k => k = v) w3).setCell ⟨v, 5, none⟩ rfl _
  have hv4 : IsVol w4 v (dp d.a) commits (turn + 1) (1 + nbOf d.n + pagesFor pm.length) (some f3) d3.count := by rw [hw4]; exact hv3.setK _
  have hd4 : Dev w4 d3 := hR.dev.butV hv3 hb4
  have hm4 : w4.heap[f3]? = some (.map #[] 0) := (hb4.block f3 (Array.getElem?_eq_some_iff.1 hR.map).1 (map_cells_ne hR.map hv3)).trans hR.map
  have hps4 : PutsAt w4 q pm := hps3.but hb4 (fun k cs t fr hk ht e => by subst e; rcases ht with rfl | rfl <;> exact absurd (hv3.symm.trans hk) (by simp))
  have c50 := take_any q pm c v (some ⟨d.a, 0, none⟩) commits (turn + 1) (1 + nbOf d.n + pagesFor pm.length) f3 0 (.map []) (fun _ => none) d3.count (nbOf d.n) w4 hv4 (Fresh.empty hm4) hps4 hg (by omega) (by omega) (by omega)
  have HR : Hid (Wrt w2 w3 v commits turn pm d d3 f3 ∧ But (fun k => k = v) w3 w4 ∧ Dev w4 d3 ∧ IsVol w4 v (dp d.a) commits (turn + 1) (1 + nbOf d.n + pagesFor pm.length) (some f3) d3.count ∧ w4.heap[f3]? = some (.map #[] 0)) := ⟨hR, hb4, hd4, hv4, hm4⟩
  clear hps hv hd hv2 hd2 hps2 hps3 hv3 hR hb4 hv4 hd4 hm4 hps4 c48' x0
  go_wp2_with (first
    | (go_at_call 27; refine Calls_on c23 ?_)
    | (go_at_call 50; rw [← hw4]; refine c50.mono ?_; rintro e w5 ⟨rfl, hv5, hF5, hb5⟩; clear c50))
  go_ret
  obtain ⟨hR, hb4, hd4, hv4, hm4⟩ := HR.out
  rw [Nat.zero_add] at hF5
  have hne : ∀ k, d3.mine k → ¬ (k = v ∨ k = f3) := by
    rintro k hk (rfl | rfl)
    · exact hv4.mine hd4 hk
    · rcases hk with e | e | e
      · exact map_cells_ne hm4 hd4.dev e
      · obtain ⟨_, hr, _⟩ := hd4.row; exact map_cells_ne hm4 hr e
      · exact hR.fm e
  refine ⟨rfl, d3, f3, hv5, hF5, Nat.le_trans hB2.size hR.new, hR.fm, hd4.but hb5 hne (fun g l hg' => ?_), hR.n, hR.B, hR.count, hR.fused, ?_, ?_⟩
  · rintro (rfl | rfl)
    · have := hv4; rw [IsVol, hg'] at this; simp at this
    · rw [hm4] at hg'; cases hg'
  · refine ⟨hR.near.a, hR.near.s, ?_⟩
    rcases hR.near.m with e | e
    · exact .inl e
    · exact .inr (Nat.le_trans hB2.size e)
  · have t2 : But (fun k => (k = v ∨ d.mine k) ∨ w.heap.size ≤ k) w w2 := But.of_below hB2
    have hn := hR.new
    have hs2 := hB2.size
    exact (((t2.trans (hR.but.mono fun k _ h => .inl h)).trans (hb4.mono fun k _ h => .inl (.inl h))).trans (hb5.mono fun k _ h => by rcases h with h | h; exact .inl (.inl h); exact .inr (by omega))).mono (fun k hk h => h.resolve_right (by omega))

end Go.Proofs.YtcchhalmlkdepaaGreatDoor
