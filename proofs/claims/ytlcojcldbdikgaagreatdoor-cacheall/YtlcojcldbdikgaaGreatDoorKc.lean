/-
  The heap of package bcache in memory: its row, its entries; Len, Less and Swap.
-/
import Derived.Test.YtlcojcldbdikgaaGreatDoorKb
import Derived.Test.YtlcojcldbdikgaaGreatDoorWseal
import Derived.Deep.RegionHeld3

/-
  Read of package wal, of a block that the log holds.
-/
namespace Go.Proofs.YtlcojcldbdikgaaGreatDoor
open Go.RowKit Go.Maps Go.Sort Go.Shelf

set_option maxRecDepth 8000 in
set_option maxHeartbeats 1000000 in
theorem vRead_fresh (i : Nat) (b : By) (v : Nat) (commits turn next : Nat) (f nf : Nat) (F : DataW Value) (fr : Nat → Option By) (d : DS) (w : World) (h : IsVol w v (dp d.a) commits turn next (some f) d.count) (hd : Dev w d) (hn : 16 ≤ d.n) (hF : Fresh w f nf F fr) (hi : i < nbOf d.n) (hfr : fr i = some b) :
    Calls Tryz.prog 21 #[dp v, .int .i64 i] w fun e w' => ∃ g cp, e = .returned (.tuple #[.slice (some ⟨g, 0, none⟩) 512 cp, .int .i64 0]) ∧ 512 ≤ cp ∧ b.length = 512 ∧ Bytes w' (some ⟨g, 0, none⟩) b ∧ Below w.heap.size w w' ∧ w.heap.size ≤ g := by
  have hle := hd.hn
  have hnb : nbOf d.n ≤ 65536 := by unfold nbOf; omega
  have c47 := vHas i v commits turn next (some f) d.count d w h hd hn
  rw [show decide ((0 : Int) ≤ (i : Int) ∧ (i : Int) < (nbOf d.n : Nat)) = true by simp; omega] at c47
  have c13 := catchUp_idle v commits turn next (some f) d w h hd
  obtain ⟨hbl, g0, cp0, hat, hcp0, hb0, _⟩ := hF.val i b (by omega) hfr
  have hhas := hF.has i (by omega)
  rw [hfr] at hhas
  have lk : ∀ k, (Instr.lookup 83 (.map (some f)) (.int .i64 i) true).run Tryz.prog (w.drewN k) = .ok (.tuple #[.slice (some ⟨g0, 0, none⟩) 512 cp0, .bool true]) (w.drewN k) := by
    intro k
    have hown : (w.drewN k).ownsMap Tryz.prog 3 slElem f nf F := hF.own
    obtain ⟨p, n, c, hrun, he⟩ := slook_ok hown (i := i) (by omega)
    rw [hat] at he
    simp only [slD, DataW.held.injEq, Value.slice.injEq] at he
    obtain ⟨rfl, rfl, rfl⟩ := he
    rw [hhas] at hrun
    exact hrun
  have x4 : ∀ k, (w.drewN k).cell? ⟨v, 4, none⟩ = some (.map (some f)) := fun k => by have := cellOf h 4; simpa [volCells] using this
  have cl : ∀ k, Calls Tryz.prog 29 #[.slice (some ⟨g0, 0, none⟩) 512 cp0] (w.drewN k) fun e w' => ∃ g cap, e = .returned (.slice (some ⟨g, 0, none⟩) 512 cap) ∧ w.heap.size ≤ g ∧ 512 ≤ cap ∧ Bytes w' (some ⟨g, 0, none⟩) b ∧ Below w.heap.size w w' := by
    intro k
    have := clone_bytes g0 0 b cp0 (w.drewN k) (below_bytes (below_drewN (Below.refl _ w) k) hb0) (by omega) (by omega)
    rw [hbl] at this
    refine this.mono ?_
    rintro e w' ⟨g, cap, rfl, h1, h2, h3, h4, _⟩
    exact ⟨g, cap, rfl, h1, h2, h3, (below_drewN (Below.refl _ w) k).trans h4⟩
  clear h hd hF hat hb0 hhas hfr
  go_enter Tryz.func21, Tryz.ntmps21
  go_wp2_with (first
    | (go_at_call 42; refine Calls_on c47 ?_)
    | (go_at_call 43; refine c13.mono ?_; rintro e w1 ⟨rfl, k1, rfl⟩; clear c13; have lk' := lk k1; have x4' := x4 k1; have cl' := cl k1; clear lk x4 cl)
    | (go_at_call 29; refine cl'.mono ?_; rintro e w2 ⟨g2, cap2, rfl, hg2, hc2, hb2, hB2⟩; clear cl'))
  go_ret2
  exact ⟨g2, cap2, rfl, hc2, hbl, hb2, hB2, hg2⟩

end Go.Proofs.YtlcojcldbdikgaaGreatDoor

/-
  Read of package wal, of a block that the log doesn't hold; and of one that isn't there.
-/
namespace Go.Proofs.YtlcojcldbdikgaaGreatDoor
open Go.RowKit Go.Maps Go.Sort Go.Shelf

set_option maxRecDepth 8000 in
set_option maxHeartbeats 1000000 in
theorem vRead_home (i : Nat) (v : Nat) (commits turn next : Nat) (f nf : Nat) (F : DataW Value) (fr : Nat → Option By) (d : DS) (w : World) (h : IsVol w v (dp d.a) commits turn next (some f) d.count) (hd : Dev w d) (hn : 16 ≤ d.n) (hF : Fresh w f nf F fr) (hi : i < nbOf d.n) (hfr : fr i = none) :
    Calls Tryz.prog 21 #[dp v, .int .i64 i] w fun e w' => ∃ g, e = .returned (.tuple #[.slice (some ⟨g, 0, none⟩) 512 512, .int .i64 0]) ∧ Bytes w' (some ⟨g, 0, none⟩) (d.B (1 + i)) ∧ Below w.heap.size w w' ∧ w.heap.size ≤ g := by
  have hle := hd.hn
  have hnb : nbOf d.n ≤ 65536 := by unfold nbOf; omega
  have hin : 1 + i < d.n := by unfold nbOf at hi; omega
  have c47 := vHas i v commits turn next (some f) d.count d w h hd hn
  rw [show decide ((0 : Int) ≤ (i : Int) ∧ (i : Int) < (nbOf d.n : Nat)) = true by simp; omega] at c47
  have c13 := catchUp_idle v commits turn next (some f) d w h hd
  have c16 := fun W => homeOf_any i W (by omega)
  have HD : Hid (Dev w d) := hd
  have hhas := hF.has i (by omega)
  rw [hfr] at hhas
  have lk : ∀ k, ∃ p n c, (Instr.lookup 83 (.map (some f)) (.int .i64 i) true).run Tryz.prog (w.drewN k) = .ok (.tuple #[.slice p n c, .bool false]) (w.drewN k) := by
    intro k
    have hown : (w.drewN k).ownsMap Tryz.prog 3 slElem f nf F := hF.own
    obtain ⟨p, n, c, hrun, he⟩ := slook_ok hown (i := i) (by omega)
    rw [hhas] at hrun
    exact ⟨p, n, c, hrun⟩
  have x4 : ∀ k, (w.drewN k).cell? ⟨v, 4, none⟩ = some (.map (some f)) := fun k => by have := cellOf h 4; simpa [volCells] using this
  have x0 : ∀ k, (w.drewN k).cell? ⟨v, 0, none⟩ = some (dp d.a) := fun k => by have := cellOf h 0; simpa [volCells] using this
  clear h hd hF hhas hfr
  go_enter Tryz.func21, Tryz.ntmps21
  go_wp2_with (first
    | (go_at_call 42; refine Calls_on c47 ?_)
    | (go_at_call 43; refine c13.mono ?_; rintro e w1 ⟨rfl, k1, rfl⟩; clear c13; obtain ⟨p, n, c, lk'⟩ := lk k1; have x4' := x4 k1; clear lk x4))
  obtain ⟨W3, hW3⟩ : ∃ W3, W3 = w.drewN k1 := ⟨_, rfl⟩
  have x0' : W3.drew.cell? ⟨v, 0, none⟩ = some (dp d.a) := by rw [hW3]; exact x0 k1
  have c15' := dev_read d (1 + i) W3.drew (by rw [hW3]; exact (HD.out.drewN k1).drew) hin
  have B3 : Below w.heap.size w W3.drew := by rw [hW3]; exact (below_drewN (Below.refl _ w) k1).drew
  rw [← hW3]
  clear hW3 x0 x4' lk'
  go_region_with (first
    | (go_at_call 45; refine Calls_on (c16 _) ?_)
    | (go_at_call 44; refine c15'.mono ?_; rintro e w2 ⟨rfl, hb2, hB2⟩))
  all_goals go_wp2
  all_goals go_ret2
  all_goals exact ⟨_, rfl, bytes_block hb2, B3.trans (hB2.mono B3.size), B3.size⟩

set_option maxRecDepth 8000 in
set_option maxHeartbeats 1000000 in
theorem vRead_no (i : Int) (v : Nat) (commits turn next : Nat) (f : Option Nat) (count : Int) (d : DS) (w : World) (h : IsVol w v (dp d.a) commits turn next f count) (hd : Dev w d) (hn : 16 ≤ d.n) (hi : ¬ (0 ≤ i ∧ i < nbOf d.n)) :
    Calls Tryz.prog 21 #[dp v, .int .i64 i] w fun e w' => e = .returned (.tuple #[.slice none 0 0, .int .i64 22]) ∧ w' = w := by
  have c47 := vHas i v commits turn next f count d w h hd hn
  rw [show decide ((0 : Int) ≤ i ∧ i < (nbOf d.n : Nat)) = false from decide_eq_false hi] at c47
  clear h hd
  go_enter Tryz.func21, Tryz.ntmps21
  go_wp2_with (go_at_call 42; refine Calls_on c47 ?_)
  go_ret2
  exact ⟨rfl, rfl⟩

end Go.Proofs.YtlcojcldbdikgaaGreatDoor

/-
  What write of package wal lays on the device, page by page, whatever the log holds.
-/
namespace Go.Proofs.YtlcojcldbdikgaaGreatDoor
open Go.RowKit Go.Maps Go.Sort Go.Shelf

/-- What write has done behind some pages. -/
structure WInvG (W1 W : World) (d : DS) (v commits turn nx f b0 : Nat) (cnt : Int) (mo : Obj) (g : Nat) (rc : By) (pg : List By) : Prop where
  vol : IsVol W v (dp d.a) commits turn (nx + pg.length) (some f) cnt
  dev : ∃ D, Dev W (d.paged nx pg D)
  bV : Boxed W b0 24 (dp v)
  bR : Boxed W (b0 + 1) 36 (.int .i64 0)
  byt : Bytes W (some ⟨g, 0, none⟩) rc
  map : W.heap[f]? = some mo
  but : But (fun k => k = v ∨ d.mine k) W1 W

theorem WInvG.own {β : Type} (W1 : World) (d : DS) (v commits turn nx f b0 : Nat) (cnt : Int) (mo : Obj) (g : Nat) (rc : By) (pg : β → List By) (B : Nat) (hB : B = W1.heap.size) (hm : d.m < B) (hf : f < B) :
    OwnFrom B (fun (pre : β) W => WInvG W1 W d v commits turn nx f b0 cnt mo g rc (pg pre)) := by
  rintro s X Y row hi hgr hrow
  have key : ∀ (b : Nat) cs (t : TypeId) fr, X.heap[b]? = some (.cells cs t fr) → Y.heap[b]? = some (.cells cs t fr) := by
    intro b cs t fr hx
    refine (hgr.block b (Array.getElem?_eq_some_iff.1 hx).1 (fun e => ?_)).trans hx
    obtain ⟨_, o, ho, hcell⟩ := hrow b e.symm
    rw [hx] at ho; cases ho; cases hcell
  have keyL : ∀ (b : Nat) o, b < B → X.heap[b]? = some o → Y.heap[b]? = some o := by
    intro b o hb hx
    refine (hgr.block b (Array.getElem?_eq_some_iff.1 hx).1 (fun e => ?_)).trans hx
    have := (hrow b e.symm).1
    omega
  have keyC : ∀ (b j : Nat) x, X.cell? ⟨b, j, none⟩ = some x → Y.cell? ⟨b, j, none⟩ = some x := by
    intro b j x hx
    refine hgr.cell hx (fun e => ?_)
    obtain ⟨_, o, ho, hcell⟩ := hrow b e.symm
    simp only [World.cell?, ho] at hx
    cases o <;> simp [Obj.isCells] at hcell hx
  have hbut : But (fun k => some k = row) X Y := But.of_grown hgr (fun k e => e.symm)
  refine ⟨key _ _ _ _ hi.vol, ?_, key _ _ _ _ hi.bV, key _ _ _ _ hi.bR, fun hp => ?_, keyL _ _ hf hi.map, ?_⟩
  · obtain ⟨D, hD⟩ := hi.dev
    refine ⟨D, hD.but hbut (fun k hk e => ?_) (fun g l hg e => ?_)⟩
    · obtain ⟨hBk, o, ho, hcell⟩ := hrow k e.symm
      rcases hk with rfl | rfl | rfl
      · have := hD.dev; rw [IsDevAt] at this; rw [show X.heap[(d.paged nx (pg s) D).a]? = some o from ho] at this; cases this; cases hcell
      · obtain ⟨_, hr, _⟩ := hD.row; rw [show X.heap[(d.paged nx (pg s) D).s]? = some o from ho] at hr; cases hr; cases hcell
      · have : d.m = (d.paged nx (pg s) D).m := rfl
        omega
    · obtain ⟨_, o, ho, hcell⟩ := hrow g e.symm
      rw [hg] at ho; cases ho; cases hcell
  · obtain ⟨b, o, e, hx⟩ := hi.byt hp
    exact ⟨b, o, e, fun j x hj => keyC _ _ _ (hx j x hj)⟩
  · refine ⟨hgr.os.trans hi.but.os, hgr.tape.trans hi.but.tape, hgr.output.trans hi.but.output, Nat.le_trans hi.but.size hgr.size, fun k hk hn => (hgr.block k (Nat.lt_of_lt_of_le hk hi.but.size) (fun e => ?_)).trans (hi.but.block k hk hn)⟩
    have := (hrow k e.symm).1
    omega

end Go.Proofs.YtlcojcldbdikgaaGreatDoor

/-
  write of package wal, whatever the log holds: with room left, and where the log must be begun anew.
-/
namespace Go.Proofs.YtlcojcldbdikgaaGreatDoor
open Go.RowKit Go.Maps Go.Sort Go.Shelf

attribute [local go_sem] Oper.semAt_some

/-- Behind a write of some pages from block NX on; d3 is the device ahead of them. -/
structure WrtG (w w' : World) (v commits T NX : Nat) (cnt : Int) (pm : List PutM) (d d3 d' : DS) (f : Nat) (mo : Obj) : Prop where
  vol : IsVol w' v (dp d.a) commits T (NX + pagesFor pm.length) (some f) cnt
  map : w'.heap[f]? = some mo
  fm : f ≠ d'.m
  dev : Dev w' d'
  n : d'.n = d.n
  B : d'.B = laidP d3.B NX ((List.range (pagesFor pm.length)).map fun k => pageB T (recOf pm) k)
  count : d'.count = d3.count + pagesFor pm.length
  fused : d'.fused = d.fused
  near : Near w d d'
  but : But (fun k => k = v ∨ d.mine k) w w'

set_option maxRecDepth 8000 in
set_option maxHeartbeats 4000000 in
theorem write_room (q : Option Addr) (pm : List PutM) (c v : Nat) (commits turn next f : Nat) (es : Array MapEntry) (clock : Nat) (count : Int) (d : DS) (w : World) (h : IsVol w v (dp d.a) commits turn next (some f) count) (hd : Dev w d) (ht : Tab w) (hn : 16 ≤ d.n)
    (hps : PutsAt w q pm) (hg : pm.all (goodPut (nbOf d.n)) = true) (hl2 : pm.length ≤ nbOf d.n) (hfit : next + pagesFor pm.length ≤ d.n)
    (hm : w.heap[f]? = some (.map es clock)) (hne3 : f ≠ d.m) (htu : turn < 4000000000000000002) (hfu : d.fused = false) (hcn : d.count < 800000000) :
    Calls Tryz.prog 69 #[dp v, .slice q pm.length c] w fun e w' => e = .returned (.int .i64 0) ∧ ∃ d', WrtG w w' v commits turn next count pm d d d' f (.map es clock) := by
  have hle := hd.hn
  have hnb : nbOf d.n ≤ 65536 := by unfold nbOf; omega
  obtain ⟨w1, hw1⟩ : ∃ w1, w1 = (w.alloc (.cells #[dp v] 24)).alloc (.cells #[.int .i64 0] 36) := ⟨_, rfl⟩
  have hB1 : Below w.heap.size w w1 := by rw [hw1]; exact ((Below.refl _ w).alloc (Nat.le_refl _) _).alloc (by simp) _
  have bV1 : Boxed w1 w.heap.size 24 (dp v) := by rw [hw1]; exact (Boxed.new _ _ _).alloc _
  have bR1 : Boxed w1 (w.heap.size + 1) 36 (.int .i64 0) := by rw [hw1]; have := Boxed.new (w.alloc (.cells #[dp v] 24)) 36 (.int .i64 0); rw [World.size_alloc] at this; exact this
  have hs1 : w1.heap.size = w.heap.size + 2 := by rw [hw1]; simp
  have hv1 := h.below hB1
  have hd1 := hd.below hB1
  have x0 := bV1.cell
  have x1 := cellOf hv1 0
  have x2 := cellOf hv1 3
  simp [volCells] at x1 x2
  have c31 := fun k => dev_blocks d (w1.drewN k) (hd1.drewN k)
  obtain ⟨K, hK⟩ : ∃ K, K = pagesFor pm.length := ⟨_, rfl⟩
  rw [← hK] at hfit
  have c50 : ∀ k, Calls Tryz.prog 100 #[.int .i64 pm.length] (w1.drewN k) fun e w' => e = .returned (.int .i64 K) ∧ w' = w1.drewN k := fun k => by rw [hK]; exact pagesFor_any pm.length (w1.drewN k) (by omega)
  have HK : Hid (K = pagesFor pm.length) := hK
  have HS1 : Hid (w1.heap.size = w.heap.size + 2) := hs1
  clear hK hs1
  refine (callsIn_wide (n := 6)).1 ?_
  refine callsIn_of_wp_marks Tryz.func69 rfl trivial ?_ rfl
  simp only [Tryz.ntmps69, List.size_toArray, List.length_cons, List.length_nil, Nat.reduceAdd, Nat.reduceSub, Array.replicate_succ, Array.replicate_zero, List.push_toArray, List.append_toArray, List.nil_append, List.cons_append]
  gi_wp2_with fail
  rw [← hw1]
  refine wpIn_wide.2 ?_
  clear hw1
  go_quiet ((first | (go_at_call 63; exact Calls.quiet_of_same (c31 _)) | (go_at_call 100; exact Calls.quiet_of_same (c50 _))))
  obtain ⟨w2, hw2⟩ : ∃ w2, w2 = w1.drewN nq := ⟨_, rfl⟩
  have hB2 : Below w.heap.size w w2 := by rw [hw2]; exact below_drewN hB1 _
  have bV2 : Boxed w2 w.heap.size 24 (dp v) := by rw [hw2]; exact bV1
  have bR2 : Boxed w2 (w.heap.size + 1) 36 (.int .i64 0) := by rw [hw2]; exact bR1
  have hs2 : w2.heap.size = w.heap.size + 2 := by rw [hw2]; exact HS1.out
  have hv2 := h.below hB2
  have hd2 := hd.below hB2
  have ht2 := below_tab hB2 ht.lt ht
  have hm2 : w2.heap[f]? = some (.map es clock) := (hB2.block f (Array.getElem?_eq_some_iff.1 hm).1).trans hm
  have hps2 := hps.below hB2
  have c53 := recordOf_any q pm c (nbOf d.n) w2 hps2 hg (by omega) hl2
  rw [← hw2]
  have H3 : Hid (IsVol w2 v (dp d.a) commits turn next (some f) count ∧ Dev w2 d ∧ Tab w2 ∧ Boxed w2 w.heap.size 24 (dp v) ∧ Boxed w2 (w.heap.size + 1) 36 (.int .i64 0) ∧ w2.heap[f]? = some (.map es clock) ∧ But (fun k => k = v ∨ d.mine k) w2 w2) := ⟨hv2, hd2, ht2, bV2, bR2, hm2, But.refl _ _⟩
  have hn3 : Near w2 d d := Near.refl _ _
  have hcd3 : d.count < 900000000 := by omega
  clear hw2 c31 c50 x0 x1 x2 hv1 hd1 bV1 bR1 hB1 h hd ht hps hps2 hv2 hd2 ht2 bV2 bR2 HS1 hm hm2
  have c52 : ∀ (W : World) (g cp : Nat), Calls Tryz.prog 102 #[.slice (some ⟨g, 0, none⟩) (8 + pm.length * 520) cp, .int .i64 496] W fun e w' => e = .returned (.func (.func 120) #[] #[.pointer (some ⟨W.heap.size, 0, none⟩), .pointer (some ⟨W.heap.size + 1, 0, none⟩)]) ∧
      w' = (W.alloc (.cells #[.slice (some ⟨g, 0, none⟩) (8 + pm.length * 520) cp] 33)).alloc (.cells #[.int .i64 496] 3) := fun W g cp => chunk_any (some ⟨g, 0, none⟩) (8 + pm.length * 520) cp 496 W (by omega) (by omega)
  gi_wp2_with (first
    | (refine ⟨trivial, ?_⟩; gi_at_call 103; refine (callsIn_wide.2 c53).mono ?_; rintro e w4 ⟨g4, cap4, rfl, hcap4, hb4, hB4, hg4⟩; clear c53; have c52' := c52 w4 g4 cap4; clear c52)
    | (gi_at_call 103; refine (callsIn_wide.2 c53).mono ?_; rintro e w4 ⟨g4, cap4, rfl, hcap4, hb4, hB4, hg4⟩; clear c53; have c52' := c52 w4 g4 cap4; clear c52)
    | (refine ⟨trivial, ?_⟩; gi_at_call 102; refine (callsIn_wide.2 c52').mono ?_; rintro e w5 ⟨rfl, hw5⟩; clear c52')
    | (gi_at_call 102; refine (callsIn_wide.2 c52').mono ?_; rintro e w5 ⟨rfl, hw5⟩; clear c52'))
  obtain ⟨w6, hw6⟩ : ∃ w6, w6 = (w4.alloc (.cells #[.slice (some ⟨g4, 0, none⟩) (8 + pm.length * 520) cap4] 33)).alloc (.cells #[.int .i64 496] 3) := ⟨_, rfl⟩
  rw [← hw6]
  have hB6 : Below w4.heap.size w4 w6 := by rw [hw6]; exact ((Below.refl _ w4).alloc (Nat.le_refl _) _).alloc (by simp) _
  have hs6 : w6.heap.size = w4.heap.size + 2 := by rw [hw6]; simp
  have bS : w6.heap[w4.heap.size]? = some (.cells #[.slice (some ⟨g4, 0, none⟩) (8 + pm.length * 520) cap4] 33 (0, 0)) := by rw [hw6]; exact (Below.heap_alloc _ _ _ (by simp)).trans (heap_alloc_new _ _)
  have bN : w6.heap[w4.heap.size + 1]? = some (.cells #[.int .i64 496] 3 (0, 0)) := by
    rw [hw6]
    have := heap_alloc_new (w4.alloc (.cells #[.slice (some ⟨g4, 0, none⟩) (8 + pm.length * 520) cap4] 33)) (.cells #[.int .i64 496] 3)
    rw [World.size_alloc] at this
    exact this
  clear hw6 hw5
  obtain ⟨hv3, hd3, ht3, bV3, bR3, hm3, hbut3⟩ := H3.out
  rw [← hn3.a] at hv3
  have hB36 : Below w2.heap.size w2 w6 := hB4.trans (hB6.mono hB4.size)
  obtain ⟨rc, hrc⟩ : ∃ rc, rc = recBytes (recOf pm) := ⟨_, rfl⟩
  rw [← hrc] at hb4
  have hf3lt : f < w2.heap.size := (Array.getElem?_eq_some_iff.1 hm3).1
  have hall512 : ∀ p ∈ recOf pm, p.2.length = 512 := by
    intro p hp
    obtain ⟨x, hx, rfl⟩ := List.mem_map.1 hp
    have := (List.all_eq_true.1 hg) x hx
    unfold goodPut at this
    simp at this
    exact this.2
  have hrcl : rc.length = 8 + pm.length * 520 := by rw [hrc, rec_length _ hall512]; simp [recOf]
  have hI0 : WInvG w6 w6 d v commits turn next f w.heap.size count (.map es clock) g4 rc [] := by
    refine ⟨hv3.below hB36, ⟨d.D, ?_⟩, below_block bV3 hB36, below_block bR3 hB36, below_bytes hB6 hb4, below_block hm3 hB36, But.refl _ _⟩
    have e : d.paged next [] d.D = d := by unfold DS.paged; rw [laidP_nil]; simp
    rw [e]
    exact hd3.below hB36
  have hseq := chunk_stops w4.heap.size (w4.heap.size + 1) g4 0 (8 + pm.length * 520) cap4 496 K (HK.out.trans (pieces_rec _)) (by omega) hcap4 (by omega) (by omega) w6 bS bN 5 (by omega)
  have hI := WInvG.own (β := List (Fin K)) w6 d v commits turn next f w.heap.size count (.map es clock) g4 rc (fun pre => pre.map fun k => pageB turn (recOf pm) k.1) w6.heap.size rfl (by have := hd3.mlt; have := hB36.size; omega) (by have := hB36.size; omega)
  have hKb : ∀ (W : World) (l : Nat) (o o' : Obj), w6.heap.size ≤ l → W.heap[l]? = some o → o.isCells = false → o.isWalk = false → KpC w6 w4.heap.size (w4.heap.size + 1) W (W.putObj l o') := KpC.b (by omega) (by omega)
  have HTab : Hid (Tab w6) := below_tab hB36 ht3.lt ht3
  have HRC : Hid (rc = recBytes (recOf pm) ∧ (∀ p ∈ recOf pm, p.2.length = 512) ∧ rc.length = 8 + pm.length * 520) := ⟨hrc, hall512, hrcl⟩
  have HS6 : Hid (w6.heap.size = w4.heap.size + 2 ∧ w2.heap.size ≤ w4.heap.size ∧ w6.heap[w4.heap.size]? = some (.cells #[.slice (some ⟨g4, 0, none⟩) (8 + pm.length * 520) cap4] 33 (0, 0)) ∧ w6.heap[w4.heap.size + 1]? = some (.cells #[.int .i64 496] 3 (0, 0))) := ⟨hs6, hB4.size, bS, bN⟩
  have HD3 : Hid (Dev w6 d ∧ IsVol w6 v (dp d.a) commits turn next (some f) count) := ⟨hd3.below hB36, hv3.below hB36⟩
  have HNS : Hid ((∀ k, (k = v ∨ d.mine k) → k < w2.heap.size) ∧ ¬ (f = v ∨ d.mine f) ∧ But (fun k => (k = v ∨ d.mine k) ∨ w.heap.size ≤ k) w w6) := by
    refine ⟨?_, ?_, ?_⟩
    · rintro k (rfl | rfl | rfl | rfl)
      · exact hv3.lt
      · exact hd3.alt
      · exact hd3.slt
      · exact hd3.mlt
    · rintro (e | e | e | e)
      · exact map_cells_ne hm3 hv3 e
      · exact map_cells_ne hm3 hd3.dev e
      · obtain ⟨_, hr, _⟩ := hd3.row; exact map_cells_ne hm3 hr e
      · exact hne3 e
    · exact ((But.of_below hB2).trans (hbut3.mono fun k _ h => .inl h)).trans (But.of_below hB36)
  clear hv3 hd3 ht3 bV3 bR3 hm3 hbut3 hs6 bS bN hrc hall512 hrcl hb4 hB4 hB6 hB36 H3
  refine wpIn_rangeFunc_ownG (α := Fin K) rfl (by omega) (gf := 120) (lb := #[.pointer (some ⟨w4.heap.size, 0, none⟩), .pointer (some ⟨w4.heap.size + 1, 0, none⟩)]) rfl trivial (enters_of Tryz.func120 (by kernel_rfl) rfl)
    hseq KpC.t hKb (Below.refl _ _) (fun _ => rfl) _ (fun _ _ _ => False) hI (fun _ _ _ _ _ hs _ _ => hs) hI0
    (fun x => { tmps := #[dp v, .slice q pm.length c, .pointer (some ⟨w.heap.size, 0, none⟩), undef, .pointer (some ⟨w.heap.size + 1, 0, none⟩), undef, pieceV g4 0 (8 + pm.length * 520) 496 x.1, undef, undef, dp v, .pointer (some ⟨v, 0, none⟩), .pointer (some ⟨v, 0, none⟩), dp d.a, .int .i64 d.n, dp v, .pointer (some ⟨v, 0, none⟩), .pointer (some ⟨v, 3, none⟩), .int .i64 next, .int .i64 ((d.n : Int) - next), .slice q pm.length c, .int .i64 pm.length, .int .i64 K, .bool (decide ((d.n : Int) - next < K)), undef, undef, undef, undef, undef, .slice q pm.length c, .slice (some ⟨g4, 0, none⟩) (8 + pm.length * 520) cap4, .func (.func 120) #[] #[.pointer (some ⟨w4.heap.size, 0, none⟩), .pointer (some ⟨w4.heap.size + 1, 0, none⟩)], pieceV g4 0 (8 + pm.length * 520) 496 x.1, undef, undef, undef, undef, undef, undef, undef, undef, undef, undef, undef, undef, undef, undef, undef, undef, undef, undef, undef, undef, undef, undef, undef, undef, undef, undef, undef, undef], defers := [] }) ?assign ?body ?done ?stop
  case assign =>
    intro l x W Kk hKk
    gi_wp2
    exact hKk
  case body =>
    rintro l pre ⟨k, hkK⟩ W hi hlt
    obtain ⟨bs, hbs⟩ : ∃ bs, bs = (rc.drop (k * 496)).take 496 := ⟨_, rfl⟩
    obtain ⟨len, hlen⟩ : ∃ len, len = pieceLen (8 + pm.length * 520) 496 k := ⟨_, rfl⟩
    obtain ⟨ao, hao⟩ : ∃ ao, ao = 0 + k * 496 := ⟨_, rfl⟩
    have hpv : pieceV g4 0 (8 + pm.length * 520) 496 k = .slice (some ⟨g4, ao, none⟩) len len := by rw [hao, hlen]; rfl
    have hbl : bs.length = len := by rw [hbs, hlen, List.length_take, List.length_drop, HRC.out.2.2]; rfl
    have hl496 : len ≤ 496 := by rw [hlen]; unfold pieceLen; omega
    have hbW : Bytes W (some ⟨g4, ao, none⟩) bs := by rw [hbs, hao]; exact bytes_drop hi.byt _ _
    have x0 := hi.bV.cell
    have x2 := cellOf hi.vol 2
    simp [volCells] at x2
    have c54 := appendNumber_own (.slice none 0 0) 0 [] turn W.heap.size W (World.ownsRow_nil _ _ _ _) (by omega) (by omega) (Nat.le_refl _)
    have HW : Hid (WInvG w6 W d v commits turn next f w.heap.size count (.map es clock) g4 rc (pre.map fun k => pageB turn (recOf pm) k.1)) := hi
    have HB : Hid (bs = (rc.drop (k * 496)).take 496 ∧ Bytes W (some ⟨g4, ao, none⟩) bs) := ⟨hbs, hbW⟩
    clear hi hI hseq hI0 hKb hbs hlen hao hbW
    rw [hpv]
    clear hpv
    gi_wp2_with fail
    refine ⟨trivial, CallsIn.inRound l (callsIn_wide.2 (c54.mono ?_))⟩
    rintro e w7 ⟨v7, rfl, hr7, hB7, hM7⟩
    clear c54
    have hb7 : Bytes w7 (some ⟨g4, ao, none⟩) bs := below_bytes hB7 HB.out.2
    have HR7 : Hid (w7.ownsRow W.heap.size 5 1 v7 8 ((le8 turn).map u8v) ∧ Below W.heap.size W w7 ∧ Bytes w7 (some ⟨g4, ao, none⟩) bs) := ⟨hr7, hB7, hb7⟩
    clear hr7 hB7 hM7 hb7 x0 x2
    gi_wp2_with (refine wpListIn_append_bytes rfl _ _ rfl W.heap.size v7 8 _ rfl HR7.out.1 (some ⟨g4, ao, none⟩) bs len (by rw [hbl]; rfl) HR7.out.2.2 (by omega) HR7.out.2.1.size ?_; intro v8 w8 hown8 hg8; refine Stop.out ?_)
    refine Stop.mk ?_
    rw [← List.map_append, hbl] at hown8
    obtain ⟨gp, capp, rfl, _⟩ := hown8.form (by omega)
    obtain ⟨_, _, e8, _, hb8⟩ := owns_bytes hown8 (by omega)
    cases e8
    obtain ⟨pg, hpg⟩ : ∃ pg, pg = pre.map fun k => pageB turn (recOf pm) k.1 := ⟨_, rfl⟩
    have hpgl : pg.length = pre.length := by rw [hpg]; simp
    obtain ⟨nxl, hnxl⟩ : ∃ nxl, nxl = next + pg.length := ⟨_, rfl⟩
    have hi := HW.out
    rw [← hpg] at hi
    have hB8 : Below W.heap.size W w8 := HR7.out.2.1.grown hg8 HR7.out.2.1.size (owns_block HR7.out.1)
    have hB8d : Below W.heap.size W w8.drew := ⟨hB8.os, hB8.tape, hB8.output, hB8.size, hB8.block⟩
    have hv8 : IsVol w8.drew v (dp d.a) commits turn nxl (some f) count := by rw [hnxl]; exact hi.vol.below hB8d
    obtain ⟨D, hdW⟩ := hi.dev
    have hd8 : Dev w8.drew (d.paged next pg D) := hdW.below hB8d
    have bV8 : Boxed w8.drew w.heap.size 24 (dp v) := below_block hi.bV hB8d
    have htW : Tab W := hi.but.tab HTab.out (by rintro (e | e); exact HD3.out.2.noTab HTab.out e; exact HD3.out.1.noTab HTab.out e)
    have ht8 : Tab w8.drew := below_tab hB8d htW.lt htW
    have y0 := bV8.cell
    have y1 := cellOf hv8 0
    have y2 := cellOf hv8 3
    simp [volCells] at y1 y2
    have hcl8 : (le8 turn ++ bs).length = 8 + len := by rw [List.length_append, le8_length, hbl]
    have hsc : sealed (le8 turn ++ bs) = pageB turn (recOf pm) k := by
      rw [HB.out.1, HRC.out.1]
      exact sealed_chunk turn (recOf pm) HRC.out.2.1 k (by rw [show (recOf pm).length = pm.length by simp [recOf], ← HK.out]; exact hkK)
    have hp512 : (pageB turn (recOf pm) k).length = 512 := by rw [← hsc]; exact sealed_length _ (by rw [hcl8]; omega)
    have c56 : Calls Tryz.prog 105 #[.slice (some ⟨gp, 0, none⟩) (8 + len) capp] w8.drew fun e w' => ∃ g', e = .returned (.slice (some ⟨g', 0, none⟩) 512 512) ∧ w'.heap[g']? = some (.cells ((pageB turn (recOf pm) k).map u8v).toArray 5 (0, 0)) ∧ Below w8.heap.size w8.drew w' ∧ (w'.cell? ⟨w.heap.size, 0, none⟩ = some (dp v) ∧ w'.cell? ⟨v, 0, none⟩ = some (dp d.a) ∧ w'.cell? ⟨v, 3, none⟩ = some (.int .i64 (nxl : Nat))) := by
      have := seal_any (some ⟨gp, 0, none⟩) (le8 turn ++ bs) capp w8.drew ht8 (by rw [hcl8]; omega) hb8
      rw [hcl8] at this
      refine this.mono ?_
      rintro e w' ⟨g', rfl, hg', hc', hB'⟩
      rw [hsc] at hc'
      refine ⟨g', rfl, hc', hB', Boxed.cell (below_block bV8 hB'), ?_, ?_⟩
      · have := cellOf (hv8.below hB') 0; simpa [volCells] using this
      · have := cellOf (hv8.below hB') 3; simpa [volCells] using this
    have cWr : ∀ g' w', (w'.heap[g']? = some (.cells ((pageB turn (recOf pm) k).map u8v).toArray 5 (0, 0)) ∧ Below w8.heap.size w8.drew w' ∧ (w'.cell? ⟨w.heap.size, 0, none⟩ = some (dp v) ∧ w'.cell? ⟨v, 0, none⟩ = some (dp d.a) ∧ w'.cell? ⟨v, 3, none⟩ = some (.int .i64 (nxl : Nat)))) → Calls Tryz.prog 77 #[dp d.a, .int .i64 (nxl : Nat), .slice (some ⟨g', 0, none⟩) 512 512] w' fun e WX => e = .returned (.int .i64 0) ∧ But d.mine w' WX ∧ ∃ D', Dev WX (d.paged next (pg ++ [pageB turn (recOf pm) k]) D') := by
      rintro g' w' ⟨hc', hB', _⟩
      refine (dev_write (d.paged next pg D) nxl (pageB turn (recOf pm) k) g' 0 512 w' (hd8.below hB') (by show nxl < d.n; omega) hp512 (bytes_block hc') (by show (d.fused && _) = false; rw [hfu]; rfl) (by show d.count + pg.length < _; omega)).mono ?_
      rintro e WX ⟨rfl, hbx, p, _, hdx⟩
      refine ⟨rfl, hbx, loosened D nxl p, ?_⟩
      have e2 : (d.paged next pg D).wrote nxl (pageB turn (recOf pm) k) (loosened D nxl p) = d.paged next (pg ++ [pageB turn (recOf pm) k]) (loosened D nxl p) := by
        unfold DS.wrote DS.paged
        simp only [hnxl, laidP_step, List.length_append, List.length_cons, List.length_nil, hfu, stepped]
        simp [Nat.add_assoc]
        omega
      rw [← e2]
      exact hdx
    have HZ : Hid (Below W.heap.size W w8 ∧ Dev w8.drew (d.paged next pg D) ∧ IsVol w8.drew v (dp d.a) commits turn nxl (some f) count ∧ pg = (pre.map fun k => pageB turn (recOf pm) k.1) ∧ nxl = next + pg.length ∧ WInvG w6 W d v commits turn next f w.heap.size count (.map es clock) g4 rc pg ∧ Boxed w8.drew w.heap.size 24 (dp v)) := ⟨hB8, hd8, hv8, hpg, hnxl, hi, bV8⟩
    have hnl : (nxl : Int) < 1000000 := by omega
    clear hown8 hg8 hb8 hi hB8 hB8d hv8 hdW hd8 bV8 htW ht8 hpg HW hsc hcl8 hnxl hpgl
    gi_wp2_with fail
    have hmix : Tryz.prog.follows .mixedOrders = true := by kernel_rfl
    refine region_done hmix (by kernel_rfl) (fun b ac wd => ∃ g' w' WX, (b 9 = true → (w'.heap[g']? = some (.cells ((pageB turn (recOf pm) k).map u8v).toArray 5 (0, 0)) ∧ Below w8.heap.size w8.drew w' ∧ (w'.cell? ⟨w.heap.size, 0, none⟩ = some (dp v) ∧ w'.cell? ⟨v, 0, none⟩ = some (dp d.a) ∧ w'.cell? ⟨v, 3, none⟩ = some (.int .i64 (nxl : Nat))))) ∧ (b 10 = true → (But d.mine w' WX ∧ ∃ D', Dev WX (d.paged next (pg ++ [pageB turn (recOf pm) k]) D'))) ∧ ac = { tmps := #[dp v, .slice q pm.length c, .pointer (some ⟨w.heap.size, 0, none⟩), undef, .pointer (some ⟨w.heap.size + 1, 0, none⟩), undef, .slice (some ⟨g4, ao, none⟩) len len, .slice (some ⟨gp, 0, none⟩) (8 + len) capp, (if b 11 = true then .int .i64 0 else undef), dp v, .pointer (some ⟨v, 0, none⟩), .pointer (some ⟨v, 0, none⟩), dp d.a, .int .i64 d.n, dp v, .pointer (some ⟨v, 0, none⟩), .pointer (some ⟨v, 3, none⟩), .int .i64 next, .int .i64 ((d.n : Int) - next), .slice q pm.length c, .int .i64 pm.length, .int .i64 K, .bool (decide ((d.n : Int) - next < K)), undef, undef, undef, undef, undef, .slice q pm.length c, .slice (some ⟨g4, 0, none⟩) (8 + pm.length * 520) cap4, .func (.func 120) #[] #[.pointer (some ⟨w4.heap.size, 0, none⟩), .pointer (some ⟨w4.heap.size + 1, 0, none⟩)], .slice (some ⟨g4, ao, none⟩) len len, dp v, dp v, .pointer (some ⟨v, 2, none⟩), .int .i64 turn, v7, .slice (some ⟨g4, ao, none⟩) len len, .slice (some ⟨gp, 0, none⟩) (8 + len) capp, (if b 0 = true then dp v else undef), (if b 1 = true then dp v else undef), (if b 2 = true then .pointer (some ⟨v, 0, none⟩) else undef), (if b 3 = true then dp d.a else undef), (if b 4 = true then dp v else undef), (if b 5 = true then dp v else undef), (if b 6 = true then .pointer (some ⟨v, 3, none⟩) else undef), (if b 7 = true then .int .i64 (nxl : Nat) else undef), (if b 8 = true then .slice (some ⟨gp, 0, none⟩) (8 + len) capp else undef), (if b 9 = true then .slice (some ⟨g', 0, none⟩) 512 512 else undef), (if b 10 = true then .int .i64 0 else undef), undef, undef, undef, undef, undef, undef, undef, undef, undef, undef], defers := [] } ∧ wd = if b 10 = true then WX else if b 9 = true then w' else w8.drew) ?_ ?_ ?_
    · exact ⟨0, w8, w8, by simp, by simp, by simp, by simp⟩
    · rintro b ac wd i op ⟨g9, W9, WX, h9f, hXf, rfl, rfl⟩ hcl hop hbi hd
      have h1110 : b 11 = true → b 10 = true := fun h => hcl 11 _ rfl h ⟨10, .data⟩ (by simp) rfl
      have h109 : b 10 = true → b 9 = true := fun h => hcl 10 _ rfl h ⟨9, .data⟩ (by simp) rfl
      have h10b : b 10 = true → b 3 = true := fun h => hcl 10 _ rfl h ⟨3, .data⟩ (by simp) rfl
      have h10d : b 10 = true → b 7 = true := fun h => hcl 10 _ rfl h ⟨7, .data⟩ (by simp) rfl
      have h32 : b 3 = true → b 2 = true := fun h => hcl 3 _ rfl h ⟨2, .data⟩ (by simp) rfl
      have h21 : b 2 = true → b 1 = true := fun h => hcl 2 _ rfl h ⟨1, .data⟩ (by simp) rfl
      have h10 : b 1 = true → b 0 = true := fun h => hcl 1 _ rfl h ⟨0, .data⟩ (by simp) rfl
      have h76 : b 7 = true → b 6 = true := fun h => hcl 7 _ rfl h ⟨6, .data⟩ (by simp) rfl
      have h65 : b 6 = true → b 5 = true := fun h => hcl 6 _ rfl h ⟨5, .data⟩ (by simp) rfl
      have h54 : b 5 = true → b 4 = true := fun h => hcl 5 _ rfl h ⟨4, .data⟩ (by simp) rfl
      have h10a : b 10 = true → b 0 = true := fun h => h10 (h21 (h32 (h10b h)))
      have h10c : b 10 = true → b 4 = true := fun h => h54 (h65 (h76 (h10d h)))
      clear h32 h21 h10 h76 h65 h54
      match i with
      | 0 =>
        simp only [List.getElem?_toArray, List.getElem?_cons_zero, Option.some.injEq] at hop
        subst hop
        have hx10 : b 10 = false := by cases h : b 10; rfl; rw [h10a h] at hbi; cases hbi
        refine op_value rfl rfl (by intro c h; cases h) (v := dp v) (w' := if b 10 = true then WX else if b 9 = true then W9 else w8.drew) ?_ ?_
        · rw [hx10]
          cases h9 : b 9
          · simp [execOp, go_sem, y0]
          · obtain ⟨q0, q1, q2⟩ := (h9f h9).2.2
            simp [execOp, go_sem, q0]
        · exact ⟨g9, W9, WX, fun h => h9f (by simpa [did] using h), fun h => hXf (by simpa [did] using h), by simp [Act.put, did], by simp [did]⟩
      | 1 =>
        simp only [List.getElem?_toArray, List.getElem?_cons_zero, List.getElem?_cons_succ, Option.some.injEq] at hop
        subst hop
        have p0 : b 0 = true := hd ⟨0, .data⟩ (by simp) rfl
        refine op_value rfl rfl (by intro c h; cases h) (v := dp v) (w' := if b 10 = true then WX else if b 9 = true then W9 else w8.drew) ?_ ?_
        · simp [execOp, go_sem, p0]
        · exact ⟨g9, W9, WX, fun h => h9f (by simpa [did] using h), fun h => hXf (by simpa [did] using h), by simp [Act.put, did], by simp [did]⟩
      | 2 =>
        simp only [List.getElem?_toArray, List.getElem?_cons_zero, List.getElem?_cons_succ, Option.some.injEq] at hop
        subst hop
        have p1 : b 1 = true := hd ⟨1, .data⟩ (by simp) rfl
        refine op_value rfl rfl (by intro c h; cases h) (v := .pointer (some ⟨v, 0, none⟩)) (w' := if b 10 = true then WX else if b 9 = true then W9 else w8.drew) ?_ ?_
        · simp [execOp, go_sem, p1]
        · exact ⟨g9, W9, WX, fun h => h9f (by simpa [did] using h), fun h => hXf (by simpa [did] using h), by simp [Act.put, did], by simp [did]⟩
      | 3 =>
        simp only [List.getElem?_toArray, List.getElem?_cons_zero, List.getElem?_cons_succ, Option.some.injEq] at hop
        subst hop
        have p2 : b 2 = true := hd ⟨2, .data⟩ (by simp) rfl
        have hx10 : b 10 = false := by cases h : b 10; rfl; rw [h10b h] at hbi; cases hbi
        refine op_value rfl rfl (by intro c h; cases h) (v := dp d.a) (w' := if b 10 = true then WX else if b 9 = true then W9 else w8.drew) ?_ ?_
        · rw [hx10]
          cases h9 : b 9
          · simp [execOp, go_sem, p2, y1]
          · obtain ⟨q0, q1, q2⟩ := (h9f h9).2.2
            simp [execOp, go_sem, p2, q1]
        · exact ⟨g9, W9, WX, fun h => h9f (by simpa [did] using h), fun h => hXf (by simpa [did] using h), by simp [Act.put, did], by simp [did]⟩
      | 4 =>
        simp only [List.getElem?_toArray, List.getElem?_cons_zero, List.getElem?_cons_succ, Option.some.injEq] at hop
        subst hop
        have hx10 : b 10 = false := by cases h : b 10; rfl; rw [h10c h] at hbi; cases hbi
        refine op_value rfl rfl (by intro c h; cases h) (v := dp v) (w' := if b 10 = true then WX else if b 9 = true then W9 else w8.drew) ?_ ?_
        · rw [hx10]
          cases h9 : b 9
          · simp [execOp, go_sem, y0]
          · obtain ⟨q0, q1, q2⟩ := (h9f h9).2.2
            simp [execOp, go_sem, q0]
        · exact ⟨g9, W9, WX, fun h => h9f (by simpa [did] using h), fun h => hXf (by simpa [did] using h), by simp [Act.put, did], by simp [did]⟩
      | 5 =>
        simp only [List.getElem?_toArray, List.getElem?_cons_zero, List.getElem?_cons_succ, Option.some.injEq] at hop
        subst hop
        have p4 : b 4 = true := hd ⟨4, .data⟩ (by simp) rfl
        refine op_value rfl rfl (by intro c h; cases h) (v := dp v) (w' := if b 10 = true then WX else if b 9 = true then W9 else w8.drew) ?_ ?_
        · simp [execOp, go_sem, p4]
        · exact ⟨g9, W9, WX, fun h => h9f (by simpa [did] using h), fun h => hXf (by simpa [did] using h), by simp [Act.put, did], by simp [did]⟩
      | 6 =>
        simp only [List.getElem?_toArray, List.getElem?_cons_zero, List.getElem?_cons_succ, Option.some.injEq] at hop
        subst hop
        have p5 : b 5 = true := hd ⟨5, .data⟩ (by simp) rfl
        refine op_value rfl rfl (by intro c h; cases h) (v := .pointer (some ⟨v, 3, none⟩)) (w' := if b 10 = true then WX else if b 9 = true then W9 else w8.drew) ?_ ?_
        · simp [execOp, go_sem, p5]
        · exact ⟨g9, W9, WX, fun h => h9f (by simpa [did] using h), fun h => hXf (by simpa [did] using h), by simp [Act.put, did], by simp [did]⟩
      | 7 =>
        simp only [List.getElem?_toArray, List.getElem?_cons_zero, List.getElem?_cons_succ, Option.some.injEq] at hop
        subst hop
        have p6 : b 6 = true := hd ⟨6, .data⟩ (by simp) rfl
        have hx10 : b 10 = false := by cases h : b 10; rfl; rw [h10d h] at hbi; cases hbi
        refine op_value rfl rfl (by intro c h; cases h) (v := .int .i64 (nxl : Nat)) (w' := if b 10 = true then WX else if b 9 = true then W9 else w8.drew) ?_ ?_
        · rw [hx10]
          cases h9 : b 9
          · simp [execOp, go_sem, p6, y2]
          · obtain ⟨q0, q1, q2⟩ := (h9f h9).2.2
            simp [execOp, go_sem, p6, q2]
        · exact ⟨g9, W9, WX, fun h => h9f (by simpa [did] using h), fun h => hXf (by simpa [did] using h), by simp [Act.put, did], by simp [did]⟩
      | 8 =>
        simp only [List.getElem?_toArray, List.getElem?_cons_zero, List.getElem?_cons_succ, Option.some.injEq] at hop
        subst hop
        refine op_value rfl rfl (by intro c h; cases h) (v := .slice (some ⟨gp, 0, none⟩) (8 + len) capp) (w' := if b 10 = true then WX else if b 9 = true then W9 else w8.drew) ?_ ?_
        · simp [execOp, go_sem]
        · exact ⟨g9, W9, WX, fun h => h9f (by simpa [did] using h), fun h => hXf (by simpa [did] using h), by simp [Act.put, did], by simp [did]⟩
      | 9 =>
        simp only [List.getElem?_toArray, List.getElem?_cons_zero, List.getElem?_cons_succ, Option.some.injEq] at hop
        subst hop
        have p8 : b 8 = true := hd ⟨8, .data⟩ (by simp) rfl
        have hx10 : b 10 = false := by cases h : b 10; rfl; rw [h109 h] at hbi; cases hbi
        have hx11 : b 11 = false := by cases h : b 11; rfl; rw [h1110 h] at hx10; cases hx10
        refine op_enter rfl rfl (by intro c h; cases h) (f := 105) (args := #[.slice (some ⟨gp, 0, none⟩) (8 + len) capp]) (w' := w8.drew) ?_ ?_
        · rw [hbi, hx10]; simp [execOp, go_sem, p8]
        · refine c56.mono ?_
          rintro e w' ⟨g', rfl, hS'⟩
          exact ⟨_, rfl, g', w', WX, fun _ => hS', fun h => by (simp [did, hx10] at h), by simp [Act.put, did, hbi, hx10, hx11], by simp [did, hx10]⟩
      | 10 =>
        simp only [List.getElem?_toArray, List.getElem?_cons_zero, List.getElem?_cons_succ, Option.some.injEq] at hop
        subst hop
        have p3 : b 3 = true := hd ⟨3, .data⟩ (by simp) rfl
        have p7 : b 7 = true := hd ⟨7, .data⟩ (by simp) rfl
        have p9 : b 9 = true := hd ⟨9, .data⟩ (by simp) rfl
        refine op_enter rfl rfl (by intro c h; cases h) (f := 77) (args := #[dp d.a, .int .i64 (nxl : Nat), .slice (some ⟨g9, 0, none⟩) 512 512]) (w' := W9) ?_ ?_
        · rw [hbi, p9]; simp [execOp, go_sem, p3, p7]
        · refine (cWr g9 W9 (h9f p9)).mono ?_
          rintro e w' ⟨rfl, hX'⟩
          exact ⟨_, rfl, g9, W9, w', fun _ => h9f p9, fun _ => hX', by simp [Act.put, did], by simp [did]⟩
      | 11 =>
        simp only [List.getElem?_toArray, List.getElem?_cons_zero, List.getElem?_cons_succ, Option.some.injEq] at hop
        subst hop
        have p10 : b 10 = true := hd ⟨10, .data⟩ (by simp) rfl
        refine op_value rfl rfl (by intro c h; cases h) (v := .int .i64 0) (w' := if b 10 = true then WX else if b 9 = true then W9 else w8.drew) ?_ ?_
        · simp [execOp, go_sem, p10]
        · exact ⟨g9, W9, WX, fun h => h9f (by simpa [did] using h), fun h => hXf (by simpa [did] using h), by simp [Act.put, did], by simp [did]⟩
      | k + 12 => simp at hop
    · rintro b ac wd ⟨g9, W9, WX, h9f, hXf, rfl, rfl⟩ hall
      have q0 : b 0 = true := hall 0 (by simp)
      have q1 : b 1 = true := hall 1 (by simp)
      have q2 : b 2 = true := hall 2 (by simp)
      have q3 : b 3 = true := hall 3 (by simp)
      have q4 : b 4 = true := hall 4 (by simp)
      have q5 : b 5 = true := hall 5 (by simp)
      have q6 : b 6 = true := hall 6 (by simp)
      have q7 : b 7 = true := hall 7 (by simp)
      have q8 : b 8 = true := hall 8 (by simp)
      have q9 : b 9 = true := hall 9 (by simp)
      have q10 : b 10 = true := hall 10 (by simp)
      have q11 : b 11 = true := hall 11 (by simp)
      obtain ⟨hc9, hB9, _⟩ := h9f q9
      obtain ⟨hbX, D', hdX⟩ := hXf q10
      have hd9 : Dev W9 (d.paged next pg D) := HZ.out.2.1.below hB9
      have hv9 := HZ.out.2.2.1.below hB9
      have bV9 : Boxed W9 w.heap.size 24 (dp v) := below_block HZ.out.2.2.2.2.2.2 hB9
      have bVX : Boxed WX w.heap.size 24 (dp v) := (hbX.block _ bV9.lt (hd9.other bV9 (by decide) (by decide))).trans bV9
      have hvX : IsVol WX v (dp d.a) commits turn nxl (some f) count := hv9.but hbX (fun hm => IsVol.mine (d := d.paged next pg D) hv9 hd9 hm)
      have z0 := bVX.cell
      have z3 := cellOf hvX 3
      have fz := frozenOf hvX 3
      simp [volCells] at z3
      have HX : Hid (Below w8.heap.size w8.drew W9 ∧ But d.mine W9 WX ∧ Dev WX (d.paged next (pg ++ [pageB turn (recOf pm) k]) D') ∧ IsVol WX v (dp d.a) commits turn nxl (some f) count) := ⟨hB9, hbX, hdX, hvX⟩
      simp only [q0, q1, q2, q3, q4, q5, q6, q7, q8, q9, q10, q11, if_true]
      clear q0 q1 q2 q3 q4 q5 q6 q7 q8 q9 q10 q11 hall h9f hXf hc9 hB9 hbX hdX hd9 hv9 bV9 bVX hvX y0 y1 y2 c56 cWr
      gi_wp2_with fail
      obtain ⟨hB8, hd8, hv8, hpg, hnxl', hi, _⟩ := HZ.out
      obtain ⟨hB9, hbX, hdX, hvX⟩ := HX.out
      obtain ⟨hsz, hsz2, hbs6, hbn6⟩ := HS6.out
      obtain ⟨D0, hdW⟩ := hi.dev
      have hbX' : But (fun k => k = v ∨ d.mine k) W WX := ((But.of_below (⟨hB8.os, hB8.tape, hB8.output, hB8.size, hB8.block⟩ : Below W.heap.size W w8.drew)).trans (But.of_below hB9)).trans (hbX.mono fun k _ h => .inr h)
      have hbY := hbX'.setCell ⟨v, 3, none⟩ (.inl rfl) (.int .i64 ((nxl + 1 : Nat) : Int))
      have hvY := hvX.setN (nxl + 1)
      have hdY := hdX.butV hvX ((But.refl (fun k => k = v) WX).setCell ⟨v, 3, none⟩ rfl (.int .i64 ((nxl + 1 : Nat) : Int)))
      have ecast : ((nxl + 1 : Nat) : Int) = (nxl : Int) + 1 := by simp
      rw [ecast] at hbY hvY hdY
      have hin : ∀ k, (k = v ∨ d.mine k) → k < w2.heap.size := HNS.out.1
      have h6W : w6.heap.size ≤ W.heap.size := hi.but.size
      have hlst : ((pre ++ ([⟨k, hkK⟩] : List (Fin K))).map fun k : Fin K => pageB turn (recOf pm) k.1) = pg ++ [pageB turn (recOf pm) k] := by rw [List.map_append, ← hpg]; rfl
      refine ⟨⟨hbY.size, fun j o hj ho _ => (hbY.block j (Array.getElem?_eq_some_iff.1 ho).1 (fun hs => by have := hin j hs; omega)).trans ho⟩, fun h12 => ⟨(hbY.block _ (by omega) (fun hs => by have := hin _ hs; omega)).trans h12.1, (hbY.block _ (by omega) (fun hs => by have := hin _ hs; omega)).trans h12.2⟩, ?_⟩
      show WInvG _ _ _ _ _ _ _ _ _ _ _ _ _ (List.map _ _)
      rw [hlst]
      refine ⟨?_, ⟨D', hdY⟩, (hbY.block _ hi.bV.lt (away hi.vol hdW hi.bV (by decide) (by decide) (by decide))).trans hi.bV, (hbY.block _ hi.bR.lt (away hi.vol hdW hi.bR (by decide) (by decide) (by decide))).trans hi.bR, ?_, (hbY.block _ (Array.getElem?_eq_some_iff.1 hi.map).1 HNS.out.2.1).trans hi.map, hi.but.trans hbY⟩
      · rw [List.length_append, List.length_singleton, ← Nat.add_assoc, ← hnxl']
        exact hvY
      · intro hp
        obtain ⟨b', o', e', hx'⟩ := hi.byt hp
        cases e'
        refine ⟨_, _, rfl, fun j x hj => ?_⟩
        have hc := hx' j x hj
        refine Eq.trans ?_ hc
        have hbk := hbY.block g4 (cell_lt hc) (fun hs => by have := hin _ hs; omega)
        simp only [World.cell?, hbk]
  case done =>
    rintro D ys W hD hys hi hKd
    have hcR := hi.bR.cell
    have hfR := hi.bR.frozen
    have HI9 : Hid (WInvG w6 W d v commits turn next f w.heap.size count (.map es clock) g4 rc (ys.map fun k => pageB turn (recOf pm) k.1)) := hi
    clear hi
    gi_wp2
    have hi := HI9.out
    obtain ⟨hsz, hsz2, hbs6, hbn6⟩ := HS6.out
    have h6W : w6.heap.size ≤ W.heap.size := hi.but.size
    have hneD : D ≠ w.heap.size + 1 := by rintro rfl; have := hi.bR; rw [Boxed, hKd] at this; cases this
    have b1 : But (fun k => k = w.heap.size + 1) W (W.setCell ⟨w.heap.size + 1, 0, none⟩ (.int .i64 0)) := But.setCell (But.refl (fun k => k = w.heap.size + 1) W) ⟨w.heap.size + 1, 0, none⟩ rfl _
    have hKd2 := (b1.block D (Array.getElem?_eq_some_iff.1 hKd).1 hneD).trans hKd
    refine ⟨by simp, .inl ⟨_, _, rfl, run_takeDeferred hKd2, ?_⟩⟩
    obtain ⟨Wf, hWf⟩ : ∃ Wf, Wf = (W.setCell ⟨w.heap.size + 1, 0, none⟩ (.int .i64 0)).putObj D (.deferred none) := ⟨_, rfl⟩
    rw [← hWf]
    have b2 : But (fun k => k = D) (W.setCell ⟨w.heap.size + 1, 0, none⟩ (.int .i64 0)) Wf := by rw [hWf]; exact But.of_grown (grownBy_putObj' _ D (.deferred none)) (fun k e => by simpa using e.symm)
    have hb2 : But (fun k => k = w.heap.size + 1 ∨ k = D) W Wf := (b1.mono (fun k _ h => .inl h)).trans (b2.mono (fun k _ h => .inr h))
    have bR2 : (W.setCell ⟨w.heap.size + 1, 0, none⟩ (.int .i64 0)).heap[w.heap.size + 1]? = some (.cells #[.int .i64 0] 36 (0, 0)) := by
      have := hi.bR
      unfold Boxed at this
      simp [World.setCell, Array.getElem?_modify, this]
    have bRf : Boxed Wf (w.heap.size + 1) 36 (.int .i64 0) := (b2.block _ (Array.getElem?_eq_some_iff.1 bR2).1 (fun e => hneD e.symm)).trans bR2
    have cR := bRf.cell
    have hin : ∀ k, (k = v ∨ d.mine k) → k < w2.heap.size := HNS.out.1
    have hnD : ¬ (D < w2.heap.size) := by omega
    obtain ⟨D0, hdW⟩ := hi.dev
    have hnS : ∀ k, (k = v ∨ d.mine k) → ¬ (k = w.heap.size + 1 ∨ k = D) := by
      rintro k hk (rfl | rfl)
      · exact away hi.vol hdW hi.bR (by decide) (by decide) (by decide) hk
      · exact hnD (hin _ hk)
    have hpgs : (ys.map fun k : Fin K => pageB turn (recOf pm) k.1) = (List.range K).map fun k => pageB turn (recOf pm) k := by rw [← hys, List.map_map]; rfl
    have hysl : ys.length = K := by have := congrArg List.length hys; simpa using this
    have hdf : Dev Wf (d.paged next (ys.map fun k : Fin K => pageB turn (recOf pm) k.1) D0) := by
      refine hdW.but hb2 (fun k hk => hnS k (.inr hk)) (fun g l hg => ?_)
      rintro (rfl | rfl)
      · have := hi.bR; rw [Boxed, hg] at this; simp at this
      · rw [hKd] at hg; cases hg
    refine ⟨.int .i64 0, by simp [results, Tryz.results69, go_sem, cR], rfl, _, ⟨?_, ?_, ?_, hdf, rfl, ?_, ?_, rfl, ?_, ?_⟩⟩
    · have := hi.vol.but hb2 (hnS v (.inl rfl))
      rw [List.length_map, hysl, hn3.a] at this
      rw [← HK.out]
      exact this
    · refine (hb2.block f (Array.getElem?_eq_some_iff.1 hi.map).1 ?_).trans hi.map
      rintro (e | e)
      · have := hi.map; rw [e, hi.bR] at this; cases this
      · have := hi.map; rw [e, hKd] at this; cases this
    · exact fun e => HNS.out.2.1 (.inr (.inr (.inr e)))
    · show laidP d.B _ _ = _
      rw [hpgs, HK.out]
    · show d.count + ((ys.map fun k : Fin K => pageB turn (recOf pm) k.1).length : Nat) = _
      rw [List.length_map, hysl, HK.out]
    · refine ⟨hn3.a, hn3.s, ?_⟩
      rcases hn3.m with h1 | h1
      · exact .inl h1
      · exact .inr (by show w.heap.size ≤ d.m; omega)
    · have t6 := HNS.out.2.2
      have tW : But (fun k => (k = v ∨ d.mine k) ∨ w.heap.size ≤ k) w6 W := hi.but.mono (fun k _ hk => by
        rcases hk with h1 | h1 | h1 | h1
        · exact .inl (.inl h1)
        · exact .inl (.inr (.inl (h1.trans hn3.a)))
        · exact .inl (.inr (.inr (.inl (h1.trans hn3.s))))
        · rcases hn3.m with h2 | h2
          · exact .inl (.inr (.inr (.inr (h1.trans h2))))
          · exact .inr (by omega))
      have tf : But (fun k => (k = v ∨ d.mine k) ∨ w.heap.size ≤ k) W Wf := hb2.mono (fun k _ hk => .inr (by have := t6.size; rcases hk with h1 | h1 <;> omega))
      exact ((t6.trans tW).trans tf).mono (fun k hk h => h.resolve_right (by omega))
  case stop =>
    rintro D c pre W _ _ h _
    exact h.elim

end Go.Proofs.YtlcojcldbdikgaaGreatDoor

/-
  write of package wal, whatever the log holds: with room left, and where the log must be begun anew.
-/
namespace Go.Proofs.YtlcojcldbdikgaaGreatDoor
open Go.RowKit Go.Maps Go.Sort Go.Shelf

attribute [local go_sem] Oper.semAt_some

set_option maxRecDepth 8000 in
set_option maxHeartbeats 4000000 in
theorem write_anew (q : Option Addr) (pm : List PutM) (c v : Nat) (commits turn next f T NX : Nat) (count cnt : Int) (P : DS → Prop) (d : DS) (w : World) (h : IsVol w v (dp d.a) commits turn next (some f) count) (hd : Dev w d) (ht : Tab w) (hn : 16 ≤ d.n)
    (hps : PutsAt w q pm) (hg : pm.all (goodPut (nbOf d.n)) = true) (hl2 : pm.length ≤ nbOf d.n) (hno : (d.n : Int) - next < pagesFor pm.length) (hnx : next ≤ d.n) (hfit : NX + pagesFor pm.length ≤ d.n)
    (htu : T < 4000000000000000002) (hfu : d.fused = false)
    (c51 : ∀ w2 : World, Below w.heap.size w w2 → Calls Tryz.prog 101 #[dp v] w2 fun e w' => e = .returned (.int .i64 0) ∧ ∃ d3, IsVol w' v (dp d.a) commits T NX (some w2.heap.size) cnt ∧ Dev w' d3 ∧ Near w2 d d3 ∧ d3.n = d.n ∧ d3.fused = d.fused ∧ d3.count < 900000000 ∧ w'.heap[w2.heap.size]? = some (.map #[] 0) ∧ w2.heap.size ≠ d3.m ∧ But (fun k => k = v ∨ d.mine k) w2 w' ∧ P d3) :
    Calls Tryz.prog 69 #[dp v, .slice q pm.length c] w fun e w' => e = .returned (.int .i64 0) ∧ ∃ d3 d' f', (w.heap.size ≤ f' ∧ P d3) ∧ WrtG w w' v commits T NX cnt pm d d3 d' f' (.map #[] 0) := by
  have hle := hd.hn
  have hnb : nbOf d.n ≤ 65536 := by unfold nbOf; omega
  obtain ⟨w1, hw1⟩ : ∃ w1, w1 = (w.alloc (.cells #[dp v] 24)).alloc (.cells #[.int .i64 0] 36) := ⟨_, rfl⟩
  have hB1 : Below w.heap.size w w1 := by rw [hw1]; exact ((Below.refl _ w).alloc (Nat.le_refl _) _).alloc (by simp) _
  have bV1 : Boxed w1 w.heap.size 24 (dp v) := by rw [hw1]; exact (Boxed.new _ _ _).alloc _
  have bR1 : Boxed w1 (w.heap.size + 1) 36 (.int .i64 0) := by rw [hw1]; have := Boxed.new (w.alloc (.cells #[dp v] 24)) 36 (.int .i64 0); rw [World.size_alloc] at this; exact this
  have hs1 : w1.heap.size = w.heap.size + 2 := by rw [hw1]; simp
  have hv1 := h.below hB1
  have hd1 := hd.below hB1
  have x0 := bV1.cell
  have x1 := cellOf hv1 0
  have x2 := cellOf hv1 3
  simp [volCells] at x1 x2
  have c31 := fun k => dev_blocks d (w1.drewN k) (hd1.drewN k)
  obtain ⟨K, hK⟩ : ∃ K, K = pagesFor pm.length := ⟨_, rfl⟩
  rw [← hK] at hno hfit
  have c50 : ∀ k, Calls Tryz.prog 100 #[.int .i64 pm.length] (w1.drewN k) fun e w' => e = .returned (.int .i64 K) ∧ w' = w1.drewN k := fun k => by rw [hK]; exact pagesFor_any pm.length (w1.drewN k) (by omega)
  have HK : Hid (K = pagesFor pm.length) := hK
  have HS1 : Hid (w1.heap.size = w.heap.size + 2) := hs1
  clear hK hs1
  refine (callsIn_wide (n := 6)).1 ?_
  refine callsIn_of_wp_marks Tryz.func69 rfl trivial ?_ rfl
  simp only [Tryz.ntmps69, List.size_toArray, List.length_cons, List.length_nil, Nat.reduceAdd, Nat.reduceSub, Array.replicate_succ, Array.replicate_zero, List.push_toArray, List.append_toArray, List.nil_append, List.cons_append]
  gi_wp2_with fail
  rw [← hw1]
  refine wpIn_wide.2 ?_
  clear hw1
  go_quiet ((first | (go_at_call 63; exact Calls.quiet_of_same (c31 _)) | (go_at_call 100; exact Calls.quiet_of_same (c50 _))))
  obtain ⟨w2, hw2⟩ : ∃ w2, w2 = w1.drewN nq := ⟨_, rfl⟩
  have hB2 : Below w.heap.size w w2 := by rw [hw2]; exact below_drewN hB1 _
  have bV2 : Boxed w2 w.heap.size 24 (dp v) := by rw [hw2]; exact bV1
  have bR2 : Boxed w2 (w.heap.size + 1) 36 (.int .i64 0) := by rw [hw2]; exact bR1
  have hs2 : w2.heap.size = w.heap.size + 2 := by rw [hw2]; exact HS1.out
  have hv2 := h.below hB2
  have hd2 := hd.below hB2
  have ht2 := below_tab hB2 ht.lt ht
  have c51' := c51 w2 hB2
  have y0 := bV2.cell
  rw [← hw2]
  have HHD : Hid (IsVol w2 v (dp d.a) commits turn next (some f) count ∧ Dev w2 d ∧ Tab w2 ∧ Boxed w2 w.heap.size 24 (dp v) ∧ Boxed w2 (w.heap.size + 1) 36 (.int .i64 0) ∧ PutsAt w2 q pm ∧ Below w.heap.size w w2 ∧ w2.heap.size = w.heap.size + 2) := ⟨hv2, hd2, ht2, bV2, bR2, hps.below hB2, hB2, hs2⟩
  clear hw2 c31 c50 x0 x1 x2 hv1 hd1 bV1 bR1 hB1 h hd ht hps hv2 hd2 ht2 bV2 bR2 hB2 hs2 HS1 c51
  gi_wp2_with (first
    | (refine ⟨trivial, ?_⟩; gi_at_call 101; refine (callsIn_wide.2 c51').mono ?_; rintro e w3 ⟨rfl, d3, hv3, hd3, hn3, hdn3, hfu3, hcd3, hm3, hne3, hbut3, hP3⟩; clear c51'; refine Stop.out ?_)
    | (gi_at_call 101; refine (callsIn_wide.2 c51').mono ?_; rintro e w3 ⟨rfl, d3, hv3, hd3, hn3, hdn3, hfu3, hcd3, hm3, hne3, hbut3, hP3⟩; clear c51'; refine Stop.out ?_))
  refine Stop.mk ?_
  obtain ⟨hv2, hd2, ht2, bV2, bR2, hps2, hB2, hs2⟩ := HHD.out
  have bV3 : Boxed w3 w.heap.size 24 (dp v) := (hbut3.block _ bV2.lt (away hv2 hd2 bV2 (by decide) (by decide) (by decide))).trans bV2
  have bR3 : Boxed w3 (w.heap.size + 1) 36 (.int .i64 0) := (hbut3.block _ bR2.lt (away hv2 hd2 bR2 (by decide) (by decide) (by decide))).trans bR2
  have hps3 : PutsAt w3 q pm := hps2.but hbut3 (fun k cs t fr hk ht => by rcases ht with rfl | rfl <;> exact away hv2 hd2 hk (by decide) (by decide) (by decide))
  have ht3 : Tab w3 := hbut3.tab ht2 (by rintro (e | e); exact hv2.noTab ht2 e; exact hd2.noTab ht2 e)
  have c53 := recordOf_any q pm c (nbOf d.n) w3 hps3 hg (by omega) hl2
  obtain ⟨f3, hf3⟩ : ∃ f3, f3 = w2.heap.size := ⟨_, rfl⟩
  rw [← hf3] at hv3 hm3 hne3
  have HX3 : Hid (w.heap.size ≤ f3 ∧ P d3) := ⟨by rw [hf3]; omega, hP3⟩
  have H3 : Hid (IsVol w3 v (dp d.a) commits T NX (some f3) cnt ∧ Dev w3 d3 ∧ Tab w3 ∧ Boxed w3 w.heap.size 24 (dp v) ∧ Boxed w3 (w.heap.size + 1) 36 (.int .i64 0) ∧ w3.heap[f3]? = some (.map #[] 0) ∧ But (fun k => k = v ∨ d.mine k) w2 w3) := ⟨hv3, hd3, ht3, bV3, bR3, hm3, hbut3⟩
  clear hv2 hd2 ht2 bV2 bR2 hps2 hps3 hv3 hd3 ht3 hm3 hbut3 bV3 bR3 hf3 hP3 HHD y0
  have c52 : ∀ (W : World) (g cp : Nat), Calls Tryz.prog 102 #[.slice (some ⟨g, 0, none⟩) (8 + pm.length * 520) cp, .int .i64 496] W fun e w' => e = .returned (.func (.func 120) #[] #[.pointer (some ⟨W.heap.size, 0, none⟩), .pointer (some ⟨W.heap.size + 1, 0, none⟩)]) ∧
      w' = (W.alloc (.cells #[.slice (some ⟨g, 0, none⟩) (8 + pm.length * 520) cp] 33)).alloc (.cells #[.int .i64 496] 3) := fun W g cp => chunk_any (some ⟨g, 0, none⟩) (8 + pm.length * 520) cp 496 W (by omega) (by omega)
  gi_wp2_with (first
    | (refine ⟨trivial, ?_⟩; gi_at_call 103; refine (callsIn_wide.2 c53).mono ?_; rintro e w4 ⟨g4, cap4, rfl, hcap4, hb4, hB4, hg4⟩; clear c53; have c52' := c52 w4 g4 cap4; clear c52)
    | (gi_at_call 103; refine (callsIn_wide.2 c53).mono ?_; rintro e w4 ⟨g4, cap4, rfl, hcap4, hb4, hB4, hg4⟩; clear c53; have c52' := c52 w4 g4 cap4; clear c52)
    | (refine ⟨trivial, ?_⟩; gi_at_call 102; refine (callsIn_wide.2 c52').mono ?_; rintro e w5 ⟨rfl, hw5⟩; clear c52')
    | (gi_at_call 102; refine (callsIn_wide.2 c52').mono ?_; rintro e w5 ⟨rfl, hw5⟩; clear c52'))
  obtain ⟨w6, hw6⟩ : ∃ w6, w6 = (w4.alloc (.cells #[.slice (some ⟨g4, 0, none⟩) (8 + pm.length * 520) cap4] 33)).alloc (.cells #[.int .i64 496] 3) := ⟨_, rfl⟩
  rw [← hw6]
  have hB6 : Below w4.heap.size w4 w6 := by rw [hw6]; exact ((Below.refl _ w4).alloc (Nat.le_refl _) _).alloc (by simp) _
  have hs6 : w6.heap.size = w4.heap.size + 2 := by rw [hw6]; simp
  have bS : w6.heap[w4.heap.size]? = some (.cells #[.slice (some ⟨g4, 0, none⟩) (8 + pm.length * 520) cap4] 33 (0, 0)) := by rw [hw6]; exact (Below.heap_alloc _ _ _ (by simp)).trans (heap_alloc_new _ _)
  have bN : w6.heap[w4.heap.size + 1]? = some (.cells #[.int .i64 496] 3 (0, 0)) := by
    rw [hw6]
    have := heap_alloc_new (w4.alloc (.cells #[.slice (some ⟨g4, 0, none⟩) (8 + pm.length * 520) cap4] 33)) (.cells #[.int .i64 496] 3)
    rw [World.size_alloc] at this
    exact this
  clear hw6 hw5
  obtain ⟨hv3, hd3, ht3, bV3, bR3, hm3, hbut3⟩ := H3.out
  rw [← hn3.a] at hv3
  have hB36 : Below w3.heap.size w3 w6 := hB4.trans (hB6.mono hB4.size)
  obtain ⟨rc, hrc⟩ : ∃ rc, rc = recBytes (recOf pm) := ⟨_, rfl⟩
  rw [← hrc] at hb4
  have hf3lt : f3 < w3.heap.size := (Array.getElem?_eq_some_iff.1 hm3).1
  have hall512 : ∀ p ∈ recOf pm, p.2.length = 512 := by
    intro p hp
    obtain ⟨x, hx, rfl⟩ := List.mem_map.1 hp
    have := (List.all_eq_true.1 hg) x hx
    unfold goodPut at this
    simp at this
    exact this.2
  have hrcl : rc.length = 8 + pm.length * 520 := by rw [hrc, rec_length _ hall512]; simp [recOf]
  have hI0 : WInvG w6 w6 d3 v commits T NX f3 w.heap.size cnt (.map #[] 0) g4 rc [] := by
    refine ⟨hv3.below hB36, ⟨d3.D, ?_⟩, below_block bV3 hB36, below_block bR3 hB36, below_bytes hB6 hb4, below_block hm3 hB36, But.refl _ _⟩
    have e : d3.paged NX [] d3.D = d3 := by unfold DS.paged; rw [laidP_nil]; simp
    rw [e]
    exact hd3.below hB36
  have hseq := chunk_stops w4.heap.size (w4.heap.size + 1) g4 0 (8 + pm.length * 520) cap4 496 K (HK.out.trans (pieces_rec _)) (by omega) hcap4 (by omega) (by omega) w6 bS bN 5 (by omega)
  have hI := WInvG.own (β := List (Fin K)) w6 d3 v commits T NX f3 w.heap.size cnt (.map #[] 0) g4 rc (fun pre => pre.map fun k => pageB T (recOf pm) k.1) w6.heap.size rfl (by have := hd3.mlt; have := hB36.size; omega) (by have := hB36.size; omega)
  have hKb : ∀ (W : World) (l : Nat) (o o' : Obj), w6.heap.size ≤ l → W.heap[l]? = some o → o.isCells = false → o.isWalk = false → KpC w6 w4.heap.size (w4.heap.size + 1) W (W.putObj l o') := KpC.b (by omega) (by omega)
  have HTab : Hid (Tab w6) := below_tab hB36 ht3.lt ht3
  have HRC : Hid (rc = recBytes (recOf pm) ∧ (∀ p ∈ recOf pm, p.2.length = 512) ∧ rc.length = 8 + pm.length * 520) := ⟨hrc, hall512, hrcl⟩
  have HS6 : Hid (w6.heap.size = w4.heap.size + 2 ∧ w3.heap.size ≤ w4.heap.size ∧ w6.heap[w4.heap.size]? = some (.cells #[.slice (some ⟨g4, 0, none⟩) (8 + pm.length * 520) cap4] 33 (0, 0)) ∧ w6.heap[w4.heap.size + 1]? = some (.cells #[.int .i64 496] 3 (0, 0))) := ⟨hs6, hB4.size, bS, bN⟩
  have HD3 : Hid (Dev w6 d3 ∧ IsVol w6 v (dp d3.a) commits T NX (some f3) cnt) := ⟨hd3.below hB36, hv3.below hB36⟩
  have HNS : Hid ((∀ k, (k = v ∨ d3.mine k) → k < w3.heap.size) ∧ ¬ (f3 = v ∨ d3.mine f3) ∧ But (fun k => (k = v ∨ d.mine k) ∨ w.heap.size ≤ k) w w6) := by
    refine ⟨?_, ?_, ?_⟩
    · rintro k (rfl | rfl | rfl | rfl)
      · exact hv3.lt
      · exact hd3.alt
      · exact hd3.slt
      · exact hd3.mlt
    · rintro (e | e | e | e)
      · exact map_cells_ne hm3 hv3 e
      · exact map_cells_ne hm3 hd3.dev e
      · obtain ⟨_, hr, _⟩ := hd3.row; exact map_cells_ne hm3 hr e
      · exact hne3 e
    · exact ((But.of_below hB2).trans (hbut3.mono fun k _ h => .inl h)).trans (But.of_below hB36)
  clear hv3 hd3 ht3 bV3 bR3 hm3 hbut3 hs6 bS bN hrc hall512 hrcl hb4 hB4 hB6 hB36 H3
  refine wpIn_rangeFunc_ownG (α := Fin K) rfl (by omega) (gf := 120) (lb := #[.pointer (some ⟨w4.heap.size, 0, none⟩), .pointer (some ⟨w4.heap.size + 1, 0, none⟩)]) rfl trivial (enters_of Tryz.func120 (by kernel_rfl) rfl)
    hseq KpC.t hKb (Below.refl _ _) (fun _ => rfl) _ (fun _ _ _ => False) hI (fun _ _ _ _ _ hs _ _ => hs) hI0
    (fun x => { tmps := #[dp v, .slice q pm.length c, .pointer (some ⟨w.heap.size, 0, none⟩), undef, .pointer (some ⟨w.heap.size + 1, 0, none⟩), .int .i64 0, pieceV g4 0 (8 + pm.length * 520) 496 x.1, undef, undef, dp v, .pointer (some ⟨v, 0, none⟩), .pointer (some ⟨v, 0, none⟩), dp d.a, .int .i64 d.n, dp v, .pointer (some ⟨v, 0, none⟩), .pointer (some ⟨v, 3, none⟩), .int .i64 next, .int .i64 ((d.n : Int) - next), .slice q pm.length c, .int .i64 pm.length, .int .i64 K, .bool true, dp v, .int .i64 0, .int .i64 0, .bool false, undef, .slice q pm.length c, .slice (some ⟨g4, 0, none⟩) (8 + pm.length * 520) cap4, .func (.func 120) #[] #[.pointer (some ⟨w4.heap.size, 0, none⟩), .pointer (some ⟨w4.heap.size + 1, 0, none⟩)], pieceV g4 0 (8 + pm.length * 520) 496 x.1, undef, undef, undef, undef, undef, undef, undef, undef, undef, undef, undef, undef, undef, undef, undef, undef, undef, undef, undef, undef, undef, undef, undef, undef, undef, undef, undef, undef], defers := [] }) ?assign ?body ?done ?stop
  case assign =>
    intro l x W Kk hKk
    gi_wp2
    exact hKk
  case body =>
    rintro l pre ⟨k, hkK⟩ W hi hlt
    obtain ⟨bs, hbs⟩ : ∃ bs, bs = (rc.drop (k * 496)).take 496 := ⟨_, rfl⟩
    obtain ⟨len, hlen⟩ : ∃ len, len = pieceLen (8 + pm.length * 520) 496 k := ⟨_, rfl⟩
    obtain ⟨ao, hao⟩ : ∃ ao, ao = 0 + k * 496 := ⟨_, rfl⟩
    have hpv : pieceV g4 0 (8 + pm.length * 520) 496 k = .slice (some ⟨g4, ao, none⟩) len len := by rw [hao, hlen]; rfl
    have hbl : bs.length = len := by rw [hbs, hlen, List.length_take, List.length_drop, HRC.out.2.2]; rfl
    have hl496 : len ≤ 496 := by rw [hlen]; unfold pieceLen; omega
    have hbW : Bytes W (some ⟨g4, ao, none⟩) bs := by rw [hbs, hao]; exact bytes_drop hi.byt _ _
    have x0 := hi.bV.cell
    have x2 := cellOf hi.vol 2
    simp [volCells] at x2
    have c54 := appendNumber_own (.slice none 0 0) 0 [] T W.heap.size W (World.ownsRow_nil _ _ _ _) (by omega) (by omega) (Nat.le_refl _)
    have HW : Hid (WInvG w6 W d3 v commits T NX f3 w.heap.size cnt (.map #[] 0) g4 rc (pre.map fun k => pageB T (recOf pm) k.1)) := hi
    have HB : Hid (bs = (rc.drop (k * 496)).take 496 ∧ Bytes W (some ⟨g4, ao, none⟩) bs) := ⟨hbs, hbW⟩
    clear hi hI hseq hI0 hKb hbs hlen hao hbW
    rw [hpv]
    clear hpv
    gi_wp2_with fail
    refine ⟨trivial, CallsIn.inRound l (callsIn_wide.2 (c54.mono ?_))⟩
    rintro e w7 ⟨v7, rfl, hr7, hB7, hM7⟩
    clear c54
    have hb7 : Bytes w7 (some ⟨g4, ao, none⟩) bs := below_bytes hB7 HB.out.2
    have HR7 : Hid (w7.ownsRow W.heap.size 5 1 v7 8 ((le8 T).map u8v) ∧ Below W.heap.size W w7 ∧ Bytes w7 (some ⟨g4, ao, none⟩) bs) := ⟨hr7, hB7, hb7⟩
    clear hr7 hB7 hM7 hb7 x0 x2
    gi_wp2_with (refine wpListIn_append_bytes rfl _ _ rfl W.heap.size v7 8 _ rfl HR7.out.1 (some ⟨g4, ao, none⟩) bs len (by rw [hbl]; rfl) HR7.out.2.2 (by omega) HR7.out.2.1.size ?_; intro v8 w8 hown8 hg8; refine Stop.out ?_)
    refine Stop.mk ?_
    rw [← List.map_append, hbl] at hown8
    obtain ⟨gp, capp, rfl, _⟩ := hown8.form (by omega)
    obtain ⟨_, _, e8, _, hb8⟩ := owns_bytes hown8 (by omega)
    cases e8
    obtain ⟨pg, hpg⟩ : ∃ pg, pg = pre.map fun k => pageB T (recOf pm) k.1 := ⟨_, rfl⟩
    have hpgl : pg.length = pre.length := by rw [hpg]; simp
    obtain ⟨nxl, hnxl⟩ : ∃ nxl, nxl = NX + pg.length := ⟨_, rfl⟩
    have hi := HW.out
    rw [← hpg] at hi
    have hB8 : Below W.heap.size W w8 := HR7.out.2.1.grown hg8 HR7.out.2.1.size (owns_block HR7.out.1)
    have hB8d : Below W.heap.size W w8.drew := ⟨hB8.os, hB8.tape, hB8.output, hB8.size, hB8.block⟩
    have hv8 : IsVol w8.drew v (dp d3.a) commits T nxl (some f3) cnt := by rw [hnxl]; exact hi.vol.below hB8d
    obtain ⟨D, hdW⟩ := hi.dev
    have hd8 : Dev w8.drew (d3.paged NX pg D) := hdW.below hB8d
    have bV8 : Boxed w8.drew w.heap.size 24 (dp v) := below_block hi.bV hB8d
    have htW : Tab W := hi.but.tab HTab.out (by rintro (e | e); exact HD3.out.2.noTab HTab.out e; exact HD3.out.1.noTab HTab.out e)
    have ht8 : Tab w8.drew := below_tab hB8d htW.lt htW
    have y0 := bV8.cell
    have y1 := cellOf hv8 0
    have y2 := cellOf hv8 3
    simp [volCells] at y1 y2
    have hcl8 : (le8 T ++ bs).length = 8 + len := by rw [List.length_append, le8_length, hbl]
    have hsc : sealed (le8 T ++ bs) = pageB T (recOf pm) k := by
      rw [HB.out.1, HRC.out.1]
      exact sealed_chunk T (recOf pm) HRC.out.2.1 k (by rw [show (recOf pm).length = pm.length by simp [recOf], ← HK.out]; exact hkK)
    have hp512 : (pageB T (recOf pm) k).length = 512 := by rw [← hsc]; exact sealed_length _ (by rw [hcl8]; omega)
    have c56 : Calls Tryz.prog 105 #[.slice (some ⟨gp, 0, none⟩) (8 + len) capp] w8.drew fun e w' => ∃ g', e = .returned (.slice (some ⟨g', 0, none⟩) 512 512) ∧ w'.heap[g']? = some (.cells ((pageB T (recOf pm) k).map u8v).toArray 5 (0, 0)) ∧ Below w8.heap.size w8.drew w' ∧ (w'.cell? ⟨w.heap.size, 0, none⟩ = some (dp v) ∧ w'.cell? ⟨v, 0, none⟩ = some (dp d3.a) ∧ w'.cell? ⟨v, 3, none⟩ = some (.int .i64 (nxl : Nat))) := by
      have := seal_any (some ⟨gp, 0, none⟩) (le8 T ++ bs) capp w8.drew ht8 (by rw [hcl8]; omega) hb8
      rw [hcl8] at this
      refine this.mono ?_
      rintro e w' ⟨g', rfl, hg', hc', hB'⟩
      rw [hsc] at hc'
      refine ⟨g', rfl, hc', hB', Boxed.cell (below_block bV8 hB'), ?_, ?_⟩
      · have := cellOf (hv8.below hB') 0; simpa [volCells] using this
      · have := cellOf (hv8.below hB') 3; simpa [volCells] using this
    have cWr : ∀ g' w', (w'.heap[g']? = some (.cells ((pageB T (recOf pm) k).map u8v).toArray 5 (0, 0)) ∧ Below w8.heap.size w8.drew w' ∧ (w'.cell? ⟨w.heap.size, 0, none⟩ = some (dp v) ∧ w'.cell? ⟨v, 0, none⟩ = some (dp d3.a) ∧ w'.cell? ⟨v, 3, none⟩ = some (.int .i64 (nxl : Nat)))) → Calls Tryz.prog 77 #[dp d3.a, .int .i64 (nxl : Nat), .slice (some ⟨g', 0, none⟩) 512 512] w' fun e WX => e = .returned (.int .i64 0) ∧ But d3.mine w' WX ∧ ∃ D', Dev WX (d3.paged NX (pg ++ [pageB T (recOf pm) k]) D') := by
      rintro g' w' ⟨hc', hB', _⟩
      refine (dev_write (d3.paged NX pg D) nxl (pageB T (recOf pm) k) g' 0 512 w' (hd8.below hB') (by show nxl < d3.n; rw [hdn3]; omega) hp512 (bytes_block hc') (by show (d3.fused && _) = false; rw [hfu3, hfu]; rfl) (by show d3.count + pg.length < _; omega)).mono ?_
      rintro e WX ⟨rfl, hbx, p, _, hdx⟩
      refine ⟨rfl, hbx, loosened D nxl p, ?_⟩
      have e2 : (d3.paged NX pg D).wrote nxl (pageB T (recOf pm) k) (loosened D nxl p) = d3.paged NX (pg ++ [pageB T (recOf pm) k]) (loosened D nxl p) := by
        unfold DS.wrote DS.paged
        simp only [hnxl, laidP_step, List.length_append, List.length_cons, List.length_nil, hfu3, hfu, stepped]
        simp [Nat.add_assoc]
        omega
      rw [← e2]
      exact hdx
    have HZ : Hid (Below W.heap.size W w8 ∧ Dev w8.drew (d3.paged NX pg D) ∧ IsVol w8.drew v (dp d3.a) commits T nxl (some f3) cnt ∧ pg = (pre.map fun k => pageB T (recOf pm) k.1) ∧ nxl = NX + pg.length ∧ WInvG w6 W d3 v commits T NX f3 w.heap.size cnt (.map #[] 0) g4 rc pg ∧ Boxed w8.drew w.heap.size 24 (dp v)) := ⟨hB8, hd8, hv8, hpg, hnxl, hi, bV8⟩
    have hnl : (nxl : Int) < 1000000 := by omega
    clear hown8 hg8 hb8 hi hB8 hB8d hv8 hdW hd8 bV8 htW ht8 hpg HW hsc hcl8 hnxl hpgl
    gi_wp2_with fail
    have hmix : Tryz.prog.follows .mixedOrders = true := by kernel_rfl
    refine region_done hmix (by kernel_rfl) (fun b ac wd => ∃ g' w' WX, (b 9 = true → (w'.heap[g']? = some (.cells ((pageB T (recOf pm) k).map u8v).toArray 5 (0, 0)) ∧ Below w8.heap.size w8.drew w' ∧ (w'.cell? ⟨w.heap.size, 0, none⟩ = some (dp v) ∧ w'.cell? ⟨v, 0, none⟩ = some (dp d3.a) ∧ w'.cell? ⟨v, 3, none⟩ = some (.int .i64 (nxl : Nat))))) ∧ (b 10 = true → (But d3.mine w' WX ∧ ∃ D', Dev WX (d3.paged NX (pg ++ [pageB T (recOf pm) k]) D'))) ∧ ac = { tmps := #[dp v, .slice q pm.length c, .pointer (some ⟨w.heap.size, 0, none⟩), undef, .pointer (some ⟨w.heap.size + 1, 0, none⟩), .int .i64 0, .slice (some ⟨g4, ao, none⟩) len len, .slice (some ⟨gp, 0, none⟩) (8 + len) capp, (if b 11 = true then .int .i64 0 else undef), dp v, .pointer (some ⟨v, 0, none⟩), .pointer (some ⟨v, 0, none⟩), dp d.a, .int .i64 d.n, dp v, .pointer (some ⟨v, 0, none⟩), .pointer (some ⟨v, 3, none⟩), .int .i64 next, .int .i64 ((d.n : Int) - next), .slice q pm.length c, .int .i64 pm.length, .int .i64 K, .bool true, dp v, .int .i64 0, .int .i64 0, .bool false, undef, .slice q pm.length c, .slice (some ⟨g4, 0, none⟩) (8 + pm.length * 520) cap4, .func (.func 120) #[] #[.pointer (some ⟨w4.heap.size, 0, none⟩), .pointer (some ⟨w4.heap.size + 1, 0, none⟩)], .slice (some ⟨g4, ao, none⟩) len len, dp v, dp v, .pointer (some ⟨v, 2, none⟩), .int .i64 T, v7, .slice (some ⟨g4, ao, none⟩) len len, .slice (some ⟨gp, 0, none⟩) (8 + len) capp, (if b 0 = true then dp v else undef), (if b 1 = true then dp v else undef), (if b 2 = true then .pointer (some ⟨v, 0, none⟩) else undef), (if b 3 = true then dp d3.a else undef), (if b 4 = true then dp v else undef), (if b 5 = true then dp v else undef), (if b 6 = true then .pointer (some ⟨v, 3, none⟩) else undef), (if b 7 = true then .int .i64 (nxl : Nat) else undef), (if b 8 = true then .slice (some ⟨gp, 0, none⟩) (8 + len) capp else undef), (if b 9 = true then .slice (some ⟨g', 0, none⟩) 512 512 else undef), (if b 10 = true then .int .i64 0 else undef), undef, undef, undef, undef, undef, undef, undef, undef, undef, undef], defers := [] } ∧ wd = if b 10 = true then WX else if b 9 = true then w' else w8.drew) ?_ ?_ ?_
    · exact ⟨0, w8, w8, by simp, by simp, by simp, by simp⟩
    · rintro b ac wd i op ⟨g9, W9, WX, h9f, hXf, rfl, rfl⟩ hcl hop hbi hd
      have h1110 : b 11 = true → b 10 = true := fun h => hcl 11 _ rfl h ⟨10, .data⟩ (by simp) rfl
      have h109 : b 10 = true → b 9 = true := fun h => hcl 10 _ rfl h ⟨9, .data⟩ (by simp) rfl
      have h10b : b 10 = true → b 3 = true := fun h => hcl 10 _ rfl h ⟨3, .data⟩ (by simp) rfl
      have h10d : b 10 = true → b 7 = true := fun h => hcl 10 _ rfl h ⟨7, .data⟩ (by simp) rfl
      have h32 : b 3 = true → b 2 = true := fun h => hcl 3 _ rfl h ⟨2, .data⟩ (by simp) rfl
      have h21 : b 2 = true → b 1 = true := fun h => hcl 2 _ rfl h ⟨1, .data⟩ (by simp) rfl
      have h10 : b 1 = true → b 0 = true := fun h => hcl 1 _ rfl h ⟨0, .data⟩ (by simp) rfl
      have h76 : b 7 = true → b 6 = true := fun h => hcl 7 _ rfl h ⟨6, .data⟩ (by simp) rfl
      have h65 : b 6 = true → b 5 = true := fun h => hcl 6 _ rfl h ⟨5, .data⟩ (by simp) rfl
      have h54 : b 5 = true → b 4 = true := fun h => hcl 5 _ rfl h ⟨4, .data⟩ (by simp) rfl
      have h10a : b 10 = true → b 0 = true := fun h => h10 (h21 (h32 (h10b h)))
      have h10c : b 10 = true → b 4 = true := fun h => h54 (h65 (h76 (h10d h)))
      clear h32 h21 h10 h76 h65 h54
      match i with
      | 0 =>
        simp only [List.getElem?_toArray, List.getElem?_cons_zero, Option.some.injEq] at hop
        subst hop
        have hx10 : b 10 = false := by cases h : b 10; rfl; rw [h10a h] at hbi; cases hbi
        refine op_value rfl rfl (by intro c h; cases h) (v := dp v) (w' := if b 10 = true then WX else if b 9 = true then W9 else w8.drew) ?_ ?_
        · rw [hx10]
          cases h9 : b 9
          · simp [execOp, go_sem, y0]
          · obtain ⟨q0, q1, q2⟩ := (h9f h9).2.2
            simp [execOp, go_sem, q0]
        · exact ⟨g9, W9, WX, fun h => h9f (by simpa [did] using h), fun h => hXf (by simpa [did] using h), by simp [Act.put, did], by simp [did]⟩
      | 1 =>
        simp only [List.getElem?_toArray, List.getElem?_cons_zero, List.getElem?_cons_succ, Option.some.injEq] at hop
        subst hop
        have p0 : b 0 = true := hd ⟨0, .data⟩ (by simp) rfl
        refine op_value rfl rfl (by intro c h; cases h) (v := dp v) (w' := if b 10 = true then WX else if b 9 = true then W9 else w8.drew) ?_ ?_
        · simp [execOp, go_sem, p0]
        · exact ⟨g9, W9, WX, fun h => h9f (by simpa [did] using h), fun h => hXf (by simpa [did] using h), by simp [Act.put, did], by simp [did]⟩
      | 2 =>
        simp only [List.getElem?_toArray, List.getElem?_cons_zero, List.getElem?_cons_succ, Option.some.injEq] at hop
        subst hop
        have p1 : b 1 = true := hd ⟨1, .data⟩ (by simp) rfl
        refine op_value rfl rfl (by intro c h; cases h) (v := .pointer (some ⟨v, 0, none⟩)) (w' := if b 10 = true then WX else if b 9 = true then W9 else w8.drew) ?_ ?_
        · simp [execOp, go_sem, p1]
        · exact ⟨g9, W9, WX, fun h => h9f (by simpa [did] using h), fun h => hXf (by simpa [did] using h), by simp [Act.put, did], by simp [did]⟩
      | 3 =>
        simp only [List.getElem?_toArray, List.getElem?_cons_zero, List.getElem?_cons_succ, Option.some.injEq] at hop
        subst hop
        have p2 : b 2 = true := hd ⟨2, .data⟩ (by simp) rfl
        have hx10 : b 10 = false := by cases h : b 10; rfl; rw [h10b h] at hbi; cases hbi
        refine op_value rfl rfl (by intro c h; cases h) (v := dp d3.a) (w' := if b 10 = true then WX else if b 9 = true then W9 else w8.drew) ?_ ?_
        · rw [hx10]
          cases h9 : b 9
          · simp [execOp, go_sem, p2, y1]
          · obtain ⟨q0, q1, q2⟩ := (h9f h9).2.2
            simp [execOp, go_sem, p2, q1]
        · exact ⟨g9, W9, WX, fun h => h9f (by simpa [did] using h), fun h => hXf (by simpa [did] using h), by simp [Act.put, did], by simp [did]⟩
      | 4 =>
        simp only [List.getElem?_toArray, List.getElem?_cons_zero, List.getElem?_cons_succ, Option.some.injEq] at hop
        subst hop
        have hx10 : b 10 = false := by cases h : b 10; rfl; rw [h10c h] at hbi; cases hbi
        refine op_value rfl rfl (by intro c h; cases h) (v := dp v) (w' := if b 10 = true then WX else if b 9 = true then W9 else w8.drew) ?_ ?_
        · rw [hx10]
          cases h9 : b 9
          · simp [execOp, go_sem, y0]
          · obtain ⟨q0, q1, q2⟩ := (h9f h9).2.2
            simp [execOp, go_sem, q0]
        · exact ⟨g9, W9, WX, fun h => h9f (by simpa [did] using h), fun h => hXf (by simpa [did] using h), by simp [Act.put, did], by simp [did]⟩
      | 5 =>
        simp only [List.getElem?_toArray, List.getElem?_cons_zero, List.getElem?_cons_succ, Option.some.injEq] at hop
        subst hop
        have p4 : b 4 = true := hd ⟨4, .data⟩ (by simp) rfl
        refine op_value rfl rfl (by intro c h; cases h) (v := dp v) (w' := if b 10 = true then WX else if b 9 = true then W9 else w8.drew) ?_ ?_
        · simp [execOp, go_sem, p4]
        · exact ⟨g9, W9, WX, fun h => h9f (by simpa [did] using h), fun h => hXf (by simpa [did] using h), by simp [Act.put, did], by simp [did]⟩
      | 6 =>
        simp only [List.getElem?_toArray, List.getElem?_cons_zero, List.getElem?_cons_succ, Option.some.injEq] at hop
        subst hop
        have p5 : b 5 = true := hd ⟨5, .data⟩ (by simp) rfl
        refine op_value rfl rfl (by intro c h; cases h) (v := .pointer (some ⟨v, 3, none⟩)) (w' := if b 10 = true then WX else if b 9 = true then W9 else w8.drew) ?_ ?_
        · simp [execOp, go_sem, p5]
        · exact ⟨g9, W9, WX, fun h => h9f (by simpa [did] using h), fun h => hXf (by simpa [did] using h), by simp [Act.put, did], by simp [did]⟩
      | 7 =>
        simp only [List.getElem?_toArray, List.getElem?_cons_zero, List.getElem?_cons_succ, Option.some.injEq] at hop
        subst hop
        have p6 : b 6 = true := hd ⟨6, .data⟩ (by simp) rfl
        have hx10 : b 10 = false := by cases h : b 10; rfl; rw [h10d h] at hbi; cases hbi
        refine op_value rfl rfl (by intro c h; cases h) (v := .int .i64 (nxl : Nat)) (w' := if b 10 = true then WX else if b 9 = true then W9 else w8.drew) ?_ ?_
        · rw [hx10]
          cases h9 : b 9
          · simp [execOp, go_sem, p6, y2]
          · obtain ⟨q0, q1, q2⟩ := (h9f h9).2.2
            simp [execOp, go_sem, p6, q2]
        · exact ⟨g9, W9, WX, fun h => h9f (by simpa [did] using h), fun h => hXf (by simpa [did] using h), by simp [Act.put, did], by simp [did]⟩
      | 8 =>
        simp only [List.getElem?_toArray, List.getElem?_cons_zero, List.getElem?_cons_succ, Option.some.injEq] at hop
        subst hop
        refine op_value rfl rfl (by intro c h; cases h) (v := .slice (some ⟨gp, 0, none⟩) (8 + len) capp) (w' := if b 10 = true then WX else if b 9 = true then W9 else w8.drew) ?_ ?_
        · simp [execOp, go_sem]
        · exact ⟨g9, W9, WX, fun h => h9f (by simpa [did] using h), fun h => hXf (by simpa [did] using h), by simp [Act.put, did], by simp [did]⟩
      | 9 =>
        simp only [List.getElem?_toArray, List.getElem?_cons_zero, List.getElem?_cons_succ, Option.some.injEq] at hop
        subst hop
        have p8 : b 8 = true := hd ⟨8, .data⟩ (by simp) rfl
        have hx10 : b 10 = false := by cases h : b 10; rfl; rw [h109 h] at hbi; cases hbi
        have hx11 : b 11 = false := by cases h : b 11; rfl; rw [h1110 h] at hx10; cases hx10
        refine op_enter rfl rfl (by intro c h; cases h) (f := 105) (args := #[.slice (some ⟨gp, 0, none⟩) (8 + len) capp]) (w' := w8.drew) ?_ ?_
        · rw [hbi, hx10]; simp [execOp, go_sem, p8]
        · refine c56.mono ?_
          rintro e w' ⟨g', rfl, hS'⟩
          exact ⟨_, rfl, g', w', WX, fun _ => hS', fun h => by (simp [did, hx10] at h), by simp [Act.put, did, hbi, hx10, hx11], by simp [did, hx10]⟩
      | 10 =>
        simp only [List.getElem?_toArray, List.getElem?_cons_zero, List.getElem?_cons_succ, Option.some.injEq] at hop
        subst hop
        have p3 : b 3 = true := hd ⟨3, .data⟩ (by simp) rfl
        have p7 : b 7 = true := hd ⟨7, .data⟩ (by simp) rfl
        have p9 : b 9 = true := hd ⟨9, .data⟩ (by simp) rfl
        refine op_enter rfl rfl (by intro c h; cases h) (f := 77) (args := #[dp d3.a, .int .i64 (nxl : Nat), .slice (some ⟨g9, 0, none⟩) 512 512]) (w' := W9) ?_ ?_
        · rw [hbi, p9]; simp [execOp, go_sem, p3, p7]
        · refine (cWr g9 W9 (h9f p9)).mono ?_
          rintro e w' ⟨rfl, hX'⟩
          exact ⟨_, rfl, g9, W9, w', fun _ => h9f p9, fun _ => hX', by simp [Act.put, did], by simp [did]⟩
      | 11 =>
        simp only [List.getElem?_toArray, List.getElem?_cons_zero, List.getElem?_cons_succ, Option.some.injEq] at hop
        subst hop
        have p10 : b 10 = true := hd ⟨10, .data⟩ (by simp) rfl
        refine op_value rfl rfl (by intro c h; cases h) (v := .int .i64 0) (w' := if b 10 = true then WX else if b 9 = true then W9 else w8.drew) ?_ ?_
        · simp [execOp, go_sem, p10]
        · exact ⟨g9, W9, WX, fun h => h9f (by simpa [did] using h), fun h => hXf (by simpa [did] using h), by simp [Act.put, did], by simp [did]⟩
      | k + 12 => simp at hop
    · rintro b ac wd ⟨g9, W9, WX, h9f, hXf, rfl, rfl⟩ hall
      have q0 : b 0 = true := hall 0 (by simp)
      have q1 : b 1 = true := hall 1 (by simp)
      have q2 : b 2 = true := hall 2 (by simp)
      have q3 : b 3 = true := hall 3 (by simp)
      have q4 : b 4 = true := hall 4 (by simp)
      have q5 : b 5 = true := hall 5 (by simp)
      have q6 : b 6 = true := hall 6 (by simp)
      have q7 : b 7 = true := hall 7 (by simp)
      have q8 : b 8 = true := hall 8 (by simp)
      have q9 : b 9 = true := hall 9 (by simp)
      have q10 : b 10 = true := hall 10 (by simp)
      have q11 : b 11 = true := hall 11 (by simp)
      obtain ⟨hc9, hB9, _⟩ := h9f q9
      obtain ⟨hbX, D', hdX⟩ := hXf q10
      have hd9 : Dev W9 (d3.paged NX pg D) := HZ.out.2.1.below hB9
      have hv9 := HZ.out.2.2.1.below hB9
      have bV9 : Boxed W9 w.heap.size 24 (dp v) := below_block HZ.out.2.2.2.2.2.2 hB9
      have bVX : Boxed WX w.heap.size 24 (dp v) := (hbX.block _ bV9.lt (hd9.other bV9 (by decide) (by decide))).trans bV9
      have hvX : IsVol WX v (dp d3.a) commits T nxl (some f3) cnt := hv9.but hbX (fun hm => IsVol.mine (d := d3.paged NX pg D) hv9 hd9 hm)
      have z0 := bVX.cell
      have z3 := cellOf hvX 3
      have fz := frozenOf hvX 3
      simp [volCells] at z3
      have HX : Hid (Below w8.heap.size w8.drew W9 ∧ But d3.mine W9 WX ∧ Dev WX (d3.paged NX (pg ++ [pageB T (recOf pm) k]) D') ∧ IsVol WX v (dp d3.a) commits T nxl (some f3) cnt) := ⟨hB9, hbX, hdX, hvX⟩
      simp only [q0, q1, q2, q3, q4, q5, q6, q7, q8, q9, q10, q11, if_true]
      clear q0 q1 q2 q3 q4 q5 q6 q7 q8 q9 q10 q11 hall h9f hXf hc9 hB9 hbX hdX hd9 hv9 bV9 bVX hvX y0 y1 y2 c56 cWr
      gi_wp2_with fail
      obtain ⟨hB8, hd8, hv8, hpg, hnxl', hi, _⟩ := HZ.out
      obtain ⟨hB9, hbX, hdX, hvX⟩ := HX.out
      obtain ⟨hsz, hsz2, hbs6, hbn6⟩ := HS6.out
      obtain ⟨D0, hdW⟩ := hi.dev
      have hbX' : But (fun k => k = v ∨ d3.mine k) W WX := ((But.of_below (⟨hB8.os, hB8.tape, hB8.output, hB8.size, hB8.block⟩ : Below W.heap.size W w8.drew)).trans (But.of_below hB9)).trans (hbX.mono fun k _ h => .inr h)
      have hbY := hbX'.setCell ⟨v, 3, none⟩ (.inl rfl) (.int .i64 ((nxl + 1 : Nat) : Int))
      have hvY := hvX.setN (nxl + 1)
      have hdY := hdX.butV hvX ((But.refl (fun k => k = v) WX).setCell ⟨v, 3, none⟩ rfl (.int .i64 ((nxl + 1 : Nat) : Int)))
      have ecast : ((nxl + 1 : Nat) : Int) = (nxl : Int) + 1 := by simp
      rw [ecast] at hbY hvY hdY
      have hin : ∀ k, (k = v ∨ d3.mine k) → k < w3.heap.size := HNS.out.1
      have h6W : w6.heap.size ≤ W.heap.size := hi.but.size
      have hlst : ((pre ++ ([⟨k, hkK⟩] : List (Fin K))).map fun k : Fin K => pageB T (recOf pm) k.1) = pg ++ [pageB T (recOf pm) k] := by rw [List.map_append, ← hpg]; rfl
      refine ⟨⟨hbY.size, fun j o hj ho _ => (hbY.block j (Array.getElem?_eq_some_iff.1 ho).1 (fun hs => by have := hin j hs; omega)).trans ho⟩, fun h12 => ⟨(hbY.block _ (by omega) (fun hs => by have := hin _ hs; omega)).trans h12.1, (hbY.block _ (by omega) (fun hs => by have := hin _ hs; omega)).trans h12.2⟩, ?_⟩
      show WInvG _ _ _ _ _ _ _ _ _ _ _ _ _ (List.map _ _)
      rw [hlst]
      refine ⟨?_, ⟨D', hdY⟩, (hbY.block _ hi.bV.lt (away hi.vol hdW hi.bV (by decide) (by decide) (by decide))).trans hi.bV, (hbY.block _ hi.bR.lt (away hi.vol hdW hi.bR (by decide) (by decide) (by decide))).trans hi.bR, ?_, (hbY.block _ (Array.getElem?_eq_some_iff.1 hi.map).1 HNS.out.2.1).trans hi.map, hi.but.trans hbY⟩
      · rw [List.length_append, List.length_singleton, ← Nat.add_assoc, ← hnxl']
        exact hvY
      · intro hp
        obtain ⟨b', o', e', hx'⟩ := hi.byt hp
        cases e'
        refine ⟨_, _, rfl, fun j x hj => ?_⟩
        have hc := hx' j x hj
        refine Eq.trans ?_ hc
        have hbk := hbY.block g4 (cell_lt hc) (fun hs => by have := hin _ hs; omega)
        simp only [World.cell?, hbk]
  case done =>
    rintro D ys W hD hys hi hKd
    have hcR := hi.bR.cell
    have hfR := hi.bR.frozen
    have HI9 : Hid (WInvG w6 W d3 v commits T NX f3 w.heap.size cnt (.map #[] 0) g4 rc (ys.map fun k => pageB T (recOf pm) k.1)) := hi
    clear hi
    gi_wp2
    have hi := HI9.out
    obtain ⟨hsz, hsz2, hbs6, hbn6⟩ := HS6.out
    have h6W : w6.heap.size ≤ W.heap.size := hi.but.size
    have hneD : D ≠ w.heap.size + 1 := by rintro rfl; have := hi.bR; rw [Boxed, hKd] at this; cases this
    have b1 : But (fun k => k = w.heap.size + 1) W (W.setCell ⟨w.heap.size + 1, 0, none⟩ (.int .i64 0)) := But.setCell (But.refl (fun k => k = w.heap.size + 1) W) ⟨w.heap.size + 1, 0, none⟩ rfl _
    have hKd2 := (b1.block D (Array.getElem?_eq_some_iff.1 hKd).1 hneD).trans hKd
    refine ⟨by simp, .inl ⟨_, _, rfl, run_takeDeferred hKd2, ?_⟩⟩
    obtain ⟨Wf, hWf⟩ : ∃ Wf, Wf = (W.setCell ⟨w.heap.size + 1, 0, none⟩ (.int .i64 0)).putObj D (.deferred none) := ⟨_, rfl⟩
    rw [← hWf]
    have b2 : But (fun k => k = D) (W.setCell ⟨w.heap.size + 1, 0, none⟩ (.int .i64 0)) Wf := by rw [hWf]; exact But.of_grown (grownBy_putObj' _ D (.deferred none)) (fun k e => by simpa using e.symm)
    have hb2 : But (fun k => k = w.heap.size + 1 ∨ k = D) W Wf := (b1.mono (fun k _ h => .inl h)).trans (b2.mono (fun k _ h => .inr h))
    have bR2 : (W.setCell ⟨w.heap.size + 1, 0, none⟩ (.int .i64 0)).heap[w.heap.size + 1]? = some (.cells #[.int .i64 0] 36 (0, 0)) := by
      have := hi.bR
      unfold Boxed at this
      simp [World.setCell, Array.getElem?_modify, this]
    have bRf : Boxed Wf (w.heap.size + 1) 36 (.int .i64 0) := (b2.block _ (Array.getElem?_eq_some_iff.1 bR2).1 (fun e => hneD e.symm)).trans bR2
    have cR := bRf.cell
    have hin : ∀ k, (k = v ∨ d3.mine k) → k < w3.heap.size := HNS.out.1
    have hnD : ¬ (D < w3.heap.size) := by omega
    obtain ⟨D0, hdW⟩ := hi.dev
    have hnS : ∀ k, (k = v ∨ d3.mine k) → ¬ (k = w.heap.size + 1 ∨ k = D) := by
      rintro k hk (rfl | rfl)
      · exact away hi.vol hdW hi.bR (by decide) (by decide) (by decide) hk
      · exact hnD (hin _ hk)
    have hpgs : (ys.map fun k : Fin K => pageB T (recOf pm) k.1) = (List.range K).map fun k => pageB T (recOf pm) k := by rw [← hys, List.map_map]; rfl
    have hysl : ys.length = K := by have := congrArg List.length hys; simpa using this
    have hdf : Dev Wf (d3.paged NX (ys.map fun k : Fin K => pageB T (recOf pm) k.1) D0) := by
      refine hdW.but hb2 (fun k hk => hnS k (.inr hk)) (fun g l hg => ?_)
      rintro (rfl | rfl)
      · have := hi.bR; rw [Boxed, hg] at this; simp at this
      · rw [hKd] at hg; cases hg
    refine ⟨.int .i64 0, by simp [results, Tryz.results69, go_sem, cR], rfl, d3, _, f3, HX3.out, ⟨?_, ?_, ?_, hdf, hdn3, ?_, ?_, hfu3, ?_, ?_⟩⟩
    · have := hi.vol.but hb2 (hnS v (.inl rfl))
      rw [List.length_map, hysl, hn3.a] at this
      rw [← HK.out]
      exact this
    · refine (hb2.block f3 (Array.getElem?_eq_some_iff.1 hi.map).1 ?_).trans hi.map
      rintro (e | e)
      · have := hi.map; rw [e, hi.bR] at this; cases this
      · have := hi.map; rw [e, hKd] at this; cases this
    · exact fun e => HNS.out.2.1 (.inr (.inr (.inr e)))
    · show laidP d3.B _ _ = _
      rw [hpgs, HK.out]
    · show d3.count + ((ys.map fun k : Fin K => pageB T (recOf pm) k.1).length : Nat) = _
      rw [List.length_map, hysl, HK.out]
    · refine ⟨hn3.a, hn3.s, ?_⟩
      rcases hn3.m with h1 | h1
      · exact .inl h1
      · exact .inr (by show w.heap.size ≤ d3.m; omega)
    · have t6 := HNS.out.2.2
      have tW : But (fun k => (k = v ∨ d.mine k) ∨ w.heap.size ≤ k) w6 W := hi.but.mono (fun k _ hk => by
        rcases hk with h1 | h1 | h1 | h1
        · exact .inl (.inl h1)
        · exact .inl (.inr (.inl (h1.trans hn3.a)))
        · exact .inl (.inr (.inr (.inl (h1.trans hn3.s))))
        · rcases hn3.m with h2 | h2
          · exact .inl (.inr (.inr (.inr (h1.trans h2))))
          · exact .inr (by omega))
      have tf : But (fun k => (k = v ∨ d.mine k) ∨ w.heap.size ≤ k) W Wf := hb2.mono (fun k _ hk => .inr (by have := t6.size; rcases hk with h1 | h1 <;> omega))
      exact ((t6.trans tW).trans tf).mono (fun k hk h => h.resolve_right (by omega))
  case stop =>
    rintro D c pre W _ _ h _
    exact h.elim

end Go.Proofs.YtlcojcldbdikgaaGreatDoor

/-
  restart of package wal, whatever the log holds.
-/
namespace Go.Proofs.YtlcojcldbdikgaaGreatDoor
open Go.RowKit Go.Maps Go.Sort Go.Shelf

theorem alive_free {d : DS} (h : d.fused = false) : d.dead = false := by unfold DS.dead; rw [h]; rfl

/-- What restart leaves of the device. -/
structure Anew (d d' : DS) (fr : Nat → Option By) (commits turn : Nat) : Prop where
  D : d'.D = .map []
  B : d'.B = upd (homed d.B fr) 0 (headB (turn + 1) commits d.n)
  count : d'.count = d.count + 4 + (homeKeys fr (nbOf d.n)).length

/-- Behind restart's steps. -/
structure RstG (w W : World) (d d' : DS) (fr : Nat → Option By) (commits turn f : Nat) : Prop where
  but : But d.mine w W
  near : Near w d d'
  dev : Dev W d'
  n : d'.n = d.n
  anew : Anew d d' fr commits turn
  fused : d'.fused = d.fused
  map : W.heap[f]? = some (.map #[] 0)
  fm : f ≠ d'.m

set_option maxRecDepth 8000 in
set_option maxHeartbeats 1000000 in
theorem restart_any (v : Nat) (commits turn next f nf : Nat) (count : Int) (F : DataW Value) (fr : Nat → Option By) (d : DS) (w : World) (h : IsVol w v (dp d.a) commits turn next (some f) count) (hd : Dev w d) (ht : Tab w) (hn : 16 ≤ d.n)
    (hF : Fresh w f nf F fr) (hfm : f ≠ d.m) (hfr : ∀ i, nbOf d.n ≤ i → fr i = none) (hnf : nf ≤ 1000000) (hc : commits < 4000000000000000000) (htu : turn < 4000000000000000000) (hfu : d.fused = false) (hcn : d.count < 700000000) :
    Calls Tryz.prog 101 #[dp v] w fun e w' => e = .returned (.int .i64 0) ∧ ∃ d', IsVol w' v (dp d.a) commits (turn + 1) (1 + nbOf d.n) (some w.heap.size) 0 ∧ Dev w' d' ∧ Near w d d' ∧ d'.n = d.n ∧ d'.fused = d.fused ∧ d'.count < 900000000 ∧ w'.heap[w.heap.size]? = some (.map #[] 0) ∧ w.heap.size ≠ d'.m ∧ But (fun k => k = v ∨ d.mine k) w w' ∧ Anew d d' fr commits turn := by
  have hle := hd.hn
  have hnb : 1 + nbOf d.n ≤ d.n := by unfold nbOf; omega
  have hL := homeKeys_len fr (nbOf d.n)
  refine (restart_steps v commits turn next f count d w h hd hn htu (fun W' => (∃ d', RstG w W' d d' fr commits turn w.heap.size) ∧ IsVol W' v (dp d.a) commits turn next (some f) count) ?_).mono ?_
  · intro Wc hBc hmc hvn hsc
    obtain ⟨cs, hgc⟩ := hsc
    have hdc := hd.below hBc
    have hvc := h.below hBc
    have hFc := hF.below hBc
    have hflt := hF.own.lt
    have bc : But d.mine w Wc := But.of_below hBc
    have hmlt := hd.mlt
    have halt := hd.alt
    have hslt := hd.slt
    have hszc := (Array.getElem?_eq_some_iff.1 hmc).1
    -- Flush
    refine (dev_flush d Wc hdc (alive_free hfu) (by omega)).mono ?_
    rintro e w1 ⟨m1, rfl, hm1, hd1, b1⟩
    have n1 : Near w d (d.flushed m1) := Near.flushed (Nat.le_trans hBc.size hm1)
    have b1' := (Near.refl w d).but bc b1
    have hg1 := But.pass hdc b1 hgc (by decide) (by decide)
    have hvn1 := But.pass hdc b1 hvn (by decide) (by decide)
    have hv1 := But.pass hdc b1 hvc (by decide) (by decide)
    have hmc1 : w1.heap[w.heap.size]? = some (.map #[] 0) := (b1.block _ hszc (by rintro (e | e | e) <;> omega)).trans hmc
    have hF1 : Fresh w1 f nf F fr := hFc.but b1 (by
      obtain ⟨es, clock, he, _⟩ := hFc.own
      rintro (e | e | e)
      · exact map_cells_ne he hdc.dev e
      · obtain ⟨_, hr, _⟩ := hdc.row; exact map_cells_ne he hr e
      · exact hfm e) (fun k cs fr' hk => hdc.other hk (by decide) (by decide))
    refine ⟨0, rfl, hg1.trans hgc.symm, .inr ⟨rfl, ?_⟩⟩
    -- writeHomes
    refine (writeHomes_any v commits turn next f nf (nbOf d.n) count F fr (d.flushed m1) w1 hv1 hd1 hF1 (by show f ≠ m1; omega) hfr hnb hnf hfu (by show d.count + 1 < _; omega)).mono ?_
    rintro e w2 ⟨rfl, b2, D2, hd2⟩
    have hg2 := But.pass hd1 b2 hg1 (by decide) (by decide)
    have hvn2 := But.pass hd1 b2 hvn1 (by decide) (by decide)
    have hv2 := But.pass hd1 b2 hv1 (by decide) (by decide)
    have hmc2 : w2.heap[w.heap.size]? = some (.map #[] 0) := (b2.block _ (Array.getElem?_eq_some_iff.1 hmc1).1 (by
      rintro (e | e | e)
      · have e' : w.heap.size = d.a := e; omega
      · have e' : w.heap.size = d.s := e; omega
      · have e' : w.heap.size = m1 := e; omega)).trans hmc1
    have b2' := n1.but b1' b2
    obtain ⟨d2, hd2e⟩ : ∃ d2, d2 = (d.flushed m1).homedBy fr (homeKeys fr (nbOf d.n)) D2 := ⟨_, rfl⟩
    have ea2 : d2.a = d.a := by rw [hd2e]; rfl
    have es2 : d2.s = d.s := by rw [hd2e]; rfl
    have em2 : d2.m = m1 := by rw [hd2e]; rfl
    have en2 : d2.n = d.n := by rw [hd2e]; rfl
    have ef2 : d2.fused = false := by rw [hd2e]; exact hfu
    have ec2 : d2.count = d.count + 1 + (homeKeys fr (nbOf d.n)).length := by rw [hd2e]; rfl
    have eB2 : d2.B = homed d.B fr := by rw [hd2e]; exact putHomes_all d.B fr (nbOf d.n) hfr
    rw [← hd2e] at hd2
    have n2 : Near w d d2 := ⟨ea2, es2, .inr (by rw [em2]; exact Nat.le_trans hBc.size hm1)⟩
    clear hd2e
    refine ⟨0, rfl, hg2.trans hg1.symm, .inr ⟨rfl, ?_⟩⟩
    -- Flush
    have c3 := dev_flush d2 w2 hd2 (alive_free ef2) (by omega)
    rw [ea2] at c3
    refine c3.mono ?_
    rintro e w3 ⟨m3, rfl, hm3, hd3, b3⟩
    have hg3 := But.pass hd2 b3 hg2 (by decide) (by decide)
    have hvn3 := But.pass hd2 b3 hvn2 (by decide) (by decide)
    have hv3 := But.pass hd2 b3 hv2 (by decide) (by decide)
    have n3 := n2.trans (Near.flushed (d := d2) hm3) b2'.size
    have b3' := n2.but b2' b3
    have hs2 := (Array.getElem?_eq_some_iff.1 hmc2).1
    have hmc3 : w3.heap[w.heap.size]? = some (.map #[] 0) := (b3.block _ hs2 (by
      rintro (e | e | e)
      · rw [ea2] at e; omega
      · rw [es2] at e; omega
      · rw [em2] at e; omega)).trans hmc2
    refine ⟨0, rfl, hg3.trans hg2.symm, .inr ⟨rfl, ?_⟩⟩
    have ht3 : Tab w3 := b3'.tab ht (hd.noTab ht)
    obtain ⟨d3, hd3e⟩ : ∃ d3, d3 = d2.flushed m3 := ⟨_, rfl⟩
    have ea3 : d3.a = d.a := by rw [hd3e]; exact ea2
    have es3 : d3.s = d.s := by rw [hd3e]; exact es2
    have em3 : d3.m = m3 := by rw [hd3e]; rfl
    have en3 : d3.n = d.n := by rw [hd3e]; exact en2
    have ef3 : d3.fused = false := by rw [hd3e]; exact ef2
    have ec3 : d3.count = d2.count + 1 := by rw [hd3e]; rfl
    have eB3 : d3.B = homed d.B fr := by rw [hd3e]; exact eB2
    have eD3 : d3.D = .map [] := by rw [hd3e]; rfl
    rw [← hd3e] at hd3 n3
    clear hd3e
    -- writeHead
    rw [← ea3] at hvn3
    refine (writeHead_any (w.heap.size + 1) commits (turn + 1) (1 + nbOf d.n) (some w.heap.size) 0 d3 w3 hvn3 hd3 ht3 (by omega) (by omega) (alive_free ef3) (by omega)).mono ?_
    rintro e w4 ⟨rfl, b4, p4, hp4, hd4⟩
    have hg4 := But.pass hd3 b4 hg3 (by decide) (by decide)
    have hvn4 := But.pass hd3 b4 hvn3 (by decide) (by decide)
    have hv4 := But.pass hd3 b4 hv3 (by decide) (by decide)
    have b4' := n3.but b3' b4
    have n4 := n3.trans (Near.wrote w3 d3 0 (headB (turn + 1) commits d3.n) (loosened d3.D 0 p4)) b3'.size
    have hs3 := (Array.getElem?_eq_some_iff.1 hmc3).1
    have hmc4 : w4.heap[w.heap.size]? = some (.map #[] 0) := (b4.block _ hs3 (by
      rintro (e | e | e)
      · rw [ea3] at e; omega
      · rw [es3] at e; omega
      · rw [em3] at e; omega)).trans hmc3
    refine ⟨0, rfl, hg4.trans hg3.symm, .inr ⟨rfl, ?_⟩⟩
    -- Flush
    obtain ⟨d4, hd4e⟩ : ∃ d4, d4 = d3.wrote 0 (headB (turn + 1) commits d3.n) (loosened d3.D 0 p4) := ⟨_, rfl⟩
    have ea4 : d4.a = d.a := by rw [hd4e]; exact ea3
    have es4 : d4.s = d.s := by rw [hd4e]; exact es3
    have em4 : d4.m = m3 := by rw [hd4e]; exact em3
    have en4 : d4.n = d.n := by rw [hd4e]; exact en3
    have ef4 : d4.fused = false := by rw [hd4e]; exact ef3
    have ec4 : d4.count = d3.count + 1 := by rw [hd4e]; rfl
    have eB4 : d4.B = upd (homed d.B fr) 0 (headB (turn + 1) commits d.n) := by rw [hd4e, ← eB3, ← en3]; rfl
    rw [← hd4e] at hd4 n4
    clear hd4e
    have c5 := dev_flush d4 w4 hd4 (alive_free ef4) (by omega)
    rw [ea4] at c5
    refine c5.mono ?_
    rintro e w5 ⟨m5, rfl, hm5, hd5, b5⟩
    have hg5 := But.pass hd4 b5 hg4 (by decide) (by decide)
    have hs4 := (Array.getElem?_eq_some_iff.1 hmc4).1
    have hmc5 : w5.heap[w.heap.size]? = some (.map #[] 0) := (b5.block _ hs4 (by
      rintro (e | e | e)
      · rw [ea4] at e; omega
      · rw [es4] at e; omega
      · rw [em4] at e; omega)).trans hmc4
    have hvn5 := But.pass hd4 b5 hvn4 (by decide) (by decide)
    rw [ea3] at hvn5
    refine ⟨0, rfl, hg5.trans hg4.symm, .inr ⟨rfl, rfl, ⟨⟨d4.flushed m5, n4.but b4' b5, n4.trans (Near.flushed hm5) b4'.size, hd5, en4, ⟨rfl, eB4, ?_⟩, ?_, hmc5, ?_⟩, But.pass hd4 b5 hv4 (by decide) (by decide)⟩, hvn5, But.pass hd4 b5 hv4 (by decide) (by decide)⟩⟩
    · show d4.count + 1 = _
      omega
    · show d4.fused = _
      rw [ef4, hfu]
    · show w.heap.size ≠ m5
      omega
  · rintro e w' ⟨rfl, W', ⟨⟨d', hR⟩, hvo⟩, hv', hb'⟩
    have hlt := h.lt
    refine ⟨rfl, d', hv', hR.dev.butV hvo hb', hR.near, hR.n, hR.fused, by rw [hR.anew.count]; omega, (hb'.block _ (Array.getElem?_eq_some_iff.1 hR.map).1 (by omega)).trans hR.map, hR.fm, (hR.but.mono (fun k _ hk => .inr hk)).trans (hb'.mono (fun k _ hk => .inl hk)), hR.anew⟩

end Go.Proofs.YtlcojcldbdikgaaGreatDoor

/-
  Commit of package wal, whatever the log holds.
-/
namespace Go.Proofs.YtlcojcldbdikgaaGreatDoor
open Go.RowKit Go.Maps Go.Sort Go.Shelf

/-- Behind a write, whether the log was begun anew or not. -/
structure WOut (w w' : World) (v commits f : Nat) (d d' : DS) (T NX f' nf' : Nat) (cnt : Int) (F' : DataW Value) (fr' : Nat → Option By) : Prop where
  vol : IsVol w' v (dp d.a) commits T NX (some f') cnt
  fresh : Fresh w' f' nf' F' fr'
  nf : nf' ≤ 1000000
  fm : f' ≠ d'.m
  new : f' = f ∨ w.heap.size ≤ f'
  dev : Dev w' d'
  n : d'.n = d.n
  fused : d'.fused = d.fused
  near : Near w d d'
  but : But (fun k => k = v ∨ d.mine k) w w'

/-- Behind a Commit. -/
structure COut (w w' : World) (v commits f : Nat) (d d' : DS) (T NX f' nf' : Nat) (F' : DataW Value) (fr' : Nat → Option By) : Prop where
  vol : IsVol w' v (dp d.a) commits T NX (some f') d'.count
  fresh : Fresh w' f' nf' F' fr'
  fm : f' ≠ d'.m
  new : f' = f ∨ w.heap.size ≤ f'
  dev : Dev w' d'
  n : d'.n = d.n
  fused : d'.fused = d.fused
  near : Near w d d'
  but : But (fun k => k = v ∨ k = f ∨ d.mine k) w w'

set_option maxRecDepth 8000 in
set_option maxHeartbeats 4000000 in
theorem vCommit_core (q : Option Addr) (pm : List PutM) (c v : Nat) (commits turn next f : Nat) (P : DS → Nat → Nat → Nat → (Nat → Option By) → Prop) (d : DS) (w : World) (h : IsVol w v (dp d.a) commits turn next (some f) d.count) (hd : Dev w d) (hn : 16 ≤ d.n)
    (hps : PutsAt w q pm) (hg : pm.all (goodPut (nbOf d.n)) = true) (hl1 : 1 ≤ pm.length) (hl2 : pm.length ≤ nbOf d.n) (hc : commits < 4000000000000000000) (hfu : d.fused = false)
    (cW : ∀ W : World, Below w.heap.size w W → Calls Tryz.prog 69 #[dp v, .slice q pm.length c] W fun e w' => e = .returned (.int .i64 0) ∧ ∃ d' T NX f' nf' cnt F' fr', WOut W w' v commits f d d' T NX f' nf' cnt F' fr' ∧ P d' T NX nf' fr') :
    Calls Tryz.prog 38 #[dp v, .slice q pm.length c] w fun e w' => e = .returned (.int .i64 0) ∧ ∃ d' T NX f' nf' F' fr', COut w w' v (commits + 1) f d d' T NX f' (nf' + pm.length) F' (laidOn fr' (recOf pm)) ∧ P d' T NX nf' fr' := by
  have hle := hd.hn
  have hnb : nbOf d.n ≤ 65536 := by unfold nbOf; omega
  have hdead : d.dead = false := by unfold DS.dead; rw [hfu]; rfl
  have htk : takesB (nbOf d.n) pm = true := by unfold takesB; rw [hg]; simp; omega
  have c46 := takes_any q pm c v commits turn next (some f) d.count d w h hd hn hps (fun e => by omega) (by omega)
  rw [htk] at c46
  have c48 : ∀ W : World, Below w.heap.size w W → Calls Tryz.prog 53 #[dp v] W fun e w' => e = .returned (.int .i64 0) ∧ w' = W := by
    intro W hW
    have := checkLife v commits turn next (some f) d.count d W (h.below hW) (hd.below hW)
    rw [hdead] at this
    exact this
  have c53 : ∀ W : World, Below w.heap.size w W → Calls Tryz.prog 43 #[dp v] W fun e w' => e = .returned (.tuple #[]) ∧ Below w.heap.size w w' := by
    intro W hW
    refine (catchUp_idle v commits turn next (some f) d W (h.below hW) (hd.below hW)).mono ?_
    rintro e w' ⟨rfl, k, rfl⟩
    exact ⟨rfl, below_drewN hW k⟩
  have HP : Hid (PutsAt w q pm ∧ IsVol w v (dp d.a) commits turn next (some f) d.count ∧ Dev w d) := ⟨hps, h, hd⟩
  have hl0 : ¬ ((pm.length : Int) = 0) := by omega
  clear h hd hps
  go_enter Tryz.func38, Tryz.ntmps38
  go_wp2_with (first
    | (go_at_call 68; refine c46.mono ?_; rintro e w1 ⟨rfl, hB1⟩; clear c46; have c48' := c48 w1 hB1; clear c48)
    | (go_at_call 53; refine Calls_on c48' ?_; have c53' := c53 w1 hB1; clear c53)
    | (go_at_call 43; refine c53'.mono ?_; rintro e w2 ⟨rfl, hB2⟩; clear c53'; have cW' := cW w2 hB2; clear cW)
    | (go_at_call 69; refine cW'.mono ?_; rintro e w3 ⟨rfl, d3, T, NX, f3, nf3, cnt, F3, fr3, hR, hP3⟩; clear cW'; refine Stop.out ?_))
  refine Stop.mk ?_
  have HP3 : Hid (P d3 T NX nf3 fr3) := hP3
  clear hP3
  obtain ⟨hps, hv, hd⟩ := HP.out
  have hv2 := hv.below hB2
  have hd2 := hd.below hB2
  have hps2 : PutsAt w2 q pm := hps.but (But.of_below (S := fun _ => False) hB2) (fun k cs t fr hk ht => not_false)
  have hps3 : PutsAt w3 q pm := hps2.but hR.but (fun k cs t fr hk ht => by rcases ht with rfl | rfl <;> exact away hv2 hd2 hk (by decide) (by decide) (by decide))
  have hv3 := hR.vol
  have c23 : Calls Tryz.prog 57 #[dp d.a] w3 fun e w' => e = .returned (.int .i64 d3.count) ∧ w' = w3 := by rw [← hR.near.a]; exact dev_count d3 w3 hR.dev
  have y0 := cellOf hv3 0
  have y5 := cellOf hv3 5
  have f5 := frozenOf hv3 5
  simp [volCells] at y0 y5
  obtain ⟨w4, hw4⟩ : ∃ w4, w4 = w3.setCell ⟨v, 5, none⟩ (.int .i64 d3.count) := ⟨_, rfl⟩
  have hb4 : But (fun k => k = v) w3 w4 := by rw [hw4]; exact (But.refl (fun k => k = v) w3).setCell ⟨v, 5, none⟩ rfl _
  have hv4 : IsVol w4 v (dp d.a) commits T NX (some f3) d3.count := by rw [hw4]; exact hv3.setK _
  have hd4 : Dev w4 d3 := hR.dev.butV hv3 hb4
  obtain ⟨es3, ck3, hm3, _⟩ := hR.fresh.own
  have hm4 : w4.heap[f3]? = some (.map es3 ck3) := (hb4.block f3 (Array.getElem?_eq_some_iff.1 hm3).1 (map_cells_ne hm3 hv3)).trans hm3
  have hF4 : Fresh w4 f3 nf3 F3 fr3 := hR.fresh.but hb4 (map_cells_ne hm3 hv3) (fun k cs fr hk e => by subst e; have := hv3; rw [IsVol, hk] at this; simp at this)
  have hps4 : PutsAt w4 q pm := hps3.but hb4 (fun k cs t fr hk ht e => by subst e; rcases ht with rfl | rfl <;> exact absurd (hv3.symm.trans hk) (by simp))
  have c50 := take_any q pm c v (some ⟨d.a, 0, none⟩) commits T NX f3 nf3 F3 fr3 d3.count (nbOf d.n) w4 hv4 hF4 hps4 hg (by omega) (by have := hR.nf; omega) (by omega)
  have HR : Hid (WOut w2 w3 v commits f d d3 T NX f3 nf3 cnt F3 fr3 ∧ But (fun k => k = v) w3 w4 ∧ Dev w4 d3 ∧ IsVol w4 v (dp d.a) commits T NX (some f3) d3.count ∧ w4.heap[f3]? = some (.map es3 ck3)) := ⟨hR, hb4, hd4, hv4, hm4⟩
  clear hps hv hd hv2 hd2 hps2 hps3 hv3 hR hb4 hv4 hd4 hm4 hps4 c48' hm3 hF4
  go_wp2_with (first
    | (go_at_call 57; refine Calls_on c23 ?_)
    | (go_at_call 70; rw [← hw4]; refine c50.mono ?_; rintro e w5 ⟨rfl, hv5, hF5, hb5⟩; clear c50))
  go_ret
  obtain ⟨hR, hb4, hd4, hv4, hm4⟩ := HR.out
  have hne : ∀ k, d3.mine k → ¬ (k = v ∨ k = f3) := by
    rintro k hk (rfl | rfl)
    · exact hv4.mine hd4 hk
    · rcases hk with e | e | e
      · exact map_cells_ne hm4 hd4.dev e
      · obtain ⟨_, hr, _⟩ := hd4.row; exact map_cells_ne hm4 hr e
      · exact hR.fm e
  obtain ⟨F5, hF5⟩ := hF5
  have hs2 := hB2.size
  refine ⟨rfl, d3, T, NX, f3, nf3, F5, fr3, ⟨hv5, hF5, hR.fm, ?_, hd4.but hb5 hne (fun g l hg' => ?_), hR.n, hR.fused, ?_, ?_⟩, HP3.out⟩
  · rcases hR.new with e | e
    · exact .inl e
    · exact .inr (Nat.le_trans hs2 e)
  · rintro (rfl | rfl)
    · have := hv4; rw [IsVol, hg'] at this; simp at this
    · rw [hm4] at hg'; cases hg'
  · refine ⟨hR.near.a, hR.near.s, ?_⟩
    rcases hR.near.m with e | e
    · exact .inl e
    · exact .inr (Nat.le_trans hs2 e)
  · have t2 : But (fun k => (k = v ∨ k = f ∨ d.mine k) ∨ w.heap.size ≤ k) w w2 := But.of_below hB2
    have hn := hR.new
    exact (((t2.trans (hR.but.mono fun k _ h => .inl (by rcases h with h | h; exact .inl h; exact .inr (.inr h)))).trans (hb4.mono fun k _ h => .inl (.inl h))).trans (hb5.mono fun k _ h => by
      rcases h with h | h
      · exact .inl (.inl h)
      · rcases hn with e | e
        · exact .inl (.inr (.inl (h.trans e)))
        · exact .inr (by omega))).mono (fun k hk h => h.resolve_right (by omega))

end Go.Proofs.YtlcojcldbdikgaaGreatDoor

/-
  A volume and its log as one word: what holds of them between the calls.
-/
namespace Go.Proofs.YtlcojcldbdikgaaGreatDoor
open Go.RowKit Go.Maps Go.Sort Go.Shelf

/-- Where the log's records end. -/
def logEnd : Nat → List Rec → Nat
  | at_, [] => at_
  | at_, ps :: rs => logEnd (at_ + pagesFor ps.length) rs
theorem logEnd_snoc (ps : Rec) : ∀ (rs : List Rec) (at_ : Nat), logEnd at_ (rs ++ [ps]) = logEnd at_ rs + pagesFor ps.length
  | [], _ => rfl
  | _ :: rs, _ => logEnd_snoc ps rs _
theorem logEnd_ge : ∀ (rs : List Rec) (at_ : Nat), at_ ≤ logEnd at_ rs
  | [], _ => Nat.le_refl _
  | _ :: rs, _ => Nat.le_trans (Nat.le_add_right _ _) (logEnd_ge rs _)
theorem LogIs.endLe {B : Nat → By} {n nb t : Nat} : ∀ {rs : List Rec} {at_ : Nat}, LogIs B n nb t at_ rs → logEnd at_ rs ≤ n
  | [], _, h => h.1
  | p :: rs, at_, h => show logEnd (at_ + pagesFor p.length) rs ≤ n from LogIs.endLe h.2.2.2
theorem LogIs.snoc {B B' : Nat → By} {n nb t : Nat} {ps : Rec} (hps : okRec nb ps) : ∀ {rs : List Rec} {at_ : Nat}, LogIs B n nb t at_ rs → (∀ j, at_ ≤ j → j < logEnd at_ rs → B' j = B j) → logEnd at_ rs + pagesFor ps.length ≤ n →
    (∀ i, i < pagesFor ps.length → B' (logEnd at_ rs + i) = pageB t ps i) → (logEnd at_ rs + pagesFor ps.length < n → OldB t (B' (logEnd at_ rs + pagesFor ps.length))) → LogIs B' n nb t at_ (rs ++ [ps])
  | [], _, _, _, h2, h3, h4 => ⟨hps, h2, h3, h2, h4⟩
  | p :: rs, at_, h, h1, h2, h3, h4 => by
    have hge := logEnd_ge rs (at_ + pagesFor p.length)
    refine ⟨h.1, h.2.1, fun i hi => ?_, LogIs.snoc hps h.2.2.2 (fun j hj hj' => h1 j (by omega) hj') h2 h3 h4⟩
    rw [h1 (at_ + i) (by omega) (by show at_ + i < logEnd (at_ + pagesFor p.length) rs; omega)]
    exact h.2.2.1 i hi

theorem laidOn_over (st : Nat → Option By) (ps : Rec) (i : Nat) : laidOn st ps i = (laidOn (fun _ => none) ps i).or (st i) := by
  induction ps generalizing st with
  | nil => simp [laidOn]
  | cons p ps ih =>
    have e : ∀ s : Nat → Option By, laidOn s (p :: ps) = laidOn (fun j => if j = p.1 then some p.2 else s j) ps := fun _ => rfl
    rw [e, e, ih, ih (fun j => if j = p.1 then some p.2 else none)]
    by_cases h : i = p.1
    · simp [h]
    · simp [h]
theorem laidOn_high {nb : Nat} (st : Nat → Option By) (hst : ∀ i, nb ≤ i → st i = none) (ps : Rec) (hps : ∀ p ∈ ps, p.1 < nb) (i : Nat) (hi : nb ≤ i) : laidOn st ps i = none := by
  induction ps generalizing st with
  | nil => exact hst i hi
  | cons p ps ih =>
    have e : laidOn st (p :: ps) = laidOn (fun j => if j = p.1 then some p.2 else st j) ps := rfl
    rw [e]
    refine ih _ (fun j hj => ?_) (fun q hq => hps q (by simp [hq]))
    have := hps p (by simp)
    rw [if_neg (by omega)]
    exact hst j hj

theorem laidP_lt (B : Nat → By) {nx j : Nat} (pg : List By) (h : j < nx) : laidP B nx pg j = B j := by unfold laidP; rw [if_neg (by omega)]
theorem laidP_ge (B : Nat → By) {nx j : Nat} (pg : List By) (h : nx + pg.length ≤ j) : laidP B nx pg j = B j := by
  unfold laidP
  rw [if_pos (by omega), List.getElem?_eq_none (by omega)]
  rfl
theorem laidP_at (B : Nat → By) (nx i K : Nat) (g : Nat → By) (h : i < K) : laidP B nx ((List.range K).map g) (nx + i) = g i := by
  unfold laidP
  rw [if_pos (by omega), show nx + i - nx = i by omega, List.getElem?_map, List.getElem?_range h]
  rfl

/-- A volume: where its parts lie, and what they hold. -/
structure VS where
  v : Nat
  f : Nat
  nf : Nat
  commits : Nat
  turn : Nat
  next : Nat
  F : DataW Value
  fr : Nat → Option By
  d : DS
  recs : List Rec

/-- What a block of the volume is. -/
def VS.cont (s : VS) (i : Nat) : By := (s.fr i).getD (s.d.B (1 + i))

/-- The log is whole. -/
structure Log (s : VS) : Prop where
  fr : s.fr = laidOn (fun _ => none) s.recs.flatten
  nb : ∀ i, nbOf s.d.n ≤ i → s.fr i = none
  len : s.recs.length ≤ s.commits
  head : s.d.B 0 = headB s.turn (s.commits - s.recs.length) s.d.n
  log : LogIs s.d.B s.d.n (nbOf s.d.n) s.turn (1 + nbOf s.d.n) s.recs
  next : s.next = s.d.n ∨ s.next = logEnd (1 + nbOf s.d.n) s.recs
  old : ∀ j, 1 + nbOf s.d.n ≤ j → j < s.d.n → OldB (s.turn + 1) (s.d.B j)
  old2 : ∀ j, logEnd (1 + nbOf s.d.n) s.recs ≤ j → j < s.d.n → OldB s.turn (s.d.B j)

structure VI (w : World) (s : VS) : Prop where
  vol : IsVol w s.v (dp s.d.a) s.commits s.turn s.next (some s.f) s.d.count
  dev : Dev w s.d
  fresh : Fresh w s.f s.nf s.F s.fr
  fm : s.f ≠ s.d.m
  fused : s.d.fused = false
  n16 : 16 ≤ s.d.n
  n200 : s.d.n ≤ 200
  lg : Log s

/-- How much was done. -/
structure Bud (s : VS) (b : Nat) : Prop where
  nf : s.nf ≤ b * 100
  count : s.d.count ≤ b * 1000
  commits : s.commits ≤ b
  turn : s.turn ≤ b + 1

/-- The blocks that a call of the volume may turn. -/
def VS.mine (s : VS) : Nat → Prop := fun k => k = s.v ∨ k = s.f ∨ s.d.mine k

/-- From a state of the volume to a later one. -/
structure Step (w w' : World) (s s' : VS) : Prop where
  v : s'.v = s.v
  near : Near w s.d s'.d
  f : s'.f = s.f ∨ w.heap.size ≤ s'.f
  n : s'.d.n = s.d.n
  but : But s.mine w w'

theorem VI.mapAt {w : World} {s : VS} (h : VI w s) : ∃ es clock, w.heap[s.f]? = some (.map es clock) := by
  obtain ⟨es, clock, hm, _⟩ := h.fresh.own
  exact ⟨es, clock, hm⟩
theorem VI.fmine {w : World} {s : VS} (h : VI w s) : ¬ (s.f = s.v ∨ s.d.mine s.f) := by
  obtain ⟨es, clock, hm⟩ := h.mapAt
  rintro (e | e | e | e)
  · exact map_cells_ne hm h.vol e
  · exact map_cells_ne hm h.dev.dev e
  · obtain ⟨_, hr, _⟩ := h.dev.row; exact map_cells_ne hm hr e
  · exact h.fm e
/-- Cells of other types are none of the volume's. -/
theorem VI.other {w : World} {s : VS} (h : VI w s) {k : Nat} {cs : Array Value} {t : TypeId} {fr : Nat × Nat} (hk : w.heap[k]? = some (.cells cs t fr)) (h1 : t ≠ 106) (h2 : t ≠ 103) (h3 : t ≠ 85) : ¬ s.mine k := by
  rintro (rfl | rfl | hm)
  · have := h.vol; rw [IsVol, hk] at this; simp at this; exact h3 this.2.1
  · obtain ⟨es, clock, hm⟩ := h.mapAt; rw [hm] at hk; cases hk
  · exact h.dev.other hk h1 h2 hm
theorem VI.below {w w' : World} {s : VS} (h : VI w s) (hb : Below w.heap.size w w') : VI w' s :=
  ⟨h.vol.below hb, h.dev.below hb, h.fresh.below hb, h.fm, h.fused, h.n16, h.n200, h.lg⟩

theorem recOf_ok {nb : Nat} {pm : List PutM} (hg : pm.all (goodPut nb) = true) (hl1 : 1 ≤ pm.length) (hl2 : pm.length ≤ nb) : okRec nb (recOf pm) := by
  refine ⟨by simpa [recOf] using hl1, by simpa [recOf] using hl2, fun p hp => ?_⟩
  obtain ⟨x, hx, rfl⟩ := List.mem_map.1 hp
  have := (List.all_eq_true.1 hg) x hx
  unfold goodPut at this
  simp at this
  exact ⟨by omega, this.2⟩

/-- The log behind a commit with room left. -/
theorem Log.room {s : VS} (h : Log s) {rc : Rec} (hrc : okRec (nbOf s.d.n) rc) (hnx : s.next = logEnd (1 + nbOf s.d.n) s.recs) (hfit : s.next + pagesFor rc.length ≤ s.d.n) (ht : s.turn < 10000000) (f nf : Nat) (F : DataW Value) (d : DS) (hn : d.n = s.d.n)
    (hB : d.B = laidP s.d.B s.next ((List.range (pagesFor rc.length)).map fun k => pageB s.turn rc k)) :
    Log ⟨s.v, f, nf, s.commits + 1, s.turn, s.next + pagesFor rc.length, F, laidOn s.fr rc, d, s.recs ++ [rc]⟩ ∧
      ∀ i, i < nbOf s.d.n → VS.cont ⟨s.v, f, nf, s.commits + 1, s.turn, s.next + pagesFor rc.length, F, laidOn s.fr rc, d, s.recs ++ [rc]⟩ i = (laidOn (fun _ => none) rc i).getD (s.cont i) := by
  have hge := logEnd_ge s.recs (1 + nbOf s.d.n)
  have hlen := h.len
  have hlt : ∀ j, j < s.next → d.B j = s.d.B j := fun j hj => by rw [hB, laidP_lt _ _ hj]
  have hat : ∀ i, i < pagesFor rc.length → d.B (s.next + i) = pageB s.turn rc i := fun i hi => by rw [hB, laidP_at _ _ _ _ _ hi]
  have hgt : ∀ j, s.next + pagesFor rc.length ≤ j → d.B j = s.d.B j := fun j hj => by rw [hB, laidP_ge _ _ (by simpa using hj)]
  have h512 : ∀ p ∈ rc, p.2.length = 512 := fun p hp => (hrc.2.2 p hp).2
  constructor
  · refine ⟨?_, ?_, ?_, ?_, ?_, .inr ?_, ?_, ?_⟩
    · show laidOn s.fr rc = laidOn _ (s.recs ++ [rc]).flatten
      rw [List.flatten_append, laidOn_append, ← h.fr]
      simp
    · intro i hi
      exact laidOn_high _ h.nb rc (fun p hp => (hrc.2.2 p hp).1) i (by rw [← hn]; exact hi)
    · show (s.recs ++ [rc]).length ≤ s.commits + 1
      simp; omega
    · show d.B 0 = headB s.turn (s.commits + 1 - (s.recs ++ [rc]).length) d.n
      rw [hlt 0 (by omega), h.head, hn]
      have e : s.commits + 1 - (s.recs ++ [rc]).length = s.commits - s.recs.length := by rw [List.length_append, List.length_singleton]; omega
      rw [e]
    · show LogIs d.B d.n (nbOf d.n) s.turn (1 + nbOf d.n) (s.recs ++ [rc])
      rw [hn]
      refine LogIs.snoc hrc h.log (fun j _ hj => hlt j (by omega)) (by omega) (fun i hi => ?_) (fun hx => ?_)
      · rw [← hnx]; exact hat i hi
      · rw [← hnx, hgt _ (Nat.le_refl _)]
        exact h.old2 _ (by omega) (by omega)
    · show s.next + pagesFor rc.length = logEnd (1 + nbOf d.n) (s.recs ++ [rc])
      rw [logEnd_snoc, hn, hnx]
    · intro j hj hj'
      have hj1 : 1 + nbOf s.d.n ≤ j := by rw [← hn]; exact hj
      have hj2 : j < s.d.n := by rw [← hn]; exact hj'
      show OldB (s.turn + 1) (d.B j)
      by_cases c1 : j < s.next
      · rw [hlt j c1]; exact h.old j hj1 hj2
      · by_cases c2 : s.next + pagesFor rc.length ≤ j
        · rw [hgt j c2]; exact h.old j hj1 hj2
        · rw [show j = s.next + (j - s.next) by omega, hat _ (by omega)]
          exact oldB_page _ (by omega) _ h512 _ (by omega)
    · intro j hj hj'
      have hj1 : logEnd (1 + nbOf s.d.n) (s.recs ++ [rc]) ≤ j := by rw [← hn]; exact hj
      have hj2 : j < s.d.n := by rw [← hn]; exact hj'
      rw [logEnd_snoc] at hj1
      show OldB s.turn (d.B j)
      rw [hgt j (by omega)]
      exact h.old2 j (by omega) hj2
  · intro i hi
    show (laidOn s.fr rc i).getD (d.B (1 + i)) = _
    rw [laidOn_over, hlt (1 + i) (by omega)]
    unfold VS.cont
    cases laidOn (fun _ => none) rc i <;> rfl

/-- The log behind a commit ahead of which it was begun anew. -/
theorem Log.again {s : VS} (h : Log s) {rc : Rec} (hrc : okRec (nbOf s.d.n) rc) (hfit : 1 + nbOf s.d.n + pagesFor rc.length ≤ s.d.n) (ht : s.turn < 10000000) (f nf : Nat) (F : DataW Value) (d3 d : DS) (ha : Anew s.d d3 s.fr s.commits s.turn) (hn : d.n = s.d.n)
    (hB : d.B = laidP d3.B (1 + nbOf s.d.n) ((List.range (pagesFor rc.length)).map fun k => pageB (s.turn + 1) rc k)) :
    Log ⟨s.v, f, nf, s.commits + 1, s.turn + 1, 1 + nbOf s.d.n + pagesFor rc.length, F, laidOn (fun _ => none) rc, d, [rc]⟩ ∧
      ∀ i, i < nbOf s.d.n → VS.cont ⟨s.v, f, nf, s.commits + 1, s.turn + 1, 1 + nbOf s.d.n + pagesFor rc.length, F, laidOn (fun _ => none) rc, d, [rc]⟩ i = (laidOn (fun _ => none) rc i).getD (s.cont i) := by
  have hlt : ∀ j, j < 1 + nbOf s.d.n → d.B j = d3.B j := fun j hj => by rw [hB, laidP_lt _ _ hj]
  have hat : ∀ i, i < pagesFor rc.length → d.B (1 + nbOf s.d.n + i) = pageB (s.turn + 1) rc i := fun i hi => by rw [hB, laidP_at _ _ _ _ _ hi]
  have hgt : ∀ j, 1 + nbOf s.d.n + pagesFor rc.length ≤ j → d.B j = s.d.B j := fun j hj => by
    rw [hB, laidP_ge _ _ (by simpa using hj), ha.B]
    unfold upd homed
    rw [if_neg (by omega), if_pos (by omega), h.nb _ (by omega)]
    rfl
  have h512 : ∀ p ∈ rc, p.2.length = 512 := fun p hp => (hrc.2.2 p hp).2
  constructor
  · refine ⟨?_, ?_, ?_, ?_, ?_, .inr ?_, ?_, ?_⟩
    · show laidOn _ rc = laidOn _ ([rc] : List Rec).flatten
      simp
    · intro i hi
      exact laidOn_high _ (fun _ _ => rfl) rc (fun p hp => (hrc.2.2 p hp).1) i (by rw [← hn]; exact hi)
    · show 1 ≤ s.commits + 1
      omega
    · show d.B 0 = headB (s.turn + 1) (s.commits + 1 - 1) d.n
      rw [hlt 0 (by omega), ha.B, hn]
      simp [upd]
    · show LogIs d.B d.n (nbOf d.n) (s.turn + 1) (1 + nbOf d.n) [rc]
      rw [hn]
      refine ⟨hrc, hfit, hat, hfit, fun hx => ?_⟩
      rw [hgt _ (Nat.le_refl _)]
      exact h.old _ (by omega) hx
    · show _ = logEnd (1 + nbOf d.n) [rc]
      rw [hn]; rfl
    · intro j hj hj'
      have hj1 : 1 + nbOf s.d.n ≤ j := by rw [← hn]; exact hj
      have hj2 : j < s.d.n := by rw [← hn]; exact hj'
      show OldB (s.turn + 1 + 1) (d.B j)
      by_cases c2 : 1 + nbOf s.d.n + pagesFor rc.length ≤ j
      · rw [hgt j c2]; exact (h.old j hj1 hj2).mono (by omega)
      · rw [show j = 1 + nbOf s.d.n + (j - (1 + nbOf s.d.n)) by omega, hat _ (by omega)]
        exact oldB_page _ (by omega) _ h512 _ (by omega)
    · intro j hj hj'
      have hj1 : 1 + nbOf s.d.n + pagesFor rc.length ≤ j := by rw [← hn]; exact hj
      have hj2 : j < s.d.n := by rw [← hn]; exact hj'
      show OldB (s.turn + 1) (d.B j)
      rw [hgt j hj1]
      exact h.old j (by omega) hj2
  · intro i hi
    show (laidOn (fun _ => none) rc i).getD (d.B (1 + i)) = _
    rw [hlt (1 + i) (by omega), ha.B]
    unfold VS.cont upd homed
    rw [if_neg (by omega), if_pos (by omega), show 1 + i - 1 = i by omega]

end Go.Proofs.YtlcojcldbdikgaaGreatDoor

/-
  Commit, Sync, Read and Commits of a volume, over its state.
-/
namespace Go.Proofs.YtlcojcldbdikgaaGreatDoor
open Go.RowKit Go.Maps Go.Sort Go.Shelf

theorem fits_always {n k : Nat} (h1 : 16 ≤ n) (h2 : k ≤ nbOf n) : 1 + nbOf n + pagesFor k ≤ n := by unfold nbOf pagesFor at *; omega

set_option maxRecDepth 8000 in
set_option maxHeartbeats 1000000 in
theorem vCommit_any (q : Option Addr) (pm : List PutM) (c : Nat) (s : VS) (b : Nat) (w : World) (h : VI w s) (ht : Tab w) (hz : Bud s b) (hb : b ≤ 1000)
    (hps : PutsAt w q pm) (hg : pm.all (goodPut (nbOf s.d.n)) = true) (hl1 : 1 ≤ pm.length) (hl2 : pm.length ≤ nbOf s.d.n) :
    Calls Tryz.prog 38 #[dp s.v, .slice q pm.length c] w fun e w' => e = .returned (.int .i64 0) ∧ ∃ s', VI w' s' ∧ Step w w' s s' ∧ Bud s' (b + 1) ∧ s'.commits = s.commits + 1 ∧ ∀ i, i < nbOf s.d.n → s'.cont i = (laidOn (fun _ => none) (recOf pm) i).getD (s.cont i) := by
  have hrc := recOf_ok hg hl1 hl2
  have hrl : (recOf pm).length = pm.length := by simp [recOf]
  have hn200 := h.n200
  have hn16 := h.n16
  have hnb : nbOf s.d.n ≤ 48 := by unfold nbOf; omega
  have hfit := fits_always hn16 hl2
  have hkl := homeKeys_len s.fr (nbOf s.d.n)
  obtain ⟨z1, z2, z3, z4⟩ := hz
  have hlen := h.lg.len
  by_cases hroom : s.next + pagesFor pm.length ≤ s.d.n
  · have hnx : s.next = logEnd (1 + nbOf s.d.n) s.recs := by
      rcases h.lg.next with e | e
      · have := pagesFor_pos pm.length; omega
      · exact e
    obtain ⟨es, clock, hm⟩ := h.mapAt
    have hflt := (Array.getElem?_eq_some_iff.1 hm).1
    refine (vCommit_core q pm c s.v s.commits s.turn s.next s.f (fun d' T NX nf' fr' => T = s.turn ∧ NX = s.next + pagesFor pm.length ∧ nf' = s.nf ∧ fr' = s.fr ∧ d'.B = laidP s.d.B s.next ((List.range (pagesFor pm.length)).map fun k => pageB s.turn (recOf pm) k) ∧ d'.count = s.d.count + pagesFor pm.length) s.d w h.vol h.dev hn16 hps hg hl1 hl2 (by omega) h.fused ?_).mono ?_
    · intro W hW
      have hI := h.below hW
      have hmW : W.heap[s.f]? = some (.map es clock) := (hW.block _ hflt).trans hm
      refine (write_room q pm c s.v s.commits s.turn s.next s.f es clock s.d.count s.d W hI.vol hI.dev (below_tab hW ht.lt ht) hn16 (hps.but (But.of_below (S := fun _ => False) hW) (fun k cs t fr hk ht => not_false)) hg hl2 hroom hmW h.fm (by omega) h.fused (by omega)).mono ?_
      rintro e w' ⟨rfl, d', hR⟩
      refine ⟨rfl, d', s.turn, _, s.f, s.nf, s.d.count, s.F, s.fr, ⟨hR.vol, hI.fresh.but hR.but hI.fmine (fun k cs fr hk => away hI.vol hI.dev hk (by decide) (by decide) (by decide)), by omega, hR.fm, .inl rfl, hR.dev, hR.n, hR.fused, hR.near, hR.but⟩, rfl, rfl, rfl, rfl, hR.B, hR.count⟩
    · rintro e w' ⟨rfl, d', T, NX, f', nf', F', fr', hC, rfl, rfl, rfl, rfl, hB, hcnt⟩
      rw [← hrl] at hB
      obtain ⟨hlog, hcont⟩ := h.lg.room hrc hnx (by rw [hrl]; exact hroom) (by omega) f' (s.nf + pm.length) F' d' hC.n hB
      rw [hrl] at hlog hcont
      refine ⟨rfl, ⟨s.v, f', s.nf + pm.length, s.commits + 1, s.turn, s.next + pagesFor pm.length, F', laidOn s.fr (recOf pm), d', s.recs ++ [recOf pm]⟩, ⟨?_, hC.dev, hC.fresh, hC.fm, hC.fused.trans h.fused, by rw [hC.n]; exact hn16, by rw [hC.n]; exact hn200, hlog⟩, ⟨rfl, hC.near, hC.new, hC.n, hC.but⟩, ⟨?_, ?_, ?_, ?_⟩, rfl, hcont⟩
      · have := hC.vol
        rw [← hC.near.a] at this
        exact this
      · show s.nf + pm.length ≤ _
        omega
      · show d'.count ≤ _
        have : pagesFor pm.length ≤ 200 := by omega
        omega
      · show s.commits + 1 ≤ _
        omega
      · show s.turn ≤ _
        omega
  · refine (vCommit_core q pm c s.v s.commits s.turn s.next s.f (fun d' T NX nf' fr' => T = s.turn + 1 ∧ NX = 1 + nbOf s.d.n + pagesFor pm.length ∧ nf' = 0 ∧ fr' = (fun _ => none) ∧ ∃ d3, Anew s.d d3 s.fr s.commits s.turn ∧ d'.B = laidP d3.B (1 + nbOf s.d.n) ((List.range (pagesFor pm.length)).map fun k => pageB (s.turn + 1) (recOf pm) k) ∧ d'.count = d3.count + pagesFor pm.length) s.d w h.vol h.dev hn16 hps hg hl1 hl2 (by omega) h.fused ?_).mono ?_
    · intro W hW
      have hI := h.below hW
      have hnext : s.next ≤ s.d.n := by
        rcases h.lg.next with e | e
        · omega
        · rw [e]; exact h.lg.log.endLe
      refine (write_anew q pm c s.v s.commits s.turn s.next s.f (s.turn + 1) (1 + nbOf s.d.n) s.d.count 0 (fun d3 => Anew s.d d3 s.fr s.commits s.turn) s.d W hI.vol hI.dev (below_tab hW ht.lt ht) hn16 (hps.but (But.of_below (S := fun _ => False) hW) (fun k cs t fr hk ht => not_false)) hg hl2 (by omega) hnext hfit (by omega) h.fused ?_).mono ?_
      · intro w2 hB2
        have hI2 := hI.below hB2
        have htW := below_tab hW ht.lt ht
        exact restart_any s.v s.commits s.turn s.next s.f s.nf s.d.count s.F s.fr s.d w2 hI2.vol hI2.dev (below_tab hB2 htW.lt htW) hn16 hI2.fresh h.fm h.lg.nb (by omega) (by omega) (by omega) h.fused (by omega)
      · rintro e w' ⟨rfl, d3, d', f', ⟨hnew, hA⟩, hR⟩
        exact ⟨rfl, d', s.turn + 1, _, f', 0, 0, .map [], fun _ => none, ⟨hR.vol, Fresh.empty hR.map, by omega, hR.fm, .inr hnew, hR.dev, hR.n, hR.fused, hR.near, hR.but⟩, rfl, rfl, rfl, rfl, d3, hA, hR.B, hR.count⟩
    · rintro e w' ⟨rfl, d', T, NX, f', nf', F', fr', hC, rfl, rfl, rfl, rfl, d3, hA, hB, hcnt⟩
      rw [← hrl] at hB
      obtain ⟨hlog, hcont⟩ := h.lg.again hrc (by rw [hrl]; exact hfit) (by omega) f' (0 + pm.length) F' d3 d' hA hC.n hB
      rw [hrl] at hlog hcont
      have hAc := hA.count
      refine ⟨rfl, ⟨s.v, f', 0 + pm.length, s.commits + 1, s.turn + 1, 1 + nbOf s.d.n + pagesFor pm.length, F', laidOn (fun _ => none) (recOf pm), d', [recOf pm]⟩, ⟨?_, hC.dev, hC.fresh, hC.fm, hC.fused.trans h.fused, by rw [hC.n]; exact hn16, by rw [hC.n]; exact hn200, hlog⟩, ⟨rfl, hC.near, hC.new, hC.n, hC.but⟩, ⟨?_, ?_, ?_, ?_⟩, rfl, hcont⟩
      · have := hC.vol
        rw [← hC.near.a] at this
        exact this
      · show 0 + pm.length ≤ _
        omega
      · show d'.count ≤ _
        have : pagesFor pm.length ≤ 200 := by omega
        omega
      · show s.commits + 1 ≤ _
        omega
      · show s.turn + 1 ≤ _
        omega

/-- Read of a block. -/
theorem vRead_any (i : Nat) (s : VS) (w : World) (h : VI w s) (hi : i < nbOf s.d.n) :
    Calls Tryz.prog 21 #[dp s.v, .int .i64 i] w fun e w' => ∃ g cp, e = .returned (.tuple #[.slice (some ⟨g, 0, none⟩) 512 cp, .int .i64 0]) ∧ (s.cont i).length = 512 ∧ Bytes w' (some ⟨g, 0, none⟩) (s.cont i) ∧ Below w.heap.size w w' := by
  cases hf : s.fr i with
  | none =>
    have hl : (s.d.B (1 + i)).length = 512 := h.dev.len _ (by have := h.n16; unfold nbOf at hi; omega)
    refine (vRead_home i s.v s.commits s.turn s.next s.f s.nf s.F s.fr s.d w h.vol h.dev h.n16 h.fresh hi hf).mono ?_
    rintro e w' ⟨g, rfl, hb, hB, _⟩
    have e : s.cont i = s.d.B (1 + i) := by unfold VS.cont; rw [hf]; rfl
    rw [e]
    exact ⟨g, 512, rfl, hl, hb, hB⟩
  | some b =>
    refine (vRead_fresh i b s.v s.commits s.turn s.next s.f s.nf s.F s.fr s.d w h.vol h.dev h.n16 h.fresh hi hf).mono ?_
    rintro e w' ⟨g, cp, rfl, _, hl, hb, hB, _⟩
    have e : s.cont i = b := by unfold VS.cont; rw [hf]; rfl
    rw [e]
    exact ⟨g, cp, rfl, hl, hb, hB⟩

end Go.Proofs.YtlcojcldbdikgaaGreatDoor

/-
  A heap of keys: what a step up and a step down keep.
-/
namespace Go.Proofs.YtlcojcldbdikgaaGreatDoor

def par (k : Nat) : Nat := (k - 1) / 2
/-- The keys f of the first n places make a heap. -/
def HeapF (f : Nat → Nat) (n : Nat) : Prop := ∀ k, 0 < k → k < n → f (par k) ≤ f k
/-- But for the way to place j from above. -/
def UpOk (f : Nat → Nat) (n j : Nat) : Prop := (∀ k, 0 < k → k < n → k ≠ j → f (par k) ≤ f k) ∧ ∀ k, 0 < k → k < n → par k = j → 0 < j → f (par j) ≤ f k
/-- But for the ways to and from place i. -/
def FixOk (f : Nat → Nat) (n i : Nat) : Prop := (∀ k, 0 < k → k < n → k ≠ i → par k ≠ i → f (par k) ≤ f k) ∧ ∀ k, 0 < k → k < n → par k = i → 0 < i → f (par i) ≤ f k
/-- Two places' keys change places. -/
def swF (f : Nat → Nat) (i j : Nat) : Nat → Nat := fun k => if k = j then f i else if k = i then f j else f k

theorem par_lt {k : Nat} (h : 0 < k) : par k < k := by unfold par; omega
theorem swF_j (f : Nat → Nat) (i j : Nat) : swF f i j j = f i := by simp [swF]
theorem swF_i (f : Nat → Nat) (i j : Nat) (h : i ≠ j) : swF f i j i = f j := by simp [swF, h]
theorem swF_o (f : Nat → Nat) (i j k : Nat) (h1 : k ≠ i) (h2 : k ≠ j) : swF f i j k = f k := by simp [swF, h1, h2]

theorem UpOk.step {f : Nat → Nat} {n j : Nat} (h : UpOk f n j) (hj : 0 < j) (hn : j < n) (hlt : f j < f (par j)) : UpOk (swF f (par j) j) n (par j) := by
  obtain ⟨h1, h2⟩ := h
  have hp := par_lt hj
  refine ⟨fun k k0 kn ki => ?_, fun k k0 kn kp i0 => ?_⟩
  · by_cases e1 : k = j
    · subst e1
      rw [swF_i _ _ _ (by omega), swF_j]; omega
    · rw [swF_o f _ _ k ki e1]
      by_cases e2 : par k = j
      · rw [e2, swF_j]; exact h2 k k0 kn e2 hj
      · by_cases e3 : par k = par j
        · rw [e3, swF_i _ _ _ (by omega)]
          have := h1 k k0 kn e1
          rw [e3] at this; omega
        · rw [swF_o f _ _ _ e3 e2]; exact h1 k k0 kn e1
  · have hpp := par_lt i0
    rw [swF_o f _ _ (par (par j)) (by omega) (by omega)]
    have hi := h1 (par j) i0 (by omega) (by omega)
    by_cases e1 : k = j
    · subst e1; rw [swF_j]; exact hi
    · have hk := par_lt k0
      rw [swF_o f _ _ k (by omega) e1]
      have := h1 k k0 kn e1
      rw [kp] at this; omega
theorem UpOk.done {f : Nat → Nat} {n j : Nat} (h : UpOk f n j) (hd : j = 0 ∨ f (par j) ≤ f j) : HeapF f n := by
  intro k k0 kn
  by_cases e : k = j
  · subst e
    rcases hd with hd | hd
    · omega
    · exact hd
  · exact h.1 k k0 kn e
theorem par_child {i k : Nat} (h : par k = i) (h0 : 0 < k) : k = 2 * i + 1 ∨ k = 2 * i + 2 := by unfold par at h; omega
theorem FixOk.step {f : Nat → Nat} {n i j : Nat} (h : FixOk f n i) (hj : par j = i) (hj0 : 0 < j) (hn : j < n) (hlt : f j < f i) (hmin : ∀ k, 0 < k → k < n → par k = i → f j ≤ f k) :
    FixOk (swF f i j) n j ∧ swF f i j (par j) ≤ swF f i j j := by
  obtain ⟨h1, h2⟩ := h
  have hp := par_lt hj0
  refine ⟨⟨fun k k0 kn kj kpj => ?_, fun k k0 kn kp _ => ?_⟩, ?_⟩
  · have hk := par_lt k0
    by_cases e1 : k = i
    · subst e1
      rw [swF_i _ _ _ (by omega), swF_o f _ _ (par k) (by omega) kpj]
      exact h2 j hj0 hn hj (by omega)
    · rw [swF_o f _ _ k e1 kj]
      by_cases e2 : par k = i
      · rw [e2, swF_i _ _ _ (by omega)]; exact hmin k k0 kn e2
      · rw [swF_o f _ _ _ e2 kpj]; exact h1 k k0 kn e1 e2
  · have hk := par_lt k0
    rw [hj, swF_i _ _ _ (by omega), swF_o f _ _ k (by omega) (by omega)]
    have := h1 k k0 kn (by omega) (by omega)
    rw [kp] at this; exact this
  · rw [hj, swF_i _ _ _ (by omega), swF_j]; omega
theorem FixOk.stay {f : Nat → Nat} {n i : Nat} (h : FixOk f n i) (hd : ∀ k, 0 < k → k < n → par k = i → f i ≤ f k) : UpOk f n i := by
  refine ⟨fun k k0 kn ki => ?_, h.2⟩
  by_cases e : par k = i
  · rw [e]; exact hd k k0 kn e
  · exact h.1 k k0 kn ki e
theorem HeapF.least {f : Nat → Nat} {n : Nat} (h : HeapF f n) : ∀ k, k < n → f 0 ≤ f k := by
  intro k
  induction k using Nat.strongRecOn with
  | _ k ih =>
    intro hk
    by_cases e : k = 0
    · rw [e]; exact Nat.le_refl _
    · have hp := par_lt (show 0 < k by omega)
      exact Nat.le_trans (ih (par k) hp (by omega)) (h k (by omega) hk)
/-- One key was changed. -/
theorem HeapF.fix {f g : Nat → Nat} {m n i : Nat} (h : HeapF f m) (hnm : n ≤ m) (hi : i < m) (hg : ∀ k, k < n → k ≠ i → g k = f k) : FixOk g n i := by
  refine ⟨fun k k0 kn ki kp => ?_, fun k k0 kn kp i0 => ?_⟩
  · have hk := par_lt k0
    rw [hg k kn ki, hg (par k) (by omega) kp]; exact h k k0 (by omega)
  · have hk := par_lt k0
    have hp := par_lt i0
    rw [hg k kn (by omega), hg (par i) (by omega) (by omega)]
    have a := h k k0 (by omega)
    rw [kp] at a
    exact Nat.le_trans (h i i0 hi) a
theorem HeapF.push {f g : Nat → Nat} {n : Nat} (h : HeapF f n) (hg : ∀ k, k < n → g k = f k) : UpOk g (n + 1) n := by
  refine ⟨fun k k0 kn ki => ?_, fun k k0 kn kp i0 => ?_⟩
  · have hk := par_lt k0
    rw [hg k (by omega), hg (par k) (by omega)]; exact h k k0 (by omega)
  · rcases par_child kp k0 with e | e <;> omega
theorem HeapF.less {f g : Nat → Nat} {m n : Nat} (h : HeapF f m) (hnm : n ≤ m) (hg : ∀ k, k < n → g k = f k) : HeapF g n := by
  intro k k0 kn
  have hk := par_lt k0
  rw [hg k kn, hg (par k) (by omega)]; exact h k k0 (by omega)

/-- Two places of a list change places. -/
def swapL (I : List Nat) (i j : Nat) : List Nat := (I.set i (I.getD j 0)).set j (I.getD i 0)
def kvOf (key : Nat → Nat) (I : List Nat) : Nat → Nat := fun k => key (I.getD k 0)
theorem swapL_length (I : List Nat) (i j : Nat) : (swapL I i j).length = I.length := by simp [swapL]
theorem swapL_getD (I : List Nat) (i j k : Nat) (hi : i < I.length) (hj : j < I.length) : (swapL I i j).getD k 0 = if k = j then I.getD i 0 else if k = i then I.getD j 0 else I.getD k 0 := by
  unfold swapL
  simp only [List.getD_eq_getElem?_getD, List.getElem?_set, List.length_set]
  by_cases e1 : k = j
  · subst e1; simp [hj]
  · by_cases e2 : k = i
    · subst e2; simp [hi, Ne.symm e1, e1]
    · simp [Ne.symm e1, Ne.symm e2, e1, e2]
theorem kvOf_swap (key : Nat → Nat) (I : List Nat) (i j : Nat) (hi : i < I.length) (hj : j < I.length) : kvOf key (swapL I i j) = swF (kvOf key I) i j := by
  funext k
  unfold kvOf swF
  rw [swapL_getD I i j k hi hj]
  split
  · rfl
  · split <;> rfl
theorem swapL_perm (I : List Nat) (i j : Nat) (hi : i < I.length) (hj : j < I.length) : (swapL I i j).Perm I := by
  unfold swapL
  have e1 : I.getD j 0 = I[j] := by simp [List.getD, hj]
  have e2 : I.getD i 0 = I[i] := by simp [List.getD, hi]
  rw [e1, e2]
  exact List.set_set_perm hi hj
end Go.Proofs.YtlcojcldbdikgaaGreatDoor

namespace Go.Proofs.YtlcojcldbdikgaaGreatDoor
open Go.RowKit Go.Maps

/-- What an entry holds, but for its place in the heap. -/
structure EV where
  block : Nat
  p : Option Addr
  n : Nat
  cp : Nat
  pins : Nat
  dirty : Bool
  used : Nat

def entCells (e : EV) (at_ : Int) : Array Value :=
  #[.int .i64 e.block, .slice e.p e.n e.cp, .int .i64 e.pins, .bool e.dirty, .int .i64 e.used, .int .i64 at_]
def IsEnt (w : World) (a : Nat) (e : EV) (at_ : Int) : Prop := w.heap[a]? = some (.cells (entCells e at_) 64 (0, 0))
abbrev ep (a : Nat) : Value := .pointer (some ⟨a, 0, none⟩)

/-- A cache's cells, but for its heap. -/
structure CK where
  v : Value
  room : Value
  held : Value
  dirty : Value
  uses : Value
  met : Value
  missed : Value
  out : Value
def CK.cells (k : CK) (iv : Value) : Array Value := #[k.v, k.room, k.held, k.dirty, iv, k.uses, k.met, k.missed, k.out]

/-- The heap's row and its entries. -/
structure HP (w : World) (c : Nat) (k : CK) (p : Option Addr) (cap : Nat) (I : List Nat) (U : Nat → EV) : Prop where
  cell : w.heap[c]? = some (.cells (k.cells (.slice p I.length cap)) 57 (0, 0))
  row : w.ownsRow 0 58 1 (.slice p I.length cap) I.length (I.map ep)
  ents : ∀ k, k < I.length → IsEnt w (I.getD k 0) (U (I.getD k 0)) k
  nodup : I.Nodup
  len : I.length < 1000000
  used : ∀ a, (U a).used < 1000000000

theorem HP.form {w : World} {c : Nat} {ck : CK} {p : Option Addr} {cap : Nat} {I : List Nat} {U : Nat → EV} (h : HP w c ck p cap I U) (hn : 0 < I.length) :
    ∃ g cur, p = some ⟨g, 0, none⟩ ∧ w.heap[g]? = some (.cells cur 58 (0, 0)) ∧ I.length ≤ cap ∧ cap ≤ maxLen ∧ cur.size = cap ∧ cur.toList.take I.length = I.map ep := by
  rcases h.row.2 with ⟨e, h0⟩ | ⟨g, cap', cur, e, _, hb, h1, h2, h3, h4⟩
  · omega
  · cases e
    rw [Nat.mul_one] at h3 h4
    exact ⟨g, cur, rfl, hb, h1, h2, h3, h4⟩
theorem HP.cellAt {w : World} {c : Nat} {ck : CK} {g cap : Nat} {I : List Nat} {U : Nat → EV} (h : HP w c ck (some ⟨g, 0, none⟩) cap I U) (k : Nat) (hk : k < I.length) : w.cell? ⟨g, k, none⟩ = some (ep (I.getD k 0)) := by
  rw [h.row.cellAt k (by simpa using hk), List.getElem?_map, List.getElem?_eq_getElem hk]
  simp [List.getD, hk]
theorem HP.usedAt {w : World} {c : Nat} {ck : CK} {p : Option Addr} {cap : Nat} {I : List Nat} {U : Nat → EV} (h : HP w c ck p cap I U) (k : Nat) (hk : k < I.length) : w.cell? ⟨I.getD k 0, 4, none⟩ = some (.int .i64 (U (I.getD k 0)).used) := by
  have := cellOf (h.ents k hk) 4
  simpa [entCells] using this

set_option maxRecDepth 8000 in
set_option maxHeartbeats 400000 in
theorem iLen_any (p : Option Addr) (n cap : Nat) (w : World) :
    Calls Tryz.prog 164 #[.slice p n cap] w fun e w' => e = .returned (.int .i64 n) ∧ w' = w := by
  go_enter Tryz.func164, Tryz.ntmps164
  go_wp2
  go_ret
  exact ⟨rfl, rfl⟩

set_option maxRecDepth 8000 in
set_option maxHeartbeats 1000000 in
theorem iLess_any (c : Nat) (ck : CK) (p : Option Addr) (cap : Nat) (I : List Nat) (U : Nat → EV) (i j : Nat) (w : World) (h : HP w c ck p cap I U) (hi : i < I.length) (hj : j < I.length) :
    Calls Tryz.prog 165 #[.slice p I.length cap, .int .i64 i, .int .i64 j] w fun e w' => e = .returned (.bool (decide ((U (I.getD i 0)).used < (U (I.getD j 0)).used))) ∧ ∃ q, w' = w.drewN q := by
  obtain ⟨g, cur, rfl, hb, h1, h2, h3, h4⟩ := h.form (by omega)
  have c1 := h.cellAt i hi
  have c2 := h.cellAt j hj
  have c3 := h.usedAt i hi
  have c4 := h.usedAt j hj
  have hlen := h.len
  have b1 : (0 : Int) ≤ (i : Int) := by omega
  have b2 : (0 : Int) ≤ (j : Int) := by omega
  have b3 : (i : Int) < (I.length : Int) := by omega
  have b4 : (j : Int) < (I.length : Int) := by omega
  generalize I.getD i 0 = x at *
  generalize I.getD j 0 = y at *
  generalize (U x).used = ux at *
  generalize (U y).used = uy at *
  clear h hb h1 h2 h3 h4
  go_enter Tryz.func165, Tryz.ntmps165
  go_wp2_with fail
  go_quiet (fail)
  go_wp2
  go_ret
  exact ⟨by simp, _, rfl⟩

theorem apart_tags {W : World} {g g' : Nat} {cs cs' : Array Value} {t t' : TypeId} {fr fr' : Nat × Nat} (h : W.heap[g]? = some (.cells cs t fr)) (h' : W.heap[g']? = some (.cells cs' t' fr')) (ht : t ≠ t') : g ≠ g' := by
  rintro rfl
  rw [h] at h'
  simp only [Option.some.injEq, Obj.cells.injEq] at h'
  exact ht h'.2.1
theorem IsEnt.setAt {w : World} {a : Nat} {e : EV} {x : Int} (h : IsEnt w a e x) (y : Int) : IsEnt (w.setCell ⟨a, 5, none⟩ (.int .i64 y)) a e y := by
  unfold IsEnt at *
  rw [heap_setCell_same w a 5 _ _ _ h]
  rfl
theorem IsEnt.other {w : World} {a : Nat} {e : EV} {x : Int} (h : IsEnt w a e x) (p : Addr) (hp : a ≠ p.block) (v : Value) : IsEnt (w.setCell p v) a e x := by
  unfold IsEnt at *
  rw [heap_setCell_other w p a v hp]
  exact h
theorem getD_mem {I : List Nat} {k : Nat} (h : k < I.length) : I.getD k 0 ∈ I := by
  simp [List.getD, h]
theorem getD_inj {I : List Nat} (hn : I.Nodup) {i j : Nat} (hi : i < I.length) (hj : j < I.length) (h : I.getD i 0 = I.getD j 0) : i = j := by
  simp [List.getD, hi, hj] at h
  exact (List.getElem_inj hn).1 h
theorem HP.drew {w : World} {c : Nat} {ck : CK} {p : Option Addr} {cap : Nat} {I : List Nat} {U : Nat → EV} (h : HP w c ck p cap I U) : HP w.drew c ck p cap I U := ⟨h.cell, h.row, h.ents, h.nodup, h.len, h.used⟩
theorem HP.drewN {w : World} {c : Nat} {ck : CK} {p : Option Addr} {cap : Nat} {I : List Nat} {U : Nat → EV} (h : HP w c ck p cap I U) (q : Nat) : HP (w.drewN q) c ck p cap I U := ⟨h.cell, h.row, h.ents, h.nodup, h.len, h.used⟩

theorem HP.swap {w : World} {c g cap : Nat} {ck : CK} {I : List Nat} {U : Nat → EV} (h : HP w c ck (some ⟨g, 0, none⟩) cap I U) {i j : Nat} (hi : i < I.length) (hj : j < I.length) (hij : i ≠ j) :
    HP ((((w.setCell ⟨g, i, none⟩ (ep (I.getD j 0))).setCell ⟨g, j, none⟩ (ep (I.getD i 0))).setCell ⟨I.getD j 0, 5, none⟩ (.int .i64 (i : Nat))).setCell ⟨I.getD i 0, 5, none⟩ (.int .i64 (j : Nat))) c ck (some ⟨g, 0, none⟩) cap (swapL I i j) U := by
  obtain ⟨g', cur, e, hb, h1, h2, h3, h4⟩ := h.form (by omega)
  cases e
  have hc := h.cell
  have hx := h.ents i hi
  have hy := h.ents j hj
  have hxy : I.getD i 0 ≠ I.getD j 0 := fun e => hij (getD_inj h.nodup hi hj e)
  have gx : g ≠ I.getD i 0 := apart_tags hb hx (by decide)
  have gy : g ≠ I.getD j 0 := apart_tags hb hy (by decide)
  have cg : c ≠ g := apart_tags hc hb (by decide)
  have cx : c ≠ I.getD i 0 := apart_tags hc hx (by decide)
  have cy : c ≠ I.getD j 0 := apart_tags hc hy (by decide)
  refine ⟨?_, ?_, fun k hk => ?_, (swapL_perm I i j hi hj).nodup_iff.2 h.nodup, by rw [swapL_length]; exact h.len, h.used⟩
  · rw [heap_setCell_other _ _ _ _ cx, heap_setCell_other _ _ _ _ cy, heap_setCell_other _ _ _ _ cg, heap_setCell_other _ _ _ _ cg, swapL_length]
    exact hc
  · refine ⟨by simp, .inr ⟨g, cap, (cur.setIfInBounds i (ep (I.getD j 0))).setIfInBounds j (ep (I.getD i 0)), by rw [swapL_length], Nat.zero_le _, ?_, by rw [swapL_length]; exact h1, h2, by simp [h3], ?_⟩⟩
    · rw [heap_setCell_other _ _ _ _ gx, heap_setCell_other _ _ _ _ gy]
      have e1 := heap_setCell_same w g i cur 58 (ep (I.getD j 0)) hb
      exact heap_setCell_same _ g j _ 58 (ep (I.getD i 0)) e1
    · rw [swapL_length, Nat.mul_one, Array.toList_setIfInBounds, Array.toList_setIfInBounds, List.take_set, List.take_set, h4]
      unfold swapL
      rw [List.map_set, List.map_set]
  · rw [swapL_length] at hk
    rw [swapL_getD I i j k hi hj]
    by_cases e1 : k = j
    · subst e1
      rw [if_pos rfl]
      refine IsEnt.setAt (x := (i : Nat)) (IsEnt.other (IsEnt.other (IsEnt.other hx _ (Ne.symm gx) _) _ (Ne.symm gx) _) _ hxy _) _
    · rw [if_neg e1]
      by_cases e2 : k = i
      · subst e2
        rw [if_pos rfl]
        exact IsEnt.other (IsEnt.setAt (IsEnt.other (IsEnt.other hy _ (Ne.symm gy) _) _ (Ne.symm gy) _) _) _ (Ne.symm hxy) _
      · rw [if_neg e2]
        have hz := h.ents k hk
        have gz : g ≠ I.getD k 0 := apart_tags hb hz (by decide)
        exact IsEnt.other (IsEnt.other (IsEnt.other (IsEnt.other hz _ (Ne.symm gz) _) _ (Ne.symm gz) _) _ (fun e => e1 (getD_inj h.nodup hk hj e)) _) _ (fun e => e2 (getD_inj h.nodup hk hi e)) _

/-- The blocks that the heap's methods may turn. -/
def hpMine (p : Option Addr) (I : List Nat) : Nat → Prop := fun k => p.map Addr.block = some k ∨ k ∈ I

set_option maxRecDepth 8000 in
set_option maxHeartbeats 2000000 in
theorem iSwap_any (c : Nat) (ck : CK) (p : Option Addr) (cap : Nat) (I : List Nat) (U : Nat → EV) (i j : Nat) (w : World) (h : HP w c ck p cap I U) (hi : i < I.length) (hj : j < I.length) (hij : i ≠ j) :
    Calls Tryz.prog 166 #[.slice p I.length cap, .int .i64 i, .int .i64 j] w fun e w' => e = .returned (.tuple #[]) ∧ HP w' c ck p cap (swapL I i j) U ∧ But (hpMine p I) w w' := by
  obtain ⟨g, cur, rfl, hb, h1, h2, h3, h4⟩ := h.form (by omega)
  have c1 := h.cellAt i hi
  have c2 := h.cellAt j hj
  have hx := h.ents i hi
  have hy := h.ents j hj
  have c3 : w.cell? ⟨I.getD i 0, 5, none⟩ = some (.int .i64 (i : Nat)) := by rw [cellOf hx 5]; rfl
  have c4 : w.cell? ⟨I.getD j 0, 5, none⟩ = some (.int .i64 (j : Nat)) := by rw [cellOf hy 5]; rfl
  have f1 := frozenOf hb i
  have f2 := frozenOf hb j
  have f3 := frozenOf hx 5
  have f4 := frozenOf hy 5
  have hxy : I.getD i 0 ≠ I.getD j 0 := fun e => hij (getD_inj h.nodup hi hj e)
  have gx : g ≠ I.getD i 0 := apart_tags hb hx (by decide)
  have gy : g ≠ I.getD j 0 := apart_tags hb hy (by decide)
  have hlen := h.len
  have b1 : (0 : Int) ≤ (i : Int) := by omega
  have b2 : (0 : Int) ≤ (j : Int) := by omega
  have b3 : (i : Int) < (I.length : Int) := by omega
  have b4 : (j : Int) < (I.length : Int) := by omega
  have hS := h.swap hi hj hij
  have mx : I.getD i 0 ∈ I := getD_mem hi
  have my : I.getD j 0 ∈ I := getD_mem hj
  have HS : Hid (HP ((((w.setCell ⟨g, i, none⟩ (ep (I.getD j 0))).setCell ⟨g, j, none⟩ (ep (I.getD i 0))).setCell ⟨I.getD j 0, 5, none⟩ (.int .i64 (i : Nat))).setCell ⟨I.getD i 0, 5, none⟩ (.int .i64 (j : Nat))) c ck (some ⟨g, 0, none⟩) cap (swapL I i j) U ∧ I.getD i 0 ∈ I ∧ I.getD j 0 ∈ I) := ⟨hS, mx, my⟩
  generalize I.getD i 0 = x at *
  generalize I.getD j 0 = y at *
  have hyx : y ≠ x := Ne.symm hxy
  have hji : j ≠ i := Ne.symm hij
  have gx' : x ≠ g := Ne.symm gx
  have gy' : y ≠ g := Ne.symm gy
  clear h hb h1 h2 h3 h4 hx hy hS mx my
  go_enter Tryz.func166, Tryz.ntmps166
  go_wp2_with fail
  go_region
  all_goals go_wp2_with fail
  all_goals go_region
  all_goals go_wp2_with fail
  go_end0
  refine ⟨rfl, HS.out.1.drew.drew, ?_⟩
  have hS := HS.out
  exact ((((((But.refl _ _).setCell _ (.inl rfl) _).setCell _ (.inl rfl) _).setCell _ (.inr hS.2.2) _).setCell _ (.inr hS.2.1) _).drew).drew

end Go.Proofs.YtlcojcldbdikgaaGreatDoor
