/-
  Volume of the law of package bcache.
-/
import Derived.Test.YtebdgcoandfocaaGreatDoorQBhp
import Derived.Test.YtebdgcoandfocaaGreatDoorProg
import Derived.Test.YtebdgcoandfocaaGreatDoorKWfresh
import Derived.Maps.Ext
import Derived.Deep.AppendLies
import Derived.Lib.SlBytesConst

/-
  Put of package bcache.
-/
namespace Go.Proofs.YtebdgcoandfocaaGreatDoor
open Go.RowKit Go.Maps Go.Sort Go.Shelf

/-- One more at the end of the row of what is dirty. -/
theorem cm_dirty {w w1 : World} {s : CS} {a : Nat} {p' : Option Addr} {cap' : Nat} {o : Obj} (h : CM w s)
    (hown : w1.ownsRow 0 148 1 (.slice p' (s.D.length + 1) cap') (s.D.length + 1) (s.D.map ep ++ [ep a])) (hg : (w.alloc o).grownBy w1 (Value.slice s.dq s.D.length s.dcap).ownBlock)
    (hpl : (Value.slice p' (s.D.length + 1) cap').ownBlock = (Value.slice s.dq s.D.length s.dcap).ownBlock ∨ (Value.slice p' (s.D.length + 1) cap').ownBlock = some (w.heap.size + 1)) :
    w1.heap[s.c]? = some (.cells (s.ck.cells (.slice s.ip s.I.length s.icap)) 91 (0, 0)) ∧ CM (w1.setCell ⟨s.c, 3, none⟩ (.slice p' (s.D.length + 1) cap')) { s with D := s.D ++ [a], dq := p', dcap := cap' } ∧ But (cMine w s.h) w (w1.setCell ⟨s.c, 3, none⟩ (.slice p' (s.D.length + 1) cap')) := by
  have hl : (s.D ++ [a]).length = s.D.length + 1 := by simp
  have row2 := own0_alloc h.row o
  have dqb : ∀ g, (Value.slice s.dq s.D.length s.dcap).ownBlock = some g → s.dq.map Addr.block = some g := fun g hg => by
    cases hq : s.dq with
    | none => rw [hq] at hg; simp [Value.ownBlock] at hg
    | some a' => rw [hq] at hg; simpa [Value.ownBlock] using hg
  have keep : ∀ (k : Nat) ob, w.heap[k]? = some ob → (∀ cs t fr, ob = .cells cs t fr → t = 148 → s.dq.map Addr.block ≠ some k) → (s.dq.map Addr.block = some k → ∃ cs t fr, ob = .cells cs t fr) → w1.heap[k]? = some ob := by
    intro k ob hk ht hcell
    have hk2 : (w.alloc o).heap[k]? = some ob := (Below.heap_alloc _ o k (Array.getElem?_eq_some_iff.1 hk).1).trans hk
    refine (hg.block k (Array.getElem?_eq_some_iff.1 hk2).1 (fun e => ?_)).trans hk2
    have e1 := dqb k e.symm
    obtain ⟨cs, t, fr, rfl⟩ := hcell e1
    exact ht cs t fr rfl (own_tagT row2 e.symm hk2) e1
  have keepC : ∀ (k : Nat) cs t, w.heap[k]? = some (.cells cs t (0, 0)) → t ≠ 148 → w1.heap[k]? = some (.cells cs t (0, 0)) := fun k cs t hk ht => keep k _ hk (fun _ _ _ e h2 => by cases e; exact absurd h2 ht) (fun _ => ⟨_, _, _, rfl⟩)
  have hc1 := keepC s.c _ _ h.hp.cell (by decide)
  have hne : ∀ {k : Nat} {cs : Array Value} {t : TypeId}, w1.heap[k]? = some (.cells cs t (0, 0)) → t ≠ 91 → k ≠ s.c := fun hk ht => apart_tags hk hc1 ht
  have setk : ∀ {k : Nat} {cs : Array Value} {t : TypeId}, w1.heap[k]? = some (.cells cs t (0, 0)) → t ≠ 91 → (w1.setCell ⟨s.c, 3, none⟩ (.slice p' (s.D.length + 1) cap')).heap[k]? = some (.cells cs t (0, 0)) := fun hk ht => (heap_setCell_other _ _ _ _ (hne hk ht)).trans hk
  have ent : ∀ {k : Nat} {e : EV} {x : Int}, IsEnt w k e x → IsEnt (w1.setCell ⟨s.c, 3, none⟩ (.slice p' (s.D.length + 1) cap')) k e x := fun hk => setk (keepC _ _ _ hk (by decide)) (by decide)
  have mC : cMine w s.h s.c := h.mineC
  refine ⟨hc1, ⟨⟨?_, ?_, fun k hk => ent (h.hp.ents k hk), h.hp.nodup, h.hp.len, h.hp.used⟩, fun k hk hi => ent (h.rest k hk hi), h.sub, ?_, ?_, fun k hk => ?_, h.lo.1, h.lo.2.1, h.lo.2.2.1, fun k hk => ?_⟩, ?_⟩
  · show (w1.setCell ⟨s.c, 3, none⟩ _).heap[s.c]? = _
    rw [heap_setCell_same _ s.c 3 _ _ _ hc1]
    unfold CS.ck CK.cells
    simp only [hl]
    rfl
  · refine ⟨h.hp.row.1, ?_⟩
    rcases h.hp.row.2 with h0 | ⟨g, cap, cur, hv, hb, hblk, r⟩
    · exact .inl h0
    · refine .inr ⟨g, cap, cur, hv, hb, setk (keep g _ hblk (fun _ _ _ _ _ e => ?_) (fun _ => ⟨_, _, _, rfl⟩)) (by decide), r⟩
      refine h.apart g e ?_
      have hv' : s.ip = some ⟨g, 0, none⟩ := by injection hv
      rw [hv']
      rfl
  · have hlt := h.hm.own.lt
    obtain ⟨es, clock, he, r⟩ := h.hm.own
    have hk1 : w1.heap[s.h]? = some (.map es clock) := keep s.h _ he (fun _ _ _ e _ => by cases e) (fun e => by
      obtain ⟨cs, hc⟩ := dq_tag h e
      rw [he] at hc; cases hc)
    refine ⟨⟨es, clock, (heap_setCell_other _ _ _ _ (fun e => ?_)).trans hk1, r⟩, h.hm.has, h.hm.val, h.hm.inj, h.hm.nodup, h.hm.small, h.hm.size⟩
    have e' : s.h = s.c := e
    exact h.hne h.hp.cell e'
  · rw [hl, List.map_append]
    exact own0_set hown hc1 (by decide) _ _
  · intro e
    obtain ⟨cs, hc⟩ := ip_tag h e
    have hklt := (Array.getElem?_eq_some_iff.1 hc).1
    have hk' : (Value.slice p' (s.D.length + 1) cap').ownBlock = some k := by
      have hk0 : p'.map Addr.block = some k := hk
      rcases hown.2 with ⟨e1, _⟩ | ⟨g, cap, cur, e1, _⟩
      · cases e1
      · cases e1; cases hk0; rfl
    rcases hpl with h1 | h1
    · rw [hk'] at h1
      exact h.apart k (dqb k h1.symm) e
    · rw [hk'] at h1
      have := Option.some.inj h1
      omega
  · have hk' : (Value.slice p' (s.D.length + 1) cap').ownBlock = some k := by
      have hk0 : p'.map Addr.block = some k := hk
      rcases hown.2 with ⟨e1, _⟩ | ⟨g, cap, cur, e1, _⟩
      · cases e1
      · cases e1; cases hk0; rfl
    rcases hpl with h1 | h1
    · rw [hk'] at h1
      exact h.lo.2.2.2 k (dqb k h1.symm)
    · rw [hk'] at h1
      have := Option.some.inj h1
      have := h.hm.own.lt
      show s.h < k
      omega
  · refine (((But.refl (cMine w s.h) w).alloc o).trans (But.of_grown hg fun k e => ?_)).setCell _ mC _
    obtain ⟨cs, hc⟩ := dq_tag h (dqb k e)
    exact .inr ⟨Nat.le_of_lt (h.lo.2.2.2 k (dqb k e)), _, _, _, hc, .inr (.inl rfl)⟩

/-- What Put's end needs: the entry's state with its new bytes, dirty. -/
def PutFin (w1 : World) (s1 : CS) (a : Nat) (vs : VS) (bs : By) (D' : CS → List Nat) (A2 : AC) : Prop :=
  ∀ w2 e dq dcap, e.block = (s1.U a).block → e.pins = (s1.U a).pins → e.used = (s1.U a).used → e.dirty = true → CM w2 { s1 with U := updU s1.U a e, D := D' s1, dq := dq, dcap := dcap } → But (cMine w1 s1.h) w1 w2 → DatAt w2 e bs →
    ∃ B', CX (fun k => k = a) w2 { s1 with U := updU s1.U a e, D := D' s1, dq := dq, dcap := dcap } vs B' ∧ acOf { s1 with U := updU s1.U a e, D := D' s1, dq := dq, dcap := dcap } B' = A2

theorem Tryz.infoPE : (Tryz.prog.info? 148).map (fun i => (i.zero, i.size, i.bytes)) = some (some (.pointer none), 1, 8) := by kernel_rfl

set_option maxRecDepth 8000 in
set_option maxHeartbeats 2000000 in
/-- Put of a block whose entry is not dirty. -/
theorem put_clean (s : CS) (vs : VS) (B : Nat → By) (block b : Nat) (q : Option Addr) (c : Nat) (bs : By) (A2 : AC) (w : World) (h : CI w s vs B) (hb : block < nbOf vs.d.n) (hbs : Bytes w q bs) (hbl : bs.length = 512) (hbz : b < 800000) (htag : ∀ g o, q = some ⟨g, o, none⟩ → ∃ cs fr, w.heap[g]? = some (.cells cs 5 fr))
    (cH : Calls Tryz.prog 107 #[ep s.c, .int .i64 (block : Nat)] w fun e w1 => ∃ a, e = .returned (.tuple #[ep a, .int .i64 0]) ∧ ∃ s1, Hid (CM w1 s1 ∧ s1.c = s.c ∧ s1.h = s.h ∧ a ∈ s1.A ∧ (s1.U a).block = block ∧ (s1.U a).dirty = false ∧ CB s1 (b + 1) ∧ s1.uses ≤ b ∧ s1.D.length < 100000 ∧ But (cMine w s.h) w w1 ∧ PutFin w1 s1 a vs bs (fun s => s.D ++ [a]) A2)) :
    Calls Tryz.prog 87 #[ep s.c, .int .i64 (block : Nat), .slice q 512 c] w fun e w' => e = .returned (.int .i64 0) ∧ ∃ s' B', Cst w w' s s' vs B' b ∧ acOf s' B' = A2.touch block id := by
  have hnb := h.nb
  have c0 : w.cell? ⟨s.c, 0, none⟩ = some (dp vs.v) := by rw [cellOf h.cm.hp.cell 0, ← h.vv]; rfl
  have cB := vBlocks vs.v vs.commits vs.turn vs.next (some vs.f) vs.d.count vs.d w h.vi.vol h.vi.dev h.vi.n16
  have i1 : ¬ ((block : Nat) : Int) < 0 := by omega
  have i2 : ¬ ((block : Nat) : Int) ≥ ((nbOf vs.d.n : Nat) : Int) := by omega
  obtain ⟨k0, hk0, hx0, hx1, hx2⟩ := info_parts Tryz.infoPE
  have hC5 : Hid (∀ k cs fr, w.heap[k]? = some (.cells cs 5 fr) → ¬ cMine w s.h k) := fun k cs fr hk => h.noMine.2 k cs 5 fr hk (.inl rfl)
  obtain ⟨gq, oq, hq, hqx⟩ := hbs (by omega)
  subst hq
  have htg := htag gq oq rfl
  have HB : Hid (Bytes w (some ⟨gq, oq, none⟩) bs ∧ ∃ cs fr, w.heap[gq]? = some (.cells cs 5 fr)) := ⟨hbs, htg⟩
  clear h hbs hqx htag htg
  go_enter Tryz.func87, Tryz.ntmps87
  go_wp2_with (first
    | (go_at_call 98; refine Calls_on cB ?_)
    | (go_at_call 107; refine cH.mono ?_; rintro e w1 ⟨a, rfl, s1, HQ⟩; clear cH; refine Stop.out ?_))
  refine Stop.mk ?_
  have hbs1 : Bytes w1 (some ⟨gq, oq, none⟩) bs := by
    obtain ⟨hb1, cs, fr, ht⟩ := HB.out
    have hk := HQ.out.2.2.2.2.2.2.2.2.2.1.block gq (Array.getElem?_eq_some_iff.1 ht).1 (hC5.out gq cs fr ht)
    intro hp
    obtain ⟨g', o', e, hx⟩ := hb1 hp
    cases e
    exact ⟨gq, oq, rfl, fun j x hj => (World.cell?_of_block (w := w) hk).trans (hx j x hj)⟩
  have cl := clone_bytes gq oq bs c w1 hbs1 (by omega) (by omega)
  rw [hbl] at cl
  clear hbs1
  go_wp2_with (go_at_call 92; refine cl.mono ?_; rintro e w2 ⟨g, cp, rfl, hg2, hcp2, hb2, hB2, ht2⟩; clear cl; refine Stop.out ?_)
  refine Stop.mk ?_
  obtain ⟨cm1, hc1, hh1, ha1, hblk1, hd1, hcb1, hus1, hDl1, hB1, hfin⟩ := HQ.out
  have cm2 := cm1.below hB2
  obtain ⟨x, hE⟩ := cm2.entAny ha1
  have d1 : w2.cell? ⟨a, 1, none⟩ = some (.slice (s1.U a).p (s1.U a).n (s1.U a).cp) := by rw [cellOf hE 1]; rfl
  have f1 := frozenOf hE 1
  have d3 : w2.cell? ⟨a, 3, none⟩ = some (.bool false) := by rw [cellOf hE 3, ← hd1]; rfl
  have f3 := frozenOf hE 3
  have k3 : w2.cell? ⟨s.c, 3, none⟩ = some (.slice s1.dq s1.D.length s1.dcap) := by rw [← hc1, cellOf cm2.hp.cell 3]; rfl
  have ca : s.c ≠ a := by rw [← hc1]; exact apart_tags cm2.hp.cell hE (by decide)
  have ca' := Ne.symm ca
  have cm3 := cm2.setE ha1 1 (.slice (some ⟨g, 0, none⟩) 512 cp) { s1.U a with p := some ⟨g, 0, none⟩, n := 512, cp := cp } (fun _ => rfl) rfl (cm2.hp.used a)
  have cm4 := cm3.setE (a := a) ha1 3 (.bool true) { s1.U a with p := some ⟨g, 0, none⟩, n := 512, cp := cp, dirty := true } (fun x => by show (entCells (updU s1.U a _ a) x).setIfInBounds 3 _ = _; rw [updU_same]; rfl) (by show (s1.U a).block = (updU s1.U a _ a).block; rw [updU_same]) (cm2.hp.used a)
  have eU : updU (updU s1.U a { s1.U a with p := some ⟨g, 0, none⟩, n := 512, cp := cp }) a { s1.U a with p := some ⟨g, 0, none⟩, n := 512, cp := cp, dirty := true } = updU s1.U a { s1.U a with p := some ⟨g, 0, none⟩, n := 512, cp := cp, dirty := true } := by
    funext k; unfold updU; split <;> rfl
  have cm5 : CM ((w2.setCell ⟨a, 1, none⟩ (.slice (some ⟨g, 0, none⟩) 512 cp)).setCell ⟨a, 3, none⟩ (.bool true)) { s1 with U := updU s1.U a { s1.U a with p := some ⟨g, 0, none⟩, n := 512, cp := cp, dirty := true } } := by rw [← eU]; exact cm4
  have mE : cMine w2 s1.h a := cm2.mineE ha1
  have hB5 : But (cMine w1 s1.h) w1 ((w2.setCell ⟨a, 1, none⟩ (.slice (some ⟨g, 0, none⟩) 512 cp)).setCell ⟨a, 3, none⟩ (.bool true)) := cMine_trans (But.of_below hB2) (((But.refl (cMine w2 s1.h) w2).setCell _ mE _).setCell _ mE _)
  have H5 : Hid (CM ((w2.setCell ⟨a, 1, none⟩ (.slice (some ⟨g, 0, none⟩) 512 cp)).setCell ⟨a, 3, none⟩ (.bool true)) { s1 with U := updU s1.U a { s1.U a with p := some ⟨g, 0, none⟩, n := 512, cp := cp, dirty := true } } ∧ But (cMine w1 s1.h) w1 ((w2.setCell ⟨a, 1, none⟩ (.slice (some ⟨g, 0, none⟩) 512 cp)).setCell ⟨a, 3, none⟩ (.bool true)) ∧ (512 ≤ cp ∧ Bytes w2 (some ⟨g, 0, none⟩) bs ∧ ∃ cs fr, w2.heap[g]? = some (.cells cs 5 fr))) := ⟨cm5, hB5, hcp2, hb2, ht2⟩
  have HMine : Hid (cMine w2 s1.h a) := mE
  have HNe : Hid (∀ (cs : Array Value) (t : TypeId) (fr : Nat × Nat), w2.heap[s1.h]? = some (.cells cs t fr) → False) := fun cs t fr hk => cm2.hne hk rfl
  clear cm1 cm2 cm3 cm4 cm5 eU hE mE hB5 hd1 hcb1 hfin hcp2 hb2 ht2 hg2 hB1 hB2 hh1 ha1 hus1 cB c0
  go_wp2_with (at_builtin; refine Stop.out ?_)
  refine Stop.mk ?_
  have hsz : ((w2.setCell ⟨a, 1, none⟩ (.slice (some ⟨g, 0, none⟩) 512 cp)).setCell ⟨a, 3, none⟩ (.bool true)).heap.size = w2.heap.size := by simp
  refine wpList_append_own_at _ rfl _ _ 88 rfl 0 148 k0 (.pointer none) 1 8 Tryz.underlying88 hk0 hx0 hx1 hx2 rfl (by decide) (.slice s1.dq s1.D.length s1.dcap) s1.D.length (s1.D.map ep) rfl (own0_alloc H5.out.1.row _) ⟨w2.heap.size, 0, none⟩ 1 1 [ep a] rfl rfl (by have := cell_one_laid ((w2.setCell ⟨a, 1, none⟩ (.slice (some ⟨g, 0, none⟩) 512 cp)).setCell ⟨a, 3, none⟩ (.bool true)) (ep a) 148; rw [hsz] at this; exact this) (by intro u hu; rw [List.mem_singleton.1 hu]; rfl) (by unfold maxLen; omega) (by omega) (Nat.zero_le _) ?_
  intro v5 w5 hown hg _ hpl
  obtain ⟨p', cap', rfl⟩ := own_slice hown
  have hpl' : (Value.slice p' (s1.D.length + 1) cap').ownBlock = (Value.slice s1.dq s1.D.length s1.dcap).ownBlock ∨ (Value.slice p' (s1.D.length + 1) cap').ownBlock = some (((w2.setCell ⟨a, 1, none⟩ (.slice (some ⟨g, 0, none⟩) 512 cp)).setCell ⟨a, 3, none⟩ (.bool true)).heap.size + 1) := by
    rw [World.size_alloc] at hpl
    exact hpl
  obtain ⟨hcc, cm6, hB6⟩ := cm_dirty (a := a) H5.out.1 hown hg hpl'
  rw [show (CS.c { s1 with U := updU s1.U a { s1.U a with p := some ⟨g, 0, none⟩, n := 512, cp := cp, dirty := true } }) = s1.c from rfl, hc1] at hcc
  have n3 : w5.cell? ⟨s.c, 3, none⟩ = some (.slice s1.dq s1.D.length s1.dcap) := by rw [cellOf hcc 3]; rfl
  have g3 := frozenOf hcc 3
  obtain ⟨cm1, _, hh1, ha1, _, hd1, hcb1, hus1, _, hB1, hfin⟩ := HQ.out
  have hBw : But (cMine w1 s1.h) w1 (w5.setCell ⟨s1.c, 3, none⟩ (.slice p' (s1.D.length + 1) cap')) := cMine_trans H5.out.2.1 hB6
  have hdat : DatAt (w5.setCell ⟨s1.c, 3, none⟩ (.slice p' (s1.D.length + 1) cap')) { s1.U a with p := some ⟨g, 0, none⟩, n := 512, cp := cp, dirty := true } bs := by
    obtain ⟨q1, q2, cs, fr, q3⟩ := H5.out.2.2
    have hw2 : But (fun k => cMine w2 s1.h k) w2 (w5.setCell ⟨s1.c, 3, none⟩ (.slice p' (s1.D.length + 1) cap')) := by
      have e1 : But (cMine w2 s1.h) w2 ((w2.setCell ⟨a, 1, none⟩ (.slice (some ⟨g, 0, none⟩) 512 cp)).setCell ⟨a, 3, none⟩ (.bool true)) := by
        have hE2 := H5.out.1.entAny ha1
        refine ((But.refl (cMine w2 s1.h) w2).setCell ⟨a, 1, none⟩ HMine.out _).setCell ⟨a, 3, none⟩ HMine.out _
      exact cMine_trans e1 hB6
    obtain ⟨k1, k2⟩ := bytes_but q2 ⟨cs, fr, q3⟩ hw2 (fun k cs fr hk hm => by
      rcases hm with rfl | ⟨_, cs', t', fr', hb, ht'⟩
      · exact HNe.out _ _ _ hk
      · rw [hk] at hb
        simp only [Option.some.injEq, Obj.cells.injEq] at hb
        obtain ⟨_, rfl, _⟩ := hb
        rcases ht' with h' | h' | h' <;> exact absurd h' (by decide))
    exact ⟨rfl, hbl, q1, g, rfl, k1, k2⟩
  obtain ⟨B', cx, hac⟩ := hfin _ { s1.U a with p := some ⟨g, 0, none⟩, n := 512, cp := cp, dirty := true } p' cap' rfl rfl rfl rfl cm6 hBw hdat
  have eW : w5.setCell ⟨s1.c, 3, none⟩ (.slice p' (s1.D.length + 1) cap') = w5.setCell ⟨s.c, 3, none⟩ (.slice p' (s1.D.length + 1) cap') := by rw [hc1]
  obtain ⟨S5, hS5⟩ : ∃ S5 : CS, S5 = { s1 with U := updU s1.U a { s1.U a with p := some ⟨g, 0, none⟩, n := 512, cp := cp, dirty := true }, D := s1.D ++ [a], dq := p', dcap := cap' } := ⟨_, rfl⟩
  have cx5 : CX (fun k => k = a) (w5.setCell ⟨s.c, 3, none⟩ (.slice p' (s1.D.length + 1) cap')) S5 vs B' := by rw [hS5, ← eW]; exact cx
  have hcb5 : CB S5 (b + 1) := by rw [hS5]; exact ⟨hcb1.nh, hcb1.uses, hcb1.met, hcb1.missed, hcb1.out⟩
  have ha5 : a ∈ S5.A := by rw [hS5]; exact ha1
  have hc5 : S5.c = s.c := by rw [hS5]; exact hc1
  have hh5 : S5.h = s1.h := by rw [hS5]
  have hu5 : S5.uses = s1.uses := by rw [hS5]
  have hac5 : acOf S5 B' = A2 := by rw [hS5]; exact hac
  have hb5 : (S5.U a).block = block := by
    rw [hS5]
    show (updU s1.U a _ a).block = block
    rw [updU_same]; exact hblk1
  have cU := use_cx cx5 ha5 hcb5 (by omega)
  rw [hc5] at cU
  rw [eW] at hBw
  have H6 : Hid (But (cMine w1 s1.h) w1 (w5.setCell ⟨s.c, 3, none⟩ (.slice p' (s1.D.length + 1) cap')) ∧ acOf S5 B' = A2 ∧ (S5.U a).block = block ∧ CB S5 (b + 1) ∧ S5.c = s.c ∧ S5.h = s1.h ∧ S5.uses ≤ b) := ⟨hBw, hac5, hb5, hcb5, hc5, hh5, by omega⟩
  clear eW hS5 cx5 hcb5 ha5 hc5 hh5 hu5 hac5 hb5
  clear hpl hpl' hcc cm6 hB6 cm1 hd1 hcb1 hus1 hB1 hfin hBw hdat cx hac hown hg H5 hh1 ha1 hsz
  go_wp2_with (go_at_call 91; refine cU.mono ?_; rintro e w6 ⟨rfl, s6, hI6, hU6, hac6⟩; clear cU)
  go_ret
  obtain ⟨cm1, _, hh1, ha1, _, hd1, hcb1, hus1, _, hB1, _⟩ := HQ.out
  obtain ⟨hBw, hac, hblkU, hcb5, hc5, hh5, hu5⟩ := H6.out
  obtain ⟨ip, icap, I', he6⟩ := hU6.eq
  have hB7 : But (cMine w s.h) w w6 := by
    refine cMine_trans hB1 ?_
    rw [← hh1]
    refine cMine_trans hBw ?_
    rw [← hh5]
    exact hU6.but
  refine ⟨rfl, s6, B', ⟨hI6, ?_, by rw [he6]; exact hc5, by rw [he6]; exact hh5.trans hh1, hB7⟩, ?_⟩
  · rw [he6]
    exact ⟨hcb5.nh, by show S5.uses + 1 ≤ _; omega, hcb5.met, hcb5.missed, hcb5.out⟩
  · rw [hac6, hac, hblkU]

end Go.Proofs.YtebdgcoandfocaaGreatDoor

/-
  Put of package bcache, every way.
-/
namespace Go.Proofs.YtebdgcoandfocaaGreatDoor
open Go.RowKit Go.Maps Go.Sort Go.Shelf

def putF (d : By) (x : HE) : HE := { x with dirty := true, data := d }
def AC.put (A : AC) (b : Nat) (d : By) : AC := AC.touch (if A.held b then A else A.evict.add b d) b (putF d)

theorem dlen {w : World} {s : CS} {vs : VS} {B : Nat → By} (h : CI w s vs B) : s.D.length ≤ 4096 := by
  have := len_sub h.dnd (fun a ha => ((h.dirty a).1 ha).1)
  have := h.room.2.1
  have := h.room.2.2
  omega

theorem put_held (s : CS) (vs : VS) (B : Nat → By) (a b : Nat) (q : Option Addr) (c : Nat) (bs : By) (w : World) (h : CI w s vs B) (hz : CB s b) (ha : a ∈ s.A) (hd : (s.U a).dirty = false) (hbs : Bytes w q bs) (hbl : bs.length = 512) (hbz : b < 800000) (htag : ∀ g o, q = some ⟨g, o, none⟩ → ∃ cs fr, w.heap[g]? = some (.cells cs 5 fr)) :
    Calls Tryz.prog 87 #[ep s.c, .int .i64 ((s.U a).block : Nat), .slice q 512 c] w fun e w' => e = .returned (.int .i64 0) ∧ ∃ s' B', Cst w w' s s' vs B' b ∧ acOf s' B' = (acOf s B).put (s.U a).block bs := by
  have hh : (acOf s B).held (s.U a).block = true := held_iff.2 ⟨a, ha, rfl⟩
  have hput : (acOf s B).put (s.U a).block bs = AC.touch { acOf s B with L := (acOf s B).L.map fun x => if x.block = (s.U a).block then putF bs x else x } (s.U a).block id := by
    unfold AC.put
    rw [hh, if_pos rfl, touch_two _ _ (putF bs) (fun x => ⟨rfl, fun _ => rfl⟩)]
  rw [hput]
  refine put_clean s vs B (s.U a).block b q c bs _ w h (h.blk a ha) hbs hbl hbz htag ?_
  refine (hold_yes s a w h.cm ha).mono ?_
  rintro e w1 ⟨rfl, rfl⟩
  have hdl := dlen h
  have := hz.uses
  refine ⟨a, rfl, s, h.cm, rfl, rfl, ha, rfl, hd, ⟨by have := hz.nh; omega, by omega, by have := hz.met; omega, by have := hz.missed; omega, by have := hz.out; omega⟩, by omega, by omega, But.refl _ _, ?_⟩
  intro w2 e dq dcap e1 e2 e3 e4 cm2 hB2 hdat
  refine ⟨_, cx_setE (h.weak a) e bs (s.D ++ [a]) dq dcap cm2 hB2 ha e1 hdat (.inr ⟨e4, hd, rfl⟩) (fun hx => by rw [e4] at hx; cases hx), ?_⟩
  have := touched_abs (B := B) h.cm ha e bs (putF bs) (by unfold putF heOf; simp [e1, e2, e3, e4])
  unfold acOf
  simp only
  rw [this]
  rfl

set_option maxRecDepth 8000 in
set_option maxHeartbeats 1000000 in
theorem put_dirty (s : CS) (vs : VS) (B : Nat → By) (a b : Nat) (q : Option Addr) (c : Nat) (bs : By) (w : World) (h : CI w s vs B) (hz : CB s b) (ha : a ∈ s.A) (hd : (s.U a).dirty = true) (hbs : Bytes w q bs) (hbl : bs.length = 512) (hbz : b < 800000) :
    Calls Tryz.prog 87 #[ep s.c, .int .i64 ((s.U a).block : Nat), .slice q 512 c] w fun e w' => e = .returned (.int .i64 0) ∧ ∃ s' B', Cst w w' s s' vs B' b ∧ acOf s' B' = (acOf s B).put (s.U a).block bs := by
  have hh : (acOf s B).held (s.U a).block = true := held_iff.2 ⟨a, ha, rfl⟩
  have hput : (acOf s B).put (s.U a).block bs = AC.touch { acOf s B with L := (acOf s B).L.map fun x => if x.block = (s.U a).block then putF bs x else x } (s.U a).block id := by
    unfold AC.put
    rw [hh, if_pos rfl, touch_two _ _ (putF bs) (fun x => ⟨rfl, fun _ => rfl⟩)]
  rw [hput]
  have hnb := h.nb
  have hbk := h.blk a ha
  have c0 : w.cell? ⟨s.c, 0, none⟩ = some (dp vs.v) := by rw [cellOf h.cm.hp.cell 0, ← h.vv]; rfl
  have cB := vBlocks vs.v vs.commits vs.turn vs.next (some vs.f) vs.d.count vs.d w h.vi.vol h.vi.dev h.vi.n16
  have i1 : ¬ (((s.U a).block : Nat) : Int) < 0 := by omega
  have i2 : ¬ (((s.U a).block : Nat) : Int) ≥ ((nbOf vs.d.n : Nat) : Int) := by omega
  have cH := hold_yes s a w h.cm ha
  obtain ⟨gq, oq, hq, hqx⟩ := hbs (by omega)
  subst hq
  have cl := clone_bytes gq oq bs c w hbs (by omega) (by omega)
  rw [hbl] at cl
  have H0 : Hid (CI w s vs B) := h
  clear h hqx hbs hput
  generalize hbk2 : (s.U a).block = block at *
  go_enter Tryz.func87, Tryz.ntmps87
  go_wp2_with (first
    | (go_at_call 98; refine Calls_on cB ?_)
    | (go_at_call 107; refine Calls_on cH ?_)
    | (go_at_call 92; refine cl.mono ?_; rintro e w2 ⟨g, cp, rfl, hg2, hcp2, hb2, hB2, ht2⟩; clear cl; refine Stop.out ?_))
  refine Stop.mk ?_
  have h2 := H0.out.below hB2
  obtain ⟨x, hE⟩ := h2.cm.entAny ha
  have d1 : w2.cell? ⟨a, 1, none⟩ = some (.slice (s.U a).p (s.U a).n (s.U a).cp) := by rw [cellOf hE 1]; rfl
  have f1 := frozenOf hE 1
  have d3 : w2.cell? ⟨a, 3, none⟩ = some (.bool true) := by rw [cellOf hE 3, ← hd]; rfl
  have cm3 := h2.cm.setE ha 1 (.slice (some ⟨g, 0, none⟩) 512 cp) { s.U a with p := some ⟨g, 0, none⟩, n := 512, cp := cp } (fun _ => rfl) rfl (h2.cm.hp.used a)
  have mE : cMine w2 s.h a := h2.cm.mineE ha
  have hB3 : But (cMine w2 s.h) w2 (w2.setCell ⟨a, 1, none⟩ (.slice (some ⟨g, 0, none⟩) 512 cp)) := (But.refl (cMine w2 s.h) w2).setCell _ mE _
  have hdat : DatAt (w2.setCell ⟨a, 1, none⟩ (.slice (some ⟨g, 0, none⟩) 512 cp)) { s.U a with p := some ⟨g, 0, none⟩, n := 512, cp := cp } bs := (h2.keep hB3).2 _ _ ⟨rfl, hbl, hcp2, g, rfl, hb2, ht2⟩
  have cx3 := cx_setE (h2.weak a) { s.U a with p := some ⟨g, 0, none⟩, n := 512, cp := cp } bs s.D s.dq s.dcap cm3 hB3 ha rfl hdat (.inl ⟨rfl, rfl⟩) (fun hx => by have : (s.U a).dirty = false := hx; rw [hd] at this; cases this)
  have htab := touched_abs (B := B) h2.cm ha { s.U a with p := some ⟨g, 0, none⟩, n := 512, cp := cp } bs (putF bs) (by unfold putF heOf; simp [hd])
  obtain ⟨S5, hS5⟩ : ∃ S5 : CS, S5 = { s with U := updU s.U a { s.U a with p := some ⟨g, 0, none⟩, n := 512, cp := cp } } := ⟨_, rfl⟩
  have cx5 : CX (fun k => k = a) (w2.setCell ⟨a, 1, none⟩ (.slice (some ⟨g, 0, none⟩) 512 cp)) S5 vs (fun k => if k = a then bs else B k) := by rw [hS5]; exact cx3
  have hcb5 : CB S5 b := by rw [hS5]; exact ⟨hz.nh, hz.uses, hz.met, hz.missed, hz.out⟩
  have ha5 : a ∈ S5.A := by rw [hS5]; exact ha
  have hc5 : S5.c = s.c := by rw [hS5]
  have hh5 : S5.h = s.h := by rw [hS5]
  have hac5 : acOf S5 (fun k => if k = a then bs else B k) = { acOf s B with L := (acOf s B).L.map fun x => if x.block = block then putF bs x else x } := by
    rw [hS5]
    unfold acOf
    simp only
    rw [htab, hbk2]
    rfl
  have hb5 : (S5.U a).block = block := by
    rw [hS5]
    show (updU s.U a _ a).block = block
    rw [updU_same]; exact hbk2
  have cU := use_cx cx5 ha5 hcb5 (by omega)
  rw [hc5] at cU
  have hB4 : But (cMine w s.h) w (w2.setCell ⟨a, 1, none⟩ (.slice (some ⟨g, 0, none⟩) 512 cp)) := cMine_trans (But.of_below hB2) hB3
  have H6 : Hid (But (cMine w s.h) w (w2.setCell ⟨a, 1, none⟩ (.slice (some ⟨g, 0, none⟩) 512 cp)) ∧ acOf S5 (fun k => if k = a then bs else B k) = { acOf s B with L := (acOf s B).L.map fun x => if x.block = block then putF bs x else x } ∧ (S5.U a).block = block ∧ CB S5 b ∧ S5.c = s.c ∧ S5.h = s.h) := ⟨hB4, hac5, hb5, hcb5, hc5, hh5⟩
  clear h2 hE cm3 mE hB3 hdat cx3 htab hS5 cx5 hcb5 ha5 hc5 hh5 hac5 hb5 hB4 hcp2 hb2 ht2 hg2 cH cB c0
  go_wp2_with (go_at_call 91; refine cU.mono ?_; rintro e w6 ⟨rfl, s6, hI6, hU6, hac6⟩; clear cU)
  go_ret
  obtain ⟨hBw, hac, hblkU, hcb5, hc5, hh5⟩ := H6.out
  obtain ⟨ip, icap, I', he6⟩ := hU6.eq
  have hB7 : But (cMine w s.h) w w6 := by
    refine cMine_trans hBw ?_
    rw [← hh5]
    exact hU6.but
  have := hcb5.uses
  refine ⟨rfl, s6, _, ⟨hI6, ?_, by rw [he6]; exact hc5, by rw [he6]; exact hh5, hB7⟩, ?_⟩
  · rw [he6]
    exact ⟨by have := hcb5.nh; show S5.nh ≤ _; omega, by show S5.uses + 1 ≤ _; omega, by have := hcb5.met; show S5.met ≤ _; omega, by have := hcb5.missed; show S5.missed ≤ _; omega, by have := hcb5.out; show S5.out ≤ _; omega⟩
  · rw [hac6, hac, hblkU]

end Go.Proofs.YtebdgcoandfocaaGreatDoor

/-
  New and Drop of package bcache.
-/
namespace Go.Proofs.YtebdgcoandfocaaGreatDoor
open Go.RowKit Go.Maps Go.Sort Go.Shelf

def noU : Nat → EV := fun _ => ⟨0, none, 0, 0, 0, false, 0⟩
def newS (c v room h : Nat) : CS := ⟨c, v, room, h, 0, .map [], none, 0, [], none, 0, [], [], noU, 0, 0, 0, 0⟩

set_option maxRecDepth 8000 in
set_option maxHeartbeats 1000000 in
theorem new_ok (room : Nat) (vs : VS) (w : World) (h : VI w vs) (h1 : 1 ≤ room) (h2 : room ≤ 4096) :
    Calls Tryz.prog 20 #[dp vs.v, .int .i64 (room : Nat)] w fun e w' => ∃ c hh, e = .returned (ep c) ∧ CI w' (newS c vs.v room hh) vs (fun _ => []) ∧ Below w.heap.size w w' ∧ w.heap.size ≤ hh ∧ w.heap.size ≤ c := by
  have i1 : ¬ ((room : Nat) : Int) < 1 := by omega
  have i2 : ¬ ((room : Nat) : Int) > 4096 := by omega
  have hmm := @run_makeMap Tryz.prog
  have H0 : Hid (VI w vs) := h
  clear h
  go_enter Tryz.func20, Tryz.ntmps20
  go_wp2
  go_ret
  have h := H0.out
  have hB1 : Below w.heap.size w (w.alloc (.map #[] 0)) := (Below.refl _ w).alloc (Nat.le_refl _) _
  have hm : (w.alloc (.map #[] 0)).heap[w.heap.size]? = some (.map #[] 0) := (MapKept.heap_alloc w _).1
  obtain ⟨w1, hw1⟩ : ∃ w1, w1 = w.alloc (.map #[] 0) := ⟨_, rfl⟩
  have hs1 : w1.heap.size = w.heap.size + 1 := by rw [hw1]; simp
  rw [← hw1] at hm hB1
  have hB2 : Below w.heap.size w (w1.alloc (.cells #[dp vs.v, .int .i64 (room : Nat), .map (some w.heap.size), .slice none 0 0, .slice none 0 0, .int .i64 0, .int .i64 0, .int .i64 0, .int .i64 0] 91)) := hB1.alloc hB1.size _
  have hc : (w1.alloc (.cells #[dp vs.v, .int .i64 (room : Nat), .map (some w.heap.size), .slice none 0 0, .slice none 0 0, .int .i64 0, .int .i64 0, .int .i64 0, .int .i64 0] 91)).heap[w.heap.size + 1]? = some (.cells ((newS (w.heap.size + 1) vs.v room w.heap.size).ck.cells (.slice none 0 0)) 91 (0, 0)) := by
    rw [← hs1]; exact heap_alloc_new w1 _
  have hm2 : (w1.alloc (.cells #[dp vs.v, .int .i64 (room : Nat), .map (some w.heap.size), .slice none 0 0, .slice none 0 0, .int .i64 0, .int .i64 0, .int .i64 0, .int .i64 0] 91)).heap[w.heap.size]? = some (.map #[] 0) := (Below.heap_alloc w1 _ _ (by omega)).trans hm
  have hfl := h.fresh.own.lt
  have hml := h.dev.mlt
  rw [← hw1]
  have nomem : ∀ {p : Prop} (a : Nat), a ∈ ([] : List Nat) → p := fun a ha => by cases ha
  refine ⟨w.heap.size + 1, rfl, w.heap.size, ⟨⟨⟨hc, World.ownsRow_nil _ _ _ _, (fun k hk => absurd hk (Nat.not_lt_zero _)), List.nodup_nil, (by show 0 < 1000000; omega), (fun _ => by show 0 < 1000000000; omega)⟩, (fun a ha => nomem a ha), (fun a ha => nomem a ha), HM.empty hm2 _, World.ownsRow_nil _ _ _ _, (fun k hk => by cases hk), (by show w.heap.size < w.heap.size + 1; omega), (fun a ha => nomem a ha), (fun k hk => by cases hk), (fun k hk => by cases hk)⟩, h.below hB2, rfl, ?_, ?_, (fun a ha => nomem a ha), (fun _ h => h.elim), (fun _ k _ hk => absurd hk (Nat.not_lt_zero _)), (fun b _ => ⟨fun hb => nomem b hb, fun hb => nomem b hb.1⟩), (fun b => ⟨fun hb => nomem b hb, fun hb => nomem b hb.1⟩), List.nodup_nil, (fun b hb => nomem b hb), (fun b hb => nomem b hb), (fun b hb => nomem b hb), (fun b hb => nomem b hb), h1, h2, Nat.zero_le _⟩, hB2, Nat.le_refl _, by omega⟩
  · show w.heap.size ≠ vs.f
    omega
  · show w.heap.size ≠ vs.d.m
    omega

end Go.Proofs.YtebdgcoandfocaaGreatDoor

namespace Go.Proofs.YtebdgcoandfocaaGreatDoor
open Go.RowKit Go.Maps Go.Sort Go.Shelf

set_option maxRecDepth 8000 in
set_option maxHeartbeats 2000000 in
theorem volume_any (blocks : Nat) (w : World) (ht : Tab w) (h2 : 2 ≤ blocks) (h12 : blocks ≤ 200) :
    Calls Tryz.prog 21 #[.int .i64 (blocks : Nat)] w fun e w' => ∃ vs : VS, e = .returned (dp vs.v) ∧ VI w' vs ∧ Bud vs 1 ∧ nbOf vs.d.n = blocks ∧ (∀ i, i < blocks → vs.cont i = zeroB) ∧ Below w.heap.size w w' ∧ ∀ k, vs.mine k → w.heap.size ≤ k := by
  obtain ⟨n, hn⟩ : ∃ n, n = 4 * blocks + 8 := ⟨_, rfl⟩
  have e1 : (4 : Int) * (blocks : Nat) + 8 = (n : Nat) := by omega
  have h16 : 16 ≤ n := by omega
  have h200 : n ≤ 900 := by omega
  have hnbn : nbOf n = blocks := by unfold nbOf; omega
  have c21 := dev_new n w (by omega) (by omega)
  have HT : Hid (Tab w ∧ nbOf n = blocks) := ⟨ht, hnbn⟩
  clear ht hn hnbn
  go_enter Tryz.func21, Tryz.ntmps21
  go_wp2_with (go_at_call 34; refine c21.mono ?_; rintro e w1 ⟨a, s0, c0, m0, rfl, hd1, hB1, ha1, hs1, hm1⟩; clear c21; refine Stop.out ?_)
  refine Stop.mk ?_
  have ht1 : Tab w1 := below_tab hB1 HT.out.1.lt HT.out.1
  have cF := format_ok (newDS a s0 c0 m0 n) w1 hd1 ht1 h16 (fun i _ => rfl) (fun h => by cases h) (by simp [newDS])
  have H1 : Hid (Dev w1 (newDS a s0 c0 m0 n) ∧ Tab w1 ∧ Below w.heap.size w w1 ∧ ∀ k, (newDS a s0 c0 m0 n).mine k → w.heap.size ≤ k) := ⟨hd1, ht1, hB1, by rintro k (rfl | rfl | rfl); exact ha1; exact hs1; exact hm1⟩
  clear hd1 hB1 ha1 hs1 hm1 ht1
  go_wp2_with (go_at_call 35; refine cF.mono ?_; rintro e w2 ⟨d2, rfl, hb2, hn2, hd2, hdn2, hD2, hB2, hcn2, hfu2⟩; clear cF; refine Stop.out ?_)
  refine Stop.mk ?_
  obtain ⟨hd1, ht1, hB1, lo1⟩ := H1.out
  have ht2 : Tab w2 := hb2.tab ht1 (hd1.noTab ht1)
  have ea2 : d2.a = a := hn2.a
  have en2 : d2.n = n := hdn2
  have hb0 : d2.B 0 = headB 1 0 n := by rw [hB2]; simp [upd, newDS]
  have hzz : ∀ i, 0 < i → i < n → d2.B i = zeroB := fun i h0 _ => by
    rw [hB2]
    have : i ≠ 0 := by omega
    simp [upd, this, newDS]
  have cM := mount_ok [] 1 0 d2 w2 hd2 ht2 (by omega) (by unfold DS.dead; rw [show d2.fused = false from hfu2]; rfl) hD2 (by rw [hb0, en2]) (by omega) (by omega) (by
    refine ⟨by unfold nbOf; omega, fun hlt => ?_⟩
    rw [hzz _ (by omega) (by omega)]
    exact oldB_zero _)
  rw [ea2] at cM
  have B2 : Below w.heap.size w w2 := hB1.trans (hb2.below hB1.size lo1)
  have lo2 : ∀ k, d2.mine k → w.heap.size ≤ k := by
    rintro k (e | e | e)
    · exact lo1 k (.inl (e.trans hn2.a))
    · exact lo1 k (.inr (.inl (e.trans hn2.s)))
    · rcases hn2.m with x | x
      · exact lo1 k (.inr (.inr (e.trans x)))
      · have := hB1.size; omega
  have H2 : Hid (Dev w2 d2 ∧ Below w.heap.size w w2 ∧ (∀ k, d2.mine k → w.heap.size ≤ k) ∧ d2.B 0 = headB 1 0 n ∧ (∀ i, 0 < i → i < n → d2.B i = zeroB) ∧ d2.D = .map [] ∧ d2.count = 4 ∧ d2.fused = false ∧ d2.n = n) := ⟨hd2, B2, lo2, hb0, hzz, hD2, hcn2, hfu2, en2⟩
  clear hd1 ht1 hB1 lo1 ht2 hb0 hzz B2 lo2 hd2 hb2 hn2 hD2 hB2 hcn2 hfu2 H1 hdn2 en2
  go_wp2_with (go_at_call 36; refine cM.mono ?_; rintro e w3 ⟨v, f, rfl, hM⟩; clear cM)
  go_ret
  obtain ⟨hd2, B2, lo2, hb0, hzz, hD2, hcn2, hfu2, en2⟩ := H2.out
  obtain ⟨F, hF⟩ := hM.fr
  have B3 : Below w.heap.size w w3 := B2.trans (hM.below.mono B2.size)
  have hfm : f ≠ d2.m := by have h1 := hM.flt; have h2 := hd2.mlt; omega
  have hvlt := hM.vlt
  have hflt := hM.flt
  have hs2 := B2.size
  refine ⟨⟨v, f, 0, 0, 1, d2.n, F, fun _ => none, d2, []⟩, rfl, ⟨hM.vol, hd2.below hM.below, hF, hfm, hfu2, by show 16 ≤ d2.n; omega, by show d2.n ≤ 900; omega, zero_log v f 0 n F d2 en2 h16 hb0 hzz⟩, ⟨Nat.zero_le _, ?_, Nat.zero_le _, Nat.le_succ 1⟩, ?_, fun i hi => ?_, B3, ?_⟩
  · show d2.count ≤ 1 * 1000
    omega
  · show nbOf d2.n = blocks
    rw [en2]; exact HT.out.2
  · show d2.B (1 + i) = zeroB
    have hnb := HT.out.2
    exact hzz _ (by omega) (by unfold nbOf at hnb; omega)
  · rintro k (e | e | hm)
    · have e' : k = v := e
      omega
    · have e' : k = f := e
      omega
    · exact lo2 k hm

end Go.Proofs.YtebdgcoandfocaaGreatDoor
