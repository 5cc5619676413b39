/-
  What the proof leans on, part 14.
-/
import Derived.Test.YtebdgcoandfocaaGreatDoorQ11
import Derived.Test.YtebdgcoandfocaaGreatDoorQ12
import Derived.Test.YtebdgcoandfocaaGreatDoorQ10
import Derived.Test.YtebdgcoandfocaaGreatDoorQ01
import Derived.Test.YtebdgcoandfocaaGreatDoorQ02

/-
  Package inode: what a change gathers.
-/
namespace Go.Proofs.YtebdgcoandfocaaGreatDoor
open Go.RowKit Go.Maps Go.Sort Go.Shelf

theorem Tryz.infoI : (Tryz.prog.info? 3).map (fun i => (i.zero, i.size, i.bytes)) = some (some (.int .i64 0), 1, 8) := by kernel_rfl
theorem Tryz.infoSpot : (Tryz.prog.info? 102).map (fun i => (i.zero, i.size, i.bytes)) = some (some (.agg #[.int .i64 0, .int .u32 0, .bool false]), 3, 16) := by kernel_rfl
theorem Tryz.infoAPut : (Tryz.prog.info? 143).map (fun i => (i.zero, i.size, i.bytes)) = some (some (.agg #[.int .i64 0, .slice none 0 0]), 2, 32) := by kernel_rfl

/-- A block of cells, whole. -/
def BlkAt (w : World) (g : Nat) (cs : List Value) (t : TypeId) : Prop := w.heap[g]? = some (.cells cs.toArray t (0, 0))
theorem BlkAt.cell {w : World} {g : Nat} {cs : List Value} {t : TypeId} (h : BlkAt w g cs t) {i : Nat} {v : Value} (hv : cs[i]? = some v) : w.cell? ⟨g, i, none⟩ = some v := by
  rw [cellOf h i, List.getElem?_toArray]; exact hv
theorem BlkAt.lt {w : World} {g : Nat} {cs : List Value} {t : TypeId} (h : BlkAt w g cs t) : g < w.heap.size := (Array.getElem?_eq_some_iff.1 h).1
theorem BlkAt.but {w w' : World} {g : Nat} {cs : List Value} {t : TypeId} {S : Nat → Prop} (h : BlkAt w g cs t) (hb : But S w w') (hS : ¬ S g) : BlkAt w' g cs t := (hb.block g h.lt hS).trans h
theorem BlkAt.below {w w' : World} {g : Nat} {cs : List Value} {t : TypeId} (h : BlkAt w g cs t) (hb : Below w.heap.size w w') : BlkAt w' g cs t := (hb.block g h.lt).trans h
theorem BlkAt.set {w : World} {g : Nat} {cs : List Value} {t : TypeId} (h : BlkAt w g cs t) (i : Nat) (v : Value) : BlkAt (w.setCell ⟨g, i, none⟩ v) g (cs.set i v) t := by
  unfold BlkAt at *
  simp [World.setCell, Array.getElem?_modify, h]
theorem BlkAt.ne {w : World} {g g' : Nat} {cs cs' : List Value} {t t' : TypeId} (h : BlkAt w g cs t) (h' : BlkAt w g' cs' t') (ht : t ≠ t') : g ≠ g' := fun e => by
  subst e
  have h1 : w.heap[g]? = _ := h
  rw [show w.heap[g]? = _ from h'] at h1
  simp only [Option.some.injEq, Obj.cells.injEq] at h1
  exact ht h1.2.1.symm

/-- The least free number is r. -/
def Least (m : Bm.MS) (r : Nat) : Prop := r < m.n ∧ Bm.used m.ws r = false ∧ ∀ i, i < r → Bm.used m.ws i = true
theorem take_least {m : Bm.MS} {r : Nat} {e : Ending} {m' : Bm.MS} (h : Least m r) (ht : Bm.TakeOut m e m') : e = .returned (.tuple #[.int .i64 r, .int .i64 0]) ∧ m' = m.turn r := by
  obtain ⟨q, hq, h1⟩ := ht
  have hr : q = r := by
    rcases Nat.lt_trichotomy q r with h2 | h2 | h2
    · have h3 := hq.yes (by have := h.1; omega)
      rw [h.2.2 q h2] at h3
      cases h3
    · exact h2
    · have h3 := hq.not r (Nat.zero_le _) h2
      rw [h.2.1] at h3
      cases h3
  subst hr
  rcases h1 with ⟨h2, _⟩ | ⟨_, h3, h4⟩
  · have := h.1; omega
  · exact ⟨h3, h4⟩
theorem only_but {S : Nat → Prop} {w w' : World} (h : Bm.Only S w w') : But S w w' := ⟨h.os, h.tape, h.output, h.size, h.block⟩
theorem but_only {S : Nat → Prop} {w w' : World} (h : But S w w') : Bm.Only S w w' := ⟨h.os, h.tape, h.output, h.size, h.block⟩
theorem map_b_ne {w : World} {m : Bm.MS} (hm : Bm.MapAt w m) {g : Nat} {cs : List Value} {t : TypeId} (h : BlkAt w g cs t) (ht : t ≠ 61) : g ≠ m.b := fun e => by
  subst e
  obtain ⟨cs', h1, _⟩ := hm.row
  rw [show w.heap[m.b]? = _ from h] at h1
  simp only [Option.some.injEq, Obj.cells.injEq] at h1
  exact ht h1.2.1
theorem map_a_ne {w : World} {m : Bm.MS} (hm : Bm.MapAt w m) {g : Nat} {cs : List Value} {t : TypeId} (h : BlkAt w g cs t) (ht : t ≠ 60) : g ≠ m.a := fun e => by
  subst e
  have h1 := hm.st
  rw [show w.heap[m.a]? = _ from h] at h1
  simp only [Option.some.injEq, Obj.cells.injEq] at h1
  exact ht h1.2.1

theorem own_ne {g b k n cap : Nat} (h : g ≠ b) (hk : (Value.slice (some ⟨g, 0, none⟩) n cap).ownBlock = some k) : k ≠ b := by
  have e : g = k := by simpa [Value.ownBlock] using hk
  rw [← e]; exact h
theorem own_set {W : World} {base : Nat} {e : TypeId} {size : Nat} {v : Value} {n : Nat} {xs : List Value} (h : W.ownsRow base e size v n xs) {b : Nat} (hb : ∀ k, v.ownBlock = some k → k ≠ b) (o : Nat) (u : Value) : (W.setCell ⟨b, o, none⟩ u).ownsRow base e size v n xs := by
  refine ⟨h.1, ?_⟩
  rcases h.2 with h0 | ⟨g, cap, cur, rfl, hg, hblk, r⟩
  · exact .inl h0
  · exact .inr ⟨g, cap, cur, rfl, hg, (Below.heap_setCell _ _ _ _ (fun e => hb g rfl e)).trans hblk, r⟩
theorem own_butI {W W' : World} {base : Nat} {e : TypeId} {size : Nat} {v : Value} {n : Nat} {xs : List Value} {S : Nat → Prop} (h : W.ownsRow base e size v n xs) (hb : But S W W') (hS : ∀ k cs, v.ownBlock = some k → W.heap[k]? = some (.cells cs e (0, 0)) → ¬ S k) : W'.ownsRow base e size v n xs := by
  refine ⟨h.1, ?_⟩
  rcases h.2 with h0 | ⟨g, cap, cur, rfl, hg, hblk, r⟩
  · exact .inl h0
  · exact .inr ⟨g, cap, cur, rfl, hg, (hb.block g (Array.getElem?_eq_some_iff.1 hblk).1 (hS g cur rfl hblk)).trans hblk, r⟩

set_option maxRecDepth 8000 in
set_option maxHeartbeats 1000000 in
theorem take_one (wb r : Nat) (cs : List Value) (t : TypeId) (mf : Bm.MS) (w : World) (hw : BlkAt w wb cs t) (h1 : cs[1]? = some (.pointer (some ⟨mf.a, 0, none⟩))) (h2 : cs[2]? = some (.slice none 0 0)) (hm : Bm.MapAt w mf) (ht : Bm.Tab64 w) (hL : Least mf r) (hr : r < 65536) (htt : t ≠ 60 ∧ t ≠ 61) :
    Calls Tryz.prog 63 #[.pointer (some ⟨wb, 0, none⟩)] w fun e w' => e = .returned (.tuple #[.int .u32 (r : Nat), .int .i64 0]) ∧ ∃ g cap, BlkAt w' wb (cs.set 2 (.slice (some ⟨g, 0, none⟩) 1 cap)) t ∧ w'.ownsRow w.heap.size 3 1 (.slice (some ⟨g, 0, none⟩) 1 cap) 1 [.int .i64 (r : Nat)] ∧ Bm.MapAt w' (mf.turn r) ∧ But (fun k => k = mf.b ∨ k = wb) w w' := by
  have ct := Bm.take_any mf w hm ht
  have d1 := hw.cell h1
  have hcv : IntKind.u32.wrap (r : Int) = (r : Int) := by rw [IntKind.wrap_u32]; omega
  obtain ⟨k0, hk0, hx0, hx1, hx2⟩ := info_parts Tryz.infoI
  have HW : Hid (BlkAt w wb cs t ∧ wb ≠ mf.b ∧ wb ≠ mf.a) := ⟨hw, map_b_ne hm hw htt.2, map_a_ne hm hw htt.1⟩
  clear hm ht hw
  go_enter Tryz.func63, Tryz.ntmps63
  go_wp2_with (go_at_call 84; refine ct.mono ?_; rintro e w1 ⟨m1, ho, hm1, hb1⟩; obtain ⟨rfl, rfl⟩ := take_least hL ho; clear ct ho; refine Stop.out ?_)
  refine Stop.mk ?_
  have hw1 : BlkAt w1 wb cs t := HW.out.1.but (only_but hb1) HW.out.2.1
  have d2 := hw1.cell h2
  have H1 : Hid (Bm.MapAt w1 (mf.turn r) ∧ But (fun k => k = mf.b) w w1 ∧ BlkAt w1 wb cs t) := ⟨hm1, only_but hb1, hw1⟩
  have hz1 := hb1.size
  clear hm1 hb1 hw1
  go_wp2_with (at_builtin; refine Stop.out ?_)
  refine Stop.mk ?_
  refine wpList_append_own_at _ rfl _ _ 65 rfl w.heap.size 3 k0 (.int .i64 0) 1 8 Tryz.underlying65 hk0 hx0 hx1 hx2 rfl (by decide) (.slice none 0 0) 0 [] rfl ⟨rfl, .inl ⟨rfl, rfl⟩⟩ ⟨w1.heap.size, 0, none⟩ 1 1 [.int .i64 (r : Nat)] rfl rfl (cell_one_new _ _ _) (by intro u hu; rw [List.mem_singleton.1 hu]; rfl) (by unfold maxLen; omega) (by omega) (by simp; omega) ?_
  intro v2 w2 hown2 hg2 _ hat2
  obtain ⟨g, cap, rfl, _, _⟩ := hown2.form (by omega)
  have hb2 : Below w1.heap.size w1 w2 := ((Below.refl _ w1).alloc (Nat.le_refl _) _).grown hg2 (by simp) (fun k e => by cases e)
  have hg : g = w1.heap.size + 1 := by
    rcases hat2 with e | e
    · cases e
    · simpa [Value.ownBlock] using e
  have hw2 : BlkAt w2 wb cs t := H1.out.2.2.below hb2
  have d3 := hw2.cell h2
  have f3 : w2.frozen? ⟨wb, 2, none⟩ = false := frozenOf hw2 _
  have hltw := H1.out.2.2.lt
  have hgwb : g ≠ wb := by omega
  have hma2 : wb ≠ mf.a ∧ wb ≠ mf.b := ⟨HW.out.2.2, HW.out.2.1⟩
  have hb12 : But (fun k => k = mf.b ∨ k = wb) w (w2.setCell ⟨wb, 2, none⟩ (.slice (some ⟨g, 0, none⟩) 1 cap)) := ((H1.out.2.1.mono (fun k _ e => .inl e)).trans (But.of_below hb2)).setCell _ (.inr rfl) _
  have hm2 : Bm.MapAt (w2.setCell ⟨wb, 2, none⟩ (.slice (some ⟨g, 0, none⟩) 1 cap)) (mf.turn r) := (H1.out.1.below hb2).keep (Bm.Only.setCell (S := fun k => k = wb) w2 _ _ rfl) (fun e => hma2.1 e.symm) (fun e => hma2.2 e.symm)
  have ho2 : (w2.setCell ⟨wb, 2, none⟩ (.slice (some ⟨g, 0, none⟩) 1 cap)).ownsRow w.heap.size 3 1 (.slice (some ⟨g, 0, none⟩) 1 cap) 1 [.int .i64 (r : Nat)] := own_set hown2 (fun k hk => own_ne hgwb hk) _ _
  have H2 : Hid (BlkAt (w2.setCell ⟨wb, 2, none⟩ (.slice (some ⟨g, 0, none⟩) 1 cap)) wb (cs.set 2 (.slice (some ⟨g, 0, none⟩) 1 cap)) t ∧ (w2.setCell ⟨wb, 2, none⟩ (.slice (some ⟨g, 0, none⟩) 1 cap)).ownsRow w.heap.size 3 1 (.slice (some ⟨g, 0, none⟩) 1 cap) 1 [.int .i64 (r : Nat)] ∧ Bm.MapAt (w2.setCell ⟨wb, 2, none⟩ (.slice (some ⟨g, 0, none⟩) 1 cap)) (mf.turn r) ∧ But (fun k => k = mf.b ∨ k = wb) w (w2.setCell ⟨wb, 2, none⟩ (.slice (some ⟨g, 0, none⟩) 1 cap))) := ⟨hw2.set 2 _, ho2, hm2, hb12⟩
  clear hown2 hg2 hat2 hb2 hw2 hb12 hm2 ho2 hg hltw
  go_wp2
  go_ret2
  exact ⟨rfl, g, cap, H2.out⟩

end Go.Proofs.YtebdgcoandfocaaGreatDoor

/-
  A cache of which all is known, and what else lies in memory.
-/
namespace Go.Proofs.YtebdgcoandfocaaGreatDoor
open Go.RowKit Go.Maps Go.Sort Go.Shelf

/-- A type of cells that neither a cache nor a volume has. -/
def foreignT (t : TypeId) : Prop := t ≠ 91 ∧ t ≠ 148 ∧ t ≠ 154 ∧ t ≠ 127 ∧ t ≠ 155 ∧ t ≠ 115 ∧ t ≠ 5 ∧ t ≠ 158
def Foreign (w : World) (S : Nat → Prop) : Prop := ∀ k, S k → ∃ cs t fr, w.heap[k]? = some (.cells cs t fr) ∧ foreignT t
theorem CI.foreign {w w' : World} {s : CS} {vs : VS} {B : Nat → By} {S : Nat → Prop} (h : CI w s vs B) (hb : But S w w') (hF : Foreign w S) : CI w' s vs B := by
  have h5 : ∀ g cs t fr, w.heap[g]? = some (.cells cs t fr) → t = 5 ∨ t = 158 → ¬ S g := fun g cs t fr hg ht hS => by
    obtain ⟨cs', t', fr', hk, hf⟩ := hF g hS
    rw [hg] at hk
    simp only [Option.some.injEq, Obj.cells.injEq] at hk
    obtain ⟨_, rfl, _⟩ := hk
    rcases ht with rfl | rfl
    · exact hf.2.2.2.2.2.2.1 rfl
    · exact hf.2.2.2.2.2.2.2 rfl
  refine ⟨h.cm.but hb (fun hS => ?_) (fun k cs t fr hk ht hS => ?_), vi_but h.vi hb (fun k hk hS => ?_) h5, h.vv, h.hf, h.hd, fun a ha => (h.dat a ha).but hb (fun k cs fr hk => h5 k cs 5 fr hk (.inl rfl)), h.hx, h.ord, h.idle, h.dirty, h.dnd, h.used, h.uinj, h.blk, h.clean, h.room⟩
  · obtain ⟨cs', t', fr', hk, _⟩ := hF _ hS
    exact h.cm.hne hk rfl
  · obtain ⟨cs', t', fr', hk', hf⟩ := hF _ hS
    rw [hk] at hk'
    simp only [Option.some.injEq, Obj.cells.injEq] at hk'
    obtain ⟨_, rfl, _⟩ := hk'
    rcases ht with e | e | e
    · exact hf.1 e
    · exact hf.2.1 e
    · exact hf.2.2.1 e
  · obtain ⟨cs', t', fr', hk', hf⟩ := hF _ hS
    exact h.vi.other hk' hf.2.2.2.1 hf.2.2.2.2.1 hf.2.2.2.2.2.1 hk

/-- A cache, known as A. -/
structure CW (w0 w : World) (c : Nat) (vs : VS) (A : AC) (b : Nat) : Prop where
  st : ∃ s B, CI w s vs B ∧ CB s b ∧ s.c = c ∧ acOf s B = A ∧ w0.heap.size ≤ s.h
/-- What a cache's call may turn. -/
def Cmn (w0 w : World) (k : Nat) : Prop := w0.heap.size ≤ k ∧ ∀ cs t fr, w.heap[k]? = some (.cells cs t fr) → cTag t
theorem cmn_of {w0 w : World} {s : CS} {vs : VS} {B : Nat → By} (h : CI w s vs B) (hl : w0.heap.size ≤ s.h) : ∀ k, cMine w s.h k → Cmn w0 w k := by
  rintro k (rfl | ⟨hk, cs, t, fr, hb, ht⟩)
  · exact ⟨hl, fun cs t fr hk => absurd rfl (h.cm.hne hk)⟩
  · refine ⟨Nat.le_trans hl hk, fun cs' t' fr' hk' => ?_⟩
    rw [hb] at hk'
    simp only [Option.some.injEq, Obj.cells.injEq] at hk'
    rw [← hk'.2.1]; exact ht
theorem cmn_not {w0 w : World} {g : Nat} {cs : Array Value} {t : TypeId} {fr : Nat × Nat} (h : w.heap[g]? = some (.cells cs t fr)) (ht : ¬ cTag t) : ¬ Cmn w0 w g := fun hc => ht (hc.2 _ _ _ h)
theorem cTag_not {t : TypeId} (h1 : t ≠ 91) (h2 : t ≠ 148) (h3 : t ≠ 154) : ¬ cTag t := by
  rintro (e | e | e)
  · exact h1 e
  · exact h2 e
  · exact h3 e
theorem BlkAt.cache {w0 w w' : World} {g : Nat} {cs : List Value} {t : TypeId} (h : BlkAt w g cs t) (hb : But (Cmn w0 w) w w') (ht : ¬ cTag t) : BlkAt w' g cs t := h.but hb (cmn_not h ht)
theorem CW.below {w0 w w' : World} {c : Nat} {vs : VS} {A : AC} {b : Nat} (h : CW w0 w c vs A b) (hb : Below w.heap.size w w') : CW w0 w' c vs A b := by
  obtain ⟨s, B, h1, h2, h3, h4, h5⟩ := h.st
  exact ⟨s, B, h1.below hb, h2, h3, h4, h5⟩
theorem CW.foreign {w0 w w' : World} {c : Nat} {vs : VS} {A : AC} {b : Nat} {S : Nat → Prop} (h : CW w0 w c vs A b) (hb : But S w w') (hF : Foreign w S) : CW w0 w' c vs A b := by
  obtain ⟨s, B, h1, h2, h3, h4, h5⟩ := h.st
  exact ⟨s, B, h1.foreign hb hF, h2, h3, h4, h5⟩

theorem cw_pin (w0 w : World) (c : Nat) (vs : VS) (A : AC) (b x : Nat) (h : CW w0 w c vs A b) (hb : b < 800000) (hx : x < nbOf vs.d.n) (hok : A.held x = true ∨ A.full = false) (hp : ∀ e ∈ A.L, e.pins < 1000000) :
    Calls Tryz.prog 85 #[ep c, .int .i64 (x : Nat)] w fun e w' => e = .returned (.int .i64 0) ∧ CW w0 w' c vs (A.meet x (vs.cont x) (fun x => { x with pins := x.pins + 1 })) (b + 1) ∧ But (Cmn w0 w) w w' := by
  obtain ⟨s, B, h1, h2, rfl, rfl, h5⟩ := h.st
  refine (pin_ok s vs B x b w h1 h2 hb hx hok (fun a ha => hp (heOf s.U B a) (List.mem_map.2 ⟨a, ha, rfl⟩))).mono ?_
  rintro e w' ⟨rfl, s', B', hC, hA⟩
  exact ⟨rfl, ⟨s', B', hC.ci, hC.cb, hC.c, hA, by rw [hC.h]; exact h5⟩, hC.but.mono (fun k _ hk => cmn_of h1 h5 k hk)⟩
theorem cw_put (w0 w : World) (c : Nat) (vs : VS) (A : AC) (b x : Nat) (q : Option Addr) (cp : Nat) (bs : By) (h : CW w0 w c vs A b) (hb : b < 800000) (he : ∃ e ∈ A.L, e.block = x ∧ e.dirty = false) (hbs : Bytes w q bs) (hbl : bs.length = 512) (htag : ∀ g o, q = some ⟨g, o, none⟩ → ∃ cs fr, w.heap[g]? = some (.cells cs 5 fr)) :
    Calls Tryz.prog 87 #[ep c, .int .i64 (x : Nat), .slice q 512 cp] w fun e w' => e = .returned (.int .i64 0) ∧ CW w0 w' c vs (A.put x bs) (b + 1) ∧ But (Cmn w0 w) w w' := by
  obtain ⟨s, B, h1, h2, rfl, rfl, h5⟩ := h.st
  obtain ⟨e, hm, rfl, hd⟩ := he
  obtain ⟨a, ha, rfl⟩ := List.mem_map.1 hm
  refine (put_held s vs B a b q cp bs w h1 h2 ha hd hbs hbl hb htag).mono ?_
  rintro e w' ⟨rfl, s', B', hC, hA⟩
  exact ⟨rfl, ⟨s', B', hC.ci, hC.cb, hC.c, hA, by rw [hC.h]; exact h5⟩, hC.but.mono (fun k _ hk => cmn_of h1 h5 k hk)⟩
theorem cw_unpin (w0 w : World) (c : Nat) (vs : VS) (A : AC) (b x : Nat) (h : CW w0 w c vs A b) (he : ∃ e ∈ A.L, e.block = x ∧ 0 < e.pins ∧ e.pins < 1000000) :
    Calls Tryz.prog 106 #[ep c, .int .i64 (x : Nat)] w fun e w' => e = .returned (.int .i64 0) ∧ CW w0 w' c vs (A.unpin x) (b + 1) ∧ But (Cmn w0 w) w w' := by
  obtain ⟨s, B, h1, h2, rfl, rfl, h5⟩ := h.st
  obtain ⟨e, hm, rfl, hp, hp2⟩ := he
  obtain ⟨a, ha, rfl⟩ := List.mem_map.1 hm
  refine (unpin_ok s vs B a b w h1 h2 ha hp hp2).mono ?_
  rintro e w' ⟨rfl, s', hC, hA⟩
  exact ⟨rfl, ⟨s', B, hC.ci, hC.cb, hC.c, hA, by rw [hC.h]; exact h5⟩, hC.but.mono (fun k _ hk => cmn_of h1 h5 k hk)⟩
end Go.Proofs.YtebdgcoandfocaaGreatDoor

/-
  A file's numbers as one function: places 0 to 127, and behind them the numbers of the three blocks of numbers (128: of the places 8 to 71; 129: of the block that leads to the last one; 130: of the places from 72 on). Pure: no program.
-/
namespace Go.Proofs.YtebdgcoandfocaaGreatDoor
namespace Ino

abbrev Num := BitVec 32
abbrev Gs := Nat → Num

def upd (G : Gs) (i : Nat) (r : Num) : Gs := fun j => if j = i then r else G j
theorem upd_same (G : Gs) (i : Nat) (r : Num) : upd G i r i = r := by simp [upd]
theorem upd_ne (G : Gs) {i j : Nat} (r : Num) (h : j ≠ i) : upd G i r j = G j := by simp [upd, h]

/-- The indices that a write of the places f up to t looks at, in its order. -/
def span (a b : Nat) : List Nat := (List.range (b - a)).map (a + ·)
theorem mem_span {a b x : Nat} : x ∈ span a b ↔ a ≤ x ∧ x < b := by
  simp only [span, List.mem_map, List.mem_range]
  constructor
  · rintro ⟨y, hy, rfl⟩; omega
  · intro h; exact ⟨x - a, by omega, by omega⟩
theorem span_length (a b : Nat) : (span a b).length = b - a := by simp [span]
theorem span_nodup (a b : Nat) : (span a b).Nodup := by
  refine List.Pairwise.map _ ?_ List.nodup_range
  intro x y h; simpa using h
theorem span_nil {a b : Nat} (h : b ≤ a) : span a b = [] := by simp [span, Nat.sub_eq_zero_of_le h]
theorem span_cons {a b : Nat} (h : a < b) : span a b = a :: span (a + 1) b := by
  apply List.ext_getElem
  · simp [span]; omega
  · intro i h1 h2
    rcases i with _ | i
    · simp [span]
    · simp [span]; omega
def idx (f t : Nat) : List Nat :=
  span f (min t 8) ++ (if f < 72 ∧ 8 < t then 128 :: span (max f 8) (min t 72) else []) ++ (if 72 < t then 129 :: 130 :: span (max f 72) t else [])

theorem mem_idx {f t x : Nat} (ht : t ≤ 128) (hft : f < t) : x ∈ idx f t ↔ (f ≤ x ∧ x < t) ∨ (x = 128 ∧ f < 72 ∧ 8 < t) ∨ ((x = 129 ∨ x = 130) ∧ 72 < t) := by
  unfold idx
  split <;> split
  all_goals simp only [List.mem_append, List.mem_cons, mem_span, List.not_mem_nil, or_false]
  all_goals constructor
  all_goals intro h
  all_goals omega

theorem idx_length {f t : Nat} (ht : t ≤ 128) (hft : f < t) : (idx f t).length ≤ t + (if 8 < t then 1 else 0) + (if 72 < t then 2 else 0) := by
  unfold idx
  by_cases h1 : f < 72 ∧ 8 < t <;> by_cases h2 : 72 < t
  all_goals simp only [h1, h2, if_true, if_false, List.length_append, List.length_cons, span_length, List.length_nil, and_self]
  all_goals (try split)
  all_goals omega

/-- Each index gets a number that has none: the next one that is free. -/
def ensure (fr : List Num) : Gs → Nat → List Nat → Option (Gs × Nat)
  | G, k, [] => some (G, k)
  | G, k, i :: L => if G i = 0 then (match fr[k]? with | some r => ensure fr (upd G i r) (k + 1) L | none => none) else ensure fr G k L

theorem ensure_nil (fr : List Num) (G : Gs) (k : Nat) : ensure fr G k [] = some (G, k) := rfl
theorem ensure_has {fr : List Num} {G : Gs} {k i : Nat} {L : List Nat} (h : G i ≠ 0) : ensure fr G k (i :: L) = ensure fr G k L := by rw [ensure, if_neg h]
theorem ensure_take {fr : List Num} {G : Gs} {k i : Nat} {L : List Nat} {r : Num} (h : G i = 0) (hr : fr[k]? = some r) : ensure fr G k (i :: L) = ensure fr (upd G i r) (k + 1) L := by rw [ensure, if_pos h, hr]
theorem ensure_out {fr : List Num} {G : Gs} {k i : Nat} {L : List Nat} (h : G i = 0) (hr : fr[k]? = none) : ensure fr G k (i :: L) = none := by rw [ensure, if_pos h, hr]
theorem ensure_app (fr : List Num) : ∀ (L M : List Nat) (G : Gs) (k : Nat), ensure fr G k (L ++ M) = (ensure fr G k L).bind fun x => ensure fr x.1 x.2 M
  | [], M, G, k => by simp [ensure]
  | i :: L, M, G, k => by
    rw [List.cons_append]
    by_cases h : G i = 0
    · cases hr : fr[k]? with
      | none => rw [ensure_out h hr, ensure_out h hr]; rfl
      | some r => rw [ensure_take h hr, ensure_take h hr, ensure_app fr L M]
    · rw [ensure_has h, ensure_has h, ensure_app fr L M]

/-- What is known of numbers while free ones are taken: k of them are. -/
structure Tak (G0 : Gs) (fr : List Num) (G : Gs) (k : Nat) : Prop where
  le : k ≤ fr.length
  old : ∀ i, G0 i ≠ 0 → G i = G0 i
  new : ∀ i, G i ≠ 0 → G0 i = 0 → ∃ j, j < k ∧ fr[j]? = some (G i)
  inj : ∀ i j, G i = G j → G i ≠ 0 → i = j
  all : ∀ j r, j < k → fr[j]? = some r → ∃ i, G i = r ∧ G0 i = 0

theorem Tak.start {G : Gs} (fr : List Num) (hi : ∀ i j, G i = G j → G i ≠ 0 → i = j) : Tak G fr G 0 :=
  ⟨Nat.zero_le _, fun _ _ => rfl, fun _ h1 h2 => absurd h2 h1, hi, fun _ _ h => absurd h (Nat.not_lt_zero _)⟩

theorem Tak.take {G0 G : Gs} {fr : List Num} {k i : Nat} {r : Num} (h : Tak G0 fr G k) (hf : fr.Nodup) (h0 : ∀ x ∈ fr, x ≠ 0 ∧ ∀ i, G0 i ≠ x) (hi : G i = 0) (hr : fr[k]? = some r) : Tak G0 fr (upd G i r) (k + 1) := by
  have hk : k < fr.length := (List.getElem?_eq_some_iff.1 hr).1
  have hm : r ∈ fr := List.mem_of_getElem? hr
  have hfresh : ∀ j, G j ≠ r := by
    intro j e
    by_cases hz : G0 j = 0
    · obtain ⟨x, hx, hxe⟩ := h.new j (by rw [e]; exact (h0 r hm).1) hz
      rw [e] at hxe
      have := (List.getElem?_inj (by omega : x < fr.length) hf).1 (hxe.trans hr.symm)
      omega
    · rw [h.old j hz] at e
      exact (h0 r hm).2 j e
  refine ⟨by omega, ?_, ?_, ?_, ?_⟩
  · intro j hj
    by_cases e : j = i
    · subst e; exact absurd ((h.old j hj).symm.trans hi) hj
    · rw [upd_ne _ _ e]; exact h.old j hj
  · intro j h1 h2
    by_cases e : j = i
    · subst e; exact ⟨k, by omega, by rw [upd_same]; exact hr⟩
    · rw [upd_ne _ _ e] at h1 ⊢
      obtain ⟨x, hx, hxe⟩ := h.new j h1 h2
      exact ⟨x, by omega, hxe⟩
  · intro a b h1 h2
    by_cases ea : a = i <;> by_cases eb : b = i
    · rw [ea, eb]
    · subst ea; rw [upd_same, upd_ne _ _ eb] at h1; exact absurd h1.symm (hfresh b)
    · subst eb; rw [upd_same, upd_ne _ _ ea] at h1; exact absurd h1 (hfresh a)
    · rw [upd_ne _ _ ea, upd_ne _ _ eb] at h1; rw [upd_ne _ _ ea] at h2; exact h.inj a b h1 h2
  · intro j x hj hx
    by_cases e : j = k
    · subst e
      rw [hr] at hx
      refine ⟨i, by rw [upd_same]; exact Option.some.inj hx, ?_⟩
      exact Classical.byContradiction fun hn => hn ((h.old i hn).symm.trans hi)
    · obtain ⟨a, ha, hz⟩ := h.all j x (by omega) hx
      have : a ≠ i := by
        rintro rfl
        rw [hi] at ha
        exact (h0 x (List.mem_of_getElem? hx)).1 ha.symm
      exact ⟨a, by rw [upd_ne _ _ this]; exact ha, hz⟩

/-- What an ensure leaves. -/
structure Ens (G0 : Gs) (fr : List Num) (L : List Nat) (G : Gs) (k : Nat) : Prop where
  tak : Tak G0 fr G k
  out : ∀ i, i ∉ L → G i = G0 i
  has : ∀ i, i ∈ L → G i ≠ 0
  few : k ≤ L.length

theorem ensure_ok (G0 : Gs) (fr : List Num) (hf : fr.Nodup) (h0 : ∀ x ∈ fr, x ≠ 0 ∧ ∀ i, G0 i ≠ x) : ∀ (L D : List Nat) (G : Gs) (k : Nat) (G' : Gs) (k' : Nat), Ens G0 fr D G k → ensure fr G k L = some (G', k') → Ens G0 fr (D ++ L) G' k'
  | [], D, G, k, G', k', h, e => by
    obtain ⟨rfl, rfl⟩ : G = G' ∧ k = k' := by simpa [ensure] using e
    simpa using h
  | i :: L, D, G, k, G', k', h, e => by
    rw [show D ++ i :: L = (D ++ [i]) ++ L by simp]
    by_cases hi : G i = 0
    · cases hr : fr[k]? with
      | none => rw [ensure_out hi hr] at e; cases e
      | some r =>
        rw [ensure_take hi hr] at e
        have hr0 : r ≠ 0 := (h0 r (List.mem_of_getElem? hr)).1
        refine ensure_ok G0 fr hf h0 L (D ++ [i]) _ _ _ _ ⟨h.tak.take hf h0 hi hr, ?_, ?_, by simp; exact h.few⟩ e
        · intro j hj
          simp only [List.mem_append, List.mem_singleton, not_or] at hj
          rw [upd_ne _ _ hj.2]; exact h.out j hj.1
        · intro j hj
          by_cases ej : j = i
          · subst ej; rw [upd_same]; exact hr0
          · rw [upd_ne _ _ ej]
            simp only [List.mem_append, List.mem_singleton, ej, or_false] at hj
            exact h.has j hj
    · rw [ensure_has hi] at e
      refine ensure_ok G0 fr hf h0 L (D ++ [i]) _ _ _ _ ⟨h.tak, ?_, ?_, by simp; have := h.few; omega⟩ e
      · intro j hj
        simp only [List.mem_append, List.mem_singleton, not_or] at hj
        exact h.out j hj.1
      · intro j hj
        simp only [List.mem_append, List.mem_singleton] at hj
        rcases hj with hj | rfl
        · exact h.has j hj
        · exact hi

/-- It fails only where there are fewer than it looks at. -/
theorem ensure_fail (fr : List Num) : ∀ (L : List Nat) (G : Gs) (k : Nat), ensure fr G k L = none → fr.length < k + L.length
  | [], G, k, h => by simp [ensure] at h
  | i :: L, G, k, h => by
    by_cases hi : G i = 0
    · cases hr : fr[k]? with
      | none => have := List.getElem?_eq_none_iff.1 hr; simp; omega
      | some r =>
        rw [ensure_take hi hr] at h
        have := ensure_fail fr L _ _ h
        simp; omega
    · rw [ensure_has hi] at h
      have := ensure_fail fr L _ _ h
      simp; omega

theorem ensure_all {G G' : Gs} {fr : List Num} {L : List Nat} {k : Nat} (hi : ∀ i j, G i = G j → G i ≠ 0 → i = j) (hf : fr.Nodup) (h0 : ∀ x ∈ fr, x ≠ 0 ∧ ∀ i, G i ≠ x) (e : ensure fr G 0 L = some (G', k)) : Ens G fr L G' k := by
  have := ensure_ok G fr hf h0 L [] G 0 G' k ⟨Tak.start fr hi, fun _ _ => rfl, fun i h => absurd h (by simp), by simp⟩ e
  simpa using this

end Ino
end Go.Proofs.YtebdgcoandfocaaGreatDoor

/-
  A file in blocks: what its numbers, the blocks' bytes and the map of used blocks have to do with the file's bytes (W: byte by byte, zeros behind the size), and that a write, a cut and a growth keep it. Pure: no program.
-/
namespace Go.Proofs.YtebdgcoandfocaaGreatDoor
namespace Ino

def z512 : By := List.replicate 512 0#8
def zT : List Num := List.replicate 64 0#32
def tabB (t : List Num) : By := (t.map le4).flatten ++ List.replicate 256 0#8
def tab1 (G : Gs) : List Num := (List.range 64).map fun i => G (8 + i)
def tab2 (G : Gs) : List Num := (List.range 64).map fun i => if i < 56 then G (72 + i) else 0#32
def tabd (G : Gs) : List Num := G 130 :: List.replicate 63 0#32
def slab (W : Nat → BitVec 8) (p : Nat) : By := (List.range 512).map fun j => W (p * 512 + j)
def cont (V : Nat → By) (G : Gs) (p : Nat) : By := if G p = 0 then z512 else V (G p).toNat

theorem tab1_eq {G G' : Gs} : tab1 G = tab1 G' ↔ ∀ p, 8 ≤ p → p < 72 → G p = G' p := by
  unfold tab1
  rw [List.map_inj_left]
  constructor
  · intro h p h1 h2
    have := h (p - 8) (List.mem_range.2 (by omega))
    rwa [show 8 + (p - 8) = p by omega] at this
  · intro h i hi
    have := List.mem_range.1 hi
    exact h _ (by omega) (by omega)
theorem tab2_eq {G G' : Gs} : tab2 G = tab2 G' ↔ ∀ p, 72 ≤ p → p < 128 → G p = G' p := by
  unfold tab2
  rw [List.map_inj_left]
  constructor
  · intro h p h1 h2
    have := h (p - 72) (List.mem_range.2 (by omega))
    rw [if_pos (by omega), if_pos (by omega)] at this
    rwa [show 72 + (p - 72) = p by omega] at this
  · intro h i _
    by_cases h56 : i < 56
    · rw [if_pos h56, if_pos h56]; exact h _ (by omega) (by omega)
    · rw [if_neg h56, if_neg h56]
theorem tabd_eq {G G' : Gs} (h : G 130 = G' 130) : tabd G = tabd G' := by unfold tabd; rw [h]
theorem tab1_zero {G : Gs} : tab1 G = zT ↔ ∀ p, 8 ≤ p → p < 72 → G p = 0 := by
  rw [show zT = tab1 (fun _ => 0) by decide, tab1_eq]
theorem tab2_zero {G : Gs} : tab2 G = zT ↔ ∀ p, 72 ≤ p → p < 128 → G p = 0 := by
  rw [show zT = tab2 (fun _ => 0) by decide, tab2_eq]

structure File (n : Nat) (U : Nat → Bool) (V : Nat → By) (G : Gs) (sz : Nat) (W : Nat → BitVec 8) : Prop where
  le : sz ≤ 65536
  fin : ∀ i, 131 ≤ i → G i = 0
  inj : ∀ i j, G i = G j → G i ≠ 0 → i = j
  lt : ∀ i, G i ≠ 0 → (G i).toNat < n
  used : ∀ x, x < n → (U x = true ↔ x = 0 ∨ ∃ i, G i ≠ 0 ∧ (G i).toNat = x)
  one : G 128 ≠ 0 ↔ ∃ p, 8 ≤ p ∧ p < 72 ∧ G p ≠ 0
  two : G 130 ≠ 0 ↔ ∃ p, 72 ≤ p ∧ p < 128 ∧ G p ≠ 0
  dbl : G 129 ≠ 0 ↔ G 130 ≠ 0
  t1 : G 128 ≠ 0 → V (G 128).toNat = tabB (tab1 G)
  td : G 129 ≠ 0 → V (G 129).toNat = tabB (tabd G)
  t2 : G 130 ≠ 0 → V (G 130).toNat = tabB (tab2 G)
  data : ∀ p, p < 128 → cont V G p = slab W p
  zero : ∀ i, sz ≤ i → W i = 0
  far : ∀ p, p < 128 → sz ≤ p * 512 → G p = 0

theorem slab_zero (p : Nat) : slab (fun _ => 0) p = z512 := by
  unfold slab z512; rw [List.map_const', List.length_range]; rfl

theorem File.new (n : Nat) (U : Nat → Bool) (V : Nat → By) (hU : ∀ x, x < n → (U x = true ↔ x = 0)) : File n U V (fun _ => 0) 0 (fun _ => 0) where
  le := by omega
  fin _ _ := rfl
  inj _ _ _ h := absurd rfl h
  lt _ h := absurd rfl h
  used x hx := by simpa using hU x hx
  one := by simp
  two := by simp
  dbl := by simp
  t1 h := absurd rfl h
  td h := absurd rfl h
  t2 h := absurd rfl h
  data p _ := by rw [slab_zero]; unfold cont; rw [if_pos rfl]
  zero _ _ := rfl
  far _ _ _ := rfl

theorem File.grow {n : Nat} {U : Nat → Bool} {V : Nat → By} {G : Gs} {sz sz' : Nat} {W : Nat → BitVec 8} (h : File n U V G sz W) (h1 : sz ≤ sz') (h2 : sz' ≤ 65536) : File n U V G sz' W :=
  { h with le := h2, zero := fun i hi => h.zero i (by omega), far := fun p hp hs => h.far p hp (by omega) }

theorem File.write {n : Nat} {U U' : Nat → Bool} {V V' : Nat → By} {G G' : Gs} {sz sz' f t k : Nat} {W W' : Nat → BitVec 8} {fr : List Num} (h : File n U V G sz W) (hft : f < t) (ht : t ≤ 128) (e : Ens G fr (idx f t) G' k)
    (hfr : ∀ x ∈ fr, x ≠ 0 ∧ x.toNat < n) (hU : ∀ x, x < n → (U' x = true ↔ U x = true ∨ ∃ j r, j < k ∧ fr[j]? = some r ∧ r.toNat = x))
    (hV1 : f < 72 → 8 < t → V' (G' 128).toNat = tabB (tab1 G')) (hVd : 72 < t → V' (G' 129).toNat = tabB (tabd G')) (hV2 : 72 < t → V' (G' 130).toNat = tabB (tab2 G'))
    (hVp : ∀ p, f ≤ p → p < t → V' (G' p).toNat = slab W' p) (hVo : ∀ i, i ∉ idx f t → G i ≠ 0 → V' (G i).toNat = V (G i).toNat)
    (hW : ∀ p, p < 128 → ¬ (f ≤ p ∧ p < t) → slab W' p = slab W p) (hs1 : sz ≤ sz') (hs2 : sz' ≤ 65536) (hz : ∀ i, sz' ≤ i → W' i = 0) (hts : (t - 1) * 512 < sz') : File n U' V' G' sz' W' := by
  have mi := fun x => @mem_idx f t x ht hft
  have keep : ∀ i, G i ≠ 0 → G' i = G i := e.tak.old
  have out : ∀ i, i ∉ idx f t → G' i = G i := e.out
  refine ⟨hs2, ?_, e.tak.inj, ?_, ?_, ?_, ?_, ?_, ?_, ?_, ?_, ?_, hz, ?_⟩
  · intro i hi
    rw [out i (by rw [mi]; omega)]; exact h.fin i hi
  · intro i hi
    by_cases hg : G i = 0
    · obtain ⟨j, _, hj⟩ := e.tak.new i hi hg
      exact (hfr _ (List.mem_of_getElem? hj)).2
    · rw [keep i hg]; exact h.lt i hg
  · intro x hx
    rw [hU x hx, h.used x hx]
    constructor
    · rintro ((rfl | ⟨i, h1, h2⟩) | ⟨j, r, h1, h2, h3⟩)
      · exact .inl rfl
      · exact .inr ⟨i, by rw [keep i h1]; exact h1, by rw [keep i h1]; exact h2⟩
      · obtain ⟨i, hi, _⟩ := e.tak.all j r h1 h2
        exact .inr ⟨i, by rw [hi]; exact (hfr r (List.mem_of_getElem? h2)).1, by rw [hi]; exact h3⟩
    · rintro (rfl | ⟨i, h1, h2⟩)
      · exact .inl (.inl rfl)
      · by_cases hg : G i = 0
        · obtain ⟨j, hj, hj2⟩ := e.tak.new i h1 hg
          exact .inr ⟨j, _, hj, hj2, h2⟩
        · rw [keep i hg] at h2; exact .inl (.inr ⟨i, hg, h2⟩)
  · constructor
    · intro h8
      by_cases hm : f < 72 ∧ 8 < t
      · exact ⟨max f 8, by omega, by omega, e.has _ ((mi _).2 (by omega))⟩
      · rw [out 128 (by rw [mi]; omega)] at h8
        obtain ⟨p, h1, h2, h3⟩ := h.one.1 h8
        exact ⟨p, h1, h2, by rw [keep p h3]; exact h3⟩
    · rintro ⟨p, h1, h2, h3⟩
      by_cases hm : f ≤ p ∧ p < t
      · exact e.has _ ((mi _).2 (by omega))
      · rw [out p (by rw [mi]; omega)] at h3
        have := h.one.2 ⟨p, h1, h2, h3⟩
        rw [keep _ this]; exact this
  · constructor
    · intro h8
      by_cases hm : 72 < t
      · exact ⟨max f 72, by omega, by omega, e.has _ ((mi _).2 (by omega))⟩
      · rw [out 130 (by rw [mi]; omega)] at h8
        obtain ⟨p, h1, h2, h3⟩ := h.two.1 h8
        exact ⟨p, h1, h2, by rw [keep p h3]; exact h3⟩
    · rintro ⟨p, h1, h2, h3⟩
      by_cases hm : f ≤ p ∧ p < t
      · exact e.has _ ((mi _).2 (by omega))
      · rw [out p (by rw [mi]; omega)] at h3
        have := h.two.2 ⟨p, h1, h2, h3⟩
        rw [keep _ this]; exact this
  · by_cases hm : 72 < t
    · exact ⟨fun _ => e.has _ ((mi _).2 (by omega)), fun _ => e.has _ ((mi _).2 (by omega))⟩
    · rw [out 129 (by rw [mi]; omega), out 130 (by rw [mi]; omega)]; exact h.dbl
  · intro h8
    by_cases hm : f < 72 ∧ 8 < t
    · exact hV1 hm.1 hm.2
    · have hn : 128 ∉ idx f t := by rw [mi]; omega
      rw [out 128 hn] at h8 ⊢
      rw [hVo 128 hn h8, h.t1 h8]
      refine congrArg tabB (tab1_eq.2 fun p h1 h2 => ?_)
      rw [out p (by rw [mi]; omega)]
  · intro h8
    by_cases hm : 72 < t
    · exact hVd hm
    · have hn : 129 ∉ idx f t := by rw [mi]; omega
      rw [out 129 hn] at h8 ⊢
      rw [hVo 129 hn h8, h.td h8]
      refine congrArg tabB (tabd_eq ?_)
      rw [out 130 (by rw [mi]; omega)]
  · intro h8
    by_cases hm : 72 < t
    · exact hV2 hm
    · have hn : 130 ∉ idx f t := by rw [mi]; omega
      rw [out 130 hn] at h8 ⊢
      rw [hVo 130 hn h8, h.t2 h8]
      refine congrArg tabB (tab2_eq.2 fun p h1 h2 => ?_)
      rw [out p (by rw [mi]; omega)]
  · intro p hp
    by_cases hm : f ≤ p ∧ p < t
    · rw [cont, if_neg (e.has _ ((mi _).2 (by omega))), hVp p hm.1 hm.2]
    · have hn : p ∉ idx f t := by rw [mi]; omega
      rw [hW p hp hm, ← h.data p hp, cont, cont, out p hn]
      by_cases hg : G p = 0
      · rw [if_pos hg, if_pos hg]
      · rw [if_neg hg, if_neg hg, hVo p hn hg]
  · intro p hp hs
    rw [out p (by rw [mi]; omega)]; exact h.far p hp (by omega)

/-- Places behind a size are given up, and blocks of numbers that lead to nothing then. -/
def cutP (size : Nat) (G : Gs) : Gs := fun p => if p < 128 ∧ size ≤ p * 512 then 0 else G p
def cutG (size : Nat) (G : Gs) : Gs := fun i => if i = 128 ∧ tab1 (cutP size G) = zT then 0 else if (i = 129 ∨ i = 130) ∧ tab2 (cutP size G) = zT then 0 else cutP size G i

theorem cutG_place {size : Nat} {G : Gs} {p : Nat} (h : p < 128) : cutG size G p = cutP size G p := by
  unfold cutG; rw [if_neg (by omega), if_neg (by omega)]
theorem cutG_sub {size : Nat} {G : Gs} {i : Nat} (h : cutG size G i ≠ 0) : cutG size G i = G i := by
  unfold cutG at *
  split at h
  · exact absurd rfl h
  · rename_i h1
    rw [if_neg h1]
    split at h
    · exact absurd rfl h
    · rename_i h2
      rw [if_neg h2]
      unfold cutP at *
      split at h
      · exact absurd rfl h
      · rename_i h3; rw [if_neg h3]

theorem File.cut {n : Nat} {U U' : Nat → Bool} {V V' : Nat → By} {G : Gs} {sz size : Nat} {W : Nat → BitVec 8} (h : File n U V G sz W) (hs : size < sz)
    (hU : ∀ x, x < n → (U' x = true ↔ U x = true ∧ ¬ ∃ i, G i ≠ 0 ∧ cutG size G i = 0 ∧ (G i).toNat = x))
    (hV1 : cutG size G 128 ≠ 0 → V' (G 128).toNat = tabB (tab1 (cutG size G))) (hVd : cutG size G 129 ≠ 0 → V' (G 129).toNat = tabB (tabd (cutG size G))) (hV2 : cutG size G 130 ≠ 0 → V' (G 130).toNat = tabB (tab2 (cutG size G)))
    (hVp : ∀ p, p < 128 → cutG size G p ≠ 0 → V' (G p).toNat = slab (fun i => if i < size then W i else 0) p) : File n U' V' (cutG size G) size (fun i => if i < size then W i else 0) := by
  have e1 : tab1 (cutG size G) = tab1 (cutP size G) := tab1_eq.2 fun p _ h2 => cutG_place (by omega)
  have e2 : tab2 (cutG size G) = tab2 (cutP size G) := tab2_eq.2 fun p _ h2 => cutG_place (by omega)
  have z1 : cutG size G 128 ≠ 0 ↔ (∃ p, 8 ≤ p ∧ p < 72 ∧ cutG size G p ≠ 0) := by
    by_cases hz : tab1 (cutP size G) = zT
    · have hall := tab1_zero.1 (e1.trans hz)
      refine ⟨fun hc => absurd ?_ hc, fun ⟨p, h1, h2, h3⟩ => absurd (hall p h1 h2) h3⟩
      unfold cutG; rw [if_pos ⟨rfl, hz⟩]
    · have hc : cutG size G 128 = G 128 := by
        unfold cutG; rw [if_neg (fun h => hz h.2), if_neg (by omega)]; unfold cutP; rw [if_neg (by omega)]
      have hex : ∃ p, 8 ≤ p ∧ p < 72 ∧ cutG size G p ≠ 0 := Classical.byContradiction fun hn => hz (e1.symm.trans (tab1_zero.2 fun p h1 h2 => Classical.byContradiction fun h3 => hn ⟨p, h1, h2, h3⟩))
      refine ⟨fun _ => hex, fun _ => ?_⟩
      obtain ⟨p, h1, h2, h3⟩ := hex
      rw [hc]
      exact h.one.2 ⟨p, h1, h2, by rw [← cutG_sub h3]; exact h3⟩
  have z2 : ∀ i, (i = 129 ∨ i = 130) → (cutG size G i ≠ 0 ↔ (∃ p, 72 ≤ p ∧ p < 128 ∧ cutG size G p ≠ 0)) := by
    intro i hi
    by_cases hz : tab2 (cutP size G) = zT
    · have hall := tab2_zero.1 (e2.trans hz)
      refine ⟨fun hc => absurd ?_ hc, fun ⟨p, h1, h2, h3⟩ => absurd (hall p h1 h2) h3⟩
      unfold cutG; rw [if_neg (by omega), if_pos ⟨hi, hz⟩]
    · have hc : cutG size G i = G i := by
        unfold cutG; rw [if_neg (by omega), if_neg (fun h => hz h.2)]; unfold cutP; rw [if_neg (by omega)]
      have hex : ∃ p, 72 ≤ p ∧ p < 128 ∧ cutG size G p ≠ 0 := Classical.byContradiction fun hn => hz (e2.symm.trans (tab2_zero.2 fun p h1 h2 => Classical.byContradiction fun h3 => hn ⟨p, h1, h2, h3⟩))
      refine ⟨fun _ => hex, fun _ => ?_⟩
      obtain ⟨p, h1, h2, h3⟩ := hex
      rw [hc]
      have h130 := h.two.2 ⟨p, h1, h2, by rw [← cutG_sub h3]; exact h3⟩
      rcases hi with rfl | rfl
      · exact h.dbl.2 h130
      · exact h130
  have hle := h.le
  refine ⟨by omega, ?_, ?_, ?_, ?_, z1, z2 130 (.inr rfl), (z2 129 (.inl rfl)).trans (z2 130 (.inr rfl)).symm, ?_, ?_, ?_, ?_, ?_, ?_⟩
  · intro i hi
    exact Classical.byContradiction fun hn => hn ((cutG_sub hn).trans (h.fin i hi))
  · intro i j h1 h2
    have h3 : cutG size G j ≠ 0 := h1 ▸ h2
    rw [cutG_sub h2, cutG_sub h3] at h1
    rw [cutG_sub h2] at h2
    exact h.inj i j h1 h2
  · intro i hi
    have hg : G i ≠ 0 := cutG_sub hi ▸ hi
    rw [cutG_sub hi]
    exact h.lt i hg
  · intro x hx
    rw [hU x hx, h.used x hx]
    constructor
    · rintro ⟨rfl | ⟨i, h1, h2⟩, hn⟩
      · exact .inl rfl
      · by_cases hc : cutG size G i = 0
        · exact absurd ⟨i, h1, hc, h2⟩ hn
        · exact .inr ⟨i, hc, by rw [cutG_sub hc]; exact h2⟩
    · rintro (rfl | ⟨i, h1, h2⟩)
      · refine ⟨.inl rfl, ?_⟩
        rintro ⟨i, h1, _, h2⟩
        exact h1 (BitVec.eq_of_toNat_eq (by simpa using h2))
      · rw [cutG_sub h1] at h2
        refine ⟨.inr ⟨i, by rw [← cutG_sub h1]; exact h1, h2⟩, ?_⟩
        rintro ⟨j, h3, h4, h5⟩
        have : j = i := h.inj j i (BitVec.eq_of_toNat_eq (h5.trans h2.symm)) h3
        subst this
        exact h1 h4
  · intro hc; rw [cutG_sub hc]; exact hV1 hc
  · intro hc; rw [cutG_sub hc]; exact hVd hc
  · intro hc; rw [cutG_sub hc]; exact hV2 hc
  · intro p hp
    by_cases hc : cutG size G p = 0
    · rw [cont, if_pos hc]
      by_cases hs2 : size ≤ p * 512
      · unfold slab z512
        rw [show (fun j => if p * 512 + j < size then W (p * 512 + j) else 0) = fun _ => 0#8 from funext fun j => if_neg (by omega), List.map_const', List.length_range]
      · have hg : G p = 0 := by rw [cutG_place hp] at hc; unfold cutP at hc; rwa [if_neg (by omega)] at hc
        have hd := h.data p hp
        rw [cont, if_pos hg] at hd
        have hall : ∀ j, j < 512 → W (p * 512 + j) = 0 := by
          intro j hj
          have e3 : (slab W p)[j]? = some (W (p * 512 + j)) := by rw [slab, List.getElem?_map, List.getElem?_range hj]; rfl
          have e4 : z512[j]? = some 0#8 := by rw [z512, List.getElem?_replicate, if_pos hj]
          rw [← hd, e4] at e3
          exact (Option.some.inj e3).symm
        rw [← slab_zero p]
        unfold slab
        refine List.map_congr_left fun j hj => ?_
        show 0#8 = if p * 512 + j < size then W (p * 512 + j) else 0#8
        rw [hall j (List.mem_range.1 hj)]
        split <;> rfl
    · rw [cont, if_neg hc, cutG_sub hc]; exact hVp p hp hc
  · intro i hi; exact if_neg (by omega)
  · intro p hp hs2
    rw [cutG_place hp]; unfold cutP; rw [if_pos ⟨hp, hs2⟩]

end Ino
end Go.Proofs.YtebdgcoandfocaaGreatDoor

/-
  A file in blocks: how many blocks it takes; the free ones, in their order; puts. Pure: no program.
-/
namespace Go.Proofs.YtebdgcoandfocaaGreatDoor
namespace Ino

def frees (n : Nat) (U : Nat → Bool) : List Nat := (List.range n).filter fun x => !U x
def freeB (n : Nat) (U : Nat → Bool) : List Num := (frees n U).map (BitVec.ofNat 32)

theorem mem_frees {n x : Nat} {U : Nat → Bool} : x ∈ frees n U ↔ x < n ∧ U x = false := by simp [frees]
theorem frees_nodup (n : Nat) (U : Nat → Bool) : (frees n U).Nodup := List.nodup_range.filter _
theorem frees_sorted (n : Nat) (U : Nat → Bool) : (frees n U).Pairwise (· < ·) := (List.pairwise_lt_range (n := n)).filter _
/-- The next one to be taken is the least of those that are free behind k takes. -/
theorem frees_next {n k r : Nat} {U : Nat → Bool} (h : (frees n U)[k]? = some r) : r < n ∧ U r = false ∧ r ∉ (frees n U).take k ∧ ∀ i, i < r → U i = true ∨ i ∈ (frees n U).take k := by
  have hs := frees_sorted n U
  obtain ⟨hk, he⟩ := List.getElem?_eq_some_iff.1 h
  have hm := mem_frees.1 (List.mem_of_getElem? h)
  refine ⟨hm.1, hm.2, ?_, ?_⟩
  · intro hin
    obtain ⟨j, hj, hje⟩ := List.getElem_of_mem hin
    rw [List.length_take] at hj
    rw [List.getElem_take] at hje
    have := (List.pairwise_iff_getElem.1 hs) j k (by omega) hk (by omega)
    omega
  · intro i hi
    by_cases hu : U i = true
    · exact .inl hu
    · refine .inr ?_
      have hin : i ∈ frees n U := mem_frees.2 ⟨by omega, by simpa using hu⟩
      obtain ⟨j, hj, hje⟩ := List.getElem_of_mem hin
      have hjk : j < k := by
        rcases Nat.lt_trichotomy j k with hlt | rfl | hgt
        · exact hlt
        · omega
        · have := (List.pairwise_iff_getElem.1 hs) k j hk hj hgt
          omega
      rw [← hje]
      exact List.mem_iff_getElem.2 ⟨j, by rw [List.length_take]; omega, by rw [List.getElem_take]⟩
theorem frees_none {n k : Nat} {U : Nat → Bool} (h : (frees n U)[k]? = none) : ∀ i, i < n → U i = true ∨ i ∈ (frees n U).take k := by
  intro i hi
  by_cases hu : U i = true
  · exact .inl hu
  · rw [List.take_of_length_le (List.getElem?_eq_none_iff.1 h)]
    exact .inr (mem_frees.2 ⟨hi, by simpa using hu⟩)

theorem freeB_nodup {n : Nat} {U : Nat → Bool} (hn : n ≤ 4294967296) : (freeB n U).Nodup := by
  unfold freeB
  rw [List.nodup_iff_pairwise_ne, List.pairwise_map]
  refine (List.nodup_iff_pairwise_ne.1 (frees_nodup n U)).imp_of_mem ?_
  intro a b ha hb hab e
  have h1 := (mem_frees.1 ha).1
  have h2 := (mem_frees.1 hb).1
  have := congrArg BitVec.toNat e
  rw [BitVec.toNat_ofNat, BitVec.toNat_ofNat, Nat.mod_eq_of_lt (by omega), Nat.mod_eq_of_lt (by omega)] at this
  exact hab this

theorem mem_freeB {n : Nat} {U : Nat → Bool} (hn : n ≤ 4294967296) {x : Num} (h : x ∈ freeB n U) : x.toNat < n ∧ U x.toNat = false := by
  obtain ⟨y, hy, rfl⟩ := List.mem_map.1 h
  have := mem_frees.1 hy
  rw [BitVec.toNat_ofNat, Nat.mod_eq_of_lt (by omega)]
  exact this

theorem File.free {n : Nat} {U : Nat → Bool} {V : Nat → By} {G : Gs} {sz : Nat} {W : Nat → BitVec 8} (h : File n U V G sz W) (hn : n ≤ 4294967296) : ∀ x ∈ freeB n U, x ≠ 0 ∧ ∀ i, G i ≠ x := by
  intro x hx
  obtain ⟨h1, h2⟩ := mem_freeB hn hx
  have hx0 : x ≠ 0 := by
    rintro rfl
    have := (h.used 0 (by simpa using h1)).2 (.inl rfl)
    have h3 : U 0 = false := by simpa using h2
    rw [h3] at this; cases this
  refine ⟨hx0, ?_⟩
  rintro i rfl
  have := (h.used _ h1).2 (.inr ⟨i, hx0, rfl⟩)
  rw [h2] at this; cases this

/-- How many blocks a file has. -/
def hasL (G : Gs) : List Nat := (List.range 131).filter fun i => G i != 0
def cnt (G : Gs) : Nat := (hasL G).length
theorem mem_hasL {G : Gs} {i : Nat} : i ∈ hasL G ↔ i < 131 ∧ G i ≠ 0 := by simp [hasL]

theorem File.count {n : Nat} {U : Nat → Bool} {V : Nat → By} {G : Gs} {sz : Nat} {W : Nat → BitVec 8} (h : File n U V G sz W) (hn : 0 < n) : (frees n U).length + cnt G + 1 = n := by
  have h1 : ((List.range n).filter fun x => U x).length = ((0 :: (hasL G).map fun i => (G i).toNat)).length := by
    refine List.Perm.length_eq ((List.perm_ext_iff_of_nodup (List.nodup_range.filter _) ?_).2 ?_)
    · rw [List.nodup_cons]
      constructor
      · intro hm
        obtain ⟨i, hi, he⟩ := List.mem_map.1 hm
        exact (mem_hasL.1 hi).2 (BitVec.eq_of_toNat_eq (by simpa using he))
      · rw [List.nodup_iff_pairwise_ne, List.pairwise_map]
        refine (List.nodup_iff_pairwise_ne.1 ((List.nodup_range (n := 131)).filter (fun i => G i != 0))).imp_of_mem ?_
        intro a b ha _ hab e
        exact hab (h.inj a b (BitVec.eq_of_toNat_eq e) (mem_hasL.1 ha).2)
    · intro x
      rw [List.mem_filter, List.mem_range, List.mem_cons, List.mem_map]
      constructor
      · rintro ⟨hx, hu⟩
        rcases (h.used x hx).1 hu with rfl | ⟨i, h2, h3⟩
        · exact .inl rfl
        · refine .inr ⟨i, mem_hasL.2 ⟨?_, h2⟩, h3⟩
          exact Nat.lt_of_not_le fun hle => h2 (h.fin i hle)
      · rintro (rfl | ⟨i, h2, rfl⟩)
        · exact ⟨hn, (h.used 0 hn).2 (.inl rfl)⟩
        · have := (mem_hasL.1 h2).2
          exact ⟨h.lt i this, (h.used _ (h.lt i this)).2 (.inr ⟨i, this, rfl⟩)⟩
  have h2 := List.length_eq_countP_add_countP (fun x => U x) (l := List.range n)
  rw [List.length_range, List.countP_eq_length_filter, List.countP_eq_length_filter, h1] at h2
  have h3 : ((List.range n).filter fun x => decide (¬ U x = true)) = frees n U := by
    unfold frees
    refine List.filter_congr fun x _ => ?_
    cases U x <;> rfl
  rw [h3] at h2
  simp only [List.length_cons, List.length_map] at h2
  unfold cnt
  omega

/-- What a size costs, by its blocks. -/
def costB (b : Nat) : Nat := b + (if 8 < b then 1 else 0) + (if 72 < b then 2 else 0)
theorem costB_mono {a b : Nat} (h : a ≤ b) : costB a ≤ costB b := by
  unfold costB
  split <;> split <;> split <;> split <;> omega

theorem range131 : List.range 131 = List.range 128 ++ [128, 129, 130] := by decide
theorem range_split {b : Nat} (h : b ≤ 128) : List.range 128 = List.range b ++ (List.range (128 - b)).map (b + ·) := by
  have := List.range_add (n := b) (m := 128 - b)
  rwa [show b + (128 - b) = 128 by omega] at this

theorem cnt_split (G : Gs) {b : Nat} (hb : b ≤ 128) (hz : ∀ p, b ≤ p → p < 128 → G p = 0) : cnt G = ((List.range b).filter fun i => G i != 0).length + (if G 128 = 0 then 0 else 1) + (if G 129 = 0 then 0 else 1) + (if G 130 = 0 then 0 else 1) := by
  unfold cnt hasL
  rw [range131, List.filter_append, range_split hb, List.filter_append]
  have : ((List.range (128 - b)).map (b + ·)).filter (fun i => G i != 0) = [] := by
    rw [List.filter_eq_nil_iff]
    intro x hx
    obtain ⟨y, hy, rfl⟩ := List.mem_map.1 hx
    have := List.mem_range.1 hy
    simp [hz (b + y) (by omega) (by omega)]
  rw [this, List.append_nil, List.length_append]
  have h3 : ([128, 129, 130].filter fun i => G i != 0).length = (if G 128 = 0 then 0 else 1) + (if G 129 = 0 then 0 else 1) + (if G 130 = 0 then 0 else 1) := by
    by_cases h1 : G 128 = 0 <;> by_cases h2 : G 129 = 0 <;> by_cases h3 : G 130 = 0 <;> simp_all
  rw [h3]; omega

theorem File.cost {n : Nat} {U : Nat → Bool} {V : Nat → By} {G : Gs} {sz : Nat} {W : Nat → BitVec 8} (h : File n U V G sz W) : cnt G ≤ costB ((sz + 511) / 512) := by
  have hle := h.le
  have hz : ∀ p, (sz + 511) / 512 ≤ p → p < 128 → G p = 0 := fun p h1 h2 => h.far p h2 (by omega)
  rw [cnt_split G (b := (sz + 511) / 512) (by omega) hz]
  have h0 : ((List.range ((sz + 511) / 512)).filter fun i => G i != 0).length ≤ (sz + 511) / 512 := by
    have := List.length_filter_le (fun i => G i != 0) (List.range ((sz + 511) / 512))
    rwa [List.length_range] at this
  have h1 : G 128 ≠ 0 → 8 < (sz + 511) / 512 := by
    intro hg
    obtain ⟨p, p1, p2, p3⟩ := h.one.1 hg
    exact Nat.lt_of_not_le fun hn => p3 (hz p (by omega) (by omega))
  have h2 : G 130 ≠ 0 → 72 < (sz + 511) / 512 := by
    intro hg
    obtain ⟨p, p1, p2, p3⟩ := h.two.1 hg
    exact Nat.lt_of_not_le fun hn => p3 (hz p (by omega) (by omega))
  have h3 : G 129 ≠ 0 → 72 < (sz + 511) / 512 := fun hg => h2 (h.dbl.1 hg)
  unfold costB
  by_cases g1 : G 128 = 0 <;> by_cases g2 : G 129 = 0 <;> by_cases g3 : G 130 = 0
  all_goals simp only [g1, g2, g3, if_true, if_false]
  all_goals (try have := h1 g1)
  all_goals (try have := h2 g3)
  all_goals (try have := h3 g2)
  all_goals (repeat' split)
  all_goals omega

/-- A file without holes costs all. -/
theorem File.cost_full {n : Nat} {U : Nat → Bool} {V : Nat → By} {G : Gs} {sz : Nat} {W : Nat → BitVec 8} (h : File n U V G sz W) (hf : ∀ p, p < (sz + 511) / 512 → G p ≠ 0) : cnt G = costB ((sz + 511) / 512) := by
  refine Nat.le_antisymm h.cost ?_
  have hle := h.le
  have hz : ∀ p, (sz + 511) / 512 ≤ p → p < 128 → G p = 0 := fun p h1 h2 => h.far p h2 (by omega)
  rw [cnt_split G (b := (sz + 511) / 512) (by omega) hz]
  have h0 : ((List.range ((sz + 511) / 512)).filter fun i => G i != 0) = List.range ((sz + 511) / 512) := by
    rw [List.filter_eq_self]
    intro x hx
    simpa using hf x (List.mem_range.1 hx)
  rw [h0, List.length_range]
  unfold costB
  have h1 : 8 < (sz + 511) / 512 → G 128 ≠ 0 := fun hb => h.one.2 ⟨8, by omega, by omega, hf 8 hb⟩
  have h2 : 72 < (sz + 511) / 512 → G 130 ≠ 0 := fun hb => h.two.2 ⟨72, by omega, by omega, hf 72 hb⟩
  by_cases b1 : 8 < (sz + 511) / 512
  · rw [if_pos b1, if_neg (h1 b1)]
    by_cases b2 : 72 < (sz + 511) / 512
    · rw [if_pos b2, if_neg (h2 b2), if_neg (h.dbl.2 (h2 b2))]; omega
    · rw [if_neg b2]; omega
  · rw [if_neg b1, if_neg (by omega)]; omega

/-- Where a write finds too few, there are fewer than it costs. -/
theorem File.fail {n : Nat} {U : Nat → Bool} {V : Nat → By} {G : Gs} {sz f t : Nat} {W : Nat → BitVec 8} (_h : File n U V G sz W) (hft : f < t) (ht : t ≤ 128) (e : ensure (freeB n U) G 0 (idx f t) = none) : (frees n U).length < costB t := by
  have h1 := ensure_fail _ _ _ _ e
  have h2 := idx_length ht hft
  unfold freeB at h1
  rw [List.length_map] at h1
  unfold costB
  omega

/-- Puts, one after another. -/
def putsV (V : Nat → By) : List (Nat × By) → (Nat → By)
  | [] => V
  | q :: l => putsV (fun x => if x = q.1 then q.2 else V x) l
theorem putsV_not : ∀ {l : List (Nat × By)} {V : Nat → By} {x : Nat}, (∀ q ∈ l, q.1 ≠ x) → putsV V l x = V x
  | [], _, _, _ => rfl
  | q :: l, V, x, h => by
    rw [putsV, putsV_not fun y hy => h y (List.mem_cons_of_mem _ hy)]
    exact if_neg fun e => h q List.mem_cons_self e.symm
theorem putsV_mem : ∀ {l : List (Nat × By)} {V : Nat → By} {q : Nat × By}, (l.map Prod.fst).Nodup → q ∈ l → putsV V l q.1 = q.2
  | p :: l, V, q, hn, hq => by
    rw [List.map_cons, List.nodup_cons] at hn
    rcases List.mem_cons.1 hq with rfl | hq
    · rw [putsV, putsV_not fun y hy e => hn.1 (List.mem_map.2 ⟨y, hy, e⟩)]
      exact if_pos rfl
    · rw [putsV]; exact putsV_mem hn.2 hq

/-- A file's bytes behind a write of b at a place. -/
def wrote (W : Nat → BitVec 8) (at_ : Nat) (b : By) : Nat → BitVec 8 := fun i => if at_ ≤ i ∧ i < at_ + b.length then b.getD (i - at_) 0 else W i
theorem wrote_out {W : Nat → BitVec 8} {at_ : Nat} {b : By} {p : Nat} (h : ¬ (at_ / 512 ≤ p ∧ p < (at_ + b.length + 511) / 512)) : slab (wrote W at_ b) p = slab W p := by
  unfold slab wrote
  refine List.map_congr_left fun j hj => ?_
  have := List.mem_range.1 hj
  exact if_neg (by omega)
theorem wrote_zero {W : Nat → BitVec 8} {at_ sz : Nat} {b : By} (hz : ∀ i, sz ≤ i → W i = 0) : ∀ i, max sz (at_ + b.length) ≤ i → wrote W at_ b i = 0 := by
  intro i hi
  unfold wrote
  rw [if_neg (by omega)]
  exact hz i (by omega)

end Ino
end Go.Proofs.YtebdgcoandfocaaGreatDoor
