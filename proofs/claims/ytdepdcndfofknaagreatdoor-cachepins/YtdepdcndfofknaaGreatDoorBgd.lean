/-
  What WalWhole lays in memory: a block of bytes over and over; a row of puts.
-/
import Derived.Test.YtdepdcndfofknaaGreatDoorBga
import Derived.Test.YtdepdcndfofknaaGreatDoorBgc
import Derived.BigRegion

/-
  Read of a volume, and where what it answers lies.
-/
namespace Go.Proofs.YtdepdcndfofknaaGreatDoor
open Go.RowKit Go.Maps Go.Sort Go.Shelf

set_option maxRecDepth 8000 in
set_option maxHeartbeats 1000000 in
theorem vReadT_fresh (i : Nat) (b : By) (v : Nat) (commits turn next : Nat) (f nf : Nat) (F : DataW Value) (fr : Nat → Option By) (d : DS) (w : World) (h : IsVol w v (dp d.a) commits turn next (some f) d.count) (hd : Dev w d) (hn : 16 ≤ d.n) (hF : Fresh w f nf F fr) (hi : i < nbOf d.n) (hfr : fr i = some b) :
    Calls Tryz.prog 26 #[dp v, .int .i64 i] w fun e w' => ∃ g cp, e = .returned (.tuple #[.slice (some ⟨g, 0, none⟩) 512 cp, .int .i64 0]) ∧ 512 ≤ cp ∧ b.length = 512 ∧ Bytes w' (some ⟨g, 0, none⟩) b ∧ Below w.heap.size w w' ∧ w.heap.size ≤ g ∧ ∃ cs fr, w'.heap[g]? = some (.cells cs 5 fr) := by
  have hle := hd.hn
  have hnb : nbOf d.n ≤ 65536 := by unfold nbOf; omega
  have c47 := vHas i v commits turn next (some f) d.count d w h hd hn
  rw [show decide ((0 : Int) ≤ (i : Int) ∧ (i : Int) < (nbOf d.n : Nat)) = true by simp; omega] at c47
  have c13 := catchUp_idle v commits turn next (some f) d w h hd
  obtain ⟨hbl, g0, cp0, hat, hcp0, hb0, _⟩ := hF.val i b (by omega) hfr
  have hhas := hF.has i (by omega)
  rw [hfr] at hhas
  have lk : ∀ k, (Instr.lookup 102 (.map (some f)) (.int .i64 i) true).run Tryz.prog (w.drewN k) = .ok (.tuple #[.slice (some ⟨g0, 0, none⟩) 512 cp0, .bool true]) (w.drewN k) := by
    intro k
    have hown : (w.drewN k).ownsMap Tryz.prog 3 slElem f nf F := hF.own
    obtain ⟨p, n, c, hrun, he⟩ := slook_ok hown (i := i) (by omega)
    rw [hat] at he
    simp only [slD, DataW.held.injEq, Value.slice.injEq] at he
    obtain ⟨rfl, rfl, rfl⟩ := he
    rw [hhas] at hrun
    exact hrun
  have x4 : ∀ k, (w.drewN k).cell? ⟨v, 4, none⟩ = some (.map (some f)) := fun k => by have := cellOf h 4; simpa [volCells] using this
  have cl : ∀ k, Calls Tryz.prog 47 #[.slice (some ⟨g0, 0, none⟩) 512 cp0] (w.drewN k) fun e w' => ∃ g cap, e = .returned (.slice (some ⟨g, 0, none⟩) 512 cap) ∧ w.heap.size ≤ g ∧ 512 ≤ cap ∧ Bytes w' (some ⟨g, 0, none⟩) b ∧ Below w.heap.size w w' ∧ ∃ cs fr, w'.heap[g]? = some (.cells cs 5 fr) := by
    intro k
    have := clone_bytes g0 0 b cp0 (w.drewN k) (below_bytes (below_drewN (Below.refl _ w) k) hb0) (by omega) (by omega)
    rw [hbl] at this
    refine this.mono ?_
    rintro e w' ⟨g, cap, rfl, h1, h2, h3, h4, h5⟩
    exact ⟨g, cap, rfl, h1, h2, h3, (below_drewN (Below.refl _ w) k).trans h4, h5⟩
  clear h hd hF hat hb0 hhas hfr
  go_enter Tryz.func26, Tryz.ntmps26
  go_wp2_with (first
    | (go_at_call 56; refine Calls_on c47 ?_)
    | (go_at_call 57; refine c13.mono ?_; rintro e w1 ⟨rfl, k1, rfl⟩; clear c13; have lk' := lk k1; have x4' := x4 k1; have cl' := cl k1; clear lk x4 cl)
    | (go_at_call 47; refine cl'.mono ?_; rintro e w2 ⟨g2, cap2, rfl, hg2, hc2, hb2, hB2, ht2⟩; clear cl'))
  go_ret2
  exact ⟨g2, cap2, rfl, hc2, hbl, hb2, hB2, hg2, ht2⟩

set_option maxRecDepth 8000 in
set_option maxHeartbeats 1000000 in
theorem vReadT_home (i : Nat) (v : Nat) (commits turn next : Nat) (f nf : Nat) (F : DataW Value) (fr : Nat → Option By) (d : DS) (w : World) (h : IsVol w v (dp d.a) commits turn next (some f) d.count) (hd : Dev w d) (hn : 16 ≤ d.n) (hF : Fresh w f nf F fr) (hi : i < nbOf d.n) (hfr : fr i = none) :
    Calls Tryz.prog 26 #[dp v, .int .i64 i] w fun e w' => ∃ g, e = .returned (.tuple #[.slice (some ⟨g, 0, none⟩) 512 512, .int .i64 0]) ∧ Bytes w' (some ⟨g, 0, none⟩) (d.B (1 + i)) ∧ Below w.heap.size w w' ∧ w.heap.size ≤ g ∧ ∃ cs fr, w'.heap[g]? = some (.cells cs 5 fr) := by
  have hle := hd.hn
  have hnb : nbOf d.n ≤ 65536 := by unfold nbOf; omega
  have hin : 1 + i < d.n := by unfold nbOf at hi; omega
  have c47 := vHas i v commits turn next (some f) d.count d w h hd hn
  rw [show decide ((0 : Int) ≤ (i : Int) ∧ (i : Int) < (nbOf d.n : Nat)) = true by simp; omega] at c47
  have c13 := catchUp_idle v commits turn next (some f) d w h hd
  have c16 := fun W => homeOf_any i W (by omega)
  have HD : Hid (Dev w d) := hd
  have hhas := hF.has i (by omega)
  rw [hfr] at hhas
  have lk : ∀ k, ∃ p n c, (Instr.lookup 102 (.map (some f)) (.int .i64 i) true).run Tryz.prog (w.drewN k) = .ok (.tuple #[.slice p n c, .bool false]) (w.drewN k) := by
    intro k
    have hown : (w.drewN k).ownsMap Tryz.prog 3 slElem f nf F := hF.own
    obtain ⟨p, n, c, hrun, he⟩ := slook_ok hown (i := i) (by omega)
    rw [hhas] at hrun
    exact ⟨p, n, c, hrun⟩
  have x4 : ∀ k, (w.drewN k).cell? ⟨v, 4, none⟩ = some (.map (some f)) := fun k => by have := cellOf h 4; simpa [volCells] using this
  have x0 : ∀ k, (w.drewN k).cell? ⟨v, 0, none⟩ = some (dp d.a) := fun k => by have := cellOf h 0; simpa [volCells] using this
  clear h hd hF hhas hfr
  go_enter Tryz.func26, Tryz.ntmps26
  go_wp2_with (first
    | (go_at_call 56; refine Calls_on c47 ?_)
    | (go_at_call 57; refine c13.mono ?_; rintro e w1 ⟨rfl, k1, rfl⟩; clear c13; obtain ⟨p, n, c, lk'⟩ := lk k1; have x4' := x4 k1; clear lk x4))
  obtain ⟨W3, hW3⟩ : ∃ W3, W3 = w.drewN k1 := ⟨_, rfl⟩
  have x0' : W3.drew.cell? ⟨v, 0, none⟩ = some (dp d.a) := by rw [hW3]; exact x0 k1
  have c15' := dev_read d (1 + i) W3.drew (by rw [hW3]; exact (HD.out.drewN k1).drew) hin
  have B3 : Below w.heap.size w W3.drew := by rw [hW3]; exact (below_drewN (Below.refl _ w) k1).drew
  rw [← hW3]
  clear hW3 x0 x4' lk'
  go_region_with (first
    | (go_at_call 59; refine Calls_on (c16 _) ?_)
    | (go_at_call 58; refine c15'.mono ?_; rintro e w2 ⟨rfl, hb2, hB2⟩))
  all_goals go_wp2
  all_goals go_ret2
  all_goals exact ⟨_, rfl, bytes_block hb2, B3.trans (hB2.mono B3.size), B3.size, _, _, hb2⟩

/-- Read of a block, and where it lies. -/
theorem vReadT_any (i : Nat) (s : VS) (w : World) (h : VI w s) (hi : i < nbOf s.d.n) :
    Calls Tryz.prog 26 #[dp s.v, .int .i64 i] w fun e w' => ∃ g cp, e = .returned (.tuple #[.slice (some ⟨g, 0, none⟩) 512 cp, .int .i64 0]) ∧ 512 ≤ cp ∧ (s.cont i).length = 512 ∧ Bytes w' (some ⟨g, 0, none⟩) (s.cont i) ∧ Below w.heap.size w w' ∧ w.heap.size ≤ g ∧ ∃ cs fr, w'.heap[g]? = some (.cells cs 5 fr) := by
  cases hf : s.fr i with
  | none =>
    have hl : (s.d.B (1 + i)).length = 512 := h.dev.len _ (by have := h.n16; unfold nbOf at hi; omega)
    refine (vReadT_home i s.v s.commits s.turn s.next s.f s.nf s.F s.fr s.d w h.vol h.dev h.n16 h.fresh hi hf).mono ?_
    rintro e w' ⟨g, rfl, hb, hB, hg, ht⟩
    have e : s.cont i = s.d.B (1 + i) := by unfold VS.cont; rw [hf]; rfl
    rw [e]
    exact ⟨g, 512, rfl, Nat.le_refl _, hl, hb, hB, hg, ht⟩
  | some b =>
    refine (vReadT_fresh i b s.v s.commits s.turn s.next s.f s.nf s.F s.fr s.d w h.vol h.dev h.n16 h.fresh hi hf).mono ?_
    rintro e w' ⟨g, cp, rfl, hc, hl, hb, hB, hg, ht⟩
    have e : s.cont i = b := by unfold VS.cont; rw [hf]; rfl
    rw [e]
    exact ⟨g, cp, rfl, hc, hl, hb, hB, hg, ht⟩

end Go.Proofs.YtdepdcndfofknaaGreatDoor

/-
  A cache over a volume: what holds of both between the calls; hold of a block that is not held.
-/
namespace Go.Proofs.YtdepdcndfofknaaGreatDoor
open Go.RowKit Go.Maps Go.Sort Go.Shelf

/-- What hold makes of a cache where it takes a new entry. -/
structure Hn (w w' : World) (s : CS) (block a : Nat) (A1 I1 : List Nat) (out1 : Nat) (F : DataW Value) : Prop where
  cm : CM w' { s with nh := s.nh + 1, F := F, I := I1, A := A1 ++ [a], U := updU s.U a (newE block), out := out1 }
  ord : HeapF (kvOf (keyU s.U) I1) I1.length
  new : w.heap.size ≤ a
  sub : ∀ b, b ∈ A1 → b ∈ s.A
  ev : (s.A.length < s.room ∧ A1 = s.A ∧ I1 = s.I ∧ out1 = s.out) ∨ (s.room ≤ s.A.length ∧ ∃ o, o ∈ s.I ∧ (∀ b ∈ s.I, (s.U o).used ≤ (s.U b).used) ∧ A1 = s.A.filter (fun b => b != o) ∧ (∀ b, b ∈ I1 ↔ b ∈ s.I ∧ b ≠ o) ∧ out1 = s.out + 1)
  but : But (cMine w s.h) w w'

theorem bhold_any (s : CS) (block : Nat) (w : World) (h : CM w s) (hb : block < 1000000) (hno : ∀ a ∈ s.A, (s.U a).block ≠ block) (hr : s.room ≤ 4096) (ho : HeapF (kvOf (keyU s.U) s.I) s.I.length) (hout : s.out < 1000000) (hnh : s.nh < 1000000) (hroom : s.A.length < s.room ∨ 0 < s.I.length) :
    Calls Tryz.prog 51 #[ep s.c, .int .i64 (block : Nat)] w fun e w' => ∃ a A1 I1 out1 F, e = .returned (.tuple #[ep a, .int .i64 0]) ∧ Hn w w' s block a A1 I1 out1 F := by
  by_cases hlt : s.A.length < s.room
  · refine (hold_new s block w h hb hno (fun w1 s1 => s1 = s ∧ But (cMine w s.h) w w1) ?_).mono ?_
    · refine (makeRoom_yes s w h hlt hr).mono ?_
      rintro e w1 ⟨rfl, q, rfl⟩
      exact ⟨rfl, s, h.drewN q, rfl, rfl, fun _ h => h, rfl, hnh, rfl, ⟨rfl, rfl, rfl, Nat.le_refl _, fun _ _ _ => rfl⟩⟩
    · rintro e w' ⟨w1, s1, F, rfl, ⟨rfl, hB1⟩, _, cm2, hB2⟩
      exact ⟨w1.heap.size, s1.A, s1.I, s1.out, F, rfl, cm2, ho, hB1.size, fun _ h => h, .inl ⟨hlt, rfl, rfl, rfl⟩, cMine_trans hB1 hB2⟩
  · have hpos : 0 < s.I.length := hroom.resolve_left hlt
    refine (hold_new s block w h hb hno (fun w1 s1 => ∃ o, Mr w w1 s s1 o) ?_).mono ?_
    · refine (makeRoom_out s w h (by omega) hpos ho hout).mono ?_
      rintro e w1 ⟨rfl, o, s1, hM⟩
      obtain ⟨F, I', rfl⟩ := hM.eq
      exact ⟨rfl, _, hM.cm, rfl, rfl, fun a ha => (List.mem_filter.1 ha).1, rfl, hnh, o, hM⟩
    · rintro e w' ⟨w1, s1, F, rfl, ⟨o, hM⟩, _, cm2, hB2⟩
      obtain ⟨F1, I', rfl⟩ := hM.eq
      refine ⟨w1.heap.size, _, I', s.out + 1, F, rfl, cm2, hM.ord, hM.but.size, fun b hb => (List.mem_filter.1 hb).1, .inr ⟨by omega, o, hM.inI, hM.least, rfl, hM.mem, rfl⟩, cMine_trans hM.but hB2⟩

/-- An entry's bytes. -/
def DatAt (w : World) (e : EV) (b : By) : Prop := e.n = 512 ∧ b.length = 512 ∧ 512 ≤ e.cp ∧ ∃ g, e.p = some ⟨g, 0, none⟩ ∧ Bytes w (some ⟨g, 0, none⟩) b ∧ ∃ cs fr, w.heap[g]? = some (.cells cs 5 fr)
theorem bytes_but {w w' : World} {g : Nat} {b : By} {S : Nat → Prop} (hbb : Bytes w (some ⟨g, 0, none⟩) b) (ht : ∃ cs fr, w.heap[g]? = some (.cells cs 5 fr)) (hb : But S w w') (hS : ∀ k cs fr, w.heap[k]? = some (.cells cs 5 fr) → ¬ S k) : Bytes w' (some ⟨g, 0, none⟩) b ∧ ∃ cs fr, w'.heap[g]? = some (.cells cs 5 fr) := by
  obtain ⟨cs, fr, ht⟩ := ht
  have hk := hb.block g (Array.getElem?_eq_some_iff.1 ht).1 (hS g cs fr ht)
  refine ⟨fun hp => ?_, cs, fr, hk.trans ht⟩
  obtain ⟨g', o', e, hx⟩ := hbb hp
  cases e
  exact ⟨g, 0, rfl, fun j x hj => (World.cell?_of_block (w := w) hk).trans (hx j x hj)⟩
theorem DatAt.but {w w' : World} {e : EV} {b : By} (h : DatAt w e b) {S : Nat → Prop} (hb : But S w w') (hS : ∀ k cs fr, w.heap[k]? = some (.cells cs 5 fr) → ¬ S k) : DatAt w' e b := by
  obtain ⟨h1, h2, h3, g, hg, hbb, ht⟩ := h
  obtain ⟨k1, k2⟩ := bytes_but hbb ht hb hS
  exact ⟨h1, h2, h3, g, hg, k1, k2⟩

/-- A cache and its volume, but for the rank of the entries of ex. -/
structure CX (ex : Nat → Prop) (w : World) (s : CS) (vs : VS) (B : Nat → By) : Prop where
  cm : CM w s
  vi : VI w vs
  vv : s.v = vs.v
  hf : s.h ≠ vs.f
  hd : s.h ≠ vs.d.m
  dat : ∀ a ∈ s.A, DatAt w (s.U a) (B a)
  hx : ∀ a, ex a → HX s a
  ord : (∀ a, ¬ ex a) → HeapF (kvOf (keyU s.U) s.I) s.I.length
  idle : ∀ b, ¬ ex b → (b ∈ s.I ↔ b ∈ s.A ∧ idleE (s.U b) = true)
  dirty : ∀ b, b ∈ s.D ↔ b ∈ s.A ∧ (s.U b).dirty = true
  dnd : s.D.Nodup
  used : ∀ b ∈ s.A, ¬ ex b → (s.U b).used ≤ s.uses
  uinj : ∀ b ∈ s.A, ∀ c ∈ s.A, ¬ ex b → ¬ ex c → (s.U b).used = (s.U c).used → b = c
  blk : ∀ b ∈ s.A, (s.U b).block < nbOf vs.d.n
  clean : ∀ b ∈ s.A, (s.U b).dirty = false → B b = vs.cont (s.U b).block
  room : 1 ≤ s.room ∧ s.room ≤ 4096 ∧ s.A.length ≤ s.room

abbrev CI := CX (fun _ => False)
/-- How much was done. -/
structure CB (s : CS) (b : Nat) : Prop where
  nh : s.nh ≤ b
  uses : s.uses ≤ b
  met : s.met ≤ b
  missed : s.missed ≤ b
  out : s.out ≤ b

theorem CX.nb {ex : Nat → Prop} {w : World} {s : CS} {vs : VS} {B : Nat → By} (h : CX ex w s vs B) : nbOf vs.d.n ≤ 48 := by have := h.vi.n200; unfold nbOf; omega
theorem vi_but {w w' : World} {s : VS} (h : VI w s) {S : Nat → Prop} (hb : But S w w') (hS : ∀ k, s.mine k → ¬ S k) (h5 : ∀ g cs t fr, w.heap[g]? = some (.cells cs t fr) → t = 5 ∨ t = 178 → ¬ S g) : VI w' s :=
  ⟨h.vol.but hb (hS _ (.inl rfl)), h.dev.but hb (fun k hk => hS k (.inr (.inr hk))) (fun g _ hg => h5 g _ _ _ hg (.inr rfl)), h.fresh.but hb (hS _ (.inr (.inl rfl))) (fun k cs fr hk => h5 k cs 5 fr hk (.inl rfl)), h.fm, h.fused, h.n16, h.n200, h.lg⟩
/-- A cache's steps turn nothing of its volume, and no bytes. -/
theorem CX.noMine {ex : Nat → Prop} {w : World} {s : CS} {vs : VS} {B : Nat → By} (h : CX ex w s vs B) : (∀ k, vs.mine k → ¬ cMine w s.h k) ∧ (∀ g cs t fr, w.heap[g]? = some (.cells cs t fr) → t = 5 ∨ t = 178 → ¬ cMine w s.h g) := by
  refine ⟨fun k hk hm => ?_, fun g cs t fr hg ht hm => ?_⟩
  · rcases hm with e | ⟨_, cs, t, fr, hb, ht⟩
    · rcases hk with e' | e' | e' | e' | e'
      · exact h.cm.hne h.vi.vol (e ▸ e')
      · exact h.hf (e ▸ e')
      · exact h.cm.hne h.vi.dev.dev (e ▸ e')
      · obtain ⟨_, hr, _⟩ := h.vi.dev.row
        exact h.cm.hne hr (e ▸ e')
      · exact h.hd (e ▸ e')
    · refine h.vi.other hb ?_ ?_ ?_ hk
      · rcases ht with rfl | rfl | rfl <;> decide
      · rcases ht with rfl | rfl | rfl <;> decide
      · rcases ht with rfl | rfl | rfl <;> decide
  · rcases hm with rfl | ⟨_, cs', t', fr', hb, ht'⟩
    · exact h.cm.hne hg rfl
    · rw [hg] at hb
      simp only [Option.some.injEq, Obj.cells.injEq] at hb
      obtain ⟨_, rfl, _⟩ := hb
      rcases ht with rfl | rfl <;> rcases ht' with h' | h' | h' <;> exact absurd h' (by decide)
theorem CX.keep {ex : Nat → Prop} {w w' : World} {s : CS} {vs : VS} {B : Nat → By} (h : CX ex w s vs B) (hb : But (cMine w s.h) w w') : VI w' vs ∧ ∀ e b, DatAt w e b → DatAt w' e b :=
  ⟨vi_but h.vi hb h.noMine.1 h.noMine.2, fun _ _ hd => hd.but hb fun k cs fr hk => h.noMine.2 k cs 5 fr hk (.inl rfl)⟩
theorem CX.below {ex : Nat → Prop} {w w' : World} {s : CS} {vs : VS} {B : Nat → By} (h : CX ex w s vs B) (hb : Below w.heap.size w w') : CX ex w' s vs B :=
  ⟨h.cm.below hb, h.vi.below hb, h.vv, h.hf, h.hd, fun a ha => (h.dat a ha).but (S := fun _ => False) (But.of_below hb) (fun _ _ _ _ h => h), h.hx, h.ord, h.idle, h.dirty, h.dnd, h.used, h.uinj, h.blk, h.clean, h.room⟩

end Go.Proofs.YtdepdcndfofknaaGreatDoor

/-
  meet of package bcache.
-/
namespace Go.Proofs.YtdepdcndfofknaaGreatDoor
open Go.RowKit Go.Maps Go.Sort Go.Shelf

theorem filter_len {A : List Nat} (hn : A.Nodup) {o : Nat} (ho : o ∈ A) : (A.filter (fun b => b != o)).length + 1 = A.length := by
  rw [← hn.erase_eq_filter o, List.length_erase_of_mem ho]
  have := List.length_pos_of_mem ho
  omega

/-- An entry more: all holds but for its rank. -/
theorem cx_new {w w1 w' : World} {s : CS} {vs : VS} {B : Nat → By} {block a : Nat} {A1 I1 : List Nat} {out1 : Nat} {F F' : DataW Value} (h : CI w1 s vs B) (hn : Hn w1 w s block a A1 I1 out1 F) (hblk : block < nbOf vs.d.n)
    (e : EV) (b : By) (ms dcap : Nat) (D' : List Nat) (dq : Option Addr) (nh : Nat)
    (cm : CM w' { s with nh := nh, F := F', I := I1, A := A1 ++ [a], U := updU s.U a e, out := out1, missed := ms, D := D', dq := dq, dcap := dcap }) (hB : But (cMine w1 s.h) w1 w')
    (heb : e.block = block) (hdat : DatAt w' e b) (hD : (e.dirty = false ∧ D' = s.D ∧ b = vs.cont block) ∨ (e.dirty = true ∧ D' = s.D ++ [a])) :
    CX (fun k => k = a) w' { s with nh := nh, F := F', I := I1, A := A1 ++ [a], U := updU s.U a e, out := out1, missed := ms, D := D', dq := dq, dcap := dcap } vs (fun k => if k = a then b else B k) := by
  obtain ⟨hvi, hkeep⟩ := h.keep hB
  have hA : ∀ k ∈ s.A, k ≠ a := fun k hk e => by have := h.cm.alt hk; have := hn.new; omega
  have hA1 : ∀ k ∈ A1, k ≠ a := fun k hk => hA k (hn.sub k hk)
  have hI1 : ∀ k, k ∈ I1 → k ∈ s.I := fun k hk => by
    rcases hn.ev with ⟨_, _, e, _⟩ | ⟨_, o, _, _, _, hm, _⟩
    · rw [← e]; exact hk
    · exact ((hm k).1 hk).1
  have haI : a ∉ I1 := fun hx => hA a (h.cm.sub a (hI1 a hx)) rfl
  have mem : ∀ k, k ≠ a → (k ∈ A1 ++ [a] ↔ k ∈ A1) := fun k hk => by simp [hk]
  have U1 : ∀ k, k ≠ a → updU s.U a e k = s.U k := fun k hk => updU_other _ _ hk
  have hnotD : ∀ o, o ∈ s.I → o ∉ s.D := fun o ho hd => by
    have h1 := ((h.idle o (fun h => h)).1 ho).2
    have h2 := ((h.dirty o).1 hd).2
    unfold idleE at h1
    rw [h2] at h1
    simp at h1
  have haD : a ∉ s.D := fun hd => hA a ((h.dirty a).1 hd).1 rfl
  have hdA1 : ∀ k, k ∈ s.D → k ∈ A1 := fun k hk => by
    have hkA := ((h.dirty k).1 hk).1
    rcases hn.ev with ⟨_, e, _⟩ | ⟨_, o, ho, _, e, _⟩
    · rw [e]; exact hkA
    · rw [e]; simp [hkA]; rintro rfl; exact hnotD k ho hk
  refine ⟨cm, hvi, h.vv, h.hf, h.hd, fun k hk => ?_, fun k hk => ?_, fun hall => absurd rfl (hall a), fun k hk => ?_, fun k => ?_, ?_, fun k hk hka => ?_, fun k hk k' hk' hka hka' e' => ?_, fun k hk => ?_, fun k hk hdk => ?_, h.room.1, h.room.2.1, ?_⟩
  · show DatAt w' (updU s.U a e k) (if k = a then b else B k)
    by_cases e' : k = a
    · subst e'
      rw [updU_same, if_pos rfl]; exact hdat
    · rw [U1 k e', if_neg e']
      exact hkeep _ _ (h.dat k (hn.sub k ((mem k e').1 hk)))
  · have e' : k = a := hk
    rw [e']
    refine ⟨fun j hj hja => absurd (hja ▸ getD_mem hj) haI, fun _ => ?_⟩
    show HeapF (kvOf (keyU (updU s.U a e)) I1) I1.length
    exact hn.ord.less (Nat.le_refl _) fun j hj => kvOf_upd_not haI e hj
  · show k ∈ I1 ↔ k ∈ A1 ++ [a] ∧ idleE (updU s.U a e k) = true
    rw [mem k hk, U1 k hk]
    have h1 := h.idle k (fun h => h)
    rcases hn.ev with ⟨_, e1, e2, _⟩ | ⟨_, o, ho, _, e1, hm, _⟩
    · rw [e1, e2]; exact h1
    · rw [e1, hm k, h1]
      simp [List.mem_filter]
      constructor
      · rintro ⟨⟨h1, h2⟩, h3⟩; exact ⟨⟨h1, h3⟩, h2⟩
      · rintro ⟨⟨h1, h3⟩, h2⟩; exact ⟨⟨h1, h2⟩, h3⟩
  · show k ∈ D' ↔ k ∈ A1 ++ [a] ∧ (updU s.U a e k).dirty = true
    by_cases e' : k = a
    · subst e'
      rw [updU_same]
      rcases hD with ⟨h1, h2, _⟩ | ⟨h1, h2⟩
      · rw [h1, h2]; simp [haD]
      · rw [h1, h2]; simp
    · rw [mem k e', U1 k e']
      have : k ∈ D' ↔ k ∈ s.D := by
        rcases hD with ⟨_, h2, _⟩ | ⟨_, h2⟩
        · rw [h2]
        · rw [h2]; simp [e']
      rw [this]
      constructor
      · intro hk; exact ⟨hdA1 k hk, ((h.dirty k).1 hk).2⟩
      · rintro ⟨h1, h2⟩; exact (h.dirty k).2 ⟨hn.sub k h1, h2⟩
  · show D'.Nodup
    rcases hD with ⟨_, h2, _⟩ | ⟨_, h2⟩
    · rw [h2]; exact h.dnd
    · rw [h2, List.nodup_append]
      exact ⟨h.dnd, by simp, fun x hx y hy => by rw [List.mem_singleton.1 hy]; exact fun e => haD (e ▸ hx)⟩
  · show (updU s.U a e k).used ≤ s.uses
    rw [U1 k hka]
    exact h.used k (hn.sub k ((mem k hka).1 hk)) (fun h => h)
  · have e2 : (updU s.U a e k).used = (updU s.U a e k').used := e'
    rw [U1 k hka, U1 k' hka'] at e2
    exact h.uinj k (hn.sub k ((mem k hka).1 hk)) k' (hn.sub k' ((mem k' hka').1 hk')) (fun h => h) (fun h => h) e2
  · show (updU s.U a e k).block < _
    by_cases e' : k = a
    · rw [e', updU_same, heb]; exact hblk
    · rw [U1 k e']; exact h.blk k (hn.sub k ((mem k e').1 hk))
  · show (if k = a then b else B k) = vs.cont (updU s.U a e k).block
    have hdk' : (updU s.U a e k).dirty = false := hdk
    by_cases e' : k = a
    · subst e'
      rw [updU_same] at hdk' ⊢
      rw [if_pos rfl, heb]
      rcases hD with ⟨_, _, h3⟩ | ⟨h1, _⟩
      · exact h3
      · rw [h1] at hdk'; cases hdk'
    · rw [U1 k e'] at hdk' ⊢
      rw [if_neg e']
      exact h.clean k (hn.sub k ((mem k e').1 hk)) hdk'
  · show (A1 ++ [a]).length ≤ s.room
    rcases hn.ev with ⟨h1, e1, _⟩ | ⟨_, o, ho, _, e1, _⟩
    · rw [e1]; simp; omega
    · have := filter_len h.cm.hm.nodup (h.cm.sub o ho)
      have := h.room.2.2
      rw [e1]; simp only [List.length_append, List.length_singleton]; omega

set_option maxRecDepth 8000 in
set_option maxHeartbeats 1000000 in
theorem meet_out (s : CS) (vs : VS) (B : Nat → By) (x : Int) (w : World) (h : CI w s vs B) (h1 : -9223372036854775808 ≤ x) (h2 : x < 9223372036854775808) (hx : ¬ (0 ≤ x ∧ x < nbOf vs.d.n)) :
    Calls Tryz.prog 45 #[ep s.c, .int .i64 x] w fun e w' => e = .returned (.tuple #[.pointer none, .int .i64 22]) ∧ w' = w := by
  have c0 : w.cell? ⟨s.c, 0, none⟩ = some (dp vs.v) := by rw [cellOf h.cm.hp.cell 0, ← h.vv]; rfl
  have c2 : w.cell? ⟨s.c, 2, none⟩ = some (.map (some s.h)) := by rw [cellOf h.cm.hp.cell 2]; rfl
  have l1 := h.cm.hm.look_no h1 h2 (fun a ha e => hx (by have := h.blk a ha; omega))
  have cR := vRead_no x vs.v vs.commits vs.turn vs.next (some vs.f) vs.d.count vs.d w h.vi.vol h.vi.dev h.vi.n16 hx
  clear h
  go_enter Tryz.func45, Tryz.ntmps45
  go_wp2_with (go_at_call 26; refine Calls_on cR ?_)
  go_ret2
  exact ⟨rfl, rfl⟩

set_option maxRecDepth 8000 in
set_option maxHeartbeats 1000000 in
theorem meet_hit (s : CS) (vs : VS) (B : Nat → By) (a : Nat) (w : World) (h : CI w s vs B) (ha : a ∈ s.A) (hm : s.met < 1000000) :
    Calls Tryz.prog 45 #[ep s.c, .int .i64 ((s.U a).block : Nat)] w fun e w' => e = .returned (.tuple #[ep a, .int .i64 0]) ∧ CI w' { s with met := s.met + 1 } vs B ∧ But (cMine w s.h) w w' := by
  have c2 : w.cell? ⟨s.c, 2, none⟩ = some (.map (some s.h)) := by rw [cellOf h.cm.hp.cell 2]; rfl
  have c6 : w.cell? ⟨s.c, 6, none⟩ = some (.int .i64 (s.met : Nat)) := by rw [cellOf h.cm.hp.cell 6]; rfl
  have f6 := frozenOf h.cm.hp.cell 6
  have l1 := h.cm.hm.look_yes ha
  have mC : cMine w s.h s.c := h.cm.mineC
  obtain ⟨z, hz, e1⟩ : ∃ z : Int, ((s.met + 1 : Nat) : Int) = z ∧ ((s.met : Nat) : Int) + 1 = z := ⟨_, rfl, by omega⟩
  have hB : But (cMine w s.h) w (w.setCell ⟨s.c, 6, none⟩ (.int .i64 ((s.met + 1 : Nat) : Int))) := (But.refl (cMine w s.h) w).setCell _ mC _
  obtain ⟨hvi, hkeep⟩ := h.keep hB
  have HF : Hid (CI (w.setCell ⟨s.c, 6, none⟩ (.int .i64 ((s.met + 1 : Nat) : Int))) { s with met := s.met + 1 } vs B ∧ But (cMine w s.h) w (w.setCell ⟨s.c, 6, none⟩ (.int .i64 ((s.met + 1 : Nat) : Int)))) :=
    ⟨⟨h.cm.setMet _, hvi, h.vv, h.hf, h.hd, fun k hk => hkeep _ _ (h.dat k hk), fun _ h => h.elim, h.ord, h.idle, h.dirty, h.dnd, h.used, h.uinj, h.blk, h.clean, h.room⟩, hB⟩
  rw [hz] at HF
  clear hz h mC hB hvi hkeep
  go_enter Tryz.func45, Tryz.ntmps45
  go_wp2
  go_ret2
  exact ⟨rfl, HF.out.1, HF.out.2⟩

set_option maxRecDepth 8000 in
set_option maxHeartbeats 1000000 in
theorem meet_full (s : CS) (vs : VS) (B : Nat → By) (block : Nat) (w : World) (h : CI w s vs B) (hb : block < nbOf vs.d.n) (hno : ∀ a ∈ s.A, (s.U a).block ≠ block) (hlt : s.room ≤ s.A.length) (hI0 : s.I = []) :
    Calls Tryz.prog 45 #[ep s.c, .int .i64 (block : Nat)] w fun e w' => e = .returned (.tuple #[.pointer none, .int .i64 28]) ∧ Below w.heap.size w w' := by
  have hnb := h.nb
  have c0 : w.cell? ⟨s.c, 0, none⟩ = some (dp vs.v) := by rw [cellOf h.cm.hp.cell 0, ← h.vv]; rfl
  have c2 : w.cell? ⟨s.c, 2, none⟩ = some (.map (some s.h)) := by rw [cellOf h.cm.hp.cell 2]; rfl
  have l1 := h.cm.hm.look_no (x := (block : Int)) (by omega) (by omega) (fun a ha e => hno a ha (by omega))
  have cR := vReadT_any block vs w h.vi hb
  have H0 : Hid (CI w s vs B ∧ (∀ a ∈ s.A, (s.U a).block ≠ block)) := ⟨h, hno⟩
  clear h hno
  go_enter Tryz.func45, Tryz.ntmps45
  go_wp2_with (first
    | (go_at_call 26; refine cR.mono ?_; rintro e w1 ⟨g, cp, rfl, hcp, hl, hb1, hB1, hg1, ht1⟩; clear cR; have cH := hold_no s block w1 ((H0.out.1.below hB1).cm) (by omega) H0.out.2 hlt hI0)
    | (go_at_call 51; refine cH.mono ?_; rintro e w2 ⟨rfl, q, rfl⟩; clear cH))
  go_ret2
  exact ⟨rfl, below_drewN hB1 q⟩

/-- What meet makes of a cache where it takes a new entry. -/
structure Mt (w w' : World) (s : CS) (vs : VS) (B : Nat → By) (block a : Nat) (s' : CS) (B' : Nat → By) : Prop where
  cx : CX (fun k => k = a) w' s' vs B'
  eq : ∃ F A1 I1 out1 p cp, s' = { s with nh := s.nh + 1, F := F, I := I1, A := A1 ++ [a], U := updU s.U a ⟨block, p, 512, cp, 0, false, 0⟩, out := out1, missed := s.missed + 1 } ∧
    ((s.A.length < s.room ∧ A1 = s.A ∧ I1 = s.I ∧ out1 = s.out) ∨ (s.room ≤ s.A.length ∧ ∃ o, o ∈ s.I ∧ (∀ b ∈ s.I, (s.U o).used ≤ (s.U b).used) ∧ A1 = s.A.filter (fun b => b != o) ∧ (∀ b, b ∈ I1 ↔ b ∈ s.I ∧ b ≠ o) ∧ out1 = s.out + 1))
  bytes : B' = fun k => if k = a then vs.cont block else B k
  new : w.heap.size ≤ a
  but : But (cMine w s.h) w w'

set_option maxRecDepth 8000 in
set_option maxHeartbeats 2000000 in
theorem meet_miss (s : CS) (vs : VS) (B : Nat → By) (block b : Nat) (w : World) (h : CI w s vs B) (hz : CB s b) (hbz : b < 900000) (hb : block < nbOf vs.d.n) (hno : ∀ a ∈ s.A, (s.U a).block ≠ block) (hroom : s.A.length < s.room ∨ 0 < s.I.length) :
    Calls Tryz.prog 45 #[ep s.c, .int .i64 (block : Nat)] w fun e w' => ∃ a s' B', e = .returned (.tuple #[ep a, .int .i64 0]) ∧ Mt w w' s vs B block a s' B' := by
  have hnb := h.nb
  obtain ⟨z1, z2, z3, z4, z5⟩ := hz
  have c0 : w.cell? ⟨s.c, 0, none⟩ = some (dp vs.v) := by rw [cellOf h.cm.hp.cell 0, ← h.vv]; rfl
  have c2 : w.cell? ⟨s.c, 2, none⟩ = some (.map (some s.h)) := by rw [cellOf h.cm.hp.cell 2]; rfl
  have l1 := h.cm.hm.look_no (x := (block : Int)) (by omega) (by omega) (fun a ha e => hno a ha (by omega))
  have cR := vReadT_any block vs w h.vi hb
  have H0 : Hid (CI w s vs B ∧ (∀ a ∈ s.A, (s.U a).block ≠ block)) := ⟨h, hno⟩
  clear h hno
  go_enter Tryz.func45, Tryz.ntmps45
  go_wp2_with (first
    | (go_at_call 26; refine cR.mono ?_; rintro e w1 ⟨g, cp, rfl, hcp, hl, hb1, hB1, hg1, ht1⟩; clear cR; have cH := bhold_any s block w1 ((H0.out.1.below hB1).cm) (by omega) H0.out.2 H0.out.1.room.2.1 (H0.out.1.ord (fun _ h => h)) (by omega) (by omega) hroom; have H1 : Hid (512 ≤ cp ∧ (vs.cont block).length = 512 ∧ Bytes w1 (some ⟨g, 0, none⟩) (vs.cont block) ∧ Below w.heap.size w w1 ∧ ∃ cs fr, w1.heap[g]? = some (.cells cs 5 fr)) := ⟨hcp, hl, hb1, hB1, ht1⟩; clear hcp hl hb1 hB1 hg1 ht1)
    | (go_at_call 51; refine cH.mono ?_; rintro e w2 ⟨a, A1, I1, out1, F, rfl, hH⟩; clear cH; refine Stop.out ?_))
  refine Stop.mk ?_
  obtain ⟨hcp, hl, hb1, hB1, ht1⟩ := H1.out
  have h1 := H0.out.1.below hB1
  have ha2 : a ∈ A1 ++ [a] := by simp
  obtain ⟨x, hE⟩ := hH.cm.entAny ha2
  have hE' : IsEnt w2 a (newE block) x := by rw [show newE block = updU s.U a (newE block) a from (updU_same _ _ _).symm]; exact hE
  have d7 : w2.cell? ⟨s.c, 7, none⟩ = some (.int .i64 (s.missed : Nat)) := by rw [cellOf hH.cm.hp.cell 7]; rfl
  have f7 := frozenOf hH.cm.hp.cell 7
  have d1 : w2.cell? ⟨a, 1, none⟩ = some (.slice none 0 0) := by rw [cellOf hE' 1]; rfl
  have f1 := frozenOf hE' 1
  have ca : s.c ≠ a := apart_tags hH.cm.hp.cell hE' (by decide)
  have ca' := Ne.symm ca
  obtain ⟨z, hz, e1⟩ : ∃ z : Int, ((s.missed + 1 : Nat) : Int) = z ∧ ((s.missed : Nat) : Int) + 1 = z := ⟨_, rfl, by omega⟩
  have cm3 := hH.cm.setMissed (s.missed + 1)
  have cm4 := cm3.setE (a := a) ha2 1 (.slice (some ⟨g, 0, none⟩) 512 cp) ⟨block, some ⟨g, 0, none⟩, 512, cp, 0, false, 0⟩ (fun x => by show (entCells (updU s.U a (newE block) a) x).setIfInBounds 1 _ = _; rw [updU_same]; rfl) (by show block = (updU s.U a (newE block) a).block; rw [updU_same]; rfl) (by show 0 < 1000000000; omega)
  have eU : updU (updU s.U a (newE block)) a ⟨block, some ⟨g, 0, none⟩, 512, cp, 0, false, 0⟩ = updU s.U a ⟨block, some ⟨g, 0, none⟩, 512, cp, 0, false, 0⟩ := by
    funext k; unfold updU; split <;> rfl
  have cm5 : CM ((w2.setCell ⟨s.c, 7, none⟩ (.int .i64 ((s.missed + 1 : Nat) : Int))).setCell ⟨a, 1, none⟩ (.slice (some ⟨g, 0, none⟩) 512 cp)) { s with nh := s.nh + 1, F := F, I := I1, A := A1 ++ [a], U := updU s.U a ⟨block, some ⟨g, 0, none⟩, 512, cp, 0, false, 0⟩, out := out1, missed := s.missed + 1 } := by
    rw [← eU]; exact cm4
  have mC : cMine w2 s.h s.c := hH.cm.mineC
  have mE : cMine w2 s.h a := hH.cm.mineE ha2
  have hB5 : But (cMine w1 s.h) w1 ((w2.setCell ⟨s.c, 7, none⟩ (.int .i64 ((s.missed + 1 : Nat) : Int))).setCell ⟨a, 1, none⟩ (.slice (some ⟨g, 0, none⟩) 512 cp)) := cMine_trans hH.but (((But.refl (cMine w2 s.h) w2).setCell _ mC _).setCell _ mE _)
  have hdat : DatAt ((w2.setCell ⟨s.c, 7, none⟩ (.int .i64 ((s.missed + 1 : Nat) : Int))).setCell ⟨a, 1, none⟩ (.slice (some ⟨g, 0, none⟩) 512 cp)) ⟨block, some ⟨g, 0, none⟩, 512, cp, 0, false, 0⟩ (vs.cont block) :=
    (h1.keep hB5).2 _ _ ⟨rfl, hl, hcp, g, rfl, hb1, ht1⟩
  have cx := cx_new h1 hH hb ⟨block, some ⟨g, 0, none⟩, 512, cp, 0, false, 0⟩ (vs.cont block) (s.missed + 1) s.dcap s.D s.dq (s.nh + 1) cm5 hB5 rfl hdat (.inl ⟨rfl, rfl, rfl⟩)
  have bw : But (cMine w s.h) w w1 := But.of_below hB1
  have HF : Hid (Mt w ((w2.setCell ⟨s.c, 7, none⟩ (.int .i64 ((s.missed + 1 : Nat) : Int))).setCell ⟨a, 1, none⟩ (.slice (some ⟨g, 0, none⟩) 512 cp)) s vs B block a { s with nh := s.nh + 1, F := F, I := I1, A := A1 ++ [a], U := updU s.U a ⟨block, some ⟨g, 0, none⟩, 512, cp, 0, false, 0⟩, out := out1, missed := s.missed + 1 } (fun k => if k = a then vs.cont block else B k)) :=
    ⟨cx, ⟨F, A1, I1, out1, _, _, rfl, hH.ev⟩, rfl, by have := hB1.size; have := hH.new; omega, cMine_trans bw hB5⟩
  rw [hz] at HF
  clear hz hcp hl hb1 hB1 ht1 h1 ha2 hE hE' cm3 cm4 cm5 eU mC mE hB5 hdat cx bw hH H1 l1 c0 c2
  go_wp2
  go_ret2
  exact ⟨a, rfl, _, _, HF.out⟩

end Go.Proofs.YtdepdcndfofknaaGreatDoor

/-
  A cache as the document has it: a list of the blocks that are held.
-/
namespace Go.Proofs.YtdepdcndfofknaaGreatDoor
open Go.RowKit Go.Maps Go.Sort Go.Shelf

structure HE where
  block : Nat
  pins : Nat
  used : Nat
  dirty : Bool
  data : By

def HE.idle (x : HE) : Bool := x.pins == 0 && !x.dirty
/-- Of what is idle the least lately used one, as a search from the front finds it. -/
def better (o : Option HE) (x : HE) : Option HE :=
  if x.idle then (match o with | none => some x | some y => if x.used < y.used then some x else some y) else o
def victim (L : List HE) : Option HE := L.foldl better none

structure AC where
  room : Nat
  L : List HE
  time : Nat
  hit : Nat
  miss : Nat
  outs : Nat

def AC.held (A : AC) (b : Nat) : Bool := A.L.any (fun x => x.block == b)
def AC.full (A : AC) : Bool := decide (A.room ≤ A.L.length) && (victim A.L).isNone
def AC.evict (A : AC) : AC := if A.L.length < A.room then A else match victim A.L with
  | some o => { A with L := A.L.filter (fun x => x.block != o.block), outs := A.outs + 1 }
  | none => A
/-- A block is used. -/
def AC.touch (A : AC) (b : Nat) (f : HE → HE) : AC := { A with time := A.time + 1, L := A.L.map fun x => if x.block = b then f { x with used := A.time + 1 } else x }
def AC.add (A : AC) (b : Nat) (d : By) : AC := { A with L := A.L ++ [⟨b, 0, 0, false, d⟩] }
/-- A Get or a Pin of a block that may be held. -/
def AC.meet (A : AC) (b : Nat) (d : By) (f : HE → HE) : AC :=
  if A.held b then AC.touch { A with hit := A.hit + 1 } b f else AC.touch { A.evict.add b d with miss := A.miss + 1 } b f
def AC.dataOf (A : AC) (b : Nat) : By := ((A.L.find? fun x => x.block == b).map HE.data).getD []

theorem better_some {o : Option HE} {x : HE} (h : o.isSome = true) : (better o x).isSome = true := by
  unfold better
  split
  · split
    · rfl
    · split <;> rfl
  · exact h
theorem victim_fold (L : List HE) : ∀ (o : Option HE), (∀ y, L.foldl better o = some y → (o = some y ∨ (y ∈ L ∧ y.idle = true)) ∧ (∀ x ∈ L, x.idle = true → y.used ≤ x.used) ∧ ∀ z, o = some z → y.used ≤ z.used) ∧ (L.foldl better o = none → o = none ∧ ∀ x ∈ L, x.idle = false) := by
  induction L with
  | nil =>
    intro o
    exact ⟨fun y h => ⟨.inl h, (fun x hx => by cases hx), (fun z hz => by rw [List.foldl_nil, hz] at h; cases h; exact Nat.le_refl _)⟩, fun h => ⟨h, (fun x hx => by cases hx)⟩⟩
  | cons x L ih =>
    intro o
    obtain ⟨h1, h2⟩ := ih (better o x)
    refine ⟨fun y hy => ?_, fun hn => ?_⟩
    · obtain ⟨k1, k2, k3⟩ := h1 y hy
      have key : (better o x = some y → o = some y ∨ (y = x ∧ x.idle = true)) := by
        intro hb
        unfold better at hb
        split at hb
        · rename_i hi
          split at hb
          · cases hb; exact .inr ⟨rfl, hi⟩
          · split at hb
            · cases hb; exact .inr ⟨rfl, hi⟩
            · cases hb; exact .inl rfl
        · exact .inl hb
      have lex : x.idle = true → ∃ z, better o x = some z ∧ z.used ≤ x.used := by
        intro hi
        unfold better
        rw [if_pos hi]
        split
        · exact ⟨x, rfl, Nat.le_refl _⟩
        · rename_i z
          split
          · exact ⟨x, rfl, Nat.le_refl _⟩
          · exact ⟨z, rfl, by omega⟩
      have leo : ∀ z, o = some z → ∃ z', better o x = some z' ∧ z'.used ≤ z.used := by
        intro z hz
        subst hz
        unfold better
        split
        · simp only
          split
          · exact ⟨x, rfl, by omega⟩
          · exact ⟨z, rfl, Nat.le_refl _⟩
        · exact ⟨z, rfl, Nat.le_refl _⟩
      refine ⟨?_, fun x' hx' hi => ?_, fun z hz => ?_⟩
      · rcases k1 with k1 | ⟨k1, k1'⟩
        · rcases key k1 with e | ⟨rfl, e⟩
          · exact .inl e
          · exact .inr ⟨by simp, e⟩
        · exact .inr ⟨by simp [k1], k1'⟩
      · rcases List.mem_cons.1 hx' with rfl | hx'
        · obtain ⟨z, hz, hle⟩ := lex hi
          exact Nat.le_trans (k3 z hz) hle
        · exact k2 x' hx' hi
      · obtain ⟨z', hz', hle⟩ := leo z hz
        exact Nat.le_trans (k3 z' hz') hle
    · obtain ⟨k1, k2⟩ := h2 hn
      have : o = none ∧ x.idle = false := by
        unfold better at k1
        split at k1
        · split at k1
          · cases k1
          · split at k1 <;> cases k1
        · rename_i hi
          exact ⟨k1, by simpa using hi⟩
      refine ⟨this.1, fun x' hx' => ?_⟩
      rcases List.mem_cons.1 hx' with rfl | hx'
      · exact this.2
      · exact k2 x' hx'
theorem victim_none {L : List HE} (h : ∀ x ∈ L, x.idle = false) : victim L = none := by
  cases hv : victim L with
  | none => rfl
  | some y =>
    obtain ⟨h1, _⟩ := (victim_fold L none).1 y hv
    rcases h1 with h1 | ⟨h1, h2⟩
    · cases h1
    · rw [h y h1] at h2; cases h2
theorem victim_some {L : List HE} {o : HE} (ho : o ∈ L) (hi : o.idle = true) (hmin : ∀ x ∈ L, x.idle = true → o.used ≤ x.used) (hinj : ∀ x ∈ L, ∀ y ∈ L, x.used = y.used → x = y) : victim L = some o := by
  cases hv : victim L with
  | none =>
    have := ((victim_fold L none).2 hv).2 o ho
    rw [hi] at this; cases this
  | some y =>
    obtain ⟨h1, h2, _⟩ := (victim_fold L none).1 y hv
    rcases h1 with h1 | ⟨h1, h3⟩
    · cases h1
    · have := h2 o ho hi
      have := hmin y h1 h3
      rw [hinj y h1 o ho (by omega)]

/-- An entry, as the document has it. -/
def heOf (U : Nat → EV) (B : Nat → By) (a : Nat) : HE := ⟨(U a).block, (U a).pins, (U a).used, (U a).dirty, B a⟩
def acOf (s : CS) (B : Nat → By) : AC := ⟨s.room, s.A.map (heOf s.U B), s.uses, s.met, s.missed, s.out⟩
theorem heOf_idle (U : Nat → EV) (B : Nat → By) (a : Nat) : (heOf U B a).idle = idleE (U a) := rfl

theorem held_iff {s : CS} {B : Nat → By} {b : Nat} : (acOf s B).held b = true ↔ ∃ a ∈ s.A, (s.U a).block = b := by
  unfold AC.held acOf
  simp [heOf]
theorem held_not {s : CS} {B : Nat → By} {b : Nat} (h : (acOf s B).held b = false) : ∀ a ∈ s.A, (s.U a).block ≠ b := fun a ha e => by
  have : (acOf s B).held b = true := held_iff.2 ⟨a, ha, e⟩
  rw [h] at this; cases this

section
variable {w : World} {s : CS} {vs : VS} {B : Nat → By}
theorem CX.full_iff (h : CI w s vs B) : (acOf s B).full = true ↔ s.room ≤ s.A.length ∧ s.I = [] := by
  unfold AC.full
  rw [Bool.and_eq_true, decide_eq_true_iff]
  have e1 : (acOf s B).L.length = s.A.length := by simp [acOf]
  rw [e1]
  refine and_congr Iff.rfl ⟨fun hv => ?_, fun hI => ?_⟩
  · have hv' : victim (acOf s B).L = none := by
      cases hx : victim (acOf s B).L with
      | none => rfl
      | some y => rw [hx] at hv; cases hv
    have := ((victim_fold _ none).2 hv').2
    refine List.eq_nil_iff_forall_not_mem.2 fun a ha => ?_
    obtain ⟨h1, h2⟩ := (h.idle a (fun h => h)).1 ha
    have := this (heOf s.U B a) (List.mem_map.2 ⟨a, h1, rfl⟩)
    rw [heOf_idle, h2] at this
    cases this
  · have : victim (acOf s B).L = none := victim_none fun x hx => by
      obtain ⟨a, ha, rfl⟩ := List.mem_map.1 hx
      rw [heOf_idle]
      cases hi : idleE (s.U a) with
      | false => rfl
      | true =>
        have := (h.idle a (fun h => h)).2 ⟨ha, hi⟩
        rw [hI] at this; cases this
    rw [this]; rfl
/-- What the heap's first one is. -/
theorem CX.victim (h : CI w s vs B) {o : Nat} (ho : o ∈ s.I) (hmin : ∀ b ∈ s.I, (s.U o).used ≤ (s.U b).used) : victim (acOf s B).L = some (heOf s.U B o) := by
  obtain ⟨h1, h2⟩ := (h.idle o (fun h => h)).1 ho
  refine victim_some (List.mem_map.2 ⟨o, h1, rfl⟩) h2 (fun x hx hi => ?_) (fun x hx y hy e => ?_)
  · obtain ⟨a, ha, rfl⟩ := List.mem_map.1 hx
    exact hmin a ((h.idle a (fun h => h)).2 ⟨ha, hi⟩)
  · obtain ⟨a, ha, rfl⟩ := List.mem_map.1 hx
    obtain ⟨b, hb, rfl⟩ := List.mem_map.1 hy
    rw [h.uinj a ha b hb (fun h => h) (fun h => h) e]
/-- What is left behind a taking out. -/
theorem CX.filtered (h : CI w s vs B) {o : Nat} (ho : o ∈ s.A) : (s.A.filter (fun b => b != o)).map (heOf s.U B) = (acOf s B).L.filter (fun x => x.block != (s.U o).block) := by
  show _ = (s.A.map (heOf s.U B)).filter _
  rw [List.filter_map]
  congr 1
  refine List.filter_congr fun a ha => ?_
  show (a != o) = ((s.U a).block != (s.U o).block)
  by_cases e : a = o
  · rw [e, bne_self_eq_false, bne_self_eq_false]
  · have h2 : (s.U a).block ≠ (s.U o).block := fun e' => e (h.cm.hm.inj a ha o ho e')
    rw [bne_iff_ne.2 e, bne_iff_ne.2 h2]
/-- One entry is turned. -/
theorem touched_abs (cm : CM w s) {a : Nat} (ha : a ∈ s.A) (e : EV) (b : By) (f : HE → HE) (hf : f (heOf s.U B a) = ⟨e.block, e.pins, e.used, e.dirty, b⟩) : s.A.map (heOf (updU s.U a e) (fun k => if k = a then b else B k)) = (acOf s B).L.map fun x => if x.block = (s.U a).block then f x else x := by
  show _ = (s.A.map (heOf s.U B)).map _
  rw [List.map_map]
  refine List.map_congr_left fun k hk => ?_
  show heOf (updU s.U a e) (fun k => if k = a then b else B k) k = if (s.U k).block = (s.U a).block then f (heOf s.U B k) else heOf s.U B k
  by_cases e' : k = a
  · subst e'
    rw [if_pos rfl, hf]
    unfold heOf
    simp [updU_same]
  · have : (s.U k).block ≠ (s.U a).block := fun e'' => e' (cm.hm.inj k hk a ha e'')
    rw [if_neg this]
    unfold heOf
    simp [updU_other _ _ e', e']
end

end Go.Proofs.YtdepdcndfofknaaGreatDoor

/-
  use over a cache and its volume; Get and Pin of package bcache.
-/
namespace Go.Proofs.YtdepdcndfofknaaGreatDoor
open Go.RowKit Go.Maps Go.Sort Go.Shelf

section
variable {w w' : World} {s : CS} {vs : VS} {B : Nat → By} {a : Nat}
theorem CX.weak (h : CI w s vs B) (a : Nat) : CX (fun k => k = a) w s vs B :=
  ⟨h.cm, h.vi, h.vv, h.hf, h.hd, h.dat, fun _ _ => hx_of_ord (h.ord fun _ h => h), fun _ => h.ord fun _ h => h, fun b _ => h.idle b (fun h => h), h.dirty, h.dnd, fun b hb _ => h.used b hb (fun h => h), fun b hb c hc _ _ => h.uinj b hb c hc (fun h => h) (fun h => h), h.blk, h.clean, h.room⟩
theorem len_sub : ∀ {I A : List Nat}, I.Nodup → (∀ a ∈ I, a ∈ A) → I.length ≤ A.length
  | [], _, _, _ => Nat.zero_le _
  | a :: I, A, hn, hs => by
    have ha := hs a (by simp)
    have h1 := len_sub (I := I) (A := A.erase a) (List.nodup_cons.1 hn).2 (fun b hb => by
      have hne : b ≠ a := fun e => (List.nodup_cons.1 hn).1 (e ▸ hb)
      exact (List.mem_erase_of_ne hne).2 (hs b (by simp [hb])))
    rw [List.length_erase_of_mem ha] at h1
    have := List.length_pos_of_mem ha
    simp only [List.length_cons]
    omega
theorem CX.ilen {ex : Nat → Prop} (h : CX ex w s vs B) : s.I.length ≤ 4096 := by
  have := len_sub h.cm.hp.nodup h.cm.sub
  have := h.room.2.1
  have := h.room.2.2
  omega

/-- An entry is turned: all holds but for its rank. -/
theorem cx_setE (h : CX (fun k => k = a) w s vs B) (e : EV) (b : By) (D' : List Nat) (dq : Option Addr) (dcap : Nat) (cm : CM w' { s with U := updU s.U a e, D := D', dq := dq, dcap := dcap }) (hB : But (cMine w s.h) w w') (ha : a ∈ s.A)
    (heb : e.block = (s.U a).block) (hdat : DatAt w' e b) (hD : (e.dirty = (s.U a).dirty ∧ D' = s.D) ∨ (e.dirty = true ∧ (s.U a).dirty = false ∧ D' = s.D ++ [a])) (hcl : e.dirty = false → b = B a) :
    CX (fun k => k = a) w' { s with U := updU s.U a e, D := D', dq := dq, dcap := dcap } vs (fun k => if k = a then b else B k) := by
  obtain ⟨hvi, hkeep⟩ := h.keep hB
  have U1 : ∀ k, k ≠ a → updU s.U a e k = s.U k := fun k hk => updU_other _ _ hk
  refine ⟨cm, hvi, h.vv, h.hf, h.hd, fun k hk => ?_, fun k hk => ?_, fun hall => absurd rfl (hall a), fun k hk => ?_, fun k => ?_, ?_, fun k hk hka => ?_, fun k hk k' hk' hka hka' e' => ?_, fun k hk => ?_, fun k hk hdk => ?_, h.room⟩
  · show DatAt w' (updU s.U a e k) (if k = a then b else B k)
    by_cases e' : k = a
    · subst e'; rw [updU_same, if_pos rfl]; exact hdat
    · rw [U1 k e', if_neg e']; exact hkeep _ _ (h.dat k hk)
  · have e' : k = a := hk
    rw [e']
    have := hx_upd h.cm.hp.nodup (h.hx a rfl) e
    exact ⟨this.1, this.2⟩
  · show k ∈ s.I ↔ k ∈ s.A ∧ idleE (updU s.U a e k) = true
    rw [U1 k hk]; exact h.idle k hk
  · show k ∈ D' ↔ k ∈ s.A ∧ (updU s.U a e k).dirty = true
    by_cases e' : k = a
    · subst e'
      rw [updU_same]
      rcases hD with ⟨h1, h2⟩ | ⟨h1, _, h2⟩
      · rw [h1, h2]; exact h.dirty k
      · rw [h1, h2]; simp [ha]
    · rw [U1 k e']
      rcases hD with ⟨_, h2⟩ | ⟨_, _, h2⟩
      · rw [h2]; exact h.dirty k
      · rw [h2, List.mem_append, List.mem_singleton, ← h.dirty k]
        exact ⟨fun h => h.resolve_right e', .inl⟩
  · show D'.Nodup
    rcases hD with ⟨_, h2⟩ | ⟨_, h3, h2⟩
    · rw [h2]; exact h.dnd
    · have haD : a ∉ s.D := fun hd => by have := ((h.dirty a).1 hd).2; rw [h3] at this; cases this
      rw [h2, List.nodup_append]
      exact ⟨h.dnd, by simp, fun x hx y hy => by rw [List.mem_singleton.1 hy]; exact fun e => haD (e ▸ hx)⟩
  · show (updU s.U a e k).used ≤ s.uses
    rw [U1 k hka]; exact h.used k hk hka
  · have e2 : (updU s.U a e k).used = (updU s.U a e k').used := e'
    rw [U1 k hka, U1 k' hka'] at e2
    exact h.uinj k hk k' hk' hka hka' e2
  · show (updU s.U a e k).block < _
    by_cases e' : k = a
    · rw [e', updU_same, heb]; exact h.blk a ha
    · rw [U1 k e']; exact h.blk k hk
  · show (if k = a then b else B k) = vs.cont (updU s.U a e k).block
    have hdk' : (updU s.U a e k).dirty = false := hdk
    by_cases e' : k = a
    · subst e'
      rw [updU_same] at hdk' ⊢
      rw [if_pos rfl, heb, hcl hdk']
      refine h.clean k hk ?_
      rcases hD with ⟨h1, _⟩ | ⟨_, h1, _⟩
      · rw [← h1]; exact hdk'
      · exact h1
    · rw [U1 k e'] at hdk' ⊢
      rw [if_neg e']
      exact h.clean k hk hdk'

/-- Behind use all holds. -/
theorem cx_used {s' : CS} (h : CX (fun k => k = a) w s vs B) (ha : a ∈ s.A) (hu : Us w w' s s' a) : CI w' s' vs B := by
  obtain ⟨hvi, hkeep⟩ := h.keep hu.but
  obtain ⟨ip, icap, I', rfl⟩ := hu.eq
  have U1 : ∀ k, k ≠ a → updU s.U a { s.U a with used := s.uses + 1 } k = s.U k := fun k hk => updU_other _ _ hk
  have Ua : updU s.U a { s.U a with used := s.uses + 1 } a = { s.U a with used := s.uses + 1 } := updU_same _ _ _
  have hdir : ∀ k, (updU s.U a { s.U a with used := s.uses + 1 } k).dirty = (s.U k).dirty := fun k => by
    by_cases e : k = a
    · rw [e, Ua]
    · rw [U1 k e]
  have hblk : ∀ k, (updU s.U a { s.U a with used := s.uses + 1 } k).block = (s.U k).block := fun k => by
    by_cases e : k = a
    · rw [e, Ua]
    · rw [U1 k e]
  refine ⟨hu.cm, hvi, h.vv, h.hf, h.hd, fun k hk => ?_, fun _ h => h.elim, fun _ => hu.ord, fun k _ => ?_, fun k => ?_, h.dnd, fun k hk _ => ?_, fun k hk k' hk' _ _ e' => ?_, fun k hk => ?_, fun k hk hdk => ?_, h.room⟩
  · show DatAt w' (updU s.U a { s.U a with used := s.uses + 1 } k) (B k)
    by_cases e : k = a
    · rw [e, Ua]
      have := hkeep _ _ (h.dat a ha)
      exact this
    · rw [U1 k e]; exact hkeep _ _ (h.dat k hk)
  · show k ∈ I' ↔ k ∈ s.A ∧ idleE (updU s.U a { s.U a with used := s.uses + 1 } k) = true
    rw [show (k ∈ I' ↔ _) from hu.mem k]
    by_cases e : k = a
    · subst e
      rw [Ua]
      constructor
      · rintro (⟨_, h1⟩ | ⟨_, h1⟩)
        · exact absurd rfl h1
        · exact ⟨ha, h1⟩
      · rintro ⟨_, h1⟩; exact .inr ⟨rfl, h1⟩
    · rw [U1 k e, ← h.idle k e]
      constructor
      · rintro (⟨h1, _⟩ | ⟨h1, _⟩)
        · exact h1
        · exact absurd h1 e
      · intro h1; exact .inl ⟨h1, e⟩
  · show k ∈ s.D ↔ k ∈ s.A ∧ (updU s.U a { s.U a with used := s.uses + 1 } k).dirty = true
    rw [hdir]; exact h.dirty k
  · show (updU s.U a { s.U a with used := s.uses + 1 } k).used ≤ s.uses + 1
    by_cases e : k = a
    · rw [e, Ua]; exact Nat.le_refl _
    · rw [U1 k e]; exact Nat.le_trans (h.used k hk e) (Nat.le_succ _)
  · have e2 : (updU s.U a { s.U a with used := s.uses + 1 } k).used = (updU s.U a { s.U a with used := s.uses + 1 } k').used := e'
    by_cases e : k = a
    · by_cases e3 : k' = a
      · rw [e, e3]
      · rw [e, Ua, U1 k' e3] at e2
        have := h.used k' hk' e3
        have e4 : s.uses + 1 = (s.U k').used := e2
        omega
    · by_cases e3 : k' = a
      · rw [e3, Ua, U1 k e] at e2
        have := h.used k hk e
        have e4 : (s.U k).used = s.uses + 1 := e2
        omega
      · rw [U1 k e, U1 k' e3] at e2
        exact h.uinj k hk k' hk' e e3 e2
  · show (updU s.U a { s.U a with used := s.uses + 1 } k).block < _
    rw [hblk]; exact h.blk k hk
  · show B k = vs.cont (updU s.U a { s.U a with used := s.uses + 1 } k).block
    have hdk' : (updU s.U a { s.U a with used := s.uses + 1 } k).dirty = false := hdk
    rw [hdir] at hdk'
    rw [hblk]; exact h.clean k hk hdk'
theorem acOf_used {s' : CS} (cm : CM w s) (ha : a ∈ s.A) (hu : Us w w' s s' a) : acOf s' B = (acOf s B).touch (s.U a).block id := by
  obtain ⟨ip, icap, I', rfl⟩ := hu.eq
  have := touched_abs (B := B) cm ha { s.U a with used := s.uses + 1 } (B a) (fun x => { x with used := s.uses + 1 }) rfl
  have eB : (fun k => if k = a then B a else B k) = B := by funext k; split <;> simp_all
  rw [eB] at this
  unfold acOf AC.touch
  congr 1
theorem use_cx (h : CX (fun k => k = a) w s vs B) (ha : a ∈ s.A) {b : Nat} (hz : CB s b) (hb : b < 900000) :
    Calls Tryz.prog 46 #[ep s.c, ep a] w fun e w' => e = .returned (.tuple #[]) ∧ ∃ s', CI w' s' vs B ∧ Us w w' s s' a ∧ acOf s' B = (acOf s B).touch (s.U a).block id := by
  have hl := h.ilen
  have := hz.uses
  refine (use_any s a w h.cm ha (h.hx a rfl) (by omega) (by omega)).mono ?_
  rintro e w' ⟨rfl, s', hu⟩
  exact ⟨rfl, s', cx_used h ha hu, hu, acOf_used h.cm ha hu⟩
end

/-- Behind meet: the block's entry, held but for its rank. -/
structure Mx (w w' : World) (s s' : CS) (vs : VS) (B B' : Nat → By) (block a b : Nat) : Prop where
  cx : CX (fun k => k = a) w' s' vs B'
  inA : a ∈ s'.A
  blk : (s'.U a).block = block
  ac : acOf s' B' = if (acOf s B).held block then { acOf s B with hit := s.met + 1 } else { (acOf s B).evict.add block (vs.cont block) with miss := s.missed + 1 }
  cb : CB s' (b + 1) ∧ s'.uses = s.uses
  c : s'.c = s.c
  h : s'.h = s.h
  but : But (cMine w s.h) w w'

theorem not_full {w : World} {s : CS} {vs : VS} {B : Nat → By} (h : CI w s vs B) (hf : (acOf s B).full = false) : s.A.length < s.room ∨ 0 < s.I.length := by
  by_cases hlt : s.A.length < s.room
  · exact .inl hlt
  · right
    apply Classical.byContradiction
    intro hI
    have : (acOf s B).full = true := h.full_iff.2 ⟨by omega, List.eq_nil_of_length_eq_zero (by omega)⟩
    rw [hf] at this; cases this

theorem evict_abs {w : World} {s : CS} {vs : VS} {B : Nat → By} (h : CI w s vs B) {A1 I1 : List Nat} {out1 : Nat}
    (hev : (s.A.length < s.room ∧ A1 = s.A ∧ I1 = s.I ∧ out1 = s.out) ∨ (s.room ≤ s.A.length ∧ ∃ o, o ∈ s.I ∧ (∀ b ∈ s.I, (s.U o).used ≤ (s.U b).used) ∧ A1 = s.A.filter (fun b => b != o) ∧ (∀ b, b ∈ I1 ↔ b ∈ s.I ∧ b ≠ o) ∧ out1 = s.out + 1)) :
    (acOf s B).evict = { acOf s B with L := A1.map (heOf s.U B), outs := out1 } := by
  have e1 : (acOf s B).L.length = s.A.length := by simp [acOf]
  have e2 : (acOf s B).room = s.room := rfl
  unfold AC.evict
  rw [e1, e2]
  rcases hev with ⟨hlt, rfl, _, rfl⟩ | ⟨hge, o, ho, hmin, rfl, _, rfl⟩
  · rw [if_pos hlt]; rfl
  · rw [if_neg (by omega), h.victim ho hmin]
    show ({ acOf s B with L := (acOf s B).L.filter (fun x => x.block != (s.U o).block), outs := _ } : AC) = _
    rw [h.filtered (h.cm.sub o ho)]
    rfl

theorem meet_ok (s : CS) (vs : VS) (B : Nat → By) (block b : Nat) (w : World) (h : CI w s vs B) (hz : CB s b) (hbz : b < 900000) (hb : block < nbOf vs.d.n) (hok : (acOf s B).held block = true ∨ (acOf s B).full = false) :
    Calls Tryz.prog 45 #[ep s.c, .int .i64 (block : Nat)] w fun e w' => ∃ a s' B', e = .returned (.tuple #[ep a, .int .i64 0]) ∧ Mx w w' s s' vs B B' block a b := by
  cases hh : (acOf s B).held block with
  | true =>
    obtain ⟨a, ha, rfl⟩ := held_iff.1 hh
    have := hz.met
    refine (meet_hit s vs B a w h ha (by omega)).mono ?_
    rintro e w' ⟨rfl, hI, hB⟩
    refine ⟨a, _, B, rfl, hI.weak a, ha, rfl, ?_, ⟨⟨?_, ?_, ?_, ?_, ?_⟩, rfl⟩, rfl, rfl, hB⟩
    · rw [hh]; rfl
    · have := hz.nh; show s.nh ≤ _; omega
    · have := hz.uses; show s.uses ≤ _; omega
    · show s.met + 1 ≤ _; omega
    · have := hz.missed; show s.missed ≤ _; omega
    · have := hz.out; show s.out ≤ _; omega
  | false =>
    have hf : (acOf s B).full = false := by
      rcases hok with h1 | h1
      · rw [hh] at h1; cases h1
      · exact h1
    refine (meet_miss s vs B block b w h hz hbz hb (held_not hh) (not_full h hf)).mono ?_
    rintro e w' ⟨a, s', B', rfl, hM⟩
    obtain ⟨F, A1, I1, out1, p, cp, rfl, hev⟩ := hM.eq
    have hcx := hM.cx
    have hbB := hM.bytes
    subst hbB
    refine ⟨a, _, _, rfl, hcx, by simp, ?_, ?_, ⟨⟨?_, ?_, ?_, ?_, ?_⟩, rfl⟩, rfl, rfl, hM.but⟩
    · show (updU s.U a _ a).block = block
      rw [updU_same]
    · rw [hh, if_neg (by simp), evict_abs h hev]
      have hA1 : ∀ k ∈ A1, k ≠ a := fun k hk e => by
        have hks : k ∈ s.A := by
          rcases hev with ⟨_, rfl, _⟩ | ⟨_, o, _, _, rfl, _⟩
          · exact hk
          · exact (List.mem_filter.1 hk).1
        have := h.cm.alt hks
        have := hM.new
        omega
      have e1 : A1.map (heOf (updU s.U a ⟨block, p, 512, cp, 0, false, 0⟩) (fun k => if k = a then vs.cont block else B k)) = A1.map (heOf s.U B) := List.map_congr_left fun k hk => by
        unfold heOf
        simp [updU_other _ _ (hA1 k hk), hA1 k hk]
      unfold acOf AC.add
      simp only [List.map_append, List.map_cons, List.map_nil, e1]
      congr 2
      unfold heOf
      simp [updU_same]
    · have := hz.nh; show s.nh + 1 ≤ _; omega
    · have := hz.uses; show s.uses ≤ _; omega
    · have := hz.met; show s.met ≤ _; omega
    · have := hz.missed; show s.missed + 1 ≤ _; omega
    · have := hz.out
      show out1 ≤ _
      rcases hev with ⟨_, _, _, rfl⟩ | ⟨_, o, _, _, _, _, rfl⟩ <;> omega

/-- A step of a cache. -/
structure Cst (w w' : World) (s s' : CS) (vs : VS) (B' : Nat → By) (b : Nat) : Prop where
  ci : CI w' s' vs B'
  cb : CB s' (b + 1)
  c : s'.c = s.c
  h : s'.h = s.h
  but : But (cMine w s.h) w w'

theorem dataOf_ent {w : World} {s : CS} {B : Nat → By} (cm : CM w s) {a : Nat} (ha : a ∈ s.A) : (acOf s B).dataOf (s.U a).block = B a := by
  unfold AC.dataOf
  show (((s.A.map (heOf s.U B)).find? fun x => x.block == (s.U a).block).map HE.data).getD [] = B a
  have : (s.A.map (heOf s.U B)).find? (fun x => x.block == (s.U a).block) = some (heOf s.U B a) := by
    rw [List.find?_map]
    have hf : s.A.find? ((fun x : HE => x.block == (s.U a).block) ∘ heOf s.U B) = some a := by
      cases hx : s.A.find? ((fun x : HE => x.block == (s.U a).block) ∘ heOf s.U B) with
      | none =>
        have := List.find?_eq_none.1 hx a ha
        simp [heOf] at this
      | some c =>
        have h1 := List.mem_of_find?_eq_some hx
        have h2 := List.find?_some hx
        have h3 : (s.U c).block = (s.U a).block := by simpa [heOf] using h2
        rw [cm.hm.inj c h1 a ha h3]
    rw [hf]; rfl
  rw [this]; rfl

set_option maxRecDepth 8000 in
set_option maxHeartbeats 1000000 in
theorem get_ok (s : CS) (vs : VS) (B : Nat → By) (block b : Nat) (w : World) (h : CI w s vs B) (hz : CB s b) (hbz : b < 800000) (hb : block < nbOf vs.d.n) (hok : (acOf s B).held block = true ∨ (acOf s B).full = false) :
    Calls Tryz.prog 12 #[ep s.c, .int .i64 (block : Nat)] w fun e w' => ∃ g cap, e = .returned (.tuple #[.slice (some ⟨g, 0, none⟩) 512 cap, .int .i64 0]) ∧ ∃ s' B', Cst w w' s s' vs B' b ∧ acOf s' B' = (acOf s B).meet block (vs.cont block) id ∧ Bytes w' (some ⟨g, 0, none⟩) ((acOf s' B').dataOf block) ∧ ((acOf s' B').dataOf block).length = 512 := by
  have cM := meet_ok s vs B block b w h hz (by omega) hb hok
  clear h
  go_enter Tryz.func12, Tryz.ntmps12
  go_wp2_with (go_at_call 45; refine cM.mono ?_; rintro e w1 ⟨a, s1, B1, rfl, hM⟩; clear cM; refine Stop.out ?_)
  refine Stop.mk ?_
  have cU := use_cx hM.cx hM.inA hM.cb.1 (by omega)
  rw [hM.c] at cU
  have H1 : Hid (Mx w w1 s s1 vs B B1 block a b) := hM
  clear hM
  go_wp2_with (go_at_call 46; refine cU.mono ?_; rintro e w2 ⟨rfl, s2, hI2, hU2, hac2⟩; clear cU; refine Stop.out ?_)
  refine Stop.mk ?_
  obtain ⟨ip, icap, I', he2⟩ := hU2.eq
  have ha2 : a ∈ s2.A := by rw [he2]; exact H1.out.inA
  obtain ⟨x, hE⟩ := hI2.cm.entAny ha2
  obtain ⟨hn, hl, hcp, g0, hp, hbb, htg⟩ := hI2.dat a ha2
  have d1 : w2.cell? ⟨a, 1, none⟩ = some (.slice (some ⟨g0, 0, none⟩) 512 (s2.U a).cp) := by
    rw [cellOf hE 1, ← hp]
    show some (Value.slice (s2.U a).p (s2.U a).n (s2.U a).cp) = _
    rw [hn]
  have cl := clone_bytes g0 0 (B1 a) (s2.U a).cp w2 hbb (by omega) (by omega)
  rw [hl] at cl
  have hblk2 : (s2.U a).block = block := by
    rw [he2]
    show (updU s1.U a _ a).block = block
    rw [updU_same]; exact H1.out.blk
  have hdat : (acOf s2 B1).dataOf block = B1 a := by rw [← hblk2]; exact dataOf_ent hI2.cm ha2
  have hB2 : But (cMine w s.h) w w2 := cMine_trans H1.out.but (by rw [← H1.out.h]; exact hU2.but)
  have hac : acOf s2 B1 = (acOf s B).meet block (vs.cont block) id := by
    rw [hac2, H1.out.blk, H1.out.ac]
    unfold AC.meet
    split <;> rfl
  have hcb : CB s2 (b + 1) := by
    obtain ⟨⟨q1, q2, q3, q4, q5⟩, q6⟩ := H1.out.cb
    have := hz.uses
    rw [he2]
    exact ⟨q1, by show s1.uses + 1 ≤ _; omega, q3, q4, q5⟩
  have hc2 : s2.c = s.c := by rw [he2]; exact H1.out.c
  have hh2 : s2.h = s.h := by rw [he2]; exact H1.out.h
  have H2 : Hid (CI w2 s2 vs B1 ∧ CB s2 (b + 1) ∧ s2.c = s.c ∧ s2.h = s.h ∧ But (cMine w s.h) w w2 ∧ acOf s2 B1 = (acOf s B).meet block (vs.cont block) id ∧ (acOf s2 B1).dataOf block = B1 a ∧ (B1 a).length = 512) := ⟨hI2, hcb, hc2, hh2, hB2, hac, hdat, hl⟩
  clear hI2 hU2 hac2 he2 ha2 hE hn hcp hp hbb htg hblk2 hdat hB2 hac hcb hc2 hh2 H1 hl
  go_wp2_with (go_at_call 47; refine cl.mono ?_; rintro e w3 ⟨g, cap, rfl, hg, hcap, hb3, hB3, ht3⟩; clear cl)
  go_ret2
  obtain ⟨hI2, hcb, hc2, hh2, hB2, hac, hdat, hl⟩ := H2.out
  exact ⟨g, cap, rfl, s2, B1, ⟨hI2.below hB3, hcb, hc2, hh2, hB2.after (But.of_below (S := fun _ => False) hB3) (fun _ _ h => h.elim)⟩, hac, by rw [hdat]; exact hb3, by rw [hdat]; exact hl⟩

set_option maxRecDepth 8000 in
set_option maxHeartbeats 1000000 in
theorem get_full (s : CS) (vs : VS) (B : Nat → By) (block : Nat) (w : World) (h : CI w s vs B) (hb : block < nbOf vs.d.n) (hh : (acOf s B).held block = false) (hf : (acOf s B).full = true) :
    Calls Tryz.prog 12 #[ep s.c, .int .i64 (block : Nat)] w fun e w' => e = .returned (.tuple #[.slice none 0 0, .int .i64 28]) ∧ Below w.heap.size w w' := by
  obtain ⟨h1, h2⟩ := h.full_iff.1 hf
  have cM := meet_full s vs B block w h hb (held_not hh) h1 h2
  clear h
  go_enter Tryz.func12, Tryz.ntmps12
  go_wp2_with (go_at_call 45; refine cM.mono ?_; rintro e w1 ⟨rfl, hB1⟩; clear cM)
  go_ret2
  exact ⟨rfl, hB1⟩
set_option maxRecDepth 8000 in
set_option maxHeartbeats 1000000 in
theorem get_out (s : CS) (vs : VS) (B : Nat → By) (x : Int) (w : World) (h : CI w s vs B) (h1 : -9223372036854775808 ≤ x) (h2 : x < 9223372036854775808) (hx : ¬ (0 ≤ x ∧ x < nbOf vs.d.n)) :
    Calls Tryz.prog 12 #[ep s.c, .int .i64 x] w fun e w' => e = .returned (.tuple #[.slice none 0 0, .int .i64 22]) ∧ w' = w := by
  have cM := meet_out s vs B x w h h1 h2 hx
  clear h
  go_enter Tryz.func12, Tryz.ntmps12
  go_wp2_with (go_at_call 45; refine Calls_on cM ?_)
  go_ret2
  exact ⟨rfl, rfl⟩
set_option maxRecDepth 8000 in
set_option maxHeartbeats 1000000 in
theorem pin_full (s : CS) (vs : VS) (B : Nat → By) (block : Nat) (w : World) (h : CI w s vs B) (hb : block < nbOf vs.d.n) (hh : (acOf s B).held block = false) (hf : (acOf s B).full = true) :
    Calls Tryz.prog 14 #[ep s.c, .int .i64 (block : Nat)] w fun e w' => e = .returned (.int .i64 28) ∧ Below w.heap.size w w' := by
  obtain ⟨h1, h2⟩ := h.full_iff.1 hf
  have cM := meet_full s vs B block w h hb (held_not hh) h1 h2
  clear h
  go_enter Tryz.func14, Tryz.ntmps14
  go_wp2_with (go_at_call 45; refine cM.mono ?_; rintro e w1 ⟨rfl, hB1⟩; clear cM)
  go_ret
  exact ⟨rfl, hB1⟩
set_option maxRecDepth 8000 in
set_option maxHeartbeats 1000000 in
theorem pin_out (s : CS) (vs : VS) (B : Nat → By) (x : Int) (w : World) (h : CI w s vs B) (h1 : -9223372036854775808 ≤ x) (h2 : x < 9223372036854775808) (hx : ¬ (0 ≤ x ∧ x < nbOf vs.d.n)) :
    Calls Tryz.prog 14 #[ep s.c, .int .i64 x] w fun e w' => e = .returned (.int .i64 22) ∧ w' = w := by
  have cM := meet_out s vs B x w h h1 h2 hx
  clear h
  go_enter Tryz.func14, Tryz.ntmps14
  go_wp2_with (go_at_call 45; refine Calls_on cM ?_)
  go_ret
  exact ⟨rfl, rfl⟩

end Go.Proofs.YtdepdcndfofknaaGreatDoor

/-
  Pin, Unpin, Has, Counts of package bcache.
-/
namespace Go.Proofs.YtdepdcndfofknaaGreatDoor
open Go.RowKit Go.Maps Go.Sort Go.Shelf

theorem touch_two (A : AC) (b : Nat) (f : HE → HE) (hf : ∀ x : HE, (f x).block = x.block ∧ ∀ t, ({ f x with used := t } : HE) = f { x with used := t }) : AC.touch { A with L := A.L.map fun x => if x.block = b then f x else x } b id = A.touch b f := by
  unfold AC.touch
  simp only [List.map_map]
  congr 1
  refine List.map_congr_left fun x _ => ?_
  show (if (if x.block = b then f x else x).block = b then id { (if x.block = b then f x else x) with used := A.time + 1 } else (if x.block = b then f x else x)) = if x.block = b then f { x with used := A.time + 1 } else x
  by_cases e : x.block = b
  · simp only [if_pos e]
    rw [if_pos (by rw [(hf x).1]; exact e)]
    exact (hf x).2 _
  · simp only [if_neg e]

set_option maxRecDepth 8000 in
set_option maxHeartbeats 1000000 in
theorem pin_ok (s : CS) (vs : VS) (B : Nat → By) (block b : Nat) (w : World) (h : CI w s vs B) (hz : CB s b) (hbz : b < 800000) (hb : block < nbOf vs.d.n) (hok : (acOf s B).held block = true ∨ (acOf s B).full = false) (hpin : ∀ a ∈ s.A, (s.U a).pins < 1000000) :
    Calls Tryz.prog 14 #[ep s.c, .int .i64 (block : Nat)] w fun e w' => e = .returned (.int .i64 0) ∧ ∃ s' B', Cst w w' s s' vs B' b ∧ acOf s' B' = (acOf s B).meet block (vs.cont block) (fun x => { x with pins := x.pins + 1 }) := by
  have cM := meet_ok s vs B block b w h hz (by omega) hb hok
  have hpinA : Hid (∀ x ∈ (acOf s B).L, x.pins < 1000000) := fun x hx => by
    obtain ⟨a, ha, rfl⟩ := List.mem_map.1 hx
    exact hpin a ha
  clear h hpin
  go_enter Tryz.func14, Tryz.ntmps14
  go_wp2_with (go_at_call 45; refine cM.mono ?_; rintro e w1 ⟨a, s1, B1, rfl, hM⟩; clear cM; refine Stop.out ?_)
  refine Stop.mk ?_
  obtain ⟨x, hE⟩ := hM.cx.cm.entAny hM.inA
  have hps : (s1.U a).pins < 1000000 := by
    have h1 : heOf s1.U B1 a ∈ (acOf s1 B1).L := List.mem_map.2 ⟨a, hM.inA, rfl⟩
    rw [hM.ac] at h1
    split at h1
    · exact hpinA.out _ h1
    · rcases List.mem_append.1 (show heOf s1.U B1 a ∈ (acOf s B).evict.L ++ [_] from h1) with h1 | h1
      · refine hpinA.out (heOf s1.U B1 a) ?_
        revert h1
        unfold AC.evict
        split
        · exact id
        · split
          · intro h1; exact (List.mem_filter.1 h1).1
          · exact id
      · have : (heOf s1.U B1 a).pins = 0 := by rw [List.mem_singleton.1 h1]
        have e2 : (s1.U a).pins = 0 := this
        omega
  have d2 : w1.cell? ⟨a, 2, none⟩ = some (.int .i64 ((s1.U a).pins : Nat)) := by rw [cellOf hE 2]; rfl
  have f2 := frozenOf hE 2
  obtain ⟨z, hzz, e1⟩ : ∃ z : Int, (((s1.U a).pins + 1 : Nat) : Int) = z ∧ (((s1.U a).pins : Nat) : Int) + 1 = z := ⟨_, rfl, by omega⟩
  have cm2 := hM.cx.cm.setE hM.inA 2 (.int .i64 (((s1.U a).pins + 1 : Nat) : Int)) { s1.U a with pins := (s1.U a).pins + 1 } (fun _ => rfl) rfl (hM.cx.cm.hp.used a)
  have mE : cMine w1 s1.h a := hM.cx.cm.mineE hM.inA
  have hB2 : But (cMine w1 s1.h) w1 (w1.setCell ⟨a, 2, none⟩ (.int .i64 (((s1.U a).pins + 1 : Nat) : Int))) := (But.refl (cMine w1 s1.h) w1).setCell _ mE _
  have hdat := (hM.cx.keep hB2).2 _ _ (hM.cx.dat a hM.inA)
  have cx2 := cx_setE hM.cx { s1.U a with pins := (s1.U a).pins + 1 } (B1 a) s1.D s1.dq s1.dcap cm2 hB2 hM.inA rfl hdat (.inl ⟨rfl, rfl⟩) (fun _ => rfl)
  have eB : (fun k => if k = a then B1 a else B1 k) = B1 := by funext k; split <;> simp_all
  have htab := touched_abs (B := B1) hM.cx.cm hM.inA { s1.U a with pins := (s1.U a).pins + 1 } (B1 a) (fun x => { x with pins := x.pins + 1 }) rfl
  rw [eB] at cx2 htab
  have hcb2 : CB { s1 with U := updU s1.U a { s1.U a with pins := (s1.U a).pins + 1 } } (b + 1) := ⟨hM.cb.1.nh, hM.cb.1.uses, hM.cb.1.met, hM.cb.1.missed, hM.cb.1.out⟩
  have cU := use_cx cx2 hM.inA hcb2 (by omega)
  have hc1 : ({ s1 with U := updU s1.U a { s1.U a with pins := (s1.U a).pins + 1 } } : CS).c = s.c := hM.c
  rw [hc1] at cU
  have H1 : Hid (Mx w w1 s s1 vs B B1 block a b ∧ But (cMine w1 s1.h) w1 (w1.setCell ⟨a, 2, none⟩ (.int .i64 (((s1.U a).pins + 1 : Nat) : Int))) ∧ s1.A.map (heOf (updU s1.U a { s1.U a with pins := (s1.U a).pins + 1 }) B1) = (acOf s1 B1).L.map fun x => if x.block = (s1.U a).block then { x with pins := x.pins + 1 } else x) := ⟨hM, hB2, htab⟩
  rw [hzz] at cU H1
  clear hzz hE cm2 mE hB2 hdat cx2 eB htab hcb2 hc1 hM
  go_wp2_with (go_at_call 46; refine cU.mono ?_; rintro e w2 ⟨rfl, s2, hI2, hU2, hac2⟩; clear cU)
  go_ret
  obtain ⟨hM, hB2, htab⟩ := H1.out
  obtain ⟨ip, icap, I', he2⟩ := hU2.eq
  have hB3 : But (cMine w s.h) w w2 := by
    refine cMine_trans hM.but ?_
    rw [← hM.h]
    exact cMine_trans hB2 hU2.but
  refine ⟨rfl, s2, B1, ⟨hI2, ?_, by rw [he2], by rw [he2]; exact hM.h, hB3⟩, ?_⟩
  · obtain ⟨⟨q1, q2, q3, q4, q5⟩, q6⟩ := hM.cb
    have := hz.uses
    rw [he2]
    exact ⟨q1, by show s1.uses + 1 ≤ _; omega, q3, q4, q5⟩
  · rw [hac2]
    have hb1 : (updU s1.U a { s1.U a with pins := (s1.U a).pins + 1 } a).block = block := by rw [updU_same]; exact hM.blk
    show AC.touch (acOf { s1 with U := updU s1.U a { s1.U a with pins := (s1.U a).pins + 1 } } B1) (updU s1.U a _ a).block id = _
    rw [hb1]
    have e3 : acOf { s1 with U := updU s1.U a { s1.U a with pins := (s1.U a).pins + 1 } } B1 = { acOf s1 B1 with L := (acOf s1 B1).L.map fun x => if x.block = block then { x with pins := x.pins + 1 } else x } := by
      unfold acOf
      simp only
      rw [htab, hM.blk]
      rfl
    rw [e3, touch_two _ _ (fun x : HE => { x with pins := x.pins + 1 }) (fun x => ⟨rfl, fun _ => rfl⟩), hM.ac]
    unfold AC.meet
    split <;> rfl

/-- Behind rank all holds. -/
theorem cx_ranked {w w' : World} {s s' : CS} {vs : VS} {B : Nat → By} {a : Nat} (h : CX (fun k => k = a) w s vs B) (ha : a ∈ s.A) (hu : (s.U a).used ≤ s.uses) (hj : ∀ b ∈ s.A, b ≠ a → (s.U b).used ≠ (s.U a).used) (hr : Rk w w' s s' a) : CI w' s' vs B ∧ acOf s' B = acOf s B := by
  obtain ⟨hvi, hkeep⟩ := h.keep hr.but
  obtain ⟨ip, icap, I', rfl⟩ := hr.eq
  refine ⟨⟨hr.cm, hvi, h.vv, h.hf, h.hd, fun k hk => hkeep _ _ (h.dat k hk), fun _ h => h.elim, fun _ => hr.ord, fun k _ => ?_, h.dirty, h.dnd, fun k hk _ => ?_, fun k hk k' hk' _ _ e' => ?_, h.blk, h.clean, h.room⟩, rfl⟩
  · show k ∈ I' ↔ k ∈ s.A ∧ idleE (s.U k) = true
    rw [show (k ∈ I' ↔ _) from hr.mem k]
    by_cases e : k = a
    · subst e
      constructor
      · rintro (⟨_, h1⟩ | ⟨_, h1⟩)
        · exact absurd rfl h1
        · exact ⟨ha, h1⟩
      · rintro ⟨_, h1⟩; exact .inr ⟨rfl, h1⟩
    · rw [← h.idle k e]
      constructor
      · rintro (⟨h1, _⟩ | ⟨h1, _⟩)
        · exact h1
        · exact absurd h1 e
      · intro h1; exact .inl ⟨h1, e⟩
  · by_cases e : k = a
    · rw [e]; exact hu
    · exact h.used k hk e
  · by_cases e : k = a
    · by_cases e3 : k' = a
      · rw [e, e3]
      · subst e; exact absurd (show (s.U k').used = (s.U k).used from e'.symm) (hj k' hk' e3)
    · by_cases e3 : k' = a
      · subst e3; exact absurd e' (hj k hk e)
      · exact h.uinj k hk k' hk' e e3 e'

def AC.unpin (A : AC) (b : Nat) : AC := { A with L := A.L.map fun x => if x.block = b then { x with pins := x.pins - 1 } else x }

set_option maxRecDepth 8000 in
set_option maxHeartbeats 1000000 in
theorem unpin_ok (s : CS) (vs : VS) (B : Nat → By) (a b : Nat) (w : World) (h : CI w s vs B) (hz : CB s b) (ha : a ∈ s.A) (hp : 0 < (s.U a).pins) (hp2 : (s.U a).pins < 1000000) :
    Calls Tryz.prog 16 #[ep s.c, .int .i64 ((s.U a).block : Nat)] w fun e w' => e = .returned (.int .i64 0) ∧ ∃ s', Cst w w' s s' vs B b ∧ acOf s' B = (acOf s B).unpin (s.U a).block := by
  have c2 : w.cell? ⟨s.c, 2, none⟩ = some (.map (some s.h)) := by rw [cellOf h.cm.hp.cell 2]; rfl
  have l1 := h.cm.hm.look_yes ha
  obtain ⟨x, hE⟩ := h.cm.entAny ha
  have d2 : w.cell? ⟨a, 2, none⟩ = some (.int .i64 ((s.U a).pins : Nat)) := by rw [cellOf hE 2]; rfl
  have f2 := frozenOf hE 2
  have hp0 : ((((s.U a).pins : Nat) : Int) == 0) = false := by rw [beq_eq_false_iff_ne]; omega
  obtain ⟨z, hzz, e1⟩ : ∃ z : Int, (((s.U a).pins - 1 : Nat) : Int) = z ∧ (((s.U a).pins : Nat) : Int) - 1 = z := ⟨_, rfl, by omega⟩
  have hw := h.weak a
  have cm2 := h.cm.setE ha 2 (.int .i64 (((s.U a).pins - 1 : Nat) : Int)) { s.U a with pins := (s.U a).pins - 1 } (fun _ => rfl) rfl (h.cm.hp.used a)
  have mE : cMine w s.h a := h.cm.mineE ha
  have hB2 : But (cMine w s.h) w (w.setCell ⟨a, 2, none⟩ (.int .i64 (((s.U a).pins - 1 : Nat) : Int))) := (But.refl (cMine w s.h) w).setCell _ mE _
  have hdat := (h.keep hB2).2 _ _ (h.dat a ha)
  have cx2 := cx_setE hw { s.U a with pins := (s.U a).pins - 1 } (B a) s.D s.dq s.dcap cm2 hB2 ha rfl hdat (.inl ⟨rfl, rfl⟩) (fun _ => rfl)
  have eB : (fun k => if k = a then B a else B k) = B := by funext k; split <;> simp_all
  have htab := touched_abs (B := B) h.cm ha { s.U a with pins := (s.U a).pins - 1 } (B a) (fun x => { x with pins := x.pins - 1 }) rfl
  rw [eB] at cx2 htab
  have hil := cx2.ilen
  have cR := rank_any _ a _ cx2.cm ha (cx2.hx a rfl) (by omega)
  have hU2 : ∀ w' s', Rk (w.setCell ⟨a, 2, none⟩ (.int .i64 (((s.U a).pins - 1 : Nat) : Int))) w' { s with U := updU s.U a { s.U a with pins := (s.U a).pins - 1 } } s' a → CI w' s' vs B ∧ acOf s' B = acOf { s with U := updU s.U a { s.U a with pins := (s.U a).pins - 1 } } B := fun w' s' hr => by
    refine cx_ranked cx2 ha ?_ (fun k hk hka => ?_) hr
    · show (updU s.U a _ a).used ≤ s.uses
      rw [updU_same]; exact h.used a ha (fun h => h)
    · show (updU s.U a _ k).used ≠ (updU s.U a _ a).used
      rw [updU_same, updU_other _ _ hka]
      exact fun e => hka (h.uinj k hk a ha (fun h => h) (fun h => h) e)
  have H1 : Hid ((∀ w' s', Rk (w.setCell ⟨a, 2, none⟩ (.int .i64 (((s.U a).pins - 1 : Nat) : Int))) w' { s with U := updU s.U a { s.U a with pins := (s.U a).pins - 1 } } s' a → CI w' s' vs B ∧ acOf s' B = acOf { s with U := updU s.U a { s.U a with pins := (s.U a).pins - 1 } } B) ∧ But (cMine w s.h) w (w.setCell ⟨a, 2, none⟩ (.int .i64 (((s.U a).pins - 1 : Nat) : Int))) ∧ s.A.map (heOf (updU s.U a { s.U a with pins := (s.U a).pins - 1 }) B) = (acOf s B).L.map fun x => if x.block = (s.U a).block then { x with pins := x.pins - 1 } else x) := ⟨hU2, hB2, htab⟩
  rw [hzz] at cR H1
  clear hzz hE cm2 mE hB2 hdat cx2 eB htab hU2 hw h hil
  go_enter Tryz.func16, Tryz.ntmps16
  go_wp2_with (go_at_call 49; refine cR.mono ?_; rintro e w2 ⟨rfl, s2, hR2⟩; clear cR)
  go_ret
  obtain ⟨hU2, hB2, htab⟩ := H1.out
  obtain ⟨hI2, hac⟩ := hU2 w2 s2 hR2
  obtain ⟨ip, icap, I', he2⟩ := hR2.eq
  refine ⟨rfl, s2, ⟨hI2, ?_, by rw [he2], by rw [he2], cMine_trans hB2 hR2.but⟩, ?_⟩
  · obtain ⟨q1, q2, q3, q4, q5⟩ := hz
    rw [he2]
    exact ⟨by show s.nh ≤ _; omega, by show s.uses ≤ _; omega, by show s.met ≤ _; omega, by show s.missed ≤ _; omega, by show s.out ≤ _; omega⟩
  · rw [hac]
    unfold acOf AC.unpin
    simp only
    rw [htab]
    rfl

set_option maxRecDepth 8000 in
set_option maxHeartbeats 1000000 in
theorem unpin_zero (s : CS) (vs : VS) (B : Nat → By) (a : Nat) (w : World) (h : CI w s vs B) (ha : a ∈ s.A) (hp : (s.U a).pins = 0) :
    Calls Tryz.prog 16 #[ep s.c, .int .i64 ((s.U a).block : Nat)] w fun e w' => e = .returned (.int .i64 22) ∧ w' = w := by
  have c2 : w.cell? ⟨s.c, 2, none⟩ = some (.map (some s.h)) := by rw [cellOf h.cm.hp.cell 2]; rfl
  have l1 := h.cm.hm.look_yes ha
  obtain ⟨x, hE⟩ := h.cm.entAny ha
  have d2 : w.cell? ⟨a, 2, none⟩ = some (.int .i64 0) := by rw [cellOf hE 2]; show some (Value.int .i64 ((s.U a).pins : Nat)) = _; rw [hp]; rfl
  clear h hE
  go_enter Tryz.func16, Tryz.ntmps16
  go_wp2
  go_ret
  exact ⟨rfl, rfl⟩
set_option maxRecDepth 8000 in
set_option maxHeartbeats 1000000 in
theorem unpin_no (s : CS) (vs : VS) (B : Nat → By) (x : Int) (w : World) (h : CI w s vs B) (h1 : -9223372036854775808 ≤ x) (h2 : x < 9223372036854775808) (hx : ∀ a ∈ s.A, ((s.U a).block : Int) ≠ x) :
    Calls Tryz.prog 16 #[ep s.c, .int .i64 x] w fun e w' => e = .returned (.int .i64 22) ∧ w' = w := by
  have c2 : w.cell? ⟨s.c, 2, none⟩ = some (.map (some s.h)) := by rw [cellOf h.cm.hp.cell 2]; rfl
  have l1 := h.cm.hm.look_no h1 h2 hx
  clear h
  go_enter Tryz.func16, Tryz.ntmps16
  go_wp2
  go_ret
  exact ⟨rfl, rfl⟩
set_option maxRecDepth 8000 in
set_option maxHeartbeats 1000000 in
theorem has_cache (s : CS) (vs : VS) (B : Nat → By) (x : Int) (w : World) (h : CI w s vs B) (h1 : -9223372036854775808 ≤ x) (h2 : x < 9223372036854775808) (r : Bool) (hr : (decide (0 ≤ x) && (acOf s B).held x.toNat) = r) :
    Calls Tryz.prog 28 #[ep s.c, .int .i64 x] w fun e w' => e = .returned (.bool r) ∧ w' = w := by
  have c2 : w.cell? ⟨s.c, 2, none⟩ = some (.map (some s.h)) := by rw [cellOf h.cm.hp.cell 2]; rfl
  subst hr
  by_cases hx : ∃ a ∈ s.A, ((s.U a).block : Int) = x
  · obtain ⟨a, ha, rfl⟩ := hx
    have l1 := h.cm.hm.look_yes ha
    have hh : (acOf s B).held (s.U a).block = true := held_iff.2 ⟨a, ha, rfl⟩
    clear h
    go_enter Tryz.func28, Tryz.ntmps28
    go_wp2
    go_ret
    refine ⟨?_, rfl⟩
    rw [Int.toNat_natCast, hh]
    simp
  · have l1 := h.cm.hm.look_no h1 h2 (fun a ha e => hx ⟨a, ha, e⟩)
    have hh : (decide (0 ≤ x) && (acOf s B).held x.toNat) = false := by
      by_cases h0 : 0 ≤ x
      · have : (acOf s B).held x.toNat = false := by
          cases hc : (acOf s B).held x.toNat with
          | false => rfl
          | true =>
            obtain ⟨a, ha, e⟩ := held_iff.1 hc
            exact absurd ⟨a, ha, by omega⟩ hx
        rw [this]; simp
      · simp [h0]
    rw [hh]
    clear h hh hx
    go_enter Tryz.func28, Tryz.ntmps28
    go_wp2
    go_ret
    exact ⟨rfl, rfl⟩
set_option maxRecDepth 8000 in
set_option maxHeartbeats 1000000 in
theorem counts_cache (s : CS) (vs : VS) (B : Nat → By) (w : World) (h : CI w s vs B) :
    Calls Tryz.prog 27 #[ep s.c] w fun e w' => e = .returned (.tuple #[.int .i64 (s.met : Nat), .int .i64 (s.missed : Nat), .int .i64 (s.out : Nat)]) ∧ ∃ q, w' = w.drewN q := by
  have c6 : w.cell? ⟨s.c, 6, none⟩ = some (.int .i64 (s.met : Nat)) := by rw [cellOf h.cm.hp.cell 6]; rfl
  have c7 : w.cell? ⟨s.c, 7, none⟩ = some (.int .i64 (s.missed : Nat)) := by rw [cellOf h.cm.hp.cell 7]; rfl
  have c8 : w.cell? ⟨s.c, 8, none⟩ = some (.int .i64 (s.out : Nat)) := by rw [cellOf h.cm.hp.cell 8]; rfl
  clear h
  go_enter Tryz.func27, Tryz.ntmps27
  go_wp2_with fail
  first
    | (go_quiet (fail); go_wp2; go_ret3; exact ⟨rfl, _, rfl⟩)
    | (go_ret3; exact ⟨rfl, 0, rfl⟩)

end Go.Proofs.YtdepdcndfofknaaGreatDoor

/-
  Mount of a volume's device that was synced; Commit of too many puts, or of puts that may not be.
-/
namespace Go.Proofs.YtdepdcndfofknaaGreatDoor
open Go.RowKit Go.Maps Go.Sort Go.Shelf

/-- A device with a whole log on it is mounted as the volume of that log. -/
theorem mount_log (s : VS) (d : DS) (w : World) (hl : Log s) (hd : Dev w d) (ht : Tab w) (hn16 : 16 ≤ d.n) (hn200 : d.n ≤ 200) (hn : d.n = s.d.n) (hB : d.B = s.d.B) (hD : d.D = .map []) (hfu : d.fused = false) (hc : s.commits < 1000000) (htu : s.turn < 1000000) :
    Calls Tryz.prog 39 #[dp d.a] w fun e w' => ∃ s', e = .returned (.tuple #[dp s'.v, .int .i64 0]) ∧ VI w' s' ∧ s'.d = d ∧ s'.commits = s.commits ∧ s'.turn = s.turn ∧ s'.nf = s.recs.flatten.length ∧ Below w.heap.size w w' ∧ w.heap.size ≤ s'.v ∧ w.heap.size ≤ s'.f ∧ ∀ i, s'.cont i = s.cont i := by
  have hlen := hl.len
  have hb0 : d.B 0 = headB s.turn (s.commits - s.recs.length) d.n := by rw [hB, hn]; exact hl.head
  have hlog : LogIs d.B d.n (nbOf d.n) s.turn (1 + nbOf d.n) s.recs := by rw [hB, hn]; exact hl.log
  refine (mount_ok s.recs s.turn (s.commits - s.recs.length) d w hd ht hn16 (by unfold DS.dead; rw [hfu]; rfl) hD hb0 (by omega) (by omega) hlog).mono ?_
  rintro e w' ⟨v, f, rfl, hM⟩
  obtain ⟨F, hF⟩ := hM.fr
  have hmlt := hd.mlt
  have hflt := hM.flt
  have ec : s.commits - s.recs.length + s.recs.length = s.commits := by omega
  have hv := hM.vol
  rw [ec] at hv
  refine ⟨⟨v, f, s.recs.flatten.length, s.commits, s.turn, d.n, F, laidOn (fun _ => none) s.recs.flatten, d, s.recs⟩, rfl, ⟨hv, hd.below hM.below, hF, ?_, hfu, hn16, hn200, ⟨rfl, ?_, hlen, hb0, hlog, .inl rfl, ?_, ?_⟩⟩, rfl, rfl, rfl, rfl, hM.below, hM.vlt, hM.flt, fun i => ?_⟩
  · show f ≠ d.m
    omega
  · intro i hi
    have := hl.nb i (by rw [← hn]; exact hi)
    rw [hl.fr] at this
    exact this
  · intro j hj hj'
    show OldB (s.turn + 1) (d.B j)
    rw [hB]
    exact hl.old j (by rw [← hn]; exact hj) (by rw [← hn]; exact hj')
  · intro j hj hj'
    show OldB s.turn (d.B j)
    rw [hB]
    exact hl.old2 j (by rw [← hn]; exact hj) (by rw [← hn]; exact hj')
  · show (laidOn (fun _ => none) s.recs.flatten i).getD (d.B (1 + i)) = (s.fr i).getD (s.d.B (1 + i))
    rw [hB, hl.fr]

set_option maxRecDepth 8000 in
set_option maxHeartbeats 1000000 in
/-- Commit of puts that may not be. -/
theorem vCommit_no (q : Option Addr) (pm : List PutM) (c : Nat) (s : VS) (w : World) (h : VI w s) (hps : PutsAt w q pm) (hq : pm.length = 0 → q = none ∧ c = 0) (hl : pm.length < 1000000) (htk : takesB (nbOf s.d.n) pm = false) :
    Calls Tryz.prog 42 #[dp s.v, .slice q pm.length c] w fun e w' => e = .returned (.int .i64 22) ∧ Below w.heap.size w w' := by
  have c46 := takes_any q pm c s.v s.commits s.turn s.next (some s.f) s.d.count s.d w h.vol h.dev h.n16 hps hq (by omega)
  rw [htk] at c46
  clear h hps
  go_enter Tryz.func42, Tryz.ntmps42
  go_wp2_with (go_at_call 76; refine c46.mono ?_; rintro e w1 ⟨rfl, hB1⟩; clear c46)
  go_ret
  exact ⟨rfl, hB1⟩

end Go.Proofs.YtdepdcndfofknaaGreatDoor

/-
  is of the law: a volume is these blocks.
-/
namespace Go.Proofs.YtdepdcndfofknaaGreatDoor
open Go.RowKit Go.Maps Go.Sort Go.Shelf

/-- A slice of blocks of bytes. -/
def RowsAt (w : World) (p : Option Addr) (n : Nat) (bs : Nat → By) : Prop :=
  0 < n → ∃ g o, p = some ⟨g, o, none⟩ ∧ (∃ cs fr, w.heap[g]? = some (.cells cs 33 fr)) ∧ ∀ i, i < n → ∃ gi oi ci, w.cell? ⟨g, o + i, none⟩ = some (.slice (some ⟨gi, oi, none⟩) 512 ci) ∧ Bytes w (some ⟨gi, oi, none⟩) (bs i) ∧ (bs i).length = 512 ∧ ∃ cs fr, w.heap[gi]? = some (.cells cs 5 fr)

theorem RowsAt.but {w w' : World} {p : Option Addr} {n : Nat} {bs : Nat → By} (h : RowsAt w p n bs) {S : Nat → Prop} (hb : But S w w') (hS : ∀ k cs t fr, w.heap[k]? = some (.cells cs t fr) → t = 5 ∨ t = 33 → ¬ S k) : RowsAt w' p n bs := by
  intro hn
  obtain ⟨g, o, e, ⟨cs, fr, hg⟩, hrow⟩ := h hn
  have key : ∀ (k : Nat) cs t fr, w.heap[k]? = some (.cells cs t fr) → t = 5 ∨ t = 33 → w'.heap[k]? = w.heap[k]? := fun k cs t fr hk ht => hb.block k (Array.getElem?_eq_some_iff.1 hk).1 (hS k cs t fr hk ht)
  have kg := key g cs _ fr hg (.inr rfl)
  refine ⟨g, o, e, ⟨cs, fr, kg.trans hg⟩, fun i hi => ?_⟩
  obtain ⟨gi, oi, ci, hc, hbi, hl, cs', fr', hgi⟩ := hrow i hi
  have ki := key gi cs' _ fr' hgi (.inl rfl)
  refine ⟨gi, oi, ci, (World.cell?_of_block (w := w) kg).trans hc, fun hp => ?_, hl, cs', fr', ki.trans hgi⟩
  obtain ⟨b, o', e', hx⟩ := hbi hp
  cases e'
  exact ⟨gi, oi, rfl, fun j x hj => (World.cell?_of_block (w := w) ki).trans (hx j x hj)⟩
theorem RowsAt.below {w w' : World} {p : Option Addr} {n : Nat} {bs : Nat → By} (h : RowsAt w p n bs) (hb : Below w.heap.size w w') : RowsAt w' p n bs :=
  h.but (S := fun _ => False) (But.of_below hb) (fun _ _ _ _ _ _ h => h)

set_option maxRecDepth 8000 in
set_option maxHeartbeats 4000000 in
theorem is_any (s : VS) (p : Option Addr) (nb c : Nat) (bs : Nat → By) (w : World) (h : VI w s) (hnb : nb = nbOf s.d.n) (hR : RowsAt w p nb bs) (heq : ∀ i, i < nb → s.cont i = bs i) :
    Calls Tryz.prog 35 #[dp s.v, .slice p nb c] w fun e w' => e = .returned (.bool true) ∧ Below w.heap.size w w' := by
  have hn200 := h.n200
  have hnb48 : nb ≤ 48 := by rw [hnb]; unfold nbOf; omega
  have hnb1 : 1 ≤ nb := by have := h.n16; rw [hnb]; unfold nbOf; omega
  have c9 := vBlocks s.v s.commits s.turn s.next (some s.f) s.d.count s.d w h.vol h.dev h.n16
  rw [← hnb] at c9
  obtain ⟨g0, o0, rfl, hg0, hrow⟩ := hR hnb1
  have H0 : Hid (VI w s ∧ nb = nbOf s.d.n ∧ (∀ i, i < nb → s.cont i = bs i) ∧ ∀ i, i < nb → ∃ gi oi ci, w.cell? ⟨g0, o0 + i, none⟩ = some (.slice (some ⟨gi, oi, none⟩) 512 ci) ∧ Bytes w (some ⟨gi, oi, none⟩) (bs i) ∧ (bs i).length = 512 ∧ ∃ cs fr, w.heap[gi]? = some (.cells cs 5 fr)) := ⟨h, hnb, heq, hrow⟩
  clear h hnb hR heq hrow hg0
  go_enter Tryz.func35, Tryz.ntmps35
  go_wp2_with (go_at_call 41; refine Calls_on c9 ?_)
  go_loopw [5] (fun ii wr => ∃ i : Nat, i ≤ nb ∧ ii = .int .i64 i ∧ Hid (Below w.heap.size w wr)) (fun ii _ => nb - (intOf ii).toNat)
  case atStart => exact ⟨0, Nat.zero_le _, rfl, Below.refl _ _⟩
  case round =>
    obtain ⟨i, hi, rfl, HB⟩ := hrel
    by_cases hlt : i < nb
    · have hltI : (i : Int) < nb := by omega
      have cR := vRead_any i s wr (H0.out.1.below HB.out) (by rw [← H0.out.2.1]; exact hlt)
      go_wp2_with (go_at_call 26; refine cR.mono ?_; rintro e w1 ⟨g, cp, rfl, hl, hb, hB1⟩; clear cR; refine Stop.out ?_)
      refine Stop.mk ?_
      obtain ⟨gi, oi, ci, hc, hbi, hli, _⟩ := H0.out.2.2.2 i hlt
      have hBw : Below w.heap.size w w1 := HB.out.trans (hB1.mono HB.out.size)
      have y : w1.drew.cell? ⟨g0, o0 + i, none⟩ = some (.slice (some ⟨gi, oi, none⟩) 512 ci) := (hBw.cell (p := ⟨g0, o0 + i, none⟩) (World.block_lt_of_cell? w _ hc)).trans hc
      have r1 := run_str w1.drew (some ⟨g, 0, none⟩) (s.cont i) cp hb
      have r2 := run_str w1.drew (some ⟨gi, oi, none⟩) (bs i) ci (below_bytes hBw hbi)
      rw [hl] at r1
      rw [hli, ← H0.out.2.2.1 i hlt] at r2
      have HBw : Hid (Below w.heap.size w w1.drew) := hBw.drew
      generalize strOf (s.cont i) = sz at *
      clear hl hb hB1 hc hbi hli hBw
      go_wp2_with fail
      go_region
      all_goals go_wp2
      all_goals go_roundw
      all_goals first | exact ⟨i + 1, by omega, by go_num, HBw⟩ | (simp [intOf]; omega)
    · obtain rfl : i = nb := by omega
      have hI := H0.out.1.below HB.out
      have cN := vRead_no (i : Int) s.v s.commits s.turn s.next (some s.f) s.d.count s.d wr hI.vol hI.dev hI.n16 (by rw [← H0.out.2.1]; omega)
      clear hI
      go_wp2_with (go_at_call 26; refine Calls_on cN ?_)
      go_ret
      exact ⟨rfl, HB.out⟩

end Go.Proofs.YtdepdcndfofknaaGreatDoor

/-
  Size and now of the law.
-/
namespace Go.Proofs.YtdepdcndfofknaaGreatDoor
open Go.RowKit Go.Maps Go.Sort Go.Shelf

set_option maxRecDepth 8000 in
set_option maxHeartbeats 400000 in
theorem size_any (n : Int) (w : World) (h1 : -9223372036854775808 ≤ n) (h2 : n < 9223372036854775808) :
    Calls Tryz.prog 33 #[.int .i64 n] w fun e w' => ∃ k : Nat, e = .returned (.int .i64 k) ∧ 16 ≤ k ∧ k ≤ 135 ∧ w' = w := by
  by_cases hn : n < 0
  · have e1 : 0 ≤ -(n + 1) := by omega
    have e2 : -(n + 1) ≤ 9223372036854775807 := by omega
    obtain ⟨r, hr⟩ : ∃ r : Nat, (r : Int) = -(n + 1) := ⟨(-(n + 1)).toNat, by omega⟩
    have hn' : n = -(r : Int) - 1 := by omega
    subst hn'
    have e3 : -(-(r : Int) - 1 + 1) = (r : Int) := by omega
    clear e1 hr h2
    go_enter Tryz.func33, Tryz.ntmps33
    go_wp2
    go_ret
    exact ⟨16 + r % 120, by simp, by omega, by omega, rfl⟩
  · obtain ⟨r, rfl⟩ := Int.eq_ofNat_of_zero_le (show 0 ≤ n by omega)
    go_enter Tryz.func33, Tryz.ntmps33
    go_wp2
    go_ret
    exact ⟨16 + r % 120, by simp, by omega, by omega, rfl⟩

set_option maxRecDepth 8000 in
set_option maxHeartbeats 400000 in
theorem now_any (mB g k c : Nat) (p : Option Addr) (nb cc : Nat) (w : World) (h0 : w.cell? ⟨mB, 0, none⟩ = some (.slice (some ⟨g, 0, none⟩) (k + 1) c)) (h1 : w.cell? ⟨g, k, none⟩ = some (.slice p nb cc)) (hk : k < 1000000) :
    Calls Tryz.prog 36 #[dp mB] w fun e w' => e = .returned (.slice p nb cc) ∧ ∃ j, w' = w.drewN j := by
  go_enter Tryz.func36, Tryz.ntmps36
  go_wp2_with fail
  go_quiet (fail)
  go_wp2
  go_ret
  exact ⟨rfl, _, rfl⟩

end Go.Proofs.YtdepdcndfofknaaGreatDoor

/-
  fresh of the law: a device with a volume of zeros, and its model.
-/
namespace Go.Proofs.YtdepdcndfofknaaGreatDoor
open Go.RowKit Go.Maps Go.Sort Go.Shelf

theorem Tryz.info33 : (Tryz.prog.info? 33).map (fun i => (i.zero, i.size, i.bytes)) = some (some (.slice none 0 0), 1, 24) := by kernel_rfl

/-- Rows of zeros, each in a block of its own, in a slice that the call has made. -/
structure ROwn (W : World) (base : Nat) (v : Value) (gs : List Nat) : Prop where
  own : W.ownsRow base 33 1 v gs.length (gs.map fun g => Value.slice (some ⟨g, 0, none⟩) 512 512)
  blk : ∀ g ∈ gs, W.heap[g]? = some (.cells (zeroB.map u8v).toArray 5 (0, 0))

/-- The model's struct: the last of its rows. -/
structure ModelAt (W : World) (base mB k : Nat) (p : Option Addr) (nb c : Nat) : Prop where
  at_ : ∃ v y cs, W.heap[mB]? = some (.cells #[v, y] 68 (0, 0)) ∧ W.ownsRow base 29 1 v (k + 1) (cs ++ [.slice p nb c]) ∧ cs.length = k

theorem ROwn.rows {W : World} {base : Nat} {v : Value} {gs : List Nat} (h : ROwn W base v gs) (hp : 0 < gs.length) : ∃ p c, v = .slice p gs.length c ∧ RowsAt W p gs.length (fun _ => zeroB) := by
  rcases h.own.2 with ⟨e, h0⟩ | ⟨g, cap, cur, rfl, hg, hblk, hcap, _⟩
  · omega
  · refine ⟨_, cap, rfl, fun _ => ⟨g, 0, rfl, ⟨_, _, hblk⟩, fun i hi => ?_⟩⟩
    have hc := h.own.cellAt i (by simpa using hi)
    rw [List.getElem?_map, List.getElem?_eq_getElem hi] at hc
    have hb := h.blk gs[i] (List.getElem_mem hi)
    refine ⟨gs[i], 0, 512, ?_, bytes_block hb, zeroB_length, _, _, hb⟩
    rw [Nat.zero_add]
    simpa using hc

theorem own_belowT {W W' : World} {base : Nat} {e : TypeId} {size : Nat} {v : Value} {n : Nat} {xs : List Value} (h : W.ownsRow base e size v n xs) (hB : Below W.heap.size W W') : W'.ownsRow base e size v n xs := by
  refine ⟨h.1, ?_⟩
  rcases h.2 with h0 | ⟨g, cap, cur, hv, hg, hblk, r⟩
  · exact .inl h0
  · exact .inr ⟨g, cap, cur, hv, hg, (hB.block g (Array.getElem?_eq_some_iff.1 hblk).1).trans hblk, r⟩

theorem cell_ne_tag {W : World} {g g' : Nat} {cs cs' : Array Value} {t t' : TypeId} {fr fr' : Nat × Nat} (h : W.heap[g]? = some (.cells cs t fr)) (h' : W.heap[g']? = some (.cells cs' t' fr')) (ht : t ≠ t') : g ≠ g' := by
  rintro rfl
  rw [h] at h'
  simp only [Option.some.injEq, Obj.cells.injEq] at h'
  exact ht h'.2.1

/-- One row more. -/
theorem ROwn.snoc {W w1 W' : World} {base : Nat} {v v' : Value} {gs : List Nat} (h : ROwn W base v gs) (hb1 : Below W.heap.size W w1) (hz : w1.heap[W.heap.size]? = some (.cells (zeroB.map u8v).toArray 5 (0, 0)))
    (hown : W'.ownsRow base 33 1 v' (gs.length + 1) ((gs.map fun g => Value.slice (some ⟨g, 0, none⟩) 512 512) ++ [Value.slice (some ⟨W.heap.size, 0, none⟩) 512 512])) (hg : (w1.alloc (.cells #[Value.slice (some ⟨W.heap.size, 0, none⟩) 512 512] 33)).grownBy W' v.ownBlock) : ROwn W' base v' (gs ++ [W.heap.size]) := by
  refine ⟨by simpa using hown, fun g hgm => ?_⟩
  have keep : ∀ g : Nat, w1.heap[g]? = some (Obj.cells (zeroB.map u8v).toArray 5 (0, 0)) → W'.heap[g]? = some (Obj.cells (zeroB.map u8v).toArray 5 (0, 0)) := by
    intro g hx
    have hlt := (Array.getElem?_eq_some_iff.1 hx).1
    refine (hg.block g (by simp; omega) (fun e => ?_)).trans ((Below.heap_alloc _ _ g hlt).trans hx)
    rcases h.own.2 with ⟨rfl, _⟩ | ⟨g0, cap, cur, rfl, _, hblk, _⟩
    · simp [Value.ownBlock] at e
    · have e' : g = g0 := by simpa [Value.ownBlock] using e
      exact cell_ne_tag hx (below_block hblk hb1) (by decide) e'
  rcases List.mem_append.1 hgm with hm | hm
  · exact keep g (below_block (h.blk g hm) hb1)
  · rw [List.mem_singleton.1 hm]; exact keep _ hz

/-- A volume of zeros that is just mounted. -/
theorem zero_log (v f nf n : Nat) (F : DataW Value) (d : DS) (hn : d.n = n) (h16 : 16 ≤ n) (hb0 : d.B 0 = headB 1 0 n) (hz : ∀ i, 0 < i → i < n → d.B i = zeroB) : Log ⟨v, f, nf, 0, 1, d.n, F, fun _ => none, d, []⟩ := by
  have hle : 1 + nbOf d.n ≤ d.n := by unfold nbOf; omega
  refine ⟨rfl, fun _ _ => rfl, Nat.le_refl _, by rw [hn]; exact hb0, ⟨hle, fun hlt => ?_⟩, .inl rfl, fun j hj hj' => ?_, fun j hj hj' => ?_⟩
  · show OldB 1 (d.B (1 + nbOf d.n))
    rw [hz _ (by omega) (by have : 1 + nbOf d.n < d.n := hlt; omega)]; exact oldB_zero _
  · show OldB 2 (d.B j)
    have h1 : 1 + nbOf d.n ≤ j := hj
    have h2 : j < d.n := hj'
    rw [hz j (by omega) (by omega)]; exact oldB_zero _
  · show OldB 1 (d.B j)
    have h1 : 1 + nbOf d.n ≤ j := hj
    have h2 : j < d.n := hj'
    rw [hz j (by omega) (by omega)]; exact oldB_zero _

/-- What fresh gives. -/
structure Frs (w w' : World) (n : Nat) (s : VS) (mB : Nat) (p : Option Addr) (c : Nat) : Prop where
  vi : VI w' s
  bud : Bud s 1
  eqn : s.d.n = n
  D : s.d.D = .map []
  commits : s.commits = 0
  cont : ∀ i, i < nbOf n → s.cont i = zeroB
  model : ModelAt w' w.heap.size mB 0 p (nbOf n) c
  rows : RowsAt w' p (nbOf n) (fun _ => zeroB)
  below : Below w.heap.size w w'
  new : ∀ k, (s.mine k ∨ k = mB) → w.heap.size ≤ k

set_option maxRecDepth 8000 in
set_option maxHeartbeats 4000000 in
theorem fresh_any (n : Nat) (w : World) (ht : Tab w) (h16 : 16 ≤ n) (h200 : n ≤ 200) :
    Calls Tryz.prog 32 #[.int .i64 n] w fun e w' => ∃ s mB, e = .returned (.tuple #[dp s.d.a, dp s.v, dp mB]) ∧ ∃ p c, Frs w w' n s mB p c := by
  have c21 := dev_new n w (by omega) (by omega)
  obtain ⟨nb, hnb⟩ : ∃ nb, nb = nbOf n := ⟨_, rfl⟩
  have e1 : ((n : Int) - 8) / 4 = (nb : Int) := by rw [hnb]; unfold nbOf; omega
  have e2 : Int.tdiv ((n : Int) - 8) 4 = (nb : Int) := by rw [Int.tdiv_eq_ediv_of_nonneg (by omega)]; exact e1
  have hnb1 : 1 ≤ nb := by rw [hnb]; unfold nbOf; omega
  have hnb48 : nb ≤ 48 := by rw [hnb]; unfold nbOf; omega
  have HT : Hid (Tab w ∧ nb = nbOf n) := ⟨ht, hnb⟩
  clear ht hnb
  obtain ⟨i0, hi0, hz0, hz1, hz2⟩ := info_parts Tryz.info5
  obtain ⟨j0, hj0, hy0, hy1, hy2⟩ := info_parts Tryz.info33
  go_enter Tryz.func32, Tryz.ntmps32
  go_wp2_with (go_at_call 43; refine c21.mono ?_; rintro e w1 ⟨a, s0, c0, m0, rfl, hd1, hB1, ha1, hs1, hm1⟩; clear c21; refine Stop.out ?_)
  refine Stop.mk ?_
  have ht1 : Tab w1 := below_tab hB1 HT.out.1.lt HT.out.1
  have cF := format_ok (newDS a s0 c0 m0 n) w1 hd1 ht1 h16 (fun i _ => rfl) (fun h => by cases h) (by simp [newDS])
  have H1 : Hid (Dev w1 (newDS a s0 c0 m0 n) ∧ Tab w1 ∧ Below w.heap.size w w1 ∧ ∀ k, (newDS a s0 c0 m0 n).mine k → w.heap.size ≤ k) := ⟨hd1, ht1, hB1, by rintro k (rfl | rfl | rfl); exact ha1; exact hs1; exact hm1⟩
  clear hd1 hB1 ha1 hs1 hm1 ht1
  go_wp2_with (go_at_call 44; refine cF.mono ?_; rintro e w2 ⟨d2, rfl, hb2, hn2, hd2, hdn2, hD2, hB2, hcn2, hfu2⟩; clear cF; refine Stop.out ?_)
  refine Stop.mk ?_
  obtain ⟨hd1, ht1, hB1, lo1⟩ := H1.out
  have ht2 : Tab w2 := hb2.tab ht1 (hd1.noTab ht1)
  have ea2 : d2.a = a := hn2.a
  have en2 : d2.n = n := hdn2
  have hb0 : d2.B 0 = headB 1 0 n := by rw [hB2]; simp [upd, newDS]
  have hzz : ∀ i, 0 < i → i < n → d2.B i = zeroB := fun i h0 _ => by
    rw [hB2]
    have : i ≠ 0 := by omega
    simp [upd, this, newDS]
  have cM := mount_ok [] 1 0 d2 w2 hd2 ht2 (by omega) (by unfold DS.dead; rw [show d2.fused = false from hfu2]; rfl) hD2 (by rw [hb0, en2]) (by omega) (by omega) (by
    refine ⟨by unfold nbOf; omega, fun hlt => ?_⟩
    rw [hzz _ (by omega) (by omega)]
    exact oldB_zero _)
  rw [ea2] at cM
  have B2 : Below w.heap.size w w2 := hB1.trans (hb2.below hB1.size lo1)
  have lo2 : ∀ k, d2.mine k → w.heap.size ≤ k := by
    rintro k (e | e | e)
    · exact lo1 k (.inl (e.trans hn2.a))
    · exact lo1 k (.inr (.inl (e.trans hn2.s)))
    · rcases hn2.m with x | x
      · exact lo1 k (.inr (.inr (e.trans x)))
      · have := hB1.size; omega
  have H2 : Hid (Dev w2 d2 ∧ Below w.heap.size w w2 ∧ (∀ k, d2.mine k → w.heap.size ≤ k) ∧ d2.B 0 = headB 1 0 n ∧ (∀ i, 0 < i → i < n → d2.B i = zeroB) ∧ d2.D = .map [] ∧ d2.count = 4 ∧ d2.fused = false) := ⟨hd2, B2, lo2, hb0, hzz, hD2, hcn2, hfu2⟩
  clear hd1 ht1 hB1 lo1 ht2 hb0 hzz B2 lo2 hd2 hb2 hn2 hD2 hB2 hcn2 hfu2 H1 hdn2
  go_wp2_with (go_at_call 39; refine cM.mono ?_; rintro e w3 ⟨v, f, rfl, hM⟩; clear cM)
  have HM : Hid (Mounted w2 w3 v d2 (0 + ([] : List Rec).length) 1 f []) := hM
  clear hM
  go_loopw [9, 10] (fun mv ii wr => ∃ gs : List Nat, gs.length ≤ nb ∧ ii = .int .i64 gs.length ∧ Hid (ROwn wr w3.heap.size mv gs ∧ Below w3.heap.size w3 wr)) (fun _ ii _ => nb - (intOf ii).toNat)
  case atStart => exact ⟨[], Nat.zero_le _, rfl, ⟨World.ownsRow_nil _ _ _ _, fun g hg => by cases hg⟩, Below.refl _ _⟩
  case round =>
    obtain ⟨gs, hgl, rfl, HI⟩ := hrel
    obtain ⟨p0, l0, c0, hv⟩ : ∃ p l c, u9 = Value.slice p l c := by
      rcases HI.out.1.own.2 with ⟨e, _⟩ | ⟨g, cap, cur, e, _⟩ <;> exact ⟨_, _, _, e⟩
    subst hv
    by_cases hlt : gs.length < nb
    · have hltI : (gs.length : Int) < nb := by omega
      go_wp2_with (first
        | (at_make; refine wpList_make_full _ rfl _ _ 33 rfl 0 5 i0 (.int .u8 0) 1 Tryz.underlying33 hi0 hz0 hz1 .i64 .i64 _ _ 512 rfl rfl rfl rfl (by rw [hz2]; omega) (by unfold maxLen; omega) (Nat.zero_le _) ?_; intro w4 hrow4 hg4; have hz4 : Hid (w4.heap[wr.heap.size]? = some (.cells (zeroB.map u8v).toArray 5 (0, 0))) := (by { have := made_zeros hrow4; rw [← zeros_bytes] at this; exact this }); have HB4 : Hid (Below wr.heap.size wr w4) := (Below.refl _ wr).grown hg4 (Nat.le_refl _) (by simp); clear hrow4 hg4; refine Stop.out ?_))
      refine Stop.mk ?_
      go_wp2_with (at_builtin; refine Stop.out ?_)
      refine Stop.mk ?_
      refine wpList_append_own_at _ rfl _ _ 29 rfl w3.heap.size 33 j0 (.slice none 0 0) 1 24 Tryz.underlying29 hj0 hy0 hy1 hy2 rfl (by decide) (.slice p0 l0 c0) gs.length (gs.map fun g => Value.slice (some ⟨g, 0, none⟩) 512 512) rfl (own_belowT (own_belowT HI.out.1.own HB4.out) ((Below.refl _ w4).alloc (Nat.le_refl _) _)) ⟨w4.heap.size, 0, none⟩ 1 1 [Value.slice (some ⟨wr.heap.size, 0, none⟩) 512 512] rfl rfl (cell_one_new _ _ _) (by intro u hu; rw [List.mem_singleton.1 hu]; rfl) (by unfold maxLen; omega) (by omega) (by have h1 := HI.out.2.size; have h2 := HB4.out.size; simp; omega) ?_
      intro v5 w5 hown5 hg5 _ _
      have hB4 := HB4.out
      have H5 : Hid (ROwn w5 w3.heap.size v5 (gs ++ [wr.heap.size]) ∧ Below w3.heap.size w3 w5) := by
        refine ⟨HI.out.1.snoc hB4 hz4.out hown5 hg5, ?_⟩
        have b4 : Below w3.heap.size w3 w4 := HI.out.2.trans (hB4.mono HI.out.2.size)
        refine (b4.alloc b4.size _).grown hg5 (by have := b4.size; simp; omega) (fun b e => ?_)
        rcases HI.out.1.own.2 with ⟨e', _⟩ | ⟨g, cap, cur, e', hg, _⟩
        · rw [e'] at e; simp [Value.ownBlock] at e
        · rw [e'] at e; simp [Value.ownBlock] at e; omega
      clear hown5 hg5 hB4 hz4 HB4
      go_wp2
      go_roundw
      case rel => exact ⟨gs ++ [wr.heap.size], by simp; omega, by simp, H5⟩
      case measure => simp [intOf]; omega
    · obtain h0 : gs.length = nb := by omega
      have hge : ¬ (gs.length : Int) < nb := by omega
      go_wp2
      go_ret3
      obtain ⟨hd2, B2, lo2, hb0, hzz, hD2, hcn2, hfu2⟩ := H2.out
      have hM := HM.out
      obtain ⟨F, hF⟩ := hM.fr
      obtain ⟨hown, hB⟩ := HI.out
      obtain ⟨p, c, ev, hrows⟩ := hown.rows (by omega)
      cases ev
      have enb : gs.length = nbOf n := h0.trans HT.out.2
      have B3 : Below w.heap.size w w3 := B2.trans (hM.below.mono B2.size)
      have Br : Below w.heap.size w wr := B3.trans (hB.mono B3.size)
      obtain ⟨wA, hwA⟩ : ∃ wA, wA = wr.alloc (.cells #[Value.slice p0 gs.length c0] 29) := ⟨_, rfl⟩
      have hBA : Below wr.heap.size wr wA := by rw [hwA]; exact (Below.refl _ wr).alloc (Nat.le_refl _) _
      have hsA : wA.heap.size = wr.heap.size + 1 := by rw [hwA]; simp
      have hgA : wA.heap[wr.heap.size]? = some (.cells #[Value.slice p0 gs.length c0] 29 (0, 0)) := by rw [hwA]; exact heap_alloc_new wr _
      rw [← hwA]
      obtain ⟨wB, hwB⟩ : ∃ wB, wB = wA.alloc (.cells #[Value.slice (some ⟨wr.heap.size, 0, none⟩) 1 1, Value.int .i64 0] 68) := ⟨_, rfl⟩
      have hBB : Below wA.heap.size wA wB := by rw [hwB]; exact (Below.refl _ wA).alloc (Nat.le_refl _) _
      have hgB : wB.heap[wr.heap.size + 1]? = some (.cells #[Value.slice (some ⟨wr.heap.size, 0, none⟩) 1 1, Value.int .i64 0] 68 (0, 0)) := by rw [hwB, ← hsA]; exact heap_alloc_new wA _
      rw [← hwB]
      clear hwA hwB
      have hAB : Below wr.heap.size wr wB := hBA.trans (hBB.mono hBA.size)
      have h3B : Below w3.heap.size w3 wB := hB.trans (hAB.mono hB.size)
      have hfm : f ≠ d2.m := by have h1 := hM.flt; have h2 := hd2.mlt; omega
      have hvlt := hM.vlt
      have hflt := hM.flt
      have hs2 := B2.size
      have hs3 := hM.below.size
      have hsr := hB.size
      refine ⟨⟨v, f, 0, 0, 1, d2.n, F, fun _ => none, d2, []⟩, wr.heap.size + 1, ?_, p0, c0, ⟨⟨hM.vol.below h3B, (hd2.below hM.below).below h3B, hF.below h3B, hfm, hfu2, by rw [en2]; exact h16, by rw [en2]; exact h200, zero_log v f 0 n F d2 en2 h16 hb0 hzz⟩, ⟨Nat.zero_le _, ?_, Nat.zero_le _, Nat.le_succ 1⟩, en2, hD2, rfl, fun i hi => ?_, ⟨_, _, [], hgB, ?_, rfl⟩, ?_, ?_, ?_⟩⟩
      · show _ = Ending.returned (.tuple #[dp d2.a, dp v, dp (wr.heap.size + 1)])
        rw [ea2]
        rfl
      · show d2.count ≤ 1 * 1000
        omega
      · show d2.B (1 + i) = zeroB
        exact hzz _ (by omega) (by unfold nbOf at hi; omega)
      · refine ⟨rfl, .inr ⟨wr.heap.size, 1, #[Value.slice p0 gs.length c0], rfl, by omega, below_block hgA hBB, ?_⟩⟩
        rw [enb]
        simp [maxLen]
      · rw [← enb]
        exact hrows.below hAB
      · exact Br.trans (hAB.mono Br.size)
      · rintro k ((e | e | hm) | e)
        · have e' : k = v := e
          omega
        · have e' : k = f := e
          omega
        · exact lo2 k hm
        · omega

end Go.Proofs.YtdepdcndfofknaaGreatDoor

namespace Go.Proofs.YtdepdcndfofknaaGreatDoor
open Go.RowKit Go.Maps Go.Sort Go.Shelf

/-- n bytes of some bytes, over and over. -/
def fullB (bs : By) (n : Nat) : By := (List.range n).map fun i => (bs[i % bs.length]?).getD 0
theorem fullB_length (bs : By) (n : Nat) : (fullB bs n).length = n := by simp [fullB]

theorem full_bytes (bs : By) (bp : Option Addr) (bc n : Nat) (w : World) (hn : n ≤ 70000) (hbl : bs.length < 9223372036854775808) (hb : Bytes w bp bs) :
    Calls Tryz.prog 18 #[.slice bp bs.length bc, .int .i64 n] w fun e w' => e = .returned (.slice (some ⟨w.heap.size, 0, none⟩) n n) ∧
      w'.heap[w.heap.size]? = some (.cells ((fullB bs n).map u8v).toArray 5 (0, 0)) ∧ Below w.heap.size w w' := by
  have hl : (bs.map fun b => (b.toNat : Int)).length = bs.length := by simp
  have := full_any (bs.map fun b => (b.toNat : Int)) bp bc n w hn (by rw [hl]; exact hbl) (fun hp => by
    rw [hl] at hp
    obtain ⟨bb, bo, e, hx⟩ := hb hp
    refine ⟨bb, bo, e, fun j x hj => ?_⟩
    rw [List.getElem?_map] at hj
    obtain ⟨y, hy, rfl⟩ := Option.map_eq_some_iff.1 hj
    exact hx j y hy)
  rw [hl] at this
  refine this.mono ?_
  rintro e w' ⟨rfl, h1, h2⟩
  refine ⟨rfl, ?_, h2⟩
  rw [h1]
  have : (full (bs.map fun b => (b.toNat : Int)) n).map u8 = (fullB bs n).map u8v := by
    unfold full fullB
    rw [List.map_map, List.map_map]
    refine List.map_congr_left (fun i _ => ?_)
    simp only [Function.comp, List.length_map, List.getElem?_map]
    cases bs[i % bs.length]? with
    | none => rfl
    | some b => rfl
  rw [this]

/-- A row of puts that the call has made. -/
theorem puts_of_own {W : World} {base : Nat} {v : Value} {n : Nat} {f : Nat → PutM} (hown : W.ownsRow base 76 2 v n (((List.range n).map fun k => putCells (f k)).flatten)) (hn : 0 < n)
    (hd : ∀ k, k < n → (f k).bytes.length ≤ (f k).cap ∧ Bytes W (f k).at_ (f k).bytes ∧ ∀ b o, (f k).at_ = some ⟨b, o, none⟩ → ∃ cs fr, W.heap[b]? = some (.cells cs 5 fr)) :
    ∃ p c, v = .slice p n c ∧ PutsAt W p ((List.range n).map f) := by
  rcases hown.2 with ⟨e, h0⟩ | ⟨g, cap, cur, rfl, hg, hblk, hcap, _⟩
  · omega
  · have hget : ∀ j x, ((List.range n).map f)[j]? = some x → j < n ∧ x = f j := by
      intro j x hj
      have hlt := (List.getElem?_eq_some_iff.1 hj).1
      rw [List.length_map, List.length_range] at hlt
      rw [List.getElem?_map, List.getElem?_range hlt] at hj
      exact ⟨hlt, (Option.some.inj hj).symm⟩
    refine ⟨_, cap, rfl, fun _ => ⟨g, 0, rfl, ⟨_, _, hblk⟩, fun j x hj => ?_⟩, fun j x hj => ?_⟩
    · obtain ⟨hlt, rfl⟩ := hget j x hj
      have hll : (((List.range n).map fun k => putCells (f k)).flatten).length = n * 2 := hown.1
      have c0 := hown.cellAt (j * 2 + 0) (by omega)
      have c1 := hown.cellAt (j * 2 + 1) (by omega)
      rw [flat_get f n j hlt 0 (by omega)] at c0
      rw [flat_get f n j hlt 1 (by omega)] at c1
      refine ⟨?_, ?_⟩
      · rw [Nat.zero_add]; simpa [putCells] using c0
      · rw [Nat.zero_add]; simpa [putCells] using c1
    · obtain ⟨hlt, rfl⟩ := hget j x hj
      exact hd j hlt

end Go.Proofs.YtdepdcndfofknaaGreatDoor
