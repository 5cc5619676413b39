/-
  A file in memory, through the laws of package inode: how it begins, what Free answers, what else is kept.
-/
import Derived.Test.YtebdgcoandfocaaGreatDoorQUt
import Derived.Test.YtebdgcoandfocaaGreatDoorQIn
import Derived.Lib.SlBytesConst
import Derived.Test.YtebdgcoandfocaaGreatDoorKCtable

/-
  A cache and a row of bytes that a reader fills.
-/
namespace Go.Proofs.YtebdgcoandfocaaGreatDoor
open Go.RowKit Go.Maps Go.Sort Go.Shelf

set_option maxRecDepth 8000 in
set_option maxHeartbeats 1000000 in
theorem get_own2 (s : CS) (vs : VS) (B : Nat → By) (block b : Nat) (w : World) (h : CI w s vs B) (hz : CB s b) (hbz : b < 800000) (hb : block < nbOf vs.d.n) (hok : (acOf s B).held block = true ∨ (acOf s B).full = false) :
    Calls Tryz.prog 68 #[ep s.c, .int .i64 (block : Nat)] w fun e w' => ∃ g cap, e = .returned (.tuple #[.slice (some ⟨g, 0, none⟩) 512 cap, .int .i64 0]) ∧ ∃ s' B', (∀ w'', But (fun k => k = g) w' w'' → Cst w w'' s s' vs B' b) ∧ acOf s' B' = (acOf s B).meet block (vs.cont block) id ∧ w'.ownsRow w.heap.size 5 1 (.slice (some ⟨g, 0, none⟩) 512 cap) 512 (((acOf s' B').dataOf block).map u8v) ∧ ((acOf s' B').dataOf block).length = 512 ∧ ∀ X : Nat → Prop, (∀ g, w.heap.size ≤ g → X g) → Lk s X → Lk s' X := by
  have cM := meet_ok s vs B block b w h hz (by omega) hb hok
  clear h
  go_enter Tryz.func68, Tryz.ntmps68
  go_wp2_with (go_at_call 90; refine cM.mono ?_; rintro e w1 ⟨a, s1, B1, rfl, hM⟩; clear cM; refine Stop.out ?_)
  refine Stop.mk ?_
  have cU := use_cx hM.cx hM.inA hM.cb.1 (by omega)
  rw [hM.c] at cU
  have H1 : Hid (Mx w w1 s s1 vs B B1 block a b) := hM
  clear hM
  go_wp2_with (go_at_call 91; refine cU.mono ?_; rintro e w2 ⟨rfl, s2, hI2, hU2, hac2⟩; clear cU; refine Stop.out ?_)
  refine Stop.mk ?_
  obtain ⟨ip, icap, I', he2⟩ := hU2.eq
  have ha2 : a ∈ s2.A := by rw [he2]; exact H1.out.inA
  obtain ⟨x, hE⟩ := hI2.cm.entAny ha2
  obtain ⟨hn, hl, hcp, g0, hp, hbb, htg⟩ := hI2.dat a ha2
  have d1 : w2.cell? ⟨a, 1, none⟩ = some (.slice (some ⟨g0, 0, none⟩) 512 (s2.U a).cp) := by
    rw [cellOf hE 1, ← hp]
    show some (Value.slice (s2.U a).p (s2.U a).n (s2.U a).cp) = _
    rw [hn]
  have cl := clone_own g0 0 (B1 a) (s2.U a).cp w2 hbb (by omega) (by omega)
  rw [hl] at cl
  have hblk2 : (s2.U a).block = block := by
    rw [he2]
    show (updU s1.U a _ a).block = block
    rw [updU_same]; exact H1.out.blk
  have hdat : (acOf s2 B1).dataOf block = B1 a := by rw [← hblk2]; exact dataOf_ent hI2.cm ha2
  have hB2 : But (cMine w s.h) w w2 := cMine_trans H1.out.but (by rw [← H1.out.h]; exact hU2.but)
  have hac : acOf s2 B1 = (acOf s B).meet block (vs.cont block) id := by
    rw [hac2, H1.out.blk, H1.out.ac]
    unfold AC.meet
    split <;> rfl
  have hcb : CB s2 (b + 1) := by
    obtain ⟨⟨q1, q2, q3, q4, q5⟩, q6⟩ := H1.out.cb
    have := hz.uses
    rw [he2]
    exact ⟨q1, by show s1.uses + 1 ≤ _; omega, q3, q4, q5⟩
  have hlk : ∀ X : Nat → Prop, (∀ g, w.heap.size ≤ g → X g) → Lk s X → Lk s2 X := by
    intro X hX hs k hk g' o' f' hp
    have h1 := H1.out.lk X hX hs
    rw [he2] at hk hp
    by_cases hka : k = a
    · have hp' : (s1.U a).p = some ⟨g', o', f'⟩ := by
        rw [hka] at hp
        have hp : (updU s1.U a _ a).p = some ⟨g', o', f'⟩ := hp
        rw [updU_same] at hp
        exact hp
      exact h1 a H1.out.inA g' o' f' hp'
    · have hp : (updU s1.U a _ k).p = some ⟨g', o', f'⟩ := hp
      rw [updU_other _ _ hka] at hp
      exact h1 k hk g' o' f' hp
  have hc2 : s2.c = s.c := by rw [he2]; exact H1.out.c
  have hh2 : s2.h = s.h := by rw [he2]; exact H1.out.h
  have H2 : Hid (CI w2 s2 vs B1 ∧ CB s2 (b + 1) ∧ s2.c = s.c ∧ s2.h = s.h ∧ But (cMine w s.h) w w2 ∧ acOf s2 B1 = (acOf s B).meet block (vs.cont block) id ∧ (acOf s2 B1).dataOf block = B1 a ∧ (B1 a).length = 512 ∧ ∀ X : Nat → Prop, (∀ g, w.heap.size ≤ g → X g) → Lk s X → Lk s2 X) := ⟨hI2, hcb, hc2, hh2, hB2, hac, hdat, hl, hlk⟩
  clear hI2 hU2 hac2 he2 ha2 hE hn hcp hp hbb htg hblk2 hdat hB2 hac hcb hc2 hh2 H1 hl hlk
  go_wp2_with (go_at_call 92; refine cl.mono ?_; rintro e w3 ⟨g, cap, rfl, ho3, hB3⟩; clear cl)
  go_ret2
  obtain ⟨hI2, hcb, hc2, hh2, hB2, hac, hdat, hl, hlk⟩ := H2.out
  have hg2 : w2.heap.size ≤ g := by
    rcases ho3.2 with ⟨e, _⟩ | ⟨g', cap', cur', e, hg', _⟩
    · cases e
    · cases e; exact hg'
  have hBw : ∀ w'', But (fun k => k = g) w3 w'' → Below w2.heap.size w2 w'' := fun w'' hb => hB3.trans (hb.below hB3.size (fun k hk => by have : k = g := hk; omega))
  exact ⟨g, cap, rfl, s2, B1, fun w'' hb => ⟨hI2.below (hBw w'' hb), hcb, hc2, hh2, hB2.after (But.of_below (S := fun _ => False) (hBw w'' hb)) (fun _ _ h => h.elim)⟩, hac, by rw [hdat]; exact own_base ho3 hB2.size, by rw [hdat]; exact hl, hlk⟩

/-- A cache of which nothing lies in block og. -/
structure LR (w0 w : World) (c : Nat) (vs : VS) (V : Nat → By) (og b : Nat) : Prop where
  st : ∃ s B, CI w s vs B ∧ CB s b ∧ s.c = c ∧ w0.heap.size ≤ s.h ∧ GA (acOf s B) (nbOf vs.d.n) vs.cont V (fun _ => 0) ∧ Lk s (fun g => g ≠ og)
  fv : ∀ (i : Nat) b, i < 1000000000 → vs.fr i = some b → ∀ g c, vs.F.atKey (.int .i64 i) (slD none 0 0) = slD (some ⟨g, 0, none⟩) 512 c → g ≠ og

theorem LR.lc {w0 w : World} {c : Nat} {vs : VS} {V : Nat → By} {og b : Nat} (h : LR w0 w c vs V og b) : LC w0 w c vs V (fun _ => 0) b := by
  obtain ⟨s, B, h1, h2, h3, h4, h5, _⟩ := h.st
  exact ⟨acOf s B, ⟨s, B, h1, h2, h3, rfl, h4⟩, h5⟩
theorem slD_inj {g g' c c' : Nat} (h : slD (some ⟨g, 0, none⟩) 512 c = slD (some ⟨g', 0, none⟩) 512 c') : g = g' := by
  simp [slD] at h
  exact h.1
theorem LR.start {w0 w w' : World} {c : Nat} {vs : VS} {V : Nat → By} {og b : Nat} (h : LC w0 w c vs V (fun _ => 0) b) (hb : Below w.heap.size w w') (hog : w.heap.size ≤ og) : LR w0 w' c vs V og b := by
  obtain ⟨A, ⟨s, B, h1, h2, h3, rfl, h4⟩, h5⟩ := h.st
  refine ⟨⟨s, B, h1.below hb, h2, h3, h4, h5, ?_⟩, ?_⟩
  · intro a ha g o f hp
    obtain ⟨_, _, _, g0, hp0, _, cs, fr, ht⟩ := h1.dat a ha
    rw [hp0] at hp
    have hg : g0 = g := by injection hp with hp; injection hp
    have := (Array.getElem?_eq_some_iff.1 ht).1
    omega
  · intro i b hi hf g c' hat
    obtain ⟨_, g0, c0, ha, _, _, cs, fr, ht⟩ := h1.vi.fresh.val i b hi hf
    rw [ha] at hat
    have hg := slD_inj hat
    have := (Array.getElem?_eq_some_iff.1 ht).1
    omega
theorem LR.foreign {w0 w w' : World} {c : Nat} {vs : VS} {V : Nat → By} {og b : Nat} {S : Nat → Prop} (h : LR w0 w c vs V og b) (hb : But S w w') (hF : Foreign w S) : LR w0 w' c vs V og b := by
  obtain ⟨s, B, h1, h2, h3, h4, h5, h6⟩ := h.st
  exact ⟨⟨s, B, h1.foreign hb hF, h2, h3, h4, h5, h6⟩, h.fv⟩
theorem LR.more {w0 w : World} {c : Nat} {vs : VS} {V : Nat → By} {og b : Nat} (h : LR w0 w c vs V og b) : LR w0 w c vs V og (b + 1) := by
  obtain ⟨s, B, h1, ⟨z1, z2, z3, z4, z5⟩, h3, h4, h5, h6⟩ := h.st
  exact ⟨⟨s, B, h1, ⟨by omega, by omega, by omega, by omega, by omega⟩, h3, h4, h5, h6⟩, h.fv⟩
/-- The row itself may turn. -/
theorem LR.out {w0 w w' : World} {c : Nat} {vs : VS} {V : Nat → By} {og b : Nat} (h : LR w0 w c vs V og b) (hog : ∃ cs fr, w.heap[og]? = some (.cells cs 5 fr)) (hb : But (fun k => k = og) w w') : LR w0 w' c vs V og b := by
  obtain ⟨s, B, h1, h2, h3, h4, h5, h6⟩ := h.st
  obtain ⟨cs, fr, hog⟩ := hog
  refine ⟨⟨s, B, ⟨h1.cm.but hb (fun hS => h1.cm.hne hog hS) (fun k cs' t fr' hk ht hS => ?_), ?_, h1.vv, h1.hf, h1.hd, fun a ha => ?_, h1.hx, h1.ord, h1.idle, h1.dirty, h1.dnd, h1.used, h1.uinj, h1.blk, h1.clean, h1.room⟩, h2, h3, h4, h5, h6⟩, h.fv⟩
  · have hS : k = og := hS
    rw [hS, hog] at hk
    simp only [Option.some.injEq, Obj.cells.injEq] at hk
    rw [← hk.2.1] at ht
    exact cTag_not (by decide) (by decide) (by decide) ht
  · have hv := h1.vi
    have hm : ∀ k, vs.mine k → ¬ k = og := fun k hk e => by
      rw [e] at hk
      exact hv.other hog (by decide) (by decide) (by decide) hk
    refine ⟨hv.vol.but hb (hm _ (.inl rfl)), hv.dev.but hb (fun k hk => hm k (.inr (.inr hk))) (fun g cs' hg e => ?_), ?_, hv.fm, hv.fused, hv.n16, hv.n200, hv.lg⟩
    · have e : g = og := e
      rw [e, hog] at hg
      simp only [Option.some.injEq, Obj.cells.injEq] at hg
      exact absurd hg.2.1 (by decide)
    · have hfm := hm _ (.inr (.inl rfl))
      refine ⟨?_, hv.fresh.has, fun i b hi hfr => ?_, hv.fresh.rng⟩
      · obtain ⟨es, clock, he, r⟩ := hv.fresh.own
        exact ⟨es, clock, (hb.block _ hv.fresh.own.lt hfm).trans he, r⟩
      · obtain ⟨hl, g, c', ha, hc, hbb, cs', fr', ht⟩ := hv.fresh.val i b hi hfr
        obtain ⟨h7, h8⟩ := bytes_kept hbb ⟨cs', fr', ht⟩ hb (h.fv i b hi hfr g c' ha)
        exact ⟨hl, g, c', ha, hc, h7, h8⟩
  · obtain ⟨d1, d2, d3, g, hp, hbb, ht⟩ := h1.dat a ha
    obtain ⟨h7, h8⟩ := bytes_kept hbb ht hb (h6 a ha g 0 none hp)
    exact ⟨d1, d2, d3, g, hp, h7, h8⟩

theorem lpok_LR (w0 : World) (c : Nat) (vs : VS) (V : Nat → By) (og : Nat) : LPok (fun b w => LR w0 w c vs V og b ∧ og < w.heap.size) w0 c (nbOf vs.d.n) V where
  foreign _ _ _ _ h hb hF := ⟨h.1.foreign hb hF, Nat.lt_of_lt_of_le h.2 hb.size⟩
  more _ _ h := ⟨h.1.more, h.2⟩
  get b w x h hb hx := by
    have hn := h.1.lc.nb
    obtain ⟨s, B, h1, h2, rfl, h4, hG, h6⟩ := h.1.st
    obtain ⟨hG', hh⟩ := hG.meet (pin' := fun _ => 0) (by omega) hx id (fun e => ⟨rfl, rfl, fun h => h⟩) (fun _ _ => rfl)
    refine (get_own2 s vs B x b w h1 h2 hb hx (.inr (hG.notFull (by omega)))).mono ?_
    rintro e w' ⟨g, cap, rfl, s', B', hC, hA, hby, hlen, hlk⟩
    rw [hA, hG'.dataOf hh] at hby hlen
    rw [← hA] at hG'
    have hl := hlk (fun g => g ≠ og) (fun g hg => by have := h.2; omega) h6
    refine ⟨g, cap, rfl, fun w'' hb => ⟨⟨⟨s', B', (hC w'' hb).ci, (hC w'' hb).cb, (hC w'' hb).c, by rw [(hC w'' hb).h]; exact h4, hG', hl⟩, h.1.fv⟩, ?_⟩, (hC w' (But.refl _ _)).but.mono (fun k _ hk => cmn_of h1 h4 k hk), hby, hlen⟩
    have := (hC w'' hb).but.size
    have := h.2
    omega
  bad b w x h hx hx2 := lc_bad w0 w c vs V _ b x h.1.lc hx hx2

end Go.Proofs.YtebdgcoandfocaaGreatDoor

/-
  Package inode: the hands of a read.
-/
namespace Go.Proofs.YtebdgcoandfocaaGreatDoor
open Go.RowKit Go.Maps Go.Sort Go.Shelf

theorem splB_map (O d : By) (o : Nat) : (O.map u8v).toArray.toList.take o ++ d.map u8v ++ (O.map u8v).toArray.toList.drop (o + d.length) = (splB O o d).map u8v := by
  unfold splB
  simp [List.map_append, List.map_take, List.map_drop]

/-- A copy out of a block of 512 bytes into a row. -/
theorem copy_out (W : World) (og ln o1 g cap lo o2 : Nat) (O base : By) (hO : W.heap[og]? = some (.cells (O.map u8v).toArray 5 (0, 0))) (hOl : O.length = ln) (hrow : W.ownsRow lo 5 1 (.slice (some ⟨g, 0, none⟩) 512 cap) 512 (base.map u8v)) (ho1 : o1 ≤ ln) (ho2 : o2 ≤ 512) :
    ∃ W', (∀ ty, (Builtin.copy_ #[30, 30] ty #[.slice (some ⟨og, o1, none⟩) (ln - o1) (ln - o1), .slice (some ⟨g, o2, none⟩) (512 - o2) (cap - o2)]).run Tryz.prog W = .ok (.int .i64 (((base.drop o2).take (ln - o1)).length : Nat)) W') ∧ W'.heap[og]? = some (.cells ((splB O o1 ((base.drop o2).take (ln - o1))).map u8v).toArray 5 (0, 0)) ∧ But (fun k => k = og) W W' := by
  have hbl : base.length = 512 := by simpa using hrow.1
  have hdl : ((base.drop o2).take (ln - o1)).length = min (ln - o1) (512 - o2) := by rw [List.length_take, List.length_drop, hbl]
  refine ⟨_, fun ty => (run_copy_row (P := Tryz.prog) W 30 30 ty 5 og o1 (ln - o1) (ln - o1) ⟨g, o2, none⟩ (512 - o2) (cap - o2) (O.map u8v).toArray 5 (((base.drop o2).take (ln - o1)).map u8v) Tryz.underlying30 Tryz.size5 hO (by rw [List.length_map, hdl]; exact Nat.min_comm _ _) (fun j v hj => ?_) (by rw [List.length_map, hdl]; simp; omega) (u8v_one _)).trans (by rw [List.length_map]; rfl), ?_, ?_⟩
  · rw [List.getElem?_map] at hj
    obtain ⟨x, hx, rfl⟩ := Option.map_eq_some_iff.1 hj
    rw [List.getElem?_take] at hx
    split at hx
    · rw [List.getElem?_drop] at hx
      rw [Addr.add_lit]
      have := hrow.cells (g := g) rfl (o2 + j) (u8v x) (by rw [List.getElem?_map, hx]; rfl)
      rwa [Addr.add_lit, Nat.zero_add] at this
    · cases hx
  · rw [setRow_heap W og _ _ 5 (0, 0) hO, splB_map]
  · exact ⟨rfl, rfl, rfl, by simp, fun k _ hn => setRow_other W og k _ hn⟩

section
variable {w0 ws : World} {lz wb c : Nat} {vs : VS} {V : Nat → By} {og at_ ln : Nat}

/-- A read in memory: O is what was read so far. -/
structure RJ (w0 ws : World) (lz wb c : Nat) (vs : VS) (V : Nat → By) (og at_ ln : Nat) (s : WS × By) (w : World) : Prop where
  cj : CJ (fun b w => LR w0 w c vs V og b ∧ og < w.heap.size) w0 ws lz wb c 84 (.pointer none) [.int .i64 (at_ : Nat), .slice (some ⟨og, 0, none⟩) ln ln] s.1.b [] s.1.G s.1.P w
  row : w.heap[og]? = some (.cells (s.2.map u8v).toArray 5 (0, 0))
  len : s.2.length = ln
theorem okR : okTT 84 := ⟨by unfold foreignT; decide, by decide⟩

theorem CJ.outR {exs : List Value} {b : Nat} {T G : List Nat} {P : List (Nat × By)} {w w' : World} (h : CJ (fun b w => LR w0 w c vs V og b ∧ og < w.heap.size) w0 ws lz wb c 84 (.pointer none) exs b T G P w) (h1 : ws.heap.size ≤ og) (h2 : og < lz) (hog : ∃ cs fr, w.heap[og]? = some (.cells cs 5 fr)) (hb : But (fun k => k = og) w w') :
    CJ (fun b w => LR w0 w c vs V og b ∧ og < w.heap.size) w0 ws lz wb c 84 (.pointer none) exs b T G P w' := by
  obtain ⟨sT, sG, sP, D, hw, hr⟩ := h.blk
  have hlo := h.lo
  have hne : ∀ {e : TypeId} {size : Nat} {v : Value} {n : Nat} {xs : List Value}, w.ownsRow lz e size v n xs → ∀ k cs, v.ownBlock = some k → w.heap[k]? = some (.cells cs e (0, 0)) → ¬ k = og := fun ho k cs hk _ e => by have := (own_type ho hk).1; omega
  refine ⟨⟨h.lp.1.out hog hb, Nat.lt_of_lt_of_le h.lp.2 hb.size⟩, cmn_hi h.fr hb (fun k hk => .inl (by have : k = og := hk; omega)), h.hlo, h.lo, ⟨sT, sG, sP, D, hw.but hb (show ¬ (wb = og) by omega), own_butI hr.t hb (hne hr.t), own_butI hr.g hb (hne hr.g), hr.ap, own_butI hr.p hb (hne hr.p), hr.dl, ?_⟩, h.len⟩
  intro i p d h3 h4
  obtain ⟨e1, e2, e3, e4⟩ := hr.d i p d h3 h4
  obtain ⟨e5, e6⟩ := bytes_kept e1 e3 hb (show ¬ (d.1 = og) by omega)
  exact ⟨e5, e2, e6, e4⟩

/-- What a read makes of a number. -/
def cpoS (nb : Nat) (V : Nat → By) (at_ ln : Nat) : Ino.Stp (WS × By) := fun p x s =>
  if x = 0 then (0, 0, s) else if x.toNat < nb then (x, 0, ({ s.1 with b := s.1.b + 1 }, splB s.2 (max at_ (p * 512) - at_) (((V x.toNat).drop (max at_ (p * 512) - p * 512)).take (ln - (max at_ (p * 512) - at_))))) else (0, 22, ({ s.1 with b := s.1.b + 1 }, s.2))

set_option maxRecDepth 8000 in
set_option maxHeartbeats 2000000 in
theorem copyOut_J (h1 : ws.heap.size ≤ og) (h2 : og < lz) {s : WS × By} {w : World} (h : RJ w0 ws lz wb c vs V og at_ ln s w) (hb : s.1.b + 4 ≤ 700000) (hl1 : 1 ≤ ln) (hmx : at_ + ln ≤ 65536) (p : Nat) (hp1 : at_ < p * 512 + 512) (hp2 : p * 512 < at_ + ln) (x : BitVec 32) :
    Calls Tryz.prog 31 #[.pointer (some ⟨wb, 0, none⟩), .int .i64 (p : Nat), u32v x] w fun e w' => e = .returned (.tuple #[u32v (cpoS (nbOf vs.d.n) V at_ ln p x s).1, .int .i64 (cpoS (nbOf vs.d.n) V at_ ln p x s).2.1]) ∧ RJ w0 ws lz wb c vs V og at_ ln (cpoS (nbOf vs.d.n) V at_ ln p x s).2.2 w' ∧ Kp none w w' := by
  have hL := lpok_LR w0 c vs V og
  by_cases hx : x = 0
  · subst hx
    have e0 : cpoS (nbOf vs.d.n) V at_ ln p 0 s = (0, 0, s) := by unfold cpoS; rw [if_pos rfl]
    rw [e0]
    have HJ := hide h
    unfold u32v
    clear h e0
    go_enter Tryz.func31, Tryz.ntmps31
    go_wp2
    go_ret2
    exact ⟨rfl, HJ.out, Kp.refl _ _⟩
  · have q0 : ¬ (x.toNat : Int) = 0 := fun h => hx (BitVec.eq_of_toNat_eq (by simpa using h))
    have q3 : ((x.toNat : Int) == 0) = false := by rw [beq_eq_false_iff_ne]; exact q0
    by_cases hn : x.toNat < nbOf vs.d.n
    · obtain ⟨B, hB⟩ : ∃ B, p * 512 = B := ⟨_, rfl⟩
      obtain ⟨f, hf⟩ : ∃ f, max at_ B = f := ⟨_, rfl⟩
      obtain ⟨o1, ho1⟩ : ∃ o1, f - at_ = o1 := ⟨_, rfl⟩
      obtain ⟨o2, ho2⟩ : ∃ o2, f - B = o2 := ⟨_, rfl⟩
      have eB : (p : Int) * 512 = (B : Nat) := by omega
      have ef : max (at_ : Int) (B : Int) = (f : Nat) := by omega
      have e1 : (f : Int) - (at_ : Int) = (o1 : Nat) := by omega
      have e2 : (f : Int) - (B : Int) = (o2 : Nat) := by omega
      have hb1 : o1 < ln ∧ o2 < 512 := by omega
      have e0 : cpoS (nbOf vs.d.n) V at_ ln p x s = (x, 0, ({ s.1 with b := s.1.b + 1 }, splB s.2 o1 (((V x.toNat).drop o2).take (ln - o1)))) := by unfold cpoS; rw [if_neg hx, if_pos hn, hB, hf, ho1, ho2]
      rw [e0]
      have cG := get_J hL okR h.cj (by omega) x hn
      have hrow := h.row
      have HL := hide (⟨h.len, h.cj.lo, h.cj.blk⟩ : _ ∧ _ ∧ _)
      have HR := hide hrow
      unfold u32v at cG ⊢
      clear h e0 hx q0 hB hf ho1 ho2 hrow
      go_enter Tryz.func31, Tryz.ntmps31
      go_wp2_with (go_at_call 47; refine cG.mono ?_; rintro e w1 ⟨g, cap, rfl, g1, g2, g3, g4⟩; clear cG; refine Stop.out ?_)
      refine Stop.mk ?_
      have hcap : 512 ≤ cap := by
        rcases g3.2 with ⟨e, _⟩ | ⟨g', cap', cur', e, _, _, hcap, _⟩
        · cases e
        · cases e; exact hcap
      have hog1 : w1.heap[og]? = some (.cells (s.2.map u8v).toArray 5 (0, 0)) := (g2.block og (Array.getElem?_eq_some_iff.1 HR.out).1 (cmn_not HR.out (cTag_not (by decide) (by decide) (by decide)))).trans HR.out
      have hc1 := g1 w1 (But.refl _ _)
      obtain ⟨sT1, sG1, sP1, D1, hw1, _⟩ := hc1.blk
      have d5 := hw1.cell (i := 5) rfl
      have d6 := hw1.cell (i := 6) rfl
      obtain ⟨w3, hcp, hr3, hb3⟩ := copy_out w1.drew og ln o1 g cap _ o2 s.2 (V x.toNat) hog1 HL.out.1 g3 (by omega) (by omega)
      have ho : ¬ o1 = ln := by omega
      have ho' : ¬ ln = o1 := by omega
      have ho2' : ¬ o2 = cap := by omega
      have ho2'' : ¬ cap = o2 := by omega
      have hc3 := hc1.outR h1 h2 ⟨_, _, hog1⟩ (show But (fun k => k = og) w1 w3 from ⟨hb3.os, hb3.tape, hb3.output, hb3.size, hb3.block⟩)
      have hkp : Kp none w w3 := by
        refine (ct_kp okR (ct_cmn g2)).trans ⟨hb3.size, fun k cs t fr hk ht _ => (hb3.block k (Array.getElem?_eq_some_iff.1 hk).1 (fun e => ?_)).trans hk⟩
        have e : k = og := e
        rw [e, hog1] at hk
        simp only [Option.some.injEq, Obj.cells.injEq] at hk
        rcases ht with e | e | e
        all_goals rw [e] at hk; exact absurd hk.2.1 (by decide)
      have H3 := hide (⟨hc3, hr3, hkp⟩ : _ ∧ _ ∧ _)
      have hlen3 : (splB s.2 o1 (((V x.toNat).drop o2).take (ln - o1))).length = ln := by rw [splB_length (by rw [List.length_take, List.length_drop, HL.out.1]; omega), HL.out.1]
      have HN := hide hlen3
      clear hr3 hb3 hc3 hkp hc1 hw1 hog1 g1 g2 g3 g4 hlen3
      go_wp2_with fail
      go_region
      go_wp2
      go_ret2
      exact ⟨rfl, ⟨H3.out.1, H3.out.2.1, HN.out⟩, H3.out.2.2⟩
    · have e0 : cpoS (nbOf vs.d.n) V at_ ln p x s = (0, 22, ({ s.1 with b := s.1.b + 1 }, s.2)) := by unfold cpoS; rw [if_neg hx, if_neg hn]
      rw [e0]
      have cG := getbad_J hL h.cj x (by omega)
      have HJ := hide h
      unfold u32v at cG ⊢
      clear h e0 hx q0
      go_enter Tryz.func31, Tryz.ntmps31
      go_wp2_with (go_at_call 47; refine cG.mono ?_; rintro e w1 ⟨rfl, g1⟩; clear cG)
      go_ret2
      have h8 := HJ.out.cj.foreign hL (But.of_below (S := fun _ => False) g1) (fun _ h => h.elim)
      obtain ⟨l1, l2, l3⟩ := h8.len
      exact ⟨rfl, ⟨⟨hL.more _ _ h8.lp, h8.fr, h8.hlo, h8.lo, h8.blk, Nat.le_succ_of_le l1, Nat.le_succ_of_le l2, Nat.le_succ_of_le l3⟩, (g1.block og (Array.getElem?_eq_some_iff.1 HJ.out.row).1).trans HJ.out.row, HJ.out.len⟩, Kp.below g1⟩

def rOps (nb : Nat) (V : Nat → By) : Ino.Ops (WS × By) where
  take s := (0, 28, s)
  get s x := (((wOps [] nb V).get s.1 x).1, ((wOps [] nb V).get s.1 x).2.1, (((wOps [] nb V).get s.1 x).2.2, s.2))
  give s x := ((wOps [] nb V).give s.1 x, s.2)
  put s x bs := ((wOps [] nb V).put s.1 x bs, s.2)
theorem cpoS_cost (nb : Nat) (V : Nat → By) (at_ ln p : Nat) (x : BitVec 32) (s : WS × By) : (cpoS nb V at_ ln p x s).2.2.1.b ≤ s.1.b + 4 := by
  unfold cpoS
  split
  · show s.1.b ≤ _; omega
  split
  · show s.1.b + 1 ≤ _; omega
  · show s.1.b + 1 ≤ _; omega

theorem RJ.ct {s : WS × By} {w w' : World} (h : RJ w0 ws lz wb c vs V og at_ ln s w) (hb : But (CT 84 w) w w') : w'.heap[og]? = some (.cells (s.2.map u8v).toArray 5 (0, 0)) := (hb.block og (Array.getElem?_eq_some_iff.1 h.row).1 (ct_bytes okR h.row)).trans h.row

/-- The hands of a read. -/
theorem handsR (h1 : ws.heap.size ≤ og) (h2 : og < lz) (hl1 : 1 ≤ ln) (hmx : at_ + ln ≤ 65536) : Hands (rOps (nbOf vs.d.n) V) (cpoS (nbOf vs.d.n) V at_ ln) wb 31 lz (at_ / 512) (blocksOf (at_ + ln)) (.pointer (some ⟨wb, 0, none⟩)) false (RJ w0 ws lz wb c vs V og at_ ln) (·.1.b) 700000 where
  cost := ⟨fun s => Nat.le_succ _, fun s n => (w_cost [] (nbOf vs.d.n) V).get s.1 n, fun s n => Nat.le_refl _, fun s n b => Nat.le_refl _⟩
  cvis := cpoS_cost _ V at_ ln
  len s n := w_len [] (nbOf vs.d.n) V s.1 n
  low s w h := h.cj.size
  tab s w w' S h hb hS := by
    have hL := lpok_LR w0 c vs V og
    have hlo := h.cj.hlo
    refine ⟨h.cj.foreign hL hb (fun j hj => ?_), (hb.block og (Array.getElem?_eq_some_iff.1 h.row).1 (fun hs => ?_)).trans h.row, h.len⟩
    · obtain ⟨hl, cs', t', fr', hj', ht'⟩ := hS j hj
      refine ⟨by omega, cs', t', fr', hj', ?_⟩
      rcases ht' with rfl | rfl
      · unfold foreignT; decide
      · unfold foreignT; decide
    · have := (hS og hs).1; omega
  enter := enters_of Tryz.func31 (by kernel_rfl) rfl
  take s w h hm hh := by cases hh
  get s w x h hm hx := by
    have hL := lpok_LR w0 c vs V og
    by_cases hn : x.toNat < nbOf vs.d.n
    · have e : (rOps (nbOf vs.d.n) V).get s x = (tabOf (V x.toNat), 0, ({ s.1 with b := s.1.b + 1 }, s.2)) := by
        show (((wOps [] (nbOf vs.d.n) V).get s.1 x).1, ((wOps [] (nbOf vs.d.n) V).get s.1 x).2.1, (((wOps [] (nbOf vs.d.n) V).get s.1 x).2.2, s.2)) = _
        rw [show (wOps [] (nbOf vs.d.n) V).get s.1 x = (tabOf (V x.toNat), 0, { s.1 with b := s.1.b + 1 }) from if_pos hn]
      rw [e]
      refine (get_J hL okR h.cj hm x hn).mono ?_
      rintro e w' ⟨g, cap, rfl, h8, h9, h10, h11⟩
      have hct : But (CT 84 w) w w' := ct_cmn h9
      obtain ⟨g2, cap2, hg2, hg3, hg4⟩ := owns_bytes h10 (by omega)
      cases hg2
      refine ⟨⟨h8 w' (But.refl _ _), h.ct hct, h.len⟩, ct_kp okR hct, .inl ⟨V x.toNat, g, cap, rfl, rfl, hg4, h11, ?_, rfl⟩⟩
      rcases h10.2 with ⟨e, _⟩ | ⟨g', cap', cur', e, _, _, hcap, _⟩
      · cases e
      · cases e; exact hcap
    · have e : (rOps (nbOf vs.d.n) V).get s x = (Ino.zT, 22, ({ s.1 with b := s.1.b + 1 }, s.2)) := by
        show (((wOps [] (nbOf vs.d.n) V).get s.1 x).1, ((wOps [] (nbOf vs.d.n) V).get s.1 x).2.1, (((wOps [] (nbOf vs.d.n) V).get s.1 x).2.2, s.2)) = _
        rw [show (wOps [] (nbOf vs.d.n) V).get s.1 x = (Ino.zT, 22, { s.1 with b := s.1.b + 1 }) from if_neg hn]
      rw [e]
      refine (getbad_J hL h.cj x (by omega)).mono ?_
      rintro e w' ⟨rfl, hb⟩
      obtain ⟨l1, l2, l3⟩ := h.cj.len
      have h8 := h.cj.foreign hL (But.of_below (S := fun _ => False) hb) (fun _ h => h.elim)
      exact ⟨⟨⟨hL.more _ _ h8.lp, h8.fr, h8.hlo, h8.lo, h8.blk, Nat.le_succ_of_le l1, Nat.le_succ_of_le l2, Nat.le_succ_of_le l3⟩, h.ct (ct_below hb), h.len⟩, ct_kp okR (ct_below hb), .inr ⟨by simp, _, rfl⟩⟩
  give s w x h hm := by
    refine (give_J (lpok_LR w0 c vs V og) okR h.cj hm x).mono ?_
    rintro e w' ⟨rfl, h8, h9⟩
    exact ⟨rfl, ⟨h8, h.ct h9, h.len⟩, ct_kp okR h9⟩
  put s w x bs g h hm hl hg hlo := by
    refine (put_J (lpok_LR w0 c vs V og) okR h.cj hm x g 512 bs (put_tag hg) hl ⟨_, _, hg⟩ hlo).mono ?_
    rintro e w' ⟨rfl, h8, h9⟩
    exact ⟨rfl, ⟨h8, h.ct h9, h.len⟩, ct_kp okR h9⟩
  visit s w p x h hm hp1 hp2 := copyOut_J h1 h2 h hm hl1 hmx p (by omega) (by unfold blocksOf at hp2; omega) x

end
end Go.Proofs.YtebdgcoandfocaaGreatDoor

/-
  What a read gives of a file. Pure: no program.
-/
namespace Go.Proofs.YtebdgcoandfocaaGreatDoor
open Go.RowKit

/-- What is read so far: all places below k. -/
def RO (W : Nat → BitVec 8) (at_ ln k : Nat) (O : By) : Prop := O.length = ln ∧ ∀ i, i < ln → O[i]? = some (if (at_ + i) / 512 < k then W (at_ + i) else 0#8)

section
variable {W : Nat → BitVec 8} {at_ ln : Nat}

theorem RO.start : RO W at_ ln 0 (List.replicate ln 0#8) := by
  refine ⟨List.length_replicate, fun i hi => ?_⟩
  rw [List.getElem?_replicate, if_pos hi, if_neg (by omega)]

theorem RO.skips {k k' : Nat} {O : By} (h : RO W at_ ln k O) (hk : k ≤ k') (hs : ∀ i, i < ln → k ≤ (at_ + i) / 512 → (at_ + i) / 512 < k' → W (at_ + i) = 0) : RO W at_ ln k' O := by
  refine ⟨h.1, fun i hi => ?_⟩
  rw [h.2 i hi]
  by_cases h1 : (at_ + i) / 512 < k
  · rw [if_pos h1, if_pos (by omega)]
  · by_cases h2 : (at_ + i) / 512 < k'
    · rw [if_neg h1, if_pos h2, hs i hi (by omega) h2]; rfl
    · rw [if_neg h1, if_neg h2]

theorem cpo_RO {nb p : Nat} {V : Nat → By} {x : BitVec 32} {s : WS} {O : By} (hx : x ≠ 0) (hn : x.toNat < nb) (hd : V x.toNat = Ino.slab W p) (hp1 : at_ < p * 512 + 512) (hp2 : p * 512 < at_ + ln) (h : RO W at_ ln p O) :
    ∃ s' O', cpoS nb V at_ ln p x (s, O) = (x, 0, (s', O')) ∧ RO W at_ ln (p + 1) O' := by
  refine ⟨_, _, by unfold cpoS; rw [if_neg hx, if_pos hn], ?_⟩
  rw [hd]
  obtain ⟨m, hm⟩ : ∃ m, max at_ (p * 512) = m := ⟨_, rfl⟩
  rw [hm]
  have hsl : (Ino.slab W p).length = 512 := by simp [Ino.slab]
  have hdl : (((Ino.slab W p).drop (m - p * 512)).take (ln - (m - at_))).length = min (ln - (m - at_)) (512 - (m - p * 512)) := by rw [List.length_take, List.length_drop, hsl]
  have hOl := h.1
  show RO W at_ ln (p + 1) (splB O (m - at_) (((Ino.slab W p).drop (m - p * 512)).take (ln - (m - at_))))
  refine ⟨by rw [splB_length (by rw [hdl]; omega)]; exact hOl, fun i hi => ?_⟩
  unfold splB
  rw [hdl]
  by_cases c1 : i < m - at_
  · rw [List.append_assoc, List.getElem?_append_left (by rw [List.length_take]; omega), List.getElem?_take, if_pos c1, h.2 i hi]
    by_cases hc : (at_ + i) / 512 < p
    · rw [if_pos hc, if_pos (by omega)]
    · rw [if_neg hc, if_neg (by omega)]
  · by_cases c2 : i < m - at_ + min (ln - (m - at_)) (512 - (m - p * 512))
    · rw [List.append_assoc, List.getElem?_append_right (by rw [List.length_take]; omega), List.length_take, List.getElem?_append_left (by rw [hdl]; omega), List.getElem?_take, if_pos (by omega), List.getElem?_drop, if_pos (by omega)]
      have hi2 : m - p * 512 + (i - min (m - at_) O.length) < 512 := by omega
      unfold Ino.slab
      rw [List.getElem?_map, List.getElem?_range hi2]
      have hii : p * 512 + (m - p * 512 + (i - min (m - at_) O.length)) = at_ + i := by omega
      show some (W (p * 512 + (m - p * 512 + (i - min (m - at_) O.length)))) = some (W (at_ + i))
      rw [hii]
    · rw [List.getElem?_append_right (by rw [List.length_append, List.length_take, hdl]; omega), List.length_append, List.length_take, hdl, List.getElem?_drop]
      rw [show m - at_ + min (ln - (m - at_)) (512 - (m - p * 512)) + (i - (min (m - at_) O.length + min (ln - (m - at_)) (512 - (m - p * 512)))) = i by omega, h.2 i hi]
      rw [if_neg (by omega), if_neg (by omega)]

/-- A level of places that is read. -/
theorem lev_read (nb : Nat) (V : Nat → By) (f t first : Nat) (G : Ino.Gs) (hf : f = at_ / 512) (ht : t = blocksOf (at_ + ln)) (hl1 : 1 ≤ ln) (hG : ∀ p, f ≤ p → p < t → Ino.cont V G p = Ino.slab W p ∧ (G p ≠ 0 → (G p).toNat < nb)) :
    ∀ (l : List (BitVec 32)) (i : Nat) (s : WS) (O : By), (∀ j n, l[j]? = some n → f ≤ first + i + j → first + i + j < t → n = G (first + i + j)) → RO W at_ ln (first + i) O →
      ∃ s' O', Ino.lev (cpoS nb V at_ ln) f t first 1 l i (s, O) = (l, 0, (s', O')) ∧ RO W at_ ln (first + i + l.length) O'
  | [], i, s, O, _, h => ⟨s, O, Ino.lev_nil _ _, by simpa using h⟩
  | n :: l, i, s, O, hl, h => by
    have htd : t = (at_ + ln + 511) / 512 := ht
    have hl' : ∀ j m, l[j]? = some m → f ≤ first + (i + 1) + j → first + (i + 1) + j < t → m = G (first + (i + 1) + j) := by
      intro j m hm h1 h2
      have := hl (j + 1) m (by simpa using hm) (by omega) (by omega)
      rw [this]; congr 1; omega
    have hlen : first + i + (n :: l).length = first + (i + 1) + l.length := by simp; omega
    rw [hlen]
    by_cases hc : first + i * 1 + 1 ≤ f ∨ t ≤ first + i * 1
    · obtain ⟨s', O', e, hr⟩ := lev_read nb V f t first G hf ht hl1 hG l (i + 1) s O hl' (h.skips (by omega) (fun q hq h1 h2 => by omega))
      exact ⟨s', O', by rw [Ino.lev_skip hc, e], hr⟩
    · have hn0 : n = G (first + i) := by simpa using hl 0 n rfl (by omega) (by omega)
      obtain ⟨hcd, hcn⟩ := hG (first + i) (by omega) (by omega)
      have hpl : first + i * 1 = first + i := by omega
      by_cases hz : G (first + i) = 0
      · have hzero : ∀ q, q < ln → (at_ + q) / 512 = first + i → W (at_ + q) = 0 := by
          intro q hq h1
          rw [Ino.cont, if_pos hz] at hcd
          have e3 : (Ino.slab W (first + i))[(at_ + q) % 512]? = some (W (at_ + q)) := by
            rw [Ino.slab, List.getElem?_map, List.getElem?_range (Nat.mod_lt _ (by omega))]
            show some (W ((first + i) * 512 + (at_ + q) % 512)) = _
            congr 2; omega
          rw [← hcd, Ino.z512, List.getElem?_replicate, if_pos (Nat.mod_lt _ (by omega))] at e3
          exact (Option.some.inj e3).symm
        obtain ⟨s', O', e, hr⟩ := lev_read nb V f t first G hf ht hl1 hG l (i + 1) s O hl' (h.skips (by omega) (fun q hq h1 h2 => hzero q hq (by omega)))
        have hst : cpoS nb V at_ ln (first + i * 1) n (s, O) = (n, 0, (s, O)) := by unfold cpoS; rw [if_pos (hn0.trans hz), hn0.trans hz]
        exact ⟨s', O', by rw [Ino.lev_step hc hst, e], hr⟩
      · rw [Ino.cont, if_neg hz] at hcd
        obtain ⟨s1, O1, hst, h1⟩ := cpo_RO (nb := nb) (V := V) (s := s) (x := n) (hn0 ▸ hz) (by rw [hn0]; exact hcn hz) (by rw [hn0]; exact hcd) (by omega) (by omega) h
        obtain ⟨s', O', e, hr⟩ := lev_read nb V f t first G hf ht hl1 hG l (i + 1) s1 O1 hl' h1
        exact ⟨s', O', by rw [Ino.lev_step hc (by rw [hpl]; exact hst), e], hr⟩

theorem rget {nb : Nat} {V : Nat → By} {x : BitVec 32} (s : WS) (O : By) (h : x.toNat < nb) : ∃ s', (rOps nb V).get (s, O) x = (tabOf (V x.toNat), 0, (s', O)) := by
  refine ⟨{ s with b := s.b + 1 }, ?_⟩
  show (((wOps [] nb V).get s x).1, ((wOps [] nb V).get s x).2.1, (((wOps [] nb V).get s x).2.2, O)) = _
  rw [show (wOps [] nb V).get s x = (tabOf (V x.toNat), 0, { s with b := s.b + 1 }) from if_pos h]
theorem ropn {nb : Nat} {V : Nat → By} {x : BitVec 32} (s : WS) (O : By) (hx : x ≠ 0) (h : x.toNat < nb) : ∃ s', Ino.opn (rOps nb V) x (s, O) = (x, tabOf (V x.toNat), 0, (s', O)) := by
  obtain ⟨s', e⟩ := rget (V := V) s O h
  refine ⟨s', ?_⟩
  unfold Ino.opn
  rw [if_neg hx, e, if_pos rfl]

/-- A block of numbers that is read through. -/
theorem thr_read (nb : Nat) (V : Nat → By) (f t a q : Nat) (G : Ino.Gs) (T : List (BitVec 32)) (hf : f = at_ / 512) (ht : t = blocksOf (at_ + ln)) (hl1 : 1 ≤ ln) (hG : ∀ p, f ≤ p → p < t → Ino.cont V G p = Ino.slab W p ∧ (G p ≠ 0 → (G p).toNat < nb))
    (hT : ∀ j n, T[j]? = some n → f ≤ a + j → a + j < t → n = G (a + j)) (hTl : T.length = 64) (h0 : G q = 0 → T = Ino.zT) (h1 : G q ≠ 0 → ((G q).toNat < nb ∧ tabOf (V (G q).toNat) = T) ∧ T ≠ Ino.zT) (s : WS) (O : By) (h : RO W at_ ln a O) :
    ∃ s' O', Ino.thr1 (rOps nb V) false f t (cpoS nb V at_ ln) a (G q) (s, O) = (G q, 0, (s', O')) ∧ RO W at_ ln (a + 64) O' := by
  by_cases hz : G q = 0
  · obtain ⟨s', O', e, hr⟩ := lev_read (W := W) nb V f t a G hf ht hl1 hG T 0 s O hT h
    have hO : O' = O := by
      have e2 : ∀ (l : List (BitVec 32)) (i : Nat) (s : WS × By), (∀ n ∈ l, n = 0) → (Ino.lev (cpoS nb V at_ ln) f t a 1 l i s).2.2 = s := by
        intro l
        induction l with
        | nil => intro i s _; rfl
        | cons n l ih =>
          intro i s hn
          by_cases hc : a + i * 1 + 1 ≤ f ∨ t ≤ a + i * 1
          · rw [Ino.lev_skip hc]; exact ih (i + 1) s (fun m hm => hn m (List.mem_cons_of_mem _ hm))
          · have hst : cpoS nb V at_ ln (a + i * 1) n s = (0, 0, s) := by unfold cpoS; rw [if_pos (hn n List.mem_cons_self)]
            rw [Ino.lev_step hc hst]; exact ih (i + 1) s (fun m hm => hn m (List.mem_cons_of_mem _ hm))
      have := e2 T 0 (s, O) (fun n hn => by rw [h0 hz] at hn; exact List.eq_of_mem_replicate hn)
      rw [e] at this
      exact (Prod.mk.inj this).2
    rw [hO, hTl] at hr
    refine ⟨s, O, ?_, hr⟩
    rw [hz]
    exact Ino.thr_hole rfl rfl
  · obtain ⟨⟨h2, h3⟩, h4⟩ := h1 hz
    obtain ⟨s1, ho⟩ := ropn (V := V) s O hz h2
    rw [h3] at ho
    obtain ⟨s', O', e, hr⟩ := lev_read (W := W) nb V f t a G hf ht hl1 hG T 0 s1 O hT h
    rw [hTl] at hr
    exact ⟨s', O', Ino.thr_same (lv := fun l s => Ino.lev (cpoS nb V at_ ln) f t a 1 l 0 s) (fun h => hz h.1) ho e h4 rfl, hr⟩

set_option maxRecDepth 8000 in
set_option maxHeartbeats 1000000 in
theorem ovr_read {n : Nat} {U : Nat → Bool} {V : Nat → By} {G : Ino.Gs} {sz : Nat} (hF : Ino.File n U V G sz W) (hl1 : 1 ≤ ln) (hmx : at_ + ln ≤ 65536) (s : WS) :
    ∃ s', Ino.ovr (rOps n V) false (at_ / 512) (blocksOf (at_ + ln)) (cpoS n V at_ ln) (nums G) (s, List.replicate ln 0#8) = (nums G, 0, (s', (List.range ln).map fun i => W (at_ + i))) := by
  obtain ⟨f, hf⟩ : ∃ f, f = at_ / 512 := ⟨_, rfl⟩
  obtain ⟨t, ht⟩ : ∃ t, t = blocksOf (at_ + ln) := ⟨_, rfl⟩
  have htd : t = (at_ + ln + 511) / 512 := ht
  have hok := File.tabOk hF
  have hG : ∀ p, f ≤ p → p < t → Ino.cont V G p = Ino.slab W p ∧ (G p ≠ 0 → (G p).toNat < n) := fun p _ h2 => ⟨hF.data p (by omega), hF.lt p⟩
  have n8 : (nums G).take 8 = (List.range 8).map G := by unfold nums; rw [List.take_left' (by simp)]
  have n9 : ((nums G).drop 8).take 1 = [G 128] := by unfold nums; rw [List.drop_left' (by simp)]; rfl
  have n10 : (nums G).drop 9 = [G 129] := by unfold nums; rfl
  rw [← hf, ← ht]
  obtain ⟨s1, O1, e1, r1⟩ := lev_read (W := W) n V f t 0 G hf ht hl1 hG ((List.range 8).map G) 0 s _ (by
    intro j m hm _ _
    rw [List.getElem?_map] at hm
    obtain ⟨q, hq, rfl⟩ := Option.map_eq_some_iff.1 hm
    have : q = j := by
      obtain ⟨h1, h2⟩ := List.getElem?_eq_some_iff.1 hq
      simpa using h2.symm
    rw [this]; simp) RO.start
  simp only [List.length_map, List.length_range, Nat.zero_add] at r1
  have hT1 : ∀ j m, (Ino.tab1 G)[j]? = some m → f ≤ 8 + j → 8 + j < t → m = G (8 + j) := by
    intro j m hm _ _
    have hj : j < 64 := by have := (List.getElem?_eq_some_iff.1 hm).1; simpa [Ino.tab1] using this
    rw [tab1_get G j hj] at hm
    exact (Option.some.inj hm).symm
  have hT2 : ∀ j m, (Ino.tab2 G)[j]? = some m → f ≤ 72 + j → 72 + j < t → m = G (72 + j) := by
    intro j m hm _ h2
    have hj : j < 64 := by have := (List.getElem?_eq_some_iff.1 hm).1; simpa [Ino.tab2] using this
    rw [tab2_get G j hj, if_pos (by omega)] at hm
    exact (Option.some.inj hm).symm
  have hz1 : G 128 ≠ 0 → Ino.tab1 G ≠ Ino.zT := fun h e => by
    obtain ⟨p, p1, p2, p3⟩ := hF.one.1 h
    exact p3 (Ino.tab1_zero.1 e p p1 p2)
  have hz2 : G 130 ≠ 0 → Ino.tab2 G ≠ Ino.zT := fun h e => by
    obtain ⟨p, p1, p2, p3⟩ := hF.two.1 h
    exact p3 (Ino.tab2_zero.1 e p p1 p2)
  have hzd : G 129 ≠ 0 → Ino.tabd G ≠ Ino.zT := fun h e => by
    refine hF.dbl.1 h ?_
    have := congrArg (fun l => l[0]?) e
    simpa [Ino.tabd, Ino.zT] using this
  obtain ⟨s2, O2, e2, r2⟩ : ∃ s2 O2, Ino.lev (Ino.thr1 (rOps n V) false f t (cpoS n V at_ ln)) f t 8 64 [G 128] 0 (s1, O1) = ([G 128], 0, (s2, O2)) ∧ RO W at_ ln 72 O2 := by
    by_cases hc : 8 + 0 * 64 + 64 ≤ f ∨ t ≤ 8 + 0 * 64
    · exact ⟨s1, O1, by rw [Ino.lev_skip hc, Ino.lev_nil], r1.skips (by omega) (fun q hq h1 h2 => by omega)⟩
    · obtain ⟨s2, O2, e, r⟩ := thr_read (W := W) n V f t 8 128 G (Ino.tab1 G) hf ht hl1 hG hT1 (by simp [Ino.tab1]) hok.o0 (fun h => ⟨hok.o1 h, hz1 h⟩) s1 O1 r1
      exact ⟨s2, O2, by rw [Ino.lev_step hc e, Ino.lev_nil], r⟩
  obtain ⟨s3, O3, e3, r3⟩ : ∃ s3 O3, Ino.lev (Ino.thr2 (rOps n V) false f t (cpoS n V at_ ln)) f t 72 4096 [G 129] 0 (s2, O2) = ([G 129], 0, (s3, O3)) ∧ RO W at_ ln 128 O3 := by
    by_cases hc : 72 + 0 * 4096 + 4096 ≤ f ∨ t ≤ 72 + 0 * 4096
    · exact ⟨s2, O2, by rw [Ino.lev_skip hc, Ino.lev_nil], r2.skips (by omega) (fun q hq h1 h2 => by omega)⟩
    · by_cases hz : G 129 = 0
      · have hz30 : G 130 = 0 := Classical.byContradiction fun hn => hF.dbl.2 hn hz
        refine ⟨s2, O2, ?_, r2.skips (by omega) (fun q hq h1 h2 => ?_)⟩
        · rw [Ino.lev_step (n' := G 129) (s' := (s2, O2)) hc (by rw [hz]; exact Ino.thr_hole rfl rfl), Ino.lev_nil]
        · have hg0 : G ((at_ + q) / 512) = 0 := Ino.tab2_zero.1 (hok.t0 hz30) _ h1 h2
          have hcd := hF.data ((at_ + q) / 512) h2
          rw [Ino.cont, if_pos hg0] at hcd
          have e3 : (Ino.slab W ((at_ + q) / 512))[(at_ + q) % 512]? = some (W (at_ + q)) := by
            rw [Ino.slab, List.getElem?_map, List.getElem?_range (Nat.mod_lt _ (by omega))]
            show some (W ((at_ + q) / 512 * 512 + (at_ + q) % 512)) = _
            congr 2; omega
          rw [← hcd, Ino.z512, List.getElem?_replicate, if_pos (Nat.mod_lt _ (by omega))] at e3
          exact (Option.some.inj e3).symm
      · obtain ⟨h2, h3⟩ := hok.d1 hz
        obtain ⟨s4, ho⟩ := ropn (V := V) s2 O2 hz h2
        rw [h3] at ho
        obtain ⟨s3, O3, e, r⟩ := thr_read (W := W) n V f t 72 130 G (Ino.tab2 G) hf ht hl1 hG hT2 (by simp [Ino.tab2]) hok.t0 (fun h => ⟨hok.t1 h, hz2 h⟩) s4 O2 r2
        have hcc : ¬ (72 + 0 * 64 + 64 ≤ f ∨ t ≤ 72 + 0 * 64) := by omega
        have hlv : Ino.lev (Ino.thr1 (rOps n V) false f t (cpoS n V at_ ln)) f t 72 64 (Ino.tabd G) 0 (s4, O2) = (Ino.tabd G, 0, (s3, O3)) := by
          unfold Ino.tabd
          rw [Ino.lev_step hcc e, lev_pass _ _ _ (fun j hj => by omega)]
        refine ⟨s3, O3, ?_, r.skips (k' := 136) (by omega) (fun q hq h1 h2 => by omega) |>.skips (k' := 136) (by omega) (fun q hq h1 h2 => by omega) |> fun h => ⟨h.1, fun i hi => ?_⟩⟩
        · have := Ino.thr_same (lv := fun l s => Ino.lev (Ino.thr1 (rOps n V) false f t (cpoS n V at_ ln)) f t 72 64 l 0 s) (o := rOps n V) (holes := false) (fun h => hz h.1) ho hlv (hzd hz) rfl
          rw [Ino.lev_step (n' := G 129) (s' := (s3, O3)) hc this, Ino.lev_nil]
        · rw [h.2 i hi, if_pos (by omega), if_pos (by omega)]
  refine ⟨s3, ?_⟩
  unfold Ino.ovr
  dsimp only
  rw [n8, e1, n9, n10]
  dsimp only
  rw [if_neg (by decide), e2]
  dsimp only
  rw [if_neg (by decide), e3]
  dsimp only
  rw [if_neg (by decide)]
  have hO : O3 = (List.range ln).map fun i => W (at_ + i) := by
    apply List.ext_getElem?
    intro i
    by_cases hi : i < ln
    · rw [r3.2 i hi, if_pos (by omega), List.getElem?_map, List.getElem?_range hi]; rfl
    · rw [List.getElem?_eq_none (by rw [r3.1]; omega), List.getElem?_eq_none (by simp; omega)]
  rw [hO]
  unfold nums
  rw [List.append_assoc]; rfl

end
end Go.Proofs.YtebdgcoandfocaaGreatDoor

/-
  Package inode: Read, as far as its walk (printed by mkread13.py).
-/
namespace Go.Proofs.YtebdgcoandfocaaGreatDoor
open Go.RowKit Go.Maps Go.Sort Go.Shelf

/-- What a read's walk leaves. -/
def rdR (nb : Nat) (V : Nat → By) (at_ ln b : Nat) (ns : List (BitVec 32)) : List (BitVec 32) × Int × (WS × By) := Ino.ovr (rOps nb V) false (at_ / 512) (blocksOf (at_ + ln)) (cpoS nb V at_ ln) ns (⟨b, 0, [], [], []⟩, List.replicate ln 0#8)

set_option maxRecDepth 8000 in
set_option maxHeartbeats 4000000 in
theorem read_J (w0 w : World) (a c b at_ count ln sz : Nat) (vs : VS) (V : Nat → By) (ns : List (BitVec 32)) (hn : InoAt w a sz ns) (hnl : ns.length = 10) (hC : LC w0 w c vs V (fun _ => 0) b) (hb : b + 30000 ≤ 700000) (hsz : sz ≤ 65536) (has : at_ < sz) (hln : min count (sz - at_) = ln) (hl1 : 1 ≤ ln) (hco : count < 9223372036854775808)
    (R : List (BitVec 32) × Int × (WS × By)) (hR : rdR (nbOf vs.d.n) V at_ ln b ns = R) :
    Calls Tryz.prog 14 #[.pointer (some ⟨a, 0, none⟩), ep c, .int .i64 (at_ : Nat), .int .i64 (count : Nat)] w fun e w' => LC w0 w' c vs V (fun _ => 0) R.2.2.1.b ∧ But (Cmn w0 w) w w' ∧ (R.2.1 ≠ 0 → e = .returned (.tuple #[.slice none 0 0, .int .i64 R.2.1])) ∧ (R.2.1 = 0 → e = .returned (.tuple #[.slice (some ⟨w.heap.size, 0, none⟩) ln ln, .int .i64 0]) ∧ w'.heap[w.heap.size]? = some (.cells (R.2.2.2.map u8v).toArray 5 (0, 0)) ∧ R.2.2.2.length = ln) := by
  obtain ⟨n0, n1, n2, n3, n4, n5, n6, n7, n8, n9, rfl⟩ := list10 hnl
  obtain ⟨f, hf⟩ : ∃ f, at_ / 512 = f := ⟨_, rfl⟩
  obtain ⟨t, htt⟩ : ∃ t, blocksOf (at_ + ln) = t := ⟨_, rfl⟩
  have cU : ∀ W, Calls Tryz.prog 30 #[.int .i64 ((at_ + ln : Nat) : Int)] W fun e w' => e = .returned (.int .i64 (t : Nat)) ∧ w' = W := fun W => by rw [← htt]; exact upTo_any (at_ + ln) (by omega) W
  obtain ⟨w1, hw1⟩ : ∃ w1, w1 = w.alloc (.cells (List.replicate ln (Value.int .u8 0)).toArray 5) := ⟨_, rfl⟩
  have hs1 : w1.heap.size = w.heap.size + 1 := by rw [hw1]; simp
  have hB1 : Below w.heap.size w w1 := by rw [hw1]; exact (Below.refl _ w).alloc (Nat.le_refl _) _
  have hmk : (Instr.makeSlice 30 (.int .i64 (ln : Nat)) (.int .i64 (ln : Nat))).run Tryz.prog w = .ok (.slice (some ⟨w.heap.size, 0, none⟩) ln ln) w1 := by rw [hw1]; exact imake w ln (by omega)
  have hog1 : w1.heap[w.heap.size]? = some (.cells ((List.replicate ln 0#8).map u8v).toArray 5 (0, 0)) := by
    rw [hw1, List.map_replicate]; exact heap_alloc_new w _
  obtain ⟨w2, hw2⟩ : ∃ w2, w2 = w1.alloc (.cells #[ep c, .pointer none, .slice none 0 0, .slice none 0 0, .slice none 0 0, .int .i64 (at_ : Nat), .slice (some ⟨w.heap.size, 0, none⟩) ln ln] 84) := ⟨_, rfl⟩
  have hs2 : w2.heap.size = w.heap.size + 2 := by rw [hw2]; simp; omega
  have hB2 : Below w1.heap.size w1 w2 := by rw [hw2]; exact (Below.refl _ w1).alloc (Nat.le_refl _) _
  have hx2 : BlkAt w2 (w.heap.size + 1) [ep c, .pointer none, .slice none 0 0, .slice none 0 0, .slice none 0 0, .int .i64 (at_ : Nat), .slice (some ⟨w.heap.size, 0, none⟩) ln ln] 84 := by rw [hw2, ← hs1]; exact heap_alloc_new w1 _
  have hB02 : Below w.heap.size w w2 := hB1.trans (hB2.mono (by omega))
  have hn2 : InoAt w2 a sz [n0, n1, n2, n3, n4, n5, n6, n7, n8, n9] := hn.below hB02 hn.lt
  have hal := hn.lt
  obtain ⟨w3, hw3⟩ : ∃ w3, w3 = w2.drew.alloc (.cells #[.pointer (some ⟨w.heap.size + 1, 0, none⟩), .int .i64 (f : Nat), .int .i64 (t : Nat), .bool false, .func (.func 31) #[.pointer (some ⟨w.heap.size + 1, 0, none⟩)] #[]] 81) := ⟨_, rfl⟩
  have hs3 : w3.heap.size = w.heap.size + 3 := by rw [hw3]; simp; omega
  have hB3 : Below w2.heap.size w2 w3 := by rw [hw3]; exact ((Below.refl _ w2).drew).alloc (Nat.le_refl _) _
  have hk3 : WalkAt w3 (w.heap.size + 2) (.pointer (some ⟨w.heap.size + 1, 0, none⟩)) f t false (.func (.func 31) #[.pointer (some ⟨w.heap.size + 1, 0, none⟩)] #[]) := by rw [hw3, ← hs2]; exact heap_alloc_new w2.drew _
  have hB03 : Below w.heap.size w w3 := hB02.trans (hB3.mono (by omega))
  have hn3 : InoAt w3 a sz [n0, n1, n2, n3, n4, n5, n6, n7, n8, n9] := hn.below hB03 hn.lt
  have d0 : w3.cell? ⟨a, 1, none⟩ = some (.int .u32 (n0.toNat : Int)) := hn3.num (i := 0) rfl
  have d1 : w3.cell? ⟨a, 2, none⟩ = some (.int .u32 (n1.toNat : Int)) := hn3.num (i := 1) rfl
  have d2 : w3.cell? ⟨a, 3, none⟩ = some (.int .u32 (n2.toNat : Int)) := hn3.num (i := 2) rfl
  have d3 : w3.cell? ⟨a, 4, none⟩ = some (.int .u32 (n3.toNat : Int)) := hn3.num (i := 3) rfl
  have d4 : w3.cell? ⟨a, 5, none⟩ = some (.int .u32 (n4.toNat : Int)) := hn3.num (i := 4) rfl
  have d5 : w3.cell? ⟨a, 6, none⟩ = some (.int .u32 (n5.toNat : Int)) := hn3.num (i := 5) rfl
  have d6 : w3.cell? ⟨a, 7, none⟩ = some (.int .u32 (n6.toNat : Int)) := hn3.num (i := 6) rfl
  have d7 : w3.cell? ⟨a, 8, none⟩ = some (.int .u32 (n7.toNat : Int)) := hn3.num (i := 7) rfl
  have d8 : w3.cell? ⟨a, 9, none⟩ = some (.int .u32 (n8.toNat : Int)) := hn3.num (i := 8) rfl
  have d9 : w3.cell? ⟨a, 10, none⟩ = some (.int .u32 (n9.toNat : Int)) := hn3.num (i := 9) rfl
  obtain ⟨w4, hw4⟩ : ∃ w4, w4 = w3.alloc (.cells #[.int .u32 (n0.toNat : Int), .int .u32 (n1.toNat : Int), .int .u32 (n2.toNat : Int), .int .u32 (n3.toNat : Int), .int .u32 (n4.toNat : Int), .int .u32 (n5.toNat : Int), .int .u32 (n6.toNat : Int), .int .u32 (n7.toNat : Int), .int .u32 (n8.toNat : Int), .int .u32 (n9.toNat : Int)] 55) := ⟨_, rfl⟩
  have hB4 : Below w3.heap.size w3 w4 := by rw [hw4]; exact (Below.refl _ w3).alloc (Nat.le_refl _) _
  have hx4 : NumsAt w4 (w.heap.size + 3) [n0, n1, n2, n3, n4, n5, n6, n7, n8, n9] := by rw [hw4, ← hs3]; exact heap_alloc_new w3 _
  have hB04 : Below w.heap.size w w4 := hB03.trans (hB4.mono (by omega))
  have hB14 : Below w1.heap.size w1 w4 := (hB2.trans (hB3.mono (by omega))).trans (hB4.mono (by omega))
  have hB24 : Below w2.heap.size w2 w4 := hB3.trans (hB4.mono (by omega))
  have hs4 := hB4.size
  have hRJ : RJ w0 w (w.heap.size + 1) (w.heap.size + 1) c vs V w.heap.size at_ ln (⟨b, 0, [], [], []⟩, List.replicate ln 0#8) w4 :=
    ⟨⟨⟨LR.start hC hB04 (Nat.le_refl _), by omega⟩, But.of_below hB04, Nat.le_succ _, Nat.le_refl _, ⟨_, _, _, [], hx2.below hB24, ⟨⟨rfl, .inl ⟨rfl, rfl⟩⟩, ⟨rfl, .inl ⟨rfl, rfl⟩⟩, (fun k h => by cases h), ⟨rfl, .inl ⟨rfl, rfl⟩⟩, rfl, (fun i p d h => by simp at h)⟩⟩, Nat.zero_le _, Nat.zero_le _, Nat.zero_le _⟩, (hB14.block _ (by omega)).trans hog1, List.length_replicate⟩
  have Hn := handsR (w0 := w0) (ws := w) (lz := w.heap.size + 1) (wb := w.heap.size + 1) (c := c) (vs := vs) (V := V) (og := w.heap.size) (at_ := at_) (ln := ln) (Nat.le_refl _) (Nat.lt_succ_self _) hl1 (by omega)
  rw [hf, htt] at Hn
  have cO := over_J Hn (w.heap.size + 2) (w.heap.size + 3) [n0, n1, n2, n3, n4, n5, n6, n7, n8, n9] (⟨b, 0, [], [], []⟩, List.replicate ln 0#8) w4 rfl ((hB4.block _ (by omega)).trans hk3) hx4 hRJ (by omega) (by show b + 16804 ≤ _; omega)
  have hR' : Ino.ovr (rOps (nbOf vs.d.n) V) false f t (cpoS (nbOf vs.d.n) V at_ ln) [n0, n1, n2, n3, n4, n5, n6, n7, n8, n9] (⟨b, 0, [], [], []⟩, List.replicate ln 0#8) = R := by rw [← hf, ← htt]; exact hR
  rw [hR'] at cO
  obtain ⟨R1, er, s1⟩ := R
  dsimp only at cO ⊢
  have c0 := hn.size
  have hg1 : ¬ ((at_ : Int) < 0) := by omega
  have hg2 : ¬ ((count : Int) < 0) := by omega
  have hmn : min (count : Int) ((sz : Int) - (at_ : Int)) = (ln : Nat) := by omega
  have hl0 : ¬ ((ln : Int) ≤ 0) := by omega
  have hdv : Int.tdiv (at_ : Int) 512 = (f : Nat) := by rw [Int.tdiv_eq_ediv_of_nonneg (by omega)]; omega
  have HH := hide (⟨hB04, hC⟩ : _ ∧ _)
  clear hn hC hB1 hog1 hB2 hx2 hB02 hn2 hB3 hk3 hB03 hn3 hB4 hx4 hB04 hB14 hB24 hs4 hRJ Hn hR' hR hs2 hs3
  refine (show Calls Tryz.prog 14 #[.pointer (some ⟨a, 0, none⟩), ep c, .int .i64 (at_ : Nat), .int .i64 (count : Nat)] w (fun e w' => Hid (LC w0 w' c vs V (fun _ => 0) s1.1.b ∧ But (Cmn w0 w) w w' ∧ (er ≠ 0 → e = .returned (.tuple #[.slice none 0 0, .int .i64 er])) ∧ (er = 0 → e = .returned (.tuple #[.slice (some ⟨w.heap.size, 0, none⟩) ln ln, .int .i64 0]) ∧ w'.heap[w.heap.size]? = some (.cells (s1.2.map u8v).toArray 5 (0, 0)) ∧ s1.2.length = ln))) from ?_).mono (fun e w' h => h.out)
  have H1 := hide hw1
  clear hw1
  go_enter Tryz.func14, Tryz.ntmps14
  go_wp2_with fail
  rw [← hw2]
  refine read_reg (by kernel_rfl) rfl (w.heap.size + 1) ln at_ f (at_ + ln) t w2 rfl rfl rfl hdv (by omega) (by rw [IntKind.wrap_i64]; omega) (by rw [IntKind.wrap_i64]; omega) cU ?_
  rw [← hw3]
  have hs2 : w2.heap.size = w.heap.size + 2 := by rw [hw2]; simp; omega
  have hs3 : w3.heap.size = w.heap.size + 3 := by rw [hw3]; simp; omega
  have han : ¬ a = w.heap.size + 3 := by omega
  have han' : ¬ w.heap.size + 3 = a := by omega
  rw [hs2]
  clear hw2 hw3 hmk hdv cU hs2 hs1
  unfold readG
  simp only [putAll]
  go_wp2_with (go_at_call 29; rw [← hw4]; refine cO.mono ?_; rintro e w5 ⟨ns2, er2, s2, heq, rfl, h21, h22, h23⟩; clear cO hw4 d0 d1 d2 d3 d4 d5 d6 d7 d8 d9 c0; refine Stop.out ?_)
  refine Stop.mk ?_
  cases heq
  have HJ := hide h21
  by_cases her : er = 0
  · have e1 : (er != 0) = false := by simp [her]
    have e2 : (er == 0) = true := by simp [her]
    have HE := hide her
    obtain ⟨sT, sG, sP, D, hw5, _⟩ := h21.cj.blk
    have d6 := hw5.cell (i := 6) rfl
    clear her h21 h22 h23 hw5
    go_wp2
    go_ret2
    exact hide ⟨HJ.out.cj.lp.1.lc, HJ.out.cj.fr, fun h => absurd HE.out h, fun _ => ⟨rfl, HJ.out.row, HJ.out.len⟩⟩
  · have q1 : (er != 0) = true := by simp [her]
    have q2 : (er == 0) = false := by simp [her]
    clear h21 h22 h23
    go_wp2
    go_ret2
    exact hide ⟨HJ.out.cj.lp.1.lc, HJ.out.cj.fr, fun _ => rfl, fun h => absurd h her⟩

end Go.Proofs.YtebdgcoandfocaaGreatDoor

/-
  Package inode: Truncate, as far as its walk and its puts (printed by mktrunc13.py).
-/
namespace Go.Proofs.YtebdgcoandfocaaGreatDoor
open Go.RowKit Go.Maps Go.Sort Go.Shelf

set_option maxRecDepth 8000 in
set_option maxHeartbeats 8000000 in
/-- A size that is not below the old one. -/
theorem grow_J (w0 w : World) (a c b size sz : Nat) (vs : VS) (V : Nat → By) (m : Bm.MS) (ns : List (BitVec 32)) (hn : InoAt w a sz ns) (hnl : ns.length = 10) (hC : LC w0 w c vs V (fun _ => 0) b) (hb : b + 30000 ≤ 700000) (hm : Bm.MapAt w m) (hsz : size ≤ 65536) (hle : sz ≤ size) :
    Calls Tryz.prog 13 #[.pointer (some ⟨a, 0, none⟩), ep c, .pointer (some ⟨m.a, 0, none⟩), .int .i64 (size : Nat)] w fun e w' => e = .returned (.int .i64 0) ∧ InoAt w' a size ns ∧ LC w0 w' c vs V (fun _ => 0) b ∧ Bm.MapAt w' m ∧ But (fun k => Cmn w0 w k ∨ k = m.b ∨ k = a) w w' := by
  obtain ⟨n0, n1, n2, n3, n4, n5, n6, n7, n8, n9, rfl⟩ := list10 hnl
  have HW := hide (⟨hn, hC, hm⟩ : _ ∧ _ ∧ _)
  have hgt : ¬ ((65536 : Int) < (size : Int)) := by omega
  have hge : ¬ ((size : Int) < 0) := by omega
  have hmf : ∀ (fn : Fn) (first cap : Array Value) (w : World), (Instr.makeFunc fn first cap).run Tryz.prog w = .ok (.func fn first cap) w := fun _ _ _ _ => rfl
  have hdv : Int.tdiv (size : Int) 512 = ((size / 512 : Nat) : Int) := by rw [Int.tdiv_eq_ediv_of_nonneg (by omega)]; omega
  have hno : ∀ k cs t fr, w.heap[k]? = some (.cells cs t fr) → ¬ cTag t → ¬ Cmn w0 w k := fun k cs t fr hk h => cmn_not hk h
  obtain ⟨mcs, hmc⟩ := map_mbE hm
  obtain ⟨w2, hw2⟩ : ∃ w2, w2 = w.alloc (.cells #[ep c, .pointer none, .slice none 0 0, .slice none 0 0, .slice none 0 0, .int .i64 (size : Nat)] 78) := ⟨_, rfl⟩
  have hB2 : Below w.heap.size w w2 := by rw [hw2]; exact (Below.refl _ w).alloc (Nat.le_refl _) _
  have hx2 : BlkAt w2 w.heap.size [ep c, .pointer none, .slice none 0 0, .slice none 0 0, .slice none 0 0, .int .i64 (size : Nat)] 78 := by rw [hw2]; exact heap_alloc_new w _
  have d0 : w.cell? ⟨a, 1, none⟩ = some (.int .u32 (n0.toNat : Int)) := hn.num (i := 0) rfl
  have d1 : w.cell? ⟨a, 2, none⟩ = some (.int .u32 (n1.toNat : Int)) := hn.num (i := 1) rfl
  have d2 : w.cell? ⟨a, 3, none⟩ = some (.int .u32 (n2.toNat : Int)) := hn.num (i := 2) rfl
  have d3 : w.cell? ⟨a, 4, none⟩ = some (.int .u32 (n3.toNat : Int)) := hn.num (i := 3) rfl
  have d4 : w.cell? ⟨a, 5, none⟩ = some (.int .u32 (n4.toNat : Int)) := hn.num (i := 4) rfl
  have d5 : w.cell? ⟨a, 6, none⟩ = some (.int .u32 (n5.toNat : Int)) := hn.num (i := 5) rfl
  have d6 : w.cell? ⟨a, 7, none⟩ = some (.int .u32 (n6.toNat : Int)) := hn.num (i := 6) rfl
  have d7 : w.cell? ⟨a, 8, none⟩ = some (.int .u32 (n7.toNat : Int)) := hn.num (i := 7) rfl
  have d8 : w.cell? ⟨a, 9, none⟩ = some (.int .u32 (n8.toNat : Int)) := hn.num (i := 8) rfl
  have d9 : w.cell? ⟨a, 10, none⟩ = some (.int .u32 (n9.toNat : Int)) := hn.num (i := 9) rfl
  have e0 := hn.size
  have hal := hn.lt
  have han : ¬ a = w.heap.size := by omega
  have han' : ¬ w.heap.size = a := by omega
  have han2 : ¬ a = w.heap.size + 1 := by omega
  have han3 : ¬ w.heap.size + 1 = a := by omega
  have H2 := hide hw2
  obtain ⟨w3, hw3⟩ : ∃ w3, w3 = (w.alloc (.cells #[ep c, .pointer none, .slice none 0 0, .slice none 0 0, .slice none 0 0, .int .i64 (size : Nat)] 78)).alloc (.cells #[.int .u32 (n0.toNat : Int), .int .u32 (n1.toNat : Int), .int .u32 (n2.toNat : Int), .int .u32 (n3.toNat : Int), .int .u32 (n4.toNat : Int), .int .u32 (n5.toNat : Int), .int .u32 (n6.toNat : Int), .int .u32 (n7.toNat : Int), .int .u32 (n8.toNat : Int), .int .u32 (n9.toNat : Int)] 55) := ⟨_, rfl⟩
  have hB3 : Below w2.heap.size w2 w3 := by rw [hw3, ← H2.out]; exact (Below.refl _ w2).alloc (Nat.le_refl _) _
  have hs2 : w2.heap.size = w.heap.size + 1 := by rw [H2.out]; simp
  have hx3 : NumsAt w3 (w.heap.size + 1) [n0, n1, n2, n3, n4, n5, n6, n7, n8, n9] := by rw [hw3, ← H2.out, ← hs2]; exact heap_alloc_new w2 _
  have hs3 : w3.heap.size = w.heap.size + 2 := by rw [hw3]; simp
  have hB03 : Below w.heap.size w w3 := hB2.trans (hB3.mono hB2.size)
  have hTJ : TJ (fun b w => LC w0 w c vs V (fun _ => 0) b) w0 w w.heap.size c size ⟨b, 0, [], [], []⟩ w3 :=
    ⟨hC.below hB03, But.of_below hB03, Nat.le_refl _, Nat.le_refl _, ⟨_, _, _, [], hx2.below hB3, ⟨⟨rfl, .inl ⟨rfl, rfl⟩⟩, ⟨rfl, .inl ⟨rfl, rfl⟩⟩, (fun k h => by cases h), ⟨rfl, .inl ⟨rfl, rfl⟩⟩, rfl, (fun i p d h => by simp at h)⟩⟩, Nat.zero_le _, Nat.zero_le _, Nat.zero_le _⟩
  have hlt : ¬ ((size : Int) < (sz : Int)) := by omega
  clear hn hC hm hw2 hB2 hx2 hB3 hs2 hB03 H2 hmf hdv
  obtain ⟨s0, hs0⟩ : ∃ s0 : WS, s0 = ⟨b, 0, [], [], []⟩ := ⟨_, rfl⟩
  rw [← hs0] at hTJ
  have hPl : ∀ q ∈ s0.P, q.1 < nbOf vs.d.n := by rw [hs0]; intro q hq; cases hq
  have hPn : s0.P.length ≤ 1000 := by rw [hs0]; simp
  have hGn : s0.G.length ≤ 1000 := by rw [hs0]; simp
  have hGl : ∀ i ∈ s0.G, i < m.n := by rw [hs0]; intro i hi; cases hi
  have hsb : s0.b ≤ 690000 := by rw [hs0]; show b ≤ _; omega
  have HS0 := hide hs0
  clear hs0
  go_enter Tryz.func13, Tryz.ntmps13
  have HT := hide (And.intro hTJ hx3)
  clear hTJ hx3
  go_wp2_with fail
  rw [← hw3]
  clear hw3 d0 d1 d2 d3 d4 d5 d6 d7 d8 d9 e0
  obtain ⟨hT4, hN4⟩ := HT.out
  have hc4 : CJ (fun b w => LC w0 w c vs V (fun _ => 0) b) w0 w w.heap.size w.heap.size c 78 (.pointer none) [.int .i64 (size : Nat)] s0.b [] s0.G s0.P w3 := hT4
  obtain ⟨sT4, sG4, sP4, D4, hb4, hr4⟩ := hc4.blk
  have hfr4 := hc4.fr
  have hi4 : InoAt w3 a sz [n0, n1, n2, n3, n4, n5, n6, n7, n8, n9] := HW.out.1.but hfr4 (hno _ _ _ _ HW.out.1 (cTag_not (by decide) (by decide) (by decide)))
  have c0 := hi4.size
  have q0 : w3.cell? ⟨w.heap.size + 1, 0, none⟩ = some (.int .u32 (n0.toNat : Int)) := hN4.num (i := 0) rfl
  have q1 : w3.cell? ⟨w.heap.size + 1, 1, none⟩ = some (.int .u32 (n1.toNat : Int)) := hN4.num (i := 1) rfl
  have q2 : w3.cell? ⟨w.heap.size + 1, 2, none⟩ = some (.int .u32 (n2.toNat : Int)) := hN4.num (i := 2) rfl
  have q3 : w3.cell? ⟨w.heap.size + 1, 3, none⟩ = some (.int .u32 (n3.toNat : Int)) := hN4.num (i := 3) rfl
  have q4 : w3.cell? ⟨w.heap.size + 1, 4, none⟩ = some (.int .u32 (n4.toNat : Int)) := hN4.num (i := 4) rfl
  have q5 : w3.cell? ⟨w.heap.size + 1, 5, none⟩ = some (.int .u32 (n5.toNat : Int)) := hN4.num (i := 5) rfl
  have q6 : w3.cell? ⟨w.heap.size + 1, 6, none⟩ = some (.int .u32 (n6.toNat : Int)) := hN4.num (i := 6) rfl
  have q7 : w3.cell? ⟨w.heap.size + 1, 7, none⟩ = some (.int .u32 (n7.toNat : Int)) := hN4.num (i := 7) rfl
  have q8 : w3.cell? ⟨w.heap.size + 1, 8, none⟩ = some (.int .u32 (n8.toNat : Int)) := hN4.num (i := 8) rfl
  have q9 : w3.cell? ⟨w.heap.size + 1, 9, none⟩ = some (.int .u32 (n9.toNat : Int)) := hN4.num (i := 9) rfl
  obtain ⟨W, hW⟩ : ∃ W, W = w3.drew.alloc (.cells ([n0, n1, n2, n3, n4, n5, n6, n7, n8, n9].map u32v).toArray 55) := ⟨_, rfl⟩
  have hBW : Below w3.heap.size w3 W := by rw [hW]; exact ((Below.refl _ w3).drew).alloc (Nat.le_refl _) _
  have hfrW : But (Cmn w0 w) w W := cmn_hi hfr4 (But.of_below (S := fun _ => False) hBW) (fun _ h => h.elim)
  have hxW : NumsAt W w3.heap.size [n0, n1, n2, n3, n4, n5, n6, n7, n8, n9] := by rw [hW]; exact heap_alloc_new w3.drew _
  have hmW : Bm.MapAt W m := HW.out.2.2.keep (but_only hfrW) (hno _ _ _ _ HW.out.2.2.st (cTag_not (by decide) (by decide) (by decide))) (hno _ _ _ _ hmc (cTag_not (by decide) (by decide) (by decide)))
  have hiW : InoAt W a sz [n0, n1, n2, n3, n4, n5, n6, n7, n8, n9] := hi4.below hBW hi4.lt
  have cD := do_L w0 W w.heap.size c s0.b w.heap.size _ _ 78 okC vs V [] _ s0.P D4 sT4 sG4 sP4 m (hb4.below hBW) (hr4.but (But.of_below (S := fun _ => False) hBW) (fun _ _ _ _ _ _ h => h)) (hc4.lp.below hBW) ⟨hPn, by simp, hGn⟩ (by omega) hPl hmW (fun i hi => by cases hi) hGl
  rw [List.foldl_nil] at cD
  have hna : ¬ (Cmn w0 W a ∨ a = m.b) := fun e => by
    rcases e with e | e
    · exact cmn_not hiW (cTag_not (by decide) (by decide) (by decide)) e
    · exact map_b_ne hmW (show BlkAt W a _ _ from hiW) (by decide) e
  have cB := become_any w3.drew a sz size w.heap.size m.a [n0, n1, n2, n3, n4, n5, n6, n7, n8, n9] [n0, n1, n2, n3, n4, n5, n6, n7, n8, n9] (fun w' => LC w0 w' c vs (Ino.putsV V s0.P) (fun _ => 0) (s0.b + s0.P.length + s0.P.length + s0.P.length) ∧ Bm.MapAt w' (s0.G.foldl giveM m)) (fun k => Cmn w0 W k ∨ k = m.b) hi4 rfl rfl W hW (cD.mono (by rintro e w' ⟨rfl, z1, z2, z3⟩; exact ⟨rfl, ⟨z1, z2⟩, z3⟩)) hna (fun e => by
    rcases e with e | e
    · exact cmn_not hxW (cTag_not (by decide) (by decide) (by decide)) e
    · exact map_b_ne hmW (show BlkAt W w3.heap.size _ _ from hxW) (by decide) e)
  have H4 := hide (⟨hfr4, hBW, hmW, hiW, hna, hi4, hfrW⟩ : _ ∧ _ ∧ _ ∧ _ ∧ _ ∧ _ ∧ _)
  unfold u32v at cB
  clear hT4 hN4 hPl hPn hGn hGl hc4 hb4 hr4 hfr4 hi4 hW hBW hfrW hxW hmW cD hiW hna hmc hno
  go_region_with (go_at_call 27; refine cB.mono ?_; rintro e w6 ⟨rfl, w5, ⟨z1, z2⟩, z3, z4, z5⟩)
  all_goals
    have HFF : Hid (InoAt w6 a size [n0, n1, n2, n3, n4, n5, n6, n7, n8, n9] ∧ LC w0 w6 c vs (Ino.putsV V s0.P) (fun _ => 0) (s0.b + s0.P.length + s0.P.length + s0.P.length) ∧ Bm.MapAt w6 (s0.G.foldl giveM m) ∧ But (fun k => Cmn w0 w k ∨ k = m.b ∨ k = a) w w6) := by
      obtain ⟨hfr4, hBW, hmW, hiW, hna, hi4, hfrW⟩ := H4.out
      have z3' : But (fun k => Cmn w0 W k ∨ k = m.b) w3 w5 := ⟨z3.os, z3.tape, z3.output, z3.size, z3.block⟩
      have hi5 : InoAt w5 a sz [n0, n1, n2, n3, n4, n5, n6, n7, n8, n9] := hi4.but z3' hna
      have hma : a ≠ m.a := map_a_ne hmW (show BlkAt W a _ _ from hiW) (by decide)
      have hmb : a ≠ m.b := map_b_ne hmW (show BlkAt W a _ _ from hiW) (by decide)
      obtain ⟨ea, eb, _⟩ := gives_abn s0.G m
      refine ⟨z4, z1.foreign z5 (fun k hk => ?_), z2.keep (but_only z5) (fun e => hma (by have e : _ = a := e; rw [ea] at e; exact e.symm)) (fun e => hmb (by have e : _ = a := e; rw [eb] at e; exact e.symm)), ?_⟩
      · rw [show k = a from hk]
        exact ⟨_, _, _, hi5, by unfold foreignT; decide⟩
      · refine ((hfr4.mono (fun k _ h => .inl h)).after z3' (fun i hi hc => ?_)).after z5 (fun i _ e => .inr (.inr e))
        rcases hc with hc | hc
        · refine .inl ⟨hc.1, fun cs t fr hk => ?_⟩
          apply Classical.byContradiction
          intro hn
          have e : W.heap[i]? = w.heap[i]? := hfrW.block i hi (fun hcm => hn (hcm.2 cs t fr hk))
          exact hn (hc.2 cs t fr (e.trans hk))
        · exact .inr (.inl hc)
    clear cB z1 z2 z3 z4 z5 q0 q1 q2 q3 q4 q5 q6 q7 q8 q9 c0
    go_wp2
    go_ret
    obtain ⟨f1, f2, f3, f4⟩ := HFF.out
    rw [HS0.out] at f2 f3
    exact ⟨rfl, f1, f2, f3, f4⟩

/-- What a cut's walk leaves. -/
def cuR (nb : Nat) (V : Nat → By) (size b : Nat) (ns : List (BitVec 32)) : List (BitVec 32) × Int × WS := Ino.ovr (wOps [] nb V) false (size / 512) 4168 (cutS nb V size) ns ⟨b, 0, [], [], []⟩

set_option maxRecDepth 8000 in
set_option maxHeartbeats 8000000 in
/-- A size that is below the old one. -/
theorem trunc_J (w0 w : World) (a c b size sz : Nat) (vs : VS) (V : Nat → By) (m : Bm.MS) (ns : List (BitVec 32)) (hn : InoAt w a sz ns) (hnl : ns.length = 10) (hC : LC w0 w c vs V (fun _ => 0) b) (hb : b + 30000 ≤ 700000) (hm : Bm.MapAt w m) (hsz : size ≤ 65536) (hlt0 : size < sz) (R : List (BitVec 32) × Int × WS) (hR : cuR (nbOf vs.d.n) V size b ns = R) (hP : R.2.1 = 0 → (∀ q ∈ R.2.2.P, q.1 < nbOf vs.d.n) ∧ R.2.2.P.length ≤ 1000 ∧ R.2.2.G.length ≤ 1000 ∧ ∀ i ∈ R.2.2.G, i < m.n) :
    Calls Tryz.prog 13 #[.pointer (some ⟨a, 0, none⟩), ep c, .pointer (some ⟨m.a, 0, none⟩), .int .i64 (size : Nat)] w fun e w' => e = .returned (.int .i64 R.2.1) ∧ (R.2.1 ≠ 0 → InoAt w' a sz ns ∧ LC w0 w' c vs V (fun _ => 0) R.2.2.b ∧ Bm.MapAt w' m ∧ But (fun k => Cmn w0 w k ∨ k = m.b ∨ k = a) w w') ∧
      (R.2.1 = 0 → InoAt w' a size R.1 ∧ R.1.length = 10 ∧ LC w0 w' c vs (Ino.putsV V R.2.2.P) (fun _ => 0) (R.2.2.b + R.2.2.P.length + R.2.2.P.length + R.2.2.P.length) ∧ Bm.MapAt w' (R.2.2.G.foldl giveM m) ∧ But (fun k => Cmn w0 w k ∨ k = m.b ∨ k = a) w w') := by
  obtain ⟨n0, n1, n2, n3, n4, n5, n6, n7, n8, n9, rfl⟩ := list10 hnl
  have HW := hide (⟨hn, hC, hm⟩ : _ ∧ _ ∧ _)
  have hgt : ¬ ((65536 : Int) < (size : Int)) := by omega
  have hge : ¬ ((size : Int) < 0) := by omega
  have hmf : ∀ (fn : Fn) (first cap : Array Value) (w : World), (Instr.makeFunc fn first cap).run Tryz.prog w = .ok (.func fn first cap) w := fun _ _ _ _ => rfl
  have hdv : Int.tdiv (size : Int) 512 = ((size / 512 : Nat) : Int) := by rw [Int.tdiv_eq_ediv_of_nonneg (by omega)]; omega
  have hno : ∀ k cs t fr, w.heap[k]? = some (.cells cs t fr) → ¬ cTag t → ¬ Cmn w0 w k := fun k cs t fr hk h => cmn_not hk h
  obtain ⟨mcs, hmc⟩ := map_mbE hm
  obtain ⟨w2, hw2⟩ : ∃ w2, w2 = w.alloc (.cells #[ep c, .pointer none, .slice none 0 0, .slice none 0 0, .slice none 0 0, .int .i64 (size : Nat)] 78) := ⟨_, rfl⟩
  have hB2 : Below w.heap.size w w2 := by rw [hw2]; exact (Below.refl _ w).alloc (Nat.le_refl _) _
  have hx2 : BlkAt w2 w.heap.size [ep c, .pointer none, .slice none 0 0, .slice none 0 0, .slice none 0 0, .int .i64 (size : Nat)] 78 := by rw [hw2]; exact heap_alloc_new w _
  have d0 : w.cell? ⟨a, 1, none⟩ = some (.int .u32 (n0.toNat : Int)) := hn.num (i := 0) rfl
  have d1 : w.cell? ⟨a, 2, none⟩ = some (.int .u32 (n1.toNat : Int)) := hn.num (i := 1) rfl
  have d2 : w.cell? ⟨a, 3, none⟩ = some (.int .u32 (n2.toNat : Int)) := hn.num (i := 2) rfl
  have d3 : w.cell? ⟨a, 4, none⟩ = some (.int .u32 (n3.toNat : Int)) := hn.num (i := 3) rfl
  have d4 : w.cell? ⟨a, 5, none⟩ = some (.int .u32 (n4.toNat : Int)) := hn.num (i := 4) rfl
  have d5 : w.cell? ⟨a, 6, none⟩ = some (.int .u32 (n5.toNat : Int)) := hn.num (i := 5) rfl
  have d6 : w.cell? ⟨a, 7, none⟩ = some (.int .u32 (n6.toNat : Int)) := hn.num (i := 6) rfl
  have d7 : w.cell? ⟨a, 8, none⟩ = some (.int .u32 (n7.toNat : Int)) := hn.num (i := 7) rfl
  have d8 : w.cell? ⟨a, 9, none⟩ = some (.int .u32 (n8.toNat : Int)) := hn.num (i := 8) rfl
  have d9 : w.cell? ⟨a, 10, none⟩ = some (.int .u32 (n9.toNat : Int)) := hn.num (i := 9) rfl
  have e0 := hn.size
  have hal := hn.lt
  have han : ¬ a = w.heap.size := by omega
  have han' : ¬ w.heap.size = a := by omega
  have han2 : ¬ a = w.heap.size + 1 := by omega
  have han3 : ¬ w.heap.size + 1 = a := by omega
  have H2 := hide hw2
  obtain ⟨w3, hw3⟩ : ∃ w3, w3 = (w.alloc (.cells #[ep c, .pointer none, .slice none 0 0, .slice none 0 0, .slice none 0 0, .int .i64 (size : Nat)] 78)).alloc (.cells #[.int .u32 (n0.toNat : Int), .int .u32 (n1.toNat : Int), .int .u32 (n2.toNat : Int), .int .u32 (n3.toNat : Int), .int .u32 (n4.toNat : Int), .int .u32 (n5.toNat : Int), .int .u32 (n6.toNat : Int), .int .u32 (n7.toNat : Int), .int .u32 (n8.toNat : Int), .int .u32 (n9.toNat : Int)] 55) := ⟨_, rfl⟩
  have hB3 : Below w2.heap.size w2 w3 := by rw [hw3, ← H2.out]; exact (Below.refl _ w2).alloc (Nat.le_refl _) _
  have hs2 : w2.heap.size = w.heap.size + 1 := by rw [H2.out]; simp
  have hx3 : NumsAt w3 (w.heap.size + 1) [n0, n1, n2, n3, n4, n5, n6, n7, n8, n9] := by rw [hw3, ← H2.out, ← hs2]; exact heap_alloc_new w2 _
  have hs3 : w3.heap.size = w.heap.size + 2 := by rw [hw3]; simp
  have hB03 : Below w.heap.size w w3 := hB2.trans (hB3.mono hB2.size)
  have hTJ : TJ (fun b w => LC w0 w c vs V (fun _ => 0) b) w0 w w.heap.size c size ⟨b, 0, [], [], []⟩ w3 :=
    ⟨hC.below hB03, But.of_below hB03, Nat.le_refl _, Nat.le_refl _, ⟨_, _, _, [], hx2.below hB3, ⟨⟨rfl, .inl ⟨rfl, rfl⟩⟩, ⟨rfl, .inl ⟨rfl, rfl⟩⟩, (fun k h => by cases h), ⟨rfl, .inl ⟨rfl, rfl⟩⟩, rfl, (fun i p d h => by simp at h)⟩⟩, Nat.zero_le _, Nat.zero_le _, Nat.zero_le _⟩
  have hlt : (size : Int) < (sz : Int) := by omega
  obtain ⟨R1, er, s1⟩ := R
  obtain ⟨f, hf⟩ : ∃ f, size / 512 = f := ⟨_, rfl⟩
  rw [hf] at hdv
  have hwf : IntKind.i64.wrap (f : Int) = (f : Int) := by rw [IntKind.wrap_i64]; omega
  obtain ⟨w5, hw5⟩ : ∃ w5, w5 = w3.alloc (.cells #[.pointer (some ⟨w.heap.size, 0, none⟩), .int .i64 (f : Nat), .int .i64 4168, .bool false, .func (.func 28) #[.pointer (some ⟨w.heap.size, 0, none⟩)] #[]] 81) := ⟨_, rfl⟩
  have hB5 : Below w3.heap.size w3 w5 := by rw [hw5]; exact (Below.refl _ w3).alloc (Nat.le_refl _) _
  have hk5 : WalkAt w5 w3.heap.size (.pointer (some ⟨w.heap.size, 0, none⟩)) f 4168 false (.func (.func 28) #[.pointer (some ⟨w.heap.size, 0, none⟩)] #[]) := by rw [hw5]; exact heap_alloc_new w3 _
  have Hn := handsC (LP := fun b w => LC w0 w c vs V (fun _ => 0) b) (w0 := w0) (ws := w) (wb := w.heap.size) (c := c) (lpok_LC w0 c vs V) hsz
  rw [hf] at Hn
  have cO := over_J Hn w3.heap.size (w.heap.size + 1) [n0, n1, n2, n3, n4, n5, n6, n7, n8, n9] ⟨b, 0, [], [], []⟩ w5 rfl hk5 (hx3.below hB5 (by omega)) (CJ.foreign hTJ (lpok_LC w0 c vs V) (But.of_below (S := fun _ => False) hB5) (fun _ h => h.elim)) (by omega) (by show b + 16804 ≤ _; omega)
  have hco := ovr_cost Hn [n0, n1, n2, n3, n4, n5, n6, n7, n8, n9] rfl ⟨b, 0, [], [], []⟩
  have hR' : Ino.ovr (wOps [] (nbOf vs.d.n) V) false f 4168 (cutS (nbOf vs.d.n) V size) [n0, n1, n2, n3, n4, n5, n6, n7, n8, n9] ⟨b, 0, [], [], []⟩ = (R1, er, s1) := by rw [← hf]; exact hR
  rw [hR'] at cO hco
  have hsb : s1.b ≤ 690000 := by have : s1.b ≤ b + 16804 := hco; omega
  have HP := hide hP
  dsimp only at HP ⊢
  rw [hs3] at cO
  clear hn hC hm hw2 hB2 hx2 hB3 hs2 hB03 H2 hTJ hx3 Hn hco hR' hR hP hk5 hB5
  refine (show Calls Tryz.prog 13 #[.pointer (some ⟨a, 0, none⟩), ep c, .pointer (some ⟨m.a, 0, none⟩), .int .i64 (size : Nat)] w (fun e w' => Hid (e = .returned (.int .i64 er) ∧ (er ≠ 0 → InoAt w' a sz [n0, n1, n2, n3, n4, n5, n6, n7, n8, n9] ∧ LC w0 w' c vs V (fun _ => 0) s1.b ∧ Bm.MapAt w' m ∧ But (fun k => Cmn w0 w k ∨ k = m.b ∨ k = a) w w') ∧
      (er = 0 → InoAt w' a size R1 ∧ R1.length = 10 ∧ LC w0 w' c vs (Ino.putsV V s1.P) (fun _ => 0) (s1.b + s1.P.length + s1.P.length + s1.P.length) ∧ Bm.MapAt w' (s1.G.foldl giveM m) ∧ But (fun k => Cmn w0 w k ∨ k = m.b ∨ k = a) w w'))) from ?_).mono (fun e w' h => h.out)
  go_enter Tryz.func13, Tryz.ntmps13
  go_wp2_with (go_at_call 29; rw [← hw3, ← hw5]; refine cO.mono ?_; rintro e w4 ⟨ns2, er2, s2, heq, rfl, h21, h22, h23⟩; clear cO hw3 hw5 d0 d1 d2 d3 d4 d5 d6 d7 d8 d9 e0; refine Stop.out ?_)
  refine Stop.mk ?_
  cases heq
  by_cases her : er = 0
  · obtain ⟨hN4, hR10⟩ := h23 her
    obtain ⟨hPl, hPn, hGn, hGl⟩ := HP.out her
    have hT4 := h21
    obtain ⟨r0, r1, r2, r3, r4, r5, r6, r7, r8, r9, rfl⟩ := list10 hR10
    have HE := hide her
    have e1 : (er != 0) = false := by simp [her]
    have e2 : (er == 0) = true := by simp [her]
    clear her h21 h22 h23 hR10 hmf hdv hwf
    have hc4 : CJ (fun b w => LC w0 w c vs V (fun _ => 0) b) w0 w w.heap.size w.heap.size c 78 (.pointer none) [.int .i64 (size : Nat)] s1.b [] s1.G s1.P w4 := hT4
    obtain ⟨sT4, sG4, sP4, D4, hb4, hr4⟩ := hc4.blk
    have hfr4 := hc4.fr
    have hi4 : InoAt w4 a sz [n0, n1, n2, n3, n4, n5, n6, n7, n8, n9] := HW.out.1.but hfr4 (hno _ _ _ _ HW.out.1 (cTag_not (by decide) (by decide) (by decide)))
    have c0 := hi4.size
    have q0 : w4.cell? ⟨w.heap.size + 1, 0, none⟩ = some (.int .u32 (r0.toNat : Int)) := hN4.num (i := 0) rfl
    have q1 : w4.cell? ⟨w.heap.size + 1, 1, none⟩ = some (.int .u32 (r1.toNat : Int)) := hN4.num (i := 1) rfl
    have q2 : w4.cell? ⟨w.heap.size + 1, 2, none⟩ = some (.int .u32 (r2.toNat : Int)) := hN4.num (i := 2) rfl
    have q3 : w4.cell? ⟨w.heap.size + 1, 3, none⟩ = some (.int .u32 (r3.toNat : Int)) := hN4.num (i := 3) rfl
    have q4 : w4.cell? ⟨w.heap.size + 1, 4, none⟩ = some (.int .u32 (r4.toNat : Int)) := hN4.num (i := 4) rfl
    have q5 : w4.cell? ⟨w.heap.size + 1, 5, none⟩ = some (.int .u32 (r5.toNat : Int)) := hN4.num (i := 5) rfl
    have q6 : w4.cell? ⟨w.heap.size + 1, 6, none⟩ = some (.int .u32 (r6.toNat : Int)) := hN4.num (i := 6) rfl
    have q7 : w4.cell? ⟨w.heap.size + 1, 7, none⟩ = some (.int .u32 (r7.toNat : Int)) := hN4.num (i := 7) rfl
    have q8 : w4.cell? ⟨w.heap.size + 1, 8, none⟩ = some (.int .u32 (r8.toNat : Int)) := hN4.num (i := 8) rfl
    have q9 : w4.cell? ⟨w.heap.size + 1, 9, none⟩ = some (.int .u32 (r9.toNat : Int)) := hN4.num (i := 9) rfl
    obtain ⟨W, hW⟩ : ∃ W, W = w4.drew.alloc (.cells ([r0, r1, r2, r3, r4, r5, r6, r7, r8, r9].map u32v).toArray 55) := ⟨_, rfl⟩
    have hBW : Below w4.heap.size w4 W := by rw [hW]; exact ((Below.refl _ w4).drew).alloc (Nat.le_refl _) _
    have hfrW : But (Cmn w0 w) w W := cmn_hi hfr4 (But.of_below (S := fun _ => False) hBW) (fun _ h => h.elim)
    have hxW : NumsAt W w4.heap.size [r0, r1, r2, r3, r4, r5, r6, r7, r8, r9] := by rw [hW]; exact heap_alloc_new w4.drew _
    have hmW : Bm.MapAt W m := HW.out.2.2.keep (but_only hfrW) (hno _ _ _ _ HW.out.2.2.st (cTag_not (by decide) (by decide) (by decide))) (hno _ _ _ _ hmc (cTag_not (by decide) (by decide) (by decide)))
    have hiW : InoAt W a sz [n0, n1, n2, n3, n4, n5, n6, n7, n8, n9] := hi4.below hBW hi4.lt
    have cD := do_L w0 W w.heap.size c s1.b w.heap.size _ _ 78 okC vs V [] _ s1.P D4 sT4 sG4 sP4 m (hb4.below hBW) (hr4.but (But.of_below (S := fun _ => False) hBW) (fun _ _ _ _ _ _ h => h)) (hc4.lp.below hBW) ⟨hPn, by simp, hGn⟩ (by omega) hPl hmW (fun i hi => by cases hi) hGl
    rw [List.foldl_nil] at cD
    have hna : ¬ (Cmn w0 W a ∨ a = m.b) := fun e => by
      rcases e with e | e
      · exact cmn_not hiW (cTag_not (by decide) (by decide) (by decide)) e
      · exact map_b_ne hmW (show BlkAt W a _ _ from hiW) (by decide) e
    have cB := become_any w4.drew a sz size w.heap.size m.a [n0, n1, n2, n3, n4, n5, n6, n7, n8, n9] [r0, r1, r2, r3, r4, r5, r6, r7, r8, r9] (fun w' => LC w0 w' c vs (Ino.putsV V s1.P) (fun _ => 0) (s1.b + s1.P.length + s1.P.length + s1.P.length) ∧ Bm.MapAt w' (s1.G.foldl giveM m)) (fun k => Cmn w0 W k ∨ k = m.b) hi4 rfl rfl W hW (cD.mono (by rintro e w' ⟨rfl, z1, z2, z3⟩; exact ⟨rfl, ⟨z1, z2⟩, z3⟩)) hna (fun e => by
      rcases e with e | e
      · exact cmn_not hxW (cTag_not (by decide) (by decide) (by decide)) e
      · exact map_b_ne hmW (show BlkAt W w4.heap.size _ _ from hxW) (by decide) e)
    have H4 := hide (⟨hfr4, hBW, hmW, hiW, hna, hi4, hfrW⟩ : _ ∧ _ ∧ _ ∧ _ ∧ _ ∧ _ ∧ _)
    unfold u32v at cB
    clear hT4 hN4 hPl hPn hGn hGl hc4 hb4 hr4 hfr4 hi4 hW hBW hfrW hxW hmW cD hiW hna hmc hno
    go_wp2_with fail
    go_region_with (go_at_call 27; refine cB.mono ?_; rintro e w6 ⟨rfl, w5, ⟨z1, z2⟩, z3, z4, z5⟩)
    all_goals
      have HFF : Hid (InoAt w6 a size [r0, r1, r2, r3, r4, r5, r6, r7, r8, r9] ∧ LC w0 w6 c vs (Ino.putsV V s1.P) (fun _ => 0) (s1.b + s1.P.length + s1.P.length + s1.P.length) ∧ Bm.MapAt w6 (s1.G.foldl giveM m) ∧ But (fun k => Cmn w0 w k ∨ k = m.b ∨ k = a) w w6) := by
        obtain ⟨hfr4, hBW, hmW, hiW, hna, hi4, hfrW⟩ := H4.out
        have z3' : But (fun k => Cmn w0 W k ∨ k = m.b) w4 w5 := ⟨z3.os, z3.tape, z3.output, z3.size, z3.block⟩
        have hi5 : InoAt w5 a sz [n0, n1, n2, n3, n4, n5, n6, n7, n8, n9] := hi4.but z3' hna
        have hma : a ≠ m.a := map_a_ne hmW (show BlkAt W a _ _ from hiW) (by decide)
        have hmb : a ≠ m.b := map_b_ne hmW (show BlkAt W a _ _ from hiW) (by decide)
        obtain ⟨ea, eb, _⟩ := gives_abn s1.G m
        refine ⟨z4, z1.foreign z5 (fun k hk => ?_), z2.keep (but_only z5) (fun e => hma (by have e : _ = a := e; rw [ea] at e; exact e.symm)) (fun e => hmb (by have e : _ = a := e; rw [eb] at e; exact e.symm)), ?_⟩
        · rw [show k = a from hk]
          exact ⟨_, _, _, hi5, by unfold foreignT; decide⟩
        · refine ((hfr4.mono (fun k _ h => .inl h)).after z3' (fun i hi hc => ?_)).after z5 (fun i _ e => .inr (.inr e))
          rcases hc with hc | hc
          · refine .inl ⟨hc.1, fun cs t fr hk => ?_⟩
            apply Classical.byContradiction
            intro hn
            have e : W.heap[i]? = w.heap[i]? := hfrW.block i hi (fun hcm => hn (hcm.2 cs t fr hk))
            exact hn (hc.2 cs t fr (e.trans hk))
          · exact .inr (.inl hc)
      clear cB z1 z2 z3 z4 z5 q0 q1 q2 q3 q4 q5 q6 q7 q8 q9 c0
      go_wp2
      go_ret
      exact hide ⟨by rw [HE.out]; rfl, fun h => absurd HE.out h, fun _ => ⟨HFF.out.1, rfl, HFF.out.2.1, HFF.out.2.2.1, HFF.out.2.2.2⟩⟩
  · have hfr4 := CJ.fr h21
    have HE := hide (⟨HW.out.1.but hfr4 (hno _ _ _ _ HW.out.1 (cTag_not (by decide) (by decide) (by decide))), CJ.lp h21, HW.out.2.2.keep (but_only hfr4) (hno _ _ _ _ HW.out.2.2.st (cTag_not (by decide) (by decide) (by decide))) (hno _ _ _ _ hmc (cTag_not (by decide) (by decide) (by decide))), hfr4.mono (fun _ _ h => .inl h)⟩ : InoAt w4 a sz [n0, n1, n2, n3, n4, n5, n6, n7, n8, n9] ∧ LC w0 w4 c vs V (fun _ => 0) s1.b ∧ Bm.MapAt w4 m ∧ But (fun k => Cmn w0 w k ∨ k = m.b ∨ k = a) w w4)
    have q1 : (er != 0) = true := by simp [her]
    have q2 : (er == 0) = false := by simp [her]
    clear h21 h22 h23 hfr4 hno hmc hmf hdv hwf
    go_wp2
    go_ret
    exact hide ⟨rfl, fun _ => HE.out, fun h => absurd h her⟩

end Go.Proofs.YtebdgcoandfocaaGreatDoor

/-
  Package inode: Write of a file.
-/
namespace Go.Proofs.YtebdgcoandfocaaGreatDoor
open Go.RowKit Go.Maps Go.Sort Go.Shelf

theorem setM_fit {m : Bm.MS} (hf : Bm.Fit m.n m.ws) (ht : Bm.Tight m.n m.ws) {i : Nat} (hi : i < m.n) : (setM m i).n = m.n ∧ Bm.Fit (setM m i).n (setM m i).ws ∧ Bm.Tight (setM m i).n (setM m i).ws := by
  unfold setM
  split
  · exact ⟨rfl, hf, ht⟩
  · exact ⟨rfl, hf.turned i, ht.turned hf hi⟩
theorem giveM_fit {m : Bm.MS} (hf : Bm.Fit m.n m.ws) (ht : Bm.Tight m.n m.ws) {i : Nat} (hi : i < m.n) : (giveM m i).n = m.n ∧ Bm.Fit (giveM m i).n (giveM m i).ws ∧ Bm.Tight (giveM m i).n (giveM m i).ws := by
  unfold giveM
  split
  · exact ⟨rfl, hf.turned i, ht.turned hf hi⟩
  · exact ⟨rfl, hf, ht⟩
theorem sets_tight : ∀ (T : List Nat) (m : Bm.MS), (∀ i ∈ T, i < m.n) → Bm.Fit m.n m.ws → Bm.Tight m.n m.ws → Bm.Tight (T.foldl setM m).n (T.foldl setM m).ws
  | [], m, _, _, h => h
  | i :: T, m, h, hf, ht => by
    obtain ⟨e1, e2, e3⟩ := setM_fit hf ht (h i List.mem_cons_self)
    exact sets_tight T (setM m i) (fun j hj => by rw [e1]; exact h j (List.mem_cons_of_mem _ hj)) e2 e3
theorem gives_tight : ∀ (T : List Nat) (m : Bm.MS), (∀ i ∈ T, i < m.n) → Bm.Fit m.n m.ws → Bm.Tight m.n m.ws → Bm.Tight (T.foldl giveM m).n (T.foldl giveM m).ws
  | [], m, _, _, h => h
  | i :: T, m, h, hf, ht => by
    obtain ⟨e1, e2, e3⟩ := giveM_fit hf ht (h i List.mem_cons_self)
    exact gives_tight T (giveM m i) (fun j hj => by rw [e1]; exact h j (List.mem_cons_of_mem _ hj)) e2 e3

/-- A file: an inode, a cache and a map in memory, and the bytes W that they say. -/
structure Fil (w0 w : World) (a c : Nat) (vs : VS) (m : Bm.MS) (G : Ino.Gs) (V : Nat → By) (sz : Nat) (W : Nat → BitVec 8) (b : Nat) : Prop where
  ino : InoAt w a sz (nums G)
  lc : LC w0 w c vs V (fun _ => 0) b
  map : Bm.MapAt w m
  file : Ino.File m.n (Bm.used m.ws) V G sz W
  nn : m.n = nbOf vs.d.n
  pos : 0 < m.n
  tight : Bm.Tight m.n m.ws

theorem Fil.used0 {w0 w : World} {a c : Nat} {vs : VS} {m : Bm.MS} {G : Ino.Gs} {V : Nat → By} {sz : Nat} {W : Nat → BitVec 8} {b : Nat} (h : Fil w0 w a c vs m G V sz W b) : Bm.used m.ws 0 = true := (h.file.used 0 h.pos).2 (.inl rfl)

set_option maxRecDepth 8000 in
set_option maxHeartbeats 1000000 in
theorem write_F {w0 w : World} {a c : Nat} {vs : VS} {m : Bm.MS} {G : Ino.Gs} {V : Nat → By} {sz : Nat} {W : Nat → BitVec 8} {b : Nat} (h : Fil w0 w a c vs m G V sz W b) (hb : b + 30000 ≤ 700000) (ht : Bm.Tab64 w) (h6 : 1 < w0.heap.size) (bg bo bc at_ : Nat) (bs : By)
    (hbs : Bytes w (some ⟨bg, bo, none⟩) bs) (htg : bg < w.heap.size ∧ ¬ Cmn w0 w bg) (hb1 : 1 ≤ bs.length) (hbc : bs.length ≤ bc) (hat : at_ + bs.length ≤ 65536) :
    Calls Tryz.prog 11 #[.pointer (some ⟨a, 0, none⟩), ep c, .pointer (some ⟨m.a, 0, none⟩), .int .i64 (at_ : Nat), .slice (some ⟨bg, bo, none⟩) bs.length bc] w fun e w' => But (fun k => Cmn w0 w k ∨ k = m.b ∨ k = a) w w' ∧
      ((e = .returned (.int .i64 0) ∧ ∃ m' G' V', m'.a = m.a ∧ m'.b = m.b ∧ m'.n = m.n ∧ Fil w0 w' a c vs m' G' V' (max sz (at_ + bs.length)) (Ino.wrote W at_ bs) (b + 20000) ∧ (∀ i, i ∈ Ino.idx (at_ / 512) (blocksOf (at_ + bs.length)) → G' i ≠ 0) ∧ (∀ i, i ∉ Ino.idx (at_ / 512) (blocksOf (at_ + bs.length)) → G' i = G i)) ∨
       (e = .returned (.int .i64 28) ∧ (Ino.frees m.n (Bm.used m.ws)).length < Ino.costB (blocksOf (at_ + bs.length)) ∧ Fil w0 w' a c vs m G V sz W (b + 20000))) := by
  have hn65 : m.n ≤ 65536 := h.map.fit.most
  have hok : TabOk m.n V G := File.tabOk h.file
  have htd : blocksOf (at_ + bs.length) = (at_ + bs.length + 511) / 512 := rfl
  have hF : ∀ x ∈ (Ino.frees m.n (Bm.used m.ws)).map (BitVec.ofNat 32), x ≠ 0 := fun x hx => (h.file.free (by omega) x hx).1
  obtain ⟨o1, o2⟩ := ovr_ens (Ino.frees m.n (Bm.used m.ws)) hF m.n V (at_ / 512) (blocksOf (at_ + bs.length)) G ⟨b, 0, [], [], []⟩ hok (by omega) (by omega)
  have hcost : (wrR m m.n V at_ bs.length b (nums G)).2.2.b ≤ b + 16804 := ovr_cost (handsW (LP := fun b w => LC w0 w c vs V (fun _ => 0) b) (w0 := w0) (ws := w) (wb := 0) (c := c) (U0 := Bm.used m.ws) (n := m.n) (at_ := at_) (pb := none) (bl := bs.length) (bc := bc) (nb := m.n) (by rw [h.nn]; exact lpok_LC w0 c vs V) ht h6 _ _) (nums G) (nums_length G) ⟨b, 0, [], [], []⟩
  cases he : Ino.ensure (Ino.freeB m.n (Bm.used m.ws)) G 0 (Ino.idx (at_ / 512) (blocksOf (at_ + bs.length))) with
  | none =>
    have h28 : (wrR m m.n V at_ bs.length b (nums G)).2.1 = 28 := o1 he
    obtain ⟨R, hR⟩ : ∃ R, wrR m (nbOf vs.d.n) V at_ bs.length b (nums G) = R := ⟨_, rfl⟩
    have hR' := hR
    rw [← h.nn] at hR'
    rw [hR'] at h28 hcost
    refine (write_J w0 w a c bg bo bs.length bc b at_ sz vs V m (nums G) bs h.ino (nums_length G) h.lc hb h.map ht h6 h.used0 h.pos hn65 hbs htg rfl hb1 hbc hat R hR (fun e => by rw [h28] at e; cases e) _ rfl (fun e => by rw [h28] at e; cases e)).mono ?_
    rintro e w' ⟨rfl, hE, _⟩
    obtain ⟨e1, e2, e3, e4⟩ := hE (by rw [h28]; decide)
    refine ⟨e4, .inr ⟨by rw [h28], ?_, e1, e2.more (by omega), e3, h.file, h.nn, h.pos, h.tight⟩⟩
    exact h.file.fail (by omega) (by omega) he
  | some x =>
    obtain ⟨G', k⟩ := x
    obtain ⟨b1, hov⟩ := o2 G' k he
    obtain ⟨R, hR⟩ : ∃ R, wrR m (nbOf vs.d.n) V at_ bs.length b (nums G) = R := ⟨_, rfl⟩
    have hR' := hR
    rw [← h.nn] at hR'
    have hRv : R = (nums G', 0, ⟨b1, k, [], wPuts (at_ / 512) (blocksOf (at_ + bs.length)) G G', spots G G' (wSpan (at_ / 512) (blocksOf (at_ + bs.length)))⟩) := by rw [← hR']; exact hov
    rw [hR'] at hcost
    obtain ⟨S2, hS2⟩ : ∃ S2, S2 = R.2.2.X.foldl (filS V at_ bs) R.2.2 := ⟨_, rfl⟩
    obtain ⟨b2, hfa⟩ := fils_all V at_ bs R.2.2.X R.2.2
    have hfb := fils_b V at_ bs R.2.2.X R.2.2
    rw [← hS2] at hfa hfb
    have hSk : S2.k = k := by rw [hfa, hRv]
    have hSG : S2.G = [] := by rw [hfa, hRv]
    have hSP : S2.P = wPuts (at_ / 512) (blocksOf (at_ + bs.length)) G G' ++ (spots G G' (wSpan (at_ / 512) (blocksOf (at_ + bs.length)))).map fun q => (q.2.1.toNat, fillB V at_ bs q.1 q.2.1 q.2.2) := by rw [hfa, hRv]
    have hXl : R.2.2.X.length ≤ 128 := by
      rw [hRv]
      have := wSpan_length (f := at_ / 512) (t := blocksOf (at_ + bs.length)) (by omega)
      simpa [spots] using this
    obtain ⟨hset, hsn⟩ := sets_used ((Ino.frees m.n (Bm.used m.ws)).take k) m (fun i hi => (Ino.mem_frees.1 (List.mem_of_mem_take hi)).1) h.map.fit
    obtain ⟨hfile, hPl, hPn⟩ := File.wrote (U' := Bm.used (((Ino.frees m.n (Bm.used m.ws)).take k).foldl setM m).ws) h.file hn65 hb1 hat he hset S2.P hSP
    have hkn : k ≤ 1000 := by
      have E := Ino.ensure_all h.file.inj (Ino.freeB_nodup (by omega)) (h.file.free (by omega)) he
      have h1 := E.few
      have h2 := Ino.idx_length (f := at_ / 512) (t := blocksOf (at_ + bs.length)) (by omega) (by omega)
      split at h2 <;> split at h2 <;> omega
    have hG' : ∀ p, p ∈ wSpan (at_ / 512) (blocksOf (at_ + bs.length)) → (G' p).toNat < m.n := by
      intro p hp
      refine hfile.lt p ?_
      have E := Ino.ensure_all h.file.inj (Ino.freeB_nodup (by omega)) (h.file.free (by omega)) he
      refine E.has p ((Ino.mem_idx (by omega) (by omega)).2 (.inl ((mem_wSpan (by omega) (by omega)).1 hp)))
    obtain ⟨ea, eb, en⟩ := sets_abn ((Ino.frees m.n (Bm.used m.ws)).take k) m
    refine (write_J w0 w a c bg bo bs.length bc b at_ sz vs V m (nums G) bs h.ino (nums_length G) h.lc hb h.map ht h6 h.used0 h.pos hn65 hbs htg rfl hb1 hbc hat R hR (fun _ => ⟨by omega, fun q hq => ?_⟩) S2 hS2 (fun _ => ⟨fun q hq => by rw [← h.nn]; exact hPl q hq, by omega, by omega, hSG⟩)).mono ?_
    · rw [hRv] at hq
      obtain ⟨p, hp, rfl⟩ := List.mem_map.1 hq
      obtain ⟨p1, p2⟩ := (mem_wSpan (f := at_ / 512) (t := blocksOf (at_ + bs.length)) (by omega) (by omega)).1 hp
      exact ⟨by show at_ < p * 512 + 512; omega, by show p * 512 < _; omega, .inr (by rw [← h.nn]; exact hG' p hp)⟩
    · rintro e w' ⟨rfl, _, hO⟩
      have hR0 : R.2.1 = 0 := by rw [hRv]
      obtain ⟨e1, _, e3, e4, e5⟩ := hO hR0
      have E := Ino.ensure_all h.file.inj (Ino.freeB_nodup (by omega)) (h.file.free (by omega)) he
      refine ⟨e5, .inl ⟨by rw [hR0], _, G', _, ea, eb, en, ⟨?_, e3.more (by omega), by rw [← hSk]; exact e4, ?_, en.trans h.nn, by rw [en]; exact h.pos, sets_tight _ m (fun i hi => (Ino.mem_frees.1 (List.mem_of_mem_take hi)).1) h.map.fit h.tight⟩, E.has, E.out⟩⟩
      · have : R.1 = nums G' := by rw [hRv]
        rw [← this]; exact e1
      · rw [en]; exact hfile

end Go.Proofs.YtebdgcoandfocaaGreatDoor

/-
  Package inode: Truncate and Read of a file.
-/
namespace Go.Proofs.YtebdgcoandfocaaGreatDoor
open Go.RowKit Go.Maps Go.Sort Go.Shelf

def cutW (W : Nat → BitVec 8) (size : Nat) : Nat → BitVec 8 := fun i => if i < size then W i else 0

set_option maxRecDepth 8000 in
set_option maxHeartbeats 1000000 in
theorem trunc_F {w0 w : World} {a c : Nat} {vs : VS} {m : Bm.MS} {G : Ino.Gs} {V : Nat → By} {sz : Nat} {W : Nat → BitVec 8} {b : Nat} (h : Fil w0 w a c vs m G V sz W b) (hb : b + 30000 ≤ 700000) (size : Nat) (hsz : size ≤ 65536) :
    Calls Tryz.prog 13 #[.pointer (some ⟨a, 0, none⟩), ep c, .pointer (some ⟨m.a, 0, none⟩), .int .i64 (size : Nat)] w fun e w' => But (fun k => Cmn w0 w k ∨ k = m.b ∨ k = a) w w' ∧ e = .returned (.int .i64 0) ∧ ∃ m' G' V', m'.a = m.a ∧ m'.b = m.b ∧ m'.n = m.n ∧ Fil w0 w' a c vs m' G' V' size (cutW W size) (b + 20000) := by
  by_cases hlt : size < sz
  · obtain ⟨b1, ho⟩ := ovr_cut h.file size hsz ⟨b, 0, [], [], []⟩
    have hR : cuR m.n V size b (nums G) = (nums (Ino.cutG size G), 0, ⟨b1, 0, [] ++ (cutIs size G).map (numO G), [] ++ (cutPs V size G).map (atG G), []⟩) := ho
    rw [List.nil_append, List.nil_append] at hR
    have hco : (cuR m.n V size b (nums G)).2.2.b ≤ b + 16804 := by
      have Hn := handsC (LP := fun b w => LC w0 w c vs V (fun _ => 0) b) (w0 := w0) (ws := w) (wb := 0) (c := c) (lpok_LC w0 c vs V) hsz
      rw [← h.nn] at Hn
      exact ovr_cost Hn (nums G) (nums_length G) ⟨b, 0, [], [], []⟩
    rw [hR] at hco
    rw [h.nn] at hR
    have hco : b1 ≤ b + 16804 := hco
    have hPl := cutPs_length V size G
    have hGl := cutIs_length size G
    refine (trunc_J w0 w a c b size sz vs V m (nums G) h.ino (nums_length G) h.lc hb h.map hsz hlt _ hR (fun _ => ⟨fun q hq => by rw [← h.nn]; exact cutPs_lt h.file q hq, by show ((cutPs V size G).map (atG G)).length ≤ 1000; omega, by show ((cutIs size G).map (numO G)).length ≤ 1000; omega, cutIs_lt h.file⟩)).mono ?_
    rintro e w' ⟨rfl, _, hO⟩
    obtain ⟨e1, _, e3, e4, e5⟩ := hO rfl
    obtain ⟨hg1, hg2⟩ := gives_used ((cutIs size G).map (numO G)) m (cutIs_lt h.file) h.map.fit
    obtain ⟨ga, gb, gn⟩ := gives_abn ((cutIs size G).map (numO G)) m
    refine ⟨e5, rfl, _, Ino.cutG size G, _, ga, gb, gn, e1, e3.more ?_, e4, ?_, gn.trans h.nn, by rw [gn]; exact h.pos, gives_tight _ m (cutIs_lt h.file) h.map.fit h.tight⟩
    · show b1 + ((cutPs V size G).map (atG G)).length + ((cutPs V size G).map (atG G)).length + ((cutPs V size G).map (atG G)).length ≤ b + 20000
      omega
    · rw [gn]
      exact File.cutted h.file hlt hg1
  · refine (grow_J w0 w a c b size sz vs V m (nums G) h.ino (nums_length G) h.lc hb h.map hsz (by omega)).mono ?_
    rintro e w' ⟨rfl, e1, e2, e3, e4⟩
    have hW : cutW W size = W := funext fun i => by
      unfold cutW
      split
      · rfl
      · exact (h.file.zero i (by omega)).symm
    rw [hW]
    exact ⟨e4, rfl, m, G, V, rfl, rfl, rfl, e1, e2.more (by omega), e3, h.file.grow (by omega) hsz, h.nn, h.pos, h.tight⟩

/-- The file as it stands in a world in which only a cache's own blocks may have turned. -/
theorem Fil.cmn {w0 w w' : World} {a c : Nat} {vs : VS} {m : Bm.MS} {G : Ino.Gs} {V : Nat → By} {sz : Nat} {W : Nat → BitVec 8} {b b' : Nat} (h : Fil w0 w a c vs m G V sz W b) (hf : But (Cmn w0 w) w w') (hc : LC w0 w' c vs V (fun _ => 0) b') : Fil w0 w' a c vs m G V sz W b' := by
  have hno : ∀ k cs t fr, w.heap[k]? = some (.cells cs t fr) → ¬ cTag t → ¬ Cmn w0 w k := fun k cs t fr hk h => cmn_not hk h
  obtain ⟨mcs, hmc⟩ := map_mbE h.map
  exact ⟨h.ino.but hf (hno _ _ _ _ h.ino (cTag_not (by decide) (by decide) (by decide))), hc, h.map.keep (but_only hf) (hno _ _ _ _ h.map.st (cTag_not (by decide) (by decide) (by decide))) (hno _ _ _ _ hmc (cTag_not (by decide) (by decide) (by decide))), h.file, h.nn, h.pos, h.tight⟩

set_option maxRecDepth 8000 in
set_option maxHeartbeats 1000000 in
theorem read_F {w0 w : World} {a c : Nat} {vs : VS} {m : Bm.MS} {G : Ino.Gs} {V : Nat → By} {sz : Nat} {W : Nat → BitVec 8} {b : Nat} (h : Fil w0 w a c vs m G V sz W b) (hb : b + 30000 ≤ 700000) (at_ count ln : Nat) (has : at_ < sz) (hln : min count (sz - at_) = ln) (hl1 : 1 ≤ ln) (hco : count < 9223372036854775808) :
    Calls Tryz.prog 14 #[.pointer (some ⟨a, 0, none⟩), ep c, .int .i64 (at_ : Nat), .int .i64 (count : Nat)] w fun e w' => Fil w0 w' a c vs m G V sz W (b + 20000) ∧ But (Cmn w0 w) w w' ∧ e = .returned (.tuple #[.slice (some ⟨w.heap.size, 0, none⟩) ln ln, .int .i64 0]) ∧ w'.heap[w.heap.size]? = some (.cells (((List.range ln).map fun i => W (at_ + i)).map u8v).toArray 5 (0, 0)) := by
  have hle := h.file.le
  obtain ⟨s', ho⟩ := ovr_read h.file hl1 (by omega : at_ + ln ≤ 65536) ⟨b, 0, [], [], []⟩
  have hR : rdR m.n V at_ ln b (nums G) = (nums G, 0, (s', (List.range ln).map fun i => W (at_ + i))) := ho
  have hcs : (rdR m.n V at_ ln b (nums G)).2.2.1.b ≤ b + 16804 := by
    have Hn := handsR (w0 := w0) (ws := w) (lz := w.heap.size + 1) (wb := w.heap.size + 1) (c := c) (vs := vs) (V := V) (og := w.heap.size) (at_ := at_) (ln := ln) (Nat.le_refl _) (Nat.lt_succ_self _) hl1 (by omega)
    rw [← h.nn] at Hn
    exact ovr_cost Hn (nums G) (nums_length G) (⟨b, 0, [], [], []⟩, List.replicate ln 0#8)
  rw [hR] at hcs
  rw [h.nn] at hR
  have hcs : s'.b ≤ b + 16804 := hcs
  refine (read_J w0 w a c b at_ count ln sz vs V (nums G) h.ino (nums_length G) h.lc hb hle has hln hl1 hco _ hR).mono ?_
  rintro e w' ⟨h1, h2, _, h4⟩
  obtain ⟨rfl, h5, _⟩ := h4 rfl
  exact ⟨h.cmn h2 (h1.more (by omega)), h2, rfl, h5⟩

set_option maxRecDepth 8000 in
set_option maxHeartbeats 1000000 in
/-- Read of nothing. -/
theorem iread_none {w : World} {a sz : Nat} {ns : List (BitVec 32)} (hn : InoAt w a sz ns) (hsz : sz ≤ 65536) (c at_ count : Nat) (h0 : count = 0 ∨ sz ≤ at_) (hco : count < 9223372036854775808) (hat : at_ < 9223372036854775808) :
    Calls Tryz.prog 14 #[.pointer (some ⟨a, 0, none⟩), ep c, .int .i64 (at_ : Nat), .int .i64 (count : Nat)] w fun e w' => e = .returned (.tuple #[.slice none 0 0, .int .i64 0]) ∧ w' = w := by
  have c0 := hn.size
  have hg1 : ¬ ((at_ : Int) < 0) := by omega
  have hg2 : ¬ ((count : Int) < 0) := by omega
  obtain ⟨mn, hmn⟩ : ∃ mn : Int, min (count : Int) ((sz : Int) - (at_ : Int)) = mn := ⟨_, rfl⟩
  have hl0 : mn ≤ 0 := by omega
  clear h0
  go_enter Tryz.func14, Tryz.ntmps14
  go_wp2
  go_ret2
  exact ⟨rfl, rfl⟩

/-- Read of a place or a count that can't be. -/
theorem iread_bad {w : World} (a c : Nat) (at_ count : Int) (h0 : at_ < 0 ∨ count < 0) :
    Calls Tryz.prog 14 #[.pointer (some ⟨a, 0, none⟩), ep c, .int .i64 at_, .int .i64 count] w fun e w' => e = .returned (.tuple #[.slice none 0 0, .int .i64 22]) ∧ w' = w := by
  by_cases h1 : at_ < 0
  · go_enter Tryz.func14, Tryz.ntmps14
    go_wp2
    go_ret2
    exact ⟨rfl, rfl⟩
  · have h2 : count < 0 := by omega
    clear h0
    go_enter Tryz.func14, Tryz.ntmps14
    go_wp2
    go_ret2
    exact ⟨rfl, rfl⟩

end Go.Proofs.YtebdgcoandfocaaGreatDoor

/-
  disk and begun of the law of package inode.
-/
namespace Go.Proofs.YtebdgcoandfocaaGreatDoor
open Go.RowKit Go.Maps Go.Sort Go.Shelf

def newA : AC := ⟨1000, [], 0, 0, 0, 0⟩

set_option maxRecDepth 8000 in
set_option maxHeartbeats 2000000 in
theorem disk_any (blocks : Nat) (w : World) (ht : Tab w) (ht6 : Bm.Tab64 w) (h2 : 2 ≤ blocks) (h48 : blocks ≤ 200) :
    Calls Tryz.prog 7 #[.int .i64 (blocks : Nat)] w fun e w' => ∃ (c s : Nat) (vs : VS), e = .returned (.tuple #[ep c, .pointer (some ⟨s + 1, 0, none⟩)]) ∧ CW w w' c vs newA 0 ∧ nbOf vs.d.n = blocks ∧ (∀ i, i < blocks → vs.cont i = zeroB) ∧ Bm.MapAt w' ((Bm.newMS s blocks).turn 0) ∧ w.heap.size ≤ s ∧ Below w.heap.size w w' := by
  have cV := volume_any blocks w ht (by omega) (by omega)
  have HT : Hid (Tab w ∧ Bm.Tab64 w) := ⟨ht, ht6⟩
  clear ht ht6
  go_enter Tryz.func7, Tryz.ntmps7
  go_wp2_with (go_at_call 21; refine cV.mono ?_; rintro e w1 ⟨vs, rfl, hI1, hz1, hnb1, hc1, hB1, hlo1⟩; clear cV; refine Stop.out ?_)
  refine Stop.mk ?_
  have cN : Calls Tryz.prog 20 #[dp vs.v, .int .i64 1000] w1 _ := new_ok 1000 vs w1 hI1 (by omega) (by omega)
  have H1 : Hid (nbOf vs.d.n = blocks ∧ (∀ i, i < blocks → vs.cont i = zeroB) ∧ Below w.heap.size w w1) := ⟨hnb1, hc1, hB1⟩
  clear hI1 hz1 hnb1 hc1 hB1 hlo1
  go_wp2_with (go_at_call 20; refine cN.mono ?_; rintro e w2 ⟨c, hh, rfl, hI2, hB2, hhl, hcl⟩; clear cN; refine Stop.out ?_)
  refine Stop.mk ?_
  have hB02 : Below w.heap.size w w2 := H1.out.2.2.trans (hB2.mono H1.out.2.2.size)
  have cM := Bm.new_in blocks w2 (by omega) (HT.out.2.below hB02).lt
  have hs12 := H1.out.2.2.size
  have hs02 := hB02.size
  have H2 : Hid (CW w w2 c vs newA 0 ∧ Below w.heap.size w w2 ∧ w.heap.size ≤ w2.heap.size) := ⟨⟨newS c vs.v 1000 hh, fun _ => [], hI2, ⟨Nat.zero_le _, Nat.zero_le _, Nat.zero_le _, Nat.zero_le _, Nat.zero_le _⟩, rfl, rfl, by show w.heap.size ≤ hh; omega⟩, hB02, hs02⟩
  clear hI2 hB2 hhl hcl hB02 hs12 hs02
  go_wp2_with (go_at_call 22; refine cM.mono ?_; rintro e w3 ⟨rfl, hm3, hB3⟩; clear cM; refine Stop.out ?_)
  refine Stop.mk ?_
  have cS := set_free 0 _ w3 hm3 (show 0 < blocks by omega) (Bm.used_zero _ _)
  have H3 : Hid (CW w w3 c vs newA 0 ∧ Below w.heap.size w w3 ∧ Bm.MapAt w3 (Bm.newMS w2.heap.size blocks)) := ⟨H2.out.1.below hB3, H2.out.2.1.trans (hB3.mono H2.out.2.2), hm3⟩
  clear hm3 hB3
  have cS' : Calls Tryz.prog 23 #[.pointer (some ⟨w2.heap.size + 1, 0, none⟩), .int .i64 0] w3 _ := cS
  clear cS
  go_wp2_with (go_at_call 23; refine cS'.mono ?_; rintro e w4 ⟨rfl, hm4, hb4⟩; clear cS')
  go_ret2
  refine ⟨c, w2.heap.size, vs, rfl, H3.out.1.foreign hb4 (fun k hk => ?_), H1.out.1, H1.out.2.1, hm4, H2.out.2.2, H3.out.2.1.trans (hb4.below H3.out.2.1.size (fun k hk => ?_))⟩
  · obtain ⟨_, h, _⟩ := H3.out.2.2.row
    rw [show k = _ from hk]
    exact ⟨_, _, _, h, by unfold foreignT; decide⟩
  · have e : k = w2.heap.size := hk
    have := H2.out.2.2
    omega

theorem str4 : strOf [0#8, 97#8, 98#8, 99#8] = ⟨#[0, 97, 98, 99]⟩ := rfl

end Go.Proofs.YtebdgcoandfocaaGreatDoor

/-
  What every proof of package inode's law begins with: the two tables.
-/
namespace Go.Proofs.YtebdgcoandfocaaGreatDoor
open Go.ChangeShapes Go.WideShapes Go.ChangeAt Go.RowKit

theorem laid_tail {P : Program} {x : String × DataW Unit} {rest : List (String × DataW Unit)} {W : World} (h : laidMet P (x :: rest) W) : laidMet P rest W := by
  obtain ⟨ps, ⟨g', t', cs, fuel, p, q, hg', ht', hvar, hd, hrest, hps⟩, hnd, hall⟩ := h
  subst hps
  exact ⟨q, hrest, (List.nodup_append.1 hnd).2.1, fun b off hm => hall b off (List.mem_append_right _ hm)⟩

theorem gTab64 : Tryz.prog.globalNamed "math/bits.deBruijn64tab" = some 1 := by kernel_rfl
theorem gTab64Type : (Tryz.prog.globals[1]?).map (·.type) = some 216 := by kernel_rfl
theorem cellsTab64 : Tryz.prog.cellsOf 216 = 64 := by kernel_rfl
theorem cellsU8 : Tryz.prog.cellsOf 5 = 1 := by kernel_rfl
def deB : List Int := Lib.deBruijn64tab.map fun (n : Nat) => (n : Int)

theorem tabs_of_laid {W : World} (h : laidMetH Tryz.prog [("lagoon/crc.steps", Rows.laid_lagoon_crc_steps), ("math/bits.deBruijn64tab", Rows.laid_math_bits_deBruijn64tab)] W) : Tab W ∧ Bm.Tab64 W := by
  have h' : laidMet Tryz.prog [("lagoon/crc.steps", Rows.laid_lagoon_crc_steps), ("math/bits.deBruijn64tab", Rows.laid_math_bits_deBruijn64tab)] W := h
  have ht : Lib.TabIs Tryz.prog W "lagoon/crc.steps" .u32 [0, 498536548, 997073096, 651767980, 1994146192, 1802195444, 1303535960, 1342533948, 3988292384, 4027552580, 3604390888, 3412177804, 2607071920, 2262029012, 2685067896, 3183342108] :=
    Lib.tabIs_of_head gTab gTabType Tryz.underlying205 Tryz.underlying53 cellsU32 cellsTab h'
  have ht2 : Lib.TabIs Tryz.prog W "math/bits.deBruijn64tab" .u8 deB :=
    Lib.tabIs_of_head (rest := []) gTab64 gTab64Type Tryz.underlying216 Tryz.underlying5 cellsU8 cellsTab64 (laid_tail h')
  constructor
  · intro k z hk
    have hlt : k < 16 := (List.getElem?_eq_some_iff.1 hk).1
    have hc := ht.cell gTab k (by simpa using hlt)
    rw [hc]
    match k, hlt with
    | 0, _ | 1, _ | 2, _ | 3, _ | 4, _ | 5, _ | 6, _ | 7, _ | 8, _ | 9, _ | 10, _ | 11, _ | 12, _ | 13, _ | 14, _ | 15, _ => cases hk; rfl
  · intro k hk
    have hc := ht2.cell gTab64 k (show k < deB.length from hk)
    rw [hc]
    have : deB.getD k 0 = ((Lib.deBruijn64tab.getD k 0 : Nat) : Int) := by
      unfold deB
      rw [List.getD, List.getElem?_map, List.getD]
      have hl : k < Lib.deBruijn64tab.length := hk
      rw [List.getElem?_eq_getElem hl]
      rfl
    rw [← this]

/- The laws. -/

end Go.Proofs.YtebdgcoandfocaaGreatDoor

namespace Go.Proofs.YtebdgcoandfocaaGreatDoor
open Go.RowKit Go.Maps Go.Sort Go.Shelf

theorem frees_cnt (U : Nat → Bool) : ∀ n, (Ino.frees n U).length + Bm.cnt U n = n
  | 0 => rfl
  | n + 1 => by
    have ih := frees_cnt U n
    have e : Ino.frees (n + 1) U = Ino.frees n U ++ (if U n = true then [] else [n]) := by
      unfold Ino.frees
      rw [List.range_succ, List.filter_append]
      cases h : U n <;> simp [h]
    rw [e, List.length_append]
    show _ + (Bm.cnt U n + (U n).toNat) = _
    cases h : U n
    · simp; omega
    · simp; omega

theorem used_first (s n j : Nat) (hn : 0 < n) : Bm.used ((Bm.newMS s n).turn 0).ws j = decide (j = 0) := by
  show Bm.used (Bm.turned (List.replicate ((n + 63) / 64) 0) 0) j = _
  rw [Bm.turned_used (by rw [List.length_replicate]; omega), Bm.used_zero, Bm.used_zero]
  by_cases h : j = 0
  · rw [if_pos h]; simp [h]
  · rw [if_neg h]; simp [h]
theorem tight_first (s n : Nat) (hn : 0 < n) : Bm.Tight n ((Bm.newMS s n).turn 0).ws := fun i hi => by
  rw [used_first s n i hn]; simp; omega

/-- A new file on a new disk. -/
theorem Fil.start {w0 w w' : World} {a c s blocks : Nat} {vs : VS} (h2 : 2 ≤ blocks) (hC : CW w0 w c vs newA 0) (hnb : nbOf vs.d.n = blocks) (hm : Bm.MapAt w ((Bm.newMS s blocks).turn 0)) (hB : Below w.heap.size w w') (hi : InoAt w' a 0 noNums) :
    Fil w0 w' a c vs ((Bm.newMS s blocks).turn 0) (fun _ => 0) vs.cont 0 (fun _ => 0) 0 where
  ino := hi
  lc := ⟨newA, hC.below hB, ⟨rfl, List.nodup_nil, (fun e he => by cases he), fun x _ => ⟨rfl, rfl⟩⟩⟩
  map := hm.below hB
  file := Ino.File.new _ _ _ (fun x hx => by rw [used_first s blocks x (by omega)]; simp)
  nn := hnb.symm
  pos := by show 0 < blocks; omega
  tight := tight_first s blocks (by omega)

section
variable {w0 w w' : World} {a c : Nat} {vs : VS} {m : Bm.MS} {G : Ino.Gs} {V : Nat → By} {sz : Nat} {W : Nat → BitVec 8} {b : Nat}

/-- How many blocks are free. -/
theorem free_F (h : Fil w0 w a c vs m G V sz W b) : Calls Tryz.prog 9 #[.pointer (some ⟨m.a, 0, none⟩)] w fun e w' => e = .returned (.int .i64 ((m.n - 1 - Ino.cnt G : Nat) : Int)) ∧ w' = w := by
  have h1 := Bm.free_any m w h.map h.tight
  have h2 := frees_cnt (Bm.used m.ws) m.n
  have h3 := h.file.count h.pos
  rw [show m.n - Bm.cnt (Bm.used m.ws) m.n = m.n - 1 - Ino.cnt G by omega] at h1
  exact h1
theorem Fil.frees (h : Fil w0 w a c vs m G V sz W b) : (Ino.frees m.n (Bm.used m.ws)).length = m.n - 1 - Ino.cnt G := by
  have h3 := h.file.count h.pos
  omega
theorem Fil.cntLe (h : Fil w0 w a c vs m G V sz W b) : Ino.cnt G + 1 ≤ m.n := by
  have h3 := h.file.count h.pos
  omega

theorem Fil.below (h : Fil w0 w a c vs m G V sz W b) (hB : Below w.heap.size w w') : Fil w0 w' a c vs m G V sz W b :=
  ⟨h.ino.below hB h.ino.lt, h.lc.below hB, h.map.below hB, h.file, h.nn, h.pos, h.tight⟩

theorem row_out {w0 w : World} {g : Nat} {cs : Array Value} {fr : Nat × Nat} (hg : w.heap[g]? = some (.cells cs 5 fr)) : g < w.heap.size ∧ ¬ Cmn w0 w g := ⟨(Array.getElem?_eq_some_iff.1 hg).1, cmn_not hg (cTag_not (by decide) (by decide) (by decide))⟩
theorem low_out {w0 w : World} {g : Nat} (hg : g < w0.heap.size) (hs : w0.heap.size ≤ w.heap.size) : g < w.heap.size ∧ ¬ Cmn w0 w g := ⟨Nat.lt_of_lt_of_le hg hs, fun hc => by have := hc.1; omega⟩

/-- Nothing that lay there ahead of the disk is turned. -/
theorem Fil.lowB (hb : But (fun k => Cmn w0 w k ∨ k = m.b ∨ k = a) w w') (hs : w0.heap.size ≤ w.heap.size) (hm : w0.heap.size ≤ m.b) (ha : w0.heap.size ≤ a) : Below w0.heap.size w w' :=
  hb.below hs (fun k hk => by
    rcases hk with hk | hk | hk
    · exact hk.1
    · omega
    · omega)
theorem Fil.lowC (hb : But (Cmn w0 w) w w') (hs : w0.heap.size ≤ w.heap.size) : Below w0.heap.size w w' := hb.below hs (fun _ hk => hk.1)
end

theorem costI_B (s : Nat) (h : s ≤ 65536) : costI (s : Nat) = ((Ino.costB ((s + 511) / 512) : Nat) : Int) := by
  by_cases h0 : s = 0
  · subst h0; rfl
  · rw [costI_in s _ (by omega) h rfl]
    unfold Ino.costB blocksOf
    congr 1
    split <;> split <;> omega

/-- Bytes in a row of their own. -/
structure RowB (w : World) (p : Option Addr) (bs : By) : Prop where
  is : Bytes w p bs
  tag : 0 < bs.length → ∃ g o cs fr, p = some ⟨g, o, none⟩ ∧ w.heap[g]? = some (.cells cs 5 fr)
theorem RowB.keep {w w' : World} {p : Option Addr} {bs : By} (h : RowB w p bs) (hk : ∀ (g : Nat) (cs : Array Value) (fr : Nat × Nat), w.heap[g]? = some (.cells cs 5 fr) → w'.heap[g]? = some (.cells cs 5 fr)) : RowB w' p bs := by
  refine ⟨fun h0 => ?_, fun h0 => ?_⟩
  · obtain ⟨g, o, e, hx⟩ := h.is h0
    obtain ⟨g2, o2, cs, fr, e2, hg⟩ := h.tag h0
    rw [e] at e2
    cases e2
    refine ⟨g, o, e, fun j y hj => ?_⟩
    have := hx j y hj
    rw [cellOf hg] at this
    rw [cellOf (hk g cs fr hg)]; exact this
  · obtain ⟨g, o, cs, fr, e, hg⟩ := h.tag h0
    exact ⟨g, o, cs, fr, e, hk g cs fr hg⟩
theorem RowB.nil (w : World) (p : Option Addr) : RowB w p [] := ⟨(fun h => by cases h), (fun h => by cases h)⟩
theorem RowB.block {w : World} {g : Nat} {bs : By} {fr : Nat × Nat} (h : w.heap[g]? = some (.cells (bs.map u8v).toArray 5 fr)) : RowB w (some ⟨g, 0, none⟩) bs := ⟨bytes_block h, fun _ => ⟨g, 0, _, _, rfl, h⟩⟩
theorem RowB.below {w w' : World} {p : Option Addr} {bs : By} (h : RowB w p bs) (hB : Below w.heap.size w w') : RowB w' p bs := h.keep fun g _ _ hg => (hB.block g (Array.getElem?_eq_some_iff.1 hg).1).trans hg
section
variable {w0 w w' : World} {a c : Nat} {vs : VS} {m : Bm.MS} {G : Ino.Gs} {V : Nat → By} {sz : Nat} {W : Nat → BitVec 8} {b : Nat}

/-- Read, wherever. -/
theorem read_B (h : Fil w0 w a c vs m G V sz W b) (hb : b + 30000 ≤ 700000) (at_ count ln : Nat) (hln : min count (sz - at_) = ln) (hco : count < 9223372036854775808) (hat : at_ < 9223372036854775808) :
    Calls Tryz.prog 14 #[.pointer (some ⟨a, 0, none⟩), ep c, .int .i64 (at_ : Nat), .int .i64 (count : Nat)] w fun e w' => ∃ p cp, e = .returned (.tuple #[.slice p ln cp, .int .i64 0]) ∧ Fil w0 w' a c vs m G V sz W (b + 20000) ∧ But (Cmn w0 w) w w' ∧ RowB w' p ((List.range ln).map fun i => W (at_ + i)) := by
  by_cases h0 : ln = 0
  · subst h0
    refine (iread_none h.ino h.file.le c at_ count (by omega) hco hat).mono ?_
    rintro e w' ⟨rfl, rfl⟩
    exact ⟨none, 0, rfl, ⟨h.ino, h.lc.more (by omega), h.map, h.file, h.nn, h.pos, h.tight⟩, But.refl _ _, RowB.nil _ _⟩
  · refine (read_F h hb at_ count ln (by omega) hln (by omega) hco).mono ?_
    rintro e w' ⟨h1, h2, rfl, h4⟩
    exact ⟨_, _, rfl, h1, h2, RowB.block h4⟩

set_option maxRecDepth 8000 in
set_option maxHeartbeats 1000000 in
/-- Write of nothing. -/
theorem write_zero (a c ma at_ cp : Nat) (p : Option Addr) (hat : at_ ≤ 65536) : Calls Tryz.prog 11 #[.pointer (some ⟨a, 0, none⟩), ep c, .pointer (some ⟨ma, 0, none⟩), .int .i64 (at_ : Nat), .slice p 0 cp] w fun e w' => e = .returned (.int .i64 0) ∧ w' = w := by
  have h1 : ¬ ((at_ : Int) < 0) := by omega
  have h2 : ¬ ((65536 : Int) < (at_ : Int)) := by omega
  go_enter Tryz.func11, Tryz.ntmps11
  go_wp2
  go_ret
  exact ⟨rfl, rfl⟩
set_option maxRecDepth 8000 in
set_option maxHeartbeats 1000000 in
/-- Write at a place that is none. -/
theorem write_neg (a c ma n cp : Nat) (at_ : Int) (p : Option Addr) (hat : at_ < 0) : Calls Tryz.prog 11 #[.pointer (some ⟨a, 0, none⟩), ep c, .pointer (some ⟨ma, 0, none⟩), .int .i64 at_, .slice p n cp] w fun e w' => e = .returned (.int .i64 22) ∧ w' = w := by
  go_enter Tryz.func11, Tryz.ntmps11
  go_wp2
  go_ret
  exact ⟨rfl, rfl⟩
set_option maxRecDepth 8000 in
set_option maxHeartbeats 1000000 in
/-- Write behind the end of all files. -/
theorem write_big (a c ma n cp : Nat) (at_ : Int) (p : Option Addr) (hat : 0 ≤ at_) (hn : n < 9223372036854775808) (hbig : (65536 : Int) - (n : Int) < at_) : Calls Tryz.prog 11 #[.pointer (some ⟨a, 0, none⟩), ep c, .pointer (some ⟨ma, 0, none⟩), .int .i64 at_, .slice p n cp] w fun e w' => e = .returned (.int .i64 27) ∧ w' = w := by
  have h1 : ¬ (at_ < 0) := by omega
  go_enter Tryz.func11, Tryz.ntmps11
  go_wp2
  go_ret
  exact ⟨rfl, rfl⟩
set_option maxRecDepth 8000 in
set_option maxHeartbeats 1000000 in
/-- Truncate to a size that is none. -/
theorem trunc_neg (a c ma : Nat) (size : Int) (hs : size < 0) : Calls Tryz.prog 13 #[.pointer (some ⟨a, 0, none⟩), ep c, .pointer (some ⟨ma, 0, none⟩), .int .i64 size] w fun e w' => e = .returned (.int .i64 22) ∧ w' = w := by
  go_enter Tryz.func13, Tryz.ntmps13
  go_wp2
  go_ret
  exact ⟨rfl, rfl⟩
set_option maxRecDepth 8000 in
set_option maxHeartbeats 1000000 in
/-- Truncate to a size that is too great. -/
theorem trunc_big (a c ma : Nat) (size : Int) (hs : 65536 < size) : Calls Tryz.prog 13 #[.pointer (some ⟨a, 0, none⟩), ep c, .pointer (some ⟨ma, 0, none⟩), .int .i64 size] w fun e w' => e = .returned (.int .i64 27) ∧ w' = w := by
  have h1 : ¬ (size < 0) := by omega
  go_enter Tryz.func13, Tryz.ntmps13
  go_wp2
  go_ret
  exact ⟨rfl, rfl⟩
end

end Go.Proofs.YtebdgcoandfocaaGreatDoor
