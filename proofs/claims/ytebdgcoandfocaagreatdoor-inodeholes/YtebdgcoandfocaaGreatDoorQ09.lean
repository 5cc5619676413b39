/-
  What the proof leans on, part 10.
-/
import Derived.Test.YtebdgcoandfocaaGreatDoorQ08
import Derived.Test.YtebdgcoandfocaaGreatDoorQ00
import Derived.Test.YtebdgcoandfocaaGreatDoorQ06
import Derived.BigRegion

/-
  meet of package bcache.
-/
namespace Go.Proofs.YtebdgcoandfocaaGreatDoor
open Go.RowKit Go.Maps Go.Sort Go.Shelf

theorem filter_len {A : List Nat} (hn : A.Nodup) {o : Nat} (ho : o ∈ A) : (A.filter (fun b => b != o)).length + 1 = A.length := by
  rw [← hn.erase_eq_filter o, List.length_erase_of_mem ho]
  have := List.length_pos_of_mem ho
  omega

/-- An entry more: all holds but for its rank. -/
theorem cx_new {w w1 w' : World} {s : CS} {vs : VS} {B : Nat → By} {block a : Nat} {A1 I1 : List Nat} {out1 : Nat} {F F' : DataW Value} (h : CI w1 s vs B) (hn : Hn w1 w s block a A1 I1 out1 F) (hblk : block < nbOf vs.d.n)
    (e : EV) (b : By) (ms dcap : Nat) (D' : List Nat) (dq : Option Addr) (nh : Nat)
    (cm : CM w' { s with nh := nh, F := F', I := I1, A := A1 ++ [a], U := updU s.U a e, out := out1, missed := ms, D := D', dq := dq, dcap := dcap }) (hB : But (cMine w1 s.h) w1 w')
    (heb : e.block = block) (hdat : DatAt w' e b) (hD : (e.dirty = false ∧ D' = s.D ∧ b = vs.cont block) ∨ (e.dirty = true ∧ D' = s.D ++ [a])) :
    CX (fun k => k = a) w' { s with nh := nh, F := F', I := I1, A := A1 ++ [a], U := updU s.U a e, out := out1, missed := ms, D := D', dq := dq, dcap := dcap } vs (fun k => if k = a then b else B k) := by
  obtain ⟨hvi, hkeep⟩ := h.keep hB
  have hA : ∀ k ∈ s.A, k ≠ a := fun k hk e => by have := h.cm.alt hk; have := hn.new; omega
  have hA1 : ∀ k ∈ A1, k ≠ a := fun k hk => hA k (hn.sub k hk)
  have hI1 : ∀ k, k ∈ I1 → k ∈ s.I := fun k hk => by
    rcases hn.ev with ⟨_, _, e, _⟩ | ⟨_, o, _, _, _, hm, _⟩
    · rw [← e]; exact hk
    · exact ((hm k).1 hk).1
  have haI : a ∉ I1 := fun hx => hA a (h.cm.sub a (hI1 a hx)) rfl
  have mem : ∀ k, k ≠ a → (k ∈ A1 ++ [a] ↔ k ∈ A1) := fun k hk => by simp [hk]
  have U1 : ∀ k, k ≠ a → updU s.U a e k = s.U k := fun k hk => updU_other _ _ hk
  have hnotD : ∀ o, o ∈ s.I → o ∉ s.D := fun o ho hd => by
    have h1 := ((h.idle o (fun h => h)).1 ho).2
    have h2 := ((h.dirty o).1 hd).2
    unfold idleE at h1
    rw [h2] at h1
    simp at h1
  have haD : a ∉ s.D := fun hd => hA a ((h.dirty a).1 hd).1 rfl
  have hdA1 : ∀ k, k ∈ s.D → k ∈ A1 := fun k hk => by
    have hkA := ((h.dirty k).1 hk).1
    rcases hn.ev with ⟨_, e, _⟩ | ⟨_, o, ho, _, e, _⟩
    · rw [e]; exact hkA
    · rw [e]; simp [hkA]; rintro rfl; exact hnotD k ho hk
  refine ⟨cm, hvi, h.vv, h.hf, h.hd, fun k hk => ?_, fun k hk => ?_, fun hall => absurd rfl (hall a), fun k hk => ?_, fun k => ?_, ?_, fun k hk hka => ?_, fun k hk k' hk' hka hka' e' => ?_, fun k hk => ?_, fun k hk hdk => ?_, h.room.1, h.room.2.1, ?_⟩
  · show DatAt w' (updU s.U a e k) (if k = a then b else B k)
    by_cases e' : k = a
    · subst e'
      rw [updU_same, if_pos rfl]; exact hdat
    · rw [U1 k e', if_neg e']
      exact hkeep _ _ (h.dat k (hn.sub k ((mem k e').1 hk)))
  · have e' : k = a := hk
    rw [e']
    refine ⟨fun j hj hja => absurd (hja ▸ getD_mem hj) haI, fun _ => ?_⟩
    show HeapF (kvOf (keyU (updU s.U a e)) I1) I1.length
    exact hn.ord.less (Nat.le_refl _) fun j hj => kvOf_upd_not haI e hj
  · show k ∈ I1 ↔ k ∈ A1 ++ [a] ∧ idleE (updU s.U a e k) = true
    rw [mem k hk, U1 k hk]
    have h1 := h.idle k (fun h => h)
    rcases hn.ev with ⟨_, e1, e2, _⟩ | ⟨_, o, ho, _, e1, hm, _⟩
    · rw [e1, e2]; exact h1
    · rw [e1, hm k, h1]
      simp [List.mem_filter]
      constructor
      · rintro ⟨⟨h1, h2⟩, h3⟩; exact ⟨⟨h1, h3⟩, h2⟩
      · rintro ⟨⟨h1, h3⟩, h2⟩; exact ⟨⟨h1, h2⟩, h3⟩
  · show k ∈ D' ↔ k ∈ A1 ++ [a] ∧ (updU s.U a e k).dirty = true
    by_cases e' : k = a
    · subst e'
      rw [updU_same]
      rcases hD with ⟨h1, h2, _⟩ | ⟨h1, h2⟩
      · rw [h1, h2]; simp [haD]
      · rw [h1, h2]; simp
    · rw [mem k e', U1 k e']
      have : k ∈ D' ↔ k ∈ s.D := by
        rcases hD with ⟨_, h2, _⟩ | ⟨_, h2⟩
        · rw [h2]
        · rw [h2]; simp [e']
      rw [this]
      constructor
      · intro hk; exact ⟨hdA1 k hk, ((h.dirty k).1 hk).2⟩
      · rintro ⟨h1, h2⟩; exact (h.dirty k).2 ⟨hn.sub k h1, h2⟩
  · show D'.Nodup
    rcases hD with ⟨_, h2, _⟩ | ⟨_, h2⟩
    · rw [h2]; exact h.dnd
    · rw [h2, List.nodup_append]
      exact ⟨h.dnd, by simp, fun x hx y hy => by rw [List.mem_singleton.1 hy]; exact fun e => haD (e ▸ hx)⟩
  · show (updU s.U a e k).used ≤ s.uses
    rw [U1 k hka]
    exact h.used k (hn.sub k ((mem k hka).1 hk)) (fun h => h)
  · have e2 : (updU s.U a e k).used = (updU s.U a e k').used := e'
    rw [U1 k hka, U1 k' hka'] at e2
    exact h.uinj k (hn.sub k ((mem k hka).1 hk)) k' (hn.sub k' ((mem k' hka').1 hk')) (fun h => h) (fun h => h) e2
  · show (updU s.U a e k).block < _
    by_cases e' : k = a
    · rw [e', updU_same, heb]; exact hblk
    · rw [U1 k e']; exact h.blk k (hn.sub k ((mem k e').1 hk))
  · show (if k = a then b else B k) = vs.cont (updU s.U a e k).block
    have hdk' : (updU s.U a e k).dirty = false := hdk
    by_cases e' : k = a
    · subst e'
      rw [updU_same] at hdk' ⊢
      rw [if_pos rfl, heb]
      rcases hD with ⟨_, _, h3⟩ | ⟨h1, _⟩
      · exact h3
      · rw [h1] at hdk'; cases hdk'
    · rw [U1 k e'] at hdk' ⊢
      rw [if_neg e']
      exact h.clean k (hn.sub k ((mem k e').1 hk)) hdk'
  · show (A1 ++ [a]).length ≤ s.room
    rcases hn.ev with ⟨h1, e1, _⟩ | ⟨_, o, ho, _, e1, _⟩
    · rw [e1]; simp; omega
    · have := filter_len h.cm.hm.nodup (h.cm.sub o ho)
      have := h.room.2.2
      rw [e1]; simp only [List.length_append, List.length_singleton]; omega

set_option maxRecDepth 8000 in
set_option maxHeartbeats 1000000 in
theorem meet_out (s : CS) (vs : VS) (B : Nat → By) (x : Int) (w : World) (h : CI w s vs B) (h1 : -9223372036854775808 ≤ x) (h2 : x < 9223372036854775808) (hx : ¬ (0 ≤ x ∧ x < nbOf vs.d.n)) :
    Calls Tryz.prog 90 #[ep s.c, .int .i64 x] w fun e w' => e = .returned (.tuple #[.pointer none, .int .i64 22]) ∧ w' = w := by
  have c0 : w.cell? ⟨s.c, 0, none⟩ = some (dp vs.v) := by rw [cellOf h.cm.hp.cell 0, ← h.vv]; rfl
  have c2 : w.cell? ⟨s.c, 2, none⟩ = some (.map (some s.h)) := by rw [cellOf h.cm.hp.cell 2]; rfl
  have l1 := h.cm.hm.look_no h1 h2 (fun a ha e => hx (by have := h.blk a ha; omega))
  have cR := vRead_no x vs.v vs.commits vs.turn vs.next (some vs.f) vs.d.count vs.d w h.vi.vol h.vi.dev h.vi.n16 hx
  clear h
  go_enter Tryz.func90, Tryz.ntmps90
  go_wp2_with (go_at_call 109; refine Calls_on cR ?_)
  go_ret2
  exact ⟨rfl, rfl⟩

set_option maxRecDepth 8000 in
set_option maxHeartbeats 1000000 in
theorem meet_hit (s : CS) (vs : VS) (B : Nat → By) (a : Nat) (w : World) (h : CI w s vs B) (ha : a ∈ s.A) (hm : s.met < 1000000) :
    Calls Tryz.prog 90 #[ep s.c, .int .i64 ((s.U a).block : Nat)] w fun e w' => e = .returned (.tuple #[ep a, .int .i64 0]) ∧ CI w' { s with met := s.met + 1 } vs B ∧ But (cMine w s.h) w w' := by
  have c2 : w.cell? ⟨s.c, 2, none⟩ = some (.map (some s.h)) := by rw [cellOf h.cm.hp.cell 2]; rfl
  have c6 : w.cell? ⟨s.c, 6, none⟩ = some (.int .i64 (s.met : Nat)) := by rw [cellOf h.cm.hp.cell 6]; rfl
  have f6 := frozenOf h.cm.hp.cell 6
  have l1 := h.cm.hm.look_yes ha
  have mC : cMine w s.h s.c := h.cm.mineC
  obtain ⟨z, hz, e1⟩ : ∃ z : Int, ((s.met + 1 : Nat) : Int) = z ∧ ((s.met : Nat) : Int) + 1 = z := ⟨_, rfl, by omega⟩
  have hB : But (cMine w s.h) w (w.setCell ⟨s.c, 6, none⟩ (.int .i64 ((s.met + 1 : Nat) : Int))) := (But.refl (cMine w s.h) w).setCell _ mC _
  obtain ⟨hvi, hkeep⟩ := h.keep hB
  have HF : Hid (CI (w.setCell ⟨s.c, 6, none⟩ (.int .i64 ((s.met + 1 : Nat) : Int))) { s with met := s.met + 1 } vs B ∧ But (cMine w s.h) w (w.setCell ⟨s.c, 6, none⟩ (.int .i64 ((s.met + 1 : Nat) : Int)))) :=
    ⟨⟨h.cm.setMet _, hvi, h.vv, h.hf, h.hd, fun k hk => hkeep _ _ (h.dat k hk), fun _ h => h.elim, h.ord, h.idle, h.dirty, h.dnd, h.used, h.uinj, h.blk, h.clean, h.room⟩, hB⟩
  rw [hz] at HF
  clear hz h mC hB hvi hkeep
  go_enter Tryz.func90, Tryz.ntmps90
  go_wp2
  go_ret2
  exact ⟨rfl, HF.out.1, HF.out.2⟩

/-- What meet makes of a cache where it takes a new entry. -/
structure Mt (w w' : World) (s : CS) (vs : VS) (B : Nat → By) (block a : Nat) (s' : CS) (B' : Nat → By) : Prop where
  cx : CX (fun k => k = a) w' s' vs B'
  eq : ∃ F A1 I1 out1 p cp, s' = { s with nh := s.nh + 1, F := F, I := I1, A := A1 ++ [a], U := updU s.U a ⟨block, p, 512, cp, 0, false, 0⟩, out := out1, missed := s.missed + 1 } ∧
    ((s.A.length < s.room ∧ A1 = s.A ∧ I1 = s.I ∧ out1 = s.out) ∨ (s.room ≤ s.A.length ∧ ∃ o, o ∈ s.I ∧ (∀ b ∈ s.I, (s.U o).used ≤ (s.U b).used) ∧ A1 = s.A.filter (fun b => b != o) ∧ (∀ b, b ∈ I1 ↔ b ∈ s.I ∧ b ≠ o) ∧ out1 = s.out + 1))
  bytes : B' = fun k => if k = a then vs.cont block else B k
  new : w.heap.size ≤ a
  but : But (cMine w s.h) w w'
  lk : ∀ X : Nat → Prop, (∀ g, w.heap.size ≤ g → X g) → Lk s X → Lk s' X

set_option maxRecDepth 8000 in
set_option maxHeartbeats 2000000 in
theorem meet_miss (s : CS) (vs : VS) (B : Nat → By) (block b : Nat) (w : World) (h : CI w s vs B) (hz : CB s b) (hbz : b < 900000) (hb : block < nbOf vs.d.n) (hno : ∀ a ∈ s.A, (s.U a).block ≠ block) (hroom : s.A.length < s.room ∨ 0 < s.I.length) :
    Calls Tryz.prog 90 #[ep s.c, .int .i64 (block : Nat)] w fun e w' => ∃ a s' B', e = .returned (.tuple #[ep a, .int .i64 0]) ∧ Mt w w' s vs B block a s' B' := by
  have hnb := h.nb
  obtain ⟨z1, z2, z3, z4, z5⟩ := hz
  have c0 : w.cell? ⟨s.c, 0, none⟩ = some (dp vs.v) := by rw [cellOf h.cm.hp.cell 0, ← h.vv]; rfl
  have c2 : w.cell? ⟨s.c, 2, none⟩ = some (.map (some s.h)) := by rw [cellOf h.cm.hp.cell 2]; rfl
  have l1 := h.cm.hm.look_no (x := (block : Int)) (by omega) (by omega) (fun a ha e => hno a ha (by omega))
  have cR := vReadT_any block vs w h.vi hb
  have H0 : Hid (CI w s vs B ∧ (∀ a ∈ s.A, (s.U a).block ≠ block)) := ⟨h, hno⟩
  clear h hno
  go_enter Tryz.func90, Tryz.ntmps90
  go_wp2_with (first
    | (go_at_call 109; refine cR.mono ?_; rintro e w1 ⟨g, cp, rfl, hcp, hl, hb1, hB1, hg1, ht1⟩; clear cR; have cH := bhold_any s block w1 ((H0.out.1.below hB1).cm) (by omega) H0.out.2 H0.out.1.room.2.1 (H0.out.1.ord (fun _ h => h)) (by omega) (by omega) hroom; have H1 : Hid (512 ≤ cp ∧ (vs.cont block).length = 512 ∧ Bytes w1 (some ⟨g, 0, none⟩) (vs.cont block) ∧ Below w.heap.size w w1 ∧ (∃ cs fr, w1.heap[g]? = some (.cells cs 5 fr)) ∧ w.heap.size ≤ g) := ⟨hcp, hl, hb1, hB1, ht1, hg1⟩; clear hcp hl hb1 hB1 hg1 ht1)
    | (go_at_call 107; refine cH.mono ?_; rintro e w2 ⟨a, A1, I1, out1, F, rfl, hH⟩; clear cH; refine Stop.out ?_))
  refine Stop.mk ?_
  obtain ⟨hcp, hl, hb1, hB1, ht1, hg1⟩ := H1.out
  have h1 := H0.out.1.below hB1
  have ha2 : a ∈ A1 ++ [a] := by simp
  obtain ⟨x, hE⟩ := hH.cm.entAny ha2
  have hE' : IsEnt w2 a (newE block) x := by rw [show newE block = updU s.U a (newE block) a from (updU_same _ _ _).symm]; exact hE
  have d7 : w2.cell? ⟨s.c, 7, none⟩ = some (.int .i64 (s.missed : Nat)) := by rw [cellOf hH.cm.hp.cell 7]; rfl
  have f7 := frozenOf hH.cm.hp.cell 7
  have d1 : w2.cell? ⟨a, 1, none⟩ = some (.slice none 0 0) := by rw [cellOf hE' 1]; rfl
  have f1 := frozenOf hE' 1
  have ca : s.c ≠ a := apart_tags hH.cm.hp.cell hE' (by decide)
  have ca' := Ne.symm ca
  obtain ⟨z, hz, e1⟩ : ∃ z : Int, ((s.missed + 1 : Nat) : Int) = z ∧ ((s.missed : Nat) : Int) + 1 = z := ⟨_, rfl, by omega⟩
  have cm3 := hH.cm.setMissed (s.missed + 1)
  have cm4 := cm3.setE (a := a) ha2 1 (.slice (some ⟨g, 0, none⟩) 512 cp) ⟨block, some ⟨g, 0, none⟩, 512, cp, 0, false, 0⟩ (fun x => by show (entCells (updU s.U a (newE block) a) x).setIfInBounds 1 _ = _; rw [updU_same]; rfl) (by show block = (updU s.U a (newE block) a).block; rw [updU_same]; rfl) (by show 0 < 1000000000; omega)
  have eU : updU (updU s.U a (newE block)) a ⟨block, some ⟨g, 0, none⟩, 512, cp, 0, false, 0⟩ = updU s.U a ⟨block, some ⟨g, 0, none⟩, 512, cp, 0, false, 0⟩ := by
    funext k; unfold updU; split <;> rfl
  have cm5 : CM ((w2.setCell ⟨s.c, 7, none⟩ (.int .i64 ((s.missed + 1 : Nat) : Int))).setCell ⟨a, 1, none⟩ (.slice (some ⟨g, 0, none⟩) 512 cp)) { s with nh := s.nh + 1, F := F, I := I1, A := A1 ++ [a], U := updU s.U a ⟨block, some ⟨g, 0, none⟩, 512, cp, 0, false, 0⟩, out := out1, missed := s.missed + 1 } := by
    rw [← eU]; exact cm4
  have mC : cMine w2 s.h s.c := hH.cm.mineC
  have mE : cMine w2 s.h a := hH.cm.mineE ha2
  have hB5 : But (cMine w1 s.h) w1 ((w2.setCell ⟨s.c, 7, none⟩ (.int .i64 ((s.missed + 1 : Nat) : Int))).setCell ⟨a, 1, none⟩ (.slice (some ⟨g, 0, none⟩) 512 cp)) := cMine_trans hH.but (((But.refl (cMine w2 s.h) w2).setCell _ mC _).setCell _ mE _)
  have hdat : DatAt ((w2.setCell ⟨s.c, 7, none⟩ (.int .i64 ((s.missed + 1 : Nat) : Int))).setCell ⟨a, 1, none⟩ (.slice (some ⟨g, 0, none⟩) 512 cp)) ⟨block, some ⟨g, 0, none⟩, 512, cp, 0, false, 0⟩ (vs.cont block) :=
    (h1.keep hB5).2 _ _ ⟨rfl, hl, hcp, g, rfl, hb1, ht1⟩
  have cx := cx_new h1 hH hb ⟨block, some ⟨g, 0, none⟩, 512, cp, 0, false, 0⟩ (vs.cont block) (s.missed + 1) s.dcap s.D s.dq (s.nh + 1) cm5 hB5 rfl hdat (.inl ⟨rfl, rfl, rfl⟩)
  have bw : But (cMine w s.h) w w1 := But.of_below hB1
  have hlk : ∀ X : Nat → Prop, (∀ g, w.heap.size ≤ g → X g) → Lk s X → Lk { s with nh := s.nh + 1, F := F, I := I1, A := A1 ++ [a], U := updU s.U a ⟨block, some ⟨g, 0, none⟩, 512, cp, 0, false, 0⟩, out := out1, missed := s.missed + 1 } X := by
    intro X hX hs k hk g' o' f' hp
    have hp : (updU s.U a ⟨block, some ⟨g, 0, none⟩, 512, cp, 0, false, 0⟩ k).p = some ⟨g', o', f'⟩ := hp
    by_cases hka : k = a
    · rw [hka, updU_same] at hp
      cases hp
      exact hX _ hg1
    · rw [updU_other _ _ hka] at hp
      have hk : k ∈ A1 ++ [a] := hk
      rcases List.mem_append.1 hk with hk | hk
      · refine hs k ?_ g' o' f' hp
        rcases hH.ev with ⟨_, rfl, _⟩ | ⟨_, o, _, _, rfl, _⟩
        · exact hk
        · exact (List.mem_filter.1 hk).1
      · exact absurd (List.mem_singleton.1 hk) hka
  have HF : Hid (Mt w ((w2.setCell ⟨s.c, 7, none⟩ (.int .i64 ((s.missed + 1 : Nat) : Int))).setCell ⟨a, 1, none⟩ (.slice (some ⟨g, 0, none⟩) 512 cp)) s vs B block a { s with nh := s.nh + 1, F := F, I := I1, A := A1 ++ [a], U := updU s.U a ⟨block, some ⟨g, 0, none⟩, 512, cp, 0, false, 0⟩, out := out1, missed := s.missed + 1 } (fun k => if k = a then vs.cont block else B k)) :=
    ⟨cx, ⟨F, A1, I1, out1, _, _, rfl, hH.ev⟩, rfl, by have := hB1.size; have := hH.new; omega, cMine_trans bw hB5, hlk⟩
  rw [hz] at HF
  clear hz hcp hl hb1 hB1 ht1 hg1 hlk h1 ha2 hE hE' cm3 cm4 cm5 eU mC mE hB5 hdat cx bw hH H1 l1 c0 c2
  go_wp2
  go_ret2
  exact ⟨a, rfl, _, _, HF.out⟩

end Go.Proofs.YtebdgcoandfocaaGreatDoor

/-
  A cache as the document has it: a list of the blocks that are held (pure).
-/
namespace Go.Proofs.YtebdgcoandfocaaGreatDoor
open Go.RowKit


structure HE where
  block : Nat
  pins : Nat
  used : Nat
  dirty : Bool
  data : List (BitVec 8)

def HE.idle (x : HE) : Bool := x.pins == 0 && !x.dirty
/-- Of what is idle the least lately used one, as a search from the front finds it. -/
def better (o : Option HE) (x : HE) : Option HE :=
  if x.idle then (match o with | none => some x | some y => if x.used < y.used then some x else some y) else o
def victim (L : List HE) : Option HE := L.foldl better none

structure AC where
  room : Nat
  L : List HE
  time : Nat
  hit : Nat
  miss : Nat
  outs : Nat

def AC.held (A : AC) (b : Nat) : Bool := A.L.any (fun x => x.block == b)
def AC.full (A : AC) : Bool := decide (A.room ≤ A.L.length) && (victim A.L).isNone
def AC.evict (A : AC) : AC := if A.L.length < A.room then A else match victim A.L with
  | some o => { A with L := A.L.filter (fun x => x.block != o.block), outs := A.outs + 1 }
  | none => A
/-- A block is used. -/
def AC.touch (A : AC) (b : Nat) (f : HE → HE) : AC := { A with time := A.time + 1, L := A.L.map fun x => if x.block = b then f { x with used := A.time + 1 } else x }
def AC.add (A : AC) (b : Nat) (d : List (BitVec 8)) : AC := { A with L := A.L ++ [⟨b, 0, 0, false, d⟩] }
/-- A Get or a Pin of a block that may be held. -/
def AC.meet (A : AC) (b : Nat) (d : List (BitVec 8)) (f : HE → HE) : AC :=
  if A.held b then AC.touch { A with hit := A.hit + 1 } b f else AC.touch { A.evict.add b d with miss := A.miss + 1 } b f
def AC.dataOf (A : AC) (b : Nat) : List (BitVec 8) := ((A.L.find? fun x => x.block == b).map HE.data).getD []

theorem victim_fold (L : List HE) : ∀ (o : Option HE), (∀ y, L.foldl better o = some y → (o = some y ∨ (y ∈ L ∧ y.idle = true)) ∧ (∀ x ∈ L, x.idle = true → y.used ≤ x.used) ∧ ∀ z, o = some z → y.used ≤ z.used) ∧ (L.foldl better o = none → o = none ∧ ∀ x ∈ L, x.idle = false) := by
  induction L with
  | nil =>
    intro o
    exact ⟨fun y h => ⟨.inl h, (fun x hx => by cases hx), (fun z hz => by rw [List.foldl_nil, hz] at h; cases h; exact Nat.le_refl _)⟩, fun h => ⟨h, (fun x hx => by cases hx)⟩⟩
  | cons x L ih =>
    intro o
    obtain ⟨h1, h2⟩ := ih (better o x)
    refine ⟨fun y hy => ?_, fun hn => ?_⟩
    · obtain ⟨k1, k2, k3⟩ := h1 y hy
      have key : (better o x = some y → o = some y ∨ (y = x ∧ x.idle = true)) := by
        intro hb
        unfold better at hb
        split at hb
        · rename_i hi
          split at hb
          · cases hb; exact .inr ⟨rfl, hi⟩
          · split at hb
            · cases hb; exact .inr ⟨rfl, hi⟩
            · cases hb; exact .inl rfl
        · exact .inl hb
      have lex : x.idle = true → ∃ z, better o x = some z ∧ z.used ≤ x.used := by
        intro hi
        unfold better
        rw [if_pos hi]
        split
        · exact ⟨x, rfl, Nat.le_refl _⟩
        · rename_i z
          split
          · exact ⟨x, rfl, Nat.le_refl _⟩
          · exact ⟨z, rfl, by omega⟩
      have leo : ∀ z, o = some z → ∃ z', better o x = some z' ∧ z'.used ≤ z.used := by
        intro z hz
        subst hz
        unfold better
        split
        · simp only
          split
          · exact ⟨x, rfl, by omega⟩
          · exact ⟨z, rfl, Nat.le_refl _⟩
        · exact ⟨z, rfl, Nat.le_refl _⟩
      refine ⟨?_, fun x' hx' hi => ?_, fun z hz => ?_⟩
      · rcases k1 with k1 | ⟨k1, k1'⟩
        · rcases key k1 with e | ⟨rfl, e⟩
          · exact .inl e
          · exact .inr ⟨by simp, e⟩
        · exact .inr ⟨by simp [k1], k1'⟩
      · rcases List.mem_cons.1 hx' with rfl | hx'
        · obtain ⟨z, hz, hle⟩ := lex hi
          exact Nat.le_trans (k3 z hz) hle
        · exact k2 x' hx' hi
      · obtain ⟨z', hz', hle⟩ := leo z hz
        exact Nat.le_trans (k3 z' hz') hle
    · obtain ⟨k1, k2⟩ := h2 hn
      have : o = none ∧ x.idle = false := by
        unfold better at k1
        split at k1
        · split at k1
          · cases k1
          · split at k1 <;> cases k1
        · rename_i hi
          exact ⟨k1, by simpa using hi⟩
      refine ⟨this.1, fun x' hx' => ?_⟩
      rcases List.mem_cons.1 hx' with rfl | hx'
      · exact this.2
      · exact k2 x' hx'
theorem victim_none {L : List HE} (h : ∀ x ∈ L, x.idle = false) : victim L = none := by
  cases hv : victim L with
  | none => rfl
  | some y =>
    obtain ⟨h1, _⟩ := (victim_fold L none).1 y hv
    rcases h1 with h1 | ⟨h1, h2⟩
    · cases h1
    · rw [h y h1] at h2; cases h2
theorem victim_some {L : List HE} {o : HE} (ho : o ∈ L) (hi : o.idle = true) (hmin : ∀ x ∈ L, x.idle = true → o.used ≤ x.used) (hinj : ∀ x ∈ L, ∀ y ∈ L, x.used = y.used → x = y) : victim L = some o := by
  cases hv : victim L with
  | none =>
    have := ((victim_fold L none).2 hv).2 o ho
    rw [hi] at this; cases this
  | some y =>
    obtain ⟨h1, h2, _⟩ := (victim_fold L none).1 y hv
    rcases h1 with h1 | ⟨h1, h3⟩
    · cases h1
    · have := h2 o ho hi
      have := hmin y h1 h3
      rw [hinj y h1 o ho (by omega)]

end Go.Proofs.YtebdgcoandfocaaGreatDoor

/-
  A cache as the document has it: a list of the blocks that are held; what the program's cache is as such a list.
-/
namespace Go.Proofs.YtebdgcoandfocaaGreatDoor
open Go.RowKit Go.Maps Go.Sort Go.Shelf


/-- An entry, as the document has it. -/
def heOf (U : Nat → EV) (B : Nat → By) (a : Nat) : HE := ⟨(U a).block, (U a).pins, (U a).used, (U a).dirty, B a⟩
def acOf (s : CS) (B : Nat → By) : AC := ⟨s.room, s.A.map (heOf s.U B), s.uses, s.met, s.missed, s.out⟩
theorem heOf_idle (U : Nat → EV) (B : Nat → By) (a : Nat) : (heOf U B a).idle = idleE (U a) := rfl

theorem held_iff {s : CS} {B : Nat → By} {b : Nat} : (acOf s B).held b = true ↔ ∃ a ∈ s.A, (s.U a).block = b := by
  unfold AC.held acOf
  simp [heOf]
theorem held_not {s : CS} {B : Nat → By} {b : Nat} (h : (acOf s B).held b = false) : ∀ a ∈ s.A, (s.U a).block ≠ b := fun a ha e => by
  have : (acOf s B).held b = true := held_iff.2 ⟨a, ha, e⟩
  rw [h] at this; cases this

section
variable {w : World} {s : CS} {vs : VS} {B : Nat → By}
theorem CX.full_iff (h : CI w s vs B) : (acOf s B).full = true ↔ s.room ≤ s.A.length ∧ s.I = [] := by
  unfold AC.full
  rw [Bool.and_eq_true, decide_eq_true_iff]
  have e1 : (acOf s B).L.length = s.A.length := by simp [acOf]
  rw [e1]
  refine and_congr Iff.rfl ⟨fun hv => ?_, fun hI => ?_⟩
  · have hv' : victim (acOf s B).L = none := by
      cases hx : victim (acOf s B).L with
      | none => rfl
      | some y => rw [hx] at hv; cases hv
    have := ((victim_fold _ none).2 hv').2
    refine List.eq_nil_iff_forall_not_mem.2 fun a ha => ?_
    obtain ⟨h1, h2⟩ := (h.idle a (fun h => h)).1 ha
    have := this (heOf s.U B a) (List.mem_map.2 ⟨a, h1, rfl⟩)
    rw [heOf_idle, h2] at this
    cases this
  · have : victim (acOf s B).L = none := victim_none fun x hx => by
      obtain ⟨a, ha, rfl⟩ := List.mem_map.1 hx
      rw [heOf_idle]
      cases hi : idleE (s.U a) with
      | false => rfl
      | true =>
        have := (h.idle a (fun h => h)).2 ⟨ha, hi⟩
        rw [hI] at this; cases this
    rw [this]; rfl
/-- What the heap's first one is. -/
theorem CX.victim (h : CI w s vs B) {o : Nat} (ho : o ∈ s.I) (hmin : ∀ b ∈ s.I, (s.U o).used ≤ (s.U b).used) : victim (acOf s B).L = some (heOf s.U B o) := by
  obtain ⟨h1, h2⟩ := (h.idle o (fun h => h)).1 ho
  refine victim_some (List.mem_map.2 ⟨o, h1, rfl⟩) h2 (fun x hx hi => ?_) (fun x hx y hy e => ?_)
  · obtain ⟨a, ha, rfl⟩ := List.mem_map.1 hx
    exact hmin a ((h.idle a (fun h => h)).2 ⟨ha, hi⟩)
  · obtain ⟨a, ha, rfl⟩ := List.mem_map.1 hx
    obtain ⟨b, hb, rfl⟩ := List.mem_map.1 hy
    rw [h.uinj a ha b hb (fun h => h) (fun h => h) e]
/-- What is left behind a taking out. -/
theorem CX.filtered (h : CI w s vs B) {o : Nat} (ho : o ∈ s.A) : (s.A.filter (fun b => b != o)).map (heOf s.U B) = (acOf s B).L.filter (fun x => x.block != (s.U o).block) := by
  show _ = (s.A.map (heOf s.U B)).filter _
  rw [List.filter_map]
  congr 1
  refine List.filter_congr fun a ha => ?_
  show (a != o) = ((s.U a).block != (s.U o).block)
  by_cases e : a = o
  · rw [e, bne_self_eq_false, bne_self_eq_false]
  · have h2 : (s.U a).block ≠ (s.U o).block := fun e' => e (h.cm.hm.inj a ha o ho e')
    rw [bne_iff_ne.2 e, bne_iff_ne.2 h2]
/-- One entry is turned. -/
theorem touched_abs (cm : CM w s) {a : Nat} (ha : a ∈ s.A) (e : EV) (b : By) (f : HE → HE) (hf : f (heOf s.U B a) = ⟨e.block, e.pins, e.used, e.dirty, b⟩) : s.A.map (heOf (updU s.U a e) (fun k => if k = a then b else B k)) = (acOf s B).L.map fun x => if x.block = (s.U a).block then f x else x := by
  show _ = (s.A.map (heOf s.U B)).map _
  rw [List.map_map]
  refine List.map_congr_left fun k hk => ?_
  show heOf (updU s.U a e) (fun k => if k = a then b else B k) k = if (s.U k).block = (s.U a).block then f (heOf s.U B k) else heOf s.U B k
  by_cases e' : k = a
  · subst e'
    rw [if_pos rfl, hf]
    unfold heOf
    simp [updU_same]
  · have : (s.U k).block ≠ (s.U a).block := fun e'' => e' (cm.hm.inj k hk a ha e'')
    rw [if_neg this]
    unfold heOf
    simp [updU_other _ _ e', e']
end

end Go.Proofs.YtebdgcoandfocaaGreatDoor

/-
  use over a cache and its volume; Get and Pin of package bcache.
-/
namespace Go.Proofs.YtebdgcoandfocaaGreatDoor
open Go.RowKit Go.Maps Go.Sort Go.Shelf

section
variable {w w' : World} {s : CS} {vs : VS} {B : Nat → By} {a : Nat}
theorem CX.weak (h : CI w s vs B) (a : Nat) : CX (fun k => k = a) w s vs B :=
  ⟨h.cm, h.vi, h.vv, h.hf, h.hd, h.dat, fun _ _ => hx_of_ord (h.ord fun _ h => h), fun _ => h.ord fun _ h => h, fun b _ => h.idle b (fun h => h), h.dirty, h.dnd, fun b hb _ => h.used b hb (fun h => h), fun b hb c hc _ _ => h.uinj b hb c hc (fun h => h) (fun h => h), h.blk, h.clean, h.room⟩
theorem len_sub : ∀ {I A : List Nat}, I.Nodup → (∀ a ∈ I, a ∈ A) → I.length ≤ A.length
  | [], _, _, _ => Nat.zero_le _
  | a :: I, A, hn, hs => by
    have ha := hs a (by simp)
    have h1 := len_sub (I := I) (A := A.erase a) (List.nodup_cons.1 hn).2 (fun b hb => by
      have hne : b ≠ a := fun e => (List.nodup_cons.1 hn).1 (e ▸ hb)
      exact (List.mem_erase_of_ne hne).2 (hs b (by simp [hb])))
    rw [List.length_erase_of_mem ha] at h1
    have := List.length_pos_of_mem ha
    simp only [List.length_cons]
    omega
theorem CX.ilen {ex : Nat → Prop} (h : CX ex w s vs B) : s.I.length ≤ 4096 := by
  have := len_sub h.cm.hp.nodup h.cm.sub
  have := h.room.2.1
  have := h.room.2.2
  omega

/-- An entry is turned: all holds but for its rank. -/
theorem cx_setE (h : CX (fun k => k = a) w s vs B) (e : EV) (b : By) (D' : List Nat) (dq : Option Addr) (dcap : Nat) (cm : CM w' { s with U := updU s.U a e, D := D', dq := dq, dcap := dcap }) (hB : But (cMine w s.h) w w') (ha : a ∈ s.A)
    (heb : e.block = (s.U a).block) (hdat : DatAt w' e b) (hD : (e.dirty = (s.U a).dirty ∧ D' = s.D) ∨ (e.dirty = true ∧ (s.U a).dirty = false ∧ D' = s.D ++ [a])) (hcl : e.dirty = false → b = B a) :
    CX (fun k => k = a) w' { s with U := updU s.U a e, D := D', dq := dq, dcap := dcap } vs (fun k => if k = a then b else B k) := by
  obtain ⟨hvi, hkeep⟩ := h.keep hB
  have U1 : ∀ k, k ≠ a → updU s.U a e k = s.U k := fun k hk => updU_other _ _ hk
  refine ⟨cm, hvi, h.vv, h.hf, h.hd, fun k hk => ?_, fun k hk => ?_, fun hall => absurd rfl (hall a), fun k hk => ?_, fun k => ?_, ?_, fun k hk hka => ?_, fun k hk k' hk' hka hka' e' => ?_, fun k hk => ?_, fun k hk hdk => ?_, h.room⟩
  · show DatAt w' (updU s.U a e k) (if k = a then b else B k)
    by_cases e' : k = a
    · subst e'; rw [updU_same, if_pos rfl]; exact hdat
    · rw [U1 k e', if_neg e']; exact hkeep _ _ (h.dat k hk)
  · have e' : k = a := hk
    rw [e']
    have := hx_upd h.cm.hp.nodup (h.hx a rfl) e
    exact ⟨this.1, this.2⟩
  · show k ∈ s.I ↔ k ∈ s.A ∧ idleE (updU s.U a e k) = true
    rw [U1 k hk]; exact h.idle k hk
  · show k ∈ D' ↔ k ∈ s.A ∧ (updU s.U a e k).dirty = true
    by_cases e' : k = a
    · subst e'
      rw [updU_same]
      rcases hD with ⟨h1, h2⟩ | ⟨h1, _, h2⟩
      · rw [h1, h2]; exact h.dirty k
      · rw [h1, h2]; simp [ha]
    · rw [U1 k e']
      rcases hD with ⟨_, h2⟩ | ⟨_, _, h2⟩
      · rw [h2]; exact h.dirty k
      · rw [h2, List.mem_append, List.mem_singleton, ← h.dirty k]
        exact ⟨fun h => h.resolve_right e', .inl⟩
  · show D'.Nodup
    rcases hD with ⟨_, h2⟩ | ⟨_, h3, h2⟩
    · rw [h2]; exact h.dnd
    · have haD : a ∉ s.D := fun hd => by have := ((h.dirty a).1 hd).2; rw [h3] at this; cases this
      rw [h2, List.nodup_append]
      exact ⟨h.dnd, by simp, fun x hx y hy => by rw [List.mem_singleton.1 hy]; exact fun e => haD (e ▸ hx)⟩
  · show (updU s.U a e k).used ≤ s.uses
    rw [U1 k hka]; exact h.used k hk hka
  · have e2 : (updU s.U a e k).used = (updU s.U a e k').used := e'
    rw [U1 k hka, U1 k' hka'] at e2
    exact h.uinj k hk k' hk' hka hka' e2
  · show (updU s.U a e k).block < _
    by_cases e' : k = a
    · rw [e', updU_same, heb]; exact h.blk a ha
    · rw [U1 k e']; exact h.blk k hk
  · show (if k = a then b else B k) = vs.cont (updU s.U a e k).block
    have hdk' : (updU s.U a e k).dirty = false := hdk
    by_cases e' : k = a
    · subst e'
      rw [updU_same] at hdk' ⊢
      rw [if_pos rfl, heb, hcl hdk']
      refine h.clean k hk ?_
      rcases hD with ⟨h1, _⟩ | ⟨_, h1, _⟩
      · rw [← h1]; exact hdk'
      · exact h1
    · rw [U1 k e'] at hdk' ⊢
      rw [if_neg e']
      exact h.clean k hk hdk'

/-- Behind use all holds. -/
theorem cx_used {s' : CS} (h : CX (fun k => k = a) w s vs B) (ha : a ∈ s.A) (hu : Us w w' s s' a) : CI w' s' vs B := by
  obtain ⟨hvi, hkeep⟩ := h.keep hu.but
  obtain ⟨ip, icap, I', rfl⟩ := hu.eq
  have U1 : ∀ k, k ≠ a → updU s.U a { s.U a with used := s.uses + 1 } k = s.U k := fun k hk => updU_other _ _ hk
  have Ua : updU s.U a { s.U a with used := s.uses + 1 } a = { s.U a with used := s.uses + 1 } := updU_same _ _ _
  have hdir : ∀ k, (updU s.U a { s.U a with used := s.uses + 1 } k).dirty = (s.U k).dirty := fun k => by
    by_cases e : k = a
    · rw [e, Ua]
    · rw [U1 k e]
  have hblk : ∀ k, (updU s.U a { s.U a with used := s.uses + 1 } k).block = (s.U k).block := fun k => by
    by_cases e : k = a
    · rw [e, Ua]
    · rw [U1 k e]
  refine ⟨hu.cm, hvi, h.vv, h.hf, h.hd, fun k hk => ?_, fun _ h => h.elim, fun _ => hu.ord, fun k _ => ?_, fun k => ?_, h.dnd, fun k hk _ => ?_, fun k hk k' hk' _ _ e' => ?_, fun k hk => ?_, fun k hk hdk => ?_, h.room⟩
  · show DatAt w' (updU s.U a { s.U a with used := s.uses + 1 } k) (B k)
    by_cases e : k = a
    · rw [e, Ua]
      have := hkeep _ _ (h.dat a ha)
      exact this
    · rw [U1 k e]; exact hkeep _ _ (h.dat k hk)
  · show k ∈ I' ↔ k ∈ s.A ∧ idleE (updU s.U a { s.U a with used := s.uses + 1 } k) = true
    rw [show (k ∈ I' ↔ _) from hu.mem k]
    by_cases e : k = a
    · subst e
      rw [Ua]
      constructor
      · rintro (⟨_, h1⟩ | ⟨_, h1⟩)
        · exact absurd rfl h1
        · exact ⟨ha, h1⟩
      · rintro ⟨_, h1⟩; exact .inr ⟨rfl, h1⟩
    · rw [U1 k e, ← h.idle k e]
      constructor
      · rintro (⟨h1, _⟩ | ⟨h1, _⟩)
        · exact h1
        · exact absurd h1 e
      · intro h1; exact .inl ⟨h1, e⟩
  · show k ∈ s.D ↔ k ∈ s.A ∧ (updU s.U a { s.U a with used := s.uses + 1 } k).dirty = true
    rw [hdir]; exact h.dirty k
  · show (updU s.U a { s.U a with used := s.uses + 1 } k).used ≤ s.uses + 1
    by_cases e : k = a
    · rw [e, Ua]; exact Nat.le_refl _
    · rw [U1 k e]; exact Nat.le_trans (h.used k hk e) (Nat.le_succ _)
  · have e2 : (updU s.U a { s.U a with used := s.uses + 1 } k).used = (updU s.U a { s.U a with used := s.uses + 1 } k').used := e'
    by_cases e : k = a
    · by_cases e3 : k' = a
      · rw [e, e3]
      · rw [e, Ua, U1 k' e3] at e2
        have := h.used k' hk' e3
        have e4 : s.uses + 1 = (s.U k').used := e2
        omega
    · by_cases e3 : k' = a
      · rw [e3, Ua, U1 k e] at e2
        have := h.used k hk e
        have e4 : (s.U k).used = s.uses + 1 := e2
        omega
      · rw [U1 k e, U1 k' e3] at e2
        exact h.uinj k hk k' hk' e e3 e2
  · show (updU s.U a { s.U a with used := s.uses + 1 } k).block < _
    rw [hblk]; exact h.blk k hk
  · show B k = vs.cont (updU s.U a { s.U a with used := s.uses + 1 } k).block
    have hdk' : (updU s.U a { s.U a with used := s.uses + 1 } k).dirty = false := hdk
    rw [hdir] at hdk'
    rw [hblk]; exact h.clean k hk hdk'
theorem acOf_used {s' : CS} (cm : CM w s) (ha : a ∈ s.A) (hu : Us w w' s s' a) : acOf s' B = (acOf s B).touch (s.U a).block id := by
  obtain ⟨ip, icap, I', rfl⟩ := hu.eq
  have := touched_abs (B := B) cm ha { s.U a with used := s.uses + 1 } (B a) (fun x => { x with used := s.uses + 1 }) rfl
  have eB : (fun k => if k = a then B a else B k) = B := by funext k; split <;> simp_all
  rw [eB] at this
  unfold acOf AC.touch
  congr 1
theorem use_cx (h : CX (fun k => k = a) w s vs B) (ha : a ∈ s.A) {b : Nat} (hz : CB s b) (hb : b < 900000) :
    Calls Tryz.prog 91 #[ep s.c, ep a] w fun e w' => e = .returned (.tuple #[]) ∧ ∃ s', CI w' s' vs B ∧ Us w w' s s' a ∧ acOf s' B = (acOf s B).touch (s.U a).block id := by
  have hl := h.ilen
  have := hz.uses
  refine (use_any s a w h.cm ha (h.hx a rfl) (by omega) (by omega)).mono ?_
  rintro e w' ⟨rfl, s', hu⟩
  exact ⟨rfl, s', cx_used h ha hu, hu, acOf_used h.cm ha hu⟩
end

/-- Behind meet: the block's entry, held but for its rank. -/
structure Mx (w w' : World) (s s' : CS) (vs : VS) (B B' : Nat → By) (block a b : Nat) : Prop where
  cx : CX (fun k => k = a) w' s' vs B'
  inA : a ∈ s'.A
  blk : (s'.U a).block = block
  ac : acOf s' B' = if (acOf s B).held block then { acOf s B with hit := s.met + 1 } else { (acOf s B).evict.add block (vs.cont block) with miss := s.missed + 1 }
  cb : CB s' (b + 1) ∧ s'.uses = s.uses
  c : s'.c = s.c
  h : s'.h = s.h
  but : But (cMine w s.h) w w'
  lk : ∀ X : Nat → Prop, (∀ g, w.heap.size ≤ g → X g) → Lk s X → Lk s' X

theorem not_full {w : World} {s : CS} {vs : VS} {B : Nat → By} (h : CI w s vs B) (hf : (acOf s B).full = false) : s.A.length < s.room ∨ 0 < s.I.length := by
  by_cases hlt : s.A.length < s.room
  · exact .inl hlt
  · right
    apply Classical.byContradiction
    intro hI
    have : (acOf s B).full = true := h.full_iff.2 ⟨by omega, List.eq_nil_of_length_eq_zero (by omega)⟩
    rw [hf] at this; cases this

theorem evict_abs {w : World} {s : CS} {vs : VS} {B : Nat → By} (h : CI w s vs B) {A1 I1 : List Nat} {out1 : Nat}
    (hev : (s.A.length < s.room ∧ A1 = s.A ∧ I1 = s.I ∧ out1 = s.out) ∨ (s.room ≤ s.A.length ∧ ∃ o, o ∈ s.I ∧ (∀ b ∈ s.I, (s.U o).used ≤ (s.U b).used) ∧ A1 = s.A.filter (fun b => b != o) ∧ (∀ b, b ∈ I1 ↔ b ∈ s.I ∧ b ≠ o) ∧ out1 = s.out + 1)) :
    (acOf s B).evict = { acOf s B with L := A1.map (heOf s.U B), outs := out1 } := by
  have e1 : (acOf s B).L.length = s.A.length := by simp [acOf]
  have e2 : (acOf s B).room = s.room := rfl
  unfold AC.evict
  rw [e1, e2]
  rcases hev with ⟨hlt, rfl, _, rfl⟩ | ⟨hge, o, ho, hmin, rfl, _, rfl⟩
  · rw [if_pos hlt]; rfl
  · rw [if_neg (by omega), h.victim ho hmin]
    show ({ acOf s B with L := (acOf s B).L.filter (fun x => x.block != (s.U o).block), outs := _ } : AC) = _
    rw [h.filtered (h.cm.sub o ho)]
    rfl

theorem meet_ok (s : CS) (vs : VS) (B : Nat → By) (block b : Nat) (w : World) (h : CI w s vs B) (hz : CB s b) (hbz : b < 900000) (hb : block < nbOf vs.d.n) (hok : (acOf s B).held block = true ∨ (acOf s B).full = false) :
    Calls Tryz.prog 90 #[ep s.c, .int .i64 (block : Nat)] w fun e w' => ∃ a s' B', e = .returned (.tuple #[ep a, .int .i64 0]) ∧ Mx w w' s s' vs B B' block a b := by
  cases hh : (acOf s B).held block with
  | true =>
    obtain ⟨a, ha, rfl⟩ := held_iff.1 hh
    have := hz.met
    refine (meet_hit s vs B a w h ha (by omega)).mono ?_
    rintro e w' ⟨rfl, hI, hB⟩
    refine ⟨a, _, B, rfl, hI.weak a, ha, rfl, ?_, ⟨⟨?_, ?_, ?_, ?_, ?_⟩, rfl⟩, rfl, rfl, hB, fun X _ h => h⟩
    · rw [hh]; rfl
    · have := hz.nh; show s.nh ≤ _; omega
    · have := hz.uses; show s.uses ≤ _; omega
    · show s.met + 1 ≤ _; omega
    · have := hz.missed; show s.missed ≤ _; omega
    · have := hz.out; show s.out ≤ _; omega
  | false =>
    have hf : (acOf s B).full = false := by
      rcases hok with h1 | h1
      · rw [hh] at h1; cases h1
      · exact h1
    refine (meet_miss s vs B block b w h hz hbz hb (held_not hh) (not_full h hf)).mono ?_
    rintro e w' ⟨a, s', B', rfl, hM⟩
    obtain ⟨F, A1, I1, out1, p, cp, rfl, hev⟩ := hM.eq
    have hcx := hM.cx
    have hbB := hM.bytes
    subst hbB
    refine ⟨a, _, _, rfl, hcx, by simp, ?_, ?_, ⟨⟨?_, ?_, ?_, ?_, ?_⟩, rfl⟩, rfl, rfl, hM.but, hM.lk⟩
    · show (updU s.U a _ a).block = block
      rw [updU_same]
    · rw [hh, if_neg (by simp), evict_abs h hev]
      have hA1 : ∀ k ∈ A1, k ≠ a := fun k hk e => by
        have hks : k ∈ s.A := by
          rcases hev with ⟨_, rfl, _⟩ | ⟨_, o, _, _, rfl, _⟩
          · exact hk
          · exact (List.mem_filter.1 hk).1
        have := h.cm.alt hks
        have := hM.new
        omega
      have e1 : A1.map (heOf (updU s.U a ⟨block, p, 512, cp, 0, false, 0⟩) (fun k => if k = a then vs.cont block else B k)) = A1.map (heOf s.U B) := List.map_congr_left fun k hk => by
        unfold heOf
        simp [updU_other _ _ (hA1 k hk), hA1 k hk]
      unfold acOf AC.add
      simp only [List.map_append, List.map_cons, List.map_nil, e1]
      congr 2
      unfold heOf
      simp [updU_same]
    · have := hz.nh; show s.nh + 1 ≤ _; omega
    · have := hz.uses; show s.uses ≤ _; omega
    · have := hz.met; show s.met ≤ _; omega
    · have := hz.missed; show s.missed + 1 ≤ _; omega
    · have := hz.out
      show out1 ≤ _
      rcases hev with ⟨_, _, _, rfl⟩ | ⟨_, o, _, _, _, _, rfl⟩ <;> omega

/-- A step of a cache. -/
structure Cst (w w' : World) (s s' : CS) (vs : VS) (B' : Nat → By) (b : Nat) : Prop where
  ci : CI w' s' vs B'
  cb : CB s' (b + 1)
  c : s'.c = s.c
  h : s'.h = s.h
  but : But (cMine w s.h) w w'

theorem dataOf_ent {w : World} {s : CS} {B : Nat → By} (cm : CM w s) {a : Nat} (ha : a ∈ s.A) : (acOf s B).dataOf (s.U a).block = B a := by
  unfold AC.dataOf
  show (((s.A.map (heOf s.U B)).find? fun x => x.block == (s.U a).block).map HE.data).getD [] = B a
  have : (s.A.map (heOf s.U B)).find? (fun x => x.block == (s.U a).block) = some (heOf s.U B a) := by
    rw [List.find?_map]
    have hf : s.A.find? ((fun x : HE => x.block == (s.U a).block) ∘ heOf s.U B) = some a := by
      cases hx : s.A.find? ((fun x : HE => x.block == (s.U a).block) ∘ heOf s.U B) with
      | none =>
        have := List.find?_eq_none.1 hx a ha
        simp [heOf] at this
      | some c =>
        have h1 := List.mem_of_find?_eq_some hx
        have h2 := List.find?_some hx
        have h3 : (s.U c).block = (s.U a).block := by simpa [heOf] using h2
        rw [cm.hm.inj c h1 a ha h3]
    rw [hf]; rfl
  rw [this]; rfl

set_option maxRecDepth 8000 in
set_option maxHeartbeats 1000000 in
theorem get_out (s : CS) (vs : VS) (B : Nat → By) (x : Int) (w : World) (h : CI w s vs B) (h1 : -9223372036854775808 ≤ x) (h2 : x < 9223372036854775808) (hx : ¬ (0 ≤ x ∧ x < nbOf vs.d.n)) :
    Calls Tryz.prog 68 #[ep s.c, .int .i64 x] w fun e w' => e = .returned (.tuple #[.slice none 0 0, .int .i64 22]) ∧ w' = w := by
  have cM := meet_out s vs B x w h h1 h2 hx
  clear h
  go_enter Tryz.func68, Tryz.ntmps68
  go_wp2_with (go_at_call 90; refine Calls_on cM ?_)
  go_ret2
  exact ⟨rfl, rfl⟩
end Go.Proofs.YtebdgcoandfocaaGreatDoor

/-
  Pin, Unpin, Has, Counts of package bcache.
-/
namespace Go.Proofs.YtebdgcoandfocaaGreatDoor
open Go.RowKit Go.Maps Go.Sort Go.Shelf

theorem touch_two (A : AC) (b : Nat) (f : HE → HE) (hf : ∀ x : HE, (f x).block = x.block ∧ ∀ t, ({ f x with used := t } : HE) = f { x with used := t }) : AC.touch { A with L := A.L.map fun x => if x.block = b then f x else x } b id = A.touch b f := by
  unfold AC.touch
  simp only [List.map_map]
  congr 1
  refine List.map_congr_left fun x _ => ?_
  show (if (if x.block = b then f x else x).block = b then id { (if x.block = b then f x else x) with used := A.time + 1 } else (if x.block = b then f x else x)) = if x.block = b then f { x with used := A.time + 1 } else x
  by_cases e : x.block = b
  · simp only [if_pos e]
    rw [if_pos (by rw [(hf x).1]; exact e)]
    exact (hf x).2 _
  · simp only [if_neg e]

set_option maxRecDepth 8000 in
set_option maxHeartbeats 1000000 in
theorem pin_ok (s : CS) (vs : VS) (B : Nat → By) (block b : Nat) (w : World) (h : CI w s vs B) (hz : CB s b) (hbz : b < 800000) (hb : block < nbOf vs.d.n) (hok : (acOf s B).held block = true ∨ (acOf s B).full = false) (hpin : ∀ a ∈ s.A, (s.U a).pins < 1000000) :
    Calls Tryz.prog 85 #[ep s.c, .int .i64 (block : Nat)] w fun e w' => e = .returned (.int .i64 0) ∧ ∃ s' B', Cst w w' s s' vs B' b ∧ acOf s' B' = (acOf s B).meet block (vs.cont block) (fun x => { x with pins := x.pins + 1 }) := by
  have cM := meet_ok s vs B block b w h hz (by omega) hb hok
  have hpinA : Hid (∀ x ∈ (acOf s B).L, x.pins < 1000000) := fun x hx => by
    obtain ⟨a, ha, rfl⟩ := List.mem_map.1 hx
    exact hpin a ha
  clear h hpin
  go_enter Tryz.func85, Tryz.ntmps85
  go_wp2_with (go_at_call 90; refine cM.mono ?_; rintro e w1 ⟨a, s1, B1, rfl, hM⟩; clear cM; refine Stop.out ?_)
  refine Stop.mk ?_
  obtain ⟨x, hE⟩ := hM.cx.cm.entAny hM.inA
  have hps : (s1.U a).pins < 1000000 := by
    have h1 : heOf s1.U B1 a ∈ (acOf s1 B1).L := List.mem_map.2 ⟨a, hM.inA, rfl⟩
    rw [hM.ac] at h1
    split at h1
    · exact hpinA.out _ h1
    · rcases List.mem_append.1 (show heOf s1.U B1 a ∈ (acOf s B).evict.L ++ [_] from h1) with h1 | h1
      · refine hpinA.out (heOf s1.U B1 a) ?_
        revert h1
        unfold AC.evict
        split
        · exact id
        · split
          · intro h1; exact (List.mem_filter.1 h1).1
          · exact id
      · have : (heOf s1.U B1 a).pins = 0 := by rw [List.mem_singleton.1 h1]
        have e2 : (s1.U a).pins = 0 := this
        omega
  have d2 : w1.cell? ⟨a, 2, none⟩ = some (.int .i64 ((s1.U a).pins : Nat)) := by rw [cellOf hE 2]; rfl
  have f2 := frozenOf hE 2
  obtain ⟨z, hzz, e1⟩ : ∃ z : Int, (((s1.U a).pins + 1 : Nat) : Int) = z ∧ (((s1.U a).pins : Nat) : Int) + 1 = z := ⟨_, rfl, by omega⟩
  have cm2 := hM.cx.cm.setE hM.inA 2 (.int .i64 (((s1.U a).pins + 1 : Nat) : Int)) { s1.U a with pins := (s1.U a).pins + 1 } (fun _ => rfl) rfl (hM.cx.cm.hp.used a)
  have mE : cMine w1 s1.h a := hM.cx.cm.mineE hM.inA
  have hB2 : But (cMine w1 s1.h) w1 (w1.setCell ⟨a, 2, none⟩ (.int .i64 (((s1.U a).pins + 1 : Nat) : Int))) := (But.refl (cMine w1 s1.h) w1).setCell _ mE _
  have hdat := (hM.cx.keep hB2).2 _ _ (hM.cx.dat a hM.inA)
  have cx2 := cx_setE hM.cx { s1.U a with pins := (s1.U a).pins + 1 } (B1 a) s1.D s1.dq s1.dcap cm2 hB2 hM.inA rfl hdat (.inl ⟨rfl, rfl⟩) (fun _ => rfl)
  have eB : (fun k => if k = a then B1 a else B1 k) = B1 := by funext k; split <;> simp_all
  have htab := touched_abs (B := B1) hM.cx.cm hM.inA { s1.U a with pins := (s1.U a).pins + 1 } (B1 a) (fun x => { x with pins := x.pins + 1 }) rfl
  rw [eB] at cx2 htab
  have hcb2 : CB { s1 with U := updU s1.U a { s1.U a with pins := (s1.U a).pins + 1 } } (b + 1) := ⟨hM.cb.1.nh, hM.cb.1.uses, hM.cb.1.met, hM.cb.1.missed, hM.cb.1.out⟩
  have cU := use_cx cx2 hM.inA hcb2 (by omega)
  have hc1 : ({ s1 with U := updU s1.U a { s1.U a with pins := (s1.U a).pins + 1 } } : CS).c = s.c := hM.c
  rw [hc1] at cU
  have H1 : Hid (Mx w w1 s s1 vs B B1 block a b ∧ But (cMine w1 s1.h) w1 (w1.setCell ⟨a, 2, none⟩ (.int .i64 (((s1.U a).pins + 1 : Nat) : Int))) ∧ s1.A.map (heOf (updU s1.U a { s1.U a with pins := (s1.U a).pins + 1 }) B1) = (acOf s1 B1).L.map fun x => if x.block = (s1.U a).block then { x with pins := x.pins + 1 } else x) := ⟨hM, hB2, htab⟩
  rw [hzz] at cU H1
  clear hzz hE cm2 mE hB2 hdat cx2 eB htab hcb2 hc1 hM
  go_wp2_with (go_at_call 91; refine cU.mono ?_; rintro e w2 ⟨rfl, s2, hI2, hU2, hac2⟩; clear cU)
  go_ret
  obtain ⟨hM, hB2, htab⟩ := H1.out
  obtain ⟨ip, icap, I', he2⟩ := hU2.eq
  have hB3 : But (cMine w s.h) w w2 := by
    refine cMine_trans hM.but ?_
    rw [← hM.h]
    exact cMine_trans hB2 hU2.but
  refine ⟨rfl, s2, B1, ⟨hI2, ?_, by rw [he2], by rw [he2]; exact hM.h, hB3⟩, ?_⟩
  · obtain ⟨⟨q1, q2, q3, q4, q5⟩, q6⟩ := hM.cb
    have := hz.uses
    rw [he2]
    exact ⟨q1, by show s1.uses + 1 ≤ _; omega, q3, q4, q5⟩
  · rw [hac2]
    have hb1 : (updU s1.U a { s1.U a with pins := (s1.U a).pins + 1 } a).block = block := by rw [updU_same]; exact hM.blk
    show AC.touch (acOf { s1 with U := updU s1.U a { s1.U a with pins := (s1.U a).pins + 1 } } B1) (updU s1.U a _ a).block id = _
    rw [hb1]
    have e3 : acOf { s1 with U := updU s1.U a { s1.U a with pins := (s1.U a).pins + 1 } } B1 = { acOf s1 B1 with L := (acOf s1 B1).L.map fun x => if x.block = block then { x with pins := x.pins + 1 } else x } := by
      unfold acOf
      simp only
      rw [htab, hM.blk]
      rfl
    rw [e3, touch_two _ _ (fun x : HE => { x with pins := x.pins + 1 }) (fun x => ⟨rfl, fun _ => rfl⟩), hM.ac]
    unfold AC.meet
    split <;> rfl

/-- Behind rank all holds. -/
theorem cx_ranked {w w' : World} {s s' : CS} {vs : VS} {B : Nat → By} {a : Nat} (h : CX (fun k => k = a) w s vs B) (ha : a ∈ s.A) (hu : (s.U a).used ≤ s.uses) (hj : ∀ b ∈ s.A, b ≠ a → (s.U b).used ≠ (s.U a).used) (hr : Rk w w' s s' a) : CI w' s' vs B ∧ acOf s' B = acOf s B := by
  obtain ⟨hvi, hkeep⟩ := h.keep hr.but
  obtain ⟨ip, icap, I', rfl⟩ := hr.eq
  refine ⟨⟨hr.cm, hvi, h.vv, h.hf, h.hd, fun k hk => hkeep _ _ (h.dat k hk), fun _ h => h.elim, fun _ => hr.ord, fun k _ => ?_, h.dirty, h.dnd, fun k hk _ => ?_, fun k hk k' hk' _ _ e' => ?_, h.blk, h.clean, h.room⟩, rfl⟩
  · show k ∈ I' ↔ k ∈ s.A ∧ idleE (s.U k) = true
    rw [show (k ∈ I' ↔ _) from hr.mem k]
    by_cases e : k = a
    · subst e
      constructor
      · rintro (⟨_, h1⟩ | ⟨_, h1⟩)
        · exact absurd rfl h1
        · exact ⟨ha, h1⟩
      · rintro ⟨_, h1⟩; exact .inr ⟨rfl, h1⟩
    · rw [← h.idle k e]
      constructor
      · rintro (⟨h1, _⟩ | ⟨h1, _⟩)
        · exact h1
        · exact absurd h1 e
      · intro h1; exact .inl ⟨h1, e⟩
  · by_cases e : k = a
    · rw [e]; exact hu
    · exact h.used k hk e
  · by_cases e : k = a
    · by_cases e3 : k' = a
      · rw [e, e3]
      · subst e; exact absurd (show (s.U k').used = (s.U k).used from e'.symm) (hj k' hk' e3)
    · by_cases e3 : k' = a
      · subst e3; exact absurd e' (hj k hk e)
      · exact h.uinj k hk k' hk' e e3 e'

def AC.unpin (A : AC) (b : Nat) : AC := { A with L := A.L.map fun x => if x.block = b then { x with pins := x.pins - 1 } else x }

set_option maxRecDepth 8000 in
set_option maxHeartbeats 1000000 in
theorem unpin_ok (s : CS) (vs : VS) (B : Nat → By) (a b : Nat) (w : World) (h : CI w s vs B) (hz : CB s b) (ha : a ∈ s.A) (hp : 0 < (s.U a).pins) (hp2 : (s.U a).pins < 1000000) :
    Calls Tryz.prog 106 #[ep s.c, .int .i64 ((s.U a).block : Nat)] w fun e w' => e = .returned (.int .i64 0) ∧ ∃ s', Cst w w' s s' vs B b ∧ acOf s' B = (acOf s B).unpin (s.U a).block := by
  have c2 : w.cell? ⟨s.c, 2, none⟩ = some (.map (some s.h)) := by rw [cellOf h.cm.hp.cell 2]; rfl
  have l1 := h.cm.hm.look_yes ha
  obtain ⟨x, hE⟩ := h.cm.entAny ha
  have d2 : w.cell? ⟨a, 2, none⟩ = some (.int .i64 ((s.U a).pins : Nat)) := by rw [cellOf hE 2]; rfl
  have f2 := frozenOf hE 2
  have hp0 : ((((s.U a).pins : Nat) : Int) == 0) = false := by rw [beq_eq_false_iff_ne]; omega
  obtain ⟨z, hzz, e1⟩ : ∃ z : Int, (((s.U a).pins - 1 : Nat) : Int) = z ∧ (((s.U a).pins : Nat) : Int) - 1 = z := ⟨_, rfl, by omega⟩
  have hw := h.weak a
  have cm2 := h.cm.setE ha 2 (.int .i64 (((s.U a).pins - 1 : Nat) : Int)) { s.U a with pins := (s.U a).pins - 1 } (fun _ => rfl) rfl (h.cm.hp.used a)
  have mE : cMine w s.h a := h.cm.mineE ha
  have hB2 : But (cMine w s.h) w (w.setCell ⟨a, 2, none⟩ (.int .i64 (((s.U a).pins - 1 : Nat) : Int))) := (But.refl (cMine w s.h) w).setCell _ mE _
  have hdat := (h.keep hB2).2 _ _ (h.dat a ha)
  have cx2 := cx_setE hw { s.U a with pins := (s.U a).pins - 1 } (B a) s.D s.dq s.dcap cm2 hB2 ha rfl hdat (.inl ⟨rfl, rfl⟩) (fun _ => rfl)
  have eB : (fun k => if k = a then B a else B k) = B := by funext k; split <;> simp_all
  have htab := touched_abs (B := B) h.cm ha { s.U a with pins := (s.U a).pins - 1 } (B a) (fun x => { x with pins := x.pins - 1 }) rfl
  rw [eB] at cx2 htab
  have hil := cx2.ilen
  have cR := rank_any _ a _ cx2.cm ha (cx2.hx a rfl) (by omega)
  have hU2 : ∀ w' s', Rk (w.setCell ⟨a, 2, none⟩ (.int .i64 (((s.U a).pins - 1 : Nat) : Int))) w' { s with U := updU s.U a { s.U a with pins := (s.U a).pins - 1 } } s' a → CI w' s' vs B ∧ acOf s' B = acOf { s with U := updU s.U a { s.U a with pins := (s.U a).pins - 1 } } B := fun w' s' hr => by
    refine cx_ranked cx2 ha ?_ (fun k hk hka => ?_) hr
    · show (updU s.U a _ a).used ≤ s.uses
      rw [updU_same]; exact h.used a ha (fun h => h)
    · show (updU s.U a _ k).used ≠ (updU s.U a _ a).used
      rw [updU_same, updU_other _ _ hka]
      exact fun e => hka (h.uinj k hk a ha (fun h => h) (fun h => h) e)
  have H1 : Hid ((∀ w' s', Rk (w.setCell ⟨a, 2, none⟩ (.int .i64 (((s.U a).pins - 1 : Nat) : Int))) w' { s with U := updU s.U a { s.U a with pins := (s.U a).pins - 1 } } s' a → CI w' s' vs B ∧ acOf s' B = acOf { s with U := updU s.U a { s.U a with pins := (s.U a).pins - 1 } } B) ∧ But (cMine w s.h) w (w.setCell ⟨a, 2, none⟩ (.int .i64 (((s.U a).pins - 1 : Nat) : Int))) ∧ s.A.map (heOf (updU s.U a { s.U a with pins := (s.U a).pins - 1 }) B) = (acOf s B).L.map fun x => if x.block = (s.U a).block then { x with pins := x.pins - 1 } else x) := ⟨hU2, hB2, htab⟩
  rw [hzz] at cR H1
  clear hzz hE cm2 mE hB2 hdat cx2 eB htab hU2 hw h hil
  go_enter Tryz.func106, Tryz.ntmps106
  go_wp2_with (go_at_call 110; refine cR.mono ?_; rintro e w2 ⟨rfl, s2, hR2⟩; clear cR)
  go_ret
  obtain ⟨hU2, hB2, htab⟩ := H1.out
  obtain ⟨hI2, hac⟩ := hU2 w2 s2 hR2
  obtain ⟨ip, icap, I', he2⟩ := hR2.eq
  refine ⟨rfl, s2, ⟨hI2, ?_, by rw [he2], by rw [he2], cMine_trans hB2 hR2.but⟩, ?_⟩
  · obtain ⟨q1, q2, q3, q4, q5⟩ := hz
    rw [he2]
    exact ⟨by show s.nh ≤ _; omega, by show s.uses ≤ _; omega, by show s.met ≤ _; omega, by show s.missed ≤ _; omega, by show s.out ≤ _; omega⟩
  · rw [hac]
    unfold acOf AC.unpin
    simp only
    rw [htab]
    rfl

end Go.Proofs.YtebdgcoandfocaaGreatDoor

/-
  fresh of the law: a device with a volume of zeros, and its model.
-/
namespace Go.Proofs.YtebdgcoandfocaaGreatDoor
open Go.RowKit Go.Maps Go.Sort Go.Shelf

theorem own_belowT {W W' : World} {base : Nat} {e : TypeId} {size : Nat} {v : Value} {n : Nat} {xs : List Value} (h : W.ownsRow base e size v n xs) (hB : Below W.heap.size W W') : W'.ownsRow base e size v n xs := by
  refine ⟨h.1, ?_⟩
  rcases h.2 with h0 | ⟨g, cap, cur, hv, hg, hblk, r⟩
  · exact .inl h0
  · exact .inr ⟨g, cap, cur, hv, hg, (hB.block g (Array.getElem?_eq_some_iff.1 hblk).1).trans hblk, r⟩

/-- A volume of zeros that is just mounted. -/
theorem zero_log (v f nf n : Nat) (F : DataW Value) (d : DS) (hn : d.n = n) (h16 : 16 ≤ n) (hb0 : d.B 0 = headB 1 0 n) (hz : ∀ i, 0 < i → i < n → d.B i = zeroB) : Log ⟨v, f, nf, 0, 1, d.n, F, fun _ => none, d, []⟩ := by
  have hle : 1 + nbOf d.n ≤ d.n := by unfold nbOf; omega
  refine ⟨rfl, fun _ _ => rfl, Nat.le_refl _, by rw [hn]; exact hb0, ⟨hle, fun hlt => ?_⟩, .inl rfl, fun j hj hj' => ?_, fun j hj hj' => ?_⟩
  · show OldB 1 (d.B (1 + nbOf d.n))
    rw [hz _ (by omega) (by have : 1 + nbOf d.n < d.n := hlt; omega)]; exact oldB_zero _
  · show OldB 2 (d.B j)
    have h1 : 1 + nbOf d.n ≤ j := hj
    have h2 : j < d.n := hj'
    rw [hz j (by omega) (by omega)]; exact oldB_zero _
  · show OldB 1 (d.B j)
    have h1 : 1 + nbOf d.n ≤ j := hj
    have h2 : j < d.n := hj'
    rw [hz j (by omega) (by omega)]; exact oldB_zero _

end Go.Proofs.YtebdgcoandfocaaGreatDoor

/-
  What WalWhole lays in memory: a block of bytes over and over; a row of puts.
-/
namespace Go.Proofs.YtebdgcoandfocaaGreatDoor
open Go.RowKit Go.Maps Go.Sort Go.Shelf

/-- n bytes of some bytes, over and over. -/
def fullB (bs : By) (n : Nat) : By := (List.range n).map fun i => (bs[i % bs.length]?).getD 0
end Go.Proofs.YtebdgcoandfocaaGreatDoor
