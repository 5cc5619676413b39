/-
  Commit of package bcache, where something is dirty.
-/
import Derived.Test.YtlcojcldbdikgaaGreatDoorKe
import Derived.Shelf.SlIterI.Nil
import Derived.Ground.GgzProg
import Derived.Test.YtlcojcldbdikgaaGreatDoorProg
import Derived.Test.YtlcojcldbdikgaaGreatDoorKa
import Derived.Deep.DeepAppendRoom
import Derived.Shelf.SlSortCmp.NoneTotal
import Derived.Ground.SlsfProg
import Derived.Deep.AppendLies

/-
  New and Drop of package bcache.
-/
namespace Go.Proofs.YtlcojcldbdikgaaGreatDoor
open Go.RowKit Go.Maps Go.Sort Go.Shelf

def noU : Nat → EV := fun _ => ⟨0, none, 0, 0, 0, false, 0⟩
def newS (c v room h : Nat) : CS := ⟨c, v, room, h, 0, .map [], none, 0, [], none, 0, [], [], noU, 0, 0, 0, 0⟩

set_option maxRecDepth 8000 in
set_option maxHeartbeats 1000000 in
theorem new_none (room : Int) (v : Value) (hv : v = .pointer none ∨ ∃ a, v = dp a) (w : World) (h : v = .pointer none ∨ room < 1 ∨ 4096 < room) :
    Calls Tryz.prog 6 #[v, .int .i64 room] w fun e w' => e = .returned (.pointer none) ∧ w' = w := by
  rcases hv with rfl | ⟨a, rfl⟩
  · go_enter Tryz.func6, Tryz.ntmps6
    go_wp2
    go_ret
    exact ⟨rfl, rfl⟩
  · rcases h with h | h | h
    · cases h
    · go_enter Tryz.func6, Tryz.ntmps6
      go_wp2
      go_ret
      exact ⟨rfl, rfl⟩
    · have h' : ¬ room < 1 := by omega
      go_enter Tryz.func6, Tryz.ntmps6
      go_wp2
      go_ret
      exact ⟨rfl, rfl⟩

set_option maxRecDepth 8000 in
set_option maxHeartbeats 1000000 in
theorem new_ok (room : Nat) (vs : VS) (w : World) (h : VI w vs) (h1 : 1 ≤ room) (h2 : room ≤ 4096) :
    Calls Tryz.prog 6 #[dp vs.v, .int .i64 (room : Nat)] w fun e w' => ∃ c hh, e = .returned (ep c) ∧ CI w' (newS c vs.v room hh) vs (fun _ => []) ∧ Below w.heap.size w w' ∧ w.heap.size ≤ hh ∧ w.heap.size ≤ c := by
  have i1 : ¬ ((room : Nat) : Int) < 1 := by omega
  have i2 : ¬ ((room : Nat) : Int) > 4096 := by omega
  have hmm := @run_makeMap Tryz.prog
  have H0 : Hid (VI w vs) := h
  clear h
  go_enter Tryz.func6, Tryz.ntmps6
  go_wp2
  go_ret
  have h := H0.out
  have hB1 : Below w.heap.size w (w.alloc (.map #[] 0)) := (Below.refl _ w).alloc (Nat.le_refl _) _
  have hm : (w.alloc (.map #[] 0)).heap[w.heap.size]? = some (.map #[] 0) := (MapKept.heap_alloc w _).1
  obtain ⟨w1, hw1⟩ : ∃ w1, w1 = w.alloc (.map #[] 0) := ⟨_, rfl⟩
  have hs1 : w1.heap.size = w.heap.size + 1 := by rw [hw1]; simp
  rw [← hw1] at hm hB1
  have hB2 : Below w.heap.size w (w1.alloc (.cells #[dp vs.v, .int .i64 (room : Nat), .map (some w.heap.size), .slice none 0 0, .slice none 0 0, .int .i64 0, .int .i64 0, .int .i64 0, .int .i64 0] 57)) := hB1.alloc hB1.size _
  have hc : (w1.alloc (.cells #[dp vs.v, .int .i64 (room : Nat), .map (some w.heap.size), .slice none 0 0, .slice none 0 0, .int .i64 0, .int .i64 0, .int .i64 0, .int .i64 0] 57)).heap[w.heap.size + 1]? = some (.cells ((newS (w.heap.size + 1) vs.v room w.heap.size).ck.cells (.slice none 0 0)) 57 (0, 0)) := by
    rw [← hs1]; exact heap_alloc_new w1 _
  have hm2 : (w1.alloc (.cells #[dp vs.v, .int .i64 (room : Nat), .map (some w.heap.size), .slice none 0 0, .slice none 0 0, .int .i64 0, .int .i64 0, .int .i64 0, .int .i64 0] 57)).heap[w.heap.size]? = some (.map #[] 0) := (Below.heap_alloc w1 _ _ (by omega)).trans hm
  have hfl := h.fresh.own.lt
  have hml := h.dev.mlt
  rw [← hw1]
  have nomem : ∀ {p : Prop} (a : Nat), a ∈ ([] : List Nat) → p := fun a ha => by cases ha
  refine ⟨w.heap.size + 1, rfl, w.heap.size, ⟨⟨⟨hc, World.ownsRow_nil _ _ _ _, (fun k hk => absurd hk (Nat.not_lt_zero _)), List.nodup_nil, (by show 0 < 1000000; omega), (fun _ => by show 0 < 1000000000; omega)⟩, (fun a ha => nomem a ha), (fun a ha => nomem a ha), HM.empty hm2 _, World.ownsRow_nil _ _ _ _, (fun k hk => by cases hk), (by show w.heap.size < w.heap.size + 1; omega), (fun a ha => nomem a ha), (fun k hk => by cases hk), (fun k hk => by cases hk)⟩, h.below hB2, rfl, ?_, ?_, (fun a ha => nomem a ha), (fun _ h => h.elim), (fun _ k _ hk => absurd hk (Nat.not_lt_zero _)), (fun b _ => ⟨fun hb => nomem b hb, fun hb => nomem b hb.1⟩), (fun b => ⟨fun hb => nomem b hb, fun hb => nomem b hb.1⟩), List.nodup_nil, (fun b hb => nomem b hb), (fun b hb => nomem b hb), (fun b hb => nomem b hb), (fun b hb => nomem b hb), h1, h2, Nat.zero_le _⟩, hB2, Nat.le_refl _, by omega⟩
  · show w.heap.size ≠ vs.f
    omega
  · show w.heap.size ≠ vs.d.m
    omega

/-- The blocks that are not dirty. -/
def AC.drop (A : AC) : AC := { A with L := A.L.filter fun x => !x.dirty }

/-- The dirty row is nil again. -/
theorem cm_clean {w : World} {s : CS} (h : CM w s) : CM (w.setCell ⟨s.c, 3, none⟩ (.slice none 0 0)) { s with D := [], dq := none, dcap := 0 } := by
  have hb : But (fun k => k = s.c) w (w.setCell ⟨s.c, 3, none⟩ (.slice none 0 0)) := (But.refl (fun k => k = s.c) w).setCell _ rfl _
  have ne : ∀ {k : Nat} {cs : Array Value} {t : TypeId} {fr : Nat × Nat}, w.heap[k]? = some (.cells cs t fr) → t ≠ 57 → ¬ k = s.c := fun hk ht e => apart_tags hk h.hp.cell ht e
  refine ⟨⟨?_, own_but h.hp.row hb (fun _ _ _ _ hk => ne hk (by decide)), fun k hk => (h.hp.ents k hk).but hb (ne (h.hp.ents k hk) (by decide)), h.hp.nodup, h.hp.len, h.hp.used⟩, fun a ha hi => (h.rest a ha hi).but hb (ne (h.rest a ha hi) (by decide)), h.sub, h.hm.but hb (h.hne h.hp.cell), World.ownsRow_nil _ _ _ _, (fun k hk => by cases hk), h.lo.1, h.lo.2.1, h.lo.2.2.1, (fun k hk => by cases hk)⟩
  show (w.setCell ⟨s.c, 3, none⟩ (.slice none 0 0)).heap[s.c]? = _
  rw [heap_setCell_same w s.c 3 _ _ _ h.hp.cell]
  rfl

theorem drop_cell {w : World} {s : CS} (h : CM w s) {k : Nat} (hk : k < s.D.length) : ∃ g, s.dq = some ⟨g, 0, none⟩ ∧ w.cell? ⟨g, k, none⟩ = some (ep (s.D.getD k 0)) := by
  rcases h.row.2 with ⟨_, h0⟩ | ⟨g, cap, cur, e, _⟩
  · omega
  · have hq : s.dq = some ⟨g, 0, none⟩ := by injection e
    refine ⟨g, hq, ?_⟩
    have hr := h.row
    rw [hq] at hr
    rw [hr.cellAt k (by simpa using hk), List.getElem?_map, List.getElem?_eq_getElem hk]
    simp [List.getD, hk]

set_option maxRecDepth 8000 in
set_option maxHeartbeats 2000000 in
theorem drop_any (s : CS) (vs : VS) (B : Nat → By) (b : Nat) (w : World) (h : CI w s vs B) (hz : CB s b) :
    Calls Tryz.prog 18 #[ep s.c] w fun e w' => e = .returned (.tuple #[]) ∧ ∃ s', Cst w w' s s' vs B b ∧ acOf s' B = (acOf s B).drop := by
  have hdl := dlen h
  have c3 : w.cell? ⟨s.c, 3, none⟩ = some (.slice s.dq s.D.length s.dcap) := by rw [cellOf h.cm.hp.cell 3]; rfl
  have H0 : Hid (CI w s vs B) := h
  clear h
  go_enter Tryz.func18, Tryz.ntmps18
  go_wp2_with fail
  go_loopw [11] (fun ii wr => ∃ i : Nat, i ≤ s.D.length ∧ ii = .int .i64 i ∧ Hid (∃ F, CM wr { s with F := F, A := s.A.filter fun a => !(s.D.take i).contains a } ∧ But (cMine w s.h) w wr)) (fun ii _ => s.D.length - (intOf ii).toNat)
  case atStart =>
    refine ⟨0, Nat.zero_le _, rfl, s.F, ?_, But.refl _ _⟩
    have e : s.A.filter (fun a => !(s.D.take 0).contains a) = s.A := by simp
    rw [e]
    exact H0.out.cm
  case round =>
    obtain ⟨i, hi, rfl, HI⟩ := hrel
    by_cases hlt : i < s.D.length
    · have hltI : (i : Int) < (s.D.length : Nat) := by omega
      obtain ⟨F, cm, hB⟩ := HI.out
      obtain ⟨g, hq, hg⟩ := drop_cell cm (k := i) hlt
      have hq' : s.dq = some ⟨g, 0, none⟩ := hq
      obtain ⟨a, ha⟩ : ∃ a, s.D.getD i 0 = a := ⟨_, rfl⟩
      have hg' : wr.cell? ⟨g, i, none⟩ = some (ep a) := by rw [← ha]; exact hg
      have haD : a ∈ s.D := by rw [← ha]; exact getD_mem hlt
      have haA := ((H0.out.dirty a).1 haD).1
      have hat : a ∉ s.D.take i := fun hx => by
        obtain ⟨j, hj, e⟩ := List.getElem_of_mem hx
        have hj' : j < i := by simp at hj; omega
        have e2 : s.D.getD j 0 = a := by rw [← e]; simp [List.getD, show j < s.D.length by omega]
        have := getD_inj H0.out.dnd (show j < s.D.length by omega) hlt (e2.trans ha.symm)
        omega
      have haF : a ∈ s.A.filter (fun a => !(s.D.take i).contains a) := by simp [List.mem_filter, haA, hat]
      obtain ⟨x, hE⟩ := cm.entAny haF
      have d2 : wr.cell? ⟨s.c, 2, none⟩ = some (.map (some s.h)) := by rw [cellOf cm.hp.cell 2]; rfl
      have d0 : wr.cell? ⟨a, 0, none⟩ = some (.int .i64 ((s.U a).block : Nat)) := by rw [cellOf hE 0]; rfl
      have hm1 : HM wr.drew s.h s.nh F (s.A.filter fun a => !(s.D.take i).contains a) (fun a => (s.U a).block) := cm.hm.but (S := fun _ => False) ⟨rfl, rfl, rfl, Nat.le_refl _, fun _ _ _ => rfl⟩ (fun h => h)
      obtain ⟨w3, F3, hdel, hm3, hb3⟩ := hm1.del haF 0
      have hb3' : But (fun k => k = s.h) wr w3 := ⟨hb3.os, hb3.tape, hb3.output, hb3.size, hb3.block⟩
      have haI : a ∉ s.I := fun hx => by
        have h1 := ((H0.out.idle a (fun h => h)).1 hx).2
        have h2 := ((H0.out.dirty a).1 haD).2
        unfold idleE at h1
        rw [h2] at h1
        simp at h1
      have cm3 := cm.del (a := a) haI hm3 hb3'
      have ef : (s.A.filter fun a => !(s.D.take i).contains a).filter (fun b => b != a) = s.A.filter fun a => !(s.D.take (i + 1)).contains a := by
        rw [List.filter_filter]
        refine List.filter_congr fun k _ => ?_
        rw [List.take_succ_eq_append_getElem hlt]
        have e2 : s.D[i] = a := by rw [← ha]; simp [List.getD, hlt]
        rw [e2]
        by_cases e : k = a
        · subst e; simp
        · simp [e]
      have H3 : Hid (∃ F, CM w3 { s with F := F, A := s.A.filter fun a => !(s.D.take (i + 1)).contains a } ∧ But (cMine w s.h) w w3) := ⟨F3, by rw [← ef]; exact cm3, cMine_trans hB (hb3'.mono fun k _ hk => .inl hk)⟩
      clear hq hg ha haD haA hat haF hE hm1 hm3 hb3 hb3' haI cm3 ef cm hB HI
      go_wp2_with fail
      go_region
      all_goals go_wp2
      all_goals go_roundw
      all_goals first | exact ⟨i + 1, by omega, by go_num, H3⟩ | (simp [intOf]; omega)
    · obtain rfl : i = s.D.length := by omega
      have hge : ¬ ((s.D.length : Nat) : Int) < (s.D.length : Nat) := by omega
      obtain ⟨F, cm, hB⟩ := HI.out
      have d3 : wr.cell? ⟨s.c, 3, none⟩ = some (.slice s.dq s.D.length s.dcap) := by rw [cellOf cm.hp.cell 3]; rfl
      have f3 := frozenOf cm.hp.cell 3
      have cm4 := cm_clean cm
      have mC : cMine wr s.h s.c := cm.mineC
      have hB4 : But (cMine w s.h) w (wr.setCell ⟨s.c, 3, none⟩ (.slice none 0 0)) := cMine_trans hB ((But.refl (cMine wr s.h) wr).setCell _ mC _)
      have h := H0.out
      obtain ⟨hvi, hkeep⟩ := h.keep hB4
      have ef : s.A.filter (fun a => !(s.D.take s.D.length).contains a) = s.A.filter fun a => !(s.U a).dirty := by
        refine List.filter_congr fun a ha => ?_
        rw [List.take_length]
        cases hd : (s.U a).dirty with
        | true => simp [(h.dirty a).2 ⟨ha, hd⟩]
        | false =>
          have : a ∉ s.D := fun hx => by rw [((h.dirty a).1 hx).2] at hd; cases hd
          simp [this]
      have hmem : ∀ a, a ∈ s.A.filter (fun a => !(s.U a).dirty) ↔ a ∈ s.A ∧ (s.U a).dirty = false := fun a => by simp [List.mem_filter]
      have HF : Hid (Cst w (wr.setCell ⟨s.c, 3, none⟩ (.slice none 0 0)) s { s with F := F, A := s.A.filter (fun a => !(s.U a).dirty), D := [], dq := none, dcap := 0 } vs B b ∧ acOf { s with F := F, A := s.A.filter (fun a => !(s.U a).dirty), D := [], dq := none, dcap := 0 } B = (acOf s B).drop) := by
        refine ⟨⟨⟨by rw [← ef]; exact cm4, hvi, h.vv, h.hf, h.hd, fun a ha => hkeep _ _ (h.dat a ((hmem a).1 ha).1), fun _ h => h.elim, h.ord, fun a _ => ?_, fun a => ?_, List.nodup_nil, fun a ha => h.used a ((hmem a).1 ha).1, fun a ha c hc => h.uinj a ((hmem a).1 ha).1 c ((hmem c).1 hc).1, fun a ha => h.blk a ((hmem a).1 ha).1, fun a ha => h.clean a ((hmem a).1 ha).1, h.room.1, h.room.2.1, Nat.le_trans (List.length_filter_le _ _) h.room.2.2⟩, ⟨by have := hz.nh; show s.nh ≤ _; omega, by have := hz.uses; show s.uses ≤ _; omega, by have := hz.met; show s.met ≤ _; omega, by have := hz.missed; show s.missed ≤ _; omega, by have := hz.out; show s.out ≤ _; omega⟩, rfl, rfl, hB4⟩, ?_⟩
        · show a ∈ s.I ↔ a ∈ s.A.filter (fun a => !(s.U a).dirty) ∧ idleE (s.U a) = true
          rw [hmem, h.idle a (fun h => h)]
          constructor
          · rintro ⟨h1, h2⟩
            refine ⟨⟨h1, ?_⟩, h2⟩
            cases hd : (s.U a).dirty with
            | false => rfl
            | true => unfold idleE at h2; rw [hd] at h2; simp at h2
          · rintro ⟨⟨h1, _⟩, h2⟩; exact ⟨h1, h2⟩
        · show a ∈ [] ↔ a ∈ s.A.filter (fun a => !(s.U a).dirty) ∧ (s.U a).dirty = true
          rw [hmem]
          constructor
          · intro h; cases h
          · rintro ⟨⟨_, h1⟩, h2⟩; rw [h1] at h2; cases h2
        · unfold acOf AC.drop
          simp only [List.filter_map]
          rfl
      clear cm cm4 mC hB4 h hvi hkeep ef hmem hB HI
      go_wp2
      go_end0
      exact ⟨rfl, _, HF.out.1, HF.out.2⟩

end Go.Proofs.YtlcojcldbdikgaaGreatDoor

/-
  CacheAll: Get where there is none or no room, Pin, Drop, over both caches.
-/
namespace Go.Proofs.YtlcojcldbdikgaaGreatDoor.Rc
open Go.RowKit Go.Maps

theorem JD.frame {w0 w w' : World} {base r n : Nat} {D : SV → List (BitVec 8)} {S S' : RS} {cont : Nat → By} (h : JD w0 w base r D S n cont) (hf : Fr base w w') (hR : ∃ vv lv, RF w' base r vv lv S') (hL : ∀ y ∈ S'.L, ∃ z ∈ S.L, z.b = y.b) (hA : Apart S'.L) (hV : S'.V = S.V) : JD w0 w' base r D S' n cont := by
  refine ⟨hR, h.lo, hA, fun y hy => ?_, fun y hy => ?_, by rw [hV]; exact h.vl, by rw [hV]; exact h.vc⟩
  · obtain ⟨z, hz, e⟩ := hL y hy
    rw [← e]
    exact ⟨brow_fr (h.dl z hz).1 hf, (h.dl z hz).2⟩
  · rw [hV] at hy
    exact ⟨brow_fr (h.dv y hy).1 hf, (h.dv y hy).2⟩
theorem JD.same {w0 w w' : World} {base r n : Nat} {D : SV → List (BitVec 8)} {S : RS} {cont : Nat → By} (h : JD w0 w base r D S n cont) (hf : Fr base w w') (hR : ∃ vv lv, RF w' base r vv lv S) : JD w0 w' base r D S n cont :=
  h.frame hf hR (fun y hy => ⟨y, hy, rfl⟩) h.ap rfl
theorem met_out {w0 w w' : World} {base r n : Nat} {D : SV → List (BitVec 8)} {S : RS} {cont : Nat → By} {out full : Ending} {ok : Nat → RE → Ending} {fin : RS → Nat → RE → RS} {vv lv : Value} {e : Ending} {x : Int}
    (hd : JD w0 w base r D S n cont) (hx : ¬ (0 ≤ x ∧ x < n)) (hm : Met base r vv lv S x true w out full ok fin e w') : e = out ∧ Fr base w w' ∧ JD w0 w' base r D S n cont := by
  obtain ⟨hfr, hm⟩ := hm
  have hl := hd.vl
  rcases hm with ⟨_, h1, h2⟩ | ⟨b', e1, e2, _⟩ | ⟨b', k, S1, y, lv', h, m, e1, e2, _⟩
  · exact ⟨h1, hfr, hd.same hfr ⟨_, _, h2⟩⟩
  · exact absurd ⟨by omega, by omega⟩ hx
  · exact absurd ⟨by omega, by omega⟩ hx
theorem not_held {D : SV → List (BitVec 8)} {S : RS} {b : Nat} (h : (abs D S).held b = false) : placeR S.L b = -1 := by
  rw [held_abs] at h
  have h' : ¬ 0 ≤ placeR S.L b := by simpa using h
  unfold placeR at *
  cases hf : S.L.findIdx? (fun h => decide ((h.block : Int) = (b : Nat))) with
  | some i => rw [hf] at h'; exact absurd (by simp) h'
  | none => rfl
theorem not_holds {D : SV → List (BitVec 8)} {S S1 : RS} {b k : Nat} (h : (abs D S).held b = false) (hf : (abs D S).full = true) : ¬ HoldsTo S b S1 k := by
  have hp := not_held h
  obtain ⟨h1, h2⟩ := (full_abs D S).1 hf
  rintro (⟨e, _⟩ | ⟨_, S0, sv, h0, _⟩)
  · omega
  · rcases h0 with ⟨e, _⟩ | ⟨j, y, _, _, e, _⟩
    · omega
    · rw [h2] at e; cases e
theorem met_full {w0 w w' : World} {base r n x : Nat} {D : SV → List (BitVec 8)} {S : RS} {cont : Nat → By} {out full : Ending} {ok : Nat → RE → Ending} {fin : RS → Nat → RE → RS} {vv lv : Value} {e : Ending}
    (hd : JD w0 w base r D S n cont) (hx : x < n) (hh : (abs D S).held x = false) (hf : (abs D S).full = true) (hm : Met base r vv lv S (x : Nat) true w out full ok fin e w') : e = full ∧ Fr base w w' ∧ JD w0 w' base r D S n cont := by
  obtain ⟨hfr, hm⟩ := hm
  have hl := hd.vl
  rcases hm with ⟨h1, _⟩ | ⟨b', e1, e2, _, _, _, h1, h2⟩ | ⟨b', k, S1, y, lv', h, m, e1, e2, e3, _⟩
  · exact absurd ⟨by omega, by omega⟩ h1
  · exact ⟨h1, hfr, hd.same hfr ⟨_, _, h2⟩⟩
  · obtain rfl : x = b' := by omega
    exact absurd e3 (not_holds hh hf)

theorem jget_out (O : Nat → Array Value → Prop) (w0 w : World) (c base r : Nat) (vs : VS) (A : AC) (b vb n : Nat) (x : Int) (D : SV → List (BitVec 8)) (S : RS) (cont : Nat → By) (hp : JP O w0 w c vs A b vb) (hd : JD w0 w base r D S n cont) (h1 : -9223372036854775808 ≤ x) (h2 : x < 9223372036854775808) (hx : ¬ (0 ≤ x ∧ x < nbOf vs.d.n)) :
    Calls Tryz.prog 7 #[ep c, .int .i64 x] w fun e w' => e = .returned (.tuple #[.slice none 0 0, .int .i64 22]) ∧ JP O w0 w' c vs A b vb ∧ JD w0 w' base r D S n cont := by
  obtain ⟨s, B, q1, q2, rfl, rfl, q5⟩ := hp.st
  exact (get_out s vs B x w q1 h1 h2 hx).mono fun e w' ⟨he, hw⟩ => by subst hw; exact ⟨he, hp, hd⟩
theorem jget_full (O : Nat → Array Value → Prop) (w0 w : World) (c base r : Nat) (vs : VS) (A : AC) (b vb n x : Nat) (D : SV → List (BitVec 8)) (S : RS) (cont : Nat → By) (hp : JP O w0 w c vs A b vb) (hd : JD w0 w base r D S n cont) (hx : x < nbOf vs.d.n) (hh : A.held x = false) (hf : A.full = true) :
    Calls Tryz.prog 7 #[ep c, .int .i64 (x : Nat)] w fun e w' => e = .returned (.tuple #[.slice none 0 0, .int .i64 28]) ∧ JP O w0 w' c vs A b vb ∧ JD w0 w' base r D S n cont := by
  obtain ⟨s, B, q1, q2, rfl, rfl, q5⟩ := hp.st
  exact (get_full s vs B x w q1 hx hh hf).mono fun e w' ⟨he, hw⟩ => ⟨he, hp.by hw, hd.by hw⟩
theorem jpin_out (O : Nat → Array Value → Prop) (w0 w : World) (c base r : Nat) (vs : VS) (A : AC) (b vb n : Nat) (x : Int) (D : SV → List (BitVec 8)) (S : RS) (cont : Nat → By) (hp : JP O w0 w c vs A b vb) (hd : JD w0 w base r D S n cont) (h1 : -9223372036854775808 ≤ x) (h2 : x < 9223372036854775808) (hx : ¬ (0 ≤ x ∧ x < nbOf vs.d.n)) :
    Calls Tryz.prog 9 #[ep c, .int .i64 x] w fun e w' => e = .returned (.int .i64 22) ∧ JP O w0 w' c vs A b vb ∧ JD w0 w' base r D S n cont := by
  obtain ⟨s, B, q1, q2, rfl, rfl, q5⟩ := hp.st
  exact (pin_out s vs B x w q1 h1 h2 hx).mono fun e w' ⟨he, hw⟩ => by subst hw; exact ⟨he, hp, hd⟩
theorem jpin_full (O : Nat → Array Value → Prop) (w0 w : World) (c base r : Nat) (vs : VS) (A : AC) (b vb n x : Nat) (D : SV → List (BitVec 8)) (S : RS) (cont : Nat → By) (hp : JP O w0 w c vs A b vb) (hd : JD w0 w base r D S n cont) (hx : x < nbOf vs.d.n) (hh : A.held x = false) (hf : A.full = true) :
    Calls Tryz.prog 9 #[ep c, .int .i64 (x : Nat)] w fun e w' => e = .returned (.int .i64 28) ∧ JP O w0 w' c vs A b vb ∧ JD w0 w' base r D S n cont := by
  obtain ⟨s, B, q1, q2, rfl, rfl, q5⟩ := hp.st
  exact (pin_full s vs B x w q1 hx hh hf).mono fun e w' ⟨he, hw⟩ => ⟨he, hp.by hw, hd.by hw⟩
def pinF (x : HE) : HE := { x with pins := x.pins + 1 }
theorem jpin_ok (O : Nat → Array Value → Prop) (w0 w : World) (c base r : Nat) (vs : VS) (A : AC) (b vb n x : Nat) (D : SV → List (BitVec 8)) (S : RS) (cont : Nat → By) (hp : JP O w0 w c vs A b vb) (hd : JD w0 w base r D S n cont) (hb : b < 800000) (hx : x < nbOf vs.d.n) (hok : A.held x = true ∨ A.full = false) (hpin : ∀ e ∈ A.L, e.pins < 1000000) :
    Calls Tryz.prog 9 #[ep c, .int .i64 (x : Nat)] w fun e w' => e = .returned (.int .i64 0) ∧ JP O w0 w' c vs (A.meet x (vs.cont x) pinF) (b + 1) vb ∧ JD w0 w' base r D S n cont := by
  obtain ⟨s, B, h1, h2, rfl, rfl, h5⟩ := hp.st
  refine (pin_ok s vs B x b w h1 h2 hb hx hok (fun a ha => hpin (heOf s.U B a) (List.mem_map_of_mem ha))).mono ?_
  rintro e w' ⟨he, s', B', hc, hac⟩
  have := hp.cst h1 h5 hc rfl
  rw [hac] at this
  exact ⟨he, this, hd.cst h1 hc⟩
theorem rget_out (O : Nat → Array Value → Prop) (w0 w : World) (c base r : Nat) (vs : VS) (A : AC) (b vb n : Nat) (x : Int) (D : SV → List (BitVec 8)) (S : RS) (cont : Nat → By) (hp : JP O w0 w c vs A b vb) (hd : JD w0 w base r D S n cont) (hs : Small S) (hx : ¬ (0 ≤ x ∧ x < n)) :
    Calls Tryz.prog 8 #[.pointer (some ⟨r, 0, none⟩), .int .i64 x] w fun e w' => e = .returned (.tuple #[.slice none 0 0, .int .i64 22]) ∧ JP O w0 w' c vs A b vb ∧ JD w0 w' base r D S n cont := by
  obtain ⟨vv, lv, hr⟩ := hd.rf
  exact (rget_any base r vv lv S x w hr hs).mono fun e w' hm => by
    obtain ⟨h1, h2, h3⟩ := met_out hd hx hm
    exact ⟨h1, hp.fr hd.lo h2, h3⟩
theorem rget_full (O : Nat → Array Value → Prop) (w0 w : World) (c base r : Nat) (vs : VS) (A : AC) (b vb n x : Nat) (D : SV → List (BitVec 8)) (S : RS) (cont : Nat → By) (hp : JP O w0 w c vs A b vb) (hd : JD w0 w base r D S n cont) (hs : Small S) (hx : x < n) (hh : (abs D S).held x = false) (hf : (abs D S).full = true) :
    Calls Tryz.prog 8 #[.pointer (some ⟨r, 0, none⟩), .int .i64 (x : Nat)] w fun e w' => e = .returned (.tuple #[.slice none 0 0, .int .i64 28]) ∧ JP O w0 w' c vs A b vb ∧ JD w0 w' base r D S n cont := by
  obtain ⟨vv, lv, hr⟩ := hd.rf
  exact (rget_any base r vv lv S (x : Nat) w hr hs).mono fun e w' hm => by
    obtain ⟨h1, h2, h3⟩ := met_full hd hx hh hf hm
    exact ⟨h1, hp.fr hd.lo h2, h3⟩
theorem rpin_out (O : Nat → Array Value → Prop) (w0 w : World) (c base r : Nat) (vs : VS) (A : AC) (b vb n : Nat) (x : Int) (D : SV → List (BitVec 8)) (S : RS) (cont : Nat → By) (hp : JP O w0 w c vs A b vb) (hd : JD w0 w base r D S n cont) (hs : Small S) (hpin : ∀ y ∈ S.L, y.pins < 1000000000000) (hx : ¬ (0 ≤ x ∧ x < n)) :
    Calls Tryz.prog 10 #[.pointer (some ⟨r, 0, none⟩), .int .i64 x] w fun e w' => e = .returned (.int .i64 22) ∧ JP O w0 w' c vs A b vb ∧ JD w0 w' base r D S n cont := by
  obtain ⟨vv, lv, hr⟩ := hd.rf
  exact (rpin_any base r vv lv S x w hr hs hpin).mono fun e w' hm => by
    obtain ⟨h1, h2, h3⟩ := met_out hd hx hm
    exact ⟨h1, hp.fr hd.lo h2, h3⟩
theorem rpin_full (O : Nat → Array Value → Prop) (w0 w : World) (c base r : Nat) (vs : VS) (A : AC) (b vb n x : Nat) (D : SV → List (BitVec 8)) (S : RS) (cont : Nat → By) (hp : JP O w0 w c vs A b vb) (hd : JD w0 w base r D S n cont) (hs : Small S) (hpin : ∀ y ∈ S.L, y.pins < 1000000000000) (hx : x < n) (hh : (abs D S).held x = false) (hf : (abs D S).full = true) :
    Calls Tryz.prog 10 #[.pointer (some ⟨r, 0, none⟩), .int .i64 (x : Nat)] w fun e w' => e = .returned (.int .i64 28) ∧ JP O w0 w' c vs A b vb ∧ JD w0 w' base r D S n cont := by
  obtain ⟨vv, lv, hr⟩ := hd.rf
  exact (rpin_any base r vv lv S (x : Nat) w hr hs hpin).mono fun e w' hm => by
    obtain ⟨h1, h2, h3⟩ := met_full hd hx hh hf hm
    exact ⟨h1, hp.fr hd.lo h2, h3⟩
theorem rpin_ok (O : Nat → Array Value → Prop) (w0 w : World) (c base r : Nat) (vs : VS) (A : AC) (b vb x n : Nat) (D : SV → List (BitVec 8)) (S : RS) (cont : Nat → By) (hp : JP O w0 w c vs A b vb) (hd : JD w0 w base r D S n cont) (hA : A = (abs D S).meet x (cont x) pinF) (hs : Small S) (hpin : ∀ y ∈ S.L, y.pins < 1000000000000) (hx : x < n) (hok : (abs D S).held x = true ∨ (abs D S).full = false) :
    Calls Tryz.prog 10 #[.pointer (some ⟨r, 0, none⟩), .int .i64 (x : Nat)] w fun e w' => e = .returned (.int .i64 0) ∧ ∃ S', JP O w0 w' c vs A b vb ∧ JD w0 w' base r D S' n cont ∧ abs D S' = A := by
  obtain ⟨vv, lv, hr⟩ := hd.rf
  refine (rpin_any base r vv lv S (x : Nat) w hr hs hpin).mono ?_
  intro e w' hm
  obtain ⟨S', k, y, h1, h2, h3, h4, h5, _, _⟩ := met_doc (fun y => { y with pins := y.pins + 1 }) pinF hp hd hA hx hok (fun _ _ _ => rfl) (fun _ => rfl) (fun _ => ⟨rfl, rfl⟩) hm
  exact ⟨h1, S', h3, h4, h5⟩

theorem jdrop (O : Nat → Array Value → Prop) (w0 w : World) (c base r : Nat) (vs : VS) (A : AC) (b vb n : Nat) (D : SV → List (BitVec 8)) (S : RS) (cont : Nat → By) (hp : JP O w0 w c vs A b vb) (hd : JD w0 w base r D S n cont) :
    Calls Tryz.prog 18 #[ep c] w fun e w' => e = .returned (.tuple #[]) ∧ JP O w0 w' c vs A.drop (b + 1) vb ∧ JD w0 w' base r D S n cont := by
  obtain ⟨s, B, h1, h2, rfl, rfl, h5⟩ := hp.st
  refine (drop_any s vs B b w h1 h2).mono ?_
  rintro e w' ⟨he, s', hc, hac⟩
  have := hp.cst h1 h5 hc rfl
  rw [hac] at this
  exact ⟨he, this, hd.cst h1 hc⟩
theorem rdrop (O : Nat → Array Value → Prop) (w0 w : World) (c base r : Nat) (vs : VS) (A : AC) (b vb n : Nat) (D : SV → List (BitVec 8)) (S : RS) (cont : Nat → By) (hp : JP O w0 w c vs A b vb) (hd : JD w0 w base r D S n cont) (hs : Small S) (hA : A = (abs D S).drop) :
    Calls Tryz.prog 19 #[.pointer (some ⟨r, 0, none⟩)] w fun e w' => e = .returned (.tuple #[]) ∧ ∃ S', JP O w0 w' c vs A b vb ∧ JD w0 w' base r D S' n cont ∧ abs D S' = A := by
  obtain ⟨vv, lv, hr⟩ := hd.rf
  refine (rdrop_any base r vv lv S w hr hs.1).mono ?_
  rintro e w' ⟨he, hf, lv', hR⟩
  refine ⟨he, _, hp.fr hd.lo hf, hd.frame hf ⟨_, _, hR⟩ (fun y hy => ⟨y, ?_, rfl⟩) ?_ rfl, by rw [hA]; exact drop_abs D S⟩
  · exact (List.mem_filter.1 hy).1
  · exact (List.Sublist.map RE.block List.filter_sublist).nodup hd.ap

end Go.Proofs.YtlcojcldbdikgaaGreatDoor.Rc

/-
  CacheAll: Unpin over both caches.
-/
namespace Go.Proofs.YtlcojcldbdikgaaGreatDoor.Rc
open Go.RowKit Go.Maps

theorem place_of {L : List RE} (ha : Apart L) {y : RE} (hy : y ∈ L) : ∃ k : Nat, placeR L (y.block : Nat) = (k : Nat) ∧ L[k]? = some y := by
  have h0 := (placeR_iff L y.block).2 ⟨y, hy, rfl⟩
  obtain ⟨k, hk⟩ : ∃ k : Nat, placeR L (y.block : Nat) = (k : Nat) := ⟨(placeR L (y.block : Nat)).toNat, by omega⟩
  obtain ⟨z, hz, e⟩ := place_at hk
  obtain ⟨j, hj⟩ := List.getElem?_of_mem hy
  have : k = j := apart_at ha hz hj (by omega)
  subst this
  exact ⟨k, hk, hj⟩
theorem unpin_abs {D : SV → List (BitVec 8)} {S : RS} (ha : Apart S.L) {k : Nat} {y : RE} (hy : S.L[k]? = some y) : abs D { S with L := S.L.set k { y with pins := y.pins - 1 } } = (abs D S).unpin y.block := by
  have := map_at ha hy (fun x => { x with pins := x.pins - 1 })
  unfold abs AC.unpin
  simp only [← this, List.map_map]
  congr 1
  refine List.map_congr_left fun x _ => ?_
  simp only [Function.comp]
  by_cases h : x.block = y.block
  · rw [if_pos h, if_pos (show (he D x).block = y.block from h)]; rfl
  · rw [if_neg h, if_neg (show ¬ (he D x).block = y.block from h)]
theorem junpin_ok (O : Nat → Array Value → Prop) (w0 w : World) (c base r : Nat) (vs : VS) (A : AC) (b vb n x : Nat) (D : SV → List (BitVec 8)) (S : RS) (cont : Nat → By) (hp : JP O w0 w c vs A b vb) (hd : JD w0 w base r D S n cont) (hx : ∃ e ∈ A.L, e.block = x ∧ 0 < e.pins ∧ e.pins < 1000000) :
    Calls Tryz.prog 11 #[ep c, .int .i64 (x : Nat)] w fun e w' => e = .returned (.int .i64 0) ∧ JP O w0 w' c vs (A.unpin x) (b + 1) vb ∧ JD w0 w' base r D S n cont := by
  obtain ⟨s, B, h1, h2, rfl, rfl, h5⟩ := hp.st
  obtain ⟨e, he, rfl, hp1, hp2⟩ := hx
  obtain ⟨a, ha, rfl⟩ := List.mem_map.1 he
  refine (unpin_ok s vs B a b w h1 h2 ha hp1 hp2).mono ?_
  rintro e w' ⟨he, s', hc, hac⟩
  have := hp.cst h1 h5 hc rfl
  rw [hac] at this
  exact ⟨he, this, hd.cst h1 hc⟩
theorem junpin_no (O : Nat → Array Value → Prop) (w0 w : World) (c base r : Nat) (vs : VS) (A : AC) (b vb n : Nat) (x : Int) (D : SV → List (BitVec 8)) (S : RS) (cont : Nat → By) (hp : JP O w0 w c vs A b vb) (hd : JD w0 w base r D S n cont) (q1 : -9223372036854775808 ≤ x) (q2 : x < 9223372036854775808) (hx : ∀ e ∈ A.L, (e.block : Int) = x → e.pins = 0) :
    Calls Tryz.prog 11 #[ep c, .int .i64 x] w fun e w' => e = .returned (.int .i64 22) ∧ JP O w0 w' c vs A b vb ∧ JD w0 w' base r D S n cont := by
  obtain ⟨s, B, h1, h2, rfl, rfl, h5⟩ := hp.st
  by_cases hh : ∃ a ∈ s.A, ((s.U a).block : Int) = x
  · obtain ⟨a, ha, rfl⟩ := hh
    have hz : (s.U a).pins = 0 := hx (heOf s.U B a) (List.mem_map_of_mem ha) rfl
    exact (unpin_zero s vs B a w h1 ha hz).mono fun e w' ⟨he, hw⟩ => by subst hw; exact ⟨he, hp, hd⟩
  · exact (unpin_no s vs B x w h1 q1 q2 (fun a ha e => hh ⟨a, ha, e⟩)).mono fun e w' ⟨he, hw⟩ => by subst hw; exact ⟨he, hp, hd⟩
theorem runpin_ok (O : Nat → Array Value → Prop) (w0 w : World) (c base r : Nat) (vs : VS) (A : AC) (b vb n x : Nat) (D : SV → List (BitVec 8)) (S : RS) (cont : Nat → By) (hp : JP O w0 w c vs A b vb) (hd : JD w0 w base r D S n cont) (hA : A = (abs D S).unpin x) (hs : Small S) (hpin : ∀ y ∈ S.L, y.pins < 1000000000000) (hx : ∃ e ∈ (abs D S).L, e.block = x ∧ 0 < e.pins) :
    Calls Tryz.prog 12 #[.pointer (some ⟨r, 0, none⟩), .int .i64 (x : Nat)] w fun e w' => e = .returned (.int .i64 0) ∧ ∃ S', JP O w0 w' c vs A b vb ∧ JD w0 w' base r D S' n cont ∧ abs D S' = A := by
  obtain ⟨vv, lv, hr⟩ := hd.rf
  refine (runpin_any base r vv lv S (x : Nat) w hr hs hpin).mono ?_
  rintro e w' ⟨hf, hm⟩
  obtain ⟨e0, he0, rfl, hp1⟩ := hx
  obtain ⟨y, hy, rfl⟩ := List.mem_map.1 he0
  obtain ⟨k0, hk0, hk1⟩ := place_of hd.ap hy
  rcases hm with ⟨h1, _⟩ | ⟨k, z, h1, h2, h3, h4, h5⟩
  · obtain ⟨z, hz, h0⟩ := h1 k0 hk0
    rw [hk1] at hz
    injection hz with hz
    subst hz
    have : 0 < y.pins := hp1
    omega
  · have : k = k0 := by
      have h1' : placeR S.L (y.block : Nat) = (k : Nat) := h1
      omega
    subst this
    rw [hk1] at h2
    injection h2 with h2
    subst h2
    have hkl := List.getElem?_eq_some_iff.1 hk1
    refine ⟨h4, _, hp.fr hd.lo hf, hd.frame hf ⟨_, _, h5⟩ (fun z hz => ?_) (apart_set hd.ap hk1 rfl) rfl, ?_⟩
    · rcases List.mem_or_eq_of_mem_set hz with h | rfl
      · exact ⟨z, h, rfl⟩
      · exact ⟨y, hy, rfl⟩
    · rw [unpin_abs hd.ap hk1, hA]
      rfl
theorem runpin_no (O : Nat → Array Value → Prop) (w0 w : World) (c base r : Nat) (vs : VS) (A : AC) (b vb n : Nat) (x : Int) (D : SV → List (BitVec 8)) (S : RS) (cont : Nat → By) (hp : JP O w0 w c vs A b vb) (hd : JD w0 w base r D S n cont) (hs : Small S) (hpin : ∀ y ∈ S.L, y.pins < 1000000000000) (hx : ∀ e ∈ (abs D S).L, (e.block : Int) = x → e.pins = 0) :
    Calls Tryz.prog 12 #[.pointer (some ⟨r, 0, none⟩), .int .i64 x] w fun e w' => e = .returned (.int .i64 22) ∧ JP O w0 w' c vs A b vb ∧ JD w0 w' base r D S n cont := by
  obtain ⟨vv, lv, hr⟩ := hd.rf
  refine (runpin_any base r vv lv S x w hr hs hpin).mono ?_
  rintro e w' ⟨hf, hm⟩
  rcases hm with ⟨_, h1, h2⟩ | ⟨k, z, h1, h2, h3, h4, h5⟩
  · exact ⟨h1, hp.fr hd.lo hf, hd.same hf ⟨_, _, h2⟩⟩
  · obtain ⟨z', hz', e'⟩ := place_at h1
    rw [h2] at hz'
    injection hz' with hz'
    subst hz'
    exact absurd (hx (he D z) (List.mem_map_of_mem (List.mem_of_getElem? h2)) e') h3

end Go.Proofs.YtlcojcldbdikgaaGreatDoor.Rc

/-
  CacheAll: Put over both caches.
-/
namespace Go.Proofs.YtlcojcldbdikgaaGreatDoor.Rc
open Go.RowKit Go.Maps

theorem step_bytes {w w' : World} {s s' : CS} {vs : VS} {B B' : Nat → By} {b g : Nat} {bs : List (BitVec 8)} (ci : CI w s vs B) (hc : Cst w w' s s' vs B' b) (hb : Bytes w (some ⟨g, 0, none⟩) bs) (ht : ∃ cs fr, w.heap[g]? = some (.cells cs 5 fr)) : Bytes w' (some ⟨g, 0, none⟩) bs ∧ ∃ cs fr, w'.heap[g]? = some (.cells cs 5 fr) :=
  bytes_but hb ht hc.but (fun _ _ _ hk => cMine_not ci hk (.inr rfl))
theorem jput_ok (O : Nat → Array Value → Prop) (w0 w : World) (c base r : Nat) (vs : VS) (A : AC) (b vb n x g cp : Nat) (bs : List (BitVec 8)) (D : SV → List (BitVec 8)) (S : RS) (cont : Nat → By) (hp : JP O w0 w c vs A b vb) (hd : JD w0 w base r D S n cont) (hb : b < 800000) (hx : x < nbOf vs.d.n) (hok : A.held x = true ∨ A.full = false) (hbs : Bytes w (some ⟨g, 0, none⟩) bs) (hbl : bs.length = 512) (ht : ∃ cs fr, w.heap[g]? = some (.cells cs 5 fr)) :
    Calls Tryz.prog 14 #[ep c, .int .i64 (x : Nat), .slice (some ⟨g, 0, none⟩) 512 cp] w fun e w' => e = .returned (.int .i64 0) ∧ JP O w0 w' c vs (A.put x bs) (b + 1) vb ∧ JD w0 w' base r D S n cont ∧ Bytes w' (some ⟨g, 0, none⟩) bs ∧ ∃ cs fr, w'.heap[g]? = some (.cells cs 5 fr) := by
  obtain ⟨s, B, h1, h2, rfl, rfl, h5⟩ := hp.st
  have htag : ∀ g' o, some (⟨g, 0, none⟩ : Addr) = some ⟨g', o, none⟩ → ∃ cs fr, w.heap[g']? = some (.cells cs 5 fr) := fun g' o e => by
    injection e with e
    injection e with e _
    rw [← e]; exact ht
  have hcall : Calls Tryz.prog 14 #[ep s.c, .int .i64 (x : Nat), .slice (some ⟨g, 0, none⟩) 512 cp] w fun e w' => e = .returned (.int .i64 0) ∧ ∃ s' B', Cst w w' s s' vs B' b ∧ acOf s' B' = (acOf s B).put x bs := by
    by_cases hh : (acOf s B).held x = true
    · obtain ⟨a, ha, rfl⟩ := held_iff.1 hh
      cases hdy : (s.U a).dirty with
      | true => exact put_dirty s vs B a b _ cp bs w h1 h2 ha hdy hbs hbl hb
      | false => exact put_held s vs B a b _ cp bs w h1 h2 ha hdy hbs hbl hb htag
    · have hh' : (acOf s B).held x = false := by simpa using hh
      exact put_new s vs B x b _ cp bs w h1 h2 hx hh' (hok.resolve_left hh) hbs hbl hb htag
  refine hcall.mono ?_
  rintro e w' ⟨he, s', B', hc, hac⟩
  have := hp.cst h1 h5 hc rfl
  rw [hac] at this
  exact ⟨he, this, hd.cst h1 hc, step_bytes h1 hc hbs ht⟩
theorem jput_full (O : Nat → Array Value → Prop) (w0 w : World) (c base r : Nat) (vs : VS) (A : AC) (b vb n x cp : Nat) (q : Option Addr) (D : SV → List (BitVec 8)) (S : RS) (cont : Nat → By) (hp : JP O w0 w c vs A b vb) (hd : JD w0 w base r D S n cont) (hx : x < nbOf vs.d.n) (hh : A.held x = false) (hf : A.full = true) :
    Calls Tryz.prog 14 #[ep c, .int .i64 (x : Nat), .slice q 512 cp] w fun e w' => e = .returned (.int .i64 28) ∧ JP O w0 w' c vs A b vb ∧ JD w0 w' base r D S n cont ∧ Below w.heap.size w w' := by
  obtain ⟨s, B, h1, h2, rfl, rfl, h5⟩ := hp.st
  refine (put_full s vs B x q cp w h1 hx hh hf).mono ?_
  rintro e w' ⟨he, k, rfl⟩
  have hb : Below w.heap.size w (w.drewN k) := below_drewN (Below.refl _ _) k
  exact ⟨he, hp.by hb, hd.by hb, hb⟩
theorem jput_bad (O : Nat → Array Value → Prop) (w0 w : World) (c base r : Nat) (vs : VS) (A : AC) (b vb n m cp : Nat) (x : Int) (q : Option Addr) (D : SV → List (BitVec 8)) (S : RS) (cont : Nat → By) (hp : JP O w0 w c vs A b vb) (hd : JD w0 w base r D S n cont) (hx : ¬ (0 ≤ x ∧ x < nbOf vs.d.n) ∨ m ≠ 512) :
    Calls Tryz.prog 14 #[ep c, .int .i64 x, .slice q m cp] w fun e w' => e = .returned (.int .i64 22) ∧ JP O w0 w' c vs A b vb ∧ JD w0 w' base r D S n cont ∧ Below w.heap.size w w' := by
  obtain ⟨s, B, h1, h2, rfl, rfl, h5⟩ := hp.st
  exact (put_bad s vs B x q m cp w h1 hx).mono fun e w' ⟨he, hw⟩ => by subst hw; exact ⟨he, hp, hd, Below.refl _ _⟩

theorem touch_add (X : AC) (b : Nat) (d1 d2 d : By) : AC.touch (X.add b d1) b (putF d) = AC.touch (X.add b d2) b (putF d) := by
  simp [AC.touch, AC.add, putF]
theorem abs_congr {D D' : SV → List (BitVec 8)} {S : RS} (h : ∀ y ∈ S.L, D' y.b = D y.b) : abs D' S = abs D S := by
  unfold abs
  congr 1
  refine List.map_congr_left fun y hy => ?_
  unfold he
  rw [h y hy]
theorem put_abs {D : SV → List (BitVec 8)} {S S1 : RS} {b k : Nat} {y : RE} {sv : SV} {bs : List (BitVec 8)} {cont : Nat → By} (ha : Apart S.L) (hh : HoldsTo S b S1 k) (hv : ∀ i z, S.V[i]? = some z → D z = cont i) (hy : S1.L[k]? = some y) (hsv : D sv = bs) :
    abs D { useR S1 k y 0 0 with L := S1.L.set k { y with used := S1.time + 1, b := sv, dirty := true } } = (abs D S).put b bs ∧ Apart (S1.L.set k { y with used := S1.time + 1, b := sv, dirty := true }) := by
  obtain ⟨e1, ha1, y', hy', hb'⟩ := holds_abs ha hh (fun z hz => hv b z hz)
  rw [hy] at hy'
  injection hy' with hy'
  subst hy'
  refine ⟨?_, apart_set ha1 hy rfl⟩
  have ht := touch_abs (D := D) ha1 hy (fun z => { z with b := sv, dirty := true }) (putF bs) (fun z => by unfold putF he; rw [hsv]) 0 0
  refine ht.trans ?_
  rw [hb']
  have e2 : ({ abs D S1 with hit := S1.hit + 0, miss := S1.miss + 0 } : AC) = abs D S1 := rfl
  rw [e2, e1]
  unfold AC.put
  cases (abs D S).held b with
  | true => rfl
  | false => exact touch_add _ _ _ _ _

open Classical in
/-- A new slice has these bytes, the others theirs. -/
noncomputable def withB (D : SV → List (BitVec 8)) (sv : SV) (bs : List (BitVec 8)) : SV → List (BitVec 8) := fun z => if z = sv then bs else D z
theorem withB_new (D : SV → List (BitVec 8)) (sv : SV) (bs : List (BitVec 8)) : withB D sv bs sv = bs := by unfold withB; rw [if_pos rfl]
theorem withB_old {D : SV → List (BitVec 8)} {sv z : SV} {bs bz bw : List (BitVec 8)} {w w' : World} {lo : Nat} (hz : BRow w lo z bz) (hs : BRow w' w.heap.size sv bw) : withB D sv bs z = D z := by
  unfold withB
  rw [if_neg]
  rintro rfl
  obtain ⟨q, cs, e1, _, _, e4, _⟩ := hz
  obtain ⟨q', cs', f1, _, f3, _⟩ := hs
  rw [e1] at f1
  injection f1 with f1
  injection f1 with f1 _
  have := block_lt e4
  omega
theorem rput_ok (O : Nat → Array Value → Prop) (w0 w : World) (c base r : Nat) (vs : VS) (A : AC) (b vb n x g cp : Nat) (bs : List (BitVec 8)) (D : SV → List (BitVec 8)) (S : RS) (cont : Nat → By) (hp : JP O w0 w c vs A b vb) (hd : JD w0 w base r D S n cont) (hA : A = (abs D S).put x bs) (hs : Small S) (hx : x < n) (hok : (abs D S).held x = true ∨ (abs D S).full = false) (hbs : Bytes w (some ⟨g, 0, none⟩) bs) (hbl : bs.length = 512) (ht : ∃ cs fr, w.heap[g]? = some (.cells cs 5 fr)) (hbase : base ≤ w.heap.size) :
    Calls Tryz.prog 15 #[.pointer (some ⟨r, 0, none⟩), .int .i64 (x : Nat), .slice (some ⟨g, 0, none⟩) bs.length cp] w fun e w' => e = .returned (.int .i64 0) ∧ ∃ D' S', JP O w0 w' c vs A b vb ∧ JD w0 w' base r D' S' n cont ∧ abs D' S' = A := by
  obtain ⟨vv, lv, hr⟩ := hd.rf
  have hbt : ∀ b' o, 0 < bs.length → some (⟨g, 0, none⟩ : Addr) = some ⟨b', o, none⟩ → ¬ RT w.heap[b']? := fun b' o _ e => by
    injection e with e
    injection e with e _
    subst e
    obtain ⟨cs, fr, hq⟩ := ht
    rintro ⟨cs', t, f, e, ht'⟩
    rw [hq] at e
    simp only [Option.some.injEq, Obj.cells.injEq] at e
    obtain ⟨_, rfl, _⟩ := e
    rcases ht' with e | e | e <;> exact absurd e (by decide)
  refine (rput_any base r vv lv S (x : Nat) (some ⟨g, 0, none⟩) cp bs w hr hs hbs hbt).mono ?_
  rintro e w' ⟨hf, hm⟩
  have hl := hd.vl
  rcases hm with ⟨h1, _⟩ | ⟨b', e1, _, _, e3, e4, e5, _⟩ | ⟨b', k, S1, y, lv', sv, e1, _, _, hh, hy, h4, hsv, hR⟩
  · exact absurd ⟨by omega, by omega, hbl⟩ h1
  · obtain rfl : x = b' := by omega
    have hel := held_abs D S x
    rw [e3] at hel
    have hfu := (full_abs D S).2 ⟨e4, e5⟩
    rcases hok with h | h
    · rw [h] at hel; exact absurd hel (by decide)
    · rw [h] at hfu; cases hfu
  · obtain rfl : x = b' := by omega
    have oL : ∀ y ∈ S.L, withB D sv bs y.b = D y.b := fun y hy => withB_old (hd.dl y hy).1 hsv
    have oV : ∀ z ∈ S.V, withB D sv bs z = D z := fun z hz => withB_old (hd.dv z hz).1 hsv
    obtain ⟨_, _, _, _, hV⟩ := hh.get
    obtain ⟨q1, q2⟩ := put_abs (D := withB D sv bs) (cont := cont) hd.ap hh (fun i z hz => by rw [oV z (List.mem_of_getElem? hz)]; exact hd.vc i z hz) hy (withB_new D sv bs)
    rw [abs_congr oL, ← hA] at q1
    have hsv' : BRow w' base sv bs := by
      obtain ⟨q, cs, f1, f2, f3, f4, f5⟩ := hsv
      exact ⟨q, cs, f1, f2, Nat.le_trans hbase f3, f4, f5⟩
    have hrow : ∀ y ∈ S1.L, BRow w' base y.b (withB D sv bs y.b) ∧ (withB D sv bs y.b).length = 512 := holds_rows (P := fun v => BRow w' base v (withB D sv bs v) ∧ (withB D sv bs v).length = 512) hh (fun y hy => by rw [oL y hy]; exact ⟨brow_fr (hd.dl y hy).1 hf, (hd.dl y hy).2⟩) (fun z hz => by rw [oV z hz]; exact ⟨brow_fr (hd.dv z hz).1 hf, (hd.dv z hz).2⟩)
    refine ⟨h4, withB D sv bs, _, hp.fr hd.lo hf, ⟨⟨_, _, hR⟩, hd.lo, q2, set_rows (P := fun v => BRow w' base v (withB D sv bs v) ∧ (withB D sv bs v).length = 512) hrow k ?_, ?_, ?_, ?_⟩, q1⟩
    · show BRow w' base sv (withB D sv bs sv) ∧ (withB D sv bs sv).length = 512
      rw [withB_new]
      exact ⟨hsv', hbl⟩
    · intro z hz
      have hz' : z ∈ S.V := by rw [← hV]; exact hz
      rw [oV z hz']
      exact ⟨brow_fr (hd.dv z hz').1 hf, (hd.dv z hz').2⟩
    · show S1.V.length = n
      rw [hV]; exact hd.vl
    · intro i z hz
      have hz' : S.V[i]? = some z := by rw [← hV]; exact hz
      rw [oV z (List.mem_of_getElem? hz')]
      exact hd.vc i z hz'
theorem rput_no (O : Nat → Array Value → Prop) (w0 w : World) (c base r : Nat) (vs : VS) (A : AC) (b vb n cp : Nat) (x : Int) (q : Option Addr) (bs : List (BitVec 8)) (D : SV → List (BitVec 8)) (S : RS) (cont : Nat → By) (hp : JP O w0 w c vs A b vb) (hd : JD w0 w base r D S n cont) (hs : Small S) (hbs : Bytes w q bs) (ht : ∀ b' o, 0 < bs.length → q = some ⟨b', o, none⟩ → ¬ RT w.heap[b']?) (no : Bool)
    (hx : if no then ¬ (0 ≤ x ∧ x < n ∧ bs.length = 512) else ∃ b' : Nat, x = (b' : Nat) ∧ b' < n ∧ bs.length = 512 ∧ (abs D S).held b' = false ∧ (abs D S).full = true) :
    Calls Tryz.prog 15 #[.pointer (some ⟨r, 0, none⟩), .int .i64 x, .slice q bs.length cp] w fun e w' => e = .returned (.int .i64 (if no then 22 else 28)) ∧ JP O w0 w' c vs A b vb ∧ JD w0 w' base r D S n cont := by
  obtain ⟨vv, lv, hr⟩ := hd.rf
  refine (rput_any base r vv lv S x q cp bs w hr hs hbs ht).mono ?_
  rintro e w' ⟨hf, hm⟩
  have hl := hd.vl
  cases no with
  | true =>
    simp only [if_true] at hx ⊢
    rcases hm with ⟨_, h1, h2⟩ | ⟨b', e1, e2, e3, _⟩ | ⟨b', k, S1, y, lv', sv, e1, e2, e3, _⟩
    · exact ⟨h1, hp.fr hd.lo hf, hd.same hf ⟨_, _, h2⟩⟩
    · exact absurd ⟨by omega, by omega, e3⟩ hx
    · exact absurd ⟨by omega, by omega, e3⟩ hx
  | false =>
    simp only [Bool.false_eq_true, if_false] at hx ⊢
    obtain ⟨b0, rfl, q2, q3, q4, q5⟩ := hx
    rcases hm with ⟨h1, _⟩ | ⟨b', e1, e2, e3, _, _, _, h1, h2⟩ | ⟨b', k, S1, y, lv', sv, e1, e2, e3, hh, _⟩
    · exact absurd ⟨by omega, by omega, q3⟩ h1
    · exact ⟨h1, hp.fr hd.lo hf, hd.same hf ⟨_, _, h2⟩⟩
    · obtain rfl : b0 = b' := by omega
      exact absurd hh (not_holds q4 q5)

end Go.Proofs.YtlcojcldbdikgaaGreatDoor.Rc

/-
  DERIVED: THE SHELF's CONTRACTS AT THIS DUMP, IN PLAIN WORDS (tools/lay-plain.mjs out of 'YtlcojcldbdikgaaGreatDoorShelfb.lean', which tools/lay-shelf.mjs wrote): THE SAME DECLARATIONS UNDER THE SAME NAMES: 'import', 'namespace', 'open', 'def', 'theorem' AND NOTHING ELSE: no command of the shelf's: FOR A HAND-IN. Each laying: the table of numbers ('.._ren') and one theorem, a field a fact of the dump's own or the kernel's comparison; each contract: ONE APPLICATION.
-/
namespace Go.Proofs
open Go.Shelf
def Tryz.keysC_ren : Go.Shelf.Ren := ⟨fun | 7 => 72 | 10 => 108 | n => n, fun | 23 => 53 | 26 => 3 | 3 => 58 | 28 => 101 | 0 => 0 | 27 => 100 | 33 => 47 | 4 => 4 | n => n, fun | n => n⟩
theorem Tryz.keysC : Go.Proofs.SlLaysZI.n7 Tryz.prog Tryz.keysC_ren := {
  mixed := by kernel_rfl
  f7 := ⟨Tryz.f72.name, by decide, Tryz.func72.trans (congrArg some (by kernel_rfl))⟩
  f10 := ⟨Tryz.f108.name, by decide, Tryz.func108.trans (congrArg some (by kernel_rfl))⟩
  t0 := Tryz.underlying0
  a0 := Tryz.isAgg0
  z0 := Tryz.sizeOf0
  v0 := Tryz.zeroValue0
  t4 := Tryz.underlying4
  a4 := Tryz.isAgg4
  z4 := Tryz.sizeOf4
  v4 := Tryz.zeroValue4
  t23 := Tryz.underlying53
  a23 := Tryz.isAgg53
  z23 := Tryz.sizeOf53
  v23 := Tryz.zeroValue53
  t26 := Tryz.underlying3
  a26 := Tryz.isAgg3
  z26 := Tryz.sizeOf3
  v26 := Tryz.zeroValue3
  t27 := Tryz.underlying100
  a27 := Tryz.isAgg100
  z27 := Tryz.sizeOf100
  v27 := Tryz.zeroValue100
  t28 := Tryz.underlying101
  a28 := Tryz.isAgg101
  z28 := Tryz.sizeOf101
  v28 := Tryz.zeroValue101
  t33 := Tryz.underlying47
  a33 := Tryz.isAgg47
  z33 := Tryz.sizeOf47
  v33 := Tryz.zeroValue47 }
end Go.Proofs

/-
  Held of package bcache: the numbers of the blocks that are held, rising.
-/
namespace Go.Proofs.YtlcojcldbdikgaaGreatDoor
open Go.RowKit Go.Maps Go.Sort Go.Shelf Go.ChangeMaps Go.MapKept
open Go.WideElems (Fit rd rg pl rd_val elemAt rd_key rg_of)

set_option maxRecDepth 8000 in
set_option maxHeartbeats 1000000 in
theorem held_raw (s : CS) (w : World) (h : CM w s) (hl : s.A.length ≤ 4096) :
    Calls Tryz.prog 39 #[ep s.c] w fun e w' => ∃ (v : Value) (ss : List Int), e = .returned v ∧ ss.Perm (intKeys s.F) ∧
      w'.ownsRow w.heap.size 3 1 v ss.length ((ss.mergeSort (fun x y => decide (x ≤ y))).map encZ) ∧ (v = .slice none 0 0 ↔ ss = []) ∧ Below w.heap.size w w' := by
  refine (callsIn_wide (n := 6)).1 ?_
  have hown := h.hm.own
  have hbl := hown.lt
  have hsz := h.hm.size
  have c2 : w.cell? ⟨s.c, 2, none⟩ = some (.map (some s.h)) := by rw [cellOf h.hp.cell 2]; rfl
  have hseq : SeqGives Fence.wide 2 Tryz.prog 108 #[.pointer (some ⟨w.heap.size, 0, none⟩)] encZ (fun ss => ss.Perm (intKeys s.F)) (Maps.size s.F) (w.alloc (.cells #[.map (some s.h)] 53)) :=
    AnyZI.keys_gives (ρ := Tryz.keysC_ren) { Tryz.keysC with } Fence.wide _ trivial rfl (by omega) w.heap.size s.h s.nh s.F _ (by simp) (by simp) (by
      obtain ⟨es, clock, hb, Ft, hs, hD⟩ := hown
      exact ⟨es, clock, (Below.heap_alloc _ _ s.h hbl).trans hb, Ft, hs, hD⟩)
  have cK : ∀ mb W, CallsIn Fence.wide 5 Tryz.prog 72 #[.map mb] W fun e w' => e = .returned (.func (.func 108) #[] #[.pointer (some ⟨W.heap.size, 0, none⟩)]) ∧ w' = W.alloc (.cells #[.map mb] 53) := fun mb W => AnyZI.keys_in Tryz.keysC Fence.wide 5 trivial rfl mb W
  have cS := AnyZI.sorted_in Tryz.sortedA Fence.wide 5 trivial trivial trivial trivial rfl (by omega) (sortsA _) (enters_of Tryz.func107 (by kernel_rfl) rfl) 108 #[.pointer (some ⟨w.heap.size, 0, none⟩)] trivial (enters_of Tryz.func108 (by kernel_rfl) rfl) _ _ (by rw [hsz]; unfold maxLen; omega) (by rw [hsz]; omega) _ hseq
  change CallsIn _ _ Tryz.prog 71 _ _ _ at cS
  have hfK : Fence.wide.fn 72 := trivial
  have hfS : Fence.wide.fn 71 := trivial
  clear hown h hseq
  refine callsIn_of_wp Tryz.func39 rfl trivial ?_ rfl
  simp only [Tryz.ntmps39, List.size_toArray, List.length_cons, List.length_nil, Nat.reduceAdd, Nat.reduceSub, Array.replicate_succ, Array.replicate_zero, List.push_toArray, List.append_toArray, List.nil_append, List.cons_append]
  gi_wp2_with (first
    | (gi_at_call 72; refine (cK _ _).mono ?_; rintro e w' ⟨rfl, rfl⟩)
    | (gi_at_call 71; refine cS.mono ?_; rintro e w' ⟨v, ss, rfl, hS, hrow, hnil, hb⟩))
  go_ret
  exact ⟨v, ss, rfl, hS, ownsRow_base_a hrow (by simp), hnil, ((Below.refl _ w).alloc (Nat.le_refl _) _).trans (hb.mono (by simp))⟩

/-- The blocks that are held, rising. -/
def heldL (A : AC) (nb : Nat) : List Nat := (List.range nb).filter fun j => A.held j

set_option maxRecDepth 100000 in
theorem held_keys {w : World} {s : CS} {vs : VS} {B : Nat → By} (h : CI w s vs B) : keys s.F = (heldL (acOf s B) (nbOf vs.d.n)).map fun j : Nat => (j : Int) := by
  have hown := h.cm.hm.own
  have hhas := h.cm.hm.has
  obtain ⟨es, he, hp⟩ := hown.tidy keyed
  rw [he] at hown hhas ⊢
  have hk : ∀ p ∈ es, ∃ x, p.1 = .int .i64 x := by
    intro p hpm
    obtain ⟨es0, clock, _, F, _, hD⟩ := hown
    cases hD
    obtain ⟨x, hx, rfl⟩ := List.mem_map.1 (mem_sorted.1 hpm)
    obtain ⟨y, hy⟩ := F.reads x hx
    rw [rg_of hy]
    obtain ⟨x, _, hx, _⟩ := Maps.keyOf_i64 Tryz.underlying3 (rd_key hy)
    exact ⟨x, hx⟩
  have hpl : (heldL (acOf s B) (nbOf vs.d.n)).Pairwise (· < ·) := List.Pairwise.filter _ List.pairwise_lt_range
  have hnd : ((heldL (acOf s B) (nbOf vs.d.n)).map fun j : Nat => (j : Int)).Nodup := by
    refine List.pairwise_map.2 (List.Pairwise.imp (R := (· < ·)) (fun h => by omega) hpl)
  have hmem : ∀ j, j ∈ heldL (acOf s B) (nbOf vs.d.n) ↔ j < nbOf vs.d.n ∧ (acOf s B).held j = true := fun j => by
    unfold heldL
    rw [List.mem_filter, List.mem_range]
  have hperm := perm_intKeys hp hk hnd (fun x => by
    constructor
    · intro hx
      obtain ⟨j, hj, rfl⟩ := List.mem_map.1 hx
      obtain ⟨a, ha, e⟩ := held_iff.1 ((hmem j).1 hj).2
      exact (hhas _).2 ⟨a, ha, by omega⟩
    · intro hx
      obtain ⟨a, ha, e⟩ := (hhas x).1 hx
      refine List.mem_map.2 ⟨(s.U a).block, (hmem _).2 ⟨h.blk a ha, held_iff.2 ⟨a, ha, rfl⟩⟩, e⟩)
  unfold keys
  rw [← mergeSort_of_perm_i hperm]
  refine List.mergeSort_of_pairwise ?_
  rw [List.pairwise_map]
  exact List.Pairwise.imp (R := (· < ·)) (fun h => by simp; omega) hpl

/-- A slice of numbers. -/
def IntsAt (w : World) (p : Option Addr) (l : List Nat) : Prop := 0 < l.length → ∃ g, p = some ⟨g, 0, none⟩ ∧ (∃ cs fr, w.heap[g]? = some (.cells cs 3 fr)) ∧ ∀ k x, l[k]? = some x → w.cell? ⟨g, k, none⟩ = some (.int .i64 (x : Nat))
theorem IntsAt.but {w w' : World} {p : Option Addr} {l : List Nat} {S : Nat → Prop} (h : IntsAt w p l) (hb : But S w w') (hS : ∀ k cs fr, w.heap[k]? = some (.cells cs 3 fr) → ¬ S k) : IntsAt w' p l := by
  intro hl
  obtain ⟨g, e, ⟨cs, fr, ht⟩, hc⟩ := h hl
  have hk := hb.block g (Array.getElem?_eq_some_iff.1 ht).1 (hS g cs fr ht)
  exact ⟨g, e, ⟨cs, fr, hk.trans ht⟩, fun k x hx => (World.cell?_of_block (w := w) hk).trans (hc k x hx)⟩
theorem IntsAt.below {w w' : World} {p : Option Addr} {l : List Nat} (h : IntsAt w p l) (hb : Below w.heap.size w w') : IntsAt w' p l :=
  h.but (S := fun _ => False) (But.of_below hb) (fun _ _ _ _ h => h)

theorem held_cache (s : CS) (vs : VS) (B : Nat → By) (w : World) (h : CI w s vs B) :
    Calls Tryz.prog 39 #[ep s.c] w fun e w' => ∃ p cp, e = .returned (.slice p (heldL (acOf s B) (nbOf vs.d.n)).length cp) ∧ IntsAt w' p (heldL (acOf s B) (nbOf vs.d.n)) ∧ Below w.heap.size w w' := by
  refine (held_raw s w h.cm (by have := h.room; omega)).mono ?_
  rintro e w' ⟨v, ss, rfl, hperm, hrow, hnil, hb⟩
  have hk : ss.mergeSort (fun x y => decide (x ≤ y)) = keys s.F := mergeSort_of_perm_i hperm
  have hlen : ss.length = (heldL (acOf s B) (nbOf vs.d.n)).length := by
    have : (ss.mergeSort (fun x y => decide (x ≤ y))).length = ss.length := by simp
    rw [← this, hk, held_keys h]; simp
  rw [hk, hlen, held_keys h] at hrow
  rcases hrow.2 with ⟨rfl, h0⟩ | ⟨g, cap, cur, rfl, hg, hblk, hcap, _, hsz, htk⟩
  · exact ⟨none, 0, by rw [h0], fun hp => by omega, hb⟩
  · refine ⟨_, cap, rfl, fun _ => ⟨g, rfl, ⟨_, _, hblk⟩, fun k x hx => ?_⟩, hb⟩
    have hlt := (List.getElem?_eq_some_iff.1 hx).1
    rw [hrow.cellAt k (by simpa using hlt)]
    simp [hx, encZ]

end Go.Proofs.YtlcojcldbdikgaaGreatDoor

/-
  CacheAll: same, over both caches.
-/
namespace Go.Proofs.YtlcojcldbdikgaaGreatDoor.Rc
open Go.RowKit Go.Maps

theorem JP.blk {O : Nat → Array Value → Prop} {w0 w : World} {c : Nat} {vs : VS} {A : AC} {b vb : Nat} (h : JP O w0 w c vs A b vb) : ∀ e ∈ A.L, e.block < nbOf vs.d.n := by
  obtain ⟨s, B, h1, h2, h3, rfl, h5⟩ := h.st
  intro e he
  obtain ⟨a, ha, rfl⟩ := List.mem_map.1 he
  exact h1.blk a ha
theorem nums_of {w : World} {p : Option Addr} {l : List Nat} (h : IntsAt w p l) : Nums w p l := fun k x hk => by
  have hl := (List.getElem?_eq_some_iff.1 hk).1
  obtain ⟨g, e, _, hc⟩ := h (by omega)
  exact ⟨g, 0, e, by rw [Nat.zero_add]; exact hc k x hk⟩
theorem jsame (O : Nat → Array Value → Prop) (w0 w : World) (c base r : Nat) (vs : VS) (A : AC) (b vb : Nat) (x : Int) (D : SV → List (BitVec 8)) (S : RS) (cont : Nat → By) (hp : JP O w0 w c vs A b vb) (hd : JD w0 w base r D S (nbOf vs.d.n) cont) (hA : abs D S = A) (hs : Small S) (q1 : -9223372036854775808 ≤ x) (q2 : x < 9223372036854775808) (hn : nbOf vs.d.n ≤ 100000) :
    Calls Tryz.prog 20 #[ep c, .pointer (some ⟨r, 0, none⟩), .int .i64 x] w fun e w' => e = .returned (.bool true) ∧ JP O w0 w' c vs A b vb ∧ JD w0 w' base r D S (nbOf vs.d.n) cont ∧ Below w.heap.size w w' := by
  have hblk := hp.blk
  obtain ⟨s, B, h1, h2, rfl, h4, h5⟩ := hp.st
  obtain ⟨vv, lv, hr⟩ := hd.rf
  have hl := hd.vl
  have hL : heldR S.L S.V.length = heldL (acOf s B) (nbOf vs.d.n) := by
    rw [heldR_abs D S, hl, hA, h4]; rfl
  obtain ⟨hb, hbe⟩ : ∃ hb, (decide (0 ≤ x) && (acOf s B).held x.toNat) = hb := ⟨_, rfl⟩
  have hbe2 : (decide (0 ≤ x) && (decide (x < (S.V.length : Int)) && (heldR S.L S.V.length).any (fun b => decide ((b : Int) = x)))) = hb := by
    rw [← hbe]
    by_cases h0 : 0 ≤ x
    · obtain ⟨k, rfl⟩ : ∃ k : Nat, x = k := ⟨x.toNat, by omega⟩
      rw [decide_eq_true h0, Bool.true_and, Bool.true_and, Int.toNat_natCast, hL, Bool.eq_iff_iff, Bool.and_eq_true, decide_eq_true_eq, List.any_eq_true]
      constructor
      · rintro ⟨_, y, hy, e⟩
        have e' : y = k := Int.ofNat.inj (of_decide_eq_true e)
        subst e'
        exact (List.mem_filter.1 hy).2
      · intro hh
        have hk : k < nbOf vs.d.n := by
          unfold AC.held at hh
          obtain ⟨z, hz, e⟩ := List.any_eq_true.1 hh
          have e' : z.block = k := by simpa using e
          rw [← e']
          rw [h4] at hz
          exact hblk z hz
        exact ⟨by omega, k, List.mem_filter.2 ⟨List.mem_range.2 hk, hh⟩, by simp⟩
    · rw [decide_eq_false h0, Bool.false_and, Bool.false_and]
  have hsm : S.hit = s.met ∧ S.miss = s.missed ∧ S.outs = s.out := by
    have e := hA.trans h4.symm
    exact ⟨congrArg AC.hit e, congrArg AC.miss e, congrArg AC.outs e⟩
  have := same_true s.c r x base vv lv S w hr ⟨hs.1, by omega⟩ hb hbe2
    ((held_cache s vs B w h1).mono fun e w' ⟨p, cp, he, hi, hbw⟩ => by
      rw [hL]; exact ⟨p, cp, he, nums_of hi, hbw⟩)
    (fun W hW => (counts_cache s vs B W (h1.below hW)).mono fun e w' ⟨he, q, hw⟩ => by
      subst hw
      rw [hsm.1, hsm.2.1, hsm.2.2]
      exact ⟨he, below_drewN (Below.refl _ _) q⟩)
    (fun W hW => has_cache s vs B x W (h1.below hW) q1 q2 hb hbe)
  exact this.mono fun e w' ⟨he, hw⟩ => ⟨he, hp.by hw, hd.by hw, hw⟩

end Go.Proofs.YtlcojcldbdikgaaGreatDoor.Rc

/-
  A volume's Commit of no puts, whatever the slice.
-/
namespace Go.Proofs.YtlcojcldbdikgaaGreatDoor
open Go.RowKit Go.Maps Go.Sort Go.Shelf

theorem index_empty (q : Option Addr) (c : Nat) (v : Value) (w : World) : Calls Tryz.prog 118 #[.slice q 0 c, v] w fun e w' => e = .returned (.int .i64 (-1)) ∧ w' = w := by
  go_enter Tryz.func118, Tryz.ntmps118
  go_wp2_with fail
  go_loop [8] (fun ii => ii = .int .i64 0) (fun _ => 0)
  case atStart => rfl
  case round =>
    subst hrel
    go_wp2
    go_ret
    exact ⟨rfl, rfl⟩

theorem contains_empty (q : Option Addr) (c : Nat) (v : Value) (w : World) : Calls Tryz.prog 99 #[.slice q 0 c, v] w fun e w' => e = .returned (.bool false) ∧ w' = w := by
  have c65 := index_empty q c v w
  go_enter Tryz.func99, Tryz.ntmps99
  go_wp2_with (go_at_call 118; refine Calls_on c65 ?_)
  go_ret
  exact ⟨rfl, rfl⟩

set_option maxRecDepth 8000 in
set_option maxHeartbeats 1000000 in
theorem takes_empty (q : Option Addr) (c : Nat) (v : Nat) (commits turn next : Nat) (f : Option Nat) (count : Int) (d : DS) (w : World) (h : IsVol w v (dp d.a) commits turn next f count) (hd : Dev w d) (hn : 16 ≤ d.n) :
    Calls Tryz.prog 68 #[dp v, .slice q 0 c] w fun e w' => e = .returned (.bool true) ∧ Below w.heap.size w w' := by
  have hmf := mkf
  have hB1 : Below w.heap.size w (w.alloc (.cells #[dp v] 24)) := (Below.refl _ w).alloc (Nat.le_refl _) _
  have c9 := vBlocks v commits turn next f count d _ (h.below hB1) (hd.below hB1) hn
  have HB1 : Hid (Below w.heap.size w (w.alloc (.cells #[dp v] 24))) := hB1
  obtain ⟨nb, hnb⟩ : ∃ nb, nbOf d.n = nb := ⟨_, rfl⟩
  rw [hnb] at c9
  have hl0 : (0 : Int) ≤ (nb : Nat) := by omega
  have c49 := contains_empty q c
  clear h hd hB1 hnb
  go_enter Tryz.func68, Tryz.ntmps68
  go_wp2_with (first | (go_at_call 33; refine Calls_on c9 ?_) | (go_at_call 99; refine Calls_on (c49 _ _) ?_))
  go_ret
  exact ⟨rfl, HB1.out⟩

set_option maxRecDepth 8000 in
set_option maxHeartbeats 1000000 in
theorem vCommit_empty (q : Option Addr) (c : Nat) (s : VS) (w : World) (h : VI w s) :
    Calls Tryz.prog 38 #[dp s.v, .slice q 0 c] w fun e w' => e = .returned (.int .i64 0) ∧ Below w.heap.size w w' := by
  have c46 := takes_empty q c s.v s.commits s.turn s.next (some s.f) s.d.count s.d w h.vol h.dev h.n16
  have hdead : s.d.dead = false := by unfold DS.dead; rw [h.fused]; rfl
  have c48 : ∀ W : World, Below w.heap.size w W → Calls Tryz.prog 53 #[dp s.v] W fun e w' => e = .returned (.int .i64 0) ∧ w' = W := by
    intro W hW
    have := checkLife s.v s.commits s.turn s.next (some s.f) s.d.count s.d W (h.vol.below hW) (h.dev.below hW)
    rw [hdead] at this
    exact this
  clear h
  go_enter Tryz.func38, Tryz.ntmps38
  go_wp2_with (first
    | (go_at_call 68; refine c46.mono ?_; rintro e w1 ⟨rfl, hB1⟩; clear c46; have c48' := c48 w1 hB1; clear c48)
    | (go_at_call 53; refine Calls_on c48' ?_))
  go_ret
  exact ⟨rfl, hB1⟩

end Go.Proofs.YtlcojcldbdikgaaGreatDoor

/-
  DERIVED: THE SHELF's CONTRACTS AT THIS DUMP, IN PLAIN WORDS (tools/lay-plain.mjs out of 'YtlcojcldbdikgaaGreatDoorShelfc.lean', which tools/lay-shelf.mjs wrote): THE SAME DECLARATIONS UNDER THE SAME NAMES: 'import', 'namespace', 'open', 'def', 'theorem' AND NOTHING ELSE: no command of the shelf's: FOR A HAND-IN. Each laying: the table of numbers ('.._ren') and one theorem, a field a fact of the dump's own or the kernel's comparison; each contract: ONE APPLICATION.
-/
namespace Go.Proofs
open Go.Shelf
def Tryz.sortE_ren : Go.Shelf.Ren := ⟨fun | 6 => 35 | 15 => 66 | 14 => 65 | 28 => 96 | 29 => 97 | 20 => 88 | 21 => 89 | 22 => 90 | 23 => 91 | 24 => 92 | 25 => 93 | 26 => 94 | 27 => 95 | 46 => 113 | 47 => 114 | 48 => 115 | 49 => 116 | 50 => 117 | 57 => 127 | n => n, fun | 22 => 54 | 24 => 58 | 25 => 74 | 3 => 3 | 39 => 95 | 0 => 0 | 53 => 131 | 55 => 133 | 4 => 4 | 46 => 124 | 45 => 123 | 50 => 128 | 5 => 5 | 9 => 9 | 66 => 151 | 70 => 155 | 76 => 164 | 77 => 165 | n => n, fun | n => n⟩
theorem Tryz.sortE : Go.Proofs.SlLaysF.n6 Tryz.prog Tryz.sortE_ren := {
  mixed := by kernel_rfl
  f6 := ⟨Tryz.f35.name, by decide, Tryz.func35.trans (congrArg some (by kernel_rfl))⟩
  f14 := ⟨Tryz.f65.name, by decide, Tryz.func65.trans (congrArg some (by kernel_rfl))⟩
  f15 := Tryz.func66.trans (congrArg some (by kernel_rfl))
  f20 := ⟨Tryz.f88.name, by decide, Tryz.func88.trans (congrArg some (by kernel_rfl))⟩
  f21 := ⟨Tryz.f89.name, by decide, Tryz.func89.trans (congrArg some (by kernel_rfl))⟩
  f22 := ⟨Tryz.f90.name, by decide, Tryz.func90.trans (congrArg some (by kernel_rfl))⟩
  f23 := ⟨Tryz.f91.name, by decide, Tryz.func91.trans (congrArg some (by kernel_rfl))⟩
  f24 := ⟨Tryz.f92.name, by decide, Tryz.func92.trans (congrArg some (by kernel_rfl))⟩
  f25 := ⟨Tryz.f93.name, by decide, Tryz.func93.trans (congrArg some (by kernel_rfl))⟩
  f26 := ⟨Tryz.f94.name, by decide, Tryz.func94.trans (congrArg some (by kernel_rfl))⟩
  f27 := ⟨Tryz.f95.name, by decide, Tryz.func95.trans (congrArg some (by kernel_rfl))⟩
  f28 := Tryz.func96.trans (congrArg some (by kernel_rfl))
  f29 := Tryz.func97.trans (congrArg some (by kernel_rfl))
  f46 := ⟨Tryz.f113.name, by decide, Tryz.func113.trans (congrArg some (by kernel_rfl))⟩
  f47 := Tryz.func114.trans (congrArg some (by kernel_rfl))
  f48 := Tryz.func115.trans (congrArg some (by kernel_rfl))
  f49 := ⟨Tryz.f116.name, by decide, Tryz.func116.trans (congrArg some (by kernel_rfl))⟩
  f50 := ⟨Tryz.f117.name, by decide, Tryz.func117.trans (congrArg some (by kernel_rfl))⟩
  f57 := ⟨Tryz.f127.name, by decide, Tryz.func127.trans (congrArg some (by kernel_rfl))⟩
  t0 := Tryz.underlying0
  a0 := Tryz.isAgg0
  z0 := Tryz.sizeOf0
  v0 := Tryz.zeroValue0
  t3 := Tryz.underlying3
  a3 := Tryz.isAgg3
  z3 := Tryz.sizeOf3
  v3 := Tryz.zeroValue3
  t4 := Tryz.underlying4
  a4 := Tryz.isAgg4
  z4 := Tryz.sizeOf4
  v4 := Tryz.zeroValue4
  t5 := Tryz.underlying5
  a5 := Tryz.isAgg5
  z5 := Tryz.sizeOf5
  v5 := Tryz.zeroValue5
  t9 := Tryz.underlying9
  a9 := Tryz.isAgg9
  z9 := Tryz.sizeOf9
  v9 := Tryz.zeroValue9
  t22 := Tryz.underlying54
  a22 := Tryz.isAgg54
  z22 := Tryz.sizeOf54
  v22 := Tryz.zeroValue54
  a24 := Tryz.isAgg58
  z24 := Tryz.sizeOf58
  t25 := Tryz.underlying74
  a25 := Tryz.isAgg74
  z25 := Tryz.sizeOf74
  v25 := Tryz.zeroValue74
  t39 := Tryz.underlying95
  a39 := Tryz.isAgg95
  z39 := Tryz.sizeOf95
  v39 := Tryz.zeroValue95
  t45 := Tryz.underlying123
  a45 := Tryz.isAgg123
  z45 := Tryz.sizeOf123
  v45 := Tryz.zeroValue123
  t46 := Tryz.underlying124
  a46 := Tryz.isAgg124
  z46 := Tryz.sizeOf124
  v46 := Tryz.zeroValue124
  t50 := Tryz.underlying128
  a50 := Tryz.isAgg128
  z50 := Tryz.sizeOf128
  v50 := Tryz.zeroValue128
  t53 := Tryz.underlying131
  a53 := Tryz.isAgg131
  z53 := Tryz.sizeOf131
  v53 := Tryz.zeroValue131
  t55 := Tryz.underlying133
  a55 := Tryz.isAgg133
  z55 := Tryz.sizeOf133
  v55 := Tryz.zeroValue133
  t66 := Tryz.underlying151
  a66 := Tryz.isAgg151
  z66 := Tryz.sizeOf151
  v66 := Tryz.zeroValue151
  t70 := Tryz.underlying155
  a70 := Tryz.isAgg155
  z70 := Tryz.sizeOf155
  v70 := Tryz.zeroValue155
  t76 := Tryz.underlying164
  a76 := Tryz.isAgg164
  z76 := Tryz.sizeOf164
  v76 := Tryz.zeroValue164
  t77 := Tryz.underlying165
  a77 := Tryz.isAgg165
  z77 := Tryz.sizeOf165
  v77 := Tryz.zeroValue165 }
end Go.Proofs

/-
  slices.SortFunc of what is dirty in a cache.
-/
namespace Go.Proofs.YtlcojcldbdikgaaGreatDoor
open Go.RowKit Go.Maps Go.Sort Go.Shelf

def cmpI (x y : Int) : Int := if x < y then -1 else if x > y then 1 else 0

set_option maxRecDepth 8000 in
set_option maxHeartbeats 1000000 in
theorem compare_any (x y : Int) (w : World) : Calls Tryz.prog 37 #[.int .i64 x, .int .i64 y] w fun e w' => e = .returned (.int .i64 (cmpI x y)) ∧ w' = w := by
  have e1 : (x != x) = false := by simp
  have e2 : (y != y) = false := by simp
  by_cases h1 : x < y
  · go_enter Tryz.func37, Tryz.ntmps37
    go_wp2
    go_ret
    exact ⟨by unfold cmpI; rw [if_pos h1]; rfl, rfl⟩
  · by_cases h2 : x > y
    · go_enter Tryz.func37, Tryz.ntmps37
      go_wp2
      go_ret
      exact ⟨by unfold cmpI; rw [if_neg (by omega), if_pos h2]; rfl, rfl⟩
    · go_enter Tryz.func37, Tryz.ntmps37
      go_wp2
      go_ret
      exact ⟨by unfold cmpI; rw [if_neg (by omega), if_neg (by omega)]; rfl, rfl⟩

set_option maxRecDepth 8000 in
set_option maxHeartbeats 1000000 in
theorem cmp_entries (a b : Nat) (x y : Int) (w : World) (ha : w.cell? ⟨a, 0, none⟩ = some (.int .i64 x)) (hb : w.cell? ⟨b, 0, none⟩ = some (.int .i64 y)) :
    Calls Tryz.prog 36 #[ep a, ep b] w fun e w' => e = .returned (.int .i64 (cmpI x y)) ∧ ∃ q, w' = w.drewN q := by
  have cC := compare_any x y
  generalize cmpI x y = r at *
  go_enter Tryz.func36, Tryz.ntmps36
  go_wp2_with fail
  go_quiet ((go_at_call 37; exact Calls.quiet_of_same (cC _)))
  go_wp2
  go_ret
  exact ⟨rfl, _, rfl⟩

theorem ltOf_cmp (f : Nat → Nat) (x y : Nat) : decide (cmpI (f x : Int) (f y : Int) < 0) = decide (f x < f y) := by
  unfold cmpI
  by_cases h : f x < f y
  · have h' : ((f x : Nat) : Int) < f y := by omega
    rw [if_pos h']; simp [h]
  · have h' : ¬ ((f x : Nat) : Int) < f y := by omega
    rw [if_neg h']
    split <;> simp [h]

/-- The heap behind a sort. -/
theorem sortWorld_block {α : Type} [Inhabited α] (enc : α → Value) (w : World) (g n : Nat) (d : Array α) (os : Array Obj) {cur : Array Value} {t : TypeId} {fr : Nat × Nat} (hg : w.heap[g]? = some (.cells cur t fr)) :
    (sortWorld enc w g 0 n d os).heap[g]? = some (.cells (Sort.putCells enc 0 d cur) t fr) ∧ But (fun k => k = g) w (sortWorld enc w g 0 n d os) := by
  have hlt := (Array.getElem?_eq_some_iff.1 hg).1
  refine ⟨?_, rfl, rfl, rfl, ?_, fun k hk hne => ?_⟩
  · show ((w.heap.modify g _) ++ os)[g]? = _
    rw [Array.getElem?_append_left (by simpa using hlt), Array.getElem?_modify, if_pos rfl, hg]
    rfl
  · show w.heap.size ≤ ((w.heap.modify g _) ++ os).size
    simp
  · show ((w.heap.modify g _) ++ os)[k]? = _
    rw [Array.getElem?_append_left (by simpa using hk), Array.getElem?_modify, if_neg (fun e => hne e.symm)]

theorem sort_dirty (s : CS) (w : World) (h : CM w s) (hne : 0 < s.D.length) (hD : ∀ a ∈ s.D, a ∈ s.A) (hl : s.D.length < 100000) :
    Calls Tryz.prog 35 #[.slice s.dq s.D.length s.dcap, .func (.func 36) #[] #[]] w fun e w' => e = .returned (.tuple #[]) ∧ ∃ D', D'.Perm s.D ∧ CM w' { s with D := D' } ∧ But (cMine w s.h) w w' := by
  obtain ⟨a0, ha0⟩ : ∃ a, a ∈ s.A := ⟨s.D.getD 0 0, hD _ (getD_mem hne)⟩
  letI : Inhabited { a : Nat // a ∈ s.A } := ⟨⟨a0, ha0⟩⟩
  rcases h.row.2 with ⟨_, h0⟩ | ⟨g, cap, cur, e, _, hblk, hcap, hcm, hcs, htk⟩
  · omega
  have hq : s.dq = some ⟨g, 0, none⟩ ∧ s.dcap = cap := by injection e with e1 e2 e3; exact ⟨e1, e3⟩
  obtain ⟨d, hd⟩ : ∃ d : Array { a : Nat // a ∈ s.A }, d.toList.map (·.1) = s.D := ⟨(s.D.attachWith _ hD).toArray, by simp⟩
  have hsz : d.size = s.D.length := by rw [← hd]; simp
  have hget : ∀ j, (hj : j < d.size) → (d[j]!).1 = s.D.getD j 0 := fun j hj => by
    rw [getElem!_pos d j hj]
    have : (d.toList.map (·.1))[j]? = some (d[j]).1 := by simp [hj]
    rw [hd] at this
    simp [List.getD, this]
  have hrow := h.row
  rw [hq.1] at hrow
  have hH : Holds (fun x : { a : Nat // a ∈ s.A } => ep x.1) w g 0 d := fun j hj => by
    refine ⟨?_, frozenOf hblk (0 + j)⟩
    show w.cell? ⟨g, 0 + j, none⟩ = some (ep (d[j]!).1)
    rw [Nat.zero_add, hrow.cellAt j (by omega), List.getElem?_map, List.getElem?_eq_getElem (by rw [← hsz]; exact hj), hget j hj]
    simp [List.getD, show j < s.D.length by rw [← hsz]; exact hj]
  have hcmp : CmpReads Tryz.prog 36 #[] (fun x : { a : Nat // a ∈ s.A } => ep x.1) (fun x y => cmpI ((s.U x.1).block : Nat) ((s.U y.1).block : Nat)) g 0 d.size w := by
    intro m os dk _ x y
    obtain ⟨_, hbut⟩ := sortWorld_block (fun x : { a : Nat // a ∈ s.A } => ep x.1) w g m dk os hblk
    have cell : ∀ z : { a : Nat // a ∈ s.A }, (sortWorld (fun x : { a : Nat // a ∈ s.A } => ep x.1) w g 0 m dk os).cell? ⟨z.1, 0, none⟩ = some (.int .i64 ((s.U z.1).block : Nat)) := fun z => by
      obtain ⟨x0, hE⟩ := h.entAny z.2
      have hE' := hE.but hbut (fun e => apart_tags hE hblk (by decide) e)
      rw [cellOf hE' 0]; rfl
    exact cmp_entries x.1 y.1 _ _ _ (cell x) (cell y)
  have hlt : ltOf (fun x y : { a : Nat // a ∈ s.A } => cmpI ((s.U x.1).block : Nat) ((s.U y.1).block : Nat)) = fun x y => decide ((s.U x.1).block < (s.U y.1).block) := by
    funext x y
    exact ltOf_cmp (fun a => (s.U a).block) x.1 y.1
  have hO : SWO (ltOf (fun x y : { a : Nat // a ∈ s.A } => cmpI ((s.U x.1).block : Nat) ((s.U y.1).block : Nat))) := by
    rw [hlt]
    exact ⟨fun x => by simp, fun x y z h1 h2 => by simp at *; omega, fun x y z h1 h2 => by simp at *; omega⟩
  have hcon := Any.slices_SortFunc Tryz.sortE (fun x : { a : Nat // a ∈ s.A } => ep x.1) (fun _ => rfl) (fun x y => cmpI ((s.U x.1).block : Nat) ((s.U y.1).block : Nat)) hO 36 #[] g 0 s.dcap d w (enters_of Tryz.func36 (by kernel_rfl) rfl) hcmp.lays hH (Array.getElem?_eq_some_iff.1 hblk).1 (by omega)
  change Calls Tryz.prog 35 _ _ _ at hcon
  rw [hsz, ← hq.1] at hcon
  refine hcon.mono ?_
  rintro e w' ⟨rfl, d', n, os, hperm, _, rfl⟩
  obtain ⟨hb', hbut⟩ := sortWorld_block (fun x : { a : Nat // a ∈ s.A } => ep x.1) w g n d' os hblk
  have hsz' : d'.size = s.D.length := hperm.1.trans hsz
  have hp : (d'.toList.map (·.1)).Perm s.D := by
    rw [← hd]
    refine List.Perm.map _ ?_
    have := hperm.2.2
    have e1 : d'.extract 0 s.D.length = d' := by rw [← hsz']; simp
    have e2 : d.extract 0 s.D.length = d := by rw [← hsz]; simp
    rw [e1, e2] at this
    exact this
  have hlen : (d'.toList.map (·.1)).length = s.D.length := by simp [hsz']
  have gC : ¬ s.c = g := apart_tags h.hp.cell hblk (by decide)
  have gm : cMine w s.h g := .inr ⟨Nat.le_of_lt (h.lo.2.2.2 g (by rw [hq.1]; rfl)), _, _, _, hblk, .inr (.inl rfl)⟩
  have hib : ∀ k, s.ip.map Addr.block = some k → k ≠ g := fun k hk e => h.apart g (by rw [hq.1]; rfl) (e ▸ hk)
  refine ⟨rfl, d'.toList.map (·.1), hp, ⟨⟨?_, ?_, fun k hk => (h.hp.ents k hk).but hbut (apart_tags (h.hp.ents k hk) hblk (by decide)), h.hp.nodup, h.hp.len, h.hp.used⟩, fun a ha hi => (h.rest a ha hi).but hbut (apart_tags (h.rest a ha hi) hblk (by decide)), h.sub, h.hm.but hbut (h.hne hblk), ?_, h.apart, h.lo⟩, hbut.mono fun k _ hk => by rw [hk]; exact gm⟩
  · have : CS.ck { s with D := d'.toList.map (·.1) } = s.ck := by unfold CS.ck; simp only [hlen]
    rw [this]
    exact (hbut.block s.c (Array.getElem?_eq_some_iff.1 h.hp.cell).1 gC).trans h.hp.cell
  · refine own_but h.hp.row hbut (fun k cs fr hk _ => ?_)
    refine hib k ?_
    cases hqi : s.ip with
    | none => rw [hqi] at hk; simp [Value.ownBlock] at hk
    | some a' => rw [hqi] at hk; simpa [Value.ownBlock] using hk
  · refine ⟨by simp, .inr ⟨g, cap, Sort.putCells (fun x : { a : Nat // a ∈ s.A } => ep x.1) 0 d' cur, by rw [hq.1, hq.2, hlen], Nat.zero_le _, hb', by rw [hlen]; exact hcap, hcm, by unfold Sort.putCells; simpa using hcs, ?_⟩⟩
    rw [hlen, Nat.mul_one]
    rw [Nat.mul_one] at hcs
    refine List.ext_getElem? fun k => ?_
    rw [List.getElem?_take, List.getElem?_map, List.getElem?_map]
    by_cases hk : k < s.D.length
    · rw [if_pos hk]
      have hk' : k < d'.size := by omega
      have hkc : k < cur.size := by omega
      unfold Sort.putCells
      simp [hkc, hk']
    · rw [if_neg hk]
      have hk2 : d'.toList[k]? = none := List.getElem?_eq_none (by rw [Array.length_toList, hsz']; omega)
      rw [hk2]
      rfl

end Go.Proofs.YtlcojcldbdikgaaGreatDoor

namespace Go.Proofs.YtlcojcldbdikgaaGreatDoor
open Go.RowKit Go.Maps Go.Sort Go.Shelf

theorem laidOn_not (rs : Rec) (i : Nat) : ∀ st : Nat → Option By, (∀ p ∈ rs, p.1 ≠ i) → laidOn st rs i = st i := by
  induction rs with
  | nil => intro st _; rfl
  | cons p rs ih =>
    intro st h
    have e : laidOn st (p :: rs) = laidOn (fun j => if j = p.1 then some p.2 else st j) rs := rfl
    rw [e, ih _ (fun q hq => h q (by simp [hq]))]
    rw [if_neg (Ne.symm (h p (by simp)))]
theorem laidOn_yes (rs : Rec) (i : Nat) (d : By) : ∀ st : Nat → Option By, (∃ p ∈ rs, p.1 = i) → (∀ p ∈ rs, p.1 = i → p.2 = d) → laidOn st rs i = some d := by
  induction rs with
  | nil => intro st ⟨p, hp, _⟩; cases hp
  | cons p rs ih =>
    intro st h1 h2
    have e : laidOn st (p :: rs) = laidOn (fun j => if j = p.1 then some p.2 else st j) rs := rfl
    rw [e]
    by_cases hr : ∃ q ∈ rs, q.1 = i
    · exact ih _ hr (fun q hq => h2 q (by simp [hq]))
    · rw [laidOn_not rs i _ (fun q hq e => hr ⟨q, hq, e⟩)]
      obtain ⟨q, hq, hqi⟩ := h1
      rcases List.mem_cons.1 hq with rfl | hq
      · rw [if_pos hqi.symm, h2 q (by simp) hqi]
      · exact absurd ⟨q, hq, hqi⟩ hr

/-- The put of the j-th dirty block. -/
def dput (s : CS) (B : Nat → By) (j : Nat) : PutM := ⟨((s.U (s.D.getD j 0)).block : Nat), (s.U (s.D.getD j 0)).p, (s.U (s.D.getD j 0)).cp, B (s.D.getD j 0)⟩
theorem Tryz.infoPut : (Tryz.prog.info? 77).map (fun i => (i.zero, i.size, i.bytes)) = some (some (.agg #[.int .i64 0, .slice none 0 0]), 2, 32) := by kernel_rfl
theorem dputs_snoc (s : CS) (B : Nat → By) (i : Nat) : ((List.range (i + 1)).map fun j => putCells (dput s B j)).flatten = ((List.range i).map fun j => putCells (dput s B j)).flatten ++ putCells (dput s B i) := by
  rw [List.range_succ, List.map_append, List.flatten_append]
  simp
theorem cell_two_laid (w : World) (x y : Value) (t : TypeId) : ∀ j u, [x, y][j]? = some u → (w.alloc (.cells #[x, y] t)).cell? ((⟨w.heap.size, 0, none⟩ : Addr).add j) = some u := by
  intro j u hj
  rw [Addr.add_lit, Nat.zero_add, cellOf (heap_alloc_new w _) j]
  simpa using hj

/-- What is not dirty any more. -/
def clrU (U : Nat → EV) (l : List Nat) : Nat → EV := fun k => if k ∈ l then { U k with dirty := false } else U k
def AC.commit (A : AC) : AC := { A with L := A.L.map fun x => { x with dirty := false } }
/-- The volume's blocks behind a commit. -/
def AC.vol (A : AC) (V : Nat → By) (i : Nat) : By := ((A.L.find? fun x => x.dirty && x.block == i).map HE.data).getD (V i)

/-- What Commit makes of a cache and its volume. -/
structure Bct (w w' : World) (s s' : CS) (vs vs' : VS) (B : Nat → By) (b vb : Nat) : Prop where
  ci : CI w' s' vs' B
  cb : CB s' (b + 1)
  bud : Bud vs' (vb + 1)
  c : s'.c = s.c
  h : s'.h = s.h
  v : vs'.v = vs.v
  a : vs'.d.a = vs.d.a
  n : vs'.d.n = vs.d.n
  ac : acOf s' B = (acOf s B).commit
  vol : ∀ i, i < nbOf vs.d.n → vs'.cont i = (acOf s B).vol vs.cont i
  but : But (fun k => cMine w s.h k ∨ vs.mine k) w w'
  low : ∀ k, vs'.mine k → vs.mine k ∨ w.heap.size ≤ k

theorem CM.hpos {w : World} {s : CS} (h : CM w s) (ht : Tab w) : 0 < s.h := by
  rcases Nat.eq_zero_or_pos s.h with e | e
  · obtain ⟨es, clock, hm, _⟩ := h.hm.own
    rw [e] at hm
    have := ht 0 0 rfl
    simp [World.cell?, hm] at this
  · exact e

theorem step_low {w w' : World} {s s' : VS} (h : Step w w' s s') : ∀ k, s'.mine k → s.mine k ∨ w.heap.size ≤ k := by
  rintro k (e | e | e | e | e)
  · exact .inl (.inl (e.trans h.v))
  · rcases h.f with x | x
    · exact .inl (.inr (.inl (e.trans x)))
    · right; omega
  · exact .inl (.inr (.inr (.inl (e.trans h.near.a))))
  · exact .inl (.inr (.inr (.inr (.inl (e.trans h.near.s)))))
  · rcases h.near.m with x | x
    · exact .inl (.inr (.inr (.inr (.inr (e.trans x)))))
    · right; omega

theorem dirty_le {w : World} {s : CS} {vs : VS} {B : Nat → By} (h : CI w s vs B) : s.D.length ≤ nbOf vs.d.n := by
  have h1 : (s.D.map fun a => (s.U a).block).Nodup := by
    refine List.pairwise_map.2 (h.dnd.imp_of_mem fun {a b} ha hb hab e => hab (h.cm.hm.inj a ((h.dirty a).1 ha).1 b ((h.dirty b).1 hb).1 e))
  have := len_sub h1 (A := List.range (nbOf vs.d.n)) (fun k hk => by
    obtain ⟨a, ha, rfl⟩ := List.mem_map.1 hk
    exact List.mem_range.2 (h.blk a ((h.dirty a).1 ha).1))
  simpa using this

/-- What a volume's block is behind the commit of what is dirty. -/
theorem laid_dirty {w : World} {s : CS} {vs : VS} {B : Nat → By} (h : CI w s vs B) {D' : List Nat} (hp : D'.Perm s.D) (i : Nat) : (laidOn (fun _ => none) (recOf ((List.range s.D.length).map (dput { s with D := D' } B))) i).getD (vs.cont i) = (acOf s B).vol vs.cont i := by
  have hl : D'.length = s.D.length := hp.length_eq
  have hrec : ∀ p ∈ recOf ((List.range s.D.length).map (dput { s with D := D' } B)), ∃ a ∈ s.D, p = ((s.U a).block, B a) := fun p hpm => by
    unfold recOf at hpm
    rw [List.map_map] at hpm
    obtain ⟨j, hj, rfl⟩ := List.mem_map.1 hpm
    have hjl := List.mem_range.1 hj
    refine ⟨D'.getD j 0, hp.mem_iff.1 (getD_mem (by omega)), ?_⟩
    simp [dput]
  have hrec2 : ∀ a ∈ s.D, ((s.U a).block, B a) ∈ recOf ((List.range s.D.length).map (dput { s with D := D' } B)) := fun a ha => by
    obtain ⟨j, hj, e⟩ := List.getElem_of_mem (hp.mem_iff.2 ha)
    unfold recOf
    rw [List.map_map]
    refine List.mem_map.2 ⟨j, List.mem_range.2 (by omega), ?_⟩
    have e2 : D'.getD j 0 = a := by simp [List.getD, hj, e]
    simp only [Function.comp, dput, e2, Int.toNat_natCast]
  unfold AC.vol
  cases hf : (acOf s B).L.find? (fun x => x.dirty && x.block == i) with
  | none =>
    have hno := List.find?_eq_none.1 hf
    rw [laidOn_not _ _ _ (fun p hpm e => ?_)]
    · rfl
    · obtain ⟨a, ha, rfl⟩ := hrec p hpm
      obtain ⟨h1, h2⟩ := (h.dirty a).1 ha
      have := hno (heOf s.U B a) (List.mem_map.2 ⟨a, h1, rfl⟩)
      have e' : (s.U a).block = i := e
      simp [heOf, h2, e'] at this
  | some x =>
    have h1 := List.mem_of_find?_eq_some hf
    have h2 := List.find?_some hf
    obtain ⟨a, ha, rfl⟩ := List.mem_map.1 h1
    have h3 : (s.U a).dirty = true ∧ (s.U a).block = i := by simpa [heOf] using h2
    have haD := (h.dirty a).2 ⟨ha, h3.1⟩
    rw [laidOn_yes _ i (B a) _ ⟨_, hrec2 a haD, h3.2⟩ (fun p hpm e => ?_)]
    · rfl
    · obtain ⟨c, hc, rfl⟩ := hrec p hpm
      have e' : (s.U c).block = i := e
      have : c = a := h.cm.hm.inj c ((h.dirty c).1 hc).1 a ha (e'.trans h3.2.symm)
      rw [this]

/-- Behind the volume's commit the cache still holds. -/
theorem ci_committed {w w1 wr w6 : World} {s : CS} {vs vs6 : VS} {B : Nat → By} {D' : List Nat} (h : CI w s vs B) (hp : D'.Perm s.D) (cm1 : CM w1 { s with D := D' }) (hB1 : But (cMine w s.h) w w1) (hBr : Below w1.heap.size w1 wr) (h6 : VI w6 vs6) (hS : Step wr w6 vs vs6) (hcont : ∀ i, i < nbOf vs.d.n → vs6.cont i = (acOf s B).vol vs.cont i) :
    CI w6 { s with D := D' } vs6 B ∧ But (fun k => cMine w s.h k ∨ vs.mine k) w w6 := by
  have hvr : VI wr vs := (h.keep hB1).1.below hBr
  have cmr : CM wr { s with D := D' } := cm1.below hBr
  have bwr : But (cMine w s.h) w wr := hB1.after (But.of_below (S := fun _ => False) hBr) (fun _ _ h => h.elim)
  have datr : ∀ a ∈ s.A, DatAt wr (s.U a) (B a) := fun a ha => ((h.keep bwr).2 _ _ (h.dat a ha))
  have hh : ¬ vs.mine s.h := fun hm => by
    rcases hm with e | e | e | e | e
    · exact cmr.hne hvr.vol e
    · exact h.hf e
    · exact cmr.hne hvr.dev.dev e
    · obtain ⟨_, hr, _⟩ := hvr.dev.row
      exact cmr.hne hr e
    · exact h.hd e
  have hS1 : ∀ k cs t fr, wr.heap[k]? = some (.cells cs t fr) → cTag t → ¬ vs.mine k := fun k cs t fr hk ht => hvr.other hk (by rcases ht with rfl | rfl | rfl <;> decide) (by rcases ht with rfl | rfl | rfl <;> decide) (by rcases ht with rfl | rfl | rfl <;> decide)
  have hlt : s.h < wr.heap.size := cmr.hm.own.lt
  refine ⟨⟨cmr.but hS.but hh hS1, h6, h.vv.trans hS.v.symm, ?_, ?_, fun a ha => (datr a ha).but hS.but (fun k cs fr hk => hvr.other hk (by decide) (by decide) (by decide)), fun _ h => h.elim, h.ord, h.idle, fun a => ?_, (hp.nodup_iff).2 h.dnd, h.used, h.uinj, fun a ha => ?_, fun a ha hd => ?_, h.room⟩, ?_⟩
  · rcases hS.f with e | e
    · rw [e]; exact h.hf
    · show s.h ≠ vs6.f; omega
  · rcases hS.near.m with e | e
    · rw [e]; exact h.hd
    · show s.h ≠ vs6.d.m; omega
  · show a ∈ D' ↔ _
    rw [hp.mem_iff]; exact h.dirty a
  · rw [hS.n]; exact h.blk a ha
  · show B a = vs6.cont (s.U a).block
    have hd' : (s.U a).dirty = false := hd
    rw [hcont _ (h.blk a ha)]
    unfold AC.vol
    cases hf : (acOf s B).L.find? (fun x => x.dirty && x.block == (s.U a).block) with
    | none => exact h.clean a ha hd'
    | some x =>
      exfalso
      have h1 := List.mem_of_find?_eq_some hf
      have h2 := List.find?_some hf
      obtain ⟨c, hc, rfl⟩ := List.mem_map.1 h1
      have h3 : (s.U c).dirty = true ∧ (s.U c).block = (s.U a).block := by simpa [heOf] using h2
      rw [h.cm.hm.inj c hc a ha h3.2, hd'] at h3
      cases h3.1
  · exact (bwr.mono fun k _ hk => .inl hk).after hS.but (fun k _ hk => .inr hk)

theorem clrU_nil (U : Nat → EV) : clrU U [] = U := by funext k; simp [clrU]
theorem clrU_step (U : Nat → EV) (l : List Nat) (a : Nat) : updU (clrU U l) a { clrU U l a with dirty := false } = clrU U (l ++ [a]) := by
  funext k
  unfold updU clrU
  by_cases e : k = a
  · subst e
    by_cases hm : k ∈ l <;> simp [hm]
  · by_cases hm : k ∈ l <;> simp [hm, e]

/-- The first i of what was dirty are clean, and ranked. -/
def Clr (w6 W : World) (s : CS) (D' : List Nat) (i : Nat) : Prop :=
  ∃ ip icap I', CM W { s with D := D', ip := ip, icap := icap, I := I', U := clrU s.U (D'.take i) } ∧ HeapF (kvOf (keyU (clrU s.U (D'.take i))) I') I'.length ∧ (∀ b, b ∈ I' ↔ b ∈ s.A ∧ idleE (clrU s.U (D'.take i) b) = true) ∧ But (cMine w6 s.h) w6 W

theorem Clr.start {w6 : World} {s : CS} {vs : VS} {B : Nat → By} {D' : List Nat} (h : CI w6 { s with D := D' } vs B) : Clr w6 w6 s D' 0 := by
  refine ⟨s.ip, s.icap, s.I, ?_, ?_, ?_, But.refl _ _⟩
  · rw [List.take_zero, clrU_nil]; exact h.cm
  · rw [List.take_zero, clrU_nil]; exact h.ord (fun _ h => h)
  · rw [List.take_zero, clrU_nil]; exact fun b => h.idle b (fun h => h)

theorem clrU_block (U : Nat → EV) (l : List Nat) (k : Nat) : (clrU U l k).block = (U k).block ∧ (clrU U l k).used = (U k).used ∧ (clrU U l k).pins = (U k).pins ∧ (clrU U l k).p = (U k).p ∧ (clrU U l k).n = (U k).n ∧ (clrU U l k).cp = (U k).cp := by
  unfold clrU; split <;> exact ⟨rfl, rfl, rfl, rfl, rfl, rfl⟩

theorem Clr.step {w w6 W : World} {s : CS} {vs : VS} {B : Nat → By} {D' : List Nat} {i a : Nat} {ip : Option Addr} {icap : Nat} {I' : List Nat} (h : CI w s vs B) (hp : D'.Perm s.D) (_hc : Clr w6 W s D' i)
    (hc : ∃ ip' icap' I'', ip' = ip ∧ icap' = icap ∧ I'' = I' ∧ CM W { s with D := D', ip := ip, icap := icap, I := I', U := clrU s.U (D'.take i) } ∧ HeapF (kvOf (keyU (clrU s.U (D'.take i))) I') I'.length ∧ (∀ b, b ∈ I' ↔ b ∈ s.A ∧ idleE (clrU s.U (D'.take i) b) = true) ∧ But (cMine w6 s.h) w6 W) (ha : D'.getD i 0 = a) (hi : i < D'.length) :
    ∃ x, IsEnt W a (clrU s.U (D'.take i) a) x ∧ True ∧
      (Calls Tryz.prog 31 #[ep s.c, ep a] (W.setCell ⟨a, 3, none⟩ (.bool false)) fun e w' => e = .returned (.tuple #[]) ∧ ∃ s', Rk (W.setCell ⟨a, 3, none⟩ (.bool false)) w' { s with D := D', ip := ip, icap := icap, I := I', U := clrU s.U (D'.take (i + 1)) } s' a) ∧
      ∀ w' s', Rk (W.setCell ⟨a, 3, none⟩ (.bool false)) w' { s with D := D', ip := ip, icap := icap, I := I', U := clrU s.U (D'.take (i + 1)) } s' a → Clr w6 w' s D' (i + 1) := by
  obtain ⟨_, _, _, _, _, _, cm, ho, hid, hB⟩ := hc
  have hnd : D'.Nodup := hp.nodup_iff.2 h.dnd
  have haD : a ∈ s.D := hp.mem_iff.1 (by rw [← ha]; exact getD_mem hi)
  obtain ⟨haA, hdir⟩ := (h.dirty a).1 haD
  have hat : a ∉ D'.take i := fun hx => by
    obtain ⟨j, hj, e⟩ := List.getElem_of_mem hx
    have hj' : j < i := by simp at hj; omega
    have e2 : D'.getD j 0 = a := by rw [← e]; simp [List.getD, show j < D'.length by omega]
    have := getD_inj hnd (show j < D'.length by omega) hi (e2.trans ha.symm)
    omega
  have hUa : clrU s.U (D'.take i) a = s.U a := by unfold clrU; rw [if_neg hat]
  have haI : a ∉ I' := fun hx => by
    have h1 := ((hid a).1 hx).2
    rw [hUa] at h1
    unfold idleE at h1
    rw [hdir] at h1
    simp at h1
  have htk : D'.take (i + 1) = D'.take i ++ [a] := by
    rw [List.take_succ_eq_append_getElem hi]
    have : D'[i] = a := by rw [← ha]; simp [List.getD, hi]
    rw [this]
  have eU : updU (clrU s.U (D'.take i)) a { clrU s.U (D'.take i) a with dirty := false } = clrU s.U (D'.take (i + 1)) := by rw [htk]; exact clrU_step _ _ _
  obtain ⟨x, hE⟩ := cm.entAny (a := a) haA
  have cm2 := cm.setE (a := a) haA 3 (.bool false) { clrU s.U (D'.take i) a with dirty := false } (fun _ => rfl) rfl (cm.hp.used a)
  have cm3 : CM (W.setCell ⟨a, 3, none⟩ (.bool false)) { s with D := D', ip := ip, icap := icap, I := I', U := clrU s.U (D'.take (i + 1)) } := by rw [← eU]; exact cm2
  have hil : I'.length ≤ s.A.length := len_sub cm.hp.nodup cm.sub
  have hroom := h.room
  have ho2 : HeapF (kvOf (keyU (clrU s.U (D'.take (i + 1)))) I') I'.length := by
    rw [← eU]
    exact ho.less (Nat.le_refl _) fun j hj => kvOf_upd_not haI _ hj
  have cR := rank_any _ a _ cm3 haA (hx_of_ord ho2) (by show I'.length + 1 < 1000000; omega)
  have mE : cMine W s.h a := cm.mineE haA
  refine ⟨x, hE, trivial, cR, fun w' s' hR => ?_⟩
  obtain ⟨ip2, icap2, I2, rfl⟩ := hR.eq
  refine ⟨ip2, icap2, I2, hR.cm, hR.ord, fun b => ?_, cMine_trans (cMine_trans hB ((But.refl (cMine W s.h) W).setCell ⟨a, 3, none⟩ mE _)) hR.but⟩
  rw [show (b ∈ I2 ↔ _) from hR.mem b]
  show (b ∈ I' ∧ b ≠ a) ∨ (b = a ∧ idleE (clrU s.U (D'.take (i + 1)) a) = true) ↔ _
  by_cases e : b = a
  · subst e
    constructor
    · rintro (⟨_, h1⟩ | ⟨_, h1⟩)
      · exact absurd rfl h1
      · exact ⟨haA, h1⟩
    · rintro ⟨_, h1⟩; exact .inr ⟨rfl, h1⟩
  · have e2 : clrU s.U (D'.take (i + 1)) b = clrU s.U (D'.take i) b := by rw [← eU, updU_other _ _ e]
    rw [e2, ← hid b]
    constructor
    · rintro (⟨h1, _⟩ | ⟨h1, _⟩)
      · exact h1
      · exact absurd h1 e
    · intro h1; exact .inl ⟨h1, e⟩

theorem vol_dirty {w : World} {s : CS} {vs : VS} {B : Nat → By} (h : CI w s vs B) {a : Nat} (ha : a ∈ s.D) : B a = (acOf s B).vol vs.cont (s.U a).block := by
  obtain ⟨haA, hd⟩ := (h.dirty a).1 ha
  unfold AC.vol
  cases hf : (acOf s B).L.find? (fun x => x.dirty && x.block == (s.U a).block) with
  | none =>
    have := List.find?_eq_none.1 hf (heOf s.U B a) (List.mem_map.2 ⟨a, haA, rfl⟩)
    simp [heOf, hd] at this
  | some x =>
    have h1 := List.mem_of_find?_eq_some hf
    have h2 := List.find?_some hf
    obtain ⟨c, hc, rfl⟩ := List.mem_map.1 h1
    have h3 : (s.U c).dirty = true ∧ (s.U c).block = (s.U a).block := by simpa [heOf] using h2
    rw [h.cm.hm.inj c hc a haA h3.2]
    rfl

theorem cMine_back {w w6 : World} {h : Nat} {S : Nat → Prop} (hb : But (fun k => cMine w h k ∨ S k) w w6) {k : Nat} (hk : k < w.heap.size) (hm : cMine w6 h k) (hS : ¬ S k) : cMine w h k := by
  rcases hm with e | ⟨hle, cs, t, fr, hc, ht⟩
  · exact .inl e
  · apply Classical.byContradiction
    intro hn
    have := hb.block k hk (fun hx => hx.elim hn hS)
    rw [hc] at this
    exact hn (.inr ⟨hle, cs, t, fr, this.symm, ht⟩)

theorem Clr.done {w w6 W : World} {s : CS} {vs vs6 : VS} {B : Nat → By} {D' : List Nat} {b : Nat} (h : CI w s vs B) (hp : D'.Perm s.D) (h6 : CI w6 { s with D := D' } vs6 B) (hc : Clr w6 W s D' s.D.length) (hDl : D'.length = s.D.length) (hz : CB s b) :
    W.frozen? ⟨s.c, 3, none⟩ = false ∧ W.cell? ⟨s.c, 3, none⟩ = some (.slice s.dq s.D.length s.dcap) ∧
      ((∀ a ∈ s.D, vs6.cont (s.U a).block = B a) → ∃ s', CI (W.setCell ⟨s.c, 3, none⟩ (.slice none 0 0)) s' vs6 B ∧ CB s' (b + 1) ∧ s'.c = s.c ∧ s'.h = s.h ∧ acOf s' B = (acOf s B).commit ∧ But (cMine w6 s.h) w6 (W.setCell ⟨s.c, 3, none⟩ (.slice none 0 0))) := by
  obtain ⟨ip, icap, I', cm, ho, hid, hB⟩ := hc
  have htk : D'.take s.D.length = D' := by rw [← hDl, List.take_length]
  rw [htk] at cm ho hid
  refine ⟨frozenOf cm.hp.cell 3, by rw [cellOf cm.hp.cell 3, ← hDl]; rfl, fun hcl => ?_⟩
  have cm2 := cm_clean cm
  have hB2 : But (cMine w6 s.h) w6 (W.setCell ⟨s.c, 3, none⟩ (.slice none 0 0)) := cMine_trans hB ((But.refl (cMine W s.h) W).setCell _ cm.mineC _)
  obtain ⟨hvi, hkeep⟩ := h6.keep hB2
  have hdir : ∀ a ∈ s.A, (clrU s.U D' a).dirty = false := fun a ha => by
    unfold clrU
    split
    · rfl
    · rename_i hx
      cases hd : (s.U a).dirty with
      | false => rfl
      | true => exact absurd (hp.mem_iff.2 ((h.dirty a).2 ⟨ha, hd⟩)) hx
  refine ⟨{ s with D := [], dq := none, dcap := 0, ip := ip, icap := icap, I := I', U := clrU s.U D' }, ⟨cm2, hvi, h6.vv, h6.hf, h6.hd, fun a ha => ?_, fun _ h => h.elim, fun _ => ho, fun a _ => hid a, fun a => ?_, List.nodup_nil, fun a ha _ => ?_, fun a ha c hc _ _ e => ?_, fun a ha => ?_, fun a ha _ => ?_, h.room⟩, ⟨by have := hz.nh; show s.nh ≤ _; omega, by have := hz.uses; show s.uses ≤ _; omega, by have := hz.met; show s.met ≤ _; omega, by have := hz.missed; show s.missed ≤ _; omega, by have := hz.out; show s.out ≤ _; omega⟩, rfl, rfl, ?_, hB2⟩
  · obtain ⟨q1, q2, q3, g, q4, q5, q6⟩ := hkeep _ _ (h6.dat a ha)
    obtain ⟨_, _, _, r1, r2, r3⟩ := clrU_block s.U D' a
    exact ⟨by show (clrU s.U D' a).n = 512; rw [r2]; exact q1, q2, by show 512 ≤ (clrU s.U D' a).cp; rw [r3]; exact q3, g, by show (clrU s.U D' a).p = _; rw [r1]; exact q4, q5, q6⟩
  · show a ∈ [] ↔ a ∈ s.A ∧ (clrU s.U D' a).dirty = true
    constructor
    · intro hx; cases hx
    · rintro ⟨h1, h2⟩; rw [hdir a h1] at h2; cases h2
  · show (clrU s.U D' a).used ≤ s.uses
    rw [(clrU_block s.U D' a).2.1]; exact h.used a ha (fun h => h)
  · have e' : (clrU s.U D' a).used = (clrU s.U D' c).used := e
    rw [(clrU_block s.U D' a).2.1, (clrU_block s.U D' c).2.1] at e'
    exact h.uinj a ha c hc (fun h => h) (fun h => h) e'
  · show (clrU s.U D' a).block < _
    rw [(clrU_block s.U D' a).1]; exact h6.blk a ha
  · show B a = vs6.cont (clrU s.U D' a).block
    rw [(clrU_block s.U D' a).1]
    cases hd : (s.U a).dirty with
    | false => exact h6.clean a ha hd
    | true => exact (hcl a ((h.dirty a).2 ⟨ha, hd⟩)).symm
  · unfold acOf AC.commit
    simp only [List.map_map]
    congr 1
    refine List.map_congr_left fun a ha => ?_
    show heOf (clrU s.U D') B a = { heOf s.U B a with dirty := false }
    unfold heOf
    rw [hdir a ha, (clrU_block s.U D' a).1, (clrU_block s.U D' a).2.1, (clrU_block s.U D' a).2.2.1]

set_option maxRecDepth 8000 in
set_option maxHeartbeats 4000000 in
theorem commit_some (s : CS) (vs : VS) (B : Nat → By) (b vb : Nat) (w : World) (h : CI w s vs B) (ht : Tab w) (hz : CB s b) (hvz : Bud vs vb) (hvb : vb ≤ 900) (hne : 0 < s.D.length) :
    Calls Tryz.prog 16 #[ep s.c] w fun e w' => e = .returned (.int .i64 0) ∧ ∃ s' vs', Bct w w' s s' vs vs' B b vb := by
  have hdl := dlen h
  obtain ⟨gd, hq0, _⟩ := drop_cell h.cm hne
  have c3 : w.cell? ⟨s.c, 3, none⟩ = some (.slice (some ⟨gd, 0, none⟩) s.D.length s.dcap) := by rw [← hq0, cellOf h.cm.hp.cell 3]; rfl
  have cS : Calls Tryz.prog 35 #[.slice (some ⟨gd, 0, none⟩) s.D.length s.dcap, .func (.func 36) #[] #[]] w fun e w' => e = .returned (.tuple #[]) ∧ ∃ D', Hid (D'.Perm s.D ∧ CM w' { s with D := D' } ∧ But (cMine w s.h) w w') := by
    rw [← hq0]
    exact (sort_dirty s w h.cm hne (fun a ha => ((h.dirty a).1 ha).1) (by omega)).mono fun e w' ⟨h1, D', h2⟩ => ⟨h1, D', h2⟩
  obtain ⟨k0, hk0, hx0, hx1, hx2⟩ := info_parts Tryz.infoPut
  have H0 : Hid (CI w s vs B ∧ Tab w ∧ s.dq = some ⟨gd, 0, none⟩) := ⟨h, ht, hq0⟩
  clear h ht hq0
  go_enter Tryz.func16, Tryz.ntmps16
  go_wp2_with (go_at_call 35; refine cS.mono ?_; rintro e w1 ⟨rfl, D', H1⟩; clear cS; refine Stop.out ?_)
  refine Stop.mk ?_
  have hDl : D'.length = s.D.length := H1.out.1.length_eq
  have d3 : w1.cell? ⟨s.c, 3, none⟩ = some (.slice (some ⟨gd, 0, none⟩) s.D.length s.dcap) := by rw [cellOf H1.out.2.1.hp.cell 3, ← hDl, ← H0.out.2.2]; rfl
  go_wp2_with (at_make; refine wpList_make_own _ rfl _ _ 75 rfl w1.heap.size 77 k0 (.agg #[.int .i64 0, .slice none 0 0]) 2 Tryz.underlying75 hk0 hx0 hx1 .i64 .i64 _ s.D.length rfl rfl (by go_num) (by rw [hx2]; omega) (by unfold maxLen; omega) (Nat.le_refl _) ?_; intro w2 hrow2 hg2; refine Stop.out ?_)
  refine Stop.mk ?_
  have hB2 : Below w1.heap.size w1 w2 := (Below.refl _ w1).grown hg2 (Nat.le_refl _) (by simp)
  have e3 : w2.cell? ⟨s.c, 3, none⟩ = some (.slice (some ⟨gd, 0, none⟩) s.D.length s.dcap) := (hB2.cell (p := ⟨s.c, 3, none⟩) (World.block_lt_of_cell? w1 _ d3)).trans d3
  have HI0 : Hid (w2.ownsRow w1.heap.size 77 2 (.slice (some ⟨w1.heap.size, 0, none⟩) 0 s.D.length) 0 (((List.range 0).map fun j => putCells (dput { s with D := D' } B j)).flatten) ∧ Below w1.heap.size w1 w2) := ⟨hrow2, hB2⟩
  clear hrow2 hg2 hB2
  go_wp2_with fail
  go_loopw [3, 27] (fun lv ii wr => ∃ i : Nat, i ≤ s.D.length ∧ ii = .int .i64 i ∧ Hid (wr.ownsRow w1.heap.size 77 2 lv i (((List.range i).map fun j => putCells (dput { s with D := D' } B j)).flatten) ∧ Below w1.heap.size w1 wr)) (fun _ ii _ => s.D.length - (intOf ii).toNat)
  case atStart => exact ⟨0, Nat.zero_le _, rfl, HI0⟩
  case round =>
    clear HI0 e3 d3 c3
    obtain ⟨i, hi, rfl, HI⟩ := hrel
    obtain ⟨p3, l3, c3', h3⟩ : ∃ p l c, u3 = Value.slice p l c := by
      rcases HI.out.1.2 with ⟨e, _⟩ | ⟨g, cap, cur, e, _⟩ <;> exact ⟨_, _, _, e⟩
    subst h3
    by_cases hlt : i < s.D.length
    · have hltI : (i : Int) < (s.D.length : Nat) := by omega
      have cmr : CM wr { s with D := D' } := H1.out.2.1.below HI.out.2
      obtain ⟨g, hq, hg⟩ := drop_cell cmr (k := i) (by show i < D'.length; omega)
      obtain rfl : g = gd := by
        have e1 : s.dq = some ⟨g, 0, none⟩ := hq
        rw [H0.out.2.2] at e1
        injection e1 with e1
        injection e1 with e1
        exact e1.symm
      obtain ⟨a, ha⟩ : ∃ a, D'.getD i 0 = a := ⟨_, rfl⟩
      have hg' : wr.cell? ⟨g, i, none⟩ = some (ep a) := by rw [← ha]; exact hg
      have haA : a ∈ s.A := by
        have : a ∈ D' := by rw [← ha]; exact getD_mem (by omega)
        exact ((H0.out.1.dirty a).1 (H1.out.1.mem_iff.1 this)).1
      obtain ⟨x, hE⟩ := cmr.entAny (a := a) haA
      have d0 : wr.cell? ⟨a, 0, none⟩ = some (.int .i64 ((s.U a).block : Nat)) := by rw [cellOf hE 0]; rfl
      obtain ⟨hn5, hl5, hcp5, g5, hp5, _, _⟩ := H0.out.1.dat a haA
      have d1 : wr.cell? ⟨a, 1, none⟩ = some (.slice (some ⟨g5, 0, none⟩) 512 (s.U a).cp) := by
        rw [cellOf hE 1, ← hp5]
        show some (Value.slice (s.U a).p (s.U a).n (s.U a).cp) = _
        rw [hn5]
      have hown := own_belowT HI.out.1 ((Below.refl wr.heap.size wr).alloc (Nat.le_refl _) (.cells #[Value.int .i64 ((s.U a).block : Nat), Value.slice (some ⟨g5, 0, none⟩) 512 (s.U a).cp] 77))
      have hownD : ((wr.alloc (.cells #[Value.int .i64 ((s.U a).block : Nat), Value.slice (some ⟨g5, 0, none⟩) 512 (s.U a).cp] 77)).drew).ownsRow w1.heap.size 77 2 (.slice p3 l3 c3') i (((List.range i).map fun j => putCells (dput { s with D := D' } B j)).flatten) := hown
      have hap : putCells (dput { s with D := D' } B i) = [Value.int .i64 ((s.U a).block : Nat), Value.slice (some ⟨g5, 0, none⟩) 512 (s.U a).cp] := by
        unfold putCells dput
        simp only [ha, hp5, hl5]
      have halt : a < w1.heap.size := H1.out.2.1.alt haA
      have hrl := HI.out.2.size
      have ag : (Value.slice p3 l3 c3').ownBlock ≠ some a := fun e => by
        rcases HI.out.1.2 with ⟨e', _⟩ | ⟨g', cap', cur, e', hgb, _⟩
        · rw [e'] at e; simp [Value.ownBlock] at e
        · rw [e'] at e; simp [Value.ownBlock] at e; omega
      have HO : Hid (((wr.alloc (.cells #[Value.int .i64 ((s.U a).block : Nat), Value.slice (some ⟨g5, 0, none⟩) 512 (s.U a).cp] 77)).drew).ownsRow w1.heap.size 77 2 (.slice p3 l3 c3') i (((List.range i).map fun j => putCells (dput { s with D := D' } B j)).flatten) ∧ putCells (dput { s with D := D' } B i) = [Value.int .i64 ((s.U a).block : Nat), Value.slice (some ⟨g5, 0, none⟩) 512 (s.U a).cp]) := ⟨hownD, hap⟩
      clear hq hg ha haA hE hn5 hl5 hcp5 hp5 hown hownD hap cmr
      generalize (s.U a).block = blk at *
      generalize (s.U a).cp = cp5 at *
      go_wp2_with fail
      go_region_held3 (fun w' => w'.cell? ⟨a, 0, none⟩ = some (.int .i64 (blk : Nat)) ∧ w'.cell? ⟨a, 1, none⟩ = some (.slice (some ⟨g5, 0, none⟩) 512 cp5))
        (first
          | go_keep
          | (go_split_ands
             refine ⟨?_, ?_⟩
             · (rw [hgrow.cell_far _ (by simp; omega) (Ne.symm ag)]; assumption)
             · (rw [hgrow.cell_far _ (by simp; omega) (Ne.symm ag)]; assumption)))
        ((refine step_append_lies _ (by rfl) _ _ _ (by rfl) w1.heap.size 77 k0 (.agg #[.int .i64 0, .slice none 0 0]) 2 32 Tryz.underlying75 hk0 hx0 hx1 hx2 rfl (by omega) (.slice p3 l3 c3') i _ (by rfl) HO.out.1
            ⟨wr.heap.size, 0, none⟩ 1 1 [.int .i64 (blk : Nat), .slice (some ⟨g5, 0, none⟩) 512 cp5] (by rfl) (by rfl) (World.news_of_block (cs := #[.int .i64 (blk : Nat), .slice (some ⟨g5, 0, none⟩) 512 cp5]) (t := 77) (fr := (0, 0)) (heap_alloc_new wr _)) (by simp [Value.oneCell'])
            (by omega) (by unfold maxLen; omega) (by omega) (by simp; omega) (wr.heap.size + 1) (by simp) ?_; intro gg cap w4 hown4 hgrow hat hlt4))
      have H4 : Hid (w4.ownsRow w1.heap.size 77 2 (.slice (some ⟨gg, 0, none⟩) (i + 1) cap) (i + 1) (((List.range (i + 1)).map fun j => putCells (dput { s with D := D' } B j)).flatten) ∧ Below w1.heap.size w1 w4) := by
        refine ⟨by rw [dputs_snoc, HO.out.2]; exact hown4, ?_⟩
        have b1 : Below w1.heap.size w1 ((wr.alloc (.cells #[Value.int .i64 (blk : Nat), Value.slice (some ⟨g5, 0, none⟩) 512 cp5] 77)).drew) := (HI.out.2.alloc HI.out.2.size _).drew
        refine b1.grown hgrow (by have := HI.out.2.size; simp; omega) (fun k e => ?_)
        rcases HI.out.1.2 with ⟨e', _⟩ | ⟨g', cap', cur, e', hgb, _⟩
        · rw [e'] at e; simp [Value.ownBlock] at e
        · rw [e'] at e; simp [Value.ownBlock] at e; omega
      clear hown4 hgrow hat hlt4
      go_wp2
      go_roundw
      case rel => exact ⟨i + 1, by omega, by go_num, H4⟩
      case measure => simp [intOf]; omega
    · obtain rfl : i = s.D.length := by omega
      have hge : ¬ ((s.D.length : Nat) : Int) < (s.D.length : Nat) := by omega
      have h := H0.out.1
      have hvr : VI wr vs := (h.keep H1.out.2.2).1.below HI.out.2
      have cmr : CM wr { s with D := D' } := H1.out.2.1.below HI.out.2
      have bwr : But (cMine w s.h) w wr := H1.out.2.2.after (But.of_below (S := fun _ => False) HI.out.2) (fun _ _ h => h.elim)
      obtain ⟨p, c, elv, hps⟩ := puts_of_own HI.out.1 hne (fun k hk => by
        have hkD : D'.getD k 0 ∈ s.D := H1.out.1.mem_iff.1 (getD_mem (by omega))
        have hkA := ((h.dirty _).1 hkD).1
        obtain ⟨q1, q2, q3, g, q4, q5, q6⟩ := (h.keep bwr).2 _ _ (h.dat _ hkA)
        refine ⟨by show (B (D'.getD k 0)).length ≤ (s.U (D'.getD k 0)).cp; omega, by show Bytes wr (s.U (D'.getD k 0)).p (B (D'.getD k 0)); rw [q4]; exact q5, fun b' o e => ?_⟩
        have e' : (s.U (D'.getD k 0)).p = some ⟨b', o, none⟩ := e
        rw [q4] at e'
        injection e' with e'
        injection e' with e1 e2 e3
        rw [← e1]; exact q6)
      obtain ⟨rfl, rfl, rfl⟩ : p3 = p ∧ l3 = s.D.length ∧ c3' = c := by injection elv with e1 e2 e3; exact ⟨e1, e2, e3⟩
      have hdn := dirty_le h
      have hnb := h.nb
      have hBt : Below s.h w wr := bwr.below (Nat.le_of_lt h.cm.hm.own.lt) (fun k hk => by rcases hk with e | ⟨e, _⟩ <;> omega)
      have htr : Tab wr := below_tab hBt (h.cm.hpos H0.out.2.1) H0.out.2.1
      have cC := vCommit_any p3 ((List.range s.D.length).map (dput { s with D := D' } B)) c3' vs vb wr hvr htr hvz (by omega) hps (by
        rw [List.all_eq_true]
        intro x hx
        obtain ⟨j, hj, rfl⟩ := List.mem_map.1 hx
        have hjl := List.mem_range.1 hj
        have hkD : D'.getD j 0 ∈ s.D := H1.out.1.mem_iff.1 (getD_mem (by omega))
        have hkA := ((h.dirty _).1 hkD).1
        have hb1 := h.blk _ hkA
        have hb2 := (h.dat _ hkA).2.1
        simp [goodPut, dput]
        exact ⟨by simpa [List.getD] using hb1, by simpa [List.getD] using hb2⟩) (by simp; omega) (by simp; omega)
      rw [List.length_map, List.length_range] at cC
      have d0 : wr.cell? ⟨s.c, 0, none⟩ = some (dp vs.v) := by rw [cellOf cmr.hp.cell 0, ← h.vv]; rfl
      clear h hvr cmr bwr hps elv hdn hBt htr
      go_wp2_with (go_at_call 38; refine cC.mono ?_; rintro e w6 ⟨rfl, vs6, hI6, hS6, hz6, hc6, hcont6⟩; clear cC; refine Stop.out ?_)
      refine Stop.mk ?_
      have hcont : ∀ i, i < nbOf vs.d.n → vs6.cont i = (acOf s B).vol vs.cont i := fun i hi => by rw [hcont6 i hi]; exact laid_dirty H0.out.1 H1.out.1 i
      obtain ⟨ci6, hB6⟩ := ci_committed H0.out.1 H1.out.1 H1.out.2.1 H1.out.2.2 HI.out.2 hI6 hS6 hcont
      have k3 : w6.cell? ⟨s.c, 3, none⟩ = some (.slice (some ⟨gd, 0, none⟩) s.D.length s.dcap) := by rw [cellOf ci6.cm.hp.cell 3, ← hDl, ← H0.out.2.2]; rfl
      have hlow : ∀ k, vs6.mine k → vs.mine k ∨ w.heap.size ≤ k := fun k hk => by
        rcases step_low hS6 k hk with e | e
        · exact .inl e
        · right
          have h1 := H1.out.2.2.size
          have h2 := HI.out.2.size
          omega
      have H6 : Hid (CI w6 { s with D := D' } vs6 B ∧ But (fun k => cMine w s.h k ∨ vs.mine k) w w6 ∧ (∀ k, vs6.mine k → vs.mine k ∨ w.heap.size ≤ k) ∧ Bud vs6 (vb + 1) ∧ vs6.v = vs.v ∧ vs6.d.a = vs.d.a ∧ vs6.d.n = vs.d.n ∧ ∀ i, i < nbOf vs.d.n → vs6.cont i = (acOf s B).vol vs.cont i) := ⟨ci6, hB6, hlow, hz6, hS6.v, hS6.near.a, hS6.n, hcont⟩
      clear ci6 hB6 hlow hz6 hS6 hcont hI6 hc6 hcont6 HI
      go_wp2_with fail
      go_loopw [58] (fun ii W => ∃ i : Nat, i ≤ s.D.length ∧ ii = .int .i64 i ∧ Hid (Clr w6 W s D' i)) (fun ii _ => s.D.length - (intOf ii).toNat)
      case atStart => exact ⟨0, Nat.zero_le _, rfl, Clr.start H6.out.1⟩
      case round =>
        clear k3 d0
        obtain ⟨i, hi, rfl, HC⟩ := hrel
        generalize wr = W at *
        by_cases hlt : i < s.D.length
        · have hltI : (i : Int) < (s.D.length : Nat) := by omega
          obtain ⟨ip, icap, I', cm, ho, hid, hB⟩ := HC.out
          obtain ⟨g, hq, hg⟩ := drop_cell cm (k := i) (by show i < D'.length; omega)
          obtain rfl : g = gd := by
            have e1 : s.dq = some ⟨g, 0, none⟩ := hq
            rw [H0.out.2.2] at e1
            injection e1 with e1
            injection e1 with e1
            exact e1.symm
          obtain ⟨a, ha⟩ : ∃ a, D'.getD i 0 = a := ⟨_, rfl⟩
          have hg' : W.cell? ⟨g, i, none⟩ = some (ep a) := by rw [← ha]; exact hg
          obtain ⟨x, hE, _, cR, hfin⟩ := Clr.step H0.out.1 H1.out.1 HC.out ⟨ip, icap, I', rfl, rfl, rfl, cm, ho, hid, hB⟩ ha (by omega)
          have d3 : W.cell? ⟨a, 3, none⟩ = some (.bool (clrU s.U (D'.take i) a).dirty) := by rw [cellOf hE 3]; rfl
          have f3 := frozenOf hE 3
          have HF : Hid (∀ w' s', Rk (W.setCell ⟨a, 3, none⟩ (.bool false)) w' { s with D := D', ip := ip, icap := icap, I := I', U := clrU s.U (D'.take (i + 1)) } s' a → Clr w6 w' s D' (i + 1)) := hfin
          clear cm ho hid hB hq hg ha hE hfin HC
          generalize (clrU s.U (D'.take i) a).dirty = dd at *
          go_wp2_with (go_at_call 31; refine cR.mono ?_; rintro e W2 ⟨rfl, s2, hR2⟩; clear cR)
          have H7 : Hid (Clr w6 W2 s D' (i + 1)) := HF.out W2 s2 hR2
          clear hR2
          go_roundw
          case rel => exact ⟨i + 1, by omega, by go_num, H7⟩
          case measure => simp [intOf]; omega
        · obtain rfl : i = s.D.length := by omega
          have hge2 : ¬ ((s.D.length : Nat) : Int) < (s.D.length : Nat) := by omega
          obtain ⟨f3, hcell, hall⟩ := Clr.done H0.out.1 H1.out.1 H6.out.1 HC.out hDl hz
          have k3 : W.cell? ⟨s.c, 3, none⟩ = some (.slice (some ⟨gd, 0, none⟩) s.D.length s.dcap) := by rw [← H0.out.2.2]; exact hcell
          obtain ⟨s', hfin⟩ := hall (fun a ha => by
            have hd := (H0.out.1.dirty a).1 ha
            rw [H6.out.2.2.2.2.2.2.2 _ (H0.out.1.blk a hd.1)]
            exact (vol_dirty H0.out.1 ha).symm)
          have HF : Hid (CI (W.setCell ⟨s.c, 3, none⟩ (.slice none 0 0)) s' vs6 B ∧ CB s' (b + 1) ∧ s'.c = s.c ∧ s'.h = s.h ∧ acOf s' B = (acOf s B).commit ∧ But (cMine w6 s.h) w6 (W.setCell ⟨s.c, 3, none⟩ (.slice none 0 0))) := hfin
          clear hcell hall hfin HC
          go_wp2
          go_ret
          obtain ⟨q1, q2, q3, q4, q5, q6⟩ := HF.out
          obtain ⟨r1, r2, r3, r4, r5, r6, r7, r8⟩ := H6.out
          exact ⟨rfl, s', vs6, q1, q2, r4, q3, q4, r5, r6, r7, q5, r8, r2.after q6 (fun k hk hm => (Classical.em (vs.mine k)).elim .inr (fun hn => .inl (cMine_back r2 hk hm hn))), r3⟩

end Go.Proofs.YtlcojcldbdikgaaGreatDoor
