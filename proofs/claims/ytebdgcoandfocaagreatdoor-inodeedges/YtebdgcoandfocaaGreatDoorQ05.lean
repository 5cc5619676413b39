/-
  What the proof leans on, part 6.
-/
import Derived.Test.YtebdgcoandfocaaGreatDoorQ04
import Derived.Maps.Ext

/-
  takes and take of package wal.
-/
namespace Go.Proofs.YtebdgcoandfocaaGreatDoor
open Go.RowKit Go.Maps Go.Sort Go.Shelf

instance : Inhabited PutM := ⟨⟨0, none, 0, []⟩⟩

/-- A put that a volume of nb blocks takes. -/
def goodPut (nb : Nat) (x : PutM) : Bool := decide (0 ≤ x.block ∧ x.block < nb) && decide (x.bytes.length = 512)

theorem Tryz.agg143 (w : World) : (isAgg 143).run Tryz.prog w = .ok true w := by kernel_rfl
theorem Tryz.siz143 (w : World) : (Go.sizeOf 143).run Tryz.prog w = .ok 2 w := by kernel_rfl

set_option maxRecDepth 8000 in
set_option maxHeartbeats 1000000 in
theorem wrong_any (x : PutM) (bx v : Nat) (commits turn next : Nat) (f : Option Nat) (count : Int) (d : DS) (w : World) (h : IsVol w v (dp d.a) commits turn next f count) (hd : Dev w d) (hn : 16 ≤ d.n)
    (hbx : w.cell? ⟨bx, 0, none⟩ = some (dp v)) :
    Calls Tryz.prog 115 #[.agg #[.int .i64 x.block, .slice x.at_ x.bytes.length x.cap], .pointer (some ⟨bx, 0, none⟩)] w fun e w' => e = .returned (.bool (!goodPut (nbOf d.n) x)) ∧ Below w.heap.size w w' := by
  obtain ⟨w1, hw1⟩ : ∃ w1, w1 = w.alloc (.cells #[.int .i64 x.block, .slice x.at_ x.bytes.length x.cap] 143) := ⟨_, rfl⟩
  have hB1 : Below w.heap.size w w1 := by rw [hw1]; exact (Below.refl _ w).alloc (Nat.le_refl _) _
  have hb1 : w1.heap[w.heap.size]? = some (.cells #[.int .i64 x.block, .slice x.at_ x.bytes.length x.cap] 143 (0, 0)) := by rw [hw1]; exact heap_alloc_new w _
  have c12 := vHas x.block v commits turn next f count d w1 (h.below hB1) (hd.below hB1) hn
  have y0 := cellOf hb1 0
  have y1 := cellOf hb1 1
  simp at y0 y1
  have y2 : w1.cell? ⟨bx, 0, none⟩ = some (dp v) := (hB1.cell (p := ⟨bx, 0, none⟩) (cell_lt hbx)).trans hbx
  have HB1 : Hid (Below w.heap.size w w1) := hB1
  unfold goodPut
  clear h hd hB1 hb1 hbx
  subst hw1
  cases hg : decide (0 ≤ x.block ∧ x.block < (nbOf d.n : Int))
  · rw [hg] at c12
    clear hg
    go_enter Tryz.func115, Tryz.ntmps115
    go_wp2_with (go_at_call 116; refine Calls_on c12 ?_)
    go_ret
    exact ⟨rfl, HB1.out⟩
  · rw [hg] at c12
    clear hg
    obtain ⟨bb, hbb⟩ : ∃ bb, bb = ((x.bytes.length : Int) != 512) := ⟨_, rfl⟩
    have HBB : Hid (bb = !decide (x.bytes.length = 512)) := by
      show _ = _
      rw [hbb]
      by_cases h : x.bytes.length = 512
      · simp [h]
      · have : ¬ (x.bytes.length : Int) = 512 := by omega
        simp [h, this]
    go_enter Tryz.func115, Tryz.ntmps115
    go_wp2_with (go_at_call 116; refine Calls_on c12 ?_)
    go_ret
    refine ⟨?_, HB1.out⟩
    simp only [Bool.true_and]
    rw [← HBB.out, hbb]
    rfl

theorem contains_some (ps : List PutM) (b o c bx v : Nat) (commits turn next : Nat) (f : Option Nat) (count : Int) (d : DS) (w : World) (h : IsVol w v (dp d.a) commits turn next f count) (hd : Dev w d) (hn : 16 ≤ d.n)
    (hbx : w.cell? ⟨bx, 0, none⟩ = some (dp v)) (hps : PutsAt w (some ⟨b, o, none⟩) ps) (hpos : 0 < ps.length) (hbig : ps.length ≤ 9223372036854775807) :
    Calls Tryz.prog 117 #[.slice (some ⟨b, o, none⟩) ps.length c, .func (.func 115) #[] #[.pointer (some ⟨bx, 0, none⟩)]] w fun e w' => e = .returned (.bool (!ps.all (goodPut (nbOf d.n)))) ∧ Below w.heap.size w w' := by
  obtain ⟨b', o', e, _, hx⟩ := hps.1 hpos
  cases e
  obtain ⟨x0, hx0⟩ : ∃ x, ps[0]? = some x := ⟨_, List.getElem?_eq_getElem hpos⟩
  have hblt : b < w.heap.size := cell_lt (hx 0 x0 hx0).1
  have := AnyQ.slices_ContainsFunc Tryz.containsA 2 Tryz.agg143 Tryz.siz143 putCells (fun _ => rfl) (fun x => !goodPut (nbOf d.n) x) 115 #[.pointer (some ⟨bx, 0, none⟩)] (enters_of Tryz.func115 (by kernel_rfl) rfl) b o ps.length c ps w
    (fun W x hB => by
      refine (wrong_any x bx v commits turn next f count d W (h.below hB) (hd.below hB) hn ((hB.cell (p := ⟨bx, 0, none⟩) (cell_lt hbx)).trans hbx)).mono ?_
      rintro e w' ⟨rfl, hB'⟩
      exact ⟨rfl, hB.trans (hB'.mono hB.size)⟩) (Nat.le_refl _) hbig hblt
    (fun j hj i u hu => by
      have hj' : ps[j]? = some ps[j]! := by rw [List.getElem?_eq_getElem hj, getElem!_pos ps j hj]
      have hxx := hx j _ hj'
      clear hj'
      generalize ps[j]! = y at hu hxx
      match i, hu with
      | 0, hu => simp [putCells] at hu; rw [← hu]; exact hxx.1
      | 1, hu => simp [putCells] at hu; rw [← hu]; exact hxx.2
      | k + 2, hu => simp [putCells] at hu)
  refine (show Calls Tryz.prog 117 _ _ _ from this).mono ?_
  rintro e w' ⟨rfl, hB⟩
  refine ⟨?_, hB⟩
  rw [List.take_length, List.not_all_eq_any_not]

set_option maxRecDepth 8000 in
set_option maxHeartbeats 1000000 in
theorem index_nil (v : Value) (w : World) : Calls Tryz.prog 134 #[.slice none 0 0, v] w fun e w' => e = .returned (.int .i64 (-1)) ∧ w' = w := by
  go_enter Tryz.func134, Tryz.ntmps134
  go_wp2_with fail
  go_loop [8] (fun ii => ii = .int .i64 0) (fun _ => 0)
  case atStart => rfl
  case round =>
    subst hrel
    go_wp2
    go_ret
    exact ⟨rfl, rfl⟩

set_option maxRecDepth 8000 in
set_option maxHeartbeats 1000000 in
theorem contains_nil (v : Value) (w : World) : Calls Tryz.prog 117 #[.slice none 0 0, v] w fun e w' => e = .returned (.bool false) ∧ w' = w := by
  have c65 := index_nil v w
  go_enter Tryz.func117, Tryz.ntmps117
  go_wp2_with (go_at_call 134; refine Calls_on c65 ?_)
  go_ret
  exact ⟨rfl, rfl⟩

/-- takes. -/
def takesB (nb : Nat) (ps : List PutM) : Bool := decide (ps.length ≤ nb) && ps.all (goodPut nb)

set_option maxRecDepth 8000 in
set_option maxHeartbeats 1000000 in
theorem takes_any (q : Option Addr) (ps : List PutM) (c v : Nat) (commits turn next : Nat) (f : Option Nat) (count : Int) (d : DS) (w : World) (h : IsVol w v (dp d.a) commits turn next f count) (hd : Dev w d) (hn : 16 ≤ d.n)
    (hps : PutsAt w q ps) (hq : ps.length = 0 → q = none ∧ c = 0) (hbig : ps.length ≤ 9223372036854775807) :
    Calls Tryz.prog 102 #[dp v, .slice q ps.length c] w fun e w' => e = .returned (.bool (takesB (nbOf d.n) ps)) ∧ Below w.heap.size w w' := by
  have hmf := mkf
  have hB1 : Below w.heap.size w (w.alloc (.cells #[dp v] 49)) := (Below.refl _ w).alloc (Nat.le_refl _) _
  have hbx : (w.alloc (.cells #[dp v] 49)).cell? ⟨w.heap.size, 0, none⟩ = some (dp v) := cellOf (heap_alloc_new w _) 0
  have hv1 := h.below hB1
  have hd1 := hd.below hB1
  have c9 := vBlocks v commits turn next f count d _ hv1 hd1 hn
  have HB1 : Hid (Below w.heap.size w (w.alloc (.cells #[dp v] 49))) := hB1
  have hle := hd.hn
  obtain ⟨nb, hnb⟩ : ∃ nb, nbOf d.n = nb := ⟨_, rfl⟩
  rw [hnb] at c9
  rw [hnb]
  have c49 : Calls Tryz.prog 117 #[.slice q ps.length c, .func (.func 115) #[] #[.pointer (some ⟨w.heap.size, 0, none⟩)]] (w.alloc (.cells #[dp v] 49)) fun e w' => e = .returned (.bool (!ps.all (goodPut nb))) ∧ Below w.heap.size w w' := by
    rcases Nat.eq_zero_or_pos ps.length with h0 | hpos
    · obtain ⟨rfl, rfl⟩ := hq h0
      obtain rfl : ps = [] := List.eq_nil_of_length_eq_zero h0
      refine (contains_nil _ _).mono ?_
      rintro e w' ⟨rfl, rfl⟩
      exact ⟨rfl, hB1⟩
    · obtain ⟨b, o, rfl, _, _⟩ := hps.1 hpos
      have hps1 := hps.below hB1
      have := contains_some ps b o c w.heap.size v commits turn next f count d _ hv1 hd1 hn hbx hps1 hpos hbig
      rw [hnb] at this
      refine this.mono ?_
      rintro e w' ⟨rfl, hB⟩
      exact ⟨rfl, hB1.trans (hB.mono (by simp))⟩
  unfold takesB
  clear h hd hps hq hv1 hd1 hB1 hnb
  by_cases hl : ps.length ≤ nb
  · have hlI : (ps.length : Int) ≤ nb := by omega
    generalize ps.all (goodPut nb) = al at *
    rw [decide_eq_true hl]
    go_enter Tryz.func102, Tryz.ntmps102
    go_wp2_with (first | (go_at_call 98; refine Calls_on c9 ?_) | (go_at_call 117; refine c49.mono ?_; rintro e w2 ⟨rfl, hB2⟩; clear c49))
    go_ret
    exact ⟨by simp, hB2⟩
  · have hlI : ¬ (ps.length : Int) ≤ nb := by omega
    rw [decide_eq_false hl]
    go_enter Tryz.func102, Tryz.ntmps102
    go_wp2_with (go_at_call 98; refine Calls_on c9 ?_)
    go_ret
    exact ⟨rfl, HB1.out⟩

end Go.Proofs.YtebdgcoandfocaaGreatDoor

/-
  The blocks that the log holds: the map 'fresh' of a volume; slices.Clone of bytes; take.
-/
namespace Go.Proofs.YtebdgcoandfocaaGreatDoor
open Go.RowKit Go.Maps Go.Sort Go.Shelf

/-- How an element of the map reads: as the slice itself. -/
def slElem : Value → Option (DataW Value × List MemPlace)
  | .slice p n c => some (.held (.slice p n c), [])
  | _ => none
theorem slElem_inv {v : Value} {z : DataW Value × List MemPlace} (h : slElem v = some z) : ∃ p n c, v = .slice p n c ∧ z = (.held (.slice p n c), []) := by
  unfold slElem at h
  split at h
  · cases h; exact ⟨_, _, _, rfl, rfl⟩
  · cases h
def slD (p : Option Addr) (n c : Nat) : DataW Value := .held (.slice p n c)
theorem Tryz.zero30 (w : World) : (zeroValue 30).run Tryz.prog w = .ok (.slice none 0 0) w := by kernel_rfl
theorem lit_key {i : Nat} (h : i < 9223372036854775808) : WideAt.IsKeyLit (Lit.int .i64 (i : Int)) := keyed.key (key_i64 h)
theorem lit_ne {i j : Nat} (h : i ≠ j) : Lit.int .i64 (i : Int) ≠ Lit.int .i64 (j : Int) := by
  intro e; cases e; exact h rfl

theorem slook_ok {w : World} {m nn : Nat} {D : DataW Value} (h : w.ownsMap Tryz.prog 3 slElem m nn D) {i : Nat} (hi : i < 9223372036854775808) :
    ∃ p n c, (Instr.lookup 113 (.map (some m)) (.int .i64 i) true).run Tryz.prog w = .ok (.tuple #[.slice p n c, .bool (Maps.has D (.int .i64 i))]) w ∧ D.atKey (.int .i64 i) (slD none 0 0) = slD p n c := by
  obtain ⟨v, ps, hrun, hv⟩ := h.look_ok keyed Tryz.underlying113 (Tryz.zero30 w) (zd := slD none 0 0) (zp := []) rfl (key_i64 hi)
  obtain ⟨p, n, c, rfl, hz⟩ := slElem_inv hv
  simp only [Prod.mk.injEq] at hz
  exact ⟨p, n, c, hrun, hz.1⟩
theorem sput_run {w : World} {m nn : Nat} {D : DataW Value} (h : w.ownsMap Tryz.prog 3 slElem m nn D) (hn : nn < maxLen) {i : Nat} (hi : i < 9223372036854775808) (p : Option Addr) (n c : Nat) :
    ∃ w', (Instr.mapUpdate 113 (.map (some m)) (.int .i64 i) (.slice p n c)).run Tryz.prog w = .ok () w' ∧ w'.ownsMap Tryz.prog 3 slElem m (nn + 1) (D.put (.int .i64 i) (slD p n c)) ∧ w.mapTurned w' m :=
  h.store keyed Tryz.underlying113 hn (key_i64 hi) (d := slD p n c) (ps := []) rfl

/-- The map holds just these blocks. -/
structure Fresh (w : World) (f nf : Nat) (F : DataW Value) (fr : Nat → Option By) : Prop where
  own : w.ownsMap Tryz.prog 3 slElem f nf F
  has : ∀ i : Nat, i < 1000000000 → Maps.has F (.int .i64 i) = (fr i).isSome
  val : ∀ (i : Nat) b, i < 1000000000 → fr i = some b → b.length = 512 ∧ ∃ g c, F.atKey (.int .i64 i) (slD none 0 0) = slD (some ⟨g, 0, none⟩) 512 c ∧ 512 ≤ c ∧ Bytes w (some ⟨g, 0, none⟩) b ∧ ∃ cs fr, w.heap[g]? = some (.cells cs 5 fr)
  rng : ∀ x : Int, Maps.has F (.int .i64 x) = true → 0 ≤ x ∧ x < 1000000000

theorem Fresh.empty {w : World} {f : Nat} (h : w.heap[f]? = some (.map #[] 0)) : Fresh w f 0 (.map []) (fun _ => none) :=
  ⟨⟨#[], 0, h, ⟨by simp, MapKept.stamped_empty 0, by simp⟩, Nat.le_refl _, rfl⟩, fun _ _ => rfl, fun _ _ _ h => (by cases h), fun x h => absurd (show false = true from h) (by decide)⟩
theorem Fresh.but {w w' : World} {f nf : Nat} {F : DataW Value} {fr : Nat → Option By} (h : Fresh w f nf F fr) {S : Nat → Prop} (hb : But S w w') (hf : ¬ S f) (hS : ∀ k cs fr, w.heap[k]? = some (.cells cs 5 fr) → ¬ S k) : Fresh w' f nf F fr := by
  have hlt := h.own.lt
  refine ⟨?_, h.has, fun i b hi hfr => ?_, h.rng⟩
  · obtain ⟨es, clock, he, r⟩ := h.own
    exact ⟨es, clock, (hb.block f hlt hf).trans he, r⟩
  · obtain ⟨hl, g, c, ha, hc, hbb, cs, fr, ht⟩ := h.val i b hi hfr
    have hk := hb.block g (Array.getElem?_eq_some_iff.1 ht).1 (hS g cs fr ht)
    refine ⟨hl, g, c, ha, hc, fun hp => ?_, cs, fr, hk.trans ht⟩
    obtain ⟨g', o', e, hx⟩ := hbb hp
    cases e
    exact ⟨g, 0, rfl, fun j x hj => (World.cell?_of_block (w := w) hk).trans (hx j x hj)⟩
theorem Fresh.below {w w' : World} {f nf : Nat} {F : DataW Value} {fr : Nat → Option By} (h : Fresh w f nf F fr) (hb : Below w.heap.size w w') : Fresh w' f nf F fr :=
  h.but (S := fun _ => False) (But.of_below hb) (fun h => h) (fun _ _ _ _ h => h)
/-- One more block. -/
theorem Fresh.put {w w' : World} {f nf : Nat} {F : DataW Value} {fr : Nat → Option By} (h : Fresh w f nf F fr) {i : Nat} (hi : i < 1000000000) {g c : Nat} {b : By} (hl : b.length = 512) (hc : 512 ≤ c) (hb : Bytes w (some ⟨g, 0, none⟩) b) (htg : ∃ cs fr, w.heap[g]? = some (.cells cs 5 fr))
    (hown : w'.ownsMap Tryz.prog 3 slElem f (nf + 1) (F.put (.int .i64 i) (slD (some ⟨g, 0, none⟩) 512 c))) (hbut : But (fun k => k = f) w w') : Fresh w' f (nf + 1) (F.put (.int .i64 i) (slD (some ⟨g, 0, none⟩) 512 c)) (fun j => if j = i then some b else fr j) := by
  have hne : ∀ (g : Nat) (b : By), 0 < b.length → Bytes w (some ⟨g, 0, none⟩) b → Bytes w' (some ⟨g, 0, none⟩) b := by
    intro g b hp hb _
    obtain ⟨g', o', e, hx⟩ := hb hp
    refine ⟨g', o', e, fun j x hj => (World.cell?_of_block (w := w) (hbut.block g' (cell_lt (hx j x hj)) ?_)).trans (hx j x hj)⟩
    rintro rfl
    obtain ⟨es, clock, hm, _⟩ := h.own
    have := hx j x hj
    simp [World.cell?, hm] at this
  have tag : ∀ g : Nat, (∃ cs fr, w.heap[g]? = some (.cells cs 5 fr)) → ∃ cs fr, w'.heap[g]? = some (.cells cs 5 fr) := by
    rintro g ⟨cs, fr, ht⟩
    refine ⟨cs, fr, (hbut.block g (Array.getElem?_eq_some_iff.1 ht).1 ?_).trans ht⟩
    rintro rfl
    obtain ⟨es, clock, hm, _⟩ := h.own
    rw [hm] at ht
    cases ht
  refine ⟨hown, fun j hj => ?_, fun j b' hj hfr => ?_, fun x hx => ?_⟩
  · by_cases hji : j = i
    · subst hji; rw [has_put_same h.own.isMap (lit_key (by omega))]; simp
    · rw [has_put_other (lit_ne hji)]; simp [hji]; exact h.has j hj
  · by_cases hji : j = i
    · subst hji
      simp at hfr
      subst hfr
      exact ⟨hl, g, c, atKey_put_same h.own.isMap (lit_key (by omega)) _ _, hc, hne g b (by omega) hb, tag g htg⟩
    · simp [hji] at hfr
      obtain ⟨hl', g', c', ha, hc', hb', ht'⟩ := h.val j b' hj hfr
      exact ⟨hl', g', c', (atKey_put_other (lit_ne hji) _ _).trans ha, hc', hne g' b' (by omega) hb', tag g' ht'⟩
  · by_cases hxi : x = (i : Int)
    · omega
    · rw [has_put_other (fun e => by cases e; exact hxi rfl)] at hx
      exact h.rng x hx

/-- slices.Clone of bytes. -/
theorem clone_bytes (s o : Nat) (bs : By) (c : Nat) (w : World) (hb : Bytes w (some ⟨s, o, none⟩) bs) (h1 : 1 ≤ bs.length) (hl : bs.length ≤ 1000000) :
    Calls Tryz.prog 92 #[.slice (some ⟨s, o, none⟩) bs.length c] w fun e w' => ∃ g cap, e = .returned (.slice (some ⟨g, 0, none⟩) bs.length cap) ∧ w.heap.size ≤ g ∧ bs.length ≤ cap ∧ Bytes w' (some ⟨g, 0, none⟩) bs ∧ Below w.heap.size w w' ∧ ∃ cs fr, w'.heap[g]? = some (.cells cs 5 fr) := by
  obtain ⟨i0, hi, hz0, hz1, hz2⟩ := info_parts Tryz.info5
  obtain ⟨s', o', e, hx⟩ := hb (by omega)
  cases e
  have c := AnyE.slices_Clone Tryz.cloneBy i0 (.int .u8 0) 1 1 hi hz0 hz1 hz2 rfl (by decide) Tryz.sizeOf5 s o bs.length c (bs.map u8v) w (by simp) (by unfold maxLen; omega) (by omega)
    (fun j u hj => by
      rw [List.getElem?_map] at hj
      obtain ⟨x, hx', rfl⟩ := Option.map_eq_some_iff.1 hj
      exact hx j x hx') (u8v_one bs)
  refine (show Calls Tryz.prog 92 _ _ _ from c).mono ?_
  rintro e w' ⟨v', rfl, hrow, hnil, hB⟩
  obtain ⟨g, cap, rfl, hg, hbb⟩ := owns_bytes hrow h1
  rcases hrow.2 with ⟨e, _⟩ | ⟨g', cap', cur', e, _, hblk, hcap, _⟩
  · cases e
  · cases e; exact ⟨g, cap, rfl, hg, hcap, hbb, hB, _, _, hblk⟩

end Go.Proofs.YtebdgcoandfocaaGreatDoor

/-
  take of package wal.
-/
namespace Go.Proofs.YtebdgcoandfocaaGreatDoor
open Go.RowKit Go.Maps Go.Sort Go.Shelf

/-- A list of puts as a record. -/
def recOf (ps : List PutM) : Rec := ps.map fun x => (x.block.toNat, x.bytes)
theorem laidOn_step (fr : Nat → Option By) (ps : List PutM) (i : Nat) (x : PutM) (hx : ps[i]? = some x) : laidOn fr (recOf (ps.take (i + 1))) = fun j => if j = x.block.toNat then some x.bytes else laidOn fr (recOf (ps.take i)) j := by
  rw [List.take_add_one, hx]
  unfold recOf
  rw [List.map_append, laidOn_append]
  rfl

/-- A map's block has no cells. -/
theorem Fresh.noCell {w : World} {f nf : Nat} {F : DataW Value} {fr : Nat → Option By} (h : Fresh w f nf F fr) : ∀ k j x, w.cell? ⟨k, j, none⟩ = some x → k ≠ f := by
  rintro k j x hx rfl
  obtain ⟨es, clock, hm, _⟩ := h.own
  simp [World.cell?, hm] at hx

set_option maxRecDepth 8000 in
set_option maxHeartbeats 4000000 in
theorem take_any (q : Option Addr) (ps : List PutM) (c v : Nat) (pd : Option Addr) (commits turn next : Nat) (f nf : Nat) (F : DataW Value) (fr : Nat → Option By) (count : Int) (nb : Nat) (w : World) (h : IsVol w v (.pointer pd) commits turn next (some f) count)
    (hF : Fresh w f nf F fr) (hps : PutsAt w q ps) (hg : ps.all (goodPut nb) = true) (hnb : nb ≤ 1000000) (hnf : nf + ps.length < 1000000000) (hc : commits < 4611686018427387904) :
    Calls Tryz.prog 82 #[dp v, .slice q ps.length c] w fun e w' => e = .returned (.tuple #[]) ∧ IsVol w' v (.pointer pd) (commits + 1) turn next (some f) count ∧ (∃ F', Fresh w' f (nf + ps.length) F' (laidOn fr (recOf ps))) ∧ But (fun k => k = v ∨ k = f) w w' := by
  have HV : Hid (IsVol w v (.pointer pd) commits turn next (some f) count) := h
  have HF : Hid (Fresh w f nf F fr) := hF
  have HP : Hid (PutsAt w q ps) := hps
  have hgood : ∀ (j : Nat) (x : PutM), ps[j]? = some x → 0 ≤ x.block ∧ x.block < nb ∧ x.bytes.length = 512 := by
    intro j x hj
    have := (List.all_eq_true.1 hg) x (List.mem_of_getElem? hj)
    unfold goodPut at this
    simp at this
    exact ⟨this.1.1, this.1.2, this.2⟩
  have HG : Hid (∀ (j : Nat) (x : PutM), ps[j]? = some x → 0 ≤ x.block ∧ x.block < nb ∧ x.bytes.length = 512) := hgood
  clear h hF hps hg hgood
  go_enter Tryz.func82, Tryz.ntmps82
  go_wp2_with fail
  go_loopw [8] (fun ii wr => ∃ i : Nat, ii = .int .i64 i ∧ i ≤ ps.length ∧ Hid (But (fun k => k = f) w wr ∧ ∃ F', Fresh wr f (nf + i) F' (laidOn fr (recOf (ps.take i))))) (fun ii _ => ps.length - (intOf ii).toNat)
  case atStart => exact ⟨0, rfl, Nat.zero_le _, But.refl _ _, F, HF.out⟩
  case round =>
    obtain ⟨i, rfl, hi, HJ⟩ := hrel
    obtain ⟨hbut, F', hFi⟩ := HJ.out
    have hcell : ∀ k j x, w.cell? ⟨k, j, none⟩ = some x → ¬ (k = f) := fun k j x hx => HF.out.noCell k j x hx
    have hpi := HP.out.but hbut (fun k cs t fr hk _ e => by subst e; obtain ⟨es, clock, hm, _⟩ := HF.out.own; rw [hm] at hk; cases hk)
    have hvi : IsVol wr v (.pointer pd) commits turn next (some f) count := HV.out.but hbut (hcell v 1 _ (cellOf HV.out 1))
    by_cases hlt : i < ps.length
    · have hltI : (i : Int) < ps.length := by omega
      obtain ⟨b, o, rfl, _, hx⟩ := hpi.1 (by omega)
      obtain ⟨x, hxi⟩ : ∃ x, ps[i]? = some x := ⟨_, List.getElem?_eq_getElem hlt⟩
      obtain ⟨hg0, hg1, hg2⟩ := HG.out i x hxi
      obtain ⟨y0, y1⟩ := hx i x hxi
      obtain ⟨bn, hbn⟩ : ∃ bn : Nat, x.block = (bn : Int) := ⟨x.block.toNat, by omega⟩
      rw [hbn] at y0
      rw [hg2] at y1
      obtain ⟨s, so, hs, hsx⟩ := (hpi.2 i x hxi).2.1 (by omega)
      rw [hs] at y1
      obtain ⟨w1, hw1⟩ : ∃ w1, w1 = wr.alloc (.cells #[.int .i64 (bn : Nat), .slice (some ⟨s, so, none⟩) 512 x.cap] 143) := ⟨_, rfl⟩
      have hB1 : Below wr.heap.size wr w1 := by rw [hw1]; exact (Below.refl _ wr).alloc (Nat.le_refl _) _
      have hb1 : w1.heap[wr.heap.size]? = some (.cells #[.int .i64 (bn : Nat), .slice (some ⟨s, so, none⟩) 512 x.cap] 143 (0, 0)) := by rw [hw1]; exact heap_alloc_new wr _
      have hv1 := hvi.below hB1
      have hF1 := hFi.below hB1
      have hbs1 : Bytes w1 (some ⟨s, so, none⟩) x.bytes := below_bytes hB1 (fun _ => ⟨s, so, rfl, hsx⟩)
      have cl : ∀ W : World, Below w1.heap.size w1 W → Calls Tryz.prog 92 #[.slice (some ⟨s, so, none⟩) 512 x.cap] W fun e w' => ∃ g cap, e = .returned (.slice (some ⟨g, 0, none⟩) 512 cap) ∧ 512 ≤ cap ∧ Bytes w' (some ⟨g, 0, none⟩) x.bytes ∧ Below w1.heap.size w1 w' ∧ ∃ cs fr, w'.heap[g]? = some (.cells cs 5 fr) := by
        intro W hW
        have := clone_bytes s so x.bytes x.cap W (below_bytes hW hbs1) (by omega) (by omega)
        rw [hg2] at this
        refine this.mono ?_
        rintro e w' ⟨g, cap, rfl, _, h2, h3, h4, h5⟩
        exact ⟨g, cap, rfl, h2, h3, hW.trans (h4.mono hW.size), h5⟩
      have SOf : ∀ W : World, Below w1.heap.size w1 W → W.cell? ⟨v, 4, none⟩ = some (.map (some f)) ∧ W.cell? ⟨wr.heap.size, 0, none⟩ = some (.int .i64 (bn : Nat)) ∧ W.cell? ⟨wr.heap.size, 1, none⟩ = some (.slice (some ⟨s, so, none⟩) 512 x.cap) := by
        intro W hW
        refine ⟨?_, ?_, ?_⟩
        · have := cellOf (hv1.below hW) 4; simpa [volCells] using this
        · have := cellOf (below_block hb1 hW) 0; simpa using this
        · have := cellOf (below_block hb1 hW) 1; simpa using this
      have HX : Hid (ps[i]? = some x ∧ x.block = (bn : Int) ∧ x.bytes.length = 512) := ⟨hxi, hbn, hg2⟩
      have HF1 : Hid (Fresh w1 f (nf + i) F' (laidOn fr (recOf (ps.take i)))) := hF1
      have hbn' : bn < 1000000 := by omega
      have hB1' : Hid (But (fun k => k = f) w w1) := hbut.trans (But.of_below hB1)
      clear hx hxi hg0 hg1 hg2 hbn hs hsx hpi hvi hFi hbut hcell hbs1 hv1 hF1 hB1 hb1 HJ
      go_wp2_with fail
      rw [← hw1]
      clear hw1
      have hR := (Below.refl w1.heap.size w1).drew
      obtain ⟨z4, z0, z1⟩ := SOf w1 (Below.refl _ _)
      have hput0 : ∀ (W1 : World), Below w1.heap.size w1 W1 → ∀ g cap, ∃ W2, (Instr.mapUpdate 113 (.map (some f)) (.int .i64 (bn : Nat)) (.slice (some ⟨g, 0, none⟩) 512 cap)).run Tryz.prog W1 = .ok () W2 ∧
          Hid (W2.ownsMap Tryz.prog 3 slElem f (nf + i + 1) (F'.put (.int .i64 bn) (slD (some ⟨g, 0, none⟩) 512 cap)) ∧ But (fun k => k = f) W1 W2) := by
        intro W1 hW1 g cap
        obtain ⟨W2, h1, h2, h3⟩ := sput_run (w := W1) (HF1.out.below hW1).own (by unfold maxLen; omega) (i := bn) (by omega) (some ⟨g, 0, none⟩) 512 cap
        exact ⟨W2, h1, h2, But.of_grown h3.grown (by intro k hk; cases hk; rfl)⟩
      go_region_with (go_at_call 92; refine (cl _ hR).mono ?_; rintro e W1 ⟨g, cap, rfl, hcap, hbb, hBB, htg⟩; obtain ⟨s4, s0, s1⟩ := SOf W1 hBB; obtain ⟨W2, hput, H2⟩ := hput0 W1 hBB g cap; have HBB : Hid (Below w1.heap.size w1 W1 ∧ Bytes W1 (some ⟨g, 0, none⟩) x.bytes ∧ ∃ cs fr, W1.heap[g]? = some (.cells cs 5 fr)) := ⟨hBB, hbb, htg⟩; clear htg)
      all_goals
        have H3 : Hid (But (fun k => k = f) w W2 ∧ ∃ F', Fresh W2 f (nf + (i + 1)) F' (laidOn fr (recOf (ps.take (i + 1))))) := by
          have hbb1 : But (fun k => k = f) w1 W1 := But.of_below HBB.out.1
          refine ⟨(hB1'.out.trans hbb1).trans H2.out.2, F'.put (.int .i64 bn) (slD (some ⟨g, 0, none⟩) 512 cap), ?_⟩
          have h1 := (HF1.out.below HBB.out.1).put (i := bn) (by omega) HX.out.2.2 hcap HBB.out.2.1 HBB.out.2.2 H2.out.1 H2.out.2
          have e : (fun j => if j = bn then some x.bytes else laidOn fr (recOf (ps.take i)) j) = laidOn fr (recOf (ps.take (i + 1))) := by
            rw [laidOn_step fr ps i x HX.out.1, HX.out.2.1]; rfl
          rw [e] at h1
          exact h1
        clear hput0 cl SOf hput H2 HBB hbb hBB
        go_wp2
        go_roundw
        case rel => exact ⟨i + 1, by go_num, by omega, H3.out⟩
        case measure => simp [intOf]; omega
    · obtain rfl : i = ps.length := by omega
      have m1 := cellOf hvi 1
      have f1 := frozenOf hvi 1
      simp [volCells] at m1
      rw [List.take_length] at hFi
      have H3 : Hid (But (fun k => k = f) w wr ∧ Fresh wr f (nf + ps.length) F' (laidOn fr (recOf ps)) ∧ IsVol wr v (.pointer pd) commits turn next (some f) count) := ⟨hbut, hFi, hvi⟩
      clear hbut hFi hvi hpi hcell HJ
      go_wp2
      go_end0
      obtain ⟨hbut, hFi, hvi⟩ := H3.out
      have hvf : v ≠ f := hFi.noCell v 1 _ (cellOf hvi 1)
      have hbv : But (fun k => k = v) wr (wr.setCell ⟨v, 1, none⟩ (.int .i64 ((commits : Int) + 1))) := (But.refl (fun k => k = v) wr).setCell ⟨v, 1, none⟩ rfl _
      refine ⟨rfl, ?_, ⟨F', hFi.but hbv (fun e => hvf e.symm) (fun k cs fr hk e => ?_)⟩, (hbut.mono (fun k _ hk => .inr hk)).trans (hbv.mono (fun k _ hk => .inl hk))⟩
      · have := hvi.setC (commits + 1)
        rw [show ((commits + 1 : Nat) : Int) = (commits : Int) + 1 by omega] at this
        exact this
      · subst e; have := hvi; rw [IsVol, hk] at this; simp at this

end Go.Proofs.YtebdgcoandfocaaGreatDoor

/-
  A record is read as it was written: as functions of lists of bytes.
-/
namespace Go.Proofs.YtebdgcoandfocaaGreatDoor
open Go.RowKit Go.Maps Go.Sort Go.Shelf

theorem flat_drop : ∀ (ps : Rec) (_ : ∀ p ∈ ps, p.2.length = 512) (k : Nat) (p : Nat × By), ps[k]? = some p → ∃ rest, ((ps.map fun p => le8 p.1 ++ p.2).flatten).drop (k * 520) = le8 p.1 ++ (p.2 ++ rest)
  | [], _, k, p, h => by simp at h
  | q :: ps, hl, 0, p, h => by
    simp at h
    subst h
    exact ⟨_, by simp; rfl⟩
  | q :: ps, hl, k + 1, p, h => by
    obtain ⟨rest, hr⟩ := flat_drop ps (fun p hp => hl p (by simp [hp])) k p (by simpa using h)
    refine ⟨rest, ?_⟩
    rw [List.map_cons, List.flatten_cons, List.drop_append, ← hr]
    have hq := hl q (by simp)
    have hq' : (le8 q.1 ++ q.2).length = 520 := by rw [List.length_append, le8_length, hq]
    rw [List.drop_of_length_le (by omega), hq', List.nil_append, show (k + 1) * 520 - 520 = k * 520 by omega]

theorem recP_drop (ps : Rec) (hl : ∀ p ∈ ps, p.2.length = 512) (k : Nat) (p : Nat × By) (hk : ps[k]? = some p) : ∃ rest, (recP ps).drop (8 + k * 520) = le8 p.1 ++ (p.2 ++ rest) := by
  obtain ⟨rest, hr⟩ := flat_drop ps hl k p hk
  have hlt := (List.getElem?_eq_some_iff.1 hk).1
  have hfl := flat_length ps hl
  unfold recP recBytes
  rw [← List.drop_drop, List.append_assoc, List.drop_left' (le8_length _), List.drop_append, hr]
  exact ⟨rest ++ (List.replicate (pagesFor ps.length * 496 - (le8 ps.length ++ (ps.map fun p => le8 p.1 ++ p.2).flatten).length) 0#8).drop (k * 520 - ((ps.map fun p => le8 p.1 ++ p.2).flatten).length), by simp⟩

theorem recP_block (ps : Rec) (hl : ∀ p ∈ ps, p.2.length = 512) (k : Nat) (p : Nat × By) (hk : ps[k]? = some p) (hp : p.1 < 18446744073709551616) : leN (((recP ps).drop (8 + k * 520)).take 8) = p.1 := by
  obtain ⟨rest, hr⟩ := recP_drop ps hl k p hk
  rw [hr, List.take_left' (le8_length _), leN_le8 _ hp]
theorem recP_data (ps : Rec) (hl : ∀ p ∈ ps, p.2.length = 512) (k : Nat) (p : Nat × By) (hk : ps[k]? = some p) : ((recP ps).drop (8 + k * 520 + 8)).take 512 = p.2 := by
  obtain ⟨rest, hr⟩ := recP_drop ps hl k p hk
  rw [← List.drop_drop, hr, List.drop_left' (le8_length _), List.take_left' (hl p (List.mem_of_getElem? hk))]
theorem recP_count (ps : Rec) (h : ps.length < 18446744073709551616) : leN ((recP ps).take 8) = ps.length := by
  unfold recP recBytes
  rw [List.append_assoc, List.take_left' (le8_length _), leN_le8 _ h]
theorem body_count (ps : Rec) (h : ps.length < 18446744073709551616) : leN ((body ps 0).take 8) = ps.length := by
  unfold body
  rw [Nat.zero_mul, List.drop_zero, List.take_take]
  exact recP_count ps h
/-- The bodies, one behind the other. -/
theorem bodies_step (ps : Rec) (i : Nat) : (recP ps).take ((i + 1) * 496) = (recP ps).take (i * 496) ++ body ps i := by
  unfold body
  rw [Nat.add_mul, Nat.one_mul, List.take_add]

/-- The puts that putsOf finds. -/
theorem recOf_putK (g o : Nat) (ps : Rec) (hl : ∀ p ∈ ps, p.2.length = 512) (hp : ∀ p ∈ ps, p.1 < 18446744073709551616) : recOf ((List.range ps.length).map (putK g o (recP ps))) = ps := by
  unfold recOf
  rw [List.map_map]
  apply List.ext_getElem?
  intro k
  by_cases hk : k < ps.length
  · obtain ⟨p, hpk⟩ : ∃ p, ps[k]? = some p := ⟨_, List.getElem?_eq_getElem hk⟩
    rw [List.getElem?_map, List.getElem?_range hk, hpk]
    show some ((((leN (((recP ps).drop (8 + k * 520)).take 8) : Nat) : Int)).toNat, ((recP ps).drop (8 + k * 520 + 8)).take 512) = some p
    rw [recP_block ps hl k p hpk (hp p (List.mem_of_getElem? hpk)), recP_data ps hl k p hpk]
    rfl
  · rw [List.getElem?_eq_none (by simpa using hk), List.getElem?_eq_none (by simpa using hk)]
theorem good_putK (g o nb : Nat) (ps : Rec) (hok : okRec nb ps) (hnb : nb < 18446744073709551616) : ((List.range ps.length).map (putK g o (recP ps))).all (goodPut nb) = true := by
  have hl : ∀ p ∈ ps, p.2.length = 512 := fun p hp => (hok.2.2 p hp).2
  rw [List.all_eq_true]
  intro x hx
  obtain ⟨k, hk, rfl⟩ := List.mem_map.1 hx
  have hk' := List.mem_range.1 hk
  obtain ⟨p, hpk⟩ : ∃ p, ps[k]? = some p := ⟨_, List.getElem?_eq_getElem hk'⟩
  have hp := hok.2.2 p (List.mem_of_getElem? hpk)
  have h1 : (putK g o (recP ps) k).block = (p.1 : Int) := by
    show ((leN (((recP ps).drop (8 + k * 520)).take 8) : Nat) : Int) = _
    rw [recP_block ps hl k p hpk (by omega)]
  have h2 : (putK g o (recP ps) k).bytes = p.2 := recP_data ps hl k p hpk
  unfold goodPut
  rw [h1, h2, hp.2]
  simp
  omega

end Go.Proofs.YtebdgcoandfocaaGreatDoor

/-
  readRecord of package wal.
-/
namespace Go.Proofs.YtebdgcoandfocaaGreatDoor
open Go.RowKit Go.Maps Go.Sort Go.Shelf

theorem own_below {W W' : World} {base : Nat} {v : Value} {n : Nat} {xs : List Value} (h : W.ownsRow base 5 1 v n xs) (hB : Below W.heap.size W W') : W'.ownsRow base 5 1 v n xs := by
  obtain ⟨h0, h | ⟨g, cap, cur, e, hg, hb, r⟩⟩ := h
  · exact ⟨h0, .inl h⟩
  · exact ⟨h0, .inr ⟨g, cap, cur, e, hg, below_block hb hB, r⟩⟩

set_option maxRecDepth 8000 in
set_option maxHeartbeats 1000000 in
theorem readRecord_none (at_ : Nat) (v : Nat) (commits turn next : Nat) (f : Option Nat) (count : Int) (d : DS) (w : World) (h : IsVol w v (dp d.a) commits turn next f count) (hd : Dev w d) (ht : Tab w)
    (htu : turn < 4611686018427387904) (ho : at_ < d.n → OldB turn (d.B at_)) :
    Calls Tryz.prog 81 #[dp v, .int .i64 at_] w fun e w' => e = .returned (.tuple #[.slice none 0 0, .int .i64 0]) ∧ Below w.heap.size w w' := by
  have c60 := readPage_none at_ v commits turn next f count d w h hd ht htu ho
  clear h hd ht ho
  go_enter Tryz.func81, Tryz.ntmps81
  go_wp2_with (go_at_call 99; refine c60.mono ?_; rintro e w1 ⟨rfl, hB1⟩; clear c60)
  go_ret2
  exact ⟨rfl, hB1⟩

set_option maxRecDepth 8000 in
set_option maxHeartbeats 4000000 in
theorem readRecord_some (at_ : Nat) (ps : Rec) (v : Nat) (commits turn next : Nat) (f : Option Nat) (count : Int) (d : DS) (w : World) (h : IsVol w v (dp d.a) commits turn next f count) (hd : Dev w d) (ht : Tab w) (hn : 16 ≤ d.n)
    (htu : turn < 4611686018427387904) (hok : okRec (nbOf d.n) ps) (hfit : at_ + pagesFor ps.length ≤ d.n) (hB : ∀ i, i < pagesFor ps.length → d.B (at_ + i) = pageB turn ps i) :
    Calls Tryz.prog 81 #[dp v, .int .i64 at_] w fun e w' => ∃ q c pm, e = .returned (.tuple #[.slice q ps.length c, .int .i64 (pagesFor ps.length)]) ∧ Below w.heap.size w w' ∧ PutsAt w' q pm ∧ pm.length = ps.length ∧ recOf pm = ps ∧ pm.all (goodPut (nbOf d.n)) = true := by
  have hl : ∀ p ∈ ps, p.2.length = 512 := fun p hp => (hok.2.2 p hp).2
  have hnb : nbOf d.n ≤ 65536 := by have := hd.hn; unfold nbOf; omega
  have hdn := hd.hn
  obtain ⟨N, hN⟩ : ∃ N, N = ps.length := ⟨_, rfl⟩
  obtain ⟨K, hK⟩ : ∃ K, K = pagesFor ps.length := ⟨_, rfl⟩
  have hN1 : 1 ≤ N := by rw [hN]; exact hok.1
  have hN2 : N ≤ nbOf d.n := by rw [hN]; exact hok.2.1
  have hK1 : 1 ≤ K := by rw [hK]; have := pagesFor_ge ps.length; omega
  have hKN : K * 496 < 8 + N * 520 + 496 := by rw [hK, hN]; exact pagesFor_lt _
  have hKN' : 8 + N * 520 ≤ K * 496 := by rw [hK, hN]; exact pagesFor_ge _
  rw [← hK] at hfit hB
  have hrl : (recP ps).length = K * 496 := by rw [recP_length ps hl, hK]
  have hpg : ∀ (i : Nat) (W : World), i < K → Below w.heap.size w W → Calls Tryz.prog 99 #[dp v, .int .i64 ((at_ + i : Nat) : Int)] W fun e w' => ∃ g o, e = .returned (.tuple #[.slice (some ⟨g, o, none⟩) 496 496, .bool true]) ∧ Bytes w' (some ⟨g, o, none⟩) (body ps i) ∧ Below W.heap.size W w' := by
    intro i W hi hW
    have hi' : i < pagesFor ps.length := by rw [← hK]; exact hi
    exact readPage_some (at_ + i) (body ps i) v commits turn next f count d W (h.below hW) (hd.below hW) (below_tab hW ht.lt ht) (by omega) htu (by rw [hB i hi]; exact opened_pageB turn ps hl i hi') (body_length ps hl i hi')
  have c60 := hpg 0 w (by omega) (Below.refl _ _)
  rw [Nat.add_zero] at c60
  have c38 : ∀ (W : World) (g o : Nat), Bytes W (some ⟨g, o, none⟩) (body ps 0) → Calls Tryz.prog 77 #[.slice (some ⟨g, o, none⟩) 496 496] W fun e w' => e = .returned (.int .i64 (N : Nat)) ∧ w' = W := by
    intro W g o hb
    have hbl := body_length ps hl 0 (by omega)
    have := number_any (some ⟨g, o, none⟩) (body ps 0) 496 W (by omega) (by omega) hb (by rw [body_count ps (by omega)]; omega)
    rw [hbl, body_count ps (by omega), ← hN] at this
    exact this
  have c9 : ∀ W : World, Below w.heap.size w W → Calls Tryz.prog 98 #[dp v] W fun e w' => e = .returned (.int .i64 (nbOf d.n)) ∧ w' = W := fun W hW => vBlocks v commits turn next f count d W (h.below hW) (hd.below hW) hn
  have c50 : ∀ W : World, Calls Tryz.prog 100 #[.int .i64 N] W fun e w' => e = .returned (.int .i64 K) ∧ w' = W := fun W => by
    have := pagesFor_any N W (by omega)
    rw [hN, ← hK] at this
    rw [hN]; exact this
  have c61 : ∀ (W : World) (g cp : Nat), Bytes W (some ⟨g, 0, none⟩) (recP ps) → (∃ cs fr, W.heap[g]? = some (.cells cs 5 fr)) → K * 496 ≤ cp → Calls Tryz.prog 101 #[.slice (some ⟨g, 0, none⟩) (K * 496) cp] W fun e w' => ∃ g' c', e = .returned (.slice (some ⟨g', 0, none⟩) N c') ∧ Below W.heap.size W w' ∧ PutsAt w' (some ⟨g', 0, none⟩) ((List.range N).map (putK g 0 (recP ps))) := by
    intro W g cp hb htg hcp
    have := putsOf_any g 0 (K * 496) cp N (recP ps) W hrl hb htg hcp (by omega) (by rw [recP_count ps (by omega), hN]) hN1 hKN' (fun k hk => by
      obtain ⟨p, hpk⟩ : ∃ p, ps[k]? = some p := ⟨_, List.getElem?_eq_getElem (by omega)⟩
      have hp := hok.2.2 p (List.mem_of_getElem? hpk)
      rw [recP_block ps hl k p hpk (by omega)]
      omega)
    refine this.mono ?_
    rintro e w' ⟨g', c', rfl, h1, _, h3⟩
    exact ⟨g', c', rfl, h1, h3⟩
  have c27 : ∀ (W : World) (g g' c' : Nat), Below w.heap.size w W → PutsAt W (some ⟨g', 0, none⟩) ((List.range N).map (putK g 0 (recP ps))) → Calls Tryz.prog 102 #[dp v, .slice (some ⟨g', 0, none⟩) N c'] W fun e w' => e = .returned (.bool true) ∧ Below W.heap.size W w' := by
    intro W g g' c' hW hp
    have := takes_any (some ⟨g', 0, none⟩) _ c' v commits turn next f count d W (h.below hW) (hd.below hW) hn hp (by simp; omega) (by simp; omega)
    have e1 : takesB (nbOf d.n) ((List.range N).map (putK g 0 (recP ps))) = true := by
      unfold takesB
      have hg := good_putK g 0 (nbOf d.n) ps hok (by omega)
      rw [← hN] at hg
      rw [hg]
      simp
      exact hN2
    rw [e1] at this
    simpa using this
  have HR : Hid (∀ g, recOf ((List.range N).map (putK g 0 (recP ps))) = ps ∧ ((List.range N).map (putK g 0 (recP ps))).all (goodPut (nbOf d.n)) = true) := by
    intro g
    rw [hN]
    exact ⟨recOf_putK g 0 ps hl (fun p hp => by have := (hok.2.2 p hp).1; omega), good_putK g 0 (nbOf d.n) ps hok (by omega)⟩
  have HRL : Hid ((recP ps).length = K * 496) := hrl
  obtain ⟨i0, hi0, hz0, hz1, hz2⟩ := info_parts Tryz.info5
  rw [← hK, ← hN]
  obtain ⟨nb, hnbe⟩ : ∃ nb, nb = nbOf d.n := ⟨_, rfl⟩
  rw [← hnbe] at c9 hN2 hnb HR
  rw [← hnbe]
  have HBL : Hid (∀ i, i < K → (body ps i).length = 496) := fun i hi => body_length ps hl i (by rw [← hK]; exact hi)
  clear h hd ht hB hrl hok hl hK hnbe hN
  have hN1I : ¬ (N : Int) < 1 := by omega
  have hN2I : ¬ (nb : Int) < N := by omega
  go_enter Tryz.func81, Tryz.ntmps81
  go_wp2_with (first
    | (go_at_call 99; refine c60.mono ?_; rintro e w1 ⟨g1, o1, rfl, hb1, hB1⟩; clear c60; have c38' := c38 w1 g1 o1 hb1; clear c38; have c9' := c9 w1 hB1; have c50' := c50 w1; clear c50 c9)
    | (go_at_call 77; refine Calls_on c38' ?_)
    | (go_at_call 98; refine Calls_on c9' ?_)
    | (go_at_call 100; refine Calls_on c50' ?_)
    | (at_make; refine wpList_make_own _ rfl _ _ 30 rfl w.heap.size 5 i0 (.int .u8 0) 1 Tryz.underlying30 hi0 hz0 hz1 .i64 .i64 _ (K * 496) rfl rfl (by go_num) (by rw [hz2]; omega) (by unfold maxLen; omega) hB1.size ?_; intro w2 hrow2 hg2; have HJ2 : Hid (w2.ownsRow w.heap.size 5 1 (.slice (some ⟨w1.heap.size, 0, none⟩) 0 (K * 496)) 0 [] ∧ Below w.heap.size w w2) := ⟨hrow2, hB1.grown hg2 hB1.size (by simp)⟩; clear hrow2 hg2))
  go_loopw [10, 41] (fun vv ii wr => ∃ i : Nat, ii = .int .i64 i ∧ i ≤ K ∧ Hid (wr.ownsRow w.heap.size 5 1 vv (i * 496) (((recP ps).take (i * 496)).map u8v) ∧ Below w.heap.size w wr)) (fun _ ii _ => K - (intOf ii).toNat)
  case atStart => exact ⟨0, rfl, Nat.zero_le _, by simpa using HJ2.out.1, HJ2.out.2⟩
  case round =>
    obtain ⟨i, rfl, hi, HJ⟩ := hrel
    obtain ⟨p0, l0, c0, hv⟩ : ∃ p l c, u10 = Value.slice p l c := by
      rcases HJ.out.1.2 with ⟨e, _⟩ | ⟨g, cap, cur, e, _⟩ <;> exact ⟨_, _, _, e⟩
    subst hv
    by_cases hlt : i < K
    · have hltI : (i : Int) < K := by omega
      have c60 := hpg i wr hlt HJ.out.2
      rw [show (((at_ + i : Nat)) : Int) = (at_ : Int) + i by omega] at c60
      have hbl := HBL.out i hlt
      clear c61 c27 hpg HJ2
      go_wp2_with (first
        | (go_at_call 99; refine c60.mono ?_; rintro e w3 ⟨g3, o3, rfl, hb3, hB3⟩; clear c60; have HB3 : Hid (Bytes w3 (some ⟨g3, o3, none⟩) (body ps i) ∧ Below w.heap.size w w3 ∧ w3.ownsRow w.heap.size 5 1 (.slice p0 l0 c0) (i * 496) (((recP ps).take (i * 496)).map u8v)) := ⟨hb3, HJ.out.2.trans (hB3.mono HJ.out.2.size), own_below HJ.out.1 hB3⟩; clear hb3)
        | (at_builtin; refine wpList_append_bytes rfl _ _ rfl w.heap.size _ (i * 496) _ rfl HB3.out.2.2 (some ⟨g3, o3, none⟩) (body ps i) 496 (by rw [hbl]; rfl) HB3.out.1 (by rw [hbl]; omega) HB3.out.2.1.size ?_; intro v4 w4 hown4 hg4 _))
      rw [hbl, ← List.map_append, ← bodies_step] at hown4
      obtain ⟨g4, cap4, rfl, _⟩ := hown4.form (by omega)
      have HW4 : Hid (w4.ownsRow w.heap.size 5 1 (.slice (some ⟨g4, 0, none⟩) (i * 496 + 496) cap4) (i * 496 + 496) (((recP ps).take ((i + 1) * 496)).map u8v) ∧ Below w.heap.size w w4) := ⟨hown4, HB3.out.2.1.grown hg4 HB3.out.2.1.size (owns_block HB3.out.2.2)⟩
      clear hown4 hg4
      go_wp2
      go_roundw
      case rel =>
        refine ⟨i + 1, by go_num, by omega, ?_, HW4.out.2⟩
        rw [show (i + 1) * 496 = i * 496 + 496 by omega]
        have := HW4.out.1
        rw [show (i + 1) * 496 = i * 496 + 496 by omega] at this
        exact this
      case measure => simp [intOf]; omega
    · obtain rfl : i = K := by omega
      have hown := HJ.out.1
      rw [List.take_of_length_le (by rw [HRL.out]; exact Nat.le_refl _)] at hown
      obtain ⟨g4, cap4, e4, hg4, hb4⟩ := owns_bytes hown (by omega)
      have hcap4 : i * 496 ≤ cap4 ∧ ∃ cs fr, wr.heap[g4]? = some (.cells cs 5 fr) := by
        rcases hown.2 with ⟨e, _⟩ | ⟨g', cap', cur', e, _, hblk, hcap, _⟩
        · rw [e4] at e; cases e
        · rw [e4] at e; cases e; exact ⟨hcap, _, _, hblk⟩
      cases e4
      have c61' := c61 wr g4 c0 hb4 hcap4.2 hcap4.1
      clear c61 hpg hown HJ2
      go_wp2_with (first
        | (go_at_call 101; refine c61'.mono ?_; rintro e w5 ⟨g5, c5, rfl, hB5, hp5⟩; clear c61'; have hB5' : Below w.heap.size w w5 := HJ.out.2.trans (hB5.mono HJ.out.2.size); have c27' := c27 w5 g4 g5 c5 hB5' hp5; have HP5 : Hid (PutsAt w5 (some ⟨g5, 0, none⟩) ((List.range N).map (putK g4 0 (recP ps)))) := hp5; clear hp5 c27)
        | (go_at_call 102; refine c27'.mono ?_; rintro e w6 ⟨rfl, hB6⟩; clear c27'))
      go_ret2
      refine ⟨_, _, _, rfl, hB5'.trans (hB6.mono hB5'.size), HP5.out.below hB6, by simp, (HR.out g4).1, (HR.out g4).2⟩

end Go.Proofs.YtebdgcoandfocaaGreatDoor

/-
  readLog of package wal.
-/
namespace Go.Proofs.YtebdgcoandfocaaGreatDoor
open Go.RowKit Go.Maps Go.Sort Go.Shelf

/-- The log from block at_ on: these records, and no page of this turn behind them. -/
def LogIs (B : Nat → By) (n nb turn : Nat) : Nat → List Rec → Prop
  | at_, [] => at_ ≤ n ∧ (at_ < n → OldB turn (B at_))
  | at_, ps :: rs => okRec nb ps ∧ at_ + pagesFor ps.length ≤ n ∧ (∀ i, i < pagesFor ps.length → B (at_ + i) = pageB turn ps i) ∧ LogIs B n nb turn (at_ + pagesFor ps.length) rs
theorem le_pagesFor (k : Nat) : k ≤ pagesFor k := by unfold pagesFor; omega
theorem pagesFor_pos (k : Nat) : 1 ≤ pagesFor k := by unfold pagesFor; omega
theorem LogIs.le {B : Nat → By} {n nb turn : Nat} : ∀ {at_ : Nat} {rs : List Rec}, LogIs B n nb turn at_ rs → at_ + rs.flatten.length ≤ n ∧ at_ + rs.length ≤ n
  | at_, [], h => by have := h.1; simpa using this
  | at_, ps :: rs, h => by
    have h1 := LogIs.le h.2.2.2
    have h2 := le_pagesFor ps.length
    have h3 := pagesFor_pos ps.length
    simp only [List.flatten_cons, List.length_append, List.length_cons]
    omega

/-- A volume's struct alone is turned. -/
theorem Dev.butV {w w' : World} {d : DS} (hd : Dev w d) {v : Nat} {pd : Option Addr} {commits turn next : Nat} {f : Option Nat} {count : Int} (h : IsVol w v (.pointer pd) commits turn next f count) (hb : But (fun k => k = v) w w') : Dev w' d :=
  hd.but hb (fun k hk e => by subst e; exact h.mine hd hk) (fun g l hg e => by subst e; have := h; rw [IsVol, hg] at this; simp at this)
theorem IsVol.noTab {w : World} {v : Nat} {pd : Option Addr} {commits turn next : Nat} {f : Option Nat} {count : Int} (h : IsVol w v (.pointer pd) commits turn next f count) (ht : Tab w) : ¬ (0 = v) := by
  intro e
  have h0 := ht 0 0 rfl
  have hx := h
  rw [← e] at hx
  have := cellOf hx 0
  rw [h0] at this
  simp [volCells] at this

/-- What readLog has done behind some records. -/
structure LogInv (w W : World) (v : Nat) (d : DS) (commits turn next f : Nat) (count : Int) (done : List Rec) : Prop where
  vol : IsVol W v (dp d.a) (commits + done.length) turn next (some f) count
  fr : ∃ F, Fresh W f done.flatten.length F (laidOn (fun _ => none) done.flatten)
  but : But (fun k => k = v) w W
  flt : w.heap.size ≤ f

set_option maxRecDepth 8000 in
set_option maxHeartbeats 4000000 in
theorem readLog_any (recs : List Rec) (v : Nat) (commits turn next : Nat) (f0 : Option Nat) (count : Int) (d : DS) (w : World) (h : IsVol w v (dp d.a) commits turn next f0 count) (hd : Dev w d) (ht : Tab w) (hn : 16 ≤ d.n)
    (htu : turn < 4611686018427387904) (hc : commits < 4000000000000000000) (hlog : LogIs d.B d.n (nbOf d.n) turn (1 + nbOf d.n) recs) :
    Calls Tryz.prog 57 #[dp v] w fun e w' => ∃ f, e = .returned (.int .i64 0) ∧ LogInv w w' v d commits turn d.n f count recs := by
  have hmm := @run_makeMap Tryz.prog
  have hle := hd.hn
  have hnb : nbOf d.n ≤ 65536 := by unfold nbOf; omega
  have m4 := cellOf h 4
  have f4 := frozenOf h 4
  have hvlt := h.lt
  simp [volCells] at m4
  obtain ⟨w1, hw1⟩ : ∃ w1, w1 = (w.setCell ⟨v, 4, none⟩ (.map (some w.heap.size))).alloc (.map #[] 0) := ⟨_, rfl⟩
  have hsz : (w.setCell ⟨v, 4, none⟩ (.map (some w.heap.size))).heap.size = w.heap.size := by simp [World.setCell]
  have hv1 : IsVol w1 v (dp d.a) commits turn next (some w.heap.size) count := by rw [hw1]; exact (Below.heap_alloc _ _ _ (by rw [hsz]; exact h.lt)).trans (h.setF w.heap.size)
  have hm1 : w1.heap[w.heap.size]? = some (.map #[] 0) := by rw [hw1]; have := (MapKept.heap_alloc (w.setCell ⟨v, 4, none⟩ (.map (some w.heap.size))) (.map #[] 0)).1; rw [hsz] at this; exact this
  have hb1 : But (fun k => k = v) w w1 := by rw [hw1]; exact ((But.refl (fun k => k = v) w).setCell ⟨v, 4, none⟩ rfl _).alloc _
  have hL1 : LogInv w w1 v d commits turn next w.heap.size count [] := ⟨hv1, ⟨_, Fresh.empty hm1⟩, hb1, Nat.le_refl _⟩
  have c42 := vStart v commits turn next (some w.heap.size) count d w1 hv1 (hd.butV h hb1) hn
  have HV : Hid (IsVol w v (dp d.a) commits turn next f0 count) := h
  have HD : Hid (Dev w d) := hd
  have HT : Hid (Tab w) := ht
  have HL : Hid (LogIs d.B d.n (nbOf d.n) turn (1 + nbOf d.n) recs) := hlog
  have HL1 : Hid (LogInv w w1 v d commits turn next w.heap.size count []) := hL1
  clear h hd ht hlog hv1 hm1 hb1 hL1 hsz
  go_enter Tryz.func57, Tryz.ntmps57
  go_wp2_with (go_at_call 80; refine Stop.out ?_)
  refine Stop.mk ?_
  rw [← hw1]
  refine Calls_on c42 ?_
  obtain ⟨f, hf⟩ : ∃ f, f = w.heap.size := ⟨_, rfl⟩
  rw [← hf] at HL1
  clear hw1 c42 m4 f4 hvlt hmm
  go_wp2_with fail
  go_loopw [3] (fun ii wr => ∃ (at_ : Nat) (done rest : List Rec), ii = .int .i64 (at_ : Nat) ∧ Hid (recs = done ++ rest ∧ LogIs d.B d.n (nbOf d.n) turn at_ rest ∧ LogInv w wr v d commits turn next f count done)) (fun ii _ => d.n + 1 - (intOf ii).toNat)
  case atStart => exact ⟨_, [], recs, rfl, rfl, HL.out, HL1.out⟩
  case round =>
    obtain ⟨at_, done, rest, rfl, HJ⟩ := hrel
    obtain ⟨hrec, hlog, hinv⟩ := HJ.out
    have hd := HD.out.butV HV.out hinv.but
    have ht := hinv.but.tab HT.out (HV.out.noTab HT.out)
    have hrl : recs.length ≤ d.n := by have := HL.out.le; omega
    have hrf : recs.flatten.length ≤ d.n := by have := HL.out.le; omega
    rw [hrec] at hrl hrf
    simp only [List.length_append, List.flatten_append] at hrl hrf
    cases rest with
    | nil =>
      have c43 := readRecord_none at_ v (commits + done.length) turn next (some f) count d wr hinv.vol hd ht htu hlog.2
      have c31 : ∀ W : World, Below wr.heap.size wr W → Calls Tryz.prog 69 #[dp d.a] W fun e w' => e = .returned (.int .i64 d.n) ∧ w' = W := fun W hW => dev_blocks d W (hd.below hW)
      have cells : ∀ W : World, Below wr.heap.size wr W → W.cell? ⟨v, 0, none⟩ = some (dp d.a) ∧ W.cell? ⟨v, 3, none⟩ = some (.int .i64 next) ∧ W.frozen? ⟨v, 3, none⟩ = false := by
        intro W hW
        refine ⟨?_, ?_, frozenOf (hinv.vol.below hW) 3⟩
        · have := cellOf (hinv.vol.below hW) 0; simpa [volCells] using this
        · have := cellOf (hinv.vol.below hW) 3; simpa [volCells] using this
      have HI : Hid (LogInv w wr v d commits turn next f count done) := hinv
      clear hlog hinv hd ht
      go_wp2_with (first
        | (go_at_call 81; refine c43.mono ?_; rintro e w2 ⟨rfl, hB2⟩; clear c43; have c31' := c31 w2 hB2; obtain ⟨x0, x3, x4⟩ := cells w2 hB2; clear c31 cells)
        | (go_at_call 69; refine Calls_on c31' ?_))
      go_ret
      refine ⟨f, rfl, ?_⟩
      have hinv := HI.out
      have hr : recs = done := by rw [hrec]; simp
      rw [hr]
      obtain ⟨F, hF⟩ := hinv.fr
      have hv2 := hinv.vol.below hB2
      have hF2 := hF.below hB2
      have hb3 : But (fun k => k = v) w2 (w2.setCell ⟨v, 3, none⟩ (.int .i64 d.n)) := (But.refl (fun k => k = v) w2).setCell ⟨v, 3, none⟩ rfl _
      refine ⟨hv2.setN d.n, ⟨F, hF2.but hb3 (fun e => ?_) (fun k cs fr hk e => ?_)⟩, (hinv.but.trans (But.of_below hB2)).trans hb3, hinv.flt⟩
      · exact hF2.noCell v 1 _ (cellOf hv2 1) e.symm
      · subst e; have := hv2; rw [IsVol, hk] at this; simp at this
    | cons ps rs =>
      obtain ⟨hok, hfit, hBp, hlog'⟩ := hlog
      have c43 := readRecord_some at_ ps v (commits + done.length) turn next (some f) count d wr hinv.vol hd ht hn htu hok hfit hBp
      obtain ⟨K, hK⟩ : ∃ K, K = pagesFor ps.length := ⟨_, rfl⟩
      have hK1 : 1 ≤ K := by rw [hK]; exact pagesFor_pos _
      rw [← hK] at c43 hfit hlog'
      have hKb : ((K : Int) == 0) = false := by simp; omega
      have HI : Hid (LogInv w wr v d commits turn next f count done ∧ LogIs d.B d.n (nbOf d.n) turn (at_ + K) rs) := ⟨hinv, hlog'⟩
      have hps : ps.length ≤ d.n := by have := le_pagesFor ps.length; rw [← hK] at this; omega
      have c29 : ∀ (W : World) (q : Option Addr) (c : Nat) (pm : List PutM), Below wr.heap.size wr W → PutsAt W q pm → pm.length = ps.length → recOf pm = ps → pm.all (goodPut (nbOf d.n)) = true →
          Calls Tryz.prog 82 #[dp v, .slice q ps.length c] W fun e w' => e = .returned (.tuple #[]) ∧ LogInv w w' v d commits turn next f count (done ++ [ps]) := by
        intro W q c pm hW hp hl hr hg
        obtain ⟨F, hF⟩ := HI.out.1.fr
        have := take_any q pm c v (some ⟨d.a, 0, none⟩) (commits + done.length) turn next f done.flatten.length F _ count (nbOf d.n) W (HI.out.1.vol.below hW) (hF.below hW) hp hg (by omega) (by rw [hl]; omega) (by omega)
        rw [hl] at this
        refine this.mono ?_
        rintro e w' ⟨rfl, hv', ⟨F', hF'⟩, hb'⟩
        refine ⟨rfl, ⟨?_, ⟨F', ?_⟩, ?_, HI.out.1.flt⟩⟩
        · rw [List.length_append, List.length_singleton, ← Nat.add_assoc]; exact hv'
        · rw [hr] at hF'
          have e1 : (done ++ [ps]).flatten = done.flatten ++ ps := by simp
          rw [e1, List.length_append, laidOn_append]
          exact hF'
        · have h1 := HI.out.1.but.trans (But.of_below hW)
          refine ⟨hb'.os.trans h1.os, hb'.tape.trans h1.tape, hb'.output.trans h1.output, Nat.le_trans h1.size hb'.size, fun k hk hn => (hb'.block k (Nat.lt_of_lt_of_le hk h1.size) ?_).trans (h1.block k hk hn)⟩
          rintro (e | e)
          · exact hn e
          · have := HI.out.1.flt; omega
      clear hlog' hinv hd ht hok hBp
      go_wp2_with (first
        | (go_at_call 81; refine c43.mono ?_; rintro e w2 ⟨q2, cc2, pm2, rfl, hB2, hp2, hl2, hr2, hg2⟩; clear c43; have c29' := c29 w2 q2 cc2 pm2 hB2 hp2 hl2 hr2 hg2; clear c29 hp2)
        | (go_at_call 82; refine c29'.mono ?_; rintro e w3 ⟨rfl, hI3⟩; clear c29'; have HI3 : Hid (LogInv w w3 v d commits turn next f count (done ++ [ps])) := hI3; clear hI3))
      go_roundw
      case rel => exact ⟨at_ + K, done ++ [ps], rs, by go_num, by rw [hrec]; simp, HI.out.2, HI3.out⟩
      case measure => simp [intOf]; omega

end Go.Proofs.YtebdgcoandfocaaGreatDoor

/-
  Mount of package wal.
-/
namespace Go.Proofs.YtebdgcoandfocaaGreatDoor
open Go.RowKit Go.Maps Go.Sort Go.Shelf

/-- The steps of Mount. -/
def mntSteps (v : Nat) : List (Nat × Value) := [(50, dp v), (55, dp v), (56, dp v), (57, dp v), (58, dp v)]
theorem mnt_enters (v : Nat) : ∀ x ∈ mntSteps v, ∀ args w, (callFunc x.1 args).run Tryz.prog w = .ok (.enter x.1 args) w := by
  intro x hx
  simp only [mntSteps, List.mem_cons, List.not_mem_nil, or_false] at hx
  rcases hx with rfl | rfl | rfl | rfl | rfl
  · exact enters_of Tryz.func50 (by kernel_rfl) rfl
  · exact enters_of Tryz.func55 (by kernel_rfl) rfl
  · exact enters_of Tryz.func56 (by kernel_rfl) rfl
  · exact enters_of Tryz.func57 (by kernel_rfl) rfl
  · exact enters_of Tryz.func58 (by kernel_rfl) rfl

set_option maxRecDepth 8000 in
set_option maxHeartbeats 1000000 in
/-- Mount is its steps; then the count is taken. -/
theorem mount_steps (dv : Value) (p : Option Addr) (hdv : dv = .pointer p) (w : World) (Q : Int → World → Prop) (R : Ending → World → Prop)
    (hr : Runs Tryz.prog (w.heap.size + 1) (mntSteps w.heap.size) ((w.alloc (.cells (volCells dv 0 0 0 none 0) 115)).alloc (.cells ((mntSteps w.heap.size).map stepV).toArray 117)) Q)
    (hno : ∀ z w', z ≠ 0 → Q z w' → R (.returned (.tuple #[.pointer none, .int .i64 z])) w')
    (hyes : ∀ w', Q 0 w' → ∃ (count old : Int), Calls Tryz.prog 59 #[dv] w' (fun e w'' => e = .returned (.int .i64 count) ∧ w'' = w') ∧ w'.cell? ⟨w.heap.size, 5, none⟩ = some (.int .i64 old) ∧ w'.frozen? ⟨w.heap.size, 5, none⟩ = false ∧ R (.returned (.tuple #[dp w.heap.size, .int .i64 0])) (w'.setCell ⟨w.heap.size, 5, none⟩ (.int .i64 count))) :
    Calls Tryz.prog 36 #[dv] w R := by
  have hc := inOrder_any (w.heap.size + 1) (mntSteps w.heap.size) 5 _ Q (mnt_enters _) (by simp [mntSteps]) (by
    have := heap_alloc_new (w.alloc (.cells (volCells dv 0 0 0 none 0) 115)) (.cells ((mntSteps w.heap.size).map stepV).toArray 117)
    rw [World.size_alloc] at this
    exact this) hr
  have hl : (mntSteps w.heap.size).length = 5 := rfl
  have hcell : ((mntSteps w.heap.size).map stepV).toArray = #[.func (.func 50) #[dp w.heap.size] #[], .func (.func 55) #[dp w.heap.size] #[], .func (.func 56) #[dp w.heap.size] #[], .func (.func 57) #[dp w.heap.size] #[], .func (.func 58) #[dp w.heap.size] #[]] := rfl
  rw [hl, hcell] at hc
  have HNO : Hid (∀ z w', z ≠ 0 → Q z w' → R (.returned (.tuple #[.pointer none, .int .i64 z])) w') := hno
  have HYES : Hid (∀ w', Q 0 w' → ∃ (count old : Int), Calls Tryz.prog 59 #[dv] w' (fun e w'' => e = .returned (.int .i64 count) ∧ w'' = w') ∧ w'.cell? ⟨w.heap.size, 5, none⟩ = some (.int .i64 old) ∧ w'.frozen? ⟨w.heap.size, 5, none⟩ = false ∧ R (.returned (.tuple #[dp w.heap.size, .int .i64 0])) (w'.setCell ⟨w.heap.size, 5, none⟩ (.int .i64 count))) := hyes
  clear hr hl hcell hno hyes
  subst hdv
  have hmf := mkf
  go_enter Tryz.func36, Tryz.ntmps36
  go_wp2_with (go_at_call 49; refine Stop.out ?_)
  refine Stop.mk ?_
  refine (show Calls Tryz.prog 49 _ _ _ from hc).mono ?_
  clear hc
  rintro e w1 ⟨z, rfl, hQ⟩
  by_cases hz : z = 0
  · subst hz
    obtain ⟨count, old, c23, x5, f5, hR⟩ := HYES.out w1 hQ
    have HR : Hid (R (.returned (.tuple #[dp w.heap.size, .int .i64 0])) (w1.setCell ⟨w.heap.size, 5, none⟩ (.int .i64 count))) := hR
    clear hQ hR
    go_wp2_with (go_at_call 59; refine Calls_on c23 ?_)
    exact HR.out
  · have hzb : (z != 0) = true := by simpa using hz
    have HR : Hid (R (.returned (.tuple #[.pointer none, .int .i64 z])) w1) := HNO.out z w1 hz hQ
    clear hQ
    go_wp2
    exact HR.out

/-- A volume that is mounted. -/
structure Mounted (w W : World) (v : Nat) (d : DS) (commits turn f : Nat) (recs : List Rec) : Prop where
  vol : IsVol W v (dp d.a) commits turn d.n (some f) d.count
  fr : ∃ F, Fresh W f recs.flatten.length F (laidOn (fun _ => none) recs.flatten)
  below : Below w.heap.size w W
  flt : w.heap.size ≤ f
  vlt : w.heap.size ≤ v

theorem mount_ok (recs : List Rec) (t c : Nat) (d : DS) (w : World) (hd : Dev w d) (ht : Tab w) (hn : 16 ≤ d.n) (hdd : d.dead = false) (hD : d.D = .map []) (hb0 : d.B 0 = headB t c d.n) (hc : c < 4000000000000000000) (htu : t < 4611686018427387904)
    (hlog : LogIs d.B d.n (nbOf d.n) t (1 + nbOf d.n) recs) :
    Calls Tryz.prog 36 #[dp d.a] w fun e w' => ∃ v f, e = .returned (.tuple #[dp v, .int .i64 0]) ∧ Mounted w w' v d (c + recs.length) t f recs := by
  refine mount_steps (dp d.a) _ rfl w (fun z w' => z = 0 ∧ Below w.heap.size w w' ∧ ∃ f F, w.heap.size ≤ f ∧ IsVol w' w.heap.size (dp d.a) (c + recs.length) t d.n (some f) 0 ∧ Fresh w' f recs.flatten.length F (laidOn (fun _ => none) recs.flatten)) _ ?_ (by rintro z w' hz ⟨rfl, _⟩; exact absurd rfl hz) ?_
  · obtain ⟨w0, hw0⟩ : ∃ w0, w0 = (w.alloc (.cells (volCells (dp d.a) 0 0 0 none 0) 115)).alloc (.cells ((mntSteps w.heap.size).map stepV).toArray 117) := ⟨_, rfl⟩
    have hB0 : Below w.heap.size w w0 := by rw [hw0]; exact ((Below.refl _ w).alloc (Nat.le_refl _) _).alloc (by simp) _
    have hv0 : IsVol w0 w.heap.size (dp d.a) 0 0 0 none 0 := by rw [hw0]; exact new_vol _ _ _ _ _ _ _ _
    obtain ⟨cs, hg0⟩ : ∃ cs, w0.heap[w.heap.size + 1]? = some (.cells cs 117 (0, 0)) := ⟨_, by
      rw [hw0]
      have := heap_alloc_new (w.alloc (.cells (volCells (dp d.a) 0 0 0 none 0) 115)) (.cells ((mntSteps w.heap.size).map stepV).toArray 117)
      rw [World.size_alloc] at this
      exact this⟩
    rw [← hw0]
    clear hw0
    have hd0 := hd.below hB0
    have ht0 := below_tab hB0 ht.lt ht
    have keepG : ∀ {A B : World}, A.heap[w.heap.size + 1]? = some (.cells cs 117 (0, 0)) → But (fun k => k = w.heap.size) A B → B.heap[w.heap.size + 1]? = A.heap[w.heap.size + 1]? := fun {A B} hA hb => hb.block _ (Array.getElem?_eq_some_iff.1 hA).1 (by omega)
    refine (checkRoom_yes w.heap.size 0 0 0 none 0 d w0 hv0 hd0 hn).mono ?_
    rintro e w1 ⟨rfl, rfl⟩
    refine ⟨0, rfl, rfl, .inr ⟨rfl, ?_⟩⟩
    refine (checkLife w.heap.size 0 0 0 none 0 d w1 hv0 hd0).mono ?_
    rintro e w2 ⟨rfl, rfl⟩
    rw [hdd]
    refine ⟨0, rfl, rfl, .inr ⟨rfl, ?_⟩⟩
    refine (readHead_ok w.heap.size 0 0 0 none 0 t c d w2 hv0 hd0 ht0 hb0 (by omega) htu).mono ?_
    rintro e w3 ⟨rfl, hv3, hb3⟩
    have k3 := keepG hg0 hb3
    refine ⟨0, rfl, k3, .inr ⟨rfl, ?_⟩⟩
    have hd3 := hd0.butV hv0 hb3
    have ht3 := hb3.tab ht0 (hv0.noTab ht0)
    refine (readLog_any recs w.heap.size c t 0 none 0 d w3 hv3 hd3 ht3 hn htu hc hlog).mono ?_
    rintro e w4 ⟨f, rfl, hL⟩
    have k4 := keepG (k3.trans hg0) hL.but
    refine ⟨0, rfl, k4, .inr ⟨rfl, ?_⟩⟩
    have hd4 := hd3.butV hv3 hL.but
    refine (settle_none w.heap.size (c + recs.length) t d.n (some f) 0 d w4 hL.vol hd4 hD).mono ?_
    rintro e w5 ⟨rfl, hB5⟩
    have g4 := k4.trans (k3.trans hg0)
    refine ⟨0, rfl, below_block g4 hB5 ▸ g4.symm, .inr ⟨rfl, rfl, ?_, ?_⟩⟩
    · have hbb : Below w.heap.size w w4 := by
        have h1 : RowKit.Below w.heap.size _ w3 := hb3.below hB0.size (fun k hk => by omega)
        have h2 : Below w.heap.size w3 w4 := hL.but.below (Nat.le_trans hB0.size hb3.size) (fun k hk => by omega)
        exact (hB0.trans h1).trans h2
      exact hbb.trans (hB5.mono hbb.size)
    · obtain ⟨F, hF⟩ := hL.fr
      exact ⟨f, F, Nat.le_trans (Nat.le_trans hB0.size hb3.size) hL.flt, hL.vol.below hB5, hF.below hB5⟩
  · rintro w' ⟨_, hB, f, F, hf, hv, hF⟩
    have hd' := hd.below hB
    refine ⟨d.count, 0, dev_count d w' hd', by have := cellOf hv 5; simpa [volCells] using this, frozenOf hv 5, w.heap.size, f, rfl, ⟨hv.setK d.count, ⟨F, hF.but (S := fun k => k = w.heap.size) ((But.refl (fun k => k = w.heap.size) w').setCell ⟨w.heap.size, 5, none⟩ rfl _) (fun e => ?_) (fun k cs fr hk e => ?_)⟩, hB.setCell (p := ⟨w.heap.size, 5, none⟩) (Nat.le_refl _) _, hf, Nat.le_refl _⟩⟩
    · exact hF.noCell w.heap.size 1 _ (cellOf hv 1) e.symm
    · subst e; have := hv; rw [IsVol, hk] at this; simp at this

end Go.Proofs.YtebdgcoandfocaaGreatDoor
