/-
  The blocks that the log holds: the map 'fresh' of a volume; slices.Clone of bytes; take.
-/
import Derived.Test.YtebdgcoandfocaaGreatDoorKWtakes

namespace Go.Proofs.YtebdgcoandfocaaGreatDoor
open Go.RowKit Go.Maps Go.Sort Go.Shelf

/-- How an element of the map reads: as the slice itself. -/
def slElem : Value → Option (DataW Value × List MemPlace)
  | .slice p n c => some (.held (.slice p n c), [])
  | _ => none
theorem slElem_inv {v : Value} {z : DataW Value × List MemPlace} (h : slElem v = some z) : ∃ p n c, v = .slice p n c ∧ z = (.held (.slice p n c), []) := by
  unfold slElem at h
  split at h
  · cases h; exact ⟨_, _, _, rfl, rfl⟩
  · cases h
def slD (p : Option Addr) (n c : Nat) : DataW Value := .held (.slice p n c)
theorem Tryz.zero30 (w : World) : (zeroValue 30).run Tryz.prog w = .ok (.slice none 0 0) w := by kernel_rfl
theorem lit_key {i : Nat} (h : i < 9223372036854775808) : WideAt.IsKeyLit (Lit.int .i64 (i : Int)) := keyed.key (key_i64 h)
theorem lit_ne {i j : Nat} (h : i ≠ j) : Lit.int .i64 (i : Int) ≠ Lit.int .i64 (j : Int) := by
  intro e; cases e; exact h rfl

theorem slook_ok {w : World} {m nn : Nat} {D : DataW Value} (h : w.ownsMap Tryz.prog 3 slElem m nn D) {i : Nat} (hi : i < 9223372036854775808) :
    ∃ p n c, (Instr.lookup 113 (.map (some m)) (.int .i64 i) true).run Tryz.prog w = .ok (.tuple #[.slice p n c, .bool (Maps.has D (.int .i64 i))]) w ∧ D.atKey (.int .i64 i) (slD none 0 0) = slD p n c := by
  obtain ⟨v, ps, hrun, hv⟩ := h.look_ok keyed Tryz.underlying113 (Tryz.zero30 w) (zd := slD none 0 0) (zp := []) rfl (key_i64 hi)
  obtain ⟨p, n, c, rfl, hz⟩ := slElem_inv hv
  simp only [Prod.mk.injEq] at hz
  exact ⟨p, n, c, hrun, hz.1⟩
theorem sput_run {w : World} {m nn : Nat} {D : DataW Value} (h : w.ownsMap Tryz.prog 3 slElem m nn D) (hn : nn < maxLen) {i : Nat} (hi : i < 9223372036854775808) (p : Option Addr) (n c : Nat) :
    ∃ w', (Instr.mapUpdate 113 (.map (some m)) (.int .i64 i) (.slice p n c)).run Tryz.prog w = .ok () w' ∧ w'.ownsMap Tryz.prog 3 slElem m (nn + 1) (D.put (.int .i64 i) (slD p n c)) ∧ w.mapTurned w' m :=
  h.store keyed Tryz.underlying113 hn (key_i64 hi) (d := slD p n c) (ps := []) rfl

/-- The map holds just these blocks. -/
structure Fresh (w : World) (f nf : Nat) (F : DataW Value) (fr : Nat → Option By) : Prop where
  own : w.ownsMap Tryz.prog 3 slElem f nf F
  has : ∀ i : Nat, i < 1000000000 → Maps.has F (.int .i64 i) = (fr i).isSome
  val : ∀ (i : Nat) b, i < 1000000000 → fr i = some b → b.length = 512 ∧ ∃ g c, F.atKey (.int .i64 i) (slD none 0 0) = slD (some ⟨g, 0, none⟩) 512 c ∧ 512 ≤ c ∧ Bytes w (some ⟨g, 0, none⟩) b ∧ ∃ cs fr, w.heap[g]? = some (.cells cs 5 fr)
  rng : ∀ x : Int, Maps.has F (.int .i64 x) = true → 0 ≤ x ∧ x < 1000000000

theorem Fresh.empty {w : World} {f : Nat} (h : w.heap[f]? = some (.map #[] 0)) : Fresh w f 0 (.map []) (fun _ => none) :=
  ⟨⟨#[], 0, h, ⟨by simp, MapKept.stamped_empty 0, by simp⟩, Nat.le_refl _, rfl⟩, fun _ _ => rfl, fun _ _ _ h => (by cases h), fun x h => absurd (show false = true from h) (by decide)⟩
theorem Fresh.but {w w' : World} {f nf : Nat} {F : DataW Value} {fr : Nat → Option By} (h : Fresh w f nf F fr) {S : Nat → Prop} (hb : But S w w') (hf : ¬ S f) (hS : ∀ k cs fr, w.heap[k]? = some (.cells cs 5 fr) → ¬ S k) : Fresh w' f nf F fr := by
  have hlt := h.own.lt
  refine ⟨?_, h.has, fun i b hi hfr => ?_, h.rng⟩
  · obtain ⟨es, clock, he, r⟩ := h.own
    exact ⟨es, clock, (hb.block f hlt hf).trans he, r⟩
  · obtain ⟨hl, g, c, ha, hc, hbb, cs, fr, ht⟩ := h.val i b hi hfr
    have hk := hb.block g (Array.getElem?_eq_some_iff.1 ht).1 (hS g cs fr ht)
    refine ⟨hl, g, c, ha, hc, fun hp => ?_, cs, fr, hk.trans ht⟩
    obtain ⟨g', o', e, hx⟩ := hbb hp
    cases e
    exact ⟨g, 0, rfl, fun j x hj => (World.cell?_of_block (w := w) hk).trans (hx j x hj)⟩
theorem Fresh.below {w w' : World} {f nf : Nat} {F : DataW Value} {fr : Nat → Option By} (h : Fresh w f nf F fr) (hb : Below w.heap.size w w') : Fresh w' f nf F fr :=
  h.but (S := fun _ => False) (But.of_below hb) (fun h => h) (fun _ _ _ _ h => h)
/-- One more block. -/
theorem Fresh.put {w w' : World} {f nf : Nat} {F : DataW Value} {fr : Nat → Option By} (h : Fresh w f nf F fr) {i : Nat} (hi : i < 1000000000) {g c : Nat} {b : By} (hl : b.length = 512) (hc : 512 ≤ c) (hb : Bytes w (some ⟨g, 0, none⟩) b) (htg : ∃ cs fr, w.heap[g]? = some (.cells cs 5 fr))
    (hown : w'.ownsMap Tryz.prog 3 slElem f (nf + 1) (F.put (.int .i64 i) (slD (some ⟨g, 0, none⟩) 512 c))) (hbut : But (fun k => k = f) w w') : Fresh w' f (nf + 1) (F.put (.int .i64 i) (slD (some ⟨g, 0, none⟩) 512 c)) (fun j => if j = i then some b else fr j) := by
  have hne : ∀ (g : Nat) (b : By), 0 < b.length → Bytes w (some ⟨g, 0, none⟩) b → Bytes w' (some ⟨g, 0, none⟩) b := by
    intro g b hp hb _
    obtain ⟨g', o', e, hx⟩ := hb hp
    refine ⟨g', o', e, fun j x hj => (World.cell?_of_block (w := w) (hbut.block g' (cell_lt (hx j x hj)) ?_)).trans (hx j x hj)⟩
    rintro rfl
    obtain ⟨es, clock, hm, _⟩ := h.own
    have := hx j x hj
    simp [World.cell?, hm] at this
  have tag : ∀ g : Nat, (∃ cs fr, w.heap[g]? = some (.cells cs 5 fr)) → ∃ cs fr, w'.heap[g]? = some (.cells cs 5 fr) := by
    rintro g ⟨cs, fr, ht⟩
    refine ⟨cs, fr, (hbut.block g (Array.getElem?_eq_some_iff.1 ht).1 ?_).trans ht⟩
    rintro rfl
    obtain ⟨es, clock, hm, _⟩ := h.own
    rw [hm] at ht
    cases ht
  refine ⟨hown, fun j hj => ?_, fun j b' hj hfr => ?_, fun x hx => ?_⟩
  · by_cases hji : j = i
    · subst hji; rw [has_put_same h.own.isMap (lit_key (by omega))]; simp
    · rw [has_put_other (lit_ne hji)]; simp [hji]; exact h.has j hj
  · by_cases hji : j = i
    · subst hji
      simp at hfr
      subst hfr
      exact ⟨hl, g, c, atKey_put_same h.own.isMap (lit_key (by omega)) _ _, hc, hne g b (by omega) hb, tag g htg⟩
    · simp [hji] at hfr
      obtain ⟨hl', g', c', ha, hc', hb', ht'⟩ := h.val j b' hj hfr
      exact ⟨hl', g', c', (atKey_put_other (lit_ne hji) _ _).trans ha, hc', hne g' b' (by omega) hb', tag g' ht'⟩
  · by_cases hxi : x = (i : Int)
    · omega
    · rw [has_put_other (fun e => by cases e; exact hxi rfl)] at hx
      exact h.rng x hx

/-- slices.Clone of bytes. -/
theorem clone_bytes (s o : Nat) (bs : By) (c : Nat) (w : World) (hb : Bytes w (some ⟨s, o, none⟩) bs) (h1 : 1 ≤ bs.length) (hl : bs.length ≤ 1000000) :
    Calls Tryz.prog 92 #[.slice (some ⟨s, o, none⟩) bs.length c] w fun e w' => ∃ g cap, e = .returned (.slice (some ⟨g, 0, none⟩) bs.length cap) ∧ w.heap.size ≤ g ∧ bs.length ≤ cap ∧ Bytes w' (some ⟨g, 0, none⟩) bs ∧ Below w.heap.size w w' ∧ ∃ cs fr, w'.heap[g]? = some (.cells cs 5 fr) := by
  obtain ⟨i0, hi, hz0, hz1, hz2⟩ := info_parts Tryz.info5
  obtain ⟨s', o', e, hx⟩ := hb (by omega)
  cases e
  have c := AnyE.slices_Clone Tryz.cloneBy i0 (.int .u8 0) 1 1 hi hz0 hz1 hz2 rfl (by decide) Tryz.sizeOf5 s o bs.length c (bs.map u8v) w (by simp) (by unfold maxLen; omega) (by omega)
    (fun j u hj => by
      rw [List.getElem?_map] at hj
      obtain ⟨x, hx', rfl⟩ := Option.map_eq_some_iff.1 hj
      exact hx j x hx') (u8v_one bs)
  refine (show Calls Tryz.prog 92 _ _ _ from c).mono ?_
  rintro e w' ⟨v', rfl, hrow, hnil, hB⟩
  obtain ⟨g, cap, rfl, hg, hbb⟩ := owns_bytes hrow h1
  rcases hrow.2 with ⟨e, _⟩ | ⟨g', cap', cur', e, _, hblk, hcap, _⟩
  · cases e
  · cases e; exact ⟨g, cap, rfl, hg, hcap, hbb, hB, _, _, hblk⟩

end Go.Proofs.YtebdgcoandfocaaGreatDoor
