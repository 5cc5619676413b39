/-
  Put of package bcache, every way.
-/
import Derived.Test.YtlcojcldbdikgaaGreatDoorSs
import Derived.Test.YtlcojcldbdikgaaGreatDoorKd
import Derived.Test.YtlcojcldbdikgaaGreatDoorBac
import Derived.Test.YtlcojcldbdikgaaGreatDoorKc
import Derived.BigRegion

/-
  Both caches side by side: what one side's step leaves of the other.
-/
namespace Go.Proofs.YtlcojcldbdikgaaGreatDoor.Rc
open Go.RowKit Go.Maps

theorem only_of {S : Nat → Prop} {w w' : World} (h : But S w w') : Only S w w' := ⟨h.os, h.tape, h.output, h.size, h.block⟩
theorem but_of {S : Nat → Prop} {w w' : World} (h : Only S w w') : But S w w' := ⟨h.os, h.tape, h.output, h.size, h.block⟩
def docT (t : TypeId) : Prop := t = 32 ∨ t = 68 ∨ t = 33
theorem docT_not {t : TypeId} (h : docT t) : t ≠ 57 ∧ t ≠ 58 ∧ t ≠ 64 ∧ t ≠ 106 ∧ t ≠ 103 ∧ t ≠ 85 ∧ t ≠ 5 ∧ t ≠ 144 := by
  rcases h with rfl | rfl | rfl <;> decide

/-- A step of the document's cache leaves the program's cache as it is. -/
theorem ci_fr {w w' : World} {s : CS} {vs : VS} {B : Nat → By} {base : Nat} (h : CI w s vs B) (hf : Fr base w w') : CI w' s vs B := by
  have hb := but_of hf
  have hF : ∀ k, (base ≤ k ∧ RT w.heap[k]?) → ∃ cs t fr, w.heap[k]? = some (.cells cs t fr) ∧ docT t := fun k hk => by
    obtain ⟨_, cs, t, f, e, ht⟩ := hk
    exact ⟨cs, t, f, e, ht⟩
  have h5 : ∀ g cs t fr, w.heap[g]? = some (.cells cs t fr) → t = 5 ∨ t = 144 → ¬ (base ≤ g ∧ RT w.heap[g]?) := fun g cs t fr hg ht hS => by
    obtain ⟨cs', t', fr', hk, hd⟩ := hF g hS
    rw [hg] at hk
    simp only [Option.some.injEq, Obj.cells.injEq] at hk
    obtain ⟨_, rfl, _⟩ := hk
    have hf := docT_not hd
    rcases ht with rfl | rfl
    · exact hf.2.2.2.2.2.2.1 rfl
    · exact hf.2.2.2.2.2.2.2 rfl
  refine ⟨h.cm.but hb (fun hS => ?_) (fun k cs t fr hk ht hS => ?_), vi_but h.vi hb (fun k hk hS => ?_) h5, h.vv, h.hf, h.hd, fun a ha => (h.dat a ha).but hb (fun k cs fr hk => h5 k cs 5 fr hk (.inl rfl)), h.hx, h.ord, h.idle, h.dirty, h.dnd, h.used, h.uinj, h.blk, h.clean, h.room⟩
  · obtain ⟨cs', t', fr', hk, _⟩ := hF _ hS
    exact h.cm.hne hk rfl
  · obtain ⟨cs', t', fr', hk', hd⟩ := hF _ hS
    rw [hk] at hk'
    simp only [Option.some.injEq, Obj.cells.injEq] at hk'
    obtain ⟨_, rfl, _⟩ := hk'
    have hf := docT_not hd
    rcases ht with e | e | e
    · exact hf.1 e
    · exact hf.2.1 e
    · exact hf.2.2.1 e
  · obtain ⟨cs', t', fr', hk', hd⟩ := hF _ hS
    have hf := docT_not hd
    exact h.vi.other hk' hf.2.2.2.1 hf.2.2.2.2.1 hf.2.2.2.2.2.1 hk

/-- A step of which no block of the document's types is a part leaves the document's cache as it is. -/
theorem rf_but {w w' : World} {base r : Nat} {vv lv : Value} {S : RS} {T : Nat → Prop} (h : RF w base r vv lv S) (hb : But T w w') (hT : ∀ k cs t fr, w.heap[k]? = some (.cells cs t fr) → docT t → ¬ T k) : RF w' base r vv lv S := by
  have ho := only_of hb
  refine ⟨h.lo, (ho.block r (block_lt h.cell) (hT r _ _ _ h.cell (.inl rfl))).trans h.cell, ho.owns h.row fun b hb => ?_, ho.owns h.vrow fun b hb => ?_⟩
  · obtain ⟨_, cur, hc⟩ := own_tag h.row hb
    exact hT b _ _ _ hc (.inr (.inl rfl))
  · obtain ⟨_, cur, hc⟩ := own_tag h.vrow hb
    exact hT b _ _ _ hc (.inr (.inr rfl))
theorem brow_but {w w' : World} {lo : Nat} {sv : SV} {bs : List (BitVec 8)} {T : Nat → Prop} (h : BRow w lo sv bs) (hb : But T w w') (hT : ∀ k cs fr, w.heap[k]? = some (.cells cs 5 fr) → ¬ T k) : BRow w' lo sv bs :=
  h.only (only_of hb) fun q cs hq => hT q cs _ hq
theorem brow_fr {w w' : World} {lo base : Nat} {sv : SV} {bs : List (BitVec 8)} (h : BRow w lo sv bs) (hf : Fr base w w') : BRow w' lo sv bs :=
  h.only hf fun q cs hq ⟨_, cs', t, f, e, ht⟩ => by
    rw [hq] at e
    simp only [Option.some.injEq, Obj.cells.injEq] at e
    obtain ⟨_, rfl, _⟩ := e
    rcases ht with e | e | e <;> exact absurd e (by decide)
theorem cMine_not {w : World} {s : CS} {vs : VS} {B : Nat → By} (h : CI w s vs B) {k : Nat} {cs : Array Value} {t : TypeId} {fr : Nat × Nat} (hk : w.heap[k]? = some (.cells cs t fr)) (ht : docT t ∨ t = 5) : ¬ cMine w s.h k := by
  rintro (e | ⟨_, cs', t', fr', hk', hc⟩)
  · exact h.cm.hne hk e.symm
  · rw [hk] at hk'
    simp only [Option.some.injEq, Obj.cells.injEq] at hk'
    obtain ⟨_, rfl, _⟩ := hk'
    rcases ht with hd | rfl
    · have hf := docT_not hd
      rcases hc with e | e | e
      · exact hf.1 e
      · exact hf.2.1 e
      · exact hf.2.2.1 e
    · rcases hc with e | e | e <;> exact absurd e (by decide)
theorem mine_not {w : World} {s : CS} {vs : VS} {B : Nat → By} (h : CI w s vs B) {k : Nat} {cs : Array Value} {t : TypeId} {fr : Nat × Nat} (hk : w.heap[k]? = some (.cells cs t fr)) (ht : docT t ∨ t = 5) : ¬ vs.mine k := by
  rcases ht with hd | rfl
  · have hf := docT_not hd
    exact h.vi.other hk hf.2.2.2.1 hf.2.2.2.2.1 hf.2.2.2.2.2.1
  · exact h.vi.other hk (by decide) (by decide) (by decide)

/-- The operation's copy stays. -/
theorem opk_fr {w w' : World} {base g : Nat} {cs : Array Value} (hf : Fr base w w') (h : w.heap[g]? = some (.cells cs 35 (0, 0))) : w'.heap[g]? = some (.cells cs 35 (0, 0)) :=
  (hf.block g (block_lt h) (by
    rintro ⟨_, cs', t, f, e, ht⟩
    rw [h] at e
    simp only [Option.some.injEq, Obj.cells.injEq] at e
    obtain ⟨_, rfl, _⟩ := e
    rcases ht with e | e | e <;> exact absurd e (by decide))).trans h
theorem opk_step {w w' : World} {s : CS} {vs : VS} {B : Nat → By} {g : Nat} {cs : Array Value} (ci : CI w s vs B) (hb : But (fun k => cMine w s.h k ∨ vs.mine k) w w') (h : w.heap[g]? = some (.cells cs 35 (0, 0))) : w'.heap[g]? = some (.cells cs 35 (0, 0)) :=
  (hb.block g (block_lt h) (by
    rintro ((e | ⟨_, cs', t', fr', hk', hc⟩) | e)
    · exact ci.cm.hne h e.symm
    · rw [h] at hk'
      simp only [Option.some.injEq, Obj.cells.injEq] at hk'
      obtain ⟨_, rfl, _⟩ := hk'
      rcases hc with e | e | e <;> exact absurd e (by decide)
    · exact ci.vi.other h (by decide) (by decide) (by decide) e)).trans h

end Go.Proofs.YtlcojcldbdikgaaGreatDoor.Rc

/-
  A block is met by the document's cache (pure): the step of the list, and where the bytes lie.
-/
namespace Go.Proofs.YtlcojcldbdikgaaGreatDoor.Rc
open Go.RowKit

theorem apart_set {L : List RE} (h : Apart L) {k : Nat} {y z : RE} (hy : L[k]? = some y) (hz : z.block = y.block) : Apart (L.set k z) := by
  unfold Apart at *
  have e : (L.set k z).map RE.block = L.map RE.block := by
    refine List.ext_getElem? fun i => ?_
    rw [List.getElem?_map, List.getElem?_map, List.getElem?_set]
    by_cases hik : k = i
    · subst hik
      have hl := (List.getElem?_eq_some_iff.1 hy).1
      rw [if_pos rfl, if_pos hl, hy]
      simp [hz]
    · rw [if_neg hik]
  rw [e]
  exact h
theorem meet_abs {D : SV → List (BitVec 8)} {S S1 : RS} {b k h m : Nat} {y : RE} {d : List (BitVec 8)} (ha : Apart S.L) (hh : HoldsTo S b S1 k) (hd : ∀ sv, S.V[b]? = some sv → D sv = d) (hy : S1.L[k]? = some y)
    (h1 : h = if true && decide (0 ≤ placeR S.L b) then 1 else 0) (h2 : m = if true && !decide (0 ≤ placeR S.L b) then 1 else 0) (g : RE → RE) (f : HE → HE) (hf : ∀ x, f (he D x) = he D (g x)) (hg : ∀ x, (g x).block = x.block) :
    abs D { useR S1 k y h m with L := S1.L.set k (g { y with used := S1.time + 1 }) } = (abs D S).meet b d f ∧ Apart (S1.L.set k (g { y with used := S1.time + 1 })) ∧ y.block = b := by
  obtain ⟨e1, ha1, y', hy', hb'⟩ := holds_abs ha hh hd
  rw [hy] at hy'
  injection hy' with hy'
  subst hy'
  obtain ⟨_, _, e3, e4, _⟩ := hh.get
  refine ⟨?_, apart_set ha1 hy (hg _), hb'⟩
  rw [touch_abs ha1 hy g f hf h m, hb']
  have hel := held_abs D S b
  unfold AC.meet
  by_cases hp : 0 ≤ placeR S.L b
  · rw [decide_eq_true hp] at h1 h2 hel
    rw [hel] at e1 ⊢
    simp only [if_true] at e1
    obtain rfl : h = 1 := by simpa using h1
    obtain rfl : m = 0 := by simpa using h2
    rw [if_pos rfl, e1, e3, e4]
    rfl
  · rw [decide_eq_false hp] at h1 h2 hel
    rw [hel] at e1 ⊢
    simp only [Bool.false_eq_true, if_false] at e1
    obtain rfl : h = 0 := by simpa using h1
    obtain rfl : m = 1 := by simpa using h2
    rw [if_neg (by decide), ← e1]
    have : (abs D S).miss = S1.miss := e4.symm
    rw [this]
    rfl
theorem holds_rows {P : SV → Prop} {S S1 : RS} {b k : Nat} (h : HoldsTo S b S1 k) (hl : ∀ y ∈ S.L, P y.b) (hv : ∀ x ∈ S.V, P x) : ∀ y ∈ S1.L, P y.b := by
  rcases h with ⟨_, rfl⟩ | ⟨_, S0, sv, h0, hsv, _, rfl⟩
  · exact hl
  · intro y hy
    rcases List.mem_append.1 hy with hy | hy
    · rcases h0 with ⟨_, rfl⟩ | ⟨j, z, _, _, _, rfl⟩
      · exact hl y hy
      · rcases List.mem_append.1 hy with hy | hy
        · exact hl y (List.mem_of_mem_take hy)
        · exact hl y (List.mem_of_mem_drop hy)
    · rw [List.mem_singleton.1 hy]
      exact hv sv (List.mem_of_getElem? hsv)
theorem set_rows {P : SV → Prop} {L : List RE} (hl : ∀ y ∈ L, P y.b) (k : Nat) {z : RE} (hz : P z.b) : ∀ y ∈ L.set k z, P y.b := fun y hy => by
  rcases List.mem_or_eq_of_mem_set hy with h | rfl
  · exact hl y h
  · exact hz
theorem dataOf_at {D : SV → List (BitVec 8)} {S : RS} {k : Nat} {y : RE} (ha : Apart S.L) (hy : S.L[k]? = some y) : (abs D S).dataOf y.block = D y.b := by
  unfold AC.dataOf abs
  have : (S.L.map (he D)).find? (fun x => x.block == y.block) = some (he D y) := by
    rw [List.find?_map]
    have hf : S.L.find? ((fun x => x.block == y.block) ∘ he D) = some y := by
      rw [List.find?_eq_some_iff_getElem]
      obtain ⟨hl, e⟩ := List.getElem?_eq_some_iff.1 hy
      refine ⟨by simp [he], k, hl, e, fun j hj => ?_⟩
      simp only [Function.comp, he, Bool.not_eq_true', beq_eq_false_iff_ne, ne_eq]
      intro e2
      have := apart_at ha (List.getElem?_eq_getElem (Nat.lt_trans hj hl)) hy e2
      omega
    rw [hf]; rfl
  rw [this]
  rfl

end Go.Proofs.YtlcojcldbdikgaaGreatDoor.Rc

/-
  meet of package bcache.
-/
namespace Go.Proofs.YtlcojcldbdikgaaGreatDoor
open Go.RowKit Go.Maps Go.Sort Go.Shelf

theorem filter_len {A : List Nat} (hn : A.Nodup) {o : Nat} (ho : o ∈ A) : (A.filter (fun b => b != o)).length + 1 = A.length := by
  rw [← hn.erase_eq_filter o, List.length_erase_of_mem ho]
  have := List.length_pos_of_mem ho
  omega

/-- An entry more: all holds but for its rank. -/
theorem cx_new {w w1 w' : World} {s : CS} {vs : VS} {B : Nat → By} {block a : Nat} {A1 I1 : List Nat} {out1 : Nat} {F F' : DataW Value} (h : CI w1 s vs B) (hn : Hn w1 w s block a A1 I1 out1 F) (hblk : block < nbOf vs.d.n)
    (e : EV) (b : By) (ms dcap : Nat) (D' : List Nat) (dq : Option Addr) (nh : Nat)
    (cm : CM w' { s with nh := nh, F := F', I := I1, A := A1 ++ [a], U := updU s.U a e, out := out1, missed := ms, D := D', dq := dq, dcap := dcap }) (hB : But (cMine w1 s.h) w1 w')
    (heb : e.block = block) (hdat : DatAt w' e b) (hD : (e.dirty = false ∧ D' = s.D ∧ b = vs.cont block) ∨ (e.dirty = true ∧ D' = s.D ++ [a])) :
    CX (fun k => k = a) w' { s with nh := nh, F := F', I := I1, A := A1 ++ [a], U := updU s.U a e, out := out1, missed := ms, D := D', dq := dq, dcap := dcap } vs (fun k => if k = a then b else B k) := by
  obtain ⟨hvi, hkeep⟩ := h.keep hB
  have hA : ∀ k ∈ s.A, k ≠ a := fun k hk e => by have := h.cm.alt hk; have := hn.new; omega
  have hA1 : ∀ k ∈ A1, k ≠ a := fun k hk => hA k (hn.sub k hk)
  have hI1 : ∀ k, k ∈ I1 → k ∈ s.I := fun k hk => by
    rcases hn.ev with ⟨_, _, e, _⟩ | ⟨_, o, _, _, _, hm, _⟩
    · rw [← e]; exact hk
    · exact ((hm k).1 hk).1
  have haI : a ∉ I1 := fun hx => hA a (h.cm.sub a (hI1 a hx)) rfl
  have mem : ∀ k, k ≠ a → (k ∈ A1 ++ [a] ↔ k ∈ A1) := fun k hk => by simp [hk]
  have U1 : ∀ k, k ≠ a → updU s.U a e k = s.U k := fun k hk => updU_other _ _ hk
  have hnotD : ∀ o, o ∈ s.I → o ∉ s.D := fun o ho hd => by
    have h1 := ((h.idle o (fun h => h)).1 ho).2
    have h2 := ((h.dirty o).1 hd).2
    unfold idleE at h1
    rw [h2] at h1
    simp at h1
  have haD : a ∉ s.D := fun hd => hA a ((h.dirty a).1 hd).1 rfl
  have hdA1 : ∀ k, k ∈ s.D → k ∈ A1 := fun k hk => by
    have hkA := ((h.dirty k).1 hk).1
    rcases hn.ev with ⟨_, e, _⟩ | ⟨_, o, ho, _, e, _⟩
    · rw [e]; exact hkA
    · rw [e]; simp [hkA]; rintro rfl; exact hnotD k ho hk
  refine ⟨cm, hvi, h.vv, h.hf, h.hd, fun k hk => ?_, fun k hk => ?_, fun hall => absurd rfl (hall a), fun k hk => ?_, fun k => ?_, ?_, fun k hk hka => ?_, fun k hk k' hk' hka hka' e' => ?_, fun k hk => ?_, fun k hk hdk => ?_, h.room.1, h.room.2.1, ?_⟩
  · show DatAt w' (updU s.U a e k) (if k = a then b else B k)
    by_cases e' : k = a
    · subst e'
      rw [updU_same, if_pos rfl]; exact hdat
    · rw [U1 k e', if_neg e']
      exact hkeep _ _ (h.dat k (hn.sub k ((mem k e').1 hk)))
  · have e' : k = a := hk
    rw [e']
    refine ⟨fun j hj hja => absurd (hja ▸ getD_mem hj) haI, fun _ => ?_⟩
    show HeapF (kvOf (keyU (updU s.U a e)) I1) I1.length
    exact hn.ord.less (Nat.le_refl _) fun j hj => kvOf_upd_not haI e hj
  · show k ∈ I1 ↔ k ∈ A1 ++ [a] ∧ idleE (updU s.U a e k) = true
    rw [mem k hk, U1 k hk]
    have h1 := h.idle k (fun h => h)
    rcases hn.ev with ⟨_, e1, e2, _⟩ | ⟨_, o, ho, _, e1, hm, _⟩
    · rw [e1, e2]; exact h1
    · rw [e1, hm k, h1]
      simp [List.mem_filter]
      constructor
      · rintro ⟨⟨h1, h2⟩, h3⟩; exact ⟨⟨h1, h3⟩, h2⟩
      · rintro ⟨⟨h1, h3⟩, h2⟩; exact ⟨⟨h1, h2⟩, h3⟩
  · show k ∈ D' ↔ k ∈ A1 ++ [a] ∧ (updU s.U a e k).dirty = true
    by_cases e' : k = a
    · subst e'
      rw [updU_same]
      rcases hD with ⟨h1, h2, _⟩ | ⟨h1, h2⟩
      · rw [h1, h2]; simp [haD]
      · rw [h1, h2]; simp
    · rw [mem k e', U1 k e']
      have : k ∈ D' ↔ k ∈ s.D := by
        rcases hD with ⟨_, h2, _⟩ | ⟨_, h2⟩
        · rw [h2]
        · rw [h2]; simp [e']
      rw [this]
      constructor
      · intro hk; exact ⟨hdA1 k hk, ((h.dirty k).1 hk).2⟩
      · rintro ⟨h1, h2⟩; exact (h.dirty k).2 ⟨hn.sub k h1, h2⟩
  · show D'.Nodup
    rcases hD with ⟨_, h2, _⟩ | ⟨_, h2⟩
    · rw [h2]; exact h.dnd
    · rw [h2, List.nodup_append]
      exact ⟨h.dnd, by simp, fun x hx y hy => by rw [List.mem_singleton.1 hy]; exact fun e => haD (e ▸ hx)⟩
  · show (updU s.U a e k).used ≤ s.uses
    rw [U1 k hka]
    exact h.used k (hn.sub k ((mem k hka).1 hk)) (fun h => h)
  · have e2 : (updU s.U a e k).used = (updU s.U a e k').used := e'
    rw [U1 k hka, U1 k' hka'] at e2
    exact h.uinj k (hn.sub k ((mem k hka).1 hk)) k' (hn.sub k' ((mem k' hka').1 hk')) (fun h => h) (fun h => h) e2
  · show (updU s.U a e k).block < _
    by_cases e' : k = a
    · rw [e', updU_same, heb]; exact hblk
    · rw [U1 k e']; exact h.blk k (hn.sub k ((mem k e').1 hk))
  · show (if k = a then b else B k) = vs.cont (updU s.U a e k).block
    have hdk' : (updU s.U a e k).dirty = false := hdk
    by_cases e' : k = a
    · subst e'
      rw [updU_same] at hdk' ⊢
      rw [if_pos rfl, heb]
      rcases hD with ⟨_, _, h3⟩ | ⟨h1, _⟩
      · exact h3
      · rw [h1] at hdk'; cases hdk'
    · rw [U1 k e'] at hdk' ⊢
      rw [if_neg e']
      exact h.clean k (hn.sub k ((mem k e').1 hk)) hdk'
  · show (A1 ++ [a]).length ≤ s.room
    rcases hn.ev with ⟨h1, e1, _⟩ | ⟨_, o, ho, _, e1, _⟩
    · rw [e1]; simp; omega
    · have := filter_len h.cm.hm.nodup (h.cm.sub o ho)
      have := h.room.2.2
      rw [e1]; simp only [List.length_append, List.length_singleton]; omega

set_option maxRecDepth 8000 in
set_option maxHeartbeats 1000000 in
theorem meet_out (s : CS) (vs : VS) (B : Nat → By) (x : Int) (w : World) (h : CI w s vs B) (h1 : -9223372036854775808 ≤ x) (h2 : x < 9223372036854775808) (hx : ¬ (0 ≤ x ∧ x < nbOf vs.d.n)) :
    Calls Tryz.prog 27 #[ep s.c, .int .i64 x] w fun e w' => e = .returned (.tuple #[.pointer none, .int .i64 22]) ∧ w' = w := by
  have c0 : w.cell? ⟨s.c, 0, none⟩ = some (dp vs.v) := by rw [cellOf h.cm.hp.cell 0, ← h.vv]; rfl
  have c2 : w.cell? ⟨s.c, 2, none⟩ = some (.map (some s.h)) := by rw [cellOf h.cm.hp.cell 2]; rfl
  have l1 := h.cm.hm.look_no h1 h2 (fun a ha e => hx (by have := h.blk a ha; omega))
  have cR := vRead_no x vs.v vs.commits vs.turn vs.next (some vs.f) vs.d.count vs.d w h.vi.vol h.vi.dev h.vi.n16 hx
  clear h
  go_enter Tryz.func27, Tryz.ntmps27
  go_wp2_with (go_at_call 21; refine Calls_on cR ?_)
  go_ret2
  exact ⟨rfl, rfl⟩

set_option maxRecDepth 8000 in
set_option maxHeartbeats 1000000 in
theorem meet_hit (s : CS) (vs : VS) (B : Nat → By) (a : Nat) (w : World) (h : CI w s vs B) (ha : a ∈ s.A) (hm : s.met < 1000000) :
    Calls Tryz.prog 27 #[ep s.c, .int .i64 ((s.U a).block : Nat)] w fun e w' => e = .returned (.tuple #[ep a, .int .i64 0]) ∧ CI w' { s with met := s.met + 1 } vs B ∧ But (cMine w s.h) w w' := by
  have c2 : w.cell? ⟨s.c, 2, none⟩ = some (.map (some s.h)) := by rw [cellOf h.cm.hp.cell 2]; rfl
  have c6 : w.cell? ⟨s.c, 6, none⟩ = some (.int .i64 (s.met : Nat)) := by rw [cellOf h.cm.hp.cell 6]; rfl
  have f6 := frozenOf h.cm.hp.cell 6
  have l1 := h.cm.hm.look_yes ha
  have mC : cMine w s.h s.c := h.cm.mineC
  obtain ⟨z, hz, e1⟩ : ∃ z : Int, ((s.met + 1 : Nat) : Int) = z ∧ ((s.met : Nat) : Int) + 1 = z := ⟨_, rfl, by omega⟩
  have hB : But (cMine w s.h) w (w.setCell ⟨s.c, 6, none⟩ (.int .i64 ((s.met + 1 : Nat) : Int))) := (But.refl (cMine w s.h) w).setCell _ mC _
  obtain ⟨hvi, hkeep⟩ := h.keep hB
  have HF : Hid (CI (w.setCell ⟨s.c, 6, none⟩ (.int .i64 ((s.met + 1 : Nat) : Int))) { s with met := s.met + 1 } vs B ∧ But (cMine w s.h) w (w.setCell ⟨s.c, 6, none⟩ (.int .i64 ((s.met + 1 : Nat) : Int)))) :=
    ⟨⟨h.cm.setMet _, hvi, h.vv, h.hf, h.hd, fun k hk => hkeep _ _ (h.dat k hk), fun _ h => h.elim, h.ord, h.idle, h.dirty, h.dnd, h.used, h.uinj, h.blk, h.clean, h.room⟩, hB⟩
  rw [hz] at HF
  clear hz h mC hB hvi hkeep
  go_enter Tryz.func27, Tryz.ntmps27
  go_wp2
  go_ret2
  exact ⟨rfl, HF.out.1, HF.out.2⟩

set_option maxRecDepth 8000 in
set_option maxHeartbeats 1000000 in
theorem meet_full (s : CS) (vs : VS) (B : Nat → By) (block : Nat) (w : World) (h : CI w s vs B) (hb : block < nbOf vs.d.n) (hno : ∀ a ∈ s.A, (s.U a).block ≠ block) (hlt : s.room ≤ s.A.length) (hI0 : s.I = []) :
    Calls Tryz.prog 27 #[ep s.c, .int .i64 (block : Nat)] w fun e w' => e = .returned (.tuple #[.pointer none, .int .i64 28]) ∧ Below w.heap.size w w' := by
  have hnb := h.nb
  have c0 : w.cell? ⟨s.c, 0, none⟩ = some (dp vs.v) := by rw [cellOf h.cm.hp.cell 0, ← h.vv]; rfl
  have c2 : w.cell? ⟨s.c, 2, none⟩ = some (.map (some s.h)) := by rw [cellOf h.cm.hp.cell 2]; rfl
  have l1 := h.cm.hm.look_no (x := (block : Int)) (by omega) (by omega) (fun a ha e => hno a ha (by omega))
  have cR := vReadT_any block vs w h.vi hb
  have H0 : Hid (CI w s vs B ∧ (∀ a ∈ s.A, (s.U a).block ≠ block)) := ⟨h, hno⟩
  clear h hno
  go_enter Tryz.func27, Tryz.ntmps27
  go_wp2_with (first
    | (go_at_call 21; refine cR.mono ?_; rintro e w1 ⟨g, cp, rfl, hcp, hl, hb1, hB1, hg1, ht1⟩; clear cR; have cH := hold_no s block w1 ((H0.out.1.below hB1).cm) (by omega) H0.out.2 hlt hI0)
    | (go_at_call 34; refine cH.mono ?_; rintro e w2 ⟨rfl, q, rfl⟩; clear cH))
  go_ret2
  exact ⟨rfl, below_drewN hB1 q⟩

/-- What meet makes of a cache where it takes a new entry. -/
structure Mt (w w' : World) (s : CS) (vs : VS) (B : Nat → By) (block a : Nat) (s' : CS) (B' : Nat → By) : Prop where
  cx : CX (fun k => k = a) w' s' vs B'
  eq : ∃ F A1 I1 out1 p cp, s' = { s with nh := s.nh + 1, F := F, I := I1, A := A1 ++ [a], U := updU s.U a ⟨block, p, 512, cp, 0, false, 0⟩, out := out1, missed := s.missed + 1 } ∧
    ((s.A.length < s.room ∧ A1 = s.A ∧ I1 = s.I ∧ out1 = s.out) ∨ (s.room ≤ s.A.length ∧ ∃ o, o ∈ s.I ∧ (∀ b ∈ s.I, (s.U o).used ≤ (s.U b).used) ∧ A1 = s.A.filter (fun b => b != o) ∧ (∀ b, b ∈ I1 ↔ b ∈ s.I ∧ b ≠ o) ∧ out1 = s.out + 1))
  bytes : B' = fun k => if k = a then vs.cont block else B k
  new : w.heap.size ≤ a
  but : But (cMine w s.h) w w'

set_option maxRecDepth 8000 in
set_option maxHeartbeats 2000000 in
theorem meet_miss (s : CS) (vs : VS) (B : Nat → By) (block b : Nat) (w : World) (h : CI w s vs B) (hz : CB s b) (hbz : b < 900000) (hb : block < nbOf vs.d.n) (hno : ∀ a ∈ s.A, (s.U a).block ≠ block) (hroom : s.A.length < s.room ∨ 0 < s.I.length) :
    Calls Tryz.prog 27 #[ep s.c, .int .i64 (block : Nat)] w fun e w' => ∃ a s' B', e = .returned (.tuple #[ep a, .int .i64 0]) ∧ Mt w w' s vs B block a s' B' := by
  have hnb := h.nb
  obtain ⟨z1, z2, z3, z4, z5⟩ := hz
  have c0 : w.cell? ⟨s.c, 0, none⟩ = some (dp vs.v) := by rw [cellOf h.cm.hp.cell 0, ← h.vv]; rfl
  have c2 : w.cell? ⟨s.c, 2, none⟩ = some (.map (some s.h)) := by rw [cellOf h.cm.hp.cell 2]; rfl
  have l1 := h.cm.hm.look_no (x := (block : Int)) (by omega) (by omega) (fun a ha e => hno a ha (by omega))
  have cR := vReadT_any block vs w h.vi hb
  have H0 : Hid (CI w s vs B ∧ (∀ a ∈ s.A, (s.U a).block ≠ block)) := ⟨h, hno⟩
  clear h hno
  go_enter Tryz.func27, Tryz.ntmps27
  go_wp2_with (first
    | (go_at_call 21; refine cR.mono ?_; rintro e w1 ⟨g, cp, rfl, hcp, hl, hb1, hB1, hg1, ht1⟩; clear cR; have cH := bhold_any s block w1 ((H0.out.1.below hB1).cm) (by omega) H0.out.2 H0.out.1.room.2.1 (H0.out.1.ord (fun _ h => h)) (by omega) (by omega) hroom; have H1 : Hid (512 ≤ cp ∧ (vs.cont block).length = 512 ∧ Bytes w1 (some ⟨g, 0, none⟩) (vs.cont block) ∧ Below w.heap.size w w1 ∧ ∃ cs fr, w1.heap[g]? = some (.cells cs 5 fr)) := ⟨hcp, hl, hb1, hB1, ht1⟩; clear hcp hl hb1 hB1 hg1 ht1)
    | (go_at_call 34; refine cH.mono ?_; rintro e w2 ⟨a, A1, I1, out1, F, rfl, hH⟩; clear cH; refine Stop.out ?_))
  refine Stop.mk ?_
  obtain ⟨hcp, hl, hb1, hB1, ht1⟩ := H1.out
  have h1 := H0.out.1.below hB1
  have ha2 : a ∈ A1 ++ [a] := by simp
  obtain ⟨x, hE⟩ := hH.cm.entAny ha2
  have hE' : IsEnt w2 a (newE block) x := by rw [show newE block = updU s.U a (newE block) a from (updU_same _ _ _).symm]; exact hE
  have d7 : w2.cell? ⟨s.c, 7, none⟩ = some (.int .i64 (s.missed : Nat)) := by rw [cellOf hH.cm.hp.cell 7]; rfl
  have f7 := frozenOf hH.cm.hp.cell 7
  have d1 : w2.cell? ⟨a, 1, none⟩ = some (.slice none 0 0) := by rw [cellOf hE' 1]; rfl
  have f1 := frozenOf hE' 1
  have ca : s.c ≠ a := apart_tags hH.cm.hp.cell hE' (by decide)
  have ca' := Ne.symm ca
  obtain ⟨z, hz, e1⟩ : ∃ z : Int, ((s.missed + 1 : Nat) : Int) = z ∧ ((s.missed : Nat) : Int) + 1 = z := ⟨_, rfl, by omega⟩
  have cm3 := hH.cm.setMissed (s.missed + 1)
  have cm4 := cm3.setE (a := a) ha2 1 (.slice (some ⟨g, 0, none⟩) 512 cp) ⟨block, some ⟨g, 0, none⟩, 512, cp, 0, false, 0⟩ (fun x => by show (entCells (updU s.U a (newE block) a) x).setIfInBounds 1 _ = _; rw [updU_same]; rfl) (by show block = (updU s.U a (newE block) a).block; rw [updU_same]; rfl) (by show 0 < 1000000000; omega)
  have eU : updU (updU s.U a (newE block)) a ⟨block, some ⟨g, 0, none⟩, 512, cp, 0, false, 0⟩ = updU s.U a ⟨block, some ⟨g, 0, none⟩, 512, cp, 0, false, 0⟩ := by
    funext k; unfold updU; split <;> rfl
  have cm5 : CM ((w2.setCell ⟨s.c, 7, none⟩ (.int .i64 ((s.missed + 1 : Nat) : Int))).setCell ⟨a, 1, none⟩ (.slice (some ⟨g, 0, none⟩) 512 cp)) { s with nh := s.nh + 1, F := F, I := I1, A := A1 ++ [a], U := updU s.U a ⟨block, some ⟨g, 0, none⟩, 512, cp, 0, false, 0⟩, out := out1, missed := s.missed + 1 } := by
    rw [← eU]; exact cm4
  have mC : cMine w2 s.h s.c := hH.cm.mineC
  have mE : cMine w2 s.h a := hH.cm.mineE ha2
  have hB5 : But (cMine w1 s.h) w1 ((w2.setCell ⟨s.c, 7, none⟩ (.int .i64 ((s.missed + 1 : Nat) : Int))).setCell ⟨a, 1, none⟩ (.slice (some ⟨g, 0, none⟩) 512 cp)) := cMine_trans hH.but (((But.refl (cMine w2 s.h) w2).setCell _ mC _).setCell _ mE _)
  have hdat : DatAt ((w2.setCell ⟨s.c, 7, none⟩ (.int .i64 ((s.missed + 1 : Nat) : Int))).setCell ⟨a, 1, none⟩ (.slice (some ⟨g, 0, none⟩) 512 cp)) ⟨block, some ⟨g, 0, none⟩, 512, cp, 0, false, 0⟩ (vs.cont block) :=
    (h1.keep hB5).2 _ _ ⟨rfl, hl, hcp, g, rfl, hb1, ht1⟩
  have cx := cx_new h1 hH hb ⟨block, some ⟨g, 0, none⟩, 512, cp, 0, false, 0⟩ (vs.cont block) (s.missed + 1) s.dcap s.D s.dq (s.nh + 1) cm5 hB5 rfl hdat (.inl ⟨rfl, rfl, rfl⟩)
  have bw : But (cMine w s.h) w w1 := But.of_below hB1
  have HF : Hid (Mt w ((w2.setCell ⟨s.c, 7, none⟩ (.int .i64 ((s.missed + 1 : Nat) : Int))).setCell ⟨a, 1, none⟩ (.slice (some ⟨g, 0, none⟩) 512 cp)) s vs B block a { s with nh := s.nh + 1, F := F, I := I1, A := A1 ++ [a], U := updU s.U a ⟨block, some ⟨g, 0, none⟩, 512, cp, 0, false, 0⟩, out := out1, missed := s.missed + 1 } (fun k => if k = a then vs.cont block else B k)) :=
    ⟨cx, ⟨F, A1, I1, out1, _, _, rfl, hH.ev⟩, rfl, by have := hB1.size; have := hH.new; omega, cMine_trans bw hB5⟩
  rw [hz] at HF
  clear hz hcp hl hb1 hB1 ht1 h1 ha2 hE hE' cm3 cm4 cm5 eU mC mE hB5 hdat cx bw hH H1 l1 c0 c2
  go_wp2
  go_ret2
  exact ⟨a, rfl, _, _, HF.out⟩

end Go.Proofs.YtlcojcldbdikgaaGreatDoor

/-
  A cache as the document has it: a list of the blocks that are held; what the program's cache is as such a list.
-/
namespace Go.Proofs.YtlcojcldbdikgaaGreatDoor
open Go.RowKit Go.Maps Go.Sort Go.Shelf


/-- An entry, as the document has it. -/
def heOf (U : Nat → EV) (B : Nat → By) (a : Nat) : HE := ⟨(U a).block, (U a).pins, (U a).used, (U a).dirty, B a⟩
def acOf (s : CS) (B : Nat → By) : AC := ⟨s.room, s.A.map (heOf s.U B), s.uses, s.met, s.missed, s.out⟩
theorem heOf_idle (U : Nat → EV) (B : Nat → By) (a : Nat) : (heOf U B a).idle = idleE (U a) := rfl

theorem held_iff {s : CS} {B : Nat → By} {b : Nat} : (acOf s B).held b = true ↔ ∃ a ∈ s.A, (s.U a).block = b := by
  unfold AC.held acOf
  simp [heOf]
theorem held_not {s : CS} {B : Nat → By} {b : Nat} (h : (acOf s B).held b = false) : ∀ a ∈ s.A, (s.U a).block ≠ b := fun a ha e => by
  have : (acOf s B).held b = true := held_iff.2 ⟨a, ha, e⟩
  rw [h] at this; cases this

section
variable {w : World} {s : CS} {vs : VS} {B : Nat → By}
theorem CX.full_iff (h : CI w s vs B) : (acOf s B).full = true ↔ s.room ≤ s.A.length ∧ s.I = [] := by
  unfold AC.full
  rw [Bool.and_eq_true, decide_eq_true_iff]
  have e1 : (acOf s B).L.length = s.A.length := by simp [acOf]
  rw [e1]
  refine and_congr Iff.rfl ⟨fun hv => ?_, fun hI => ?_⟩
  · have hv' : victim (acOf s B).L = none := by
      cases hx : victim (acOf s B).L with
      | none => rfl
      | some y => rw [hx] at hv; cases hv
    have := ((victim_fold _ none).2 hv').2
    refine List.eq_nil_iff_forall_not_mem.2 fun a ha => ?_
    obtain ⟨h1, h2⟩ := (h.idle a (fun h => h)).1 ha
    have := this (heOf s.U B a) (List.mem_map.2 ⟨a, h1, rfl⟩)
    rw [heOf_idle, h2] at this
    cases this
  · have : victim (acOf s B).L = none := victim_none fun x hx => by
      obtain ⟨a, ha, rfl⟩ := List.mem_map.1 hx
      rw [heOf_idle]
      cases hi : idleE (s.U a) with
      | false => rfl
      | true =>
        have := (h.idle a (fun h => h)).2 ⟨ha, hi⟩
        rw [hI] at this; cases this
    rw [this]; rfl
/-- What the heap's first one is. -/
theorem CX.victim (h : CI w s vs B) {o : Nat} (ho : o ∈ s.I) (hmin : ∀ b ∈ s.I, (s.U o).used ≤ (s.U b).used) : victim (acOf s B).L = some (heOf s.U B o) := by
  obtain ⟨h1, h2⟩ := (h.idle o (fun h => h)).1 ho
  refine victim_some (List.mem_map.2 ⟨o, h1, rfl⟩) h2 (fun x hx hi => ?_) (fun x hx y hy e => ?_)
  · obtain ⟨a, ha, rfl⟩ := List.mem_map.1 hx
    exact hmin a ((h.idle a (fun h => h)).2 ⟨ha, hi⟩)
  · obtain ⟨a, ha, rfl⟩ := List.mem_map.1 hx
    obtain ⟨b, hb, rfl⟩ := List.mem_map.1 hy
    rw [h.uinj a ha b hb (fun h => h) (fun h => h) e]
/-- What is left behind a taking out. -/
theorem CX.filtered (h : CI w s vs B) {o : Nat} (ho : o ∈ s.A) : (s.A.filter (fun b => b != o)).map (heOf s.U B) = (acOf s B).L.filter (fun x => x.block != (s.U o).block) := by
  show _ = (s.A.map (heOf s.U B)).filter _
  rw [List.filter_map]
  congr 1
  refine List.filter_congr fun a ha => ?_
  show (a != o) = ((s.U a).block != (s.U o).block)
  by_cases e : a = o
  · rw [e, bne_self_eq_false, bne_self_eq_false]
  · have h2 : (s.U a).block ≠ (s.U o).block := fun e' => e (h.cm.hm.inj a ha o ho e')
    rw [bne_iff_ne.2 e, bne_iff_ne.2 h2]
/-- One entry is turned. -/
theorem touched_abs (cm : CM w s) {a : Nat} (ha : a ∈ s.A) (e : EV) (b : By) (f : HE → HE) (hf : f (heOf s.U B a) = ⟨e.block, e.pins, e.used, e.dirty, b⟩) : s.A.map (heOf (updU s.U a e) (fun k => if k = a then b else B k)) = (acOf s B).L.map fun x => if x.block = (s.U a).block then f x else x := by
  show _ = (s.A.map (heOf s.U B)).map _
  rw [List.map_map]
  refine List.map_congr_left fun k hk => ?_
  show heOf (updU s.U a e) (fun k => if k = a then b else B k) k = if (s.U k).block = (s.U a).block then f (heOf s.U B k) else heOf s.U B k
  by_cases e' : k = a
  · subst e'
    rw [if_pos rfl, hf]
    unfold heOf
    simp [updU_same]
  · have : (s.U k).block ≠ (s.U a).block := fun e'' => e' (cm.hm.inj k hk a ha e'')
    rw [if_neg this]
    unfold heOf
    simp [updU_other _ _ e', e']
end

end Go.Proofs.YtlcojcldbdikgaaGreatDoor

/-
  use over a cache and its volume; Get and Pin of package bcache.
-/
namespace Go.Proofs.YtlcojcldbdikgaaGreatDoor
open Go.RowKit Go.Maps Go.Sort Go.Shelf

section
variable {w w' : World} {s : CS} {vs : VS} {B : Nat → By} {a : Nat}
theorem CX.weak (h : CI w s vs B) (a : Nat) : CX (fun k => k = a) w s vs B :=
  ⟨h.cm, h.vi, h.vv, h.hf, h.hd, h.dat, fun _ _ => hx_of_ord (h.ord fun _ h => h), fun _ => h.ord fun _ h => h, fun b _ => h.idle b (fun h => h), h.dirty, h.dnd, fun b hb _ => h.used b hb (fun h => h), fun b hb c hc _ _ => h.uinj b hb c hc (fun h => h) (fun h => h), h.blk, h.clean, h.room⟩
theorem len_sub : ∀ {I A : List Nat}, I.Nodup → (∀ a ∈ I, a ∈ A) → I.length ≤ A.length
  | [], _, _, _ => Nat.zero_le _
  | a :: I, A, hn, hs => by
    have ha := hs a (by simp)
    have h1 := len_sub (I := I) (A := A.erase a) (List.nodup_cons.1 hn).2 (fun b hb => by
      have hne : b ≠ a := fun e => (List.nodup_cons.1 hn).1 (e ▸ hb)
      exact (List.mem_erase_of_ne hne).2 (hs b (by simp [hb])))
    rw [List.length_erase_of_mem ha] at h1
    have := List.length_pos_of_mem ha
    simp only [List.length_cons]
    omega
theorem CX.ilen {ex : Nat → Prop} (h : CX ex w s vs B) : s.I.length ≤ 4096 := by
  have := len_sub h.cm.hp.nodup h.cm.sub
  have := h.room.2.1
  have := h.room.2.2
  omega

/-- An entry is turned: all holds but for its rank. -/
theorem cx_setE (h : CX (fun k => k = a) w s vs B) (e : EV) (b : By) (D' : List Nat) (dq : Option Addr) (dcap : Nat) (cm : CM w' { s with U := updU s.U a e, D := D', dq := dq, dcap := dcap }) (hB : But (cMine w s.h) w w') (ha : a ∈ s.A)
    (heb : e.block = (s.U a).block) (hdat : DatAt w' e b) (hD : (e.dirty = (s.U a).dirty ∧ D' = s.D) ∨ (e.dirty = true ∧ (s.U a).dirty = false ∧ D' = s.D ++ [a])) (hcl : e.dirty = false → b = B a) :
    CX (fun k => k = a) w' { s with U := updU s.U a e, D := D', dq := dq, dcap := dcap } vs (fun k => if k = a then b else B k) := by
  obtain ⟨hvi, hkeep⟩ := h.keep hB
  have U1 : ∀ k, k ≠ a → updU s.U a e k = s.U k := fun k hk => updU_other _ _ hk
  refine ⟨cm, hvi, h.vv, h.hf, h.hd, fun k hk => ?_, fun k hk => ?_, fun hall => absurd rfl (hall a), fun k hk => ?_, fun k => ?_, ?_, fun k hk hka => ?_, fun k hk k' hk' hka hka' e' => ?_, fun k hk => ?_, fun k hk hdk => ?_, h.room⟩
  · show DatAt w' (updU s.U a e k) (if k = a then b else B k)
    by_cases e' : k = a
    · subst e'; rw [updU_same, if_pos rfl]; exact hdat
    · rw [U1 k e', if_neg e']; exact hkeep _ _ (h.dat k hk)
  · have e' : k = a := hk
    rw [e']
    have := hx_upd h.cm.hp.nodup (h.hx a rfl) e
    exact ⟨this.1, this.2⟩
  · show k ∈ s.I ↔ k ∈ s.A ∧ idleE (updU s.U a e k) = true
    rw [U1 k hk]; exact h.idle k hk
  · show k ∈ D' ↔ k ∈ s.A ∧ (updU s.U a e k).dirty = true
    by_cases e' : k = a
    · subst e'
      rw [updU_same]
      rcases hD with ⟨h1, h2⟩ | ⟨h1, _, h2⟩
      · rw [h1, h2]; exact h.dirty k
      · rw [h1, h2]; simp [ha]
    · rw [U1 k e']
      rcases hD with ⟨_, h2⟩ | ⟨_, _, h2⟩
      · rw [h2]; exact h.dirty k
      · rw [h2, List.mem_append, List.mem_singleton, ← h.dirty k]
        exact ⟨fun h => h.resolve_right e', .inl⟩
  · show D'.Nodup
    rcases hD with ⟨_, h2⟩ | ⟨_, h3, h2⟩
    · rw [h2]; exact h.dnd
    · have haD : a ∉ s.D := fun hd => by have := ((h.dirty a).1 hd).2; rw [h3] at this; cases this
      rw [h2, List.nodup_append]
      exact ⟨h.dnd, by simp, fun x hx y hy => by rw [List.mem_singleton.1 hy]; exact fun e => haD (e ▸ hx)⟩
  · show (updU s.U a e k).used ≤ s.uses
    rw [U1 k hka]; exact h.used k hk hka
  · have e2 : (updU s.U a e k).used = (updU s.U a e k').used := e'
    rw [U1 k hka, U1 k' hka'] at e2
    exact h.uinj k hk k' hk' hka hka' e2
  · show (updU s.U a e k).block < _
    by_cases e' : k = a
    · rw [e', updU_same, heb]; exact h.blk a ha
    · rw [U1 k e']; exact h.blk k hk
  · show (if k = a then b else B k) = vs.cont (updU s.U a e k).block
    have hdk' : (updU s.U a e k).dirty = false := hdk
    by_cases e' : k = a
    · subst e'
      rw [updU_same] at hdk' ⊢
      rw [if_pos rfl, heb, hcl hdk']
      refine h.clean k hk ?_
      rcases hD with ⟨h1, _⟩ | ⟨_, h1, _⟩
      · rw [← h1]; exact hdk'
      · exact h1
    · rw [U1 k e'] at hdk' ⊢
      rw [if_neg e']
      exact h.clean k hk hdk'

/-- Behind use all holds. -/
theorem cx_used {s' : CS} (h : CX (fun k => k = a) w s vs B) (ha : a ∈ s.A) (hu : Us w w' s s' a) : CI w' s' vs B := by
  obtain ⟨hvi, hkeep⟩ := h.keep hu.but
  obtain ⟨ip, icap, I', rfl⟩ := hu.eq
  have U1 : ∀ k, k ≠ a → updU s.U a { s.U a with used := s.uses + 1 } k = s.U k := fun k hk => updU_other _ _ hk
  have Ua : updU s.U a { s.U a with used := s.uses + 1 } a = { s.U a with used := s.uses + 1 } := updU_same _ _ _
  have hdir : ∀ k, (updU s.U a { s.U a with used := s.uses + 1 } k).dirty = (s.U k).dirty := fun k => by
    by_cases e : k = a
    · rw [e, Ua]
    · rw [U1 k e]
  have hblk : ∀ k, (updU s.U a { s.U a with used := s.uses + 1 } k).block = (s.U k).block := fun k => by
    by_cases e : k = a
    · rw [e, Ua]
    · rw [U1 k e]
  refine ⟨hu.cm, hvi, h.vv, h.hf, h.hd, fun k hk => ?_, fun _ h => h.elim, fun _ => hu.ord, fun k _ => ?_, fun k => ?_, h.dnd, fun k hk _ => ?_, fun k hk k' hk' _ _ e' => ?_, fun k hk => ?_, fun k hk hdk => ?_, h.room⟩
  · show DatAt w' (updU s.U a { s.U a with used := s.uses + 1 } k) (B k)
    by_cases e : k = a
    · rw [e, Ua]
      have := hkeep _ _ (h.dat a ha)
      exact this
    · rw [U1 k e]; exact hkeep _ _ (h.dat k hk)
  · show k ∈ I' ↔ k ∈ s.A ∧ idleE (updU s.U a { s.U a with used := s.uses + 1 } k) = true
    rw [show (k ∈ I' ↔ _) from hu.mem k]
    by_cases e : k = a
    · subst e
      rw [Ua]
      constructor
      · rintro (⟨_, h1⟩ | ⟨_, h1⟩)
        · exact absurd rfl h1
        · exact ⟨ha, h1⟩
      · rintro ⟨_, h1⟩; exact .inr ⟨rfl, h1⟩
    · rw [U1 k e, ← h.idle k e]
      constructor
      · rintro (⟨h1, _⟩ | ⟨h1, _⟩)
        · exact h1
        · exact absurd h1 e
      · intro h1; exact .inl ⟨h1, e⟩
  · show k ∈ s.D ↔ k ∈ s.A ∧ (updU s.U a { s.U a with used := s.uses + 1 } k).dirty = true
    rw [hdir]; exact h.dirty k
  · show (updU s.U a { s.U a with used := s.uses + 1 } k).used ≤ s.uses + 1
    by_cases e : k = a
    · rw [e, Ua]; exact Nat.le_refl _
    · rw [U1 k e]; exact Nat.le_trans (h.used k hk e) (Nat.le_succ _)
  · have e2 : (updU s.U a { s.U a with used := s.uses + 1 } k).used = (updU s.U a { s.U a with used := s.uses + 1 } k').used := e'
    by_cases e : k = a
    · by_cases e3 : k' = a
      · rw [e, e3]
      · rw [e, Ua, U1 k' e3] at e2
        have := h.used k' hk' e3
        have e4 : s.uses + 1 = (s.U k').used := e2
        omega
    · by_cases e3 : k' = a
      · rw [e3, Ua, U1 k e] at e2
        have := h.used k hk e
        have e4 : (s.U k).used = s.uses + 1 := e2
        omega
      · rw [U1 k e, U1 k' e3] at e2
        exact h.uinj k hk k' hk' e e3 e2
  · show (updU s.U a { s.U a with used := s.uses + 1 } k).block < _
    rw [hblk]; exact h.blk k hk
  · show B k = vs.cont (updU s.U a { s.U a with used := s.uses + 1 } k).block
    have hdk' : (updU s.U a { s.U a with used := s.uses + 1 } k).dirty = false := hdk
    rw [hdir] at hdk'
    rw [hblk]; exact h.clean k hk hdk'
theorem acOf_used {s' : CS} (cm : CM w s) (ha : a ∈ s.A) (hu : Us w w' s s' a) : acOf s' B = (acOf s B).touch (s.U a).block id := by
  obtain ⟨ip, icap, I', rfl⟩ := hu.eq
  have := touched_abs (B := B) cm ha { s.U a with used := s.uses + 1 } (B a) (fun x => { x with used := s.uses + 1 }) rfl
  have eB : (fun k => if k = a then B a else B k) = B := by funext k; split <;> simp_all
  rw [eB] at this
  unfold acOf AC.touch
  congr 1
theorem use_cx (h : CX (fun k => k = a) w s vs B) (ha : a ∈ s.A) {b : Nat} (hz : CB s b) (hb : b < 900000) :
    Calls Tryz.prog 28 #[ep s.c, ep a] w fun e w' => e = .returned (.tuple #[]) ∧ ∃ s', CI w' s' vs B ∧ Us w w' s s' a ∧ acOf s' B = (acOf s B).touch (s.U a).block id := by
  have hl := h.ilen
  have := hz.uses
  refine (use_any s a w h.cm ha (h.hx a rfl) (by omega) (by omega)).mono ?_
  rintro e w' ⟨rfl, s', hu⟩
  exact ⟨rfl, s', cx_used h ha hu, hu, acOf_used h.cm ha hu⟩
end

/-- Behind meet: the block's entry, held but for its rank. -/
structure Mx (w w' : World) (s s' : CS) (vs : VS) (B B' : Nat → By) (block a b : Nat) : Prop where
  cx : CX (fun k => k = a) w' s' vs B'
  inA : a ∈ s'.A
  blk : (s'.U a).block = block
  ac : acOf s' B' = if (acOf s B).held block then { acOf s B with hit := s.met + 1 } else { (acOf s B).evict.add block (vs.cont block) with miss := s.missed + 1 }
  cb : CB s' (b + 1) ∧ s'.uses = s.uses
  c : s'.c = s.c
  h : s'.h = s.h
  but : But (cMine w s.h) w w'

theorem not_full {w : World} {s : CS} {vs : VS} {B : Nat → By} (h : CI w s vs B) (hf : (acOf s B).full = false) : s.A.length < s.room ∨ 0 < s.I.length := by
  by_cases hlt : s.A.length < s.room
  · exact .inl hlt
  · right
    apply Classical.byContradiction
    intro hI
    have : (acOf s B).full = true := h.full_iff.2 ⟨by omega, List.eq_nil_of_length_eq_zero (by omega)⟩
    rw [hf] at this; cases this

theorem evict_abs {w : World} {s : CS} {vs : VS} {B : Nat → By} (h : CI w s vs B) {A1 I1 : List Nat} {out1 : Nat}
    (hev : (s.A.length < s.room ∧ A1 = s.A ∧ I1 = s.I ∧ out1 = s.out) ∨ (s.room ≤ s.A.length ∧ ∃ o, o ∈ s.I ∧ (∀ b ∈ s.I, (s.U o).used ≤ (s.U b).used) ∧ A1 = s.A.filter (fun b => b != o) ∧ (∀ b, b ∈ I1 ↔ b ∈ s.I ∧ b ≠ o) ∧ out1 = s.out + 1)) :
    (acOf s B).evict = { acOf s B with L := A1.map (heOf s.U B), outs := out1 } := by
  have e1 : (acOf s B).L.length = s.A.length := by simp [acOf]
  have e2 : (acOf s B).room = s.room := rfl
  unfold AC.evict
  rw [e1, e2]
  rcases hev with ⟨hlt, rfl, _, rfl⟩ | ⟨hge, o, ho, hmin, rfl, _, rfl⟩
  · rw [if_pos hlt]; rfl
  · rw [if_neg (by omega), h.victim ho hmin]
    show ({ acOf s B with L := (acOf s B).L.filter (fun x => x.block != (s.U o).block), outs := _ } : AC) = _
    rw [h.filtered (h.cm.sub o ho)]
    rfl

theorem meet_ok (s : CS) (vs : VS) (B : Nat → By) (block b : Nat) (w : World) (h : CI w s vs B) (hz : CB s b) (hbz : b < 900000) (hb : block < nbOf vs.d.n) (hok : (acOf s B).held block = true ∨ (acOf s B).full = false) :
    Calls Tryz.prog 27 #[ep s.c, .int .i64 (block : Nat)] w fun e w' => ∃ a s' B', e = .returned (.tuple #[ep a, .int .i64 0]) ∧ Mx w w' s s' vs B B' block a b := by
  cases hh : (acOf s B).held block with
  | true =>
    obtain ⟨a, ha, rfl⟩ := held_iff.1 hh
    have := hz.met
    refine (meet_hit s vs B a w h ha (by omega)).mono ?_
    rintro e w' ⟨rfl, hI, hB⟩
    refine ⟨a, _, B, rfl, hI.weak a, ha, rfl, ?_, ⟨⟨?_, ?_, ?_, ?_, ?_⟩, rfl⟩, rfl, rfl, hB⟩
    · rw [hh]; rfl
    · have := hz.nh; show s.nh ≤ _; omega
    · have := hz.uses; show s.uses ≤ _; omega
    · show s.met + 1 ≤ _; omega
    · have := hz.missed; show s.missed ≤ _; omega
    · have := hz.out; show s.out ≤ _; omega
  | false =>
    have hf : (acOf s B).full = false := by
      rcases hok with h1 | h1
      · rw [hh] at h1; cases h1
      · exact h1
    refine (meet_miss s vs B block b w h hz hbz hb (held_not hh) (not_full h hf)).mono ?_
    rintro e w' ⟨a, s', B', rfl, hM⟩
    obtain ⟨F, A1, I1, out1, p, cp, rfl, hev⟩ := hM.eq
    have hcx := hM.cx
    have hbB := hM.bytes
    subst hbB
    refine ⟨a, _, _, rfl, hcx, by simp, ?_, ?_, ⟨⟨?_, ?_, ?_, ?_, ?_⟩, rfl⟩, rfl, rfl, hM.but⟩
    · show (updU s.U a _ a).block = block
      rw [updU_same]
    · rw [hh, if_neg (by simp), evict_abs h hev]
      have hA1 : ∀ k ∈ A1, k ≠ a := fun k hk e => by
        have hks : k ∈ s.A := by
          rcases hev with ⟨_, rfl, _⟩ | ⟨_, o, _, _, rfl, _⟩
          · exact hk
          · exact (List.mem_filter.1 hk).1
        have := h.cm.alt hks
        have := hM.new
        omega
      have e1 : A1.map (heOf (updU s.U a ⟨block, p, 512, cp, 0, false, 0⟩) (fun k => if k = a then vs.cont block else B k)) = A1.map (heOf s.U B) := List.map_congr_left fun k hk => by
        unfold heOf
        simp [updU_other _ _ (hA1 k hk), hA1 k hk]
      unfold acOf AC.add
      simp only [List.map_append, List.map_cons, List.map_nil, e1]
      congr 2
      unfold heOf
      simp [updU_same]
    · have := hz.nh; show s.nh + 1 ≤ _; omega
    · have := hz.uses; show s.uses ≤ _; omega
    · have := hz.met; show s.met ≤ _; omega
    · have := hz.missed; show s.missed + 1 ≤ _; omega
    · have := hz.out
      show out1 ≤ _
      rcases hev with ⟨_, _, _, rfl⟩ | ⟨_, o, _, _, _, _, rfl⟩ <;> omega

/-- A step of a cache. -/
structure Cst (w w' : World) (s s' : CS) (vs : VS) (B' : Nat → By) (b : Nat) : Prop where
  ci : CI w' s' vs B'
  cb : CB s' (b + 1)
  c : s'.c = s.c
  h : s'.h = s.h
  but : But (cMine w s.h) w w'

theorem dataOf_ent {w : World} {s : CS} {B : Nat → By} (cm : CM w s) {a : Nat} (ha : a ∈ s.A) : (acOf s B).dataOf (s.U a).block = B a := by
  unfold AC.dataOf
  show (((s.A.map (heOf s.U B)).find? fun x => x.block == (s.U a).block).map HE.data).getD [] = B a
  have : (s.A.map (heOf s.U B)).find? (fun x => x.block == (s.U a).block) = some (heOf s.U B a) := by
    rw [List.find?_map]
    have hf : s.A.find? ((fun x : HE => x.block == (s.U a).block) ∘ heOf s.U B) = some a := by
      cases hx : s.A.find? ((fun x : HE => x.block == (s.U a).block) ∘ heOf s.U B) with
      | none =>
        have := List.find?_eq_none.1 hx a ha
        simp [heOf] at this
      | some c =>
        have h1 := List.mem_of_find?_eq_some hx
        have h2 := List.find?_some hx
        have h3 : (s.U c).block = (s.U a).block := by simpa [heOf] using h2
        rw [cm.hm.inj c h1 a ha h3]
    rw [hf]; rfl
  rw [this]; rfl

set_option maxRecDepth 8000 in
set_option maxHeartbeats 1000000 in
theorem get_okt (s : CS) (vs : VS) (B : Nat → By) (block b : Nat) (w : World) (h : CI w s vs B) (hz : CB s b) (hbz : b < 800000) (hb : block < nbOf vs.d.n) (hok : (acOf s B).held block = true ∨ (acOf s B).full = false) :
    Calls Tryz.prog 7 #[ep s.c, .int .i64 (block : Nat)] w fun e w' => ∃ g cap, e = .returned (.tuple #[.slice (some ⟨g, 0, none⟩) 512 cap, .int .i64 0]) ∧ ∃ s' B', Cst w w' s s' vs B' b ∧ acOf s' B' = (acOf s B).meet block (vs.cont block) id ∧ Bytes w' (some ⟨g, 0, none⟩) ((acOf s' B').dataOf block) ∧ ((acOf s' B').dataOf block).length = 512 ∧ ∃ cs fr, w'.heap[g]? = some (.cells cs 5 fr) := by
  have cM := meet_ok s vs B block b w h hz (by omega) hb hok
  clear h
  go_enter Tryz.func7, Tryz.ntmps7
  go_wp2_with (go_at_call 27; refine cM.mono ?_; rintro e w1 ⟨a, s1, B1, rfl, hM⟩; clear cM; refine Stop.out ?_)
  refine Stop.mk ?_
  have cU := use_cx hM.cx hM.inA hM.cb.1 (by omega)
  rw [hM.c] at cU
  have H1 : Hid (Mx w w1 s s1 vs B B1 block a b) := hM
  clear hM
  go_wp2_with (go_at_call 28; refine cU.mono ?_; rintro e w2 ⟨rfl, s2, hI2, hU2, hac2⟩; clear cU; refine Stop.out ?_)
  refine Stop.mk ?_
  obtain ⟨ip, icap, I', he2⟩ := hU2.eq
  have ha2 : a ∈ s2.A := by rw [he2]; exact H1.out.inA
  obtain ⟨x, hE⟩ := hI2.cm.entAny ha2
  obtain ⟨hn, hl, hcp, g0, hp, hbb, htg⟩ := hI2.dat a ha2
  have d1 : w2.cell? ⟨a, 1, none⟩ = some (.slice (some ⟨g0, 0, none⟩) 512 (s2.U a).cp) := by
    rw [cellOf hE 1, ← hp]
    show some (Value.slice (s2.U a).p (s2.U a).n (s2.U a).cp) = _
    rw [hn]
  have cl := clone_bytes g0 0 (B1 a) (s2.U a).cp w2 hbb (by omega) (by omega)
  rw [hl] at cl
  have hblk2 : (s2.U a).block = block := by
    rw [he2]
    show (updU s1.U a _ a).block = block
    rw [updU_same]; exact H1.out.blk
  have hdat : (acOf s2 B1).dataOf block = B1 a := by rw [← hblk2]; exact dataOf_ent hI2.cm ha2
  have hB2 : But (cMine w s.h) w w2 := cMine_trans H1.out.but (by rw [← H1.out.h]; exact hU2.but)
  have hac : acOf s2 B1 = (acOf s B).meet block (vs.cont block) id := by
    rw [hac2, H1.out.blk, H1.out.ac]
    unfold AC.meet
    split <;> rfl
  have hcb : CB s2 (b + 1) := by
    obtain ⟨⟨q1, q2, q3, q4, q5⟩, q6⟩ := H1.out.cb
    have := hz.uses
    rw [he2]
    exact ⟨q1, by show s1.uses + 1 ≤ _; omega, q3, q4, q5⟩
  have hc2 : s2.c = s.c := by rw [he2]; exact H1.out.c
  have hh2 : s2.h = s.h := by rw [he2]; exact H1.out.h
  have H2 : Hid (CI w2 s2 vs B1 ∧ CB s2 (b + 1) ∧ s2.c = s.c ∧ s2.h = s.h ∧ But (cMine w s.h) w w2 ∧ acOf s2 B1 = (acOf s B).meet block (vs.cont block) id ∧ (acOf s2 B1).dataOf block = B1 a ∧ (B1 a).length = 512) := ⟨hI2, hcb, hc2, hh2, hB2, hac, hdat, hl⟩
  clear hI2 hU2 hac2 he2 ha2 hE hn hcp hp hbb htg hblk2 hdat hB2 hac hcb hc2 hh2 H1 hl
  go_wp2_with (go_at_call 29; refine cl.mono ?_; rintro e w3 ⟨g, cap, rfl, hg, hcap, hb3, hB3, ht3⟩; clear cl)
  go_ret2
  obtain ⟨hI2, hcb, hc2, hh2, hB2, hac, hdat, hl⟩ := H2.out
  exact ⟨g, cap, rfl, s2, B1, ⟨hI2.below hB3, hcb, hc2, hh2, hB2.after (But.of_below (S := fun _ => False) hB3) (fun _ _ h => h.elim)⟩, hac, by rw [hdat]; exact hb3, by rw [hdat]; exact hl, ht3⟩

theorem get_ok (s : CS) (vs : VS) (B : Nat → By) (block b : Nat) (w : World) (h : CI w s vs B) (hz : CB s b) (hbz : b < 800000) (hb : block < nbOf vs.d.n) (hok : (acOf s B).held block = true ∨ (acOf s B).full = false) :
    Calls Tryz.prog 7 #[ep s.c, .int .i64 (block : Nat)] w fun e w' => ∃ g cap, e = .returned (.tuple #[.slice (some ⟨g, 0, none⟩) 512 cap, .int .i64 0]) ∧ ∃ s' B', Cst w w' s s' vs B' b ∧ acOf s' B' = (acOf s B).meet block (vs.cont block) id ∧ Bytes w' (some ⟨g, 0, none⟩) ((acOf s' B').dataOf block) ∧ ((acOf s' B').dataOf block).length = 512 :=
  (get_okt s vs B block b w h hz hbz hb hok).mono fun _ _ ⟨g, cap, e, s2, B2, h1, h2, h3, h4, _⟩ => ⟨g, cap, e, s2, B2, h1, h2, h3, h4⟩

set_option maxRecDepth 8000 in
set_option maxHeartbeats 1000000 in
theorem get_full (s : CS) (vs : VS) (B : Nat → By) (block : Nat) (w : World) (h : CI w s vs B) (hb : block < nbOf vs.d.n) (hh : (acOf s B).held block = false) (hf : (acOf s B).full = true) :
    Calls Tryz.prog 7 #[ep s.c, .int .i64 (block : Nat)] w fun e w' => e = .returned (.tuple #[.slice none 0 0, .int .i64 28]) ∧ Below w.heap.size w w' := by
  obtain ⟨h1, h2⟩ := h.full_iff.1 hf
  have cM := meet_full s vs B block w h hb (held_not hh) h1 h2
  clear h
  go_enter Tryz.func7, Tryz.ntmps7
  go_wp2_with (go_at_call 27; refine cM.mono ?_; rintro e w1 ⟨rfl, hB1⟩; clear cM)
  go_ret2
  exact ⟨rfl, hB1⟩
set_option maxRecDepth 8000 in
set_option maxHeartbeats 1000000 in
theorem get_out (s : CS) (vs : VS) (B : Nat → By) (x : Int) (w : World) (h : CI w s vs B) (h1 : -9223372036854775808 ≤ x) (h2 : x < 9223372036854775808) (hx : ¬ (0 ≤ x ∧ x < nbOf vs.d.n)) :
    Calls Tryz.prog 7 #[ep s.c, .int .i64 x] w fun e w' => e = .returned (.tuple #[.slice none 0 0, .int .i64 22]) ∧ w' = w := by
  have cM := meet_out s vs B x w h h1 h2 hx
  clear h
  go_enter Tryz.func7, Tryz.ntmps7
  go_wp2_with (go_at_call 27; refine Calls_on cM ?_)
  go_ret2
  exact ⟨rfl, rfl⟩
set_option maxRecDepth 8000 in
set_option maxHeartbeats 1000000 in
theorem pin_full (s : CS) (vs : VS) (B : Nat → By) (block : Nat) (w : World) (h : CI w s vs B) (hb : block < nbOf vs.d.n) (hh : (acOf s B).held block = false) (hf : (acOf s B).full = true) :
    Calls Tryz.prog 9 #[ep s.c, .int .i64 (block : Nat)] w fun e w' => e = .returned (.int .i64 28) ∧ Below w.heap.size w w' := by
  obtain ⟨h1, h2⟩ := h.full_iff.1 hf
  have cM := meet_full s vs B block w h hb (held_not hh) h1 h2
  clear h
  go_enter Tryz.func9, Tryz.ntmps9
  go_wp2_with (go_at_call 27; refine cM.mono ?_; rintro e w1 ⟨rfl, hB1⟩; clear cM)
  go_ret
  exact ⟨rfl, hB1⟩
set_option maxRecDepth 8000 in
set_option maxHeartbeats 1000000 in
theorem pin_out (s : CS) (vs : VS) (B : Nat → By) (x : Int) (w : World) (h : CI w s vs B) (h1 : -9223372036854775808 ≤ x) (h2 : x < 9223372036854775808) (hx : ¬ (0 ≤ x ∧ x < nbOf vs.d.n)) :
    Calls Tryz.prog 9 #[ep s.c, .int .i64 x] w fun e w' => e = .returned (.int .i64 22) ∧ w' = w := by
  have cM := meet_out s vs B x w h h1 h2 hx
  clear h
  go_enter Tryz.func9, Tryz.ntmps9
  go_wp2_with (go_at_call 27; refine Calls_on cM ?_)
  go_ret
  exact ⟨rfl, rfl⟩

end Go.Proofs.YtlcojcldbdikgaaGreatDoor

/-
  CacheAll: what the law keeps of both caches, and each call over it: Get.
-/
namespace Go.Proofs.YtlcojcldbdikgaaGreatDoor.Rc
open Go.RowKit Go.Maps

/-- The program's cache, known as A. -/
structure JP (O : Nat → Array Value → Prop) (w0 w : World) (c : Nat) (vs : VS) (A : AC) (b vb : Nat) : Prop where
  st : ∃ s B, CI w s vs B ∧ CB s b ∧ s.c = c ∧ acOf s B = A ∧ w0.heap.size ≤ s.h
  bud : Bud vs vb
  below : Below w0.heap.size w0 w
  vlo : ∀ k, vs.mine k → w0.heap.size ≤ k
  ok : ∀ g cs, O g cs → w.heap[g]? = some (.cells cs 35 (0, 0))
/-- The document's cache: S, with its bytes. -/
structure JD (w0 w : World) (base r : Nat) (D : SV → List (BitVec 8)) (S : RS) (n : Nat) (cont : Nat → By) : Prop where
  rf : ∃ vv lv, RF w base r vv lv S
  lo : w0.heap.size ≤ base
  ap : Apart S.L
  dl : ∀ y ∈ S.L, BRow w base y.b (D y.b) ∧ (D y.b).length = 512
  dv : ∀ x ∈ S.V, BRow w base x (D x) ∧ (D x).length = 512
  vl : S.V.length = n
  vc : ∀ i x, S.V[i]? = some x → D x = cont i

theorem JP.by {O : Nat → Array Value → Prop} {w0 w w' : World} {c : Nat} {vs : VS} {A : AC} {b vb : Nat} (h : JP O w0 w c vs A b vb) (hb : Below w.heap.size w w') : JP O w0 w' c vs A b vb := by
  obtain ⟨s, B, h1, h2, h3, h4, h5⟩ := h.st
  exact ⟨⟨s, B, h1.below hb, h2, h3, h4, h5⟩, h.bud, h.below.trans (hb.mono h.below.size), h.vlo, fun g cs hg => (hb.block g (block_lt (h.ok g cs hg))).trans (h.ok g cs hg)⟩
theorem JP.fr {O : Nat → Array Value → Prop} {w0 w w' : World} {c base : Nat} {vs : VS} {A : AC} {b vb : Nat} (h : JP O w0 w c vs A b vb) (hl : w0.heap.size ≤ base) (hf : Fr base w w') : JP O w0 w' c vs A b vb := by
  obtain ⟨s, B, h1, h2, h3, h4, h5⟩ := h.st
  exact ⟨⟨s, B, ci_fr h1 hf, h2, h3, h4, h5⟩, h.bud, h.below.trans (Only.below hf h.below.size (fun i hi => Nat.le_trans hl hi.1)), h.vlo, fun g cs hg => opk_fr hf (h.ok g cs hg)⟩
theorem JD.by {w0 w w' : World} {base r n : Nat} {D : SV → List (BitVec 8)} {S : RS} {cont : Nat → By} (h : JD w0 w base r D S n cont) (hb : Below w.heap.size w w') : JD w0 w' base r D S n cont := by
  obtain ⟨vv, lv, hr⟩ := h.rf
  have ho := only_below hb (fun _ => False)
  exact ⟨⟨vv, lv, hr.below hb⟩, h.lo, h.ap, fun y hy => ⟨(h.dl y hy).1.only ho (fun _ _ _ f => f), (h.dl y hy).2⟩, fun y hy => ⟨(h.dv y hy).1.only ho (fun _ _ _ f => f), (h.dv y hy).2⟩, h.vl, h.vc⟩
/-- A step of the program's cache. -/
theorem JD.step {w0 w w' : World} {base r n : Nat} {D : SV → List (BitVec 8)} {S : RS} {cont : Nat → By} {s : CS} {vs : VS} {B : Nat → By} (h : JD w0 w base r D S n cont) (ci : CI w s vs B) (hb : But (fun k => cMine w s.h k ∨ vs.mine k) w w') : JD w0 w' base r D S n cont := by
  obtain ⟨vv, lv, hr⟩ := h.rf
  have hn : ∀ k cs t fr, w.heap[k]? = some (.cells cs t fr) → docT t ∨ t = 5 → ¬ (cMine w s.h k ∨ vs.mine k) := fun k cs t fr hk ht hS => by
    rcases hS with hS | hS
    · exact cMine_not ci hk ht hS
    · exact mine_not ci hk ht hS
  exact ⟨⟨vv, lv, rf_but hr hb (fun k cs t fr hk ht => hn k cs t fr hk (.inl ht))⟩, h.lo, h.ap, fun y hy => ⟨brow_but (h.dl y hy).1 hb (fun k cs fr hk => hn k cs 5 fr hk (.inr rfl)), (h.dl y hy).2⟩, fun y hy => ⟨brow_but (h.dv y hy).1 hb (fun k cs fr hk => hn k cs 5 fr hk (.inr rfl)), (h.dv y hy).2⟩, h.vl, h.vc⟩
theorem JD.cst {w0 w w' : World} {base r n : Nat} {D : SV → List (BitVec 8)} {S : RS} {cont : Nat → By} {s s' : CS} {vs : VS} {B B' : Nat → By} {b : Nat} (h : JD w0 w base r D S n cont) (ci : CI w s vs B) (hc : Cst w w' s s' vs B' b) : JD w0 w' base r D S n cont :=
  h.step ci (hc.but.mono fun _ _ hk => .inl hk)
theorem JP.cst {O : Nat → Array Value → Prop} {w0 w w' : World} {s s' : CS} {vs : VS} {B B' : Nat → By} {A : AC} {b vb c : Nat} (h : JP O w0 w c vs A b vb) (ci : CI w s vs B) (hl : w0.heap.size ≤ s.h) (hc : Cst w w' s s' vs B' b) (e : s.c = c) : JP O w0 w' c vs (acOf s' B') (b + 1) vb :=
  ⟨⟨s', B', hc.ci, hc.cb, hc.c.trans e, rfl, by rw [hc.h]; exact hl⟩, h.bud, h.below.trans (hc.but.below h.below.size (fun k hk => by rcases hk with e | ⟨e, _⟩ <;> omega)), h.vlo, fun g cs hg => opk_step ci (hc.but.mono fun _ _ hk => .inl hk) (h.ok g cs hg)⟩
theorem JP.small {O : Nat → Array Value → Prop} {w0 w : World} {c : Nat} {vs : VS} {A : AC} {b vb : Nat} (h : JP O w0 w c vs A b vb) (hb : b < 1000000) : A.L.length ≤ 4096 ∧ A.outs < 1000000 ∧ A.hit < 1000000 ∧ A.miss < 1000000 ∧ A.time < 1000000 := by
  obtain ⟨s, B, h1, h2, h3, rfl, h5⟩ := h.st
  have hr := h1.room
  refine ⟨?_, Nat.lt_of_le_of_lt h2.out hb, Nat.lt_of_le_of_lt h2.met hb, Nat.lt_of_le_of_lt h2.missed hb, Nat.lt_of_le_of_lt h2.uses hb⟩
  show (s.A.map _).length ≤ _
  rw [List.length_map]
  omega
theorem small_of {D : SV → List (BitVec 8)} {S : RS} (h : (abs D S).L.length ≤ 4096 ∧ (abs D S).outs < 1000000 ∧ (abs D S).hit < 1000000 ∧ (abs D S).miss < 1000000 ∧ (abs D S).time < 1000000) : Small S := by
  obtain ⟨h1, h2, h3, h4, h5⟩ := h
  have e : (abs D S).L.length = S.L.length := List.length_map _
  rw [e] at h1
  have h2' : S.outs < 1000000 := h2
  have h3' : S.hit < 1000000 := h3
  have h4' : S.miss < 1000000 := h4
  have h5' : S.time < 1000000 := h5
  unfold Small
  omega

/-- Get of a block that is there, or for which there is room. -/
theorem jget_ok (O : Nat → Array Value → Prop) (w0 w : World) (c base r : Nat) (vs : VS) (A : AC) (b vb x : Nat) (D : SV → List (BitVec 8)) (S : RS) (cont : Nat → By) (hp : JP O w0 w c vs A b vb) (hd : JD w0 w base r D S (nbOf vs.d.n) cont) (hb : b < 800000) (hx : x < nbOf vs.d.n) (hok : A.held x = true ∨ A.full = false) :
    Calls Tryz.prog 7 #[ep c, .int .i64 (x : Nat)] w fun e w' => ∃ g cap, e = .returned (.tuple #[.slice (some ⟨g, 0, none⟩) 512 cap, .int .i64 0]) ∧ JP O w0 w' c vs (A.meet x (vs.cont x) id) (b + 1) vb ∧ JD w0 w' base r D S (nbOf vs.d.n) cont ∧ ((A.meet x (vs.cont x) id).dataOf x).length = 512 ∧ Bytes w' (some ⟨g, 0, none⟩) ((A.meet x (vs.cont x) id).dataOf x) ∧ ∃ cs fr, w'.heap[g]? = some (.cells cs 5 fr) := by
  obtain ⟨s, B, h1, h2, rfl, rfl, h5⟩ := hp.st
  refine (get_okt s vs B x b w h1 h2 hb hx hok).mono ?_
  rintro e w' ⟨g, cap, he, s', B', hc, hac, hby, hlen, htag⟩
  have := hp.cst h1 h5 hc rfl
  rw [hac] at this hby hlen
  exact ⟨g, cap, he, this, hd.cst h1 hc, hlen, hby, htag⟩

theorem fr_bytes {w w' : World} {base g : Nat} {bs : List (BitVec 8)} (hf : Fr base w w') (hb : Bytes w (some ⟨g, 0, none⟩) bs) (ht : ∃ cs fr, w.heap[g]? = some (.cells cs 5 fr)) : Bytes w' (some ⟨g, 0, none⟩) bs := fun hl => by
  obtain ⟨q, o, e, hc⟩ := hb hl
  injection e with e
  injection e with e1 e2
  subst e1
  refine ⟨g, o, by rw [← e2], fun j x hj => hf.cell (hc j x hj) ?_⟩
  rintro ⟨_, cs', t, f, e, ht'⟩
  obtain ⟨cs, fr, hq⟩ := ht
  rw [hq] at e
  simp only [Option.some.injEq, Obj.cells.injEq] at e
  obtain ⟨_, rfl, _⟩ := e
  rcases ht' with e | e | e <;> exact absurd e (by decide)

/-- What a meeting of the document's cache comes to. -/
theorem met_doc {O : Nat → Array Value → Prop} {w0 w w' : World} {c base r : Nat} {vs : VS} {A : AC} {b vb x n : Nat} {D : SV → List (BitVec 8)} {S : RS} {cont : Nat → By} {out full : Ending} {ok : Nat → RE → Ending} {fin : RS → Nat → RE → RS} {vv lv : Value} {e : Ending} (g : RE → RE) (f : HE → HE)
    (hp : JP O w0 w c vs A b vb) (hd : JD w0 w base r D S n cont) (hA : A = (abs D S).meet x (cont x) f) (hx : x < n) (hok : (abs D S).held x = true ∨ (abs D S).full = false)
    (hfin : ∀ S1 k y, fin S1 k y = { S1 with L := S1.L.set k (g y) }) (hf : ∀ x, f (he D x) = he D (g x)) (hg : ∀ x, (g x).block = x.block ∧ (g x).b = x.b)
    (hm : Met base r vv lv S (x : Nat) true w out full ok fin e w') :
    ∃ S' k y, e = ok k y ∧ Fr base w w' ∧ JP O w0 w' c vs A b vb ∧ JD w0 w' base r D S' n cont ∧ abs D S' = A ∧ BRow w' base y.b (A.dataOf x) ∧ (A.dataOf x).length = 512 := by
  obtain ⟨hfr, hm⟩ := hm
  rcases hm with ⟨h1, _⟩ | ⟨b', e1, _, e3, e4, e5, _⟩ | ⟨b', k, S1, y, lv', h, m, e1, _, hh, hy, e3, e4, e5, hR⟩
  · exact absurd ⟨by omega, by have := hd.vl; omega⟩ h1
  · obtain rfl : x = b' := by omega
    have hel := held_abs D S x
    rw [e3] at hel
    have hfu := (full_abs D S).2 ⟨e4, e5⟩
    rcases hok with h | h
    · rw [h] at hel; exact absurd hel (by decide)
    · rw [h] at hfu; cases hfu
  · obtain rfl : x = b' := by omega
    obtain ⟨q1, q2, q3⟩ := meet_abs hd.ap hh (fun sv hsv => hd.vc x sv hsv) hy e3 e4 g f hf (fun x => (hg x).1)
    rw [← hA] at q1
    rw [hfin] at hR
    have hset : (useR S1 k y h m).L.set k (g { y with used := S1.time + 1 }) = S1.L.set k (g { y with used := S1.time + 1 }) := by
      show (S1.L.set k _).set k _ = _
      rw [List.set_set]
    rw [hset] at hR
    obtain ⟨_, _, _, _, hV⟩ := hh.get
    have hk := (List.getElem?_eq_some_iff.1 hy).1
    have hrow : ∀ y ∈ S1.L, BRow w' base y.b (D y.b) ∧ (D y.b).length = 512 := holds_rows (P := fun v => BRow w' base v (D v) ∧ (D v).length = 512) hh (fun y hy => ⟨brow_fr (hd.dl y hy).1 hfr, (hd.dl y hy).2⟩) (fun y hy => ⟨brow_fr (hd.dv y hy).1 hfr, (hd.dv y hy).2⟩)
    have hyr := hrow y (List.mem_of_getElem? hy)
    have hgb : (g { y with used := S1.time + 1 }).b = y.b := (hg _).2
    have hz : (S1.L.set k (g { y with used := S1.time + 1 }))[k]? = some (g { y with used := S1.time + 1 }) := by
      rw [List.getElem?_set, if_pos rfl, if_pos hk]
    have hdat := dataOf_at (D := D) (S := { useR S1 k y h m with L := S1.L.set k (g { y with used := S1.time + 1 }) }) q2 hz
    rw [q1, (hg _).1, hgb] at hdat
    have hdat2 : A.dataOf x = D y.b := by rw [← q3]; exact hdat
    refine ⟨_, k, y, e5, hfr, hp.fr hd.lo hfr, ⟨⟨vv, lv', hR⟩, hd.lo, q2, set_rows (P := fun v => BRow w' base v (D v) ∧ (D v).length = 512) hrow k (by rw [hgb]; exact hyr), ?_, ?_, ?_⟩, q1, by rw [hdat2]; exact hyr.1, by rw [hdat2]; exact hyr.2⟩
    · intro z hz
      have hz' : z ∈ S.V := by rw [← hV]; exact hz
      exact ⟨brow_fr (hd.dv z hz').1 hfr, (hd.dv z hz').2⟩
    · show S1.V.length = n
      rw [hV]; exact hd.vl
    · intro i z hz
      have hz' : S.V[i]? = some z := by rw [← hV]; exact hz
      exact hd.vc i z hz'
theorem jget_doc (O : Nat → Array Value → Prop) (w0 w : World) (c base r : Nat) (vs : VS) (A : AC) (b vb x n : Nat) (D : SV → List (BitVec 8)) (S : RS) (cont : Nat → By) (hp : JP O w0 w c vs A b vb) (hd : JD w0 w base r D S n cont) (hA : A = (abs D S).meet x (cont x) id) (hs : Small S) (hx : x < n) (hok : (abs D S).held x = true ∨ (abs D S).full = false) :
    Calls Tryz.prog 8 #[.pointer (some ⟨r, 0, none⟩), .int .i64 (x : Nat)] w fun e w' => ∃ S' sv, e = .returned (.tuple #[sv.val, .int .i64 0]) ∧ Fr base w w' ∧ JP O w0 w' c vs A b vb ∧ JD w0 w' base r D S' n cont ∧ abs D S' = A ∧ BRow w' base sv (A.dataOf x) ∧ (A.dataOf x).length = 512 := by
  obtain ⟨vv, lv, hr⟩ := hd.rf
  refine (rget_any base r vv lv S (x : Nat) w hr hs).mono ?_
  intro e w' hm
  have hm' : Met base r vv lv S (x : Nat) true w (.returned (.tuple #[.slice none 0 0, .int .i64 22])) (.returned (.tuple #[.slice none 0 0, .int .i64 28])) (fun _ y => .returned (.tuple #[y.b.val, .int .i64 0])) (fun S1 k y => { S1 with L := S1.L.set k y }) e w' := by
    refine ⟨hm.1, hm.2.imp id (Or.imp id ?_)⟩
    rintro ⟨b', k, S1, y, lv', h, m, e1, e2, hh, hy, e3, e4, e5, hR⟩
    refine ⟨b', k, S1, y, lv', h, m, e1, e2, hh, hy, e3, e4, e5, ?_⟩
    have : ({ useR S1 k y h m with L := (useR S1 k y h m).L.set k { y with used := S1.time + 1 } } : RS) = useR S1 k y h m := by
      show ({ useR S1 k y h m with L := (S1.L.set k _).set k _ } : RS) = _
      rw [List.set_set]
      rfl
    show RF w' base r vv lv' { useR S1 k y h m with L := (useR S1 k y h m).L.set k { y with used := S1.time + 1 } }
    rw [this]
    exact hR
  obtain ⟨S', k, y, h1, h2, h3, h4, h5, h6, h7⟩ := met_doc id id hp hd hA hx hok (fun _ _ _ => rfl) (fun _ => rfl) (fun _ => ⟨rfl, rfl⟩) hm'
  exact ⟨S', y.b, h1, h2, h3, h4, h5, h6, h7⟩

end Go.Proofs.YtlcojcldbdikgaaGreatDoor.Rc

/-
  Pin, Unpin, Has, Counts of package bcache.
-/
namespace Go.Proofs.YtlcojcldbdikgaaGreatDoor
open Go.RowKit Go.Maps Go.Sort Go.Shelf

theorem touch_two (A : AC) (b : Nat) (f : HE → HE) (hf : ∀ x : HE, (f x).block = x.block ∧ ∀ t, ({ f x with used := t } : HE) = f { x with used := t }) : AC.touch { A with L := A.L.map fun x => if x.block = b then f x else x } b id = A.touch b f := by
  unfold AC.touch
  simp only [List.map_map]
  congr 1
  refine List.map_congr_left fun x _ => ?_
  show (if (if x.block = b then f x else x).block = b then id { (if x.block = b then f x else x) with used := A.time + 1 } else (if x.block = b then f x else x)) = if x.block = b then f { x with used := A.time + 1 } else x
  by_cases e : x.block = b
  · simp only [if_pos e]
    rw [if_pos (by rw [(hf x).1]; exact e)]
    exact (hf x).2 _
  · simp only [if_neg e]

set_option maxRecDepth 8000 in
set_option maxHeartbeats 1000000 in
theorem pin_ok (s : CS) (vs : VS) (B : Nat → By) (block b : Nat) (w : World) (h : CI w s vs B) (hz : CB s b) (hbz : b < 800000) (hb : block < nbOf vs.d.n) (hok : (acOf s B).held block = true ∨ (acOf s B).full = false) (hpin : ∀ a ∈ s.A, (s.U a).pins < 1000000) :
    Calls Tryz.prog 9 #[ep s.c, .int .i64 (block : Nat)] w fun e w' => e = .returned (.int .i64 0) ∧ ∃ s' B', Cst w w' s s' vs B' b ∧ acOf s' B' = (acOf s B).meet block (vs.cont block) (fun x => { x with pins := x.pins + 1 }) := by
  have cM := meet_ok s vs B block b w h hz (by omega) hb hok
  have hpinA : Hid (∀ x ∈ (acOf s B).L, x.pins < 1000000) := fun x hx => by
    obtain ⟨a, ha, rfl⟩ := List.mem_map.1 hx
    exact hpin a ha
  clear h hpin
  go_enter Tryz.func9, Tryz.ntmps9
  go_wp2_with (go_at_call 27; refine cM.mono ?_; rintro e w1 ⟨a, s1, B1, rfl, hM⟩; clear cM; refine Stop.out ?_)
  refine Stop.mk ?_
  obtain ⟨x, hE⟩ := hM.cx.cm.entAny hM.inA
  have hps : (s1.U a).pins < 1000000 := by
    have h1 : heOf s1.U B1 a ∈ (acOf s1 B1).L := List.mem_map.2 ⟨a, hM.inA, rfl⟩
    rw [hM.ac] at h1
    split at h1
    · exact hpinA.out _ h1
    · rcases List.mem_append.1 (show heOf s1.U B1 a ∈ (acOf s B).evict.L ++ [_] from h1) with h1 | h1
      · refine hpinA.out (heOf s1.U B1 a) ?_
        revert h1
        unfold AC.evict
        split
        · exact id
        · split
          · intro h1; exact (List.mem_filter.1 h1).1
          · exact id
      · have : (heOf s1.U B1 a).pins = 0 := by rw [List.mem_singleton.1 h1]
        have e2 : (s1.U a).pins = 0 := this
        omega
  have d2 : w1.cell? ⟨a, 2, none⟩ = some (.int .i64 ((s1.U a).pins : Nat)) := by rw [cellOf hE 2]; rfl
  have f2 := frozenOf hE 2
  obtain ⟨z, hzz, e1⟩ : ∃ z : Int, (((s1.U a).pins + 1 : Nat) : Int) = z ∧ (((s1.U a).pins : Nat) : Int) + 1 = z := ⟨_, rfl, by omega⟩
  have cm2 := hM.cx.cm.setE hM.inA 2 (.int .i64 (((s1.U a).pins + 1 : Nat) : Int)) { s1.U a with pins := (s1.U a).pins + 1 } (fun _ => rfl) rfl (hM.cx.cm.hp.used a)
  have mE : cMine w1 s1.h a := hM.cx.cm.mineE hM.inA
  have hB2 : But (cMine w1 s1.h) w1 (w1.setCell ⟨a, 2, none⟩ (.int .i64 (((s1.U a).pins + 1 : Nat) : Int))) := (But.refl (cMine w1 s1.h) w1).setCell _ mE _
  have hdat := (hM.cx.keep hB2).2 _ _ (hM.cx.dat a hM.inA)
  have cx2 := cx_setE hM.cx { s1.U a with pins := (s1.U a).pins + 1 } (B1 a) s1.D s1.dq s1.dcap cm2 hB2 hM.inA rfl hdat (.inl ⟨rfl, rfl⟩) (fun _ => rfl)
  have eB : (fun k => if k = a then B1 a else B1 k) = B1 := by funext k; split <;> simp_all
  have htab := touched_abs (B := B1) hM.cx.cm hM.inA { s1.U a with pins := (s1.U a).pins + 1 } (B1 a) (fun x => { x with pins := x.pins + 1 }) rfl
  rw [eB] at cx2 htab
  have hcb2 : CB { s1 with U := updU s1.U a { s1.U a with pins := (s1.U a).pins + 1 } } (b + 1) := ⟨hM.cb.1.nh, hM.cb.1.uses, hM.cb.1.met, hM.cb.1.missed, hM.cb.1.out⟩
  have cU := use_cx cx2 hM.inA hcb2 (by omega)
  have hc1 : ({ s1 with U := updU s1.U a { s1.U a with pins := (s1.U a).pins + 1 } } : CS).c = s.c := hM.c
  rw [hc1] at cU
  have H1 : Hid (Mx w w1 s s1 vs B B1 block a b ∧ But (cMine w1 s1.h) w1 (w1.setCell ⟨a, 2, none⟩ (.int .i64 (((s1.U a).pins + 1 : Nat) : Int))) ∧ s1.A.map (heOf (updU s1.U a { s1.U a with pins := (s1.U a).pins + 1 }) B1) = (acOf s1 B1).L.map fun x => if x.block = (s1.U a).block then { x with pins := x.pins + 1 } else x) := ⟨hM, hB2, htab⟩
  rw [hzz] at cU H1
  clear hzz hE cm2 mE hB2 hdat cx2 eB htab hcb2 hc1 hM
  go_wp2_with (go_at_call 28; refine cU.mono ?_; rintro e w2 ⟨rfl, s2, hI2, hU2, hac2⟩; clear cU)
  go_ret
  obtain ⟨hM, hB2, htab⟩ := H1.out
  obtain ⟨ip, icap, I', he2⟩ := hU2.eq
  have hB3 : But (cMine w s.h) w w2 := by
    refine cMine_trans hM.but ?_
    rw [← hM.h]
    exact cMine_trans hB2 hU2.but
  refine ⟨rfl, s2, B1, ⟨hI2, ?_, by rw [he2], by rw [he2]; exact hM.h, hB3⟩, ?_⟩
  · obtain ⟨⟨q1, q2, q3, q4, q5⟩, q6⟩ := hM.cb
    have := hz.uses
    rw [he2]
    exact ⟨q1, by show s1.uses + 1 ≤ _; omega, q3, q4, q5⟩
  · rw [hac2]
    have hb1 : (updU s1.U a { s1.U a with pins := (s1.U a).pins + 1 } a).block = block := by rw [updU_same]; exact hM.blk
    show AC.touch (acOf { s1 with U := updU s1.U a { s1.U a with pins := (s1.U a).pins + 1 } } B1) (updU s1.U a _ a).block id = _
    rw [hb1]
    have e3 : acOf { s1 with U := updU s1.U a { s1.U a with pins := (s1.U a).pins + 1 } } B1 = { acOf s1 B1 with L := (acOf s1 B1).L.map fun x => if x.block = block then { x with pins := x.pins + 1 } else x } := by
      unfold acOf
      simp only
      rw [htab, hM.blk]
      rfl
    rw [e3, touch_two _ _ (fun x : HE => { x with pins := x.pins + 1 }) (fun x => ⟨rfl, fun _ => rfl⟩), hM.ac]
    unfold AC.meet
    split <;> rfl

/-- Behind rank all holds. -/
theorem cx_ranked {w w' : World} {s s' : CS} {vs : VS} {B : Nat → By} {a : Nat} (h : CX (fun k => k = a) w s vs B) (ha : a ∈ s.A) (hu : (s.U a).used ≤ s.uses) (hj : ∀ b ∈ s.A, b ≠ a → (s.U b).used ≠ (s.U a).used) (hr : Rk w w' s s' a) : CI w' s' vs B ∧ acOf s' B = acOf s B := by
  obtain ⟨hvi, hkeep⟩ := h.keep hr.but
  obtain ⟨ip, icap, I', rfl⟩ := hr.eq
  refine ⟨⟨hr.cm, hvi, h.vv, h.hf, h.hd, fun k hk => hkeep _ _ (h.dat k hk), fun _ h => h.elim, fun _ => hr.ord, fun k _ => ?_, h.dirty, h.dnd, fun k hk _ => ?_, fun k hk k' hk' _ _ e' => ?_, h.blk, h.clean, h.room⟩, rfl⟩
  · show k ∈ I' ↔ k ∈ s.A ∧ idleE (s.U k) = true
    rw [show (k ∈ I' ↔ _) from hr.mem k]
    by_cases e : k = a
    · subst e
      constructor
      · rintro (⟨_, h1⟩ | ⟨_, h1⟩)
        · exact absurd rfl h1
        · exact ⟨ha, h1⟩
      · rintro ⟨_, h1⟩; exact .inr ⟨rfl, h1⟩
    · rw [← h.idle k e]
      constructor
      · rintro (⟨h1, _⟩ | ⟨h1, _⟩)
        · exact h1
        · exact absurd h1 e
      · intro h1; exact .inl ⟨h1, e⟩
  · by_cases e : k = a
    · rw [e]; exact hu
    · exact h.used k hk e
  · by_cases e : k = a
    · by_cases e3 : k' = a
      · rw [e, e3]
      · subst e; exact absurd (show (s.U k').used = (s.U k).used from e'.symm) (hj k' hk' e3)
    · by_cases e3 : k' = a
      · subst e3; exact absurd e' (hj k hk e)
      · exact h.uinj k hk k' hk' e e3 e'

def AC.unpin (A : AC) (b : Nat) : AC := { A with L := A.L.map fun x => if x.block = b then { x with pins := x.pins - 1 } else x }

set_option maxRecDepth 8000 in
set_option maxHeartbeats 1000000 in
theorem unpin_ok (s : CS) (vs : VS) (B : Nat → By) (a b : Nat) (w : World) (h : CI w s vs B) (hz : CB s b) (ha : a ∈ s.A) (hp : 0 < (s.U a).pins) (hp2 : (s.U a).pins < 1000000) :
    Calls Tryz.prog 11 #[ep s.c, .int .i64 ((s.U a).block : Nat)] w fun e w' => e = .returned (.int .i64 0) ∧ ∃ s', Cst w w' s s' vs B b ∧ acOf s' B = (acOf s B).unpin (s.U a).block := by
  have c2 : w.cell? ⟨s.c, 2, none⟩ = some (.map (some s.h)) := by rw [cellOf h.cm.hp.cell 2]; rfl
  have l1 := h.cm.hm.look_yes ha
  obtain ⟨x, hE⟩ := h.cm.entAny ha
  have d2 : w.cell? ⟨a, 2, none⟩ = some (.int .i64 ((s.U a).pins : Nat)) := by rw [cellOf hE 2]; rfl
  have f2 := frozenOf hE 2
  have hp0 : ((((s.U a).pins : Nat) : Int) == 0) = false := by rw [beq_eq_false_iff_ne]; omega
  obtain ⟨z, hzz, e1⟩ : ∃ z : Int, (((s.U a).pins - 1 : Nat) : Int) = z ∧ (((s.U a).pins : Nat) : Int) - 1 = z := ⟨_, rfl, by omega⟩
  have hw := h.weak a
  have cm2 := h.cm.setE ha 2 (.int .i64 (((s.U a).pins - 1 : Nat) : Int)) { s.U a with pins := (s.U a).pins - 1 } (fun _ => rfl) rfl (h.cm.hp.used a)
  have mE : cMine w s.h a := h.cm.mineE ha
  have hB2 : But (cMine w s.h) w (w.setCell ⟨a, 2, none⟩ (.int .i64 (((s.U a).pins - 1 : Nat) : Int))) := (But.refl (cMine w s.h) w).setCell _ mE _
  have hdat := (h.keep hB2).2 _ _ (h.dat a ha)
  have cx2 := cx_setE hw { s.U a with pins := (s.U a).pins - 1 } (B a) s.D s.dq s.dcap cm2 hB2 ha rfl hdat (.inl ⟨rfl, rfl⟩) (fun _ => rfl)
  have eB : (fun k => if k = a then B a else B k) = B := by funext k; split <;> simp_all
  have htab := touched_abs (B := B) h.cm ha { s.U a with pins := (s.U a).pins - 1 } (B a) (fun x => { x with pins := x.pins - 1 }) rfl
  rw [eB] at cx2 htab
  have hil := cx2.ilen
  have cR := rank_any _ a _ cx2.cm ha (cx2.hx a rfl) (by omega)
  have hU2 : ∀ w' s', Rk (w.setCell ⟨a, 2, none⟩ (.int .i64 (((s.U a).pins - 1 : Nat) : Int))) w' { s with U := updU s.U a { s.U a with pins := (s.U a).pins - 1 } } s' a → CI w' s' vs B ∧ acOf s' B = acOf { s with U := updU s.U a { s.U a with pins := (s.U a).pins - 1 } } B := fun w' s' hr => by
    refine cx_ranked cx2 ha ?_ (fun k hk hka => ?_) hr
    · show (updU s.U a _ a).used ≤ s.uses
      rw [updU_same]; exact h.used a ha (fun h => h)
    · show (updU s.U a _ k).used ≠ (updU s.U a _ a).used
      rw [updU_same, updU_other _ _ hka]
      exact fun e => hka (h.uinj k hk a ha (fun h => h) (fun h => h) e)
  have H1 : Hid ((∀ w' s', Rk (w.setCell ⟨a, 2, none⟩ (.int .i64 (((s.U a).pins - 1 : Nat) : Int))) w' { s with U := updU s.U a { s.U a with pins := (s.U a).pins - 1 } } s' a → CI w' s' vs B ∧ acOf s' B = acOf { s with U := updU s.U a { s.U a with pins := (s.U a).pins - 1 } } B) ∧ But (cMine w s.h) w (w.setCell ⟨a, 2, none⟩ (.int .i64 (((s.U a).pins - 1 : Nat) : Int))) ∧ s.A.map (heOf (updU s.U a { s.U a with pins := (s.U a).pins - 1 }) B) = (acOf s B).L.map fun x => if x.block = (s.U a).block then { x with pins := x.pins - 1 } else x) := ⟨hU2, hB2, htab⟩
  rw [hzz] at cR H1
  clear hzz hE cm2 mE hB2 hdat cx2 eB htab hU2 hw h hil
  go_enter Tryz.func11, Tryz.ntmps11
  go_wp2_with (go_at_call 31; refine cR.mono ?_; rintro e w2 ⟨rfl, s2, hR2⟩; clear cR)
  go_ret
  obtain ⟨hU2, hB2, htab⟩ := H1.out
  obtain ⟨hI2, hac⟩ := hU2 w2 s2 hR2
  obtain ⟨ip, icap, I', he2⟩ := hR2.eq
  refine ⟨rfl, s2, ⟨hI2, ?_, by rw [he2], by rw [he2], cMine_trans hB2 hR2.but⟩, ?_⟩
  · obtain ⟨q1, q2, q3, q4, q5⟩ := hz
    rw [he2]
    exact ⟨by show s.nh ≤ _; omega, by show s.uses ≤ _; omega, by show s.met ≤ _; omega, by show s.missed ≤ _; omega, by show s.out ≤ _; omega⟩
  · rw [hac]
    unfold acOf AC.unpin
    simp only
    rw [htab]
    rfl

set_option maxRecDepth 8000 in
set_option maxHeartbeats 1000000 in
theorem unpin_zero (s : CS) (vs : VS) (B : Nat → By) (a : Nat) (w : World) (h : CI w s vs B) (ha : a ∈ s.A) (hp : (s.U a).pins = 0) :
    Calls Tryz.prog 11 #[ep s.c, .int .i64 ((s.U a).block : Nat)] w fun e w' => e = .returned (.int .i64 22) ∧ w' = w := by
  have c2 : w.cell? ⟨s.c, 2, none⟩ = some (.map (some s.h)) := by rw [cellOf h.cm.hp.cell 2]; rfl
  have l1 := h.cm.hm.look_yes ha
  obtain ⟨x, hE⟩ := h.cm.entAny ha
  have d2 : w.cell? ⟨a, 2, none⟩ = some (.int .i64 0) := by rw [cellOf hE 2]; show some (Value.int .i64 ((s.U a).pins : Nat)) = _; rw [hp]; rfl
  clear h hE
  go_enter Tryz.func11, Tryz.ntmps11
  go_wp2
  go_ret
  exact ⟨rfl, rfl⟩
set_option maxRecDepth 8000 in
set_option maxHeartbeats 1000000 in
theorem unpin_no (s : CS) (vs : VS) (B : Nat → By) (x : Int) (w : World) (h : CI w s vs B) (h1 : -9223372036854775808 ≤ x) (h2 : x < 9223372036854775808) (hx : ∀ a ∈ s.A, ((s.U a).block : Int) ≠ x) :
    Calls Tryz.prog 11 #[ep s.c, .int .i64 x] w fun e w' => e = .returned (.int .i64 22) ∧ w' = w := by
  have c2 : w.cell? ⟨s.c, 2, none⟩ = some (.map (some s.h)) := by rw [cellOf h.cm.hp.cell 2]; rfl
  have l1 := h.cm.hm.look_no h1 h2 hx
  clear h
  go_enter Tryz.func11, Tryz.ntmps11
  go_wp2
  go_ret
  exact ⟨rfl, rfl⟩
set_option maxRecDepth 8000 in
set_option maxHeartbeats 1000000 in
theorem has_cache (s : CS) (vs : VS) (B : Nat → By) (x : Int) (w : World) (h : CI w s vs B) (h1 : -9223372036854775808 ≤ x) (h2 : x < 9223372036854775808) (r : Bool) (hr : (decide (0 ≤ x) && (acOf s B).held x.toNat) = r) :
    Calls Tryz.prog 23 #[ep s.c, .int .i64 x] w fun e w' => e = .returned (.bool r) ∧ w' = w := by
  have c2 : w.cell? ⟨s.c, 2, none⟩ = some (.map (some s.h)) := by rw [cellOf h.cm.hp.cell 2]; rfl
  subst hr
  by_cases hx : ∃ a ∈ s.A, ((s.U a).block : Int) = x
  · obtain ⟨a, ha, rfl⟩ := hx
    have l1 := h.cm.hm.look_yes ha
    have hh : (acOf s B).held (s.U a).block = true := held_iff.2 ⟨a, ha, rfl⟩
    clear h
    go_enter Tryz.func23, Tryz.ntmps23
    go_wp2
    go_ret
    refine ⟨?_, rfl⟩
    rw [Int.toNat_natCast, hh]
    simp
  · have l1 := h.cm.hm.look_no h1 h2 (fun a ha e => hx ⟨a, ha, e⟩)
    have hh : (decide (0 ≤ x) && (acOf s B).held x.toNat) = false := by
      by_cases h0 : 0 ≤ x
      · have : (acOf s B).held x.toNat = false := by
          cases hc : (acOf s B).held x.toNat with
          | false => rfl
          | true =>
            obtain ⟨a, ha, e⟩ := held_iff.1 hc
            exact absurd ⟨a, ha, by omega⟩ hx
        rw [this]; simp
      · simp [h0]
    rw [hh]
    clear h hh hx
    go_enter Tryz.func23, Tryz.ntmps23
    go_wp2
    go_ret
    exact ⟨rfl, rfl⟩
set_option maxRecDepth 8000 in
set_option maxHeartbeats 1000000 in
theorem counts_cache (s : CS) (vs : VS) (B : Nat → By) (w : World) (h : CI w s vs B) :
    Calls Tryz.prog 22 #[ep s.c] w fun e w' => e = .returned (.tuple #[.int .i64 (s.met : Nat), .int .i64 (s.missed : Nat), .int .i64 (s.out : Nat)]) ∧ ∃ q, w' = w.drewN q := by
  have c6 : w.cell? ⟨s.c, 6, none⟩ = some (.int .i64 (s.met : Nat)) := by rw [cellOf h.cm.hp.cell 6]; rfl
  have c7 : w.cell? ⟨s.c, 7, none⟩ = some (.int .i64 (s.missed : Nat)) := by rw [cellOf h.cm.hp.cell 7]; rfl
  have c8 : w.cell? ⟨s.c, 8, none⟩ = some (.int .i64 (s.out : Nat)) := by rw [cellOf h.cm.hp.cell 8]; rfl
  clear h
  go_enter Tryz.func22, Tryz.ntmps22
  go_wp2_with fail
  first
    | (go_quiet (fail); go_wp2; go_ret3; exact ⟨rfl, _, rfl⟩)
    | (go_ret3; exact ⟨rfl, 0, rfl⟩)

end Go.Proofs.YtlcojcldbdikgaaGreatDoor

/-
  is of the law: a volume is these blocks.
-/
namespace Go.Proofs.YtlcojcldbdikgaaGreatDoor
open Go.RowKit Go.Maps Go.Sort Go.Shelf

/-- A slice of blocks of bytes. -/
def RowsAt (w : World) (p : Option Addr) (n : Nat) (bs : Nat → By) : Prop :=
  0 < n → ∃ g o, p = some ⟨g, o, none⟩ ∧ (∃ cs fr, w.heap[g]? = some (.cells cs 33 fr)) ∧ ∀ i, i < n → ∃ gi oi ci, w.cell? ⟨g, o + i, none⟩ = some (.slice (some ⟨gi, oi, none⟩) 512 ci) ∧ Bytes w (some ⟨gi, oi, none⟩) (bs i) ∧ (bs i).length = 512 ∧ ∃ cs fr, w.heap[gi]? = some (.cells cs 5 fr)

theorem RowsAt.but {w w' : World} {p : Option Addr} {n : Nat} {bs : Nat → By} (h : RowsAt w p n bs) {S : Nat → Prop} (hb : But S w w') (hS : ∀ k cs t fr, w.heap[k]? = some (.cells cs t fr) → t = 5 ∨ t = 33 → ¬ S k) : RowsAt w' p n bs := by
  intro hn
  obtain ⟨g, o, e, ⟨cs, fr, hg⟩, hrow⟩ := h hn
  have key : ∀ (k : Nat) cs t fr, w.heap[k]? = some (.cells cs t fr) → t = 5 ∨ t = 33 → w'.heap[k]? = w.heap[k]? := fun k cs t fr hk ht => hb.block k (Array.getElem?_eq_some_iff.1 hk).1 (hS k cs t fr hk ht)
  have kg := key g cs _ fr hg (.inr rfl)
  refine ⟨g, o, e, ⟨cs, fr, kg.trans hg⟩, fun i hi => ?_⟩
  obtain ⟨gi, oi, ci, hc, hbi, hl, cs', fr', hgi⟩ := hrow i hi
  have ki := key gi cs' _ fr' hgi (.inl rfl)
  refine ⟨gi, oi, ci, (World.cell?_of_block (w := w) kg).trans hc, fun hp => ?_, hl, cs', fr', ki.trans hgi⟩
  obtain ⟨b, o', e', hx⟩ := hbi hp
  cases e'
  exact ⟨gi, oi, rfl, fun j x hj => (World.cell?_of_block (w := w) ki).trans (hx j x hj)⟩
theorem RowsAt.below {w w' : World} {p : Option Addr} {n : Nat} {bs : Nat → By} (h : RowsAt w p n bs) (hb : Below w.heap.size w w') : RowsAt w' p n bs :=
  h.but (S := fun _ => False) (But.of_below hb) (fun _ _ _ _ _ _ h => h)

end Go.Proofs.YtlcojcldbdikgaaGreatDoor

/-
  fresh of the law: a device with a volume of zeros, and its model.
-/
namespace Go.Proofs.YtlcojcldbdikgaaGreatDoor
open Go.RowKit Go.Maps Go.Sort Go.Shelf

theorem Tryz.info33 : (Tryz.prog.info? 33).map (fun i => (i.zero, i.size, i.bytes)) = some (some (.slice none 0 0), 1, 24) := by kernel_rfl

/-- Rows of zeros, each in a block of its own, in a slice that the call has made. -/
structure ROwn (W : World) (base : Nat) (v : Value) (gs : List Nat) : Prop where
  own : W.ownsRow base 33 1 v gs.length (gs.map fun g => Value.slice (some ⟨g, 0, none⟩) 512 512)
  blk : ∀ g ∈ gs, W.heap[g]? = some (.cells (zeroB.map u8v).toArray 5 (0, 0))

theorem ROwn.rows {W : World} {base : Nat} {v : Value} {gs : List Nat} (h : ROwn W base v gs) (hp : 0 < gs.length) : ∃ p c, v = .slice p gs.length c ∧ RowsAt W p gs.length (fun _ => zeroB) := by
  rcases h.own.2 with ⟨e, h0⟩ | ⟨g, cap, cur, rfl, hg, hblk, hcap, _⟩
  · omega
  · refine ⟨_, cap, rfl, fun _ => ⟨g, 0, rfl, ⟨_, _, hblk⟩, fun i hi => ?_⟩⟩
    have hc := h.own.cellAt i (by simpa using hi)
    rw [List.getElem?_map, List.getElem?_eq_getElem hi] at hc
    have hb := h.blk gs[i] (List.getElem_mem hi)
    refine ⟨gs[i], 0, 512, ?_, bytes_block hb, zeroB_length, _, _, hb⟩
    rw [Nat.zero_add]
    simpa using hc

theorem own_belowT {W W' : World} {base : Nat} {e : TypeId} {size : Nat} {v : Value} {n : Nat} {xs : List Value} (h : W.ownsRow base e size v n xs) (hB : Below W.heap.size W W') : W'.ownsRow base e size v n xs := by
  refine ⟨h.1, ?_⟩
  rcases h.2 with h0 | ⟨g, cap, cur, hv, hg, hblk, r⟩
  · exact .inl h0
  · exact .inr ⟨g, cap, cur, hv, hg, (hB.block g (Array.getElem?_eq_some_iff.1 hblk).1).trans hblk, r⟩

theorem cell_ne_tag {W : World} {g g' : Nat} {cs cs' : Array Value} {t t' : TypeId} {fr fr' : Nat × Nat} (h : W.heap[g]? = some (.cells cs t fr)) (h' : W.heap[g']? = some (.cells cs' t' fr')) (ht : t ≠ t') : g ≠ g' := by
  rintro rfl
  rw [h] at h'
  simp only [Option.some.injEq, Obj.cells.injEq] at h'
  exact ht h'.2.1

/-- One row more. -/
theorem ROwn.snoc {W w1 W' : World} {base : Nat} {v v' : Value} {gs : List Nat} (h : ROwn W base v gs) (hb1 : Below W.heap.size W w1) (hz : w1.heap[W.heap.size]? = some (.cells (zeroB.map u8v).toArray 5 (0, 0)))
    (hown : W'.ownsRow base 33 1 v' (gs.length + 1) ((gs.map fun g => Value.slice (some ⟨g, 0, none⟩) 512 512) ++ [Value.slice (some ⟨W.heap.size, 0, none⟩) 512 512])) (hg : (w1.alloc (.cells #[Value.slice (some ⟨W.heap.size, 0, none⟩) 512 512] 33)).grownBy W' v.ownBlock) : ROwn W' base v' (gs ++ [W.heap.size]) := by
  refine ⟨by simpa using hown, fun g hgm => ?_⟩
  have keep : ∀ g : Nat, w1.heap[g]? = some (Obj.cells (zeroB.map u8v).toArray 5 (0, 0)) → W'.heap[g]? = some (Obj.cells (zeroB.map u8v).toArray 5 (0, 0)) := by
    intro g hx
    have hlt := (Array.getElem?_eq_some_iff.1 hx).1
    refine (hg.block g (by simp; omega) (fun e => ?_)).trans ((Below.heap_alloc _ _ g hlt).trans hx)
    rcases h.own.2 with ⟨rfl, _⟩ | ⟨g0, cap, cur, rfl, _, hblk, _⟩
    · simp [Value.ownBlock] at e
    · have e' : g = g0 := by simpa [Value.ownBlock] using e
      exact cell_ne_tag hx (below_block hblk hb1) (by decide) e'
  rcases List.mem_append.1 hgm with hm | hm
  · exact keep g (below_block (h.blk g hm) hb1)
  · rw [List.mem_singleton.1 hm]; exact keep _ hz

/-- A volume of zeros that is just mounted. -/
theorem zero_log (v f nf n : Nat) (F : DataW Value) (d : DS) (hn : d.n = n) (h16 : 16 ≤ n) (hb0 : d.B 0 = headB 1 0 n) (hz : ∀ i, 0 < i → i < n → d.B i = zeroB) : Log ⟨v, f, nf, 0, 1, d.n, F, fun _ => none, d, []⟩ := by
  have hle : 1 + nbOf d.n ≤ d.n := by unfold nbOf; omega
  refine ⟨rfl, fun _ _ => rfl, Nat.le_refl _, by rw [hn]; exact hb0, ⟨hle, fun hlt => ?_⟩, .inl rfl, fun j hj hj' => ?_, fun j hj hj' => ?_⟩
  · show OldB 1 (d.B (1 + nbOf d.n))
    rw [hz _ (by omega) (by have : 1 + nbOf d.n < d.n := hlt; omega)]; exact oldB_zero _
  · show OldB 2 (d.B j)
    have h1 : 1 + nbOf d.n ≤ j := hj
    have h2 : j < d.n := hj'
    rw [hz j (by omega) (by omega)]; exact oldB_zero _
  · show OldB 1 (d.B j)
    have h1 : 1 + nbOf d.n ≤ j := hj
    have h2 : j < d.n := hj'
    rw [hz j (by omega) (by omega)]; exact oldB_zero _

end Go.Proofs.YtlcojcldbdikgaaGreatDoor

/-
  What WalWhole lays in memory: a block of bytes over and over; a row of puts.
-/
namespace Go.Proofs.YtlcojcldbdikgaaGreatDoor
open Go.RowKit Go.Maps Go.Sort Go.Shelf

/-- n bytes of some bytes, over and over. -/
def fullB (bs : By) (n : Nat) : By := (List.range n).map fun i => (bs[i % bs.length]?).getD 0
theorem fullB_length (bs : By) (n : Nat) : (fullB bs n).length = n := by simp [fullB]

theorem full_bytes (bs : By) (bp : Option Addr) (bc n : Nat) (w : World) (hn : n ≤ 70000) (hbl : bs.length < 9223372036854775808) (hb : Bytes w bp bs) :
    Calls Tryz.prog 13 #[.slice bp bs.length bc, .int .i64 n] w fun e w' => e = .returned (.slice (some ⟨w.heap.size, 0, none⟩) n n) ∧
      w'.heap[w.heap.size]? = some (.cells ((fullB bs n).map u8v).toArray 5 (0, 0)) ∧ Below w.heap.size w w' := by
  have hl : (bs.map fun b => (b.toNat : Int)).length = bs.length := by simp
  have := full_any (bs.map fun b => (b.toNat : Int)) bp bc n w hn (by rw [hl]; exact hbl) (fun hp => by
    rw [hl] at hp
    obtain ⟨bb, bo, e, hx⟩ := hb hp
    refine ⟨bb, bo, e, fun j x hj => ?_⟩
    rw [List.getElem?_map] at hj
    obtain ⟨y, hy, rfl⟩ := Option.map_eq_some_iff.1 hj
    exact hx j y hy)
  rw [hl] at this
  refine this.mono ?_
  rintro e w' ⟨rfl, h1, h2⟩
  refine ⟨rfl, ?_, h2⟩
  rw [h1]
  have : (full (bs.map fun b => (b.toNat : Int)) n).map u8 = (fullB bs n).map u8v := by
    unfold full fullB
    rw [List.map_map, List.map_map]
    refine List.map_congr_left (fun i _ => ?_)
    simp only [Function.comp, List.length_map, List.getElem?_map]
    cases bs[i % bs.length]? with
    | none => rfl
    | some b => rfl
  rw [this]

/-- A row of puts that the call has made. -/
theorem puts_of_own {W : World} {base : Nat} {v : Value} {n : Nat} {f : Nat → PutM} (hown : W.ownsRow base 77 2 v n (((List.range n).map fun k => putCells (f k)).flatten)) (hn : 0 < n)
    (hd : ∀ k, k < n → (f k).bytes.length ≤ (f k).cap ∧ Bytes W (f k).at_ (f k).bytes ∧ ∀ b o, (f k).at_ = some ⟨b, o, none⟩ → ∃ cs fr, W.heap[b]? = some (.cells cs 5 fr)) :
    ∃ p c, v = .slice p n c ∧ PutsAt W p ((List.range n).map f) := by
  rcases hown.2 with ⟨e, h0⟩ | ⟨g, cap, cur, rfl, hg, hblk, hcap, _⟩
  · omega
  · have hget : ∀ j x, ((List.range n).map f)[j]? = some x → j < n ∧ x = f j := by
      intro j x hj
      have hlt := (List.getElem?_eq_some_iff.1 hj).1
      rw [List.length_map, List.length_range] at hlt
      rw [List.getElem?_map, List.getElem?_range hlt] at hj
      exact ⟨hlt, (Option.some.inj hj).symm⟩
    refine ⟨_, cap, rfl, fun _ => ⟨g, 0, rfl, ⟨_, _, hblk⟩, fun j x hj => ?_⟩, fun j x hj => ?_⟩
    · obtain ⟨hlt, rfl⟩ := hget j x hj
      have hll : (((List.range n).map fun k => putCells (f k)).flatten).length = n * 2 := hown.1
      have c0 := hown.cellAt (j * 2 + 0) (by omega)
      have c1 := hown.cellAt (j * 2 + 1) (by omega)
      rw [flat_get f n j hlt 0 (by omega)] at c0
      rw [flat_get f n j hlt 1 (by omega)] at c1
      refine ⟨?_, ?_⟩
      · rw [Nat.zero_add]; simpa [putCells] using c0
      · rw [Nat.zero_add]; simpa [putCells] using c1
    · obtain ⟨hlt, rfl⟩ := hget j x hj
      exact hd j hlt

end Go.Proofs.YtlcojcldbdikgaaGreatDoor

/-
  Put of package bcache.
-/
namespace Go.Proofs.YtlcojcldbdikgaaGreatDoor
open Go.RowKit Go.Maps Go.Sort Go.Shelf

/-- One more at the end of the row of what is dirty. -/
theorem cm_dirty {w w1 : World} {s : CS} {a : Nat} {p' : Option Addr} {cap' : Nat} {o : Obj} (h : CM w s)
    (hown : w1.ownsRow 0 58 1 (.slice p' (s.D.length + 1) cap') (s.D.length + 1) (s.D.map ep ++ [ep a])) (hg : (w.alloc o).grownBy w1 (Value.slice s.dq s.D.length s.dcap).ownBlock)
    (hpl : (Value.slice p' (s.D.length + 1) cap').ownBlock = (Value.slice s.dq s.D.length s.dcap).ownBlock ∨ (Value.slice p' (s.D.length + 1) cap').ownBlock = some (w.heap.size + 1)) :
    w1.heap[s.c]? = some (.cells (s.ck.cells (.slice s.ip s.I.length s.icap)) 57 (0, 0)) ∧ CM (w1.setCell ⟨s.c, 3, none⟩ (.slice p' (s.D.length + 1) cap')) { s with D := s.D ++ [a], dq := p', dcap := cap' } ∧ But (cMine w s.h) w (w1.setCell ⟨s.c, 3, none⟩ (.slice p' (s.D.length + 1) cap')) := by
  have hl : (s.D ++ [a]).length = s.D.length + 1 := by simp
  have row2 := own0_alloc h.row o
  have dqb : ∀ g, (Value.slice s.dq s.D.length s.dcap).ownBlock = some g → s.dq.map Addr.block = some g := fun g hg => by
    cases hq : s.dq with
    | none => rw [hq] at hg; simp [Value.ownBlock] at hg
    | some a' => rw [hq] at hg; simpa [Value.ownBlock] using hg
  have keep : ∀ (k : Nat) ob, w.heap[k]? = some ob → (∀ cs t fr, ob = .cells cs t fr → t = 58 → s.dq.map Addr.block ≠ some k) → (s.dq.map Addr.block = some k → ∃ cs t fr, ob = .cells cs t fr) → w1.heap[k]? = some ob := by
    intro k ob hk ht hcell
    have hk2 : (w.alloc o).heap[k]? = some ob := (Below.heap_alloc _ o k (Array.getElem?_eq_some_iff.1 hk).1).trans hk
    refine (hg.block k (Array.getElem?_eq_some_iff.1 hk2).1 (fun e => ?_)).trans hk2
    have e1 := dqb k e.symm
    obtain ⟨cs, t, fr, rfl⟩ := hcell e1
    exact ht cs t fr rfl (own_tagT row2 e.symm hk2) e1
  have keepC : ∀ (k : Nat) cs t, w.heap[k]? = some (.cells cs t (0, 0)) → t ≠ 58 → w1.heap[k]? = some (.cells cs t (0, 0)) := fun k cs t hk ht => keep k _ hk (fun _ _ _ e h2 => by cases e; exact absurd h2 ht) (fun _ => ⟨_, _, _, rfl⟩)
  have hc1 := keepC s.c _ _ h.hp.cell (by decide)
  have hne : ∀ {k : Nat} {cs : Array Value} {t : TypeId}, w1.heap[k]? = some (.cells cs t (0, 0)) → t ≠ 57 → k ≠ s.c := fun hk ht => apart_tags hk hc1 ht
  have setk : ∀ {k : Nat} {cs : Array Value} {t : TypeId}, w1.heap[k]? = some (.cells cs t (0, 0)) → t ≠ 57 → (w1.setCell ⟨s.c, 3, none⟩ (.slice p' (s.D.length + 1) cap')).heap[k]? = some (.cells cs t (0, 0)) := fun hk ht => (heap_setCell_other _ _ _ _ (hne hk ht)).trans hk
  have ent : ∀ {k : Nat} {e : EV} {x : Int}, IsEnt w k e x → IsEnt (w1.setCell ⟨s.c, 3, none⟩ (.slice p' (s.D.length + 1) cap')) k e x := fun hk => setk (keepC _ _ _ hk (by decide)) (by decide)
  have mC : cMine w s.h s.c := h.mineC
  refine ⟨hc1, ⟨⟨?_, ?_, fun k hk => ent (h.hp.ents k hk), h.hp.nodup, h.hp.len, h.hp.used⟩, fun k hk hi => ent (h.rest k hk hi), h.sub, ?_, ?_, fun k hk => ?_, h.lo.1, h.lo.2.1, h.lo.2.2.1, fun k hk => ?_⟩, ?_⟩
  · show (w1.setCell ⟨s.c, 3, none⟩ _).heap[s.c]? = _
    rw [heap_setCell_same _ s.c 3 _ _ _ hc1]
    unfold CS.ck CK.cells
    simp only [hl]
    rfl
  · refine ⟨h.hp.row.1, ?_⟩
    rcases h.hp.row.2 with h0 | ⟨g, cap, cur, hv, hb, hblk, r⟩
    · exact .inl h0
    · refine .inr ⟨g, cap, cur, hv, hb, setk (keep g _ hblk (fun _ _ _ _ _ e => ?_) (fun _ => ⟨_, _, _, rfl⟩)) (by decide), r⟩
      refine h.apart g e ?_
      have hv' : s.ip = some ⟨g, 0, none⟩ := by injection hv
      rw [hv']
      rfl
  · have hlt := h.hm.own.lt
    obtain ⟨es, clock, he, r⟩ := h.hm.own
    have hk1 : w1.heap[s.h]? = some (.map es clock) := keep s.h _ he (fun _ _ _ e _ => by cases e) (fun e => by
      obtain ⟨cs, hc⟩ := dq_tag h e
      rw [he] at hc; cases hc)
    refine ⟨⟨es, clock, (heap_setCell_other _ _ _ _ (fun e => ?_)).trans hk1, r⟩, h.hm.has, h.hm.val, h.hm.inj, h.hm.nodup, h.hm.small, h.hm.size⟩
    have e' : s.h = s.c := e
    exact h.hne h.hp.cell e'
  · rw [hl, List.map_append]
    exact own0_set hown hc1 (by decide) _ _
  · intro e
    obtain ⟨cs, hc⟩ := ip_tag h e
    have hklt := (Array.getElem?_eq_some_iff.1 hc).1
    have hk' : (Value.slice p' (s.D.length + 1) cap').ownBlock = some k := by
      have hk0 : p'.map Addr.block = some k := hk
      rcases hown.2 with ⟨e1, _⟩ | ⟨g, cap, cur, e1, _⟩
      · cases e1
      · cases e1; cases hk0; rfl
    rcases hpl with h1 | h1
    · rw [hk'] at h1
      exact h.apart k (dqb k h1.symm) e
    · rw [hk'] at h1
      have := Option.some.inj h1
      omega
  · have hk' : (Value.slice p' (s.D.length + 1) cap').ownBlock = some k := by
      have hk0 : p'.map Addr.block = some k := hk
      rcases hown.2 with ⟨e1, _⟩ | ⟨g, cap, cur, e1, _⟩
      · cases e1
      · cases e1; cases hk0; rfl
    rcases hpl with h1 | h1
    · rw [hk'] at h1
      exact h.lo.2.2.2 k (dqb k h1.symm)
    · rw [hk'] at h1
      have := Option.some.inj h1
      have := h.hm.own.lt
      show s.h < k
      omega
  · refine (((But.refl (cMine w s.h) w).alloc o).trans (But.of_grown hg fun k e => ?_)).setCell _ mC _
    obtain ⟨cs, hc⟩ := dq_tag h (dqb k e)
    exact .inr ⟨Nat.le_of_lt (h.lo.2.2.2 k (dqb k e)), _, _, _, hc, .inr (.inl rfl)⟩

/-- What Put's end needs: the entry's state with its new bytes, dirty. -/
def PutFin (w1 : World) (s1 : CS) (a : Nat) (vs : VS) (bs : By) (D' : CS → List Nat) (A2 : AC) : Prop :=
  ∀ w2 e dq dcap, e.block = (s1.U a).block → e.pins = (s1.U a).pins → e.used = (s1.U a).used → e.dirty = true → CM w2 { s1 with U := updU s1.U a e, D := D' s1, dq := dq, dcap := dcap } → But (cMine w1 s1.h) w1 w2 → DatAt w2 e bs →
    ∃ B', CX (fun k => k = a) w2 { s1 with U := updU s1.U a e, D := D' s1, dq := dq, dcap := dcap } vs B' ∧ acOf { s1 with U := updU s1.U a e, D := D' s1, dq := dq, dcap := dcap } B' = A2

theorem Tryz.infoPE : (Tryz.prog.info? 58).map (fun i => (i.zero, i.size, i.bytes)) = some (some (.pointer none), 1, 8) := by kernel_rfl

set_option maxRecDepth 8000 in
set_option maxHeartbeats 2000000 in
/-- Put of a block whose entry is not dirty. -/
theorem put_clean (s : CS) (vs : VS) (B : Nat → By) (block b : Nat) (q : Option Addr) (c : Nat) (bs : By) (A2 : AC) (w : World) (h : CI w s vs B) (hb : block < nbOf vs.d.n) (hbs : Bytes w q bs) (hbl : bs.length = 512) (hbz : b < 800000) (htag : ∀ g o, q = some ⟨g, o, none⟩ → ∃ cs fr, w.heap[g]? = some (.cells cs 5 fr))
    (cH : Calls Tryz.prog 34 #[ep s.c, .int .i64 (block : Nat)] w fun e w1 => ∃ a, e = .returned (.tuple #[ep a, .int .i64 0]) ∧ ∃ s1, Hid (CM w1 s1 ∧ s1.c = s.c ∧ s1.h = s.h ∧ a ∈ s1.A ∧ (s1.U a).block = block ∧ (s1.U a).dirty = false ∧ CB s1 (b + 1) ∧ s1.uses ≤ b ∧ s1.D.length < 100000 ∧ But (cMine w s.h) w w1 ∧ PutFin w1 s1 a vs bs (fun s => s.D ++ [a]) A2)) :
    Calls Tryz.prog 14 #[ep s.c, .int .i64 (block : Nat), .slice q 512 c] w fun e w' => e = .returned (.int .i64 0) ∧ ∃ s' B', Cst w w' s s' vs B' b ∧ acOf s' B' = A2.touch block id := by
  have hnb := h.nb
  have c0 : w.cell? ⟨s.c, 0, none⟩ = some (dp vs.v) := by rw [cellOf h.cm.hp.cell 0, ← h.vv]; rfl
  have cB := vBlocks vs.v vs.commits vs.turn vs.next (some vs.f) vs.d.count vs.d w h.vi.vol h.vi.dev h.vi.n16
  have i1 : ¬ ((block : Nat) : Int) < 0 := by omega
  have i2 : ¬ ((block : Nat) : Int) ≥ ((nbOf vs.d.n : Nat) : Int) := by omega
  obtain ⟨k0, hk0, hx0, hx1, hx2⟩ := info_parts Tryz.infoPE
  have hC5 : Hid (∀ k cs fr, w.heap[k]? = some (.cells cs 5 fr) → ¬ cMine w s.h k) := fun k cs fr hk => h.noMine.2 k cs 5 fr hk (.inl rfl)
  obtain ⟨gq, oq, hq, hqx⟩ := hbs (by omega)
  subst hq
  have htg := htag gq oq rfl
  have HB : Hid (Bytes w (some ⟨gq, oq, none⟩) bs ∧ ∃ cs fr, w.heap[gq]? = some (.cells cs 5 fr)) := ⟨hbs, htg⟩
  clear h hbs hqx htag htg
  go_enter Tryz.func14, Tryz.ntmps14
  go_wp2_with (first
    | (go_at_call 33; refine Calls_on cB ?_)
    | (go_at_call 34; refine cH.mono ?_; rintro e w1 ⟨a, rfl, s1, HQ⟩; clear cH; refine Stop.out ?_))
  refine Stop.mk ?_
  have hbs1 : Bytes w1 (some ⟨gq, oq, none⟩) bs := by
    obtain ⟨hb1, cs, fr, ht⟩ := HB.out
    have hk := HQ.out.2.2.2.2.2.2.2.2.2.1.block gq (Array.getElem?_eq_some_iff.1 ht).1 (hC5.out gq cs fr ht)
    intro hp
    obtain ⟨g', o', e, hx⟩ := hb1 hp
    cases e
    exact ⟨gq, oq, rfl, fun j x hj => (World.cell?_of_block (w := w) hk).trans (hx j x hj)⟩
  have cl := clone_bytes gq oq bs c w1 hbs1 (by omega) (by omega)
  rw [hbl] at cl
  clear hbs1
  go_wp2_with (go_at_call 29; refine cl.mono ?_; rintro e w2 ⟨g, cp, rfl, hg2, hcp2, hb2, hB2, ht2⟩; clear cl; refine Stop.out ?_)
  refine Stop.mk ?_
  obtain ⟨cm1, hc1, hh1, ha1, hblk1, hd1, hcb1, hus1, hDl1, hB1, hfin⟩ := HQ.out
  have cm2 := cm1.below hB2
  obtain ⟨x, hE⟩ := cm2.entAny ha1
  have d1 : w2.cell? ⟨a, 1, none⟩ = some (.slice (s1.U a).p (s1.U a).n (s1.U a).cp) := by rw [cellOf hE 1]; rfl
  have f1 := frozenOf hE 1
  have d3 : w2.cell? ⟨a, 3, none⟩ = some (.bool false) := by rw [cellOf hE 3, ← hd1]; rfl
  have f3 := frozenOf hE 3
  have k3 : w2.cell? ⟨s.c, 3, none⟩ = some (.slice s1.dq s1.D.length s1.dcap) := by rw [← hc1, cellOf cm2.hp.cell 3]; rfl
  have ca : s.c ≠ a := by rw [← hc1]; exact apart_tags cm2.hp.cell hE (by decide)
  have ca' := Ne.symm ca
  have cm3 := cm2.setE ha1 1 (.slice (some ⟨g, 0, none⟩) 512 cp) { s1.U a with p := some ⟨g, 0, none⟩, n := 512, cp := cp } (fun _ => rfl) rfl (cm2.hp.used a)
  have cm4 := cm3.setE (a := a) ha1 3 (.bool true) { s1.U a with p := some ⟨g, 0, none⟩, n := 512, cp := cp, dirty := true } (fun x => by show (entCells (updU s1.U a _ a) x).setIfInBounds 3 _ = _; rw [updU_same]; rfl) (by show (s1.U a).block = (updU s1.U a _ a).block; rw [updU_same]) (cm2.hp.used a)
  have eU : updU (updU s1.U a { s1.U a with p := some ⟨g, 0, none⟩, n := 512, cp := cp }) a { s1.U a with p := some ⟨g, 0, none⟩, n := 512, cp := cp, dirty := true } = updU s1.U a { s1.U a with p := some ⟨g, 0, none⟩, n := 512, cp := cp, dirty := true } := by
    funext k; unfold updU; split <;> rfl
  have cm5 : CM ((w2.setCell ⟨a, 1, none⟩ (.slice (some ⟨g, 0, none⟩) 512 cp)).setCell ⟨a, 3, none⟩ (.bool true)) { s1 with U := updU s1.U a { s1.U a with p := some ⟨g, 0, none⟩, n := 512, cp := cp, dirty := true } } := by rw [← eU]; exact cm4
  have mE : cMine w2 s1.h a := cm2.mineE ha1
  have hB5 : But (cMine w1 s1.h) w1 ((w2.setCell ⟨a, 1, none⟩ (.slice (some ⟨g, 0, none⟩) 512 cp)).setCell ⟨a, 3, none⟩ (.bool true)) := cMine_trans (But.of_below hB2) (((But.refl (cMine w2 s1.h) w2).setCell _ mE _).setCell _ mE _)
  have H5 : Hid (CM ((w2.setCell ⟨a, 1, none⟩ (.slice (some ⟨g, 0, none⟩) 512 cp)).setCell ⟨a, 3, none⟩ (.bool true)) { s1 with U := updU s1.U a { s1.U a with p := some ⟨g, 0, none⟩, n := 512, cp := cp, dirty := true } } ∧ But (cMine w1 s1.h) w1 ((w2.setCell ⟨a, 1, none⟩ (.slice (some ⟨g, 0, none⟩) 512 cp)).setCell ⟨a, 3, none⟩ (.bool true)) ∧ (512 ≤ cp ∧ Bytes w2 (some ⟨g, 0, none⟩) bs ∧ ∃ cs fr, w2.heap[g]? = some (.cells cs 5 fr))) := ⟨cm5, hB5, hcp2, hb2, ht2⟩
  have HMine : Hid (cMine w2 s1.h a) := mE
  have HNe : Hid (∀ (cs : Array Value) (t : TypeId) (fr : Nat × Nat), w2.heap[s1.h]? = some (.cells cs t fr) → False) := fun cs t fr hk => cm2.hne hk rfl
  clear cm1 cm2 cm3 cm4 cm5 eU hE mE hB5 hd1 hcb1 hfin hcp2 hb2 ht2 hg2 hB1 hB2 hh1 ha1 hus1 cB c0
  go_wp2_with (at_builtin; refine Stop.out ?_)
  refine Stop.mk ?_
  have hsz : ((w2.setCell ⟨a, 1, none⟩ (.slice (some ⟨g, 0, none⟩) 512 cp)).setCell ⟨a, 3, none⟩ (.bool true)).heap.size = w2.heap.size := by simp
  refine wpList_append_own_at _ rfl _ _ 54 rfl 0 58 k0 (.pointer none) 1 8 Tryz.underlying54 hk0 hx0 hx1 hx2 rfl (by decide) (.slice s1.dq s1.D.length s1.dcap) s1.D.length (s1.D.map ep) rfl (own0_alloc H5.out.1.row _) ⟨w2.heap.size, 0, none⟩ 1 1 [ep a] rfl rfl (by have := cell_one_laid ((w2.setCell ⟨a, 1, none⟩ (.slice (some ⟨g, 0, none⟩) 512 cp)).setCell ⟨a, 3, none⟩ (.bool true)) (ep a) 58; rw [hsz] at this; exact this) (by intro u hu; rw [List.mem_singleton.1 hu]; rfl) (by unfold maxLen; omega) (by omega) (Nat.zero_le _) ?_
  intro v5 w5 hown hg _ hpl
  obtain ⟨p', cap', rfl⟩ := own_slice hown
  have hpl' : (Value.slice p' (s1.D.length + 1) cap').ownBlock = (Value.slice s1.dq s1.D.length s1.dcap).ownBlock ∨ (Value.slice p' (s1.D.length + 1) cap').ownBlock = some (((w2.setCell ⟨a, 1, none⟩ (.slice (some ⟨g, 0, none⟩) 512 cp)).setCell ⟨a, 3, none⟩ (.bool true)).heap.size + 1) := by
    rw [World.size_alloc] at hpl
    exact hpl
  obtain ⟨hcc, cm6, hB6⟩ := cm_dirty (a := a) H5.out.1 hown hg hpl'
  rw [show (CS.c { s1 with U := updU s1.U a { s1.U a with p := some ⟨g, 0, none⟩, n := 512, cp := cp, dirty := true } }) = s1.c from rfl, hc1] at hcc
  have n3 : w5.cell? ⟨s.c, 3, none⟩ = some (.slice s1.dq s1.D.length s1.dcap) := by rw [cellOf hcc 3]; rfl
  have g3 := frozenOf hcc 3
  obtain ⟨cm1, _, hh1, ha1, _, hd1, hcb1, hus1, _, hB1, hfin⟩ := HQ.out
  have hBw : But (cMine w1 s1.h) w1 (w5.setCell ⟨s1.c, 3, none⟩ (.slice p' (s1.D.length + 1) cap')) := cMine_trans H5.out.2.1 hB6
  have hdat : DatAt (w5.setCell ⟨s1.c, 3, none⟩ (.slice p' (s1.D.length + 1) cap')) { s1.U a with p := some ⟨g, 0, none⟩, n := 512, cp := cp, dirty := true } bs := by
    obtain ⟨q1, q2, cs, fr, q3⟩ := H5.out.2.2
    have hw2 : But (fun k => cMine w2 s1.h k) w2 (w5.setCell ⟨s1.c, 3, none⟩ (.slice p' (s1.D.length + 1) cap')) := by
      have e1 : But (cMine w2 s1.h) w2 ((w2.setCell ⟨a, 1, none⟩ (.slice (some ⟨g, 0, none⟩) 512 cp)).setCell ⟨a, 3, none⟩ (.bool true)) := by
        have hE2 := H5.out.1.entAny ha1
        refine ((But.refl (cMine w2 s1.h) w2).setCell ⟨a, 1, none⟩ HMine.out _).setCell ⟨a, 3, none⟩ HMine.out _
      exact cMine_trans e1 hB6
    obtain ⟨k1, k2⟩ := bytes_but q2 ⟨cs, fr, q3⟩ hw2 (fun k cs fr hk hm => by
      rcases hm with rfl | ⟨_, cs', t', fr', hb, ht'⟩
      · exact HNe.out _ _ _ hk
      · rw [hk] at hb
        simp only [Option.some.injEq, Obj.cells.injEq] at hb
        obtain ⟨_, rfl, _⟩ := hb
        rcases ht' with h' | h' | h' <;> exact absurd h' (by decide))
    exact ⟨rfl, hbl, q1, g, rfl, k1, k2⟩
  obtain ⟨B', cx, hac⟩ := hfin _ { s1.U a with p := some ⟨g, 0, none⟩, n := 512, cp := cp, dirty := true } p' cap' rfl rfl rfl rfl cm6 hBw hdat
  have eW : w5.setCell ⟨s1.c, 3, none⟩ (.slice p' (s1.D.length + 1) cap') = w5.setCell ⟨s.c, 3, none⟩ (.slice p' (s1.D.length + 1) cap') := by rw [hc1]
  obtain ⟨S5, hS5⟩ : ∃ S5 : CS, S5 = { s1 with U := updU s1.U a { s1.U a with p := some ⟨g, 0, none⟩, n := 512, cp := cp, dirty := true }, D := s1.D ++ [a], dq := p', dcap := cap' } := ⟨_, rfl⟩
  have cx5 : CX (fun k => k = a) (w5.setCell ⟨s.c, 3, none⟩ (.slice p' (s1.D.length + 1) cap')) S5 vs B' := by rw [hS5, ← eW]; exact cx
  have hcb5 : CB S5 (b + 1) := by rw [hS5]; exact ⟨hcb1.nh, hcb1.uses, hcb1.met, hcb1.missed, hcb1.out⟩
  have ha5 : a ∈ S5.A := by rw [hS5]; exact ha1
  have hc5 : S5.c = s.c := by rw [hS5]; exact hc1
  have hh5 : S5.h = s1.h := by rw [hS5]
  have hu5 : S5.uses = s1.uses := by rw [hS5]
  have hac5 : acOf S5 B' = A2 := by rw [hS5]; exact hac
  have hb5 : (S5.U a).block = block := by
    rw [hS5]
    show (updU s1.U a _ a).block = block
    rw [updU_same]; exact hblk1
  have cU := use_cx cx5 ha5 hcb5 (by omega)
  rw [hc5] at cU
  rw [eW] at hBw
  have H6 : Hid (But (cMine w1 s1.h) w1 (w5.setCell ⟨s.c, 3, none⟩ (.slice p' (s1.D.length + 1) cap')) ∧ acOf S5 B' = A2 ∧ (S5.U a).block = block ∧ CB S5 (b + 1) ∧ S5.c = s.c ∧ S5.h = s1.h ∧ S5.uses ≤ b) := ⟨hBw, hac5, hb5, hcb5, hc5, hh5, by omega⟩
  clear eW hS5 cx5 hcb5 ha5 hc5 hh5 hu5 hac5 hb5
  clear hpl hpl' hcc cm6 hB6 cm1 hd1 hcb1 hus1 hB1 hfin hBw hdat cx hac hown hg H5 hh1 ha1 hsz
  go_wp2_with (go_at_call 28; refine cU.mono ?_; rintro e w6 ⟨rfl, s6, hI6, hU6, hac6⟩; clear cU)
  go_ret
  obtain ⟨cm1, _, hh1, ha1, _, hd1, hcb1, hus1, _, hB1, _⟩ := HQ.out
  obtain ⟨hBw, hac, hblkU, hcb5, hc5, hh5, hu5⟩ := H6.out
  obtain ⟨ip, icap, I', he6⟩ := hU6.eq
  have hB7 : But (cMine w s.h) w w6 := by
    refine cMine_trans hB1 ?_
    rw [← hh1]
    refine cMine_trans hBw ?_
    rw [← hh5]
    exact hU6.but
  refine ⟨rfl, s6, B', ⟨hI6, ?_, by rw [he6]; exact hc5, by rw [he6]; exact hh5.trans hh1, hB7⟩, ?_⟩
  · rw [he6]
    exact ⟨hcb5.nh, by show S5.uses + 1 ≤ _; omega, hcb5.met, hcb5.missed, hcb5.out⟩
  · rw [hac6, hac, hblkU]

end Go.Proofs.YtlcojcldbdikgaaGreatDoor

namespace Go.Proofs.YtlcojcldbdikgaaGreatDoor
open Go.RowKit Go.Maps Go.Sort Go.Shelf

def putF (d : By) (x : HE) : HE := { x with dirty := true, data := d }
def AC.put (A : AC) (b : Nat) (d : By) : AC := AC.touch (if A.held b then A else A.evict.add b d) b (putF d)

theorem dlen {w : World} {s : CS} {vs : VS} {B : Nat → By} (h : CI w s vs B) : s.D.length ≤ 4096 := by
  have := len_sub h.dnd (fun a ha => ((h.dirty a).1 ha).1)
  have := h.room.2.1
  have := h.room.2.2
  omega

theorem put_held (s : CS) (vs : VS) (B : Nat → By) (a b : Nat) (q : Option Addr) (c : Nat) (bs : By) (w : World) (h : CI w s vs B) (hz : CB s b) (ha : a ∈ s.A) (hd : (s.U a).dirty = false) (hbs : Bytes w q bs) (hbl : bs.length = 512) (hbz : b < 800000) (htag : ∀ g o, q = some ⟨g, o, none⟩ → ∃ cs fr, w.heap[g]? = some (.cells cs 5 fr)) :
    Calls Tryz.prog 14 #[ep s.c, .int .i64 ((s.U a).block : Nat), .slice q 512 c] w fun e w' => e = .returned (.int .i64 0) ∧ ∃ s' B', Cst w w' s s' vs B' b ∧ acOf s' B' = (acOf s B).put (s.U a).block bs := by
  have hh : (acOf s B).held (s.U a).block = true := held_iff.2 ⟨a, ha, rfl⟩
  have hput : (acOf s B).put (s.U a).block bs = AC.touch { acOf s B with L := (acOf s B).L.map fun x => if x.block = (s.U a).block then putF bs x else x } (s.U a).block id := by
    unfold AC.put
    rw [hh, if_pos rfl, touch_two _ _ (putF bs) (fun x => ⟨rfl, fun _ => rfl⟩)]
  rw [hput]
  refine put_clean s vs B (s.U a).block b q c bs _ w h (h.blk a ha) hbs hbl hbz htag ?_
  refine (hold_yes s a w h.cm ha).mono ?_
  rintro e w1 ⟨rfl, rfl⟩
  have hdl := dlen h
  have := hz.uses
  refine ⟨a, rfl, s, h.cm, rfl, rfl, ha, rfl, hd, ⟨by have := hz.nh; omega, by omega, by have := hz.met; omega, by have := hz.missed; omega, by have := hz.out; omega⟩, by omega, by omega, But.refl _ _, ?_⟩
  intro w2 e dq dcap e1 e2 e3 e4 cm2 hB2 hdat
  refine ⟨_, cx_setE (h.weak a) e bs (s.D ++ [a]) dq dcap cm2 hB2 ha e1 hdat (.inr ⟨e4, hd, rfl⟩) (fun hx => by rw [e4] at hx; cases hx), ?_⟩
  have := touched_abs (B := B) h.cm ha e bs (putF bs) (by unfold putF heOf; simp [e1, e2, e3, e4])
  unfold acOf
  simp only
  rw [this]
  rfl

theorem evict_sub (A : AC) : ∀ x ∈ A.evict.L, x ∈ A.L := by
  intro x hx
  unfold AC.evict at hx
  split at hx
  · exact hx
  · split at hx
    · exact (List.mem_filter.1 hx).1
    · exact hx

theorem put_new (s : CS) (vs : VS) (B : Nat → By) (block b : Nat) (q : Option Addr) (c : Nat) (bs : By) (w : World) (h : CI w s vs B) (hz : CB s b) (hb : block < nbOf vs.d.n) (hh : (acOf s B).held block = false) (hf : (acOf s B).full = false) (hbs : Bytes w q bs) (hbl : bs.length = 512) (hbz : b < 800000) (htag : ∀ g o, q = some ⟨g, o, none⟩ → ∃ cs fr, w.heap[g]? = some (.cells cs 5 fr)) :
    Calls Tryz.prog 14 #[ep s.c, .int .i64 (block : Nat), .slice q 512 c] w fun e w' => e = .returned (.int .i64 0) ∧ ∃ s' B', Cst w w' s s' vs B' b ∧ acOf s' B' = (acOf s B).put block bs := by
  have hnb := h.nb
  have hput : (acOf s B).put block bs = AC.touch { (acOf s B).evict with L := (acOf s B).evict.L ++ [⟨block, 0, 0, true, bs⟩] } block id := by
    unfold AC.put
    rw [hh, if_neg (by simp), ← touch_two _ _ (putF bs) (fun x => ⟨rfl, fun _ => rfl⟩)]
    congr 1
    unfold AC.add
    simp only [List.map_append, List.map_cons, List.map_nil]
    congr 2
    refine (List.map_congr_left fun x hx => ?_).trans (List.map_id _)
    have hx' := evict_sub _ x hx
    have : x.block ≠ block := fun e => by
      have : (acOf s B).held block = true := by
        unfold AC.held
        rw [List.any_eq_true]
        exact ⟨x, hx', by simp [e]⟩
      rw [hh] at this; cases this
    rw [if_neg this]; rfl
  rw [hput]
  refine put_clean s vs B block b q c bs _ w h hb hbs hbl hbz htag ?_
  obtain ⟨z1, z2, z3, z4, z5⟩ := hz
  refine (bhold_any s block w h.cm (by omega) (held_not hh) h.room.2.1 (h.ord fun _ h => h) (by omega) (by omega) (not_full h hf)).mono ?_
  rintro e w1 ⟨a, A1, I1, out1, F, rfl, hH⟩
  have hdl := dlen h
  have hout : out1 ≤ b + 1 := by rcases hH.ev with ⟨_, _, _, rfl⟩ | ⟨_, o, _, _, _, _, rfl⟩ <;> omega
  have hUa : updU s.U a (newE block) a = newE block := updU_same _ _ _
  refine ⟨a, rfl, { s with nh := s.nh + 1, F := F, I := I1, A := A1 ++ [a], U := updU s.U a (newE block), out := out1 }, hH.cm, rfl, rfl, by simp, ?_, ?_, ⟨by show s.nh + 1 ≤ _; omega, by show s.uses ≤ _; omega, by show s.met ≤ _; omega, by show s.missed ≤ _; omega, hout⟩, z2, by show s.D.length < _; omega, hH.but, ?_⟩
  · show (updU s.U a (newE block) a).block = block
    rw [hUa]; rfl
  · show (updU s.U a (newE block) a).dirty = false
    rw [hUa]; rfl
  · intro w2 e dq dcap e1 e2 e3 e4 cm2 hB2 hdat
    have e1' : e.block = block := by have : e.block = (updU s.U a (newE block) a).block := e1; rw [hUa] at this; exact this
    have e2' : e.pins = 0 := by have : e.pins = (updU s.U a (newE block) a).pins := e2; rw [hUa] at this; exact this
    have e3' : e.used = 0 := by have : e.used = (updU s.U a (newE block) a).used := e3; rw [hUa] at this; exact this
    have eU : updU (updU s.U a (newE block)) a e = updU s.U a e := by funext k; unfold updU; split <;> rfl
    have cm3 : CM w2 { s with nh := s.nh + 1, F := F, I := I1, A := A1 ++ [a], U := updU s.U a e, out := out1, missed := s.missed, D := s.D ++ [a], dq := dq, dcap := dcap } := by rw [← eU]; exact cm2
    have hB3 : But (cMine w s.h) w w2 := cMine_trans hH.but hB2
    have cx := cx_new h hH hb e bs s.missed dcap (s.D ++ [a]) dq (s.nh + 1) cm3 hB3 e1' hdat (.inr ⟨e4, rfl⟩)
    refine ⟨_, by show CX _ w2 { s with nh := s.nh + 1, F := F, I := I1, A := A1 ++ [a], U := updU (updU s.U a (newE block)) a e, out := out1, D := s.D ++ [a], dq := dq, dcap := dcap } vs _; rw [eU]; exact cx, ?_⟩
    show acOf { s with nh := s.nh + 1, F := F, I := I1, A := A1 ++ [a], U := updU (updU s.U a (newE block)) a e, out := out1, D := s.D ++ [a], dq := dq, dcap := dcap } _ = _
    rw [eU, evict_abs h hH.ev]
    have hA1 : ∀ k ∈ A1, k ≠ a := fun k hk e => by
      have := h.cm.alt (hH.sub k hk)
      have := hH.new
      omega
    have e5 : A1.map (heOf (updU s.U a e) (fun k => if k = a then bs else B k)) = A1.map (heOf s.U B) := List.map_congr_left fun k hk => by
      unfold heOf
      simp [updU_other _ _ (hA1 k hk), hA1 k hk]
    unfold acOf
    simp only [List.map_append, List.map_cons, List.map_nil, e5]
    congr 2
    unfold heOf
    simp [updU_same, e1', e2', e3', e4]

set_option maxRecDepth 8000 in
set_option maxHeartbeats 1000000 in
theorem put_dirty (s : CS) (vs : VS) (B : Nat → By) (a b : Nat) (q : Option Addr) (c : Nat) (bs : By) (w : World) (h : CI w s vs B) (hz : CB s b) (ha : a ∈ s.A) (hd : (s.U a).dirty = true) (hbs : Bytes w q bs) (hbl : bs.length = 512) (hbz : b < 800000) :
    Calls Tryz.prog 14 #[ep s.c, .int .i64 ((s.U a).block : Nat), .slice q 512 c] w fun e w' => e = .returned (.int .i64 0) ∧ ∃ s' B', Cst w w' s s' vs B' b ∧ acOf s' B' = (acOf s B).put (s.U a).block bs := by
  have hh : (acOf s B).held (s.U a).block = true := held_iff.2 ⟨a, ha, rfl⟩
  have hput : (acOf s B).put (s.U a).block bs = AC.touch { acOf s B with L := (acOf s B).L.map fun x => if x.block = (s.U a).block then putF bs x else x } (s.U a).block id := by
    unfold AC.put
    rw [hh, if_pos rfl, touch_two _ _ (putF bs) (fun x => ⟨rfl, fun _ => rfl⟩)]
  rw [hput]
  have hnb := h.nb
  have hbk := h.blk a ha
  have c0 : w.cell? ⟨s.c, 0, none⟩ = some (dp vs.v) := by rw [cellOf h.cm.hp.cell 0, ← h.vv]; rfl
  have cB := vBlocks vs.v vs.commits vs.turn vs.next (some vs.f) vs.d.count vs.d w h.vi.vol h.vi.dev h.vi.n16
  have i1 : ¬ (((s.U a).block : Nat) : Int) < 0 := by omega
  have i2 : ¬ (((s.U a).block : Nat) : Int) ≥ ((nbOf vs.d.n : Nat) : Int) := by omega
  have cH := hold_yes s a w h.cm ha
  obtain ⟨gq, oq, hq, hqx⟩ := hbs (by omega)
  subst hq
  have cl := clone_bytes gq oq bs c w hbs (by omega) (by omega)
  rw [hbl] at cl
  have H0 : Hid (CI w s vs B) := h
  clear h hqx hbs hput
  generalize hbk2 : (s.U a).block = block at *
  go_enter Tryz.func14, Tryz.ntmps14
  go_wp2_with (first
    | (go_at_call 33; refine Calls_on cB ?_)
    | (go_at_call 34; refine Calls_on cH ?_)
    | (go_at_call 29; refine cl.mono ?_; rintro e w2 ⟨g, cp, rfl, hg2, hcp2, hb2, hB2, ht2⟩; clear cl; refine Stop.out ?_))
  refine Stop.mk ?_
  have h2 := H0.out.below hB2
  obtain ⟨x, hE⟩ := h2.cm.entAny ha
  have d1 : w2.cell? ⟨a, 1, none⟩ = some (.slice (s.U a).p (s.U a).n (s.U a).cp) := by rw [cellOf hE 1]; rfl
  have f1 := frozenOf hE 1
  have d3 : w2.cell? ⟨a, 3, none⟩ = some (.bool true) := by rw [cellOf hE 3, ← hd]; rfl
  have cm3 := h2.cm.setE ha 1 (.slice (some ⟨g, 0, none⟩) 512 cp) { s.U a with p := some ⟨g, 0, none⟩, n := 512, cp := cp } (fun _ => rfl) rfl (h2.cm.hp.used a)
  have mE : cMine w2 s.h a := h2.cm.mineE ha
  have hB3 : But (cMine w2 s.h) w2 (w2.setCell ⟨a, 1, none⟩ (.slice (some ⟨g, 0, none⟩) 512 cp)) := (But.refl (cMine w2 s.h) w2).setCell _ mE _
  have hdat : DatAt (w2.setCell ⟨a, 1, none⟩ (.slice (some ⟨g, 0, none⟩) 512 cp)) { s.U a with p := some ⟨g, 0, none⟩, n := 512, cp := cp } bs := (h2.keep hB3).2 _ _ ⟨rfl, hbl, hcp2, g, rfl, hb2, ht2⟩
  have cx3 := cx_setE (h2.weak a) { s.U a with p := some ⟨g, 0, none⟩, n := 512, cp := cp } bs s.D s.dq s.dcap cm3 hB3 ha rfl hdat (.inl ⟨rfl, rfl⟩) (fun hx => by have : (s.U a).dirty = false := hx; rw [hd] at this; cases this)
  have htab := touched_abs (B := B) h2.cm ha { s.U a with p := some ⟨g, 0, none⟩, n := 512, cp := cp } bs (putF bs) (by unfold putF heOf; simp [hd])
  obtain ⟨S5, hS5⟩ : ∃ S5 : CS, S5 = { s with U := updU s.U a { s.U a with p := some ⟨g, 0, none⟩, n := 512, cp := cp } } := ⟨_, rfl⟩
  have cx5 : CX (fun k => k = a) (w2.setCell ⟨a, 1, none⟩ (.slice (some ⟨g, 0, none⟩) 512 cp)) S5 vs (fun k => if k = a then bs else B k) := by rw [hS5]; exact cx3
  have hcb5 : CB S5 b := by rw [hS5]; exact ⟨hz.nh, hz.uses, hz.met, hz.missed, hz.out⟩
  have ha5 : a ∈ S5.A := by rw [hS5]; exact ha
  have hc5 : S5.c = s.c := by rw [hS5]
  have hh5 : S5.h = s.h := by rw [hS5]
  have hac5 : acOf S5 (fun k => if k = a then bs else B k) = { acOf s B with L := (acOf s B).L.map fun x => if x.block = block then putF bs x else x } := by
    rw [hS5]
    unfold acOf
    simp only
    rw [htab, hbk2]
    rfl
  have hb5 : (S5.U a).block = block := by
    rw [hS5]
    show (updU s.U a _ a).block = block
    rw [updU_same]; exact hbk2
  have cU := use_cx cx5 ha5 hcb5 (by omega)
  rw [hc5] at cU
  have hB4 : But (cMine w s.h) w (w2.setCell ⟨a, 1, none⟩ (.slice (some ⟨g, 0, none⟩) 512 cp)) := cMine_trans (But.of_below hB2) hB3
  have H6 : Hid (But (cMine w s.h) w (w2.setCell ⟨a, 1, none⟩ (.slice (some ⟨g, 0, none⟩) 512 cp)) ∧ acOf S5 (fun k => if k = a then bs else B k) = { acOf s B with L := (acOf s B).L.map fun x => if x.block = block then putF bs x else x } ∧ (S5.U a).block = block ∧ CB S5 b ∧ S5.c = s.c ∧ S5.h = s.h) := ⟨hB4, hac5, hb5, hcb5, hc5, hh5⟩
  clear h2 hE cm3 mE hB3 hdat cx3 htab hS5 cx5 hcb5 ha5 hc5 hh5 hac5 hb5 hB4 hcp2 hb2 ht2 hg2 cH cB c0
  go_wp2_with (go_at_call 28; refine cU.mono ?_; rintro e w6 ⟨rfl, s6, hI6, hU6, hac6⟩; clear cU)
  go_ret
  obtain ⟨hBw, hac, hblkU, hcb5, hc5, hh5⟩ := H6.out
  obtain ⟨ip, icap, I', he6⟩ := hU6.eq
  have hB7 : But (cMine w s.h) w w6 := by
    refine cMine_trans hBw ?_
    rw [← hh5]
    exact hU6.but
  have := hcb5.uses
  refine ⟨rfl, s6, _, ⟨hI6, ?_, by rw [he6]; exact hc5, by rw [he6]; exact hh5, hB7⟩, ?_⟩
  · rw [he6]
    exact ⟨by have := hcb5.nh; show S5.nh ≤ _; omega, by show S5.uses + 1 ≤ _; omega, by have := hcb5.met; show S5.met ≤ _; omega, by have := hcb5.missed; show S5.missed ≤ _; omega, by have := hcb5.out; show S5.out ≤ _; omega⟩
  · rw [hac6, hac, hblkU]

set_option maxRecDepth 8000 in
set_option maxHeartbeats 1000000 in
theorem put_full (s : CS) (vs : VS) (B : Nat → By) (block : Nat) (q : Option Addr) (c : Nat) (w : World) (h : CI w s vs B) (hb : block < nbOf vs.d.n) (hh : (acOf s B).held block = false) (hf : (acOf s B).full = true) :
    Calls Tryz.prog 14 #[ep s.c, .int .i64 (block : Nat), .slice q 512 c] w fun e w' => e = .returned (.int .i64 28) ∧ ∃ k, w' = w.drewN k := by
  have hnb := h.nb
  have c0 : w.cell? ⟨s.c, 0, none⟩ = some (dp vs.v) := by rw [cellOf h.cm.hp.cell 0, ← h.vv]; rfl
  have cB := vBlocks vs.v vs.commits vs.turn vs.next (some vs.f) vs.d.count vs.d w h.vi.vol h.vi.dev h.vi.n16
  have i1 : ¬ ((block : Nat) : Int) < 0 := by omega
  have i2 : ¬ ((block : Nat) : Int) ≥ ((nbOf vs.d.n : Nat) : Int) := by omega
  obtain ⟨h1, h2⟩ := h.full_iff.1 hf
  have cH := hold_no s block w h.cm (by omega) (held_not hh) h1 h2
  clear h
  go_enter Tryz.func14, Tryz.ntmps14
  go_wp2_with (first
    | (go_at_call 33; refine Calls_on cB ?_)
    | (go_at_call 34; refine cH.mono ?_; rintro e w1 ⟨rfl, k, rfl⟩; clear cH))
  go_ret
  exact ⟨rfl, k, rfl⟩
set_option maxRecDepth 8000 in
set_option maxHeartbeats 1000000 in
theorem put_bad (s : CS) (vs : VS) (B : Nat → By) (x : Int) (q : Option Addr) (n c : Nat) (w : World) (h : CI w s vs B) (hx : ¬ (0 ≤ x ∧ x < nbOf vs.d.n) ∨ n ≠ 512) :
    Calls Tryz.prog 14 #[ep s.c, .int .i64 x, .slice q n c] w fun e w' => e = .returned (.int .i64 22) ∧ w' = w := by
  have c0 : w.cell? ⟨s.c, 0, none⟩ = some (dp vs.v) := by rw [cellOf h.cm.hp.cell 0, ← h.vv]; rfl
  have cB := vBlocks vs.v vs.commits vs.turn vs.next (some vs.f) vs.d.count vs.d w h.vi.vol h.vi.dev h.vi.n16
  clear h
  by_cases i0 : x < 0
  · go_enter Tryz.func14, Tryz.ntmps14
    go_wp2
    go_ret
    exact ⟨rfl, rfl⟩
  · by_cases i2 : x ≥ ((nbOf vs.d.n : Nat) : Int)
    · go_enter Tryz.func14, Tryz.ntmps14
      go_wp2_with (go_at_call 33; refine Calls_on cB ?_)
      go_ret
      exact ⟨rfl, rfl⟩
    · have hn5 : ((n : Int) != 512) = true := by
        rw [bne_iff_ne]
        rcases hx with hx | hx
        · exact absurd ⟨by omega, by omega⟩ hx
        · omega
      go_enter Tryz.func14, Tryz.ntmps14
      go_wp2_with (go_at_call 33; refine Calls_on cB ?_)
      go_ret
      exact ⟨rfl, rfl⟩

end Go.Proofs.YtlcojcldbdikgaaGreatDoor
