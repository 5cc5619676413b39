/-
  What the proof leans on, part 22.
-/
import Derived.Test.YtebdgcoandfocaaGreatDoorQ20
import Derived.Test.YtebdgcoandfocaaGreatDoorQ19
import Derived.Test.YtebdgcoandfocaaGreatDoorQ06
import Derived.Laws.EntriesVeiled

/-
  What a cut leaves of a file: all of it. Pure: no program.
-/
namespace Go.Proofs.YtebdgcoandfocaaGreatDoor
open Go.RowKit

theorem cutG_p {size : Nat} {G : Ino.Gs} {p : Nat} (h : p < 128) : Ino.cutG size G p = if size ≤ p * 512 then 0 else G p := by
  rw [Ino.cutG_place h]
  unfold Ino.cutP
  by_cases hs : size ≤ p * 512
  · rw [if_pos ⟨h, hs⟩, if_pos hs]
  · rw [if_neg (fun hh => hs hh.2), if_neg hs]

theorem mem_if {c : Prop} [Decidable c] {α : Type} {x y : α} : x ∈ (if c then [y] else []) ↔ c ∧ x = y := by
  split
  · rename_i h; simp [h]
  · rename_i h; simp [h]

theorem mem_cutIs {size : Nat} {G : Ino.Gs} {i : Nat} : i ∈ cutIs size G ↔ G i ≠ 0 ∧ Ino.cutG size G i = 0 ∧ i < 131 := by
  have hp : ∀ a c, c ≤ 136 → (i ∈ cutL size (plc G) a c ↔ (a ≤ i ∧ i < c ∧ i < 128) ∧ G i ≠ 0 ∧ Ino.cutG size G i = 0) := by
    intro a c hc
    rw [mem_cutL]
    by_cases h : i < 128
    · rw [plc_in h, cutG_p h]
      constructor
      · rintro ⟨⟨h1, h2⟩, h3, h4⟩; exact ⟨⟨h1, h2, h⟩, h3, if_pos h4⟩
      · rintro ⟨⟨h1, h2, _⟩, h3, h4⟩
        refine ⟨⟨h1, h2⟩, h3, ?_⟩
        split at h4
        · assumption
        · exact absurd h4 h3
    · constructor
      · rintro ⟨_, h3, _⟩; exact absurd (plc_ne h3).1 h
      · rintro ⟨⟨_, _, h1⟩, _⟩; exact absurd h1 h
  unfold cutIs
  simp only [List.mem_append, mem_if, hp 0 8 (by omega), hp 8 72 (by omega), hp 72 136 (by omega)]
  constructor
  · rintro (((((⟨h1, h2, h3⟩ | ⟨h1, h2, h3⟩) | ⟨⟨h2, h3⟩, rfl⟩) | ⟨h1, h2, h3⟩) | ⟨⟨h2, h3⟩, rfl⟩) | ⟨⟨h2, h3⟩, rfl⟩)
    all_goals exact ⟨h2, h3, by omega⟩
  · rintro ⟨h1, h2, h3⟩
    by_cases h8 : i < 8
    · exact .inl (.inl (.inl (.inl (.inl ⟨by omega, h1, h2⟩))))
    by_cases h72 : i < 72
    · exact .inl (.inl (.inl (.inl (.inr ⟨by omega, h1, h2⟩))))
    by_cases h128 : i < 128
    · exact .inl (.inl (.inr ⟨by omega, h1, h2⟩))
    by_cases e1 : i = 128
    · subst e1; exact .inl (.inl (.inl (.inr ⟨⟨h1, h2⟩, rfl⟩)))
    by_cases e2 : i = 129
    · subst e2; exact .inr ⟨⟨h1, h2⟩, rfl⟩
    · obtain rfl : i = 130 := by omega
      exact .inl (.inr ⟨⟨h1, h2⟩, rfl⟩)

theorem mem_cutPs {V : Nat → By} {size : Nat} {G : Ino.Gs} {i : Nat} {d : By} : (i, d) ∈ cutPs V size G ↔ ((i < 128 ∧ G i ≠ 0 ∧ size / 512 ≤ i ∧ i * 512 < size) ∧ d = wipB V size (plc G) i) ∨ ((Ino.cutG size G 128 ≠ 0 ∧ Ino.tab1 (Ino.cutG size G) ≠ Ino.tab1 G) ∧ (i, d) = (128, Ino.tabB (Ino.tab1 (Ino.cutG size G)))) ∨ ((Ino.cutG size G 130 ≠ 0 ∧ Ino.tab2 (Ino.cutG size G) ≠ Ino.tab2 G) ∧ (i, d) = (130, Ino.tabB (Ino.tab2 (Ino.cutG size G)))) := by
  have hp : ∀ a c, c ≤ 136 → ((i, d) ∈ cutQ V size (plc G) a c ↔ ((a ≤ i ∧ i < c ∧ i < 128) ∧ G i ≠ 0 ∧ size / 512 ≤ i ∧ i * 512 < size) ∧ d = wipB V size (plc G) i) := by
    intro a c hc
    rw [mem_cutQ]
    by_cases h : i < 128
    · rw [plc_in h]
      constructor
      · rintro ⟨⟨⟨h1, h2⟩, h3⟩, h4⟩; exact ⟨⟨⟨h1, h2, h⟩, h3⟩, h4⟩
      · rintro ⟨⟨⟨h1, h2, _⟩, h3⟩, h4⟩; exact ⟨⟨⟨h1, h2⟩, h3⟩, h4⟩
    · constructor
      · rintro ⟨⟨_, h3, _⟩, _⟩; exact absurd (plc_ne h3).1 h
      · rintro ⟨⟨⟨_, _, h1⟩, _⟩, _⟩; exact absurd h1 h
  unfold cutPs
  simp only [List.mem_append, mem_if, hp 0 8 (by omega), hp 8 72 (by omega), hp 72 136 (by omega)]
  constructor
  · rintro ((((⟨⟨h1, h2⟩, h3⟩ | ⟨⟨h1, h2⟩, h3⟩) | h) | ⟨⟨h1, h2⟩, h3⟩) | h)
    · exact .inl ⟨⟨h1.2.2, h2⟩, h3⟩
    · exact .inl ⟨⟨h1.2.2, h2⟩, h3⟩
    · exact .inr (.inl h)
    · exact .inl ⟨⟨h1.2.2, h2⟩, h3⟩
    · exact .inr (.inr h)
  · rintro (⟨⟨h1, h2⟩, h3⟩ | h | h)
    · by_cases h8 : i < 8
      · exact .inl (.inl (.inl (.inl ⟨⟨by omega, h2⟩, h3⟩)))
      by_cases h72 : i < 72
      · exact .inl (.inl (.inl (.inr ⟨⟨by omega, h2⟩, h3⟩)))
      · exact .inl (.inr ⟨⟨by omega, h2⟩, h3⟩)
    · exact .inl (.inl (.inr h))
    · exact .inr h

theorem cutPs_nodup (V : Nat → By) (size : Nat) (G : Ino.Gs) : ((cutPs V size G).map Prod.fst).Nodup := by
  have hq : ∀ a c, c ≤ 136 → ∀ x ∈ (cutQ V size (plc G) a c).map Prod.fst, a ≤ x ∧ x < c ∧ x < 128 := by
    intro a c hc x hx
    obtain ⟨⟨p, d⟩, hp, rfl⟩ := List.mem_map.1 hx
    obtain ⟨⟨⟨h1, h2⟩, h3, _⟩, _⟩ := mem_cutQ.1 hp
    exact ⟨h1, h2, (plc_ne h3).1⟩
  have hn : ∀ a c, ((cutQ V size (plc G) a c).map Prod.fst).Nodup := fun a c => by rw [cutQ_fst]; exact (Ino.span_nodup a c).filter _
  have hi : ∀ (c : Prop) [Decidable c] (y : Nat × By), ((if c then [y] else []).map Prod.fst).Nodup := fun c _ y => by split <;> simp
  have hm : ∀ (c : Prop) [Decidable c] (y : Nat × By), ∀ x ∈ ((if c then [y] else []).map Prod.fst), x = y.1 := fun c _ y x hx => by
    split at hx
    · simpa using hx
    · cases hx
  unfold cutPs
  simp only [List.map_append]
  rw [List.nodup_append, List.nodup_append, List.nodup_append, List.nodup_append]
  refine ⟨⟨⟨⟨hn _ _, hn _ _, ?_⟩, hi _ _, ?_⟩, hn _ _, ?_⟩, hi _ _, ?_⟩
  · intro a ha b hb
    have := hq 0 8 (by omega) a ha; have := hq 8 72 (by omega) b hb; omega
  · intro a ha b hb
    have h2 := hm _ _ b hb
    rcases List.mem_append.1 ha with ha | ha
    · have := hq 0 8 (by omega) a ha; simp at h2; omega
    · have := hq 8 72 (by omega) a ha; simp at h2; omega
  · intro a ha b hb
    have h2 := hq 72 136 (by omega) b hb
    rcases List.mem_append.1 ha with ha | ha
    · rcases List.mem_append.1 ha with ha | ha
      · have := hq 0 8 (by omega) a ha; omega
      · have := hq 8 72 (by omega) a ha; omega
    · have h1 := hm _ _ a ha; simp at h1; omega
  · intro a ha b hb
    have h2 := hm _ _ b hb
    simp at h2
    rcases List.mem_append.1 ha with ha | ha
    · rcases List.mem_append.1 ha with ha | ha
      · rcases List.mem_append.1 ha with ha | ha
        · have := hq 0 8 (by omega) a ha; omega
        · have := hq 8 72 (by omega) a ha; omega
      · have h1 := hm _ _ a ha; simp at h1; omega
    · have := hq 72 136 (by omega) a ha; omega

set_option maxRecDepth 8000 in
set_option maxHeartbeats 400000 in
theorem wip_slab {W : Nat → BitVec 8} {size p : Nat} (h1 : p * 512 < size) (h2 : size < p * 512 + 512) : splB (Ino.slab W p) (size - p * 512) (List.replicate (512 - (size - p * 512)) 0#8) = Ino.slab (fun i => if i < size then W i else 0) p := by
  have hsl : (Ino.slab W p).length = 512 := by simp [Ino.slab]
  apply List.ext_getElem?
  intro j
  by_cases hj : j < 512
  · have hr : (Ino.slab (fun i => if i < size then W i else 0) p)[j]? = some (if p * 512 + j < size then W (p * 512 + j) else 0) := by simp [Ino.slab, hj]
    have hl : (Ino.slab W p)[j]? = some (W (p * 512 + j)) := by simp [Ino.slab, hj]
    rw [hr]
    unfold splB
    by_cases c1 : j < size - p * 512
    · rw [List.append_assoc, List.getElem?_append_left (by rw [List.length_take]; omega), List.getElem?_take, if_pos c1, hl, if_pos (show p * 512 + j < size by omega)]
    · rw [List.append_assoc, List.getElem?_append_right (by rw [List.length_take]; omega), List.length_take, List.getElem?_append_left (by rw [List.length_replicate]; omega), List.getElem?_replicate, if_pos (by omega), if_neg (show ¬ p * 512 + j < size by omega)]; rfl
  · rw [List.getElem?_eq_none (by rw [splB_length (by rw [List.length_replicate]; omega)]; omega), List.getElem?_eq_none (by simp [Ino.slab]; omega)]

set_option maxRecDepth 8000 in
set_option maxHeartbeats 400000 in
/-- All that a cut leaves. -/
theorem File.cutted {n : Nat} {U U' : Nat → Bool} {V : Nat → By} {G : Ino.Gs} {sz size : Nat} {W : Nat → BitVec 8} (h : Ino.File n U V G sz W) (hs : size < sz)
    (hU : ∀ x, x < n → (U' x = true ↔ U x = true ∧ x ∉ (cutIs size G).map (numO G))) :
    Ino.File n U' (Ino.putsV V ((cutPs V size G).map (atG G))) (Ino.cutG size G) size (fun i => if i < size then W i else 0) := by
  have hle := h.le
  have hz : ∀ q ∈ cutPs V size G, G q.1 ≠ 0 := by
    rintro ⟨i, d⟩ hq
    rcases mem_cutPs.1 hq with ⟨⟨_, h2, _⟩, _⟩ | ⟨⟨h2, _⟩, e⟩ | ⟨⟨h2, _⟩, e⟩
    · exact h2
    · cases e; rw [Ino.cutG_sub h2] at h2; exact h2
    · cases e; rw [Ino.cutG_sub h2] at h2; exact h2
  obtain ⟨v1, v2⟩ := puts_idx (V := V) (cutPs_nodup V size G) h.inj hz
  have hni : ∀ i, (∀ d, (i, d) ∉ cutPs V size G) → i ∉ (cutPs V size G).map Prod.fst := fun i hd hm => by
    obtain ⟨⟨a, b⟩, ha, e⟩ := List.mem_map.1 hm
    cases e
    exact hd b ha
  refine h.cut hs ?_ ?_ ?_ ?_ ?_
  · intro x hx
    rw [hU x hx]
    refine and_congr Iff.rfl (not_congr ⟨fun hm => ?_, ?_⟩)
    · obtain ⟨i, hi, e⟩ := List.mem_map.1 hm
      obtain ⟨h1, h2, _⟩ := mem_cutIs.1 hi
      exact ⟨i, h1, h2, e⟩
    · rintro ⟨i, h1, h2, e⟩
      exact List.mem_map.2 ⟨i, mem_cutIs.2 ⟨h1, h2, Nat.lt_of_not_le fun hn => h1 (h.fin i hn)⟩, e⟩
  · intro hc
    have hg : G 128 ≠ 0 := by have := hc; rw [Ino.cutG_sub hc] at this; exact this
    by_cases ht : Ino.tab1 (Ino.cutG size G) = Ino.tab1 G
    · rw [v2 128 (hni 128 fun d hm => ?_) hg, h.t1 hg, ht]
      rcases mem_cutPs.1 hm with ⟨⟨h1, _⟩, _⟩ | ⟨⟨_, h2⟩, _⟩ | ⟨_, e⟩
      · omega
      · exact h2 ht
      · cases e
    · exact v1 128 _ (mem_cutPs.2 (.inr (.inl ⟨⟨hc, ht⟩, rfl⟩)))
  · intro hc
    have hg : G 129 ≠ 0 := by have := hc; rw [Ino.cutG_sub hc] at this; exact this
    have hzt : Ino.tab2 (Ino.cutP size G) ≠ Ino.zT := fun e => hc (by rw [cutG_tw size G (.inl rfl), if_pos e])
    have h30 : Ino.cutG size G 130 = G 130 := by rw [cutG_tw size G (.inr rfl), if_neg hzt]
    rw [v2 129 (hni 129 fun d hm => ?_) hg, h.td hg]
    · exact congrArg Ino.tabB (Ino.tabd_eq h30.symm)
    · rcases mem_cutPs.1 hm with ⟨⟨h1, _⟩, _⟩ | ⟨_, e⟩ | ⟨_, e⟩
      · omega
      · cases e
      · cases e
  · intro hc
    have hg : G 130 ≠ 0 := by have := hc; rw [Ino.cutG_sub hc] at this; exact this
    by_cases ht : Ino.tab2 (Ino.cutG size G) = Ino.tab2 G
    · rw [v2 130 (hni 130 fun d hm => ?_) hg, h.t2 hg, ht]
      rcases mem_cutPs.1 hm with ⟨⟨h1, _⟩, _⟩ | ⟨_, e⟩ | ⟨⟨_, h2⟩, _⟩
      · omega
      · cases e
      · exact h2 ht
    · exact v1 130 _ (mem_cutPs.2 (.inr (.inr ⟨⟨hc, ht⟩, rfl⟩)))
  · intro p hp hc
    have hg : G p ≠ 0 := by have := hc; rw [Ino.cutG_sub hc] at this; exact this
    have hps : p * 512 < size := Nat.lt_of_not_le fun hn => hc (by rw [cutG_p hp, if_pos hn])
    have hd := h.data p hp
    rw [Ino.cont, if_neg hg] at hd
    by_cases hf : size / 512 ≤ p
    · rw [v1 p _ (mem_cutPs.2 (.inl ⟨⟨hp, hg, hf, hps⟩, rfl⟩))]
      unfold wipB
      rw [plc_in hp, hd, wip_slab hps (by omega)]
    · rw [v2 p (hni p fun d hm => ?_) hg, hd]
      · unfold Ino.slab
        refine List.map_congr_left fun j hj => ?_
        have := List.mem_range.1 hj
        show W (p * 512 + j) = if p * 512 + j < size then W (p * 512 + j) else 0
        rw [if_pos (show p * 512 + j < size by omega)]
      · rcases mem_cutPs.1 hm with ⟨⟨_, _, h1, _⟩, _⟩ | ⟨_, e⟩ | ⟨_, e⟩
        · exact hf h1
        · cases e; omega
        · cases e; omega

theorem cutPs_lt {n : Nat} {U : Nat → Bool} {V : Nat → By} {G : Ino.Gs} {sz size : Nat} {W : Nat → BitVec 8} (h : Ino.File n U V G sz W) : ∀ q ∈ (cutPs V size G).map (atG G), q.1 < n := by
  intro q hq
  obtain ⟨⟨i, d⟩, ha, rfl⟩ := List.mem_map.1 hq
  refine h.lt i ?_
  rcases mem_cutPs.1 ha with ⟨⟨_, h2, _⟩, _⟩ | ⟨⟨h2, _⟩, e⟩ | ⟨⟨h2, _⟩, e⟩
  · exact h2
  · cases e; rw [Ino.cutG_sub h2] at h2; exact h2
  · cases e; rw [Ino.cutG_sub h2] at h2; exact h2
theorem cutIs_lt {n : Nat} {U : Nat → Bool} {V : Nat → By} {G : Ino.Gs} {sz size : Nat} {W : Nat → BitVec 8} (h : Ino.File n U V G sz W) : ∀ i ∈ (cutIs size G).map (numO G), i < n := by
  intro x hx
  obtain ⟨i, ha, rfl⟩ := List.mem_map.1 hx
  exact h.lt i (mem_cutIs.1 ha).1
theorem cutPs_length (V : Nat → By) (size : Nat) (G : Ino.Gs) : ((cutPs V size G).map (atG G)).length ≤ 200 := by
  have h1 := cutQ_length V size (plc G) 0 8
  have h2 := cutQ_length V size (plc G) 8 72
  have h3 := cutQ_length V size (plc G) 72 136
  have hi : ∀ (c : Prop) [Decidable c] (y : Nat × By), (if c then [y] else []).length ≤ 1 := fun c _ y => by split <;> simp
  have h4 := hi (Ino.cutG size G 128 ≠ 0 ∧ Ino.tab1 (Ino.cutG size G) ≠ Ino.tab1 G) (128, Ino.tabB (Ino.tab1 (Ino.cutG size G)))
  have h5 := hi (Ino.cutG size G 130 ≠ 0 ∧ Ino.tab2 (Ino.cutG size G) ≠ Ino.tab2 G) (130, Ino.tabB (Ino.tab2 (Ino.cutG size G)))
  unfold cutPs
  simp only [List.length_map, List.length_append] at *
  omega
theorem cutIs_length (size : Nat) (G : Ino.Gs) : ((cutIs size G).map (numO G)).length ≤ 200 := by
  have h1 := cutL_length size (plc G) 0 8
  have h2 := cutL_length size (plc G) 8 72
  have h3 := cutL_length size (plc G) 72 136
  have hi : ∀ (c : Prop) [Decidable c] (y : Nat), (if c then [y] else []).length ≤ 1 := fun c _ y => by split <;> simp
  have h4 := hi (G 128 ≠ 0 ∧ Ino.cutG size G 128 = 0) 128
  have h5 := hi (G 130 ≠ 0 ∧ Ino.cutG size G 130 = 0) 130
  have h6 := hi (G 129 ≠ 0 ∧ Ino.cutG size G 129 = 0) 129
  unfold cutIs
  simp only [List.length_map, List.length_append] at *
  omega

/-- Numbers that are given back. -/
theorem gives_used : ∀ (T : List Nat) (m : Bm.MS), (∀ i ∈ T, i < m.n) → Bm.Fit m.n m.ws → (∀ x, x < m.n → (Bm.used (T.foldl giveM m).ws x = true ↔ Bm.used m.ws x = true ∧ x ∉ T)) ∧ (T.foldl giveM m).n = m.n
  | [], m, _, _ => ⟨fun x _ => by simp, rfl⟩
  | i :: T, m, h, hf => by
    have hi := h i List.mem_cons_self
    have hs : (giveM m i).n = m.n ∧ Bm.Fit (giveM m i).n (giveM m i).ws ∧ ∀ x, x < m.n → (Bm.used (giveM m i).ws x = true ↔ Bm.used m.ws x = true ∧ x ≠ i) := by
      unfold giveM
      split
      · rename_i hu
        refine ⟨rfl, hf.turned i, fun x _ => ?_⟩
        show Bm.used (Bm.turned m.ws i) x = true ↔ _
        rw [Bm.turned_used (by have := hf.len; omega)]
        by_cases hx : x = i
        · subst hx
          rw [if_pos rfl]
          simp [hu]
        · rw [if_neg hx]
          simp [hx]
      · rename_i hu
        refine ⟨rfl, hf, fun x _ => ⟨fun hx => ⟨hx, ?_⟩, fun hx => hx.1⟩⟩
        rintro rfl
        exact hu hx
    obtain ⟨s1, s2, s3⟩ := hs
    obtain ⟨r1, r2⟩ := gives_used T (giveM m i) (fun j hj => by rw [s1]; exact h j (List.mem_cons_of_mem _ hj)) s2
    rw [List.foldl_cons]
    refine ⟨fun x hx => ?_, r2.trans s1⟩
    rw [r1 x (by rw [s1]; exact hx), s3 x hx, List.mem_cons, not_or]
    exact ⟨fun ⟨⟨a, b⟩, c⟩ => ⟨a, b, c⟩, fun ⟨a, b, c⟩ => ⟨⟨a, b⟩, c⟩⟩

end Go.Proofs.YtebdgcoandfocaaGreatDoor

/-
  Package inode: a spot of a write is filled, over what stands there.
-/
namespace Go.Proofs.YtebdgcoandfocaaGreatDoor
open Go.RowKit Go.Maps Go.Sort Go.Shelf

section
variable {LP : Nat → World → Prop} {w0 ws : World} {wb c nb : Nat} {V : Nat → By} {U0 : Nat → Bool} {n at_ : Nat} {pb : Option Addr} {bl bc bg bo : Nat}

set_option maxRecDepth 8000 in
set_option maxHeartbeats 4000000 in
theorem fill_old (hL : LPok LP w0 c nb V) {s : WS} {w : World} (h : WJ LP w0 ws wb c U0 n at_ (some ⟨bg, bo, none⟩) bl bc s w) (hb : s.b + 4 ≤ 700000) (bs : By) (hbs : Bytes w (some ⟨bg, bo, none⟩) bs) (hbl : bs.length = bl) (hb1 : 1 ≤ bl) (hbc : bl ≤ bc) (htg : bg < w.heap.size ∧ ¬ Cmn w0 w bg) (hmx : at_ + bl ≤ 65536) (p : Nat) (x : BitVec 32) (hxn : x.toNat < nb) (hp1 : at_ < p * 512 + 512) (hp2 : p * 512 < at_ + bl)
    (hfr : ¬ min (at_ + bl) (p * 512 + 512) - max at_ (p * 512) = 512) :
    Calls Tryz.prog 42 #[.pointer (some ⟨wb, 0, none⟩), .agg #[.int .i64 (p : Nat), u32v x, .bool false]] w fun e w' => e = .returned (.int .i64 0) ∧ WJ LP w0 ws wb c U0 n at_ (some ⟨bg, bo, none⟩) bl bc (filS V at_ bs s (p, x, false)) w' ∧ But (CT 71 w) w w' := by
  obtain ⟨B, hB⟩ : ∃ B, p * 512 = B := ⟨_, rfl⟩
  obtain ⟨f, hf⟩ : ∃ f, max at_ B = f := ⟨_, rfl⟩
  obtain ⟨t, ht⟩ : ∃ t, min (at_ + bl) (B + 512) = t := ⟨_, rfl⟩
  have hft : f < t := by omega
  have hfo : B ≤ f ∧ at_ ≤ f ∧ t ≤ at_ + bl ∧ t ≤ B + 512 := by omega
  obtain ⟨o, ho⟩ : ∃ o, f - B = o := ⟨_, rfl⟩
  obtain ⟨so, hso⟩ : ∃ so, f - at_ = so := ⟨_, rfl⟩
  obtain ⟨eo, heo⟩ : ∃ eo, t - at_ = eo := ⟨_, rfl⟩
  have eB : (p : Int) * 512 = (B : Nat) := by omega
  have ef : max (at_ : Int) (B : Int) = (f : Nat) := by omega
  have et : min ((at_ : Int) + (bl : Int)) ((B : Int) + 512) = (t : Nat) := by omega
  have eo1 : (f : Int) - (B : Int) = (o : Nat) := by omega
  have eso : (f : Int) - (at_ : Int) = (so : Nat) := by omega
  have eeo : (t : Int) - (at_ : Int) = (eo : Nat) := by omega
  have hfs : filS V at_ bs s (p, x, false) = { s with b := s.b + 2, P := s.P ++ [(x.toNat, splB (V x.toNat) o ((bs.drop so).take (eo - so)))] } := by
    rw [hB, hf, ht] at hfr
    unfold filS fillB
    dsimp only
    rw [hbl, hB, hf, ht, ho, hso, if_neg (by simp [hfr]), if_neg (by simp [hfr]), show t - f = eo - so by omega]
  rw [hfs]
  obtain ⟨mf, sX, hc, h2, h3, h4, h5, h7⟩ := h.ex
  obtain ⟨sT, sG, sP, D, hw, hr⟩ := hc.blk
  obtain ⟨w1, hw1⟩ : ∃ w1, w1 = w.alloc (.cells #[.int .i64 (p : Nat), u32v x, .bool false] 102) := ⟨_, rfl⟩
  have hs1 : w1.heap.size = w.heap.size + 1 := by rw [hw1]; simp
  have hB1 : Below w.heap.size w w1 := by rw [hw1]; exact (Below.refl _ w).alloc (Nat.le_refl _) _
  have hx1 : BlkAt w1 w.heap.size [.int .i64 (p : Nat), u32v x, .bool false] 102 := by rw [hw1]; exact heap_alloc_new w _
  have a0 := hx1.cell (i := 0) rfl
  have a1 := hx1.cell (i := 1) rfl
  have a2 := hx1.cell (i := 2) rfl
  have hwb1 := hw.below hB1
  have b5 := hwb1.cell (i := 5) rfl
  have b6 := hwb1.cell (i := 6) rfl
  unfold u32v at a1 hw1 ⊢
  have hnl : (t : Int) - (f : Int) < 512 := by omega
  have HT5 : Hid (∀ W, Below w.heap.size w W → bg < W.heap.size ∧ ¬ Cmn w0 W bg) := fun W hW => ⟨Nat.lt_of_lt_of_le htg.1 hW.size, fun hc => htg.2 ⟨hc.1, fun cs t fr hk => hc.2 cs t fr ((hW.block bg htg.1).trans hk)⟩⟩
  have hwsz := hc.fr.size
  have HW := hide (⟨h, hbs, hw, hB1, hx1⟩ : _ ∧ _ ∧ _ ∧ _ ∧ _)
  clear htg h hc h2 h3 h4 h5 h7 hr hw hwb1 hbs hfs hB hf ht ho hso heo hfr
  obtain ⟨zs, hzs⟩ : ∃ zs, zs = List.replicate 512 (Value.int .u8 0) := ⟨_, rfl⟩
  have hmk : ∀ W : World, (Instr.makeSlice 30 (.int .i64 512) (.int .i64 512)).run Tryz.prog W = .ok (.slice (some ⟨W.heap.size, 0, none⟩) 512 512) (W.alloc (.cells zs.toArray 5)) := fun W => by rw [hzs]; exact imake W 512 (by omega)
  have HZ := hide hzs
  clear hzs
  go_enter Tryz.func42, Tryz.ntmps42
  go_wp2_with fail
  rw [← hw1]
  clear hw1
  go_quiet (fail)
  go_wp2_with fail
  generalize hw2 : (w1.drewN nq).alloc (.cells zs.toArray 5) = w2
  have hB2 : Below w1.heap.size w1 w2 := by rw [← hw2]; exact (below_drewN (Below.refl _ w1) nq).alloc (Nat.le_refl _) _
  have hB02 : Below w.heap.size w w2.drew := (HW.out.2.2.2.1.trans (hB2.mono (by omega))).drew
  clear hw2 a0 a1 a2 b5 b6
  have hx1' := HW.out.2.2.2.2.below hB2
  have a1 := hx1'.cell (i := 1) rfl
  have h2' := HW.out.1.below hL hB02
  obtain ⟨mf2, sX2, hc2, h22, h23, h24, h25, h27⟩ := h2'.ex
  have cG := get_J hL okW hc2 (by omega) x hxn
  have H2 := hide (⟨h22, h23, h24, h25, h27, h2'.xl, hx1', hB02, hB2⟩ : _ ∧ _ ∧ _ ∧ _ ∧ _ ∧ _ ∧ _ ∧ _ ∧ _)
  unfold u32v at a1 cG
  clear hx1' h2' hc2 h22 h23 h24 h25 h27 hB02 hB2 hmk HZ
  go_region_with (go_at_call 47; refine cG.mono ?_; rintro e w5 ⟨g, cap, rfl, h51, h52, h53, h54⟩)
  all_goals
    have hct : But (CT 71 w2.drew) w2.drew w5 := ct_cmn h52
    have h5 : WJ LP w0 ws wb c U0 n at_ (some ⟨bg, bo, none⟩) bl bc { s with b := s.b + 1 } w5 := WJ.step (b' := s.b + 1) hct H2.out.1 H2.out.2.1 H2.out.2.2.1 H2.out.2.2.2.1 H2.out.2.2.2.2.1 H2.out.2.2.2.2.2.1 (Nat.le_succ _) (h51 w5 (But.refl _ _))
    obtain ⟨mf3, sX3, hc5, _⟩ := h5.ex
    obtain ⟨sT5, sG5, sP5, D5, hw5, _⟩ := hc5.blk
    have b5 := hw5.cell (i := 5) rfl
    have b6 := hw5.cell (i := 6) rfl
    have hbs2 := below_bytes H2.out.2.2.2.2.2.2.2.1 HW.out.2.1
    have hbs5 : ∀ j x, bs[j]? = some x → w5.cell? ⟨bg, bo + j, none⟩ = some (u8v x) := by
      intro j x hj
      obtain ⟨s', o', e', hxx⟩ := hbs2 (by omega)
      cases e'
      have hcell := hxx j x hj
      have hty : bg < w2.drew.heap.size ∧ ¬ Cmn w0 w2.drew bg := HT5.out w2.drew H2.out.2.2.2.2.2.2.2.1
      rw [World.cell?_of_block (w := w2.drew) (h52.block bg hty.1 hty.2)]
      exact hcell
    have hcap : 512 ≤ cap := by
      rcases h53.2 with ⟨e, _⟩ | ⟨g', cap', cur', e, _, _, hcap, _⟩
      · cases e
      · cases e; exact hcap
    have hgl : w2.heap.size ≤ g := (own_type h53 rfl).1
    obtain ⟨w3, hcp, hby3, htg3, hb3⟩ := copy_fill w5.drew g cap _ bg (bo + so) o (eo - so) (bc - so) (V x.toNat) ((bs.drop so).take (eo - so)) h53 (by rw [List.length_take, List.length_drop]; omega) (fun j x hj => by
      rw [List.getElem?_take] at hj
      split at hj
      · rw [List.getElem?_drop] at hj
        show w5.cell? ⟨bg, bo + so + j, none⟩ = _
        rw [Nat.add_assoc]
        exact hbs5 _ _ hj
      · cases hj) (by omega)
    have ho5 : ¬ o = cap := by omega
    have ho5' : ¬ cap = o := by omega
    have hoc : ¬ bc = so := by omega
    have hoc' : ¬ so = bc := by omega
    have hx15 : BlkAt w5 w.heap.size _ 102 := BlkAt.cache (w := w2.drew) H2.out.2.2.2.2.2.2.1 h52 (cTag_not (by decide) (by decide) (by decide))
    have hsw : w.heap.size < w2.heap.size := by have := H2.out.2.2.2.2.2.2.2.2.size; omega
    have hx13 := BlkAt.but (w := w5.drew) hx15 hb3 (show ¬ (w.heap.size = g) by omega)
    have hgf : w5.heap.size ≤ w3.heap.size := hb3.size
    have hb5 : But (fun k => k = g) w5 w3.drew := ⟨hb3.os, hb3.tape, hb3.output, hb3.size, hb3.block⟩
    have hct3 : But (CT 71 w2.drew) w2.drew w3.drew := ⟨hb5.os.trans hct.os, hb5.tape.trans hct.tape, hb5.output.trans hct.output, Nat.le_trans hct.size hb5.size, fun k hk hn => (hb5.block k (Nat.lt_of_lt_of_le hk hct.size) (fun e => by have : k = g := e; have h7 : k < w2.heap.size := hk; omega)).trans (hct.block k hk hn)⟩
    have h3 : WJ LP w0 ws wb c U0 n at_ (some ⟨bg, bo, none⟩) bl bc { s with b := s.b + 1 } w3.drew := WJ.step (b' := s.b + 1) hct3 H2.out.1 H2.out.2.1 H2.out.2.2.1 H2.out.2.2.2.1 H2.out.2.2.2.2.1 H2.out.2.2.2.2.2.1 (Nat.le_succ _) (h51 w3.drew hb5)
    obtain ⟨mf, sX, hc3, h32, h33, h34, h35, h37⟩ := h3.ex
    have cP := put_J hL okW hc3 (by show s.b + 1 < 700000; omega) x g cap (splB (V x.toNat) o ((bs.drop so).take (eo - so))) hby3 (by rw [splB_length (by rw [List.length_take, List.length_drop]; omega)]; exact h54) htg3 (by have h7 := hwsz; omega)
    have HK3 : Hid (But (CT 71 w) w w3.drew) := ct_trans (ct_below H2.out.2.2.2.2.2.2.2.1) hct3
    have H3 := hide (⟨h32, h33, h34, h35, h37, h3.xl, hx13⟩ : _ ∧ _ ∧ _ ∧ _ ∧ _ ∧ _ ∧ _)
    unfold u32v at cP
    clear hb5 hct3 cG hby3 htg3 hb3 hx13 hx15 h5 hc5 hw5 hbs2 hbs5 h51 h52 h53 h54 hct h3 hc3 h32 h33 h34 h35 h37 a1
    go_wp2_with fail
    go_region
    have a1 := H3.out.2.2.2.2.2.2.cell (i := 1) rfl
    unfold u32v at a1
    clear hcp b5 b6
    go_wp2_with fail
    go_region_with (go_at_call 64; refine cP.mono ?_; rintro e w4 ⟨rfl, h8, h9⟩)
    all_goals
      have H4 := hide (WJ.step (LP := LP) (w0 := w0) (wb := wb) (c := c) (s := { s with b := s.b + 1 }) (at_ := at_) (pb := some ⟨bg, bo, none⟩) (bl := bl) (bc := bc) h9 H3.out.1 H3.out.2.1 H3.out.2.2.1 H3.out.2.2.2.1 H3.out.2.2.2.2.1 H3.out.2.2.2.2.2.1 (Nat.le_succ _) h8)
      have HK4 := hide (ct_trans HK3.out h9)
      clear cP h8 h9
      go_wp2
      go_ret
      exact ⟨rfl, H4.out, HK4.out⟩

/-- A spot that may be filled. -/
def SpotOk (nb at_ bl : Nat) (q : Nat × BitVec 32 × Bool) : Prop := at_ < q.1 * 512 + 512 ∧ q.1 * 512 < at_ + bl ∧ (q.2.2 = true ∨ q.2.1.toNat < nb)
theorem fill_J (hL : LPok LP w0 c nb V) {s : WS} {w : World} (h : WJ LP w0 ws wb c U0 n at_ (some ⟨bg, bo, none⟩) bl bc s w) (hb : s.b + 4 ≤ 700000) (bs : By) (hbs : Bytes w (some ⟨bg, bo, none⟩) bs) (hbl : bs.length = bl) (hb1 : 1 ≤ bl) (hbc : bl ≤ bc) (htg : bg < w.heap.size ∧ ¬ Cmn w0 w bg) (hmx : at_ + bl ≤ 65536) (q : Nat × BitVec 32 × Bool) (hq : SpotOk nb at_ bl q) :
    Calls Tryz.prog 42 #[.pointer (some ⟨wb, 0, none⟩), .agg #[.int .i64 (q.1 : Nat), u32v q.2.1, .bool q.2.2]] w fun e w' => e = .returned (.int .i64 0) ∧ WJ LP w0 ws wb c U0 n at_ (some ⟨bg, bo, none⟩) bl bc (filS V at_ bs s q) w' ∧ But (CT 71 w) w w' := by
  obtain ⟨p, x, fr⟩ := q
  obtain ⟨h1, h2, h3⟩ := hq
  by_cases hc : fr = true ∨ min (at_ + bl) (p * 512 + 512) - max at_ (p * 512) = 512
  · exact fill_new hL h hb bs hbs hbl hb1 hbc hmx p x fr h1 h2 hc
  · have hf : fr = false := by cases fr; rfl; exact absurd (.inl rfl) hc
    subst hf
    exact fill_old hL h hb bs hbs hbl hb1 hbc htg hmx p x (h3.resolve_left (by simp)) h1 h2 (fun e => hc (.inr e))
theorem filS_b (V : Nat → By) (at_ : Nat) (bs : By) (s : WS) (q : Nat × BitVec 32 × Bool) : (filS V at_ bs s q).b ≤ s.b + 2 := by
  unfold filS; dsimp only; split <;> omega

end
end Go.Proofs.YtebdgcoandfocaaGreatDoor

/-
  Package inode: a write is planned (three bytes at 700 of a file that has no block there).
-/
namespace Go.Proofs.YtebdgcoandfocaaGreatDoor
open Go.RowKit Go.Maps Go.Sort Go.Shelf

/-- What the making of a walk leaves. -/
def planL (wb bg s : Nat) : List (Option Tmp × Value) := [(some 10, .pointer (some ⟨wb, 0, none⟩)), (some 11, .pointer (some ⟨wb, 0, none⟩)), (some 12, .pointer (some ⟨wb, 0, none⟩)), (some 13, .pointer (some ⟨wb, 0, none⟩)), (some 14, .pointer (some ⟨wb, 0, none⟩)), (some 15, .pointer (some ⟨wb, 5, none⟩)), (some 16, .int .i64 700), (some 17, .int .i64 1), (some 18, .pointer (some ⟨wb, 0, none⟩)), (some 19, .pointer (some ⟨wb, 0, none⟩)), (some 20, .pointer (some ⟨wb, 5, none⟩)), (some 21, .int .i64 700), (some 22, .pointer (some ⟨wb, 0, none⟩)), (some 23, .pointer (some ⟨wb, 0, none⟩)), (some 24, .pointer (some ⟨wb, 6, none⟩)), (some 25, .slice (some ⟨bg, 0, none⟩) 3 3), (some 26, .int .i64 3), (some 27, .int .i64 703), (some 28, .int .i64 2), (some 29, .pointer (some ⟨wb, 0, none⟩)), (some 30, .func (.func 41) #[.pointer (some ⟨wb, 0, none⟩)] #[]), (some 31, .agg #[.pointer (some ⟨wb, 0, none⟩), .int .i64 1, .int .i64 2, .bool true, .func (.func 41) #[.pointer (some ⟨wb, 0, none⟩)] #[]]), (some 5, .pointer (some ⟨s, 0, none⟩)), (none, undef)]
theorem walk_bel {w W : World} {x y : Bool} {o p : Obj} (h : W = if x = true then w.drew.alloc o else if y = true then w.drew.alloc p else w.drew) : Below w.heap.size w W := by
  rw [h]
  split
  · exact ((Below.refl _ w).drew).alloc (Nat.le_refl _) _
  · split
    · exact ((Below.refl _ w).drew).alloc (Nat.le_refl _) _
    · exact (Below.refl _ w).drew

/-- What a plan leaves. -/
structure Planned (w w' : World) (wb nb : Nat) (cs : List Value) (ns : List (BitVec 32)) (mf : Bm.MS) (r : Nat) (x0 x1 x2 : BitVec 8) : Prop where
  blk : ∃ g cap g7 cap7 g4 cap4 dg, BlkAt w' wb (((cs.set 2 (.slice (some ⟨g, 0, none⟩) 1 cap)).set 7 (.slice (some ⟨g7, 0, none⟩) 1 cap7)).set 4 (.slice (some ⟨g4, 0, none⟩) 1 cap4)) 71 ∧ w'.ownsRow w.heap.size 3 1 (.slice (some ⟨g, 0, none⟩) 1 cap) 1 [.int .i64 (r : Nat)] ∧
    w'.ownsRow w.heap.size 143 2 (.slice (some ⟨g4, 0, none⟩) 1 cap4) 1 [.int .i64 (r : Nat), .slice (some ⟨dg, 0, none⟩) 512 512] ∧ w'.heap[dg]? = some (.cells ((abcB x0 x1 x2).map u8v).toArray 5 (0, 0)) ∧ w.heap.size ≤ dg
  nums : NumsAt w' nb (ns.set 1 (BitVec.ofNat 32 r))
  map : Bm.MapAt w' (mf.turn r)
  but : But (fun k => k = mf.b ∨ k = wb ∨ k = nb) w w'

theorem own_cell1 {W : World} {base : Nat} {e : TypeId} {size g cap : Nat} {xs : List Value} (h : W.ownsRow base e size (.slice (some ⟨g, 0, none⟩) 1 cap) 1 xs) {j : Nat} {v : Value} (hv : xs[j]? = some v) : W.cell? ⟨g, j, none⟩ = some v := by
  rcases h.2 with ⟨e, _⟩ | ⟨g', cap', cur, e, _, hblk, _, _, _, htk⟩
  · cases e
  · cases e
    rw [cellOf hblk j]
    rw [← htk, List.getElem?_take] at hv
    split at hv
    · simpa using hv
    · cases hv
theorem u32v_nat (r : Nat) (h : r < 65536) : u32v (BitVec.ofNat 32 r) = .int .u32 (r : Nat) := by
  unfold u32v
  rw [BitVec.toNat_ofNat, Nat.mod_eq_of_lt (by omega)]

set_option maxRecDepth 8000 in
set_option maxHeartbeats 4000000 in
theorem plan_first (wb nb bg r : Nat) (cs : List Value) (ns : List (BitVec 32)) (mf : Bm.MS) (x0 x1 x2 : BitVec 8) (w : World) (hw : BlkAt w wb cs 71) (hl : cs.length = 8) (h1 : cs[1]? = some (.pointer (some ⟨mf.a, 0, none⟩))) (h2 : cs[2]? = some (.slice none 0 0)) (h4 : cs[4]? = some (.slice none 0 0)) (h5 : cs[5]? = some (.int .i64 700)) (h6 : cs[6]? = some (.slice (some ⟨bg, 0, none⟩) 3 3)) (h7 : cs[7]? = some (.slice none 0 0))
    (hb : w.heap[bg]? = some (.cells #[u8v x0, u8v x1, u8v x2] 5 (3, 4))) (hm : Bm.MapAt w mf) (ht : Bm.Tab64 w) (hL : Least mf r) (hr : r < 65536) (hn : NumsAt w nb ns) (hnl : ns.length = 10) (hn1 : ns[1]? = some 0#32) :
    Calls Tryz.prog 26 #[.pointer (some ⟨wb, 0, none⟩), .pointer (some ⟨nb, 0, none⟩)] w fun e w' => e = .returned (.int .i64 0) ∧ Planned w w' wb nb cs ns mf r x0 x1 x2 := by
  have hmix : Tryz.prog.follows .mixedOrders = true := by kernel_rfl
  have hmf : ∀ (fn : Fn) (first cap : Array Value) (w : World), (Instr.makeFunc fn first cap).run Tryz.prog w = .ok (.func fn first cap) w := fun _ _ _ _ => rfl
  have cU : ∀ W, Calls Tryz.prog 30 #[.int .i64 703] W fun e w' => e = .returned (.int .i64 2) ∧ w' = W := fun W => upTo_any 703 (by omega) W
  have b5 := hw.cell h5
  have b6 := hw.cell h6
  have hwl : wb < w.heap.size := hw.lt
  have hwn : ¬ w.heap.size = wb := by omega
  have hwn' : ¬ wb = w.heap.size := by omega
  have hbl : bg < w.heap.size := (Array.getElem?_eq_some_iff.1 hb).1
  have HW : Hid (BlkAt w wb cs 71 ∧ Bm.MapAt w mf ∧ Bm.Tab64 w ∧ NumsAt w nb ns ∧ w.heap[bg]? = some (.cells #[u8v x0, u8v x1, u8v x2] 5 (3, 4))) := ⟨hw, hm, ht, hn, hb⟩
  clear hw hm ht hn hb
  go_enter Tryz.func26, Tryz.ntmps26
  go_wp2_with fail
  have vv0 : ∀ g, vals ((fun _ : Unit => planL wb bg w.heap.size) g) 0 = .pointer (some ⟨wb, 0, none⟩) := fun g => rfl
  have vv1 : ∀ g, vals ((fun _ : Unit => planL wb bg w.heap.size) g) 1 = .pointer (some ⟨wb, 0, none⟩) := fun g => rfl
  have vv2 : ∀ g, vals ((fun _ : Unit => planL wb bg w.heap.size) g) 2 = .pointer (some ⟨wb, 0, none⟩) := fun g => rfl
  have vv3 : ∀ g, vals ((fun _ : Unit => planL wb bg w.heap.size) g) 3 = .pointer (some ⟨wb, 0, none⟩) := fun g => rfl
  have vv4 : ∀ g, vals ((fun _ : Unit => planL wb bg w.heap.size) g) 4 = .pointer (some ⟨wb, 0, none⟩) := fun g => rfl
  have vv5 : ∀ g, vals ((fun _ : Unit => planL wb bg w.heap.size) g) 5 = .pointer (some ⟨wb, 5, none⟩) := fun g => rfl
  have vv6 : ∀ g, vals ((fun _ : Unit => planL wb bg w.heap.size) g) 6 = .int .i64 700 := fun g => rfl
  have vv7 : ∀ g, vals ((fun _ : Unit => planL wb bg w.heap.size) g) 7 = .int .i64 1 := fun g => rfl
  have vv8 : ∀ g, vals ((fun _ : Unit => planL wb bg w.heap.size) g) 8 = .pointer (some ⟨wb, 0, none⟩) := fun g => rfl
  have vv9 : ∀ g, vals ((fun _ : Unit => planL wb bg w.heap.size) g) 9 = .pointer (some ⟨wb, 0, none⟩) := fun g => rfl
  have vv10 : ∀ g, vals ((fun _ : Unit => planL wb bg w.heap.size) g) 10 = .pointer (some ⟨wb, 5, none⟩) := fun g => rfl
  have vv11 : ∀ g, vals ((fun _ : Unit => planL wb bg w.heap.size) g) 11 = .int .i64 700 := fun g => rfl
  have vv12 : ∀ g, vals ((fun _ : Unit => planL wb bg w.heap.size) g) 12 = .pointer (some ⟨wb, 0, none⟩) := fun g => rfl
  have vv13 : ∀ g, vals ((fun _ : Unit => planL wb bg w.heap.size) g) 13 = .pointer (some ⟨wb, 0, none⟩) := fun g => rfl
  have vv14 : ∀ g, vals ((fun _ : Unit => planL wb bg w.heap.size) g) 14 = .pointer (some ⟨wb, 6, none⟩) := fun g => rfl
  have vv15 : ∀ g, vals ((fun _ : Unit => planL wb bg w.heap.size) g) 15 = .slice (some ⟨bg, 0, none⟩) 3 3 := fun g => rfl
  have vv16 : ∀ g, vals ((fun _ : Unit => planL wb bg w.heap.size) g) 16 = .int .i64 3 := fun g => rfl
  have vv17 : ∀ g, vals ((fun _ : Unit => planL wb bg w.heap.size) g) 17 = .int .i64 703 := fun g => rfl
  have vv18 : ∀ g, vals ((fun _ : Unit => planL wb bg w.heap.size) g) 18 = .int .i64 2 := fun g => rfl
  have vv19 : ∀ g, vals ((fun _ : Unit => planL wb bg w.heap.size) g) 19 = .pointer (some ⟨wb, 0, none⟩) := fun g => rfl
  have vv20 : ∀ g, vals ((fun _ : Unit => planL wb bg w.heap.size) g) 20 = .func (.func 41) #[.pointer (some ⟨wb, 0, none⟩)] #[] := fun g => rfl
  have vv21 : ∀ g, vals ((fun _ : Unit => planL wb bg w.heap.size) g) 21 = .agg #[.pointer (some ⟨wb, 0, none⟩), .int .i64 1, .int .i64 2, .bool true, .func (.func 41) #[.pointer (some ⟨wb, 0, none⟩)] #[]] := fun g => rfl
  have vv22 : ∀ g, vals ((fun _ : Unit => planL wb bg w.heap.size) g) 22 = .pointer (some ⟨w.heap.size, 0, none⟩) := fun g => rfl
  have vv23 : ∀ g, vals ((fun _ : Unit => planL wb bg w.heap.size) g) 23 = undef := fun g => rfl
  refine region_laidg hmix (by kernel_rfl) 53 rfl (by kernel_rfl) () ((fun _ : Unit => planL wb bg w.heap.size)) (fun g => rfl) (fun (_ : Unit) b W => W = if b 23 = true then w.drew.alloc (.cells #[.pointer (some ⟨wb, 0, none⟩), .int .i64 1, .int .i64 2, .bool true, .func (.func 41) #[.pointer (some ⟨wb, 0, none⟩)] #[]] 81) else if b 22 = true then w.drew.alloc (.cells #[.pointer none, .int .i64 0, .int .i64 0, .bool false, .nilFunc] 81) else w.drew) rfl ?_ ?_
  · intro g b W io o a hS hcl ho hb hd ev kp yl
    match io with
    | 0 =>
      simp only [List.getElem?_toArray, List.getElem?_cons_zero, Option.some.injEq] at ho
      subst ho
      have e0 : a.tmps[0]?.getD undef = .pointer (some ⟨wb, 0, none⟩) := kp 0 (none_till (by kernel_rfl))
      refine doesg_value rfl (by intro c h; cases h) (v := .pointer (some ⟨wb, 0, none⟩)) (w' := W) ?_ ⟨g, fun _ _ => rfl, (vv0 g).symm, ?_⟩
      · simp [execOp, go_sem, e0]
      · simpa [did] using hS
    | 1 =>
      simp only [List.getElem?_toArray, List.getElem?_cons_zero, List.getElem?_cons_succ, Option.some.injEq] at ho
      subst ho
      have p0 : b 0 = true := hd ⟨0, .data⟩ (by simp) rfl
      have e10 := (ev 0 10 rfl p0).trans (vv0 g)
      refine doesg_value rfl (by intro c h; cases h) (v := .pointer (some ⟨wb, 0, none⟩)) (w' := W) ?_ ⟨g, fun _ _ => rfl, (vv1 g).symm, ?_⟩
      · simp [execOp, go_sem, e10]
      · simpa [did] using hS
    | 2 =>
      simp only [List.getElem?_toArray, List.getElem?_cons_zero, List.getElem?_cons_succ, Option.some.injEq] at ho
      subst ho
      have p1 : b 1 = true := hd ⟨1, .data⟩ (by simp) rfl
      have e11 := (ev 1 11 rfl p1).trans (vv1 g)
      refine doesg_value rfl (by intro c h; cases h) (v := .pointer (some ⟨wb, 0, none⟩)) (w' := W) ?_ ⟨g, fun _ _ => rfl, (vv2 g).symm, ?_⟩
      · simp [execOp, go_sem, e11]
      · simpa [did] using hS
    | 3 =>
      simp only [List.getElem?_toArray, List.getElem?_cons_zero, List.getElem?_cons_succ, Option.some.injEq] at ho
      subst ho
      have e0 : a.tmps[0]?.getD undef = .pointer (some ⟨wb, 0, none⟩) := kp 0 (none_till (by kernel_rfl))
      refine doesg_value rfl (by intro c h; cases h) (v := .pointer (some ⟨wb, 0, none⟩)) (w' := W) ?_ ⟨g, fun _ _ => rfl, (vv3 g).symm, ?_⟩
      · simp [execOp, go_sem, e0]
      · simpa [did] using hS
    | 4 =>
      simp only [List.getElem?_toArray, List.getElem?_cons_zero, List.getElem?_cons_succ, Option.some.injEq] at ho
      subst ho
      have p3 : b 3 = true := hd ⟨3, .data⟩ (by simp) rfl
      have e13 := (ev 3 13 rfl p3).trans (vv3 g)
      refine doesg_value rfl (by intro c h; cases h) (v := .pointer (some ⟨wb, 0, none⟩)) (w' := W) ?_ ⟨g, fun _ _ => rfl, (vv4 g).symm, ?_⟩
      · simp [execOp, go_sem, e13]
      · simpa [did] using hS
    | 5 =>
      simp only [List.getElem?_toArray, List.getElem?_cons_zero, List.getElem?_cons_succ, Option.some.injEq] at ho
      subst ho
      have p4 : b 4 = true := hd ⟨4, .data⟩ (by simp) rfl
      have e14 := (ev 4 14 rfl p4).trans (vv4 g)
      refine doesg_value rfl (by intro c h; cases h) (v := .pointer (some ⟨wb, 5, none⟩)) (w' := W) ?_ ⟨g, fun _ _ => rfl, (vv5 g).symm, ?_⟩
      · simp [execOp, go_sem, e14]
      · simpa [did] using hS
    | 6 =>
      simp only [List.getElem?_toArray, List.getElem?_cons_zero, List.getElem?_cons_succ, Option.some.injEq] at ho
      subst ho
      have p5 : b 5 = true := hd ⟨5, .data⟩ (by simp) rfl
      have e15 := (ev 5 15 rfl p5).trans (vv5 g)
      have hbel : Below w.heap.size w W := walk_bel hS
      have hl := (hbel.cell (p := ⟨wb, 5, none⟩) (cell_lt b5)).trans b5
      refine doesg_value rfl (by intro c h; cases h) (v := .int .i64 700) (w' := W) ?_ ⟨g, fun _ _ => rfl, (vv6 g).symm, ?_⟩
      · simp [execOp, go_sem, e15, hl]
      · simpa [did] using hS
    | 7 =>
      simp only [List.getElem?_toArray, List.getElem?_cons_zero, List.getElem?_cons_succ, Option.some.injEq] at ho
      subst ho
      have p6 : b 6 = true := hd ⟨6, .data⟩ (by simp) rfl
      have e16 := (ev 6 16 rfl p6).trans (vv6 g)
      refine doesg_value rfl (by intro c h; cases h) (v := .int .i64 1) (w' := W) ?_ ⟨g, fun _ _ => rfl, (vv7 g).symm, ?_⟩
      · simp [execOp, go_sem, e16]; rfl
      · simpa [did] using hS
    | 8 =>
      simp only [List.getElem?_toArray, List.getElem?_cons_zero, List.getElem?_cons_succ, Option.some.injEq] at ho
      subst ho
      have e0 : a.tmps[0]?.getD undef = .pointer (some ⟨wb, 0, none⟩) := kp 0 (none_till (by kernel_rfl))
      refine doesg_value rfl (by intro c h; cases h) (v := .pointer (some ⟨wb, 0, none⟩)) (w' := W) ?_ ⟨g, fun _ _ => rfl, (vv8 g).symm, ?_⟩
      · simp [execOp, go_sem, e0]
      · simpa [did] using hS
    | 9 =>
      simp only [List.getElem?_toArray, List.getElem?_cons_zero, List.getElem?_cons_succ, Option.some.injEq] at ho
      subst ho
      have p8 : b 8 = true := hd ⟨8, .data⟩ (by simp) rfl
      have e18 := (ev 8 18 rfl p8).trans (vv8 g)
      refine doesg_value rfl (by intro c h; cases h) (v := .pointer (some ⟨wb, 0, none⟩)) (w' := W) ?_ ⟨g, fun _ _ => rfl, (vv9 g).symm, ?_⟩
      · simp [execOp, go_sem, e18]
      · simpa [did] using hS
    | 10 =>
      simp only [List.getElem?_toArray, List.getElem?_cons_zero, List.getElem?_cons_succ, Option.some.injEq] at ho
      subst ho
      have p9 : b 9 = true := hd ⟨9, .data⟩ (by simp) rfl
      have e19 := (ev 9 19 rfl p9).trans (vv9 g)
      refine doesg_value rfl (by intro c h; cases h) (v := .pointer (some ⟨wb, 5, none⟩)) (w' := W) ?_ ⟨g, fun _ _ => rfl, (vv10 g).symm, ?_⟩
      · simp [execOp, go_sem, e19]
      · simpa [did] using hS
    | 11 =>
      simp only [List.getElem?_toArray, List.getElem?_cons_zero, List.getElem?_cons_succ, Option.some.injEq] at ho
      subst ho
      have p10 : b 10 = true := hd ⟨10, .data⟩ (by simp) rfl
      have e20 := (ev 10 20 rfl p10).trans (vv10 g)
      have hbel : Below w.heap.size w W := walk_bel hS
      have hl := (hbel.cell (p := ⟨wb, 5, none⟩) (cell_lt b5)).trans b5
      refine doesg_value rfl (by intro c h; cases h) (v := .int .i64 700) (w' := W) ?_ ⟨g, fun _ _ => rfl, (vv11 g).symm, ?_⟩
      · simp [execOp, go_sem, e20, hl]
      · simpa [did] using hS
    | 12 =>
      simp only [List.getElem?_toArray, List.getElem?_cons_zero, List.getElem?_cons_succ, Option.some.injEq] at ho
      subst ho
      have e0 : a.tmps[0]?.getD undef = .pointer (some ⟨wb, 0, none⟩) := kp 0 (none_till (by kernel_rfl))
      refine doesg_value rfl (by intro c h; cases h) (v := .pointer (some ⟨wb, 0, none⟩)) (w' := W) ?_ ⟨g, fun _ _ => rfl, (vv12 g).symm, ?_⟩
      · simp [execOp, go_sem, e0]
      · simpa [did] using hS
    | 13 =>
      simp only [List.getElem?_toArray, List.getElem?_cons_zero, List.getElem?_cons_succ, Option.some.injEq] at ho
      subst ho
      have p12 : b 12 = true := hd ⟨12, .data⟩ (by simp) rfl
      have e22 := (ev 12 22 rfl p12).trans (vv12 g)
      refine doesg_value rfl (by intro c h; cases h) (v := .pointer (some ⟨wb, 0, none⟩)) (w' := W) ?_ ⟨g, fun _ _ => rfl, (vv13 g).symm, ?_⟩
      · simp [execOp, go_sem, e22]
      · simpa [did] using hS
    | 14 =>
      simp only [List.getElem?_toArray, List.getElem?_cons_zero, List.getElem?_cons_succ, Option.some.injEq] at ho
      subst ho
      have p13 : b 13 = true := hd ⟨13, .data⟩ (by simp) rfl
      have e23 := (ev 13 23 rfl p13).trans (vv13 g)
      refine doesg_value rfl (by intro c h; cases h) (v := .pointer (some ⟨wb, 6, none⟩)) (w' := W) ?_ ⟨g, fun _ _ => rfl, (vv14 g).symm, ?_⟩
      · simp [execOp, go_sem, e23]
      · simpa [did] using hS
    | 15 =>
      simp only [List.getElem?_toArray, List.getElem?_cons_zero, List.getElem?_cons_succ, Option.some.injEq] at ho
      subst ho
      have p14 : b 14 = true := hd ⟨14, .data⟩ (by simp) rfl
      have e24 := (ev 14 24 rfl p14).trans (vv14 g)
      have hbel : Below w.heap.size w W := walk_bel hS
      have hl := (hbel.cell (p := ⟨wb, 6, none⟩) (cell_lt b6)).trans b6
      refine doesg_value rfl (by intro c h; cases h) (v := .slice (some ⟨bg, 0, none⟩) 3 3) (w' := W) ?_ ⟨g, fun _ _ => rfl, (vv15 g).symm, ?_⟩
      · simp [execOp, go_sem, e24, hl]
      · simpa [did] using hS
    | 16 =>
      simp only [List.getElem?_toArray, List.getElem?_cons_zero, List.getElem?_cons_succ, Option.some.injEq] at ho
      subst ho
      have p15 : b 15 = true := hd ⟨15, .data⟩ (by simp) rfl
      have e25 := (ev 15 25 rfl p15).trans (vv15 g)
      refine doesg_value rfl (by intro c h; cases h) (v := .int .i64 3) (w' := W) ?_ ⟨g, fun _ _ => rfl, (vv16 g).symm, ?_⟩
      · simp [go_sem, e25]
      · simpa [did] using hS
    | 17 =>
      simp only [List.getElem?_toArray, List.getElem?_cons_zero, List.getElem?_cons_succ, Option.some.injEq] at ho
      subst ho
      have p11 : b 11 = true := hd ⟨11, .data⟩ (by simp) rfl
      have p16 : b 16 = true := hd ⟨16, .data⟩ (by simp) rfl
      have e21 := (ev 11 21 rfl p11).trans (vv11 g)
      have e26 := (ev 16 26 rfl p16).trans (vv16 g)
      refine doesg_value rfl (by intro c h; cases h) (v := .int .i64 703) (w' := W) ?_ ⟨g, fun _ _ => rfl, (vv17 g).symm, ?_⟩
      · simp [execOp, go_sem, e21, e26]; rfl
      · simpa [did] using hS
    | 18 =>
      simp only [List.getElem?_toArray, List.getElem?_cons_zero, List.getElem?_cons_succ, Option.some.injEq] at ho
      subst ho
      have p17 : b 17 = true := hd ⟨17, .data⟩ (by simp) rfl
      have e27 := (ev 17 27 rfl p17).trans (vv17 g)
      refine doesg_call rfl (by intro c h; cases h) (f := 30) (args := #[.int .i64 703]) ?_ ?_
      · simp [go_sem, e27]
      · (refine (cU W).mono ?_; rintro e w' ⟨rfl, rfl⟩; exact ⟨_, rfl, g, fun _ _ => rfl, (vv18 g).symm, by simpa [did] using hS⟩)
    | 19 =>
      simp only [List.getElem?_toArray, List.getElem?_cons_zero, List.getElem?_cons_succ, Option.some.injEq] at ho
      subst ho
      have e0 : a.tmps[0]?.getD undef = .pointer (some ⟨wb, 0, none⟩) := kp 0 (none_till (by kernel_rfl))
      refine doesg_value rfl (by intro c h; cases h) (v := .pointer (some ⟨wb, 0, none⟩)) (w' := W) ?_ ⟨g, fun _ _ => rfl, (vv19 g).symm, ?_⟩
      · simp [execOp, go_sem, e0]
      · simpa [did] using hS
    | 20 =>
      simp only [List.getElem?_toArray, List.getElem?_cons_zero, List.getElem?_cons_succ, Option.some.injEq] at ho
      subst ho
      have p19 : b 19 = true := hd ⟨19, .data⟩ (by simp) rfl
      have e29 := (ev 19 29 rfl p19).trans (vv19 g)
      refine doesg_value rfl (by intro c h; cases h) (v := .func (.func 41) #[.pointer (some ⟨wb, 0, none⟩)] #[]) (w' := W) ?_ ⟨g, fun _ _ => rfl, (vv20 g).symm, ?_⟩
      · simp [execOp, go_sem, e29]
      · simpa [did] using hS
    | 21 =>
      simp only [List.getElem?_toArray, List.getElem?_cons_zero, List.getElem?_cons_succ, Option.some.injEq] at ho
      subst ho
      have p2 : b 2 = true := hd ⟨2, .data⟩ (by simp) rfl
      have p7 : b 7 = true := hd ⟨7, .data⟩ (by simp) rfl
      have p18 : b 18 = true := hd ⟨18, .data⟩ (by simp) rfl
      have p20 : b 20 = true := hd ⟨20, .data⟩ (by simp) rfl
      have e12 := (ev 2 12 rfl p2).trans (vv2 g)
      have e17 := (ev 7 17 rfl p7).trans (vv7 g)
      have e28 := (ev 18 28 rfl p18).trans (vv18 g)
      have e30 := (ev 20 30 rfl p20).trans (vv20 g)
      refine doesg_value rfl (by intro c h; cases h) (v := .agg #[.pointer (some ⟨wb, 0, none⟩), .int .i64 1, .int .i64 2, .bool true, .func (.func 41) #[.pointer (some ⟨wb, 0, none⟩)] #[]]) (w' := W) ?_ ⟨g, fun _ _ => rfl, (vv21 g).symm, ?_⟩
      · simp [execOp, go_sem, e12, e17, e28, e30]
      · simpa [did] using hS
    | 22 =>
      simp only [List.getElem?_toArray, List.getElem?_cons_zero, List.getElem?_cons_succ, Option.some.injEq] at ho
      subst ho
      have h23 : b 23 = false := by cases h : b 23; rfl; rw [hcl 23 _ rfl h ⟨22, .data⟩ (by simp) rfl] at hb; cases hb
      have hW : W = w.drew := by rw [hS, h23, hb]; rfl
      subst hW
      refine doesg_value rfl (by intro c h; cases h) (v := .pointer (some ⟨w.heap.size, 0, none⟩)) (w' := w.drew.alloc (.cells #[.pointer none, .int .i64 0, .int .i64 0, .bool false, .nilFunc] 81)) ?_ ⟨g, fun _ _ => rfl, (vv22 g).symm, ?_⟩
      · simp [execOp, go_sem]
      · simp [did, h23]
    | 23 =>
      simp only [List.getElem?_toArray, List.getElem?_cons_zero, List.getElem?_cons_succ, Option.some.injEq] at ho
      subst ho
      have p22 : b 22 = true := hd ⟨22, .data⟩ (by simp) rfl
      have p21 : b 21 = true := hd ⟨21, .data⟩ (by simp) rfl
      have e5 := (ev 22 5 rfl p22).trans (vv22 g)
      have e31 := (ev 21 31 rfl p21).trans (vv21 g)
      have hW : W = w.drew.alloc (.cells #[.pointer none, .int .i64 0, .int .i64 0, .bool false, .nilFunc] 81) := by rw [hS, hb, p22]; rfl
      subst hW
      refine doesg_skip rfl (by intro c h; cases h) (w' := w.drew.alloc (.cells #[.pointer (some ⟨wb, 0, none⟩), .int .i64 1, .int .i64 2, .bool true, .func (.func 41) #[.pointer (some ⟨wb, 0, none⟩)] #[]] 81)) ?_ ⟨g, fun _ _ => rfl, (vv23 g).symm, ?_⟩
      · simp [execOp, go_sem, e5, e31]
      · exact by simp [did]
    | k + 24 => simp at ho
  · intro g b W hS hall
    have hW : W = w.drew.alloc (.cells #[.pointer (some ⟨wb, 0, none⟩), .int .i64 1, .int .i64 2, .bool true, .func (.func 41) #[.pointer (some ⟨wb, 0, none⟩)] #[]] 81) := by rw [hS, hall 23 (by simp)]; rfl
    have hBW : Below w.heap.size w W := walk_bel hS
    have hWs : W.heap.size = w.heap.size + 1 := by rw [hW]; simp
    have hWk : WalkAt W w.heap.size (.pointer (some ⟨wb, 0, none⟩)) 1 2 true (.func (.func 41) #[.pointer (some ⟨wb, 0, none⟩)] #[]) := by rw [hW]; exact heap_alloc_new w.drew _
    obtain ⟨hw, hm, ht, hn, hb⟩ := HW.out
    have hV := find_one wb r 1 cs mf W (hw.below hBW) h1 h2 h7 (hm.below hBW) (ht.below hBW) hL hr
    have hbm : mf.b < w.heap.size := by obtain ⟨_, hx, _⟩ := hm.row; exact (Array.getElem?_eq_some_iff.1 hx).1
    have hnb : BlkAt w nb (ns.map u32v) 55 := hn
    have hnw : nb ≠ wb := hnb.ne hw (by decide)
    have hnm : nb ≠ mf.b := map_b_ne hm hnb (by decide)
    have hnma : nb ≠ mf.a := map_a_ne hm hnb (by decide)
    have hnl2 : nb < w.heap.size := hnb.lt
    have cO := over_one w.heap.size nb 1 2 41 1 (.pointer (some ⟨wb, 0, none⟩)) true (.pointer (some ⟨wb, 0, none⟩)) ns 0#32 (BitVec.ofNat 32 r) W (fun k => k = mf.b ∨ k = wb)
      (fun w' => ∃ g cap g7 cap7, BlkAt w' wb ((cs.set 2 (.slice (some ⟨g, 0, none⟩) 1 cap)).set 7 (.slice (some ⟨g7, 0, none⟩) 1 cap7)) 71 ∧ w'.ownsRow W.heap.size 3 1 (.slice (some ⟨g, 0, none⟩) 1 cap) 1 [.int .i64 (r : Nat)] ∧ w'.ownsRow W.heap.size 102 3 (.slice (some ⟨g7, 0, none⟩) 1 cap7) 1 [.int .i64 ((1 : Nat) : Int), .int .u32 (r : Nat), .bool true] ∧ Bm.MapAt w' (mf.turn r))
      hWk (hn.below hBW hnl2) hnl (by omega) rfl rfl hn1 (by omega) (fun e => by rcases e with e | e; exact hnm e; exact hnw e) (enters_of Tryz.func41 (by kernel_rfl) rfl)
      (hV.mono (by
        rintro e w' ⟨rfl, g, cap, g7, cap7, y1, y2, y3, y4, y5⟩
        exact ⟨by rw [u32v_nat r hr], y5, g, cap, g7, cap7, y1, y2, y3, y4⟩))
    have HO : Hid (Below w.heap.size w W ∧ W.heap.size = w.heap.size + 1 ∧ nb ≠ wb ∧ nb ≠ mf.b ∧ nb ≠ mf.a ∧ nb < w.heap.size ∧ mf.b < w.heap.size) := ⟨hBW, hWs, hnw, hnm, hnma, hnl2, hbm⟩
    clear hS hall hW hWk hV hw hm ht hn hb hnb hnw hnm hnma hnl2 hbm hBW b5 b6
    simp only [planL, putAll, List.setIfInBounds_toArray, List.set_cons_zero, List.set_cons_succ]
    go_wp2_with (go_at_call 29; refine cO.mono ?_; rintro e w2 ⟨rfl, hv⟩; clear cO; refine Stop.out ?_)
    refine Stop.mk ?_
    obtain ⟨w1, hb1, ⟨g, cap, g7, cap7, y1, y2, y3, y4⟩, hw2⟩ := hv
    obtain ⟨hw, hm, ht, hn, hb⟩ := HW.out
    obtain ⟨hBW, hWs, hnw, hnm, hnma, hnl2, hbm⟩ := HO.out
    have hw1 : BlkAt W wb cs 71 := hw.below hBW
    have hbW : W.heap[bg]? = some (.cells #[u8v x0, u8v x1, u8v x2] 5 (3, 4)) := (hBW.block bg hbl).trans hb
    have tagne : ∀ {k : Nat} {cs' : Array Value} {t' : TypeId} {fr : Nat × Nat}, W.heap[k]? = some (.cells cs' t' fr) → t' ≠ 71 → t' ≠ 61 → ¬ (k = mf.b ∨ k = wb) := by
      intro k cs' t' fr hk h1 h2 e
      rcases e with e | e
      · obtain ⟨c3, h3, _⟩ := (hm.below hBW).row
        rw [e, h3] at hk
        simp only [Option.some.injEq, Obj.cells.injEq] at hk
        exact h2 hk.2.1.symm
      · rw [e, show W.heap[wb]? = _ from hw1] at hk
        simp only [Option.some.injEq, Obj.cells.injEq] at hk
        exact h1 hk.2.1.symm
    have hb1' : w1.heap[bg]? = some (.cells #[u8v x0, u8v x1, u8v x2] 5 (3, 4)) := (hb1.block bg (by omega) (tagne hbW (by decide) (by decide))).trans hbW
    have hbn : bg ≠ nb := fun e => by
      have h3 : w.heap[nb]? = _ := hn
      rw [← e, hb] at h3
      simp only [Option.some.injEq, Obj.cells.injEq] at h3
      exact absurd h3.2.1 (by decide)
    have hn1' : NumsAt w1 nb ns := (hn.below hBW hnl2).but hb1 (fun e => by rcases e with e | e; exact hnm e; exact hnw e)
    have own2 : ∀ {e : TypeId} {size g cap : Nat} {xs : List Value}, e ≠ 55 → w1.ownsRow W.heap.size e size (.slice (some ⟨g, 0, none⟩) 1 cap) 1 xs → w2.ownsRow w.heap.size e size (.slice (some ⟨g, 0, none⟩) 1 cap) 1 xs := by
      intro e size g cap xs he ho
      have hgn : g ≠ nb := fun eg => by
        obtain ⟨g', cap', cur, e', _, hblk, _⟩ : ∃ g' cap' cur, (Value.slice (some ⟨g, 0, none⟩) 1 cap) = .slice (some ⟨g', 0, none⟩) 1 cap' ∧ W.heap.size ≤ g' ∧ w1.heap[g']? = some (.cells cur e (0, 0)) ∧ True := by
          rcases ho.2 with ⟨e, _⟩ | ⟨g', cap', cur, e, hge, hblk, _⟩
          · cases e
          · exact ⟨g', cap', cur, e, hge, hblk, trivial⟩
        cases e'
        rw [eg, show w1.heap[nb]? = _ from hn1'] at hblk
        simp only [Option.some.injEq, Obj.cells.injEq] at hblk
        exact he hblk.2.1.symm
      rw [hw2]
      exact own_low_base (own_set ho (fun k hk => own_ne hgn hk) _ _) (by omega)
    have z2 := own2 (by decide) y2
    have z3 := own2 (by decide) y3
    have z1 : BlkAt w2 wb ((cs.set 2 (.slice (some ⟨g, 0, none⟩) 1 cap)).set 7 (.slice (some ⟨g7, 0, none⟩) 1 cap7)) 71 := by rw [hw2]; exact (Below.heap_setCell _ _ _ _ (fun e => hnw e.symm)).trans y1
    have zn : NumsAt w2 nb (ns.set 1 (BitVec.ofNat 32 r)) := by rw [hw2]; exact hn1'.set 1 _
    have zm : Bm.MapAt w2 (mf.turn r) := by rw [hw2]; exact y4.keep (Bm.Only.setCell (S := fun k => k = nb) w1 _ _ rfl) (fun e => hnma e.symm) (fun e => hnm e.symm)
    have zb : w2.heap[bg]? = some (.cells #[u8v x0, u8v x1, u8v x2] 5 (3, 4)) := by rw [hw2]; exact (Below.heap_setCell _ _ _ _ hbn).trans hb1'
    have zB : But (fun k => k = mf.b ∨ k = wb ∨ k = nb) w w2 := by
      rw [hw2]
      exact ((But.of_below hBW).trans (hb1.mono (fun k _ e => by rcases e with e | e; exact .inl e; exact .inr (.inl e)))).setCell _ (.inr (.inr rfl)) _
    have s0 := own_cell1 z3 (j := 0) rfl
    have s1 := own_cell1 z3 (j := 1) rfl
    have s2 := own_cell1 z3 (j := 2) rfl
    have l7 : ((cs.set 2 (.slice (some ⟨g, 0, none⟩) 1 cap)).set 7 (.slice (some ⟨g7, 0, none⟩) 1 cap7))[7]? = some (.slice (some ⟨g7, 0, none⟩) 1 cap7) := by rw [List.getElem?_set_self (by rw [List.length_set]; omega)]
    have d7 := z1.cell l7
    have HZ : Hid (BlkAt w2 wb ((cs.set 2 (.slice (some ⟨g, 0, none⟩) 1 cap)).set 7 (.slice (some ⟨g7, 0, none⟩) 1 cap7)) 71 ∧ w2.ownsRow w.heap.size 3 1 (.slice (some ⟨g, 0, none⟩) 1 cap) 1 [.int .i64 (r : Nat)] ∧ NumsAt w2 nb (ns.set 1 (BitVec.ofNat 32 r)) ∧ Bm.MapAt w2 (mf.turn r) ∧ w2.heap[bg]? = some (.cells #[u8v x0, u8v x1, u8v x2] 5 (3, 4)) ∧ But (fun k => k = mf.b ∨ k = wb ∨ k = nb) w w2 ∧ nb ≠ wb ∧ wb ≠ mf.b ∧ wb ≠ mf.a) := ⟨z1, z2, zn, zm, zb, zB, hnw, map_b_ne hm hw (by decide), map_a_ne hm hw (by decide)⟩
    clear hw hm ht hn hb hBW hWs hnm hnma hnl2 hbm hw1 hbW tagne hb1' hbn hn1' own2 z1 z2 z3 zn zm zb zB l7 y1 y2 y3 y4 hb1 hw2 hnw
    go_wp2_with fail
    go_loopw [42] (fun ii wr => ∃ i : Nat, i ≤ 1 ∧ ii = .int .i64 i ∧ Hid ((i = 0 ∧ wr = w2) ∨ (i = 1 ∧ Planned w wr wb nb cs ns mf r x0 x1 x2))) (fun ii _ => 1 - (intOf ii).toNat)
    case atStart => exact ⟨0, by omega, rfl, .inl ⟨rfl, rfl⟩⟩
    case round =>
      obtain ⟨i, hi, rfl, HI⟩ := hrel
      by_cases hi0 : i = 0
      · subst hi0
        obtain rfl : wr = w2 := by
          rcases HI.out with ⟨_, e⟩ | ⟨e, _⟩
          · exact e
          · cases e
        clear HI d7
        have l4 : ((cs.set 2 (.slice (some ⟨g, 0, none⟩) 1 cap)).set 7 (.slice (some ⟨g7, 0, none⟩) 1 cap7))[4]? = some (.slice none 0 0) := by rw [List.getElem?_set_ne (by decide), List.getElem?_set_ne (by decide)]; exact h4
        have l5 : ((cs.set 2 (.slice (some ⟨g, 0, none⟩) 1 cap)).set 7 (.slice (some ⟨g7, 0, none⟩) 1 cap7))[5]? = some (.int .i64 700) := by rw [List.getElem?_set_ne (by decide), List.getElem?_set_ne (by decide)]; exact h5
        have l6 : ((cs.set 2 (.slice (some ⟨g, 0, none⟩) 1 cap)).set 7 (.slice (some ⟨g7, 0, none⟩) 1 cap7))[6]? = some (.slice (some ⟨bg, 0, none⟩) 3 3) := by rw [List.getElem?_set_ne (by decide), List.getElem?_set_ne (by decide)]; exact h6
        obtain ⟨w3, hw3⟩ : ∃ w3, w3 = wr.alloc (.cells #[.int .i64 1, .int .u32 (r : Nat), .bool true] 102) := ⟨_, rfl⟩
        have hB3 : Below wr.heap.size wr w3 := by rw [hw3]; exact (Below.refl _ wr).alloc (Nat.le_refl _) _
        obtain ⟨z1, z2, zn, zm, zb, zB, hnw, hwb, hwa⟩ := HZ.out
        have cF := fill_first wb bg r _ x0 x1 x2 w3 (z1.below hB3) l4 l5 l6 hr (.inl ((hB3.block bg (Array.getElem?_eq_some_iff.1 zb).1).trans zb))
        have H3 : Hid (Below wr.heap.size wr w3) := hB3
        clear hB3 z1 z2 zn zm zb zB hnw hwb hwa l4 l5 l6
        go_wp2_with (go_at_call 42; rw [← hw3]; refine cF.mono ?_; rintro e w4 ⟨rfl, hv⟩; clear cF hw3; refine Stop.out ?_)
        refine Stop.mk ?_
        obtain ⟨g4, cap4, v1, v2, v3, v4⟩ := hv
        obtain ⟨z1, z2, zn, zm, zb, zB, hnw, hwb, hwa⟩ := HZ.out
        have hs3 := H3.out.size
        have hsB := zB.size
        have HP : Hid (Planned w w4 wb nb cs ns mf r x0 x1 x2) := by
          refine ⟨⟨g, cap, g7, cap7, g4, cap4, w3.heap.size + 1, v1, own_butI (own_belowT z2 H3.out) v4 (fun k c3 hk hc e => ?_), own_low_base v2 (by omega), v3, by omega⟩, (zn.below H3.out zn.lt).but v4 hnw, (zm.below H3.out).keep (but_only v4) (fun e => hwa e.symm) (fun e => hwb e.symm), zB.trans ((But.of_below H3.out).trans (v4.mono (fun k _ e => .inr (.inl e))))⟩
          rw [e, show w3.heap[wb]? = _ from z1.below H3.out] at hc
          simp only [Option.some.injEq, Obj.cells.injEq] at hc
          exact absurd hc.2.1 (by decide)
        clear v1 v2 v3 v4 z1 z2 zn zm zb zB hnw hwb hwa hs3 hsB s0 s1 s2
        go_wp2
        exact ⟨⟨1, by omega, rfl, .inr ⟨rfl, HP.out⟩⟩, by simp [intOf]⟩
      · obtain rfl : i = 1 := by omega
        have HP : Hid (Planned w wr wb nb cs ns mf r x0 x1 x2) := by
          rcases HI.out with ⟨e, _⟩ | ⟨_, h⟩
          · omega
          · exact h
        clear HI
        go_wp2
        go_ret
        exact ⟨rfl, HP.out⟩

end Go.Proofs.YtebdgcoandfocaaGreatDoor
