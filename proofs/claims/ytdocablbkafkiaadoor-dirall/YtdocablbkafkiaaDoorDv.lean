/-
  A name gets a number: Put.
-/
import Derived.Test.YtdocablbkafkiaaDoorDu
namespace Go.Proofs.YtdocablbkafkiaaDoor.Cd
open Go.RowKit

/-- The entry at j of block i gets number k. -/
theorem renum {w : World} {base a : Nat} {D : List (List En)} {bv : Value} {vs : List Value} (h1 : DirAt w base a (total D) bv vs D) (h2 : Good D) {i j : Nat} {L : List En} {x : En} (hL : D[i]? = some L) (hx : L[j]? = some x) {k : Nat} (hk : 1 ≤ k ∧ k ≤ 2147483647) {g c : Nat} (hv : vs[i]? = some (.slice (some ⟨g, 0, none⟩) L.length c)) :
    ∃ D', DirOk (w.setCell ⟨g, j * 2 + 1, none⟩ (.int .i64 (k : Nat))) base a D' ∧ (∀ q, q ∈ D'.flatten ↔ (q ∈ D.flatten ∧ q.name ≠ x.name) ∨ q = ⟨x.name, k⟩) ∧ total D' = total D ∧ Fr base w (w.setCell ⟨g, j * 2 + 1, none⟩ (.int .i64 (k : Nat))) := by
  have hblk := h1.rows.row i _ L hv hL
  have hil := (List.getElem?_eq_some_iff.1 hL).1
  have hjl := (List.getElem?_eq_some_iff.1 hx).1
  have hxg : L[j] = x := (List.getElem?_eq_some_iff.1 hx).2
  have hnew : Blk (w.setCell ⟨g, j * 2 + 1, none⟩ (.int .i64 (k : Nat))) base (.slice (some ⟨g, 0, none⟩) L.length c) (L.set j { x with num := k }) := by
    have := (World.ownsRow.stored hblk (j * 2 + 1) (.int .i64 (k : Nat))).1
    unfold Blk
    rw [List.length_set, ents_set L j x k hx]
    exact this
  have ho : Only (fun q => q = g) w (w.setCell ⟨g, j * 2 + 1, none⟩ (.int .i64 (k : Nat))) := Only.setCell _ _ _ rfl
  obtain ⟨t1, t2, cur, t3⟩ := hblk.tag (g := g) rfl
  have hfr : Fr base w (w.setCell ⟨g, j * 2 + 1, none⟩ (.int .i64 (k : Nat))) := Only.weak ho (fun q _ hq => by rw [hq]; exact ⟨t1, _, _, _, t3, .inr (.inr rfl)⟩)
  have hnames : (D.set i (L.set j { x with num := k })).map (List.map En.name) = D.map (List.map En.name) := by
    rw [List.map_set, List.map_set]
    have e1 : (L.map En.name).set j ({ x with num := k } : En).name = L.map En.name := by
      apply List.ext_getElem?
      intro q
      rw [List.getElem?_set]
      split
      · subst q; split
        · rw [List.getElem?_map, hx]; rfl
        · rw [List.getElem?_eq_none (by omega)]
      · rfl
    rw [e1]
    apply List.ext_getElem?
    intro q
    rw [List.getElem?_set]
    split
    · subst q; split
      · rw [List.getElem?_map, hL]; rfl
      · rw [List.getElem?_eq_none (by omega)]
    · rfl
  have htot : total (D.set i (L.set j { x with num := k })) = total D := by
    have := total_set (c := L.set j { x with num := k }) hL
    rw [List.length_set] at this; omega
  have hmem : ∀ q, q ∈ (D.set i (L.set j { x with num := k })).flatten ↔ (q ∈ D.flatten ∧ q.name ≠ x.name) ∨ q = ⟨x.name, k⟩ := fun q => by
    have hsrt := h2.wf.srt i L hL
    have inL : ∀ q, q ∈ L.set j { x with num := k } ↔ (q ∈ L ∧ q.name ≠ x.name) ∨ q = ⟨x.name, k⟩ := fun q => by
      constructor
      · intro hq
        obtain ⟨m, hm, e⟩ := List.getElem_of_mem hq
        rw [List.length_set] at hm
        rw [List.getElem_set] at e
        split at e
        · exact .inr e.symm
        · refine .inl ⟨by rw [← e]; exact List.getElem_mem _, ?_⟩
          rw [← e]
          rcases Nat.lt_or_gt_of_ne (show m ≠ j by omega) with hlt | hlt
          · have := less_ne (List.pairwise_iff_getElem.1 hsrt m j hm hjl hlt)
            rwa [hxg] at this
          · have := (less_ne (List.pairwise_iff_getElem.1 hsrt j m hjl hm hlt)).symm
            rwa [hxg] at this
      · rintro (⟨hq, hn⟩ | rfl)
        · obtain ⟨m, hm, e⟩ := List.getElem_of_mem hq
          have : j ≠ m := fun e' => hn (by rw [← e, ← hxg]; subst e'; rfl)
          refine List.mem_iff_getElem?.2 ⟨m, ?_⟩
          rw [List.getElem?_set_ne this, List.getElem?_eq_getElem hm, e]
        · exact List.mem_iff_getElem?.2 ⟨j, by rw [List.getElem?_set_self hjl]⟩
    rw [mem_set hL, inL, mem_at]
    constructor
    · rintro ((⟨h3, h4⟩ | h3) | ⟨m, d, hne, hd, hq⟩)
      · exact .inl ⟨⟨i, L, hL, h3⟩, h4⟩
      · exact .inr h3
      · exact .inl ⟨⟨m, d, hd, hq⟩, h2.wf.apart m i d L hd hL hne q hq x (by rw [← hxg]; exact List.getElem_mem _)⟩
    · rintro (⟨⟨m, d, hd, hq⟩, hn⟩ | h3)
      · by_cases e : m = i
        · subst e; rw [hL] at hd; cases hd; exact .inl (.inl ⟨hq, hn⟩)
        · exact .inr ⟨m, d, e, hd, hq⟩
      · exact .inl (.inr h3)
  refine ⟨D.set i (L.set j { x with num := k }), ⟨⟨bv, vs, ?_⟩, ?_⟩, hmem, htot, hfr⟩
  · rw [htot]
    refine ⟨h1.lo, ?_, ?_, by simpa using h1.rows.len, fun m u M hu hM => ?_, h1.rows.apart⟩
    · rw [ho.block a (block_lt h1.dir) (fun e => ?_)]; exact h1.dir
      have := h1.dir; rw [e, t3] at this; cases this
    · rw [List.length_set]
      refine Only.ownsAny ho h1.blocks (fun b hb e => ?_)
      rcases h1.blocks.2 with ⟨e', _⟩ | ⟨g', _, cur', e', _, hg', _⟩
      · rw [e'] at hb; cases hb
      · rw [e'] at hb
        have : g' = b := by injection hb
        rw [this, e, t3] at hg'; cases hg'
    · by_cases e : i = m
      · subst e
        rw [List.getElem?_set_self hil] at hM
        rw [hv] at hu
        cases hu; cases hM; exact hnew
      · rw [List.getElem?_set_ne e] at hM
        refine (h1.rows.row m u M hu hM).kept ho (fun b hb e' => ?_)
        exact h1.rows.apart i m _ u g e hv hu rfl (by rw [hb, e'])
  · refine ⟨by rw [List.length_set]; exact h2.wf.same_names hnames, by rw [List.length_set, htot]; exact h2.len, by rw [htot]; exact h2.most, fun q hq => ?_⟩
    rcases (hmem q).1 hq with ⟨h3, _⟩ | rfl
    · exact h2.fine q h3
    · exact ⟨(h2.fine x ((mem_at x).2 ⟨i, L, hL, by rw [← hxg]; exact List.getElem_mem _⟩)).1, hk⟩

end Go.Proofs.YtdocablbkafkiaaDoor.Cd
