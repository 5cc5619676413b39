/-
  An entry is laid down: place.
-/
import Derived.Test.YtdocablbkafkiaaDoorDk
namespace Go.Proofs.YtdocablbkafkiaaDoor.Cd
open Go.RowKit Go.Lib

theorem add_room (base B k : Nat) (cs : Array Value) (v : Value) (L : List En) (x : En) (w : World) (hB : w.heap[B]? = some (.cells cs 57 (0, 0))) (hk : cs[k]? = some v) (h : Blk w base v L) (hb : base ≤ w.heap.size) (hs : Srt L) (hl : L.length < 7) :
    Calls Tryd.prog 41 #[.pointer (some ⟨B, k, none⟩), .agg #[.string (bas x.name), .int .i64 (x.num : Nat)]] w fun e w' => e = .returned (.tuple #[.agg #[.string ⟨#[]⟩, .int .i64 0], .bool false]) ∧ ∃ v', Turned base B k cs v v' (ins L x) w w' := by
  refine (add_any base B k cs v L x w hB hk h hb hs (by omega)).mono ?_
  rintro e w' ⟨v', ⟨_, h1, h2⟩ | ⟨h0, _⟩⟩
  · exact ⟨h1, v', h2⟩
  · omega
theorem add_full (base B k : Nat) (cs : Array Value) (v : Value) (L : List En) (x z : En) (w : World) (hB : w.heap[B]? = some (.cells cs 57 (0, 0))) (hk : cs[k]? = some v) (h : Blk w base v L) (hb : base ≤ w.heap.size) (hs : Srt L) (hl : L.length = 7) (hz : (ins L x)[7]? = some z) :
    Calls Tryd.prog 41 #[.pointer (some ⟨B, k, none⟩), .agg #[.string (bas x.name), .int .i64 (x.num : Nat)]] w fun e w' => e = .returned (.tuple #[.agg #[.string (bas z.name), .int .i64 (z.num : Nat)], .bool true]) ∧ ∃ v', Turned base B k cs v v' ((ins L x).take 7) w w' := by
  refine (add_any base B k cs v L x w hB hk h hb hs (by omega)).mono ?_
  rintro e w' ⟨v', ⟨h0, _⟩ | ⟨_, z', h0, h1, h2⟩⟩
  · omega
  · rw [hz] at h0; cases h0; exact ⟨h1, v', h2⟩

/-- The row of the blocks. -/
theorem DirAt.at_ {w : World} {base a count : Nat} {bv : Value} {vs : List Value} {D : List (List En)} (h : DirAt w base a count bv vs D) {i : Nat} {L : List En} (hi : D[i]? = some L) : ∃ B c cur v, bv = .slice (some ⟨B, 0, none⟩) D.length c ∧ w.heap[B]? = some (.cells cur 57 (0, 0)) ∧ cur[i]? = some v ∧ vs[i]? = some v ∧ Blk w base v L := by
  have hlt := (List.getElem?_eq_some_iff.1 hi).1
  rcases h.blocks.2 with ⟨_, h0⟩ | ⟨B, c, cur, e, hb, hg, hn, hm, hs, ht⟩
  · omega
  · have hvl := h.rows.len
    obtain ⟨v, hv⟩ : ∃ v, vs[i]? = some v := ⟨_, List.getElem?_eq_getElem (by omega)⟩
    refine ⟨B, c, cur, v, e, hg, ?_, hv, h.rows.row i v L hv hi⟩
    rw [← ht, List.getElem?_take] at hv
    split at hv
    · rw [← Array.getElem?_toList]; exact hv
    · cases hv
theorem DirAt.turned {w w' : World} {base a count : Nat} {bv : Value} {vs : List Value} {D : List (List En)} (h : DirAt w base a count bv vs D) {i B c : Nat} {cur : Array Value} {v v' : Value} {L L' : List En} (hi : D[i]? = some L) (hbv : bv = .slice (some ⟨B, 0, none⟩) D.length c) (hB : w.heap[B]? = some (.cells cur 57 (0, 0))) (hv : vs[i]? = some v)
    (ht : Turned base B i cur v v' L' w w') : DirAt w' base a count bv (vs.set i v') (D.set i L') ∧ Fr base w w' := by
  have hblk := h.rows.row i v L hv hi
  have hil := (List.getElem?_eq_some_iff.1 hv).1
  have hBlo : base ≤ B := by
    rcases h.blocks.2 with ⟨e, h0⟩ | ⟨g, c', cur', e, hb, _⟩
    · rw [hbv] at e; cases e
    · rw [hbv] at e; cases e; exact hb
  have hfr : Fr base w w' := by
    refine Only.weak ht.only (fun j _ hj => ?_)
    rcases hj with rfl | hj
    · exact ⟨hBlo, _, _, _, hB, .inr (.inl rfl)⟩
    · obtain ⟨h1, _, cur', h3⟩ := hblk.tag hj
      exact ⟨h1, _, _, _, h3, .inr (.inr rfl)⟩
  have hnB : ∀ (j : Nat) u g, vs[j]? = some u → u.ownBlock = some g → g ≠ B := fun j u g hu hg e => by
    have hjl := (List.getElem?_eq_some_iff.1 hu).1
    obtain ⟨M, hM⟩ : ∃ M, D[j]? = some M := ⟨_, List.getElem?_eq_getElem (by have := h.rows.len; omega)⟩
    obtain ⟨_, _, cur', h3⟩ := (h.rows.row j u M hu hM).tag hg
    rw [e, hB] at h3; cases h3
  refine ⟨⟨h.lo, ?_, ?_, ?_⟩, hfr⟩
  · rw [ht.only.block a (block_lt h.dir) ?_]; exact h.dir
    rintro (e | e)
    · have := h.dir; rw [e, hB] at this; cases this
    · obtain ⟨_, _, cur', h3⟩ := hblk.tag e
      rw [h.dir] at h3; cases h3
  · rcases h.blocks.2 with ⟨e, h0⟩ | ⟨g, c', cur', e, hb, hg, hn, hm, hs, htk⟩
    · rw [hbv] at e; cases e
    · rw [hbv] at e; cases e
      rw [hB] at hg; cases hg
      refine ⟨by simp [h.rows.len], .inr ⟨B, c, _, by rw [List.length_set]; exact hbv, hb, ht.row, by rw [List.length_set]; exact hn, hm, by simpa using hs, ?_⟩⟩
      rw [List.length_set, Array.toList_setIfInBounds, List.take_set, htk]
  · refine ⟨by simp [h.rows.len], fun j u M hu hM => ?_, fun j j' u u' g hne hu hu' hg => ?_⟩
    · by_cases e : i = j
      · subst e
        rw [List.getElem?_set_self hil] at hu
        rw [List.getElem?_set_self (List.getElem?_eq_some_iff.1 hi).1] at hM
        cases hu; cases hM; exact ht.blk
      · rw [List.getElem?_set_ne e] at hu hM
        refine (h.rows.row j u M hu hM).kept ht.only (fun g hg hS => ?_)
        rcases hS with rfl | hS
        · exact hnB j u _ hu hg rfl
        · exact h.rows.apart i j v u g e hv hu hS hg
    · by_cases e : i = j <;> by_cases e' : i = j'
      · omega
      · subst e
        rw [List.getElem?_set_self hil] at hu; cases hu
        rw [List.getElem?_set_ne e'] at hu'
        rcases ht.new with k | ⟨g', k, hlt⟩
        · rw [k] at hg; exact h.rows.apart i j' v u' g e' hv hu' hg
        · rw [k] at hg; cases hg
          intro k'
          have hjl := (List.getElem?_eq_some_iff.1 hu').1
          have := ((h.rows.row j' u' _ hu' (List.getElem?_eq_getElem (by have := h.rows.len; omega))).tag k').2.1
          omega
      · subst e'
        rw [List.getElem?_set_self hil] at hu'; cases hu'
        rw [List.getElem?_set_ne e] at hu
        intro k'
        rcases ht.new with k | ⟨g', k, hlt⟩
        · rw [k] at k'; exact h.rows.apart i j v u g e hv hu k' hg
        · rw [k] at k'; cases k'
          have hjl := (List.getElem?_eq_some_iff.1 hu).1
          have := ((h.rows.row j u _ hu (List.getElem?_eq_getElem (by have := h.rows.len; omega))).tag hg).2.1
          omega
      · rw [List.getElem?_set_ne e] at hu
        rw [List.getElem?_set_ne e'] at hu'
        exact h.rows.apart j j' u u' g hne hu hu' hg

end Go.Proofs.YtdocablbkafkiaaDoor.Cd
