/-
  What the proof leans on, part 21.
-/
import Derived.Test.YtebdgcoandfocaaGreatDoorQ19

/-
  What a write leaves of a file: all of it. Pure: no program.
-/
namespace Go.Proofs.YtebdgcoandfocaaGreatDoor
open Go.RowKit

def atG (G' : Ino.Gs) (q : Nat × By) : Nat × By := ((G' q.1).toNat, q.2)
theorem puts_idx {V : Nat → By} {G' : Ino.Gs} {Q : List (Nat × By)} (hn : (Q.map Prod.fst).Nodup) (hi : ∀ i j, G' i = G' j → G' i ≠ 0 → i = j) (hz : ∀ q ∈ Q, G' q.1 ≠ 0) :
    (∀ i d, (i, d) ∈ Q → Ino.putsV V (Q.map (atG G')) (G' i).toNat = d) ∧ (∀ i, i ∉ Q.map Prod.fst → G' i ≠ 0 → Ino.putsV V (Q.map (atG G')) (G' i).toNat = V (G' i).toNat) := by
  have hnd : ((Q.map (atG G')).map Prod.fst).Nodup := by
    rw [List.map_map]
    have hn' : Q.Pairwise fun a b => a.1 ≠ b.1 := by rwa [List.nodup_iff_pairwise_ne, List.pairwise_map] at hn
    rw [List.nodup_iff_pairwise_ne, List.pairwise_map]
    refine hn'.imp_of_mem ?_
    intro a b ha hb hab e
    exact hab (hi a.1 b.1 (BitVec.eq_of_toNat_eq e) (hz a ha))
  refine ⟨fun i d h => ?_, fun i h hz' => ?_⟩
  · exact Ino.putsV_mem (q := ((G' i).toNat, d)) hnd (List.mem_map.2 ⟨(i, d), h, rfl⟩)
  · refine Ino.putsV_not fun q hq e => ?_
    obtain ⟨a, ha, rfl⟩ := List.mem_map.1 hq
    have e : (G' a.1).toNat = (G' i).toNat := e
    have := hi a.1 i (BitVec.eq_of_toNat_eq e) (hz a ha)
    exact h (List.mem_map.2 ⟨a, ha, this⟩)

/-- A write's puts, by indices. -/
def wQ (f t : Nat) (G G' : Ino.Gs) (W' : Nat → BitVec 8) : List (Nat × By) :=
  (if (f < 72 ∧ 8 < t) ∧ Ino.tab1 G' ≠ Ino.tab1 G then [(128, Ino.tabB (Ino.tab1 G'))] else []) ++ (if 72 < t ∧ Ino.tab2 G' ≠ Ino.tab2 G then [(130, Ino.tabB (Ino.tab2 G'))] else []) ++ (if 72 < t ∧ Ino.tabd G' ≠ Ino.tabd G then [(129, Ino.tabB (Ino.tabd G'))] else []) ++ (wSpan f t).map fun p => (p, Ino.slab W' p)

theorem putIf_idx (c : Prop) [Decidable c] (G' : Ino.Gs) (i : Nat) (T T0 : List (BitVec 32)) : putIf c (G' i) T T0 = (if c ∧ T ≠ T0 then [(i, Ino.tabB T)] else []).map (atG G') := by
  unfold putIf
  by_cases h1 : c <;> by_cases h2 : T = T0
  all_goals simp [h1, h2, atG]

theorem wSpan_nodup {f t : Nat} : (wSpan f t).Nodup := by
  unfold wSpan
  rw [List.nodup_append, List.nodup_append]
  refine ⟨⟨Ino.span_nodup _ _, ?_, ?_⟩, ?_, ?_⟩
  · split
    · exact Ino.span_nodup _ _
    · exact List.nodup_nil
  · intro a ha b hb
    have h1 := Ino.mem_span.1 ha
    split at hb
    · have h2 := Ino.mem_span.1 hb; omega
    · cases hb
  · split
    · exact Ino.span_nodup _ _
    · exact List.nodup_nil
  · intro a ha b hb
    split at hb
    · have h2 := Ino.mem_span.1 hb
      rcases List.mem_append.1 ha with ha | ha
      · have h1 := Ino.mem_span.1 ha; omega
      · split at ha
        · have h1 := Ino.mem_span.1 ha; omega
        · cases ha
    · cases hb

set_option maxRecDepth 8000 in
set_option maxHeartbeats 1000000 in
/-- All that a write leaves. -/
theorem File.wrote {n : Nat} {U U' : Nat → Bool} {V : Nat → By} {G G' : Ino.Gs} {sz k at_ : Nat} {W : Nat → BitVec 8} {bs : By} (h : Ino.File n U V G sz W) (hn : n ≤ 65536) (hb1 : 1 ≤ bs.length) (hat : at_ + bs.length ≤ 65536)
    (he : Ino.ensure (Ino.freeB n U) G 0 (Ino.idx (at_ / 512) (blocksOf (at_ + bs.length))) = some (G', k))
    (hU : ∀ x, x < n → (U' x = true ↔ U x = true ∨ x ∈ (Ino.frees n U).take k))
    (P : List (Nat × By)) (hP : P = wPuts (at_ / 512) (blocksOf (at_ + bs.length)) G G' ++ (spots G G' (wSpan (at_ / 512) (blocksOf (at_ + bs.length)))).map fun q => (q.2.1.toNat, fillB V at_ bs q.1 q.2.1 q.2.2)) :
    Ino.File n U' (Ino.putsV V P) G' (max sz (at_ + bs.length)) (Ino.wrote W at_ bs) ∧ (∀ q ∈ P, q.1 < n) ∧ P.length ≤ 131 := by
  obtain ⟨f, hf⟩ : ∃ f, at_ / 512 = f := ⟨_, rfl⟩
  obtain ⟨t, ht0⟩ : ∃ t, blocksOf (at_ + bs.length) = t := ⟨_, rfl⟩
  rw [hf, ht0] at he hP
  have htd : t = (at_ + bs.length + 511) / 512 := by rw [← ht0]; rfl
  have ht : t ≤ 128 := by omega
  have hft : f < t := by omega
  have hfr := h.free (by omega)
  have E : Ino.Ens G (Ino.freeB n U) (Ino.idx f t) G' k := Ino.ensure_all h.inj (Ino.freeB_nodup (by omega)) hfr he
  have mi := fun x => @Ino.mem_idx f t x ht hft
  have keep : ∀ i, G i ≠ 0 → G' i = G i := E.tak.old
  have hlt' : ∀ i, G' i ≠ 0 → (G' i).toNat < n := by
    intro i hi
    by_cases hz : G i = 0
    · obtain ⟨j, _, hj⟩ := E.tak.new i hi hz
      exact (Ino.mem_freeB (by omega) (List.mem_of_getElem? hj)).1
    · rw [keep i hz]; exact h.lt i hz
  have hslab : ∀ p, p ∈ wSpan f t → fillB V at_ bs p (G' p) (decide (G p = 0)) = Ino.slab (Ino.wrote W at_ bs) p := by
    intro p hp
    obtain ⟨p1, p2⟩ := (mem_wSpan ht hft).1 hp
    have hd := h.data p (by omega)
    refine fillB_slab (by omega) (by omega) hb1 (fun e => ?_) (fun e => ?_)
    · have hz : G p = 0 := by simpa using e
      rw [← hd, Ino.cont, if_pos hz]
    · have hz : G p ≠ 0 := by simpa using e
      rw [keep p hz, ← hd, Ino.cont, if_neg hz]
  have hQ : P = (wQ f t G G' (Ino.wrote W at_ bs)).map (atG G') := by
    rw [hP]
    unfold wPuts wQ
    rw [List.map_append, List.map_append, List.map_append, ← putIf_idx, ← putIf_idx, ← putIf_idx]
    congr 1
    unfold spots
    rw [List.map_map, List.map_map]
    refine List.map_congr_left fun p hp => ?_
    show ((G' p).toNat, fillB V at_ bs p (G' p) (decide (G p = 0))) = ((G' p).toNat, _)
    rw [hslab p hp]
  have hmem : ∀ i d, (i, d) ∈ wQ f t G G' (Ino.wrote W at_ bs) ↔ ((i, d) = (128, Ino.tabB (Ino.tab1 G')) ∧ (f < 72 ∧ 8 < t) ∧ Ino.tab1 G' ≠ Ino.tab1 G) ∨ ((i, d) = (130, Ino.tabB (Ino.tab2 G')) ∧ 72 < t ∧ Ino.tab2 G' ≠ Ino.tab2 G) ∨ ((i, d) = (129, Ino.tabB (Ino.tabd G')) ∧ 72 < t ∧ Ino.tabd G' ≠ Ino.tabd G) ∨ (i ∈ wSpan f t ∧ d = Ino.slab (Ino.wrote W at_ bs) i) := by
    intro i d
    unfold wQ
    simp only [List.mem_append, List.mem_map]
    constructor
    · rintro (((hx | hx) | hx) | ⟨p, hp, hx⟩)
      · split at hx
        · rename_i hc; exact .inl ⟨List.mem_singleton.1 hx, hc⟩
        · cases hx
      · split at hx
        · rename_i hc; exact .inr (.inl ⟨List.mem_singleton.1 hx, hc⟩)
        · cases hx
      · split at hx
        · rename_i hc; exact .inr (.inr (.inl ⟨List.mem_singleton.1 hx, hc⟩))
        · cases hx
      · cases hx; exact .inr (.inr (.inr ⟨hp, rfl⟩))
    · rintro (⟨hx, hc⟩ | ⟨hx, hc⟩ | ⟨hx, hc⟩ | ⟨hp, rfl⟩)
      · rw [if_pos hc]; exact .inl (.inl (.inl (List.mem_singleton.2 hx)))
      · rw [if_pos hc]; exact .inl (.inl (.inr (List.mem_singleton.2 hx)))
      · rw [if_pos hc]; exact .inl (.inr (List.mem_singleton.2 hx))
      · exact .inr ⟨i, hp, rfl⟩
  have hin : ∀ q ∈ wQ f t G G' (Ino.wrote W at_ bs), q.1 ∈ Ino.idx f t := by
    rintro ⟨i, d⟩ hq
    rw [mi]
    rcases (hmem i d).1 hq with ⟨e, h1, _⟩ | ⟨e, h1, _⟩ | ⟨e, h1, _⟩ | ⟨h1, _⟩
    · cases e; exact .inr (.inl ⟨rfl, h1.1, h1.2⟩)
    · cases e; exact .inr (.inr ⟨.inr rfl, h1⟩)
    · cases e; exact .inr (.inr ⟨.inl rfl, h1⟩)
    · exact .inl ((mem_wSpan ht hft).1 h1)
  have hnd : ((wQ f t G G' (Ino.wrote W at_ bs)).map Prod.fst).Nodup := by
    unfold wQ
    rw [List.map_append, List.map_append, List.map_append, List.map_map]
    have e4 : (wSpan f t).map (Prod.fst ∘ fun p => (p, Ino.slab (Ino.wrote W at_ bs) p)) = wSpan f t := by
      rw [show (Prod.fst ∘ fun p => (p, Ino.slab (Ino.wrote W at_ bs) p)) = id from rfl, List.map_id]
    rw [e4, List.nodup_append]
    refine ⟨?_, wSpan_nodup, ?_⟩
    · split <;> split <;> split <;> simp
    · intro a ha b hb
      have h1 := (mem_wSpan ht hft).1 hb
      have h2 : a = 128 ∨ a = 130 ∨ a = 129 := by
        split at ha <;> split at ha <;> split at ha <;> simp at ha <;> omega
      omega
  obtain ⟨v1, v2⟩ := puts_idx (V := V) hnd E.tak.inj (fun q hq => E.has q.1 (hin q hq))
  rw [← hQ] at v1 v2
  have hvis1 : f < 72 → 8 < t → Ino.tab1 G' ≠ Ino.zT := fun h1 h2 e => E.has (max f 8) (by rw [mi]; exact .inl ⟨by omega, by omega⟩) (Ino.tab1_zero.1 e _ (by omega) (by omega))
  have hvis2 : 72 < t → Ino.tab2 G' ≠ Ino.zT := fun h2 e => E.has (max f 72) (by rw [mi]; exact .inl ⟨by omega, by omega⟩) (Ino.tab2_zero.1 e _ (by omega) (by omega))
  have tok := File.tabOk h
  have hni : ∀ i, i = 128 ∨ i = 129 ∨ i = 130 → (∀ d, (i, d) ∉ wQ f t G G' (Ino.wrote W at_ bs)) → i ∉ (wQ f t G G' (Ino.wrote W at_ bs)).map Prod.fst := fun i _ hd hm => by
    obtain ⟨⟨a, b⟩, ha, e⟩ := List.mem_map.1 hm
    cases e
    exact hd b ha
  refine ⟨h.write hft ht E (fun x hx => ⟨(hfr x hx).1, (Ino.mem_freeB (by omega) hx).1⟩) ?_ ?_ ?_ ?_ ?_ ?_ ?_ (by omega) (by have := h.le; omega) (Ino.wrote_zero h.zero) (by omega), ?_, ?_⟩
  · intro x hx
    rw [hU x hx]
    refine or_congr Iff.rfl ⟨fun hm => ?_, ?_⟩
    · obtain ⟨j, hj, hje⟩ := List.getElem_of_mem hm
      rw [List.length_take] at hj
      rw [List.getElem_take] at hje
      refine ⟨j, BitVec.ofNat 32 x, by omega, ?_, ?_⟩
      · unfold Ino.freeB
        rw [List.getElem?_map, List.getElem?_eq_getElem (by omega), hje]; rfl
      · rw [BitVec.toNat_ofNat, Nat.mod_eq_of_lt (by omega)]
    · rintro ⟨j, r, hj, hr, rfl⟩
      unfold Ino.freeB at hr
      rw [List.getElem?_map] at hr
      obtain ⟨y, hy, rfl⟩ := Option.map_eq_some_iff.1 hr
      have hyl := (Ino.mem_frees.1 (List.mem_of_getElem? hy)).1
      rw [BitVec.toNat_ofNat, Nat.mod_eq_of_lt (by omega)]
      obtain ⟨hy1, hy2⟩ := List.getElem?_eq_some_iff.1 hy
      exact List.mem_iff_getElem.2 ⟨j, by rw [List.length_take]; omega, by rw [List.getElem_take]; exact hy2⟩
  · intro h1 h2
    by_cases hc : Ino.tab1 G' = Ino.tab1 G
    · have hg : G 128 ≠ 0 := fun e => hvis1 h1 h2 (hc.trans (tok.o0 e))
      rw [v2 128 (hni 128 (.inl rfl) fun d hm => by
        rcases (hmem 128 d).1 hm with ⟨_, _, e⟩ | ⟨e, _⟩ | ⟨e, _⟩ | ⟨e, _⟩
        · exact e hc
        · cases e
        · cases e
        · have := (mem_wSpan ht hft).1 e; omega) (by rw [keep 128 hg]; exact hg), keep 128 hg, h.t1 hg, hc]
    · exact v1 128 _ ((hmem _ _).2 (.inl ⟨rfl, ⟨h1, h2⟩, hc⟩))
  · intro h2
    by_cases hc : Ino.tabd G' = Ino.tabd G
    · have h130 : G 130 ≠ 0 := fun e => by
        have e2 : G' 130 = G 130 := by have := congrArg (fun l => l[0]?) hc; simpa [Ino.tabd] using this
        exact E.has 130 (by rw [mi]; exact .inr (.inr ⟨.inr rfl, h2⟩)) (e2.trans e)
      have hg : G 129 ≠ 0 := h.dbl.2 h130
      rw [v2 129 (hni 129 (.inr (.inl rfl)) fun d hm => by
        rcases (hmem 129 d).1 hm with ⟨e, _⟩ | ⟨e, _⟩ | ⟨_, _, e⟩ | ⟨e, _⟩
        · cases e
        · cases e
        · exact e hc
        · have := (mem_wSpan ht hft).1 e; omega) (by rw [keep 129 hg]; exact hg), keep 129 hg, h.td hg, hc]
    · exact v1 129 _ ((hmem _ _).2 (.inr (.inr (.inl ⟨rfl, h2, hc⟩))))
  · intro h2
    by_cases hc : Ino.tab2 G' = Ino.tab2 G
    · have hg : G 130 ≠ 0 := fun e => hvis2 h2 (hc.trans (tok.t0 e))
      rw [v2 130 (hni 130 (.inr (.inr rfl)) fun d hm => by
        rcases (hmem 130 d).1 hm with ⟨e, _⟩ | ⟨_, _, e⟩ | ⟨e, _⟩ | ⟨e, _⟩
        · cases e
        · exact e hc
        · cases e
        · have := (mem_wSpan ht hft).1 e; omega) (by rw [keep 130 hg]; exact hg), keep 130 hg, h.t2 hg, hc]
    · exact v1 130 _ ((hmem _ _).2 (.inr (.inl ⟨rfl, h2, hc⟩)))
  · intro p h1 h2
    exact v1 p _ ((hmem _ _).2 (.inr (.inr (.inr ⟨(mem_wSpan ht hft).2 ⟨h1, h2⟩, rfl⟩))))
  · intro i hi hg
    have := v2 i (fun hm => by
      obtain ⟨a, ha, e⟩ := List.mem_map.1 hm
      exact hi (e ▸ hin a ha)) (by rw [keep i hg]; exact hg)
    rwa [keep i hg] at this
  · intro p _ hnp
    exact Ino.wrote_out (by rw [hf]; rw [htd] at hnp; exact hnp)
  · intro q hq
    rw [hQ] at hq
    obtain ⟨a, ha, rfl⟩ := List.mem_map.1 hq
    exact hlt' a.1 (E.has a.1 (hin a ha))
  · rw [hQ, List.length_map]
    unfold wQ
    have := wSpan_length (f := f) ht
    simp only [List.length_append, List.length_map]
    split <;> split <;> split <;> simp <;> omega

end Go.Proofs.YtebdgcoandfocaaGreatDoor

/-
  Package inode: the hands of a cut.
-/
namespace Go.Proofs.YtebdgcoandfocaaGreatDoor
open Go.RowKit Go.Maps Go.Sort Go.Shelf

theorem spl_row (W : World) (g cap o ln : Nat) (base d : By) (cur : Array Value) (hblk : W.heap[g]? = some (.cells cur 5 (0, 0))) (hcs : cur.size = cap * 1) (hcap : 512 ≤ cap) (htk : cur.toList.take (512 * 1) = base.map u8v) (hbl : base.length = 512) (hd : d.length = ln) (ho : o + ln ≤ 512) :
    Bytes (W.setRow g (cur.toList.take o ++ d.map u8v ++ cur.toList.drop (o + ln)).toArray) (some ⟨g, 0, none⟩) (splB base o d) ∧ (∃ cs fr, (W.setRow g (cur.toList.take o ++ d.map u8v ++ cur.toList.drop (o + ln)).toArray).heap[g]? = some (.cells cs 5 fr)) ∧ But (fun k => k = g) W (W.setRow g (cur.toList.take o ++ d.map u8v ++ cur.toList.drop (o + ln)).toArray) := by
  have hcur : 512 ≤ cur.size := by omega
  have hrow' := setRow_heap W g cur (cur.toList.take o ++ d.map u8v ++ cur.toList.drop (o + ln)).toArray 5 (0, 0) hblk
  refine ⟨fun _ => ⟨g, 0, rfl, fun i x hi => ?_⟩, ⟨_, _, hrow'⟩, ⟨rfl, rfl, rfl, by simp, fun k _ hn => setRow_other W g k _ hn⟩⟩
  rw [Nat.zero_add, cellOf hrow' i, List.getElem?_toArray]
  have htake : cur.toList.take o = (base.take o).map u8v := by
    rw [List.map_take, ← htk, List.take_take]; congr 1; omega
  have hlen : (splB base o d).length = 512 := by rw [splB_length (by omega)]; exact hbl
  have hi5 : i < 512 := by have := (List.getElem?_eq_some_iff.1 hi).1; omega
  have e1 : (cur.toList.take o ++ d.map u8v ++ cur.toList.drop (o + ln)).take 512 = (splB base o d).map u8v := by
    unfold splB
    rw [htake, List.map_append, List.map_append, List.map_drop, ← htk, hd, List.take_append, List.drop_take]
    rw [List.take_of_length_le (by simp; omega)]
    congr 2
    simp; omega
  have e2 : (cur.toList.take o ++ d.map u8v ++ cur.toList.drop (o + ln))[i]? = ((cur.toList.take o ++ d.map u8v ++ cur.toList.drop (o + ln)).take 512)[i]? := by rw [List.getElem?_take, if_pos hi5]
  rw [e2, e1, List.getElem?_map, hi]; rfl

theorem clear_fill (W : World) (g cap lo o : Nat) (base : By) (hrow : W.ownsRow lo 5 1 (.slice (some ⟨g, 0, none⟩) 512 cap) 512 (base.map u8v)) (ho : o < 512) :
    ∃ W', (∀ ty, (Builtin.clear_ #[30] ty #[.slice (some ⟨g, o, none⟩) (512 - o) (cap - o)]).run Tryz.prog W = .ok (.tuple #[]) W') ∧ Bytes W' (some ⟨g, 0, none⟩) (splB base o (List.replicate (512 - o) 0#8)) ∧ (∃ cs fr, W'.heap[g]? = some (.cells cs 5 fr)) ∧ But (fun k => k = g) W W' := by
  have hbl : base.length = 512 := by simpa using hrow.1
  rcases hrow.2 with ⟨e, _⟩ | ⟨g', cap', cur, e, hlo, hblk, hcap, hmx, hcs, htk⟩
  · cases e
  cases e
  obtain ⟨i0, hi0, hz0, hz1, hz2⟩ := info_parts Tryz.info5
  have hv : ∀ w, (zeroValue 5).run Tryz.prog w = .ok (.int .u8 0) w := fun w => by simp [zeroValue, typeInfo, hi0, hz0]
  obtain ⟨k, hk⟩ : ∃ k, 512 - o = k + 1 := ⟨511 - o, by omega⟩
  have hzc : (Builtin.zeroCells (Value.int .u8 0).cells (k + 1)).toList = List.replicate (k + 1) (Value.int .u8 0) := by
    rw [show (Value.int .u8 0).cells = #[.int .u8 0] from rfl]
    simp [Builtin.zeroCells]
    apply List.ext_getElem
    · simp
    · intro i h1 h2
      simp [Nat.mod_one]
  have hst := run_storeCells_at Tryz.prog g o 5 (List.replicate (k + 1) (Value.int .u8 0)) 0 cur W hblk (by simp; omega) (by intro v hv; rw [List.eq_of_mem_replicate hv]; rfl)
  have hmap : (List.replicate (512 - o) 0#8).map u8v = List.replicate (k + 1) (Value.int .u8 0) := by rw [List.map_replicate, hk]; rfl
  obtain ⟨h1, h2, h3⟩ := spl_row W g cap o (512 - o) base (List.replicate (512 - o) 0#8) cur hblk hcs hcap htk hbl (by simp) (by omega)
  rw [hmap, hk] at h1 h2 h3
  refine ⟨_, fun ty => ?_, by rw [hk]; exact h1, h2, h3⟩
  rw [hk]
  simp [Builtin.clear_, run_underlying Tryz.underlying30, hv, hzc]
  rw [hst]
  simp

section
variable {LP : Nat → World → Prop} {w0 ws : World} {wb c nb : Nat} {V : Nat → By} {size : Nat}

/-- A cut in memory. -/
def TJ (LP : Nat → World → Prop) (w0 ws : World) (wb c size : Nat) (s : WS) (w : World) : Prop := CJ LP w0 ws ws.heap.size wb c 78 (.pointer none) [.int .i64 (size : Nat)] s.b [] s.G s.P w
theorem okC : okTT 78 := ⟨by unfold foreignT; decide, by decide⟩

/-- What a cut makes of a number. -/
def cutS (nb : Nat) (V : Nat → By) (size : Nat) : Ino.Stp WS := fun p x s =>
  if x = 0 then (0, 0, s) else if p * 512 < size then (if x.toNat < nb then (x, 0, { s with b := s.b + 2, P := s.P ++ [(x.toNat, splB (V x.toNat) (size - p * 512) (List.replicate (512 - (size - p * 512)) 0#8))] }) else (x, 22, { s with b := s.b + 1 }))
  else (0, 0, { s with b := s.b + 1, G := s.G ++ [x.toNat] })
theorem cutS_cost (nb : Nat) (V : Nat → By) (size p : Nat) (x : BitVec 32) (s : WS) : (cutS nb V size p x s).2.2.b ≤ s.b + 4 := by
  unfold cutS
  split
  · show s.b ≤ _; omega
  split
  · split
    · show s.b + 2 ≤ _; omega
    · show s.b + 1 ≤ _; omega
  · show s.b + 1 ≤ _; omega

set_option maxRecDepth 8000 in
set_option maxHeartbeats 2000000 in
theorem wipe_J (hL : LPok LP w0 c nb V) {s : WS} {w : World} (h : TJ LP w0 ws wb c size s w) (hb : s.b + 4 ≤ 700000) (x : BitVec 32) (hx : x.toNat < nb) (st : Nat) (hst : st < 512) :
    Calls Tryz.prog 44 #[.pointer (some ⟨wb, 0, none⟩), u32v x, .int .i64 (st : Nat)] w fun e w' => e = .returned (.int .i64 0) ∧ TJ LP w0 ws wb c size { s with b := s.b + 2, P := s.P ++ [(x.toNat, splB (V x.toNat) st (List.replicate (512 - st) 0#8))] } w' ∧ Kp none w w' := by
  have cG := get_J hL okC h (by omega) x hx
  unfold u32v at cG ⊢
  have hfr := CJ.fr h
  clear h
  go_enter Tryz.func44, Tryz.ntmps44
  go_wp2_with (go_at_call 47; refine cG.mono ?_; rintro e w1 ⟨g, cap, rfl, h1, h2, h3, h4⟩; clear cG; refine Stop.out ?_)
  refine Stop.mk ?_
  have hcap : 512 ≤ cap := by
    rcases h3.2 with ⟨e, _⟩ | ⟨g', cap', cur', e, _, _, hcap, _⟩
    · cases e
    · cases e; exact hcap
  obtain ⟨w2, hcl, hby, htg, hb2⟩ := clear_fill w1 g cap _ st (V x.toNat) h3 hst
  have hsc : ¬ st = cap := by omega
  have hsc' : ¬ cap = st := by omega
  have cP := put_J hL okC (h1 w2 hb2) (by omega) x g cap (splB (V x.toNat) st (List.replicate (512 - st) 0#8)) hby (by rw [splB_length (by rw [List.length_replicate]; omega)]; exact h4) htg (by have h5 := (own_type h3 (k := g) rfl).1; have h7 := hfr.size; omega)
  have hk1 : But (CT 78 w) w w2 := by
    have hct : But (CT 78 w) w w1 := ct_cmn h2
    have hg := (own_type h3 (k := g) rfl).1
    exact ⟨hb2.os.trans hct.os, hb2.tape.trans hct.tape, hb2.output.trans hct.output, Nat.le_trans hct.size hb2.size, fun k hk hn => (hb2.block k (Nat.lt_of_lt_of_le hk hct.size) (fun e => by have : k = g := e; omega)).trans (hct.block k hk hn)⟩
  have HK := hide hk1
  unfold u32v at cP
  clear hk1 h1 h2 h3 h4 hby htg hb2
  go_wp2_with (first | (go_at_call 64; refine cP.mono ?_; rintro e w3 ⟨rfl, h8, h9⟩; clear cP))
  go_ret
  exact ⟨rfl, h8, ct_kp okC (ct_trans HK.out h9)⟩

set_option maxRecDepth 8000 in
set_option maxHeartbeats 2000000 in
theorem cut_J (hL : LPok LP w0 c nb V) {s : WS} {w : World} (h : TJ LP w0 ws wb c size s w) (hb : s.b + 4 ≤ 700000) (hsz : size ≤ 65536) (p : Nat) (hp : size < p * 512 + 512) (hp2 : p < 10000) (x : BitVec 32) :
    Calls Tryz.prog 28 #[.pointer (some ⟨wb, 0, none⟩), .int .i64 (p : Nat), u32v x] w fun e w' => e = .returned (.tuple #[u32v (cutS nb V size p x s).1, .int .i64 (cutS nb V size p x s).2.1]) ∧ TJ LP w0 ws wb c size (cutS nb V size p x s).2.2 w' ∧ Kp none w w' := by
  by_cases hx : x = 0
  · subst hx
    have e0 : cutS nb V size p 0 s = (0, 0, s) := by unfold cutS; rw [if_pos rfl]
    rw [e0]
    have HJ := hide h
    unfold u32v
    clear h e0
    go_enter Tryz.func28, Tryz.ntmps28
    go_wp2
    go_ret2
    exact ⟨rfl, HJ.out, Kp.refl _ _⟩
  · have q0 : ¬ (x.toNat : Int) = 0 := fun h => hx (BitVec.eq_of_toNat_eq (by simpa using h))
    have q3 : ((x.toNat : Int) == 0) = false := by rw [beq_eq_false_iff_ne]; exact q0
    obtain ⟨sT, sG, sP, D, hw, hr⟩ := CJ.blk h
    have d5 : w.cell? ⟨wb, 5, none⟩ = some (.int .i64 (size : Nat)) := hw.cell (i := 5) rfl
    by_cases hps : p * 512 < size
    · obtain ⟨st, hst⟩ : ∃ st, size - p * 512 = st := ⟨_, rfl⟩
      have e1 : (size : Int) - (p : Int) * 512 = (st : Nat) := by omega
      have hpos : (0 : Int) < (st : Int) := by omega
      by_cases hn : x.toNat < nb
      · have e0 : cutS nb V size p x s = (x, 0, { s with b := s.b + 2, P := s.P ++ [(x.toNat, splB (V x.toNat) st (List.replicate (512 - st) 0#8))] }) := by unfold cutS; rw [if_neg hx, if_pos hps, if_pos hn, hst]
        rw [e0]
        have cW := wipe_J hL h hb x hn st (by omega)
        unfold u32v at cW ⊢
        clear h e0 hw hr hx q0 hst hps
        go_enter Tryz.func28, Tryz.ntmps28
        go_wp2_with (go_at_call 44; refine cW.mono ?_; rintro e w1 ⟨rfl, h1, h2⟩; clear cW)
        go_ret2
        exact ⟨rfl, h1, h2⟩
      · have e0 : cutS nb V size p x s = (x, 22, { s with b := s.b + 1 }) := by unfold cutS; rw [if_neg hx, if_pos hps, if_neg hn]
        rw [e0]
        have cG := getbad_J hL h x (by omega)
        have HJ := hide h
        have cW : Calls Tryz.prog 44 #[.pointer (some ⟨wb, 0, none⟩), u32v x, .int .i64 (st : Nat)] w fun e w' => e = .returned (.int .i64 22) ∧ Below w.heap.size w w' := by
          unfold u32v at cG ⊢
          clear h e0 hw hr hx q0 hst hps HJ
          go_enter Tryz.func44, Tryz.ntmps44
          go_wp2_with (go_at_call 47; refine cG.mono ?_; rintro e w1 ⟨rfl, h1⟩; clear cG)
          go_ret
          exact ⟨rfl, h1⟩
        unfold u32v at cW ⊢
        clear h e0 hw hr hx q0 hst hps cG
        go_enter Tryz.func28, Tryz.ntmps28
        go_wp2_with (go_at_call 44; refine cW.mono ?_; rintro e w1 ⟨rfl, h1⟩; clear cW)
        go_ret2
        have h8 := HJ.out.foreign hL (But.of_below (S := fun _ => False) h1) (fun _ h => h.elim)
        obtain ⟨l1, l2, l3⟩ := h8.len
        exact ⟨rfl, ⟨hL.more _ _ h8.lp, h8.fr, h8.hlo, h8.lo, h8.blk, Nat.le_succ_of_le l1, Nat.le_succ_of_le l2, Nat.le_succ_of_le l3⟩, Kp.below h1⟩
    · have e0 : cutS nb V size p x s = (0, 0, { s with b := s.b + 1, G := s.G ++ [x.toNat] }) := by unfold cutS; rw [if_neg hx, if_neg hps]
      rw [e0]
      obtain ⟨u, hu⟩ : ∃ u, p * 512 - size = u := ⟨_, rfl⟩
      have e1 : (size : Int) - (p : Int) * 512 = -((u : Nat) : Int) := by omega
      have hneg : ¬ ((0 : Int) < -((u : Nat) : Int)) := by omega
      have cV := give_J hL okC h (by omega) x
      unfold u32v at cV ⊢
      clear h e0 hw hr hx q0 hu hps
      go_enter Tryz.func28, Tryz.ntmps28
      go_wp2_with (go_at_call 45; refine cV.mono ?_; rintro e w1 ⟨rfl, h1, h2⟩; clear cV)
      go_ret2
      exact ⟨rfl, h1, ct_kp okC h2⟩

/-- The hands of a cut. -/
theorem handsC (hL : LPok LP w0 c nb V) (hsz : size ≤ 65536) : Hands (wOps [] nb V) (cutS nb V size) wb 28 ws.heap.size (size / 512) 4168 (.pointer (some ⟨wb, 0, none⟩)) false (TJ LP w0 ws wb c size) (·.b) 700000 where
  cost := w_cost _ _ _
  cvis := cutS_cost nb V size
  len := w_len _ _ _
  low s w h := CJ.fr h |>.size
  tab s w w' S h hb hS := CJ.foreign h hL hb (fun j hj => by
    obtain ⟨hl, cs', t', fr', hj', ht'⟩ := hS j hj
    refine ⟨hl, cs', t', fr', hj', ?_⟩
    rcases ht' with rfl | rfl
    · unfold foreignT; decide
    · unfold foreignT; decide)
  enter := enters_of Tryz.func28 (by kernel_rfl) rfl
  take s w h hm hh := by cases hh
  get s w x h hm hx := by
    by_cases hn : x.toNat < nb
    · have e : (wOps [] nb V).get s x = (tabOf (V x.toNat), 0, { s with b := s.b + 1 }) := if_pos hn
      rw [e]
      refine (get_J hL okC h hm x hn).mono ?_
      rintro e w' ⟨g, cap, rfl, h8, h9, h10, h11⟩
      have hct : But (CT 78 w) w w' := ct_cmn h9
      obtain ⟨g2, cap2, hg2, hg3, hg4⟩ := owns_bytes h10 (by omega)
      cases hg2
      refine ⟨h8 w' (But.refl _ _), ct_kp okC hct, .inl ⟨V x.toNat, g, cap, rfl, rfl, hg4, h11, ?_, rfl⟩⟩
      rcases h10.2 with ⟨e, _⟩ | ⟨g', cap', cur', e, _, _, hcap, _⟩
      · cases e
      · cases e; exact hcap
    · have e : (wOps [] nb V).get s x = (Ino.zT, 22, { s with b := s.b + 1 }) := if_neg hn
      rw [e]
      refine (getbad_J hL h x (by omega)).mono ?_
      rintro e w' ⟨rfl, hb⟩
      obtain ⟨l1, l2, l3⟩ := CJ.len h
      have h8 := CJ.foreign h hL (But.of_below (S := fun _ => False) hb) (fun _ h => h.elim)
      exact ⟨⟨hL.more _ _ h8.lp, h8.fr, h8.hlo, h8.lo, h8.blk, Nat.le_succ_of_le l1, Nat.le_succ_of_le l2, Nat.le_succ_of_le l3⟩, ct_kp okC (ct_below hb), .inr ⟨by simp, _, rfl⟩⟩
  give s w x h hm := by
    refine (give_J hL okC h hm x).mono ?_
    rintro e w' ⟨rfl, h8, h9⟩
    exact ⟨rfl, h8, ct_kp okC h9⟩
  put s w x bs g h hm hl hg hlo := by
    refine (put_J hL okC h hm x g 512 bs (put_tag hg) hl ⟨_, _, hg⟩ hlo).mono ?_
    rintro e w' ⟨rfl, h8, h9⟩
    exact ⟨rfl, h8, ct_kp okC h9⟩
  visit s w p x h hm hp1 hp2 := cut_J hL h hm hsz p (by omega) (by omega) x

end
end Go.Proofs.YtebdgcoandfocaaGreatDoor

/-
  A walk that cuts a file, as a function. Pure: no program.
-/
namespace Go.Proofs.YtebdgcoandfocaaGreatDoor
open Go.RowKit

/-- The places of a level whose blocks are given back; those whose blocks are wiped, with what they hold then. -/
def cutL (size : Nat) (H : Ino.Gs) (a c : Nat) : List Nat := (Ino.span a c).filter fun p => H p ≠ 0 ∧ size ≤ p * 512
def wipB (V : Nat → By) (size : Nat) (H : Ino.Gs) (p : Nat) : By := splB (V (H p).toNat) (size - p * 512) (List.replicate (512 - (size - p * 512)) 0#8)
def cutQ (V : Nat → By) (size : Nat) (H : Ino.Gs) (a c : Nat) : List (Nat × By) := ((Ino.span a c).filter fun p => H p ≠ 0 ∧ size / 512 ≤ p ∧ p * 512 < size).map fun p => (p, wipB V size H p)
def cutN (size : Nat) (H : Ino.Gs) (a c : Nat) : List (BitVec 32) := (Ino.span a c).map fun p => if size ≤ p * 512 then 0 else H p
def numO (H : Ino.Gs) (p : Nat) : Nat := (H p).toNat

theorem mem_cutL {size : Nat} {H : Ino.Gs} {a c p : Nat} : p ∈ cutL size H a c ↔ (a ≤ p ∧ p < c) ∧ H p ≠ 0 ∧ size ≤ p * 512 := by
  unfold cutL; rw [List.mem_filter, Ino.mem_span, decide_eq_true_iff]
theorem mem_cutQ {V : Nat → By} {size : Nat} {H : Ino.Gs} {a c p : Nat} {d : By} : (p, d) ∈ cutQ V size H a c ↔ ((a ≤ p ∧ p < c) ∧ H p ≠ 0 ∧ size / 512 ≤ p ∧ p * 512 < size) ∧ d = wipB V size H p := by
  unfold cutQ
  rw [List.mem_map]
  constructor
  · rintro ⟨x, hx, e⟩
    cases e
    rw [List.mem_filter, Ino.mem_span, decide_eq_true_iff] at hx
    exact ⟨hx, rfl⟩
  · rintro ⟨hx, rfl⟩
    refine ⟨p, ?_, rfl⟩
    rw [List.mem_filter, Ino.mem_span, decide_eq_true_iff]
    exact hx
theorem cutL_length (size : Nat) (H : Ino.Gs) (a c : Nat) : (cutL size H a c).length ≤ c - a := by
  have := List.length_filter_le (fun p => decide (H p ≠ 0 ∧ size ≤ p * 512)) (Ino.span a c)
  rwa [Ino.span_length] at this
theorem cutQ_length (V : Nat → By) (size : Nat) (H : Ino.Gs) (a c : Nat) : (cutQ V size H a c).length ≤ c - a := by
  unfold cutQ
  rw [List.length_map]
  have := List.length_filter_le (fun p => decide (H p ≠ 0 ∧ size / 512 ≤ p ∧ p * 512 < size)) (Ino.span a c)
  rwa [Ino.span_length] at this
theorem cutQ_fst (V : Nat → By) (size : Nat) (H : Ino.Gs) (a c : Nat) : (cutQ V size H a c).map Prod.fst = (Ino.span a c).filter fun p => H p ≠ 0 ∧ size / 512 ≤ p ∧ p * 512 < size := by
  unfold cutQ; rw [List.map_map]; exact List.map_id' _
theorem cutL_nil {size : Nat} {H : Ino.Gs} {a c : Nat} (h : ∀ p, a ≤ p → p < c → H p = 0 ∨ p * 512 < size) : cutL size H a c = [] := by
  rw [List.eq_nil_iff_forall_not_mem]
  intro p hp
  obtain ⟨⟨h1, h2⟩, h3, h4⟩ := mem_cutL.1 hp
  rcases h p h1 h2 with h | h
  · exact h3 h
  · omega
theorem cutQ_nil {V : Nat → By} {size : Nat} {H : Ino.Gs} {a c : Nat} (h : ∀ p, a ≤ p → p < c → H p = 0 ∨ p < size / 512) : cutQ V size H a c = [] := by
  rw [List.eq_nil_iff_forall_not_mem]
  rintro ⟨p, d⟩ hp
  obtain ⟨⟨⟨h1, h2⟩, h3, h4, h5⟩, _⟩ := mem_cutQ.1 hp
  rcases h p h1 h2 with h | h
  · exact h3 h
  · omega

theorem cutL_cons {size : Nat} {H : Ino.Gs} {a c : Nat} (h : a < c) : cutL size H a c = (if H a ≠ 0 ∧ size ≤ a * 512 then [a] else []) ++ cutL size H (a + 1) c := by
  unfold cutL
  rw [Ino.span_cons h, List.filter_cons]
  by_cases hc : H a ≠ 0 ∧ size ≤ a * 512
  · rw [if_pos (decide_eq_true hc), if_pos hc]; rfl
  · rw [if_neg (by simpa using hc), if_neg hc]; rfl
theorem cutQ_cons {V : Nat → By} {size : Nat} {H : Ino.Gs} {a c : Nat} (h : a < c) : cutQ V size H a c = (if H a ≠ 0 ∧ size / 512 ≤ a ∧ a * 512 < size then [(a, wipB V size H a)] else []) ++ cutQ V size H (a + 1) c := by
  unfold cutQ
  rw [Ino.span_cons h, List.filter_cons]
  by_cases hc : H a ≠ 0 ∧ size / 512 ≤ a ∧ a * 512 < size
  · rw [if_pos (decide_eq_true hc), if_pos hc]; rfl
  · rw [if_neg (by simpa using hc), if_neg hc]; rfl
theorem cutN_cons {size : Nat} {H : Ino.Gs} {a c : Nat} (h : a < c) : cutN size H a c = (if size ≤ a * 512 then 0 else H a) :: cutN size H (a + 1) c := by
  unfold cutN; rw [Ino.span_cons h]; rfl

/-- A level of places that is cut. -/
theorem lev_cut (nb : Nat) (V : Nat → By) (size first : Nat) (H : Ino.Gs) : ∀ (l : List (BitVec 32)) (i : Nat) (s : WS), (∀ j n, l[j]? = some n → n = H (first + i + j)) → (∀ j, j < l.length → H (first + i + j) ≠ 0 → (H (first + i + j)).toNat < nb) → first + i + l.length ≤ 4168 →
    ∃ b', Ino.lev (cutS nb V size) (size / 512) 4168 first 1 l i s = (cutN size H (first + i) (first + i + l.length), 0, ⟨b', s.k, s.G ++ (cutL size H (first + i) (first + i + l.length)).map (numO H), s.P ++ (cutQ V size H (first + i) (first + i + l.length)).map (atG H), s.X⟩)
  | [], i, s, _, _, _ => by
    refine ⟨s.b, ?_⟩
    have e : Ino.span (first + i) (first + i + ([] : List (BitVec 32)).length) = [] := Ino.span_nil (by simp)
    unfold cutN cutL cutQ
    rw [Ino.lev_nil, e]
    simp
  | n :: l, i, s, hl, hb, hle => by
    have hlen : first + i + (n :: l).length = first + (i + 1) + l.length := by simp; omega
    rw [hlen] at hle
    have hlt : first + i < first + (i + 1) + l.length := by omega
    have hl' : ∀ j m, l[j]? = some m → m = H (first + (i + 1) + j) := by
      intro j m hm
      rw [hl (j + 1) m (by simpa using hm)]; congr 1; omega
    have hb' : ∀ j, j < l.length → H (first + (i + 1) + j) ≠ 0 → (H (first + (i + 1) + j)).toNat < nb := by
      intro j hj
      have := hb (j + 1) (by simp; omega)
      rwa [show first + i + (j + 1) = first + (i + 1) + j by omega] at this
    have hn0 : n = H (first + i) := by simpa using hl 0 n rfl
    have hpl : first + i * 1 = first + i := by omega
    rw [hlen, cutL_cons hlt, cutQ_cons hlt, cutN_cons hlt, show first + i + 1 = first + (i + 1) by omega]
    by_cases hc : first + i * 1 + 1 ≤ size / 512 ∨ 4168 ≤ first + i * 1
    · obtain ⟨b', e⟩ := lev_cut nb V size first H l (i + 1) s hl' hb' (by omega)
      refine ⟨b', ?_⟩
      rw [Ino.lev_skip hc, e, if_neg (by omega), if_neg (by omega), if_neg (by omega), hn0]
      rfl
    · by_cases hz : n = 0
      · obtain ⟨b', e⟩ := lev_cut nb V size first H l (i + 1) s hl' hb' (by omega)
        refine ⟨b', ?_⟩
        have hst : cutS nb V size (first + i * 1) n s = (0, 0, s) := by unfold cutS; rw [if_pos hz]
        have h0 : H (first + i) = 0 := hn0.symm.trans hz
        have n1 : ¬ (H (first + i) ≠ 0 ∧ size ≤ (first + i) * 512) := fun h => h.1 h0
        have n2 : ¬ (H (first + i) ≠ 0 ∧ size / 512 ≤ first + i ∧ (first + i) * 512 < size) := fun h => h.1 h0
        have n3 : (if size ≤ (first + i) * 512 then (0 : BitVec 32) else H (first + i)) = 0 := by rw [h0]; split <;> rfl
        rw [Ino.lev_step hc hst, e, n3, if_neg n1, if_neg n2]
        rfl
      · have hH : H (first + i) ≠ 0 := hn0 ▸ hz
        by_cases hs : (first + i) * 512 < size
        · have hnb : n.toNat < nb := by rw [hn0]; simpa using hb 0 (by simp) (by simpa using hH)
          have hst : cutS nb V size (first + i * 1) n s = (n, 0, { s with b := s.b + 2, P := s.P ++ [(n.toNat, wipB V size H (first + i))] }) := by
            unfold cutS wipB
            rw [if_neg hz, hpl, if_pos hs, if_pos hnb, ← hn0]
          obtain ⟨b', e⟩ := lev_cut nb V size first H l (i + 1) { s with b := s.b + 2, P := s.P ++ [(n.toNat, wipB V size H (first + i))] } hl' hb' (by omega)
          refine ⟨b', ?_⟩
          have n1 : ¬ (H (first + i) ≠ 0 ∧ size ≤ (first + i) * 512) := fun h => by omega
          have n2 : H (first + i) ≠ 0 ∧ size / 512 ≤ first + i ∧ (first + i) * 512 < size := ⟨hH, by omega, hs⟩
          have n3 : ¬ (size ≤ (first + i) * 512) := by omega
          rw [Ino.lev_step hc hst, e, if_neg n1, if_pos n2, if_neg n3, hn0]
          simp [atG]
        · have hst : cutS nb V size (first + i * 1) n s = (0, 0, { s with b := s.b + 1, G := s.G ++ [n.toNat] }) := by
            unfold cutS
            rw [if_neg hz, hpl, if_neg hs]
          obtain ⟨b', e⟩ := lev_cut nb V size first H l (i + 1) { s with b := s.b + 1, G := s.G ++ [n.toNat] } hl' hb' (by omega)
          refine ⟨b', ?_⟩
          have n1 : H (first + i) ≠ 0 ∧ size ≤ (first + i) * 512 := ⟨hH, by omega⟩
          have n2 : ¬ (H (first + i) ≠ 0 ∧ size / 512 ≤ first + i ∧ (first + i) * 512 < size) := fun h => by omega
          have n3 : size ≤ (first + i) * 512 := by omega
          rw [Ino.lev_step hc hst, e, if_pos n1, if_neg n2, if_pos n3, hn0]
          simp [numO]

theorem lev_zeros {σ : Type} {step : Ino.Stp σ} {f t first sp : Nat} (hs : ∀ p s, step p 0 s = (0, 0, s)) : ∀ (z i : Nat) (s : σ), Ino.lev step f t first sp (List.replicate z 0) i s = (List.replicate z 0, 0, s)
  | 0, i, s => rfl
  | z + 1, i, s => by
    rw [List.replicate_succ]
    by_cases hc : first + i * sp + sp ≤ f ∨ t ≤ first + i * sp
    · rw [Ino.lev_skip hc, lev_zeros hs z (i + 1) s]
    · rw [Ino.lev_step hc (hs _ s), lev_zeros hs z (i + 1) s]

/-- What becomes of the number q of a block of numbers. -/
def cutq (size : Nat) (H : Ino.Gs) (a : Nat) (x : BitVec 32) : BitVec 32 := if cutN size H a (a + 64) = Ino.zT then 0 else x

/-- A block of numbers that is cut, and numbers behind it that are none. -/
theorem thr_cut (nb : Nat) (V : Nat → By) (size a z : Nat) (H : Ino.Gs) (x : BitVec 32) (was : List (BitVec 32)) (hw : was = (Ino.span a (a + 64)).map H) (ha : a ≤ 72) (hb : ∀ p, a ≤ p → p < a + 64 → H p ≠ 0 → (H p).toNat < nb) (h0 : x = 0 → was = Ino.zT) (h1 : x ≠ 0 → (x.toNat < nb ∧ tabOf (V x.toNat) = was) ∧ was ≠ Ino.zT) (s : WS) :
    ∃ b', Ino.lev (Ino.thr1 (wOps [] nb V) false (size / 512) 4168 (cutS nb V size)) (size / 512) 4168 a 64 (x :: List.replicate z 0) 0 s = (cutq size H a x :: List.replicate z 0, 0,
      ⟨b', s.k, s.G ++ (cutL size H a (a + 64)).map (numO H) ++ (if x ≠ 0 ∧ cutq size H a x = 0 then [x.toNat] else []), s.P ++ (cutQ V size H a (a + 64)).map (atG H) ++ (if cutq size H a x ≠ 0 ∧ cutN size H a (a + 64) ≠ was then [(x.toNat, Ino.tabB (cutN size H a (a + 64)))] else []), s.X⟩) := by
  have hz1 : ∀ p s, Ino.thr1 (wOps [] nb V) false (size / 512) 4168 (cutS nb V size) p 0 s = (0, 0, s) := fun p s => Ino.thr_hole rfl rfl
  by_cases hc : a + 0 * 64 + 64 ≤ size / 512 ∨ 4168 ≤ a + 0 * 64
  · refine ⟨s.b, ?_⟩
    have hall : ∀ p, a ≤ p → p < a + 64 → p * 512 < size ∧ p < size / 512 := fun p _ _ => ⟨by omega, by omega⟩
    have hN : cutN size H a (a + 64) = was := by
      rw [hw]
      refine List.map_congr_left fun p hp => ?_
      have hp := Ino.mem_span.1 hp
      exact if_neg (by have := hall p hp.1 hp.2; omega)
    have hq : cutq size H a x = x := by
      unfold cutq
      rw [hN]
      by_cases hx : x = 0
      · rw [hx]; split <;> rfl
      · rw [if_neg (h1 hx).2]
    rw [Ino.lev_skip hc, lev_zeros hz1, hq, cutL_nil (fun p h1 h2 => .inr (hall p h1 h2).1), cutQ_nil (fun p h1 h2 => .inr (hall p h1 h2).2), if_neg (fun h => h.1 h.2), if_neg (fun h => h.2 hN)]
    simp
  · by_cases hx : x = 0
    · subst hx
      refine ⟨s.b, ?_⟩
      have hH : ∀ p, a ≤ p → p < a + 64 → H p = 0 := by
        intro p h2 h3
        have e := (hw.symm.trans (h0 rfl))
        have e2 : ((Ino.span a (a + 64)).map H)[p - a]? = some (H p) := by
          rw [List.getElem?_map]
          have : (Ino.span a (a + 64))[p - a]? = some p := by
            unfold Ino.span
            rw [List.getElem?_map, List.getElem?_range (by omega)]
            show some (a + (p - a)) = _
            congr 1; omega
          rw [this]; rfl
        rw [e, Ino.zT, List.getElem?_replicate, if_pos (by omega)] at e2
        exact (Option.some.inj e2).symm
      have hq : cutq size H a 0 = 0 := by unfold cutq; split <;> rfl
      rw [Ino.lev_step hc (hz1 _ s), lev_zeros hz1, hq, cutL_nil (fun p h1 h2 => .inl (hH p h1 h2)), cutQ_nil (fun p h1 h2 => .inl (hH p h1 h2)), if_neg (fun h => h.1 rfl), if_neg (fun h => h.1 rfl)]
      simp
    · obtain ⟨⟨hx1, hx2⟩, hx3⟩ := h1 hx
      have ho : Ino.opn (wOps [] nb V) x s = (x, was, 0, { s with b := s.b + 1 }) := by
        have eg : (wOps [] nb V).get s x = (was, 0, { s with b := s.b + 1 }) := by
          show (if x.toNat < nb then _ else _ : List (BitVec 32) × Int × WS) = _
          rw [if_pos hx1, hx2]
        unfold Ino.opn; rw [if_neg hx, eg, if_pos rfl]
      have hwl : was.length = 64 := by rw [hw, List.length_map, Ino.span_length]; omega
      obtain ⟨b', hlv⟩ := lev_cut nb V size a H was 0 { s with b := s.b + 1 } (by
        intro j n hn
        rw [hw, List.getElem?_map] at hn
        obtain ⟨q, hq, rfl⟩ := Option.map_eq_some_iff.1 hn
        unfold Ino.span at hq
        rw [List.getElem?_map] at hq
        obtain ⟨r, hr, rfl⟩ := Option.map_eq_some_iff.1 hq
        have : r = j := by
          obtain ⟨h1, h2⟩ := List.getElem?_eq_some_iff.1 hr
          simpa using h2.symm
        rw [this]; rfl) (fun j hj => hb _ (by omega) (by omega)) (by omega)
      rw [hwl, Nat.add_zero] at hlv
      have hnh : ¬ (x = 0 ∧ (false : Bool) = false) := fun h => hx h.1
      by_cases hzt : cutN size H a (a + 64) = Ino.zT
      · have hq : cutq size H a x = 0 := if_pos hzt
        refine ⟨b' + 1, ?_⟩
        have := Ino.thr_give (lv := fun l s => Ino.lev (cutS nb V size) (size / 512) 4168 a 1 l 0 s) hnh ho hlv hzt
        rw [Ino.lev_step (n' := 0) hc (by rw [show a + 0 * 64 = a by omega]; exact this), lev_zeros hz1, hq, if_pos ⟨hx, rfl⟩, if_neg (fun h => h.1 rfl)]
        simp [wOps]
      · have hq : cutq size H a x = x := if_neg hzt
        by_cases hsame : cutN size H a (a + 64) = was
        · refine ⟨b', ?_⟩
          have := Ino.thr_same (lv := fun l s => Ino.lev (cutS nb V size) (size / 512) 4168 a 1 l 0 s) hnh ho hlv hzt hsame
          rw [Ino.lev_step hc (by rw [show a + 0 * 64 = a by omega]; exact this), lev_zeros hz1, hq, if_neg (fun h => h.1 h.2), if_neg (fun h => h.2 hsame)]
          simp
        · refine ⟨b' + 1, ?_⟩
          have := Ino.thr_put (lv := fun l s => Ino.lev (cutS nb V size) (size / 512) 4168 a 1 l 0 s) hnh ho hlv hzt hsame
          rw [Ino.lev_step hc (by rw [show a + 0 * 64 = a by omega]; exact this), lev_zeros hz1, hq, if_neg (fun h => h.1 h.2), if_pos ⟨hx, hsame⟩]
          simp [wOps]

end Go.Proofs.YtebdgcoandfocaaGreatDoor

/-
  What a cut leaves of a file. Pure: no program.
-/
namespace Go.Proofs.YtebdgcoandfocaaGreatDoor
open Go.RowKit

/-- The numbers of places alone. -/
def plc (G : Ino.Gs) : Ino.Gs := fun p => if p < 128 then G p else 0
theorem plc_in {G : Ino.Gs} {p : Nat} (h : p < 128) : plc G p = G p := if_pos h
theorem plc_ne {G : Ino.Gs} {p : Nat} (h : plc G p ≠ 0) : p < 128 ∧ plc G p = G p := by
  unfold plc at *
  split at h
  · rename_i h1; exact ⟨h1, if_pos h1⟩
  · exact absurd rfl h

def cutIs (size : Nat) (G : Ino.Gs) : List Nat := cutL size (plc G) 0 8 ++ cutL size (plc G) 8 72 ++ (if G 128 ≠ 0 ∧ Ino.cutG size G 128 = 0 then [128] else []) ++ cutL size (plc G) 72 136 ++ (if G 130 ≠ 0 ∧ Ino.cutG size G 130 = 0 then [130] else []) ++ (if G 129 ≠ 0 ∧ Ino.cutG size G 129 = 0 then [129] else [])
def cutPs (V : Nat → By) (size : Nat) (G : Ino.Gs) : List (Nat × By) := cutQ V size (plc G) 0 8 ++ cutQ V size (plc G) 8 72 ++ (if Ino.cutG size G 128 ≠ 0 ∧ Ino.tab1 (Ino.cutG size G) ≠ Ino.tab1 G then [(128, Ino.tabB (Ino.tab1 (Ino.cutG size G)))] else []) ++ cutQ V size (plc G) 72 136 ++ (if Ino.cutG size G 130 ≠ 0 ∧ Ino.tab2 (Ino.cutG size G) ≠ Ino.tab2 G then [(130, Ino.tabB (Ino.tab2 (Ino.cutG size G)))] else [])

theorem cutL_num (size : Nat) (G : Ino.Gs) (a c : Nat) : (cutL size (plc G) a c).map (numO (plc G)) = (cutL size (plc G) a c).map (numO G) := by
  refine List.map_congr_left fun p hp => ?_
  unfold numO
  rw [(plc_ne (mem_cutL.1 hp).2.1).2]
theorem cutQ_num (V : Nat → By) (size : Nat) (G : Ino.Gs) (a c : Nat) : (cutQ V size (plc G) a c).map (atG (plc G)) = (cutQ V size (plc G) a c).map (atG G) := by
  refine List.map_congr_left ?_
  rintro ⟨p, d⟩ hp
  unfold atG
  rw [(plc_ne (mem_cutQ.1 hp).1.2.1).2]

theorem tab1_span (G : Ino.Gs) : Ino.tab1 G = (Ino.span 8 (8 + 64)).map (plc G) := by
  unfold Ino.tab1 Ino.span
  rw [List.map_map]
  refine List.map_congr_left fun i hi => ?_
  have := List.mem_range.1 hi
  exact (plc_in (by omega)).symm
theorem tab2_span (G : Ino.Gs) : Ino.tab2 G = (Ino.span 72 (72 + 64)).map (plc G) := by
  unfold Ino.tab2 Ino.span
  rw [List.map_map]
  refine List.map_congr_left fun i hi => ?_
  have := List.mem_range.1 hi
  show (if i < 56 then G (72 + i) else 0#32) = plc G (72 + i)
  unfold plc
  by_cases h : i < 56
  · rw [if_pos h, if_pos (by omega)]
  · rw [if_neg h, if_neg (by omega)]; rfl
theorem cutN_tab1 (size : Nat) (G : Ino.Gs) : cutN size (plc G) 8 (8 + 64) = Ino.tab1 (Ino.cutP size G) := by
  rw [tab1_span]
  refine List.map_congr_left fun p hp => ?_
  have := Ino.mem_span.1 hp
  rw [plc_in (by omega), plc_in (by omega)]
  unfold Ino.cutP
  by_cases h : size ≤ p * 512
  · rw [if_pos h, if_pos ⟨by omega, h⟩]
  · rw [if_neg h, if_neg (fun hh => h hh.2)]
theorem cutN_tab2 (size : Nat) (G : Ino.Gs) : cutN size (plc G) 72 (72 + 64) = Ino.tab2 (Ino.cutP size G) := by
  rw [tab2_span]
  refine List.map_congr_left fun p hp => ?_
  have := Ino.mem_span.1 hp
  unfold plc Ino.cutP
  by_cases h8 : p < 128
  · rw [if_pos h8, if_pos h8]
    by_cases h : size ≤ p * 512
    · rw [if_pos h, if_pos ⟨h8, h⟩]
    · rw [if_neg h, if_neg (fun hh => h hh.2)]
  · rw [if_neg h8, if_neg h8]; split <;> rfl
theorem cutG_tab1 (size : Nat) (G : Ino.Gs) : Ino.tab1 (Ino.cutG size G) = Ino.tab1 (Ino.cutP size G) := Ino.tab1_eq.2 fun p _ h2 => Ino.cutG_place (by omega)
theorem cutG_tab2 (size : Nat) (G : Ino.Gs) : Ino.tab2 (Ino.cutG size G) = Ino.tab2 (Ino.cutP size G) := Ino.tab2_eq.2 fun p _ h2 => Ino.cutG_place (by omega)
theorem cutG_128 (size : Nat) (G : Ino.Gs) : Ino.cutG size G 128 = cutq size (plc G) 8 (G 128) := by
  unfold cutq Ino.cutG
  rw [cutN_tab1]
  by_cases h : Ino.tab1 (Ino.cutP size G) = Ino.zT
  · rw [if_pos ⟨rfl, h⟩, if_pos h]
  · rw [if_neg (fun hh => h hh.2), if_neg (by omega), if_neg h]; unfold Ino.cutP; rw [if_neg (by omega)]
theorem cutG_tw (size : Nat) (G : Ino.Gs) {i : Nat} (hi : i = 129 ∨ i = 130) : Ino.cutG size G i = if Ino.tab2 (Ino.cutP size G) = Ino.zT then 0 else G i := by
  unfold Ino.cutG
  rw [if_neg (by omega)]
  by_cases h : Ino.tab2 (Ino.cutP size G) = Ino.zT
  · rw [if_pos ⟨hi, h⟩, if_pos h]
  · rw [if_neg (fun hh => h hh.2), if_neg h]; unfold Ino.cutP; rw [if_neg (by omega)]
theorem cutG_130 (size : Nat) (G : Ino.Gs) : Ino.cutG size G 130 = cutq size (plc G) 72 (G 130) := by
  rw [cutG_tw size G (.inr rfl)]
  unfold cutq
  rw [cutN_tab2]

set_option maxRecDepth 8000 in
set_option maxHeartbeats 1000000 in
theorem ovr_cut {n : Nat} {U : Nat → Bool} {V : Nat → By} {G : Ino.Gs} {sz : Nat} {W : Nat → BitVec 8} (hF : Ino.File n U V G sz W) (size : Nat) (hsz : size ≤ 65536) (s : WS) :
    ∃ b', Ino.ovr (wOps [] n V) false (size / 512) 4168 (cutS n V size) (nums G) s = (nums (Ino.cutG size G), 0, ⟨b', s.k, s.G ++ (cutIs size G).map (numO G), s.P ++ (cutPs V size G).map (atG G), s.X⟩) := by
  have hok := File.tabOk hF
  have n8 : (nums G).take 8 = (List.range 8).map G := by unfold nums; rw [List.take_left' (by simp)]
  have n9 : ((nums G).drop 8).take 1 = [G 128] := by unfold nums; rw [List.drop_left' (by simp)]; rfl
  have n10 : (nums G).drop 9 = [G 129] := by unfold nums; rfl
  have hlt : ∀ p, plc G p ≠ 0 → (plc G p).toNat < n := fun p h => by
    have e := (plc_ne h).2
    rw [e] at h ⊢; exact hF.lt p h
  have hz1 : G 128 ≠ 0 → Ino.tab1 G ≠ Ino.zT := fun h e => by
    obtain ⟨p, p1, p2, p3⟩ := hF.one.1 h
    exact p3 (Ino.tab1_zero.1 e p p1 p2)
  have hz2 : G 130 ≠ 0 → Ino.tab2 G ≠ Ino.zT := fun h e => by
    obtain ⟨p, p1, p2, p3⟩ := hF.two.1 h
    exact p3 (Ino.tab2_zero.1 e p p1 p2)
  obtain ⟨b1, e1⟩ := lev_cut n V size 0 (plc G) ((List.range 8).map G) 0 s (by
    intro j m hm
    rw [List.getElem?_map] at hm
    obtain ⟨q, hq, rfl⟩ := Option.map_eq_some_iff.1 hm
    have h2 : q = j ∧ j < 8 := by
      obtain ⟨h1, h2⟩ := List.getElem?_eq_some_iff.1 hq
      simp at h1 h2
      exact ⟨h2.symm, h1⟩
    rw [h2.1, plc_in (by omega)]; simp) (fun j _ => hlt _) (by simp)
  simp only [List.length_map, List.length_range, Nat.zero_add] at e1
  have hl1 : cutN size (plc G) 0 8 = (List.range 8).map (Ino.cutG size G) := by
    unfold cutN
    rw [show Ino.span 0 8 = List.range 8 by decide]
    refine List.map_congr_left fun p hp => ?_
    have := List.mem_range.1 hp
    rw [plc_in (by omega), Ino.cutG_place (by omega)]
    unfold Ino.cutP
    by_cases h : size ≤ p * 512
    · rw [if_pos h, if_pos ⟨by omega, h⟩]
    · rw [if_neg h, if_neg (fun hh => h hh.2)]
  rw [hl1, cutL_num, cutQ_num] at e1
  obtain ⟨s1, hs1⟩ : ∃ s1 : WS, s1 = ⟨b1, s.k, s.G ++ (cutL size (plc G) 0 8).map (numO G), s.P ++ (cutQ V size (plc G) 0 8).map (atG G), s.X⟩ := ⟨_, rfl⟩
  rw [← hs1] at e1
  obtain ⟨b2, e2⟩ := thr_cut n V size 8 0 (plc G) (G 128) (Ino.tab1 G) (tab1_span G) (by omega) (fun p _ _ => hlt p) hok.o0 (fun h => ⟨hok.o1 h, hz1 h⟩) s1
  rw [← cutG_128, cutN_tab1, cutL_num, cutQ_num, ← cutG_tab1] at e2
  obtain ⟨s2, hs2⟩ : ∃ s2 : WS, s2 = ⟨b2, s1.k, s1.G ++ (cutL size (plc G) 8 (8 + 64)).map (numO G) ++ (if G 128 ≠ 0 ∧ Ino.cutG size G 128 = 0 then [(G 128).toNat] else []), s1.P ++ (cutQ V size (plc G) 8 (8 + 64)).map (atG G) ++ (if Ino.cutG size G 128 ≠ 0 ∧ Ino.tab1 (Ino.cutG size G) ≠ Ino.tab1 G then [((G 128).toNat, Ino.tabB (Ino.tab1 (Ino.cutG size G)))] else []), s1.X⟩ := ⟨_, rfl⟩
  rw [← hs2] at e2
  have hzz : ∀ b, (⟨b, s2.k, s2.G, s2.P, s2.X⟩ : WS) = { s2 with b := b } := fun _ => rfl
  obtain ⟨b3, e3⟩ : ∃ b3, Ino.lev (Ino.thr2 (wOps [] n V) false (size / 512) 4168 (cutS n V size)) (size / 512) 4168 72 4096 [G 129] 0 s2 = ([Ino.cutG size G 129], 0,
      ⟨b3, s2.k, s2.G ++ (cutL size (plc G) 72 (72 + 64)).map (numO G) ++ (if G 130 ≠ 0 ∧ Ino.cutG size G 130 = 0 then [(G 130).toNat] else []) ++ (if G 129 ≠ 0 ∧ Ino.cutG size G 129 = 0 then [(G 129).toNat] else []), s2.P ++ (cutQ V size (plc G) 72 (72 + 64)).map (atG G) ++ (if Ino.cutG size G 130 ≠ 0 ∧ Ino.tab2 (Ino.cutG size G) ≠ Ino.tab2 G then [((G 130).toNat, Ino.tabB (Ino.tab2 (Ino.cutG size G)))] else []), s2.X⟩) := by
    have hc : ¬ (72 + 0 * 4096 + 4096 ≤ size / 512 ∨ 4168 ≤ 72 + 0 * 4096) := by omega
    by_cases hz : G 129 = 0
    · have hz30 : G 130 = 0 := Classical.byContradiction fun hn => hF.dbl.2 hn hz
      have hall : ∀ p, 72 ≤ p → p < 72 + 64 → plc G p = 0 := by
        intro p h1 h2
        unfold plc
        split
        · exact Ino.tab2_zero.1 (hok.t0 hz30) p h1 (by assumption)
        · rfl
      refine ⟨s2.b, ?_⟩
      have hc0 : Ino.cutG size G 129 = 0 := by rw [cutG_tw size G (.inl rfl), hz]; split <;> rfl
      have hc30 : Ino.cutG size G 130 = 0 := by rw [cutG_tw size G (.inr rfl), hz30]; split <;> rfl
      rw [Ino.lev_step (n' := 0) (s' := s2) hc (by rw [hz]; exact Ino.thr_hole rfl rfl), Ino.lev_nil, hc0, cutL_nil (fun p h1 h2 => .inl (hall p h1 h2)), cutQ_nil (fun p h1 h2 => .inl (hall p h1 h2)), if_neg (fun h => h.1 hz30), if_neg (fun h => h.1 hz), if_neg (fun h => h.1 hc30)]
      simp
    · obtain ⟨h2, h3⟩ := hok.d1 hz
      have hg130 : G 130 ≠ 0 := hF.dbl.1 hz
      have ho : Ino.opn (wOps [] n V) (G 129) s2 = (G 129, Ino.tabd G, 0, { s2 with b := s2.b + 1 }) := by
        have eg : (wOps [] n V).get s2 (G 129) = (Ino.tabd G, 0, { s2 with b := s2.b + 1 }) := by
          show (if (G 129).toNat < n then _ else _ : List (BitVec 32) × Int × WS) = _
          rw [if_pos h2, h3]
        unfold Ino.opn; rw [if_neg hz, eg, if_pos rfl]
      obtain ⟨b3, e3⟩ := thr_cut n V size 72 63 (plc G) (G 130) (Ino.tab2 G) (tab2_span G) (by omega) (fun p _ _ => hlt p) hok.t0 (fun h => ⟨hok.t1 h, hz2 h⟩) { s2 with b := s2.b + 1 }
      rw [← cutG_130, cutN_tab2, cutL_num, cutQ_num, ← cutG_tab2] at e3
      have hnh : ¬ (G 129 = 0 ∧ (false : Bool) = false) := fun h => hz h.1
      by_cases hzt : Ino.tab2 (Ino.cutP size G) = Ino.zT
      · have hc30 : Ino.cutG size G 130 = 0 := by rw [cutG_tw size G (.inr rfl), if_pos hzt]
        have hc29 : Ino.cutG size G 129 = 0 := by rw [cutG_tw size G (.inl rfl), if_pos hzt]
        refine ⟨b3 + 1, ?_⟩
        have := Ino.thr_give (lv := fun l s => Ino.lev (Ino.thr1 (wOps [] n V) false (size / 512) 4168 (cutS n V size)) (size / 512) 4168 72 64 l 0 s) (o := wOps [] n V) (holes := false) hnh ho e3 (by rw [hc30]; rfl)
        rw [Ino.lev_step (n' := 0) hc this, Ino.lev_nil, hc29, if_pos (⟨hz, rfl⟩ : G 129 ≠ 0 ∧ (0 : BitVec 32) = 0)]
        simp [wOps]
      · have hc30 : Ino.cutG size G 130 = G 130 := by rw [cutG_tw size G (.inr rfl), if_neg hzt]
        have hc29 : Ino.cutG size G 129 = G 129 := by rw [cutG_tw size G (.inl rfl), if_neg hzt]
        refine ⟨b3, ?_⟩
        have hnz : Ino.cutG size G 130 :: List.replicate 63 0#32 ≠ Ino.zT := fun e => by
          have e2 := congrArg (fun l => l[0]?) e
          rw [hc30] at e2
          exact hg130 (by simpa [Ino.zT] using e2)
        have := Ino.thr_same (lv := fun l s => Ino.lev (Ino.thr1 (wOps [] n V) false (size / 512) 4168 (cutS n V size)) (size / 512) 4168 72 64 l 0 s) (o := wOps [] n V) (holes := false) hnh ho e3 hnz (by rw [hc30]; rfl)
        rw [Ino.lev_step (n' := G 129) hc this, Ino.lev_nil, hc29, if_neg (fun h => h.1 h.2 : ¬ (G 129 ≠ 0 ∧ G 129 = 0))]
        simp
  refine ⟨b3, ?_⟩
  unfold Ino.ovr
  dsimp only
  rw [n8, e1, n9, n10]
  dsimp only
  rw [if_neg (by decide), show [G 128] = G 128 :: List.replicate 0 0 from rfl, e2]
  dsimp only
  rw [if_neg (by decide), e3]
  dsimp only
  rw [if_neg (by decide), hs2, hs1]
  have q1 : (List.range 8).map (Ino.cutG size G) ++ (Ino.cutG size G 128 :: List.replicate 0 0) ++ [Ino.cutG size G 129] = nums (Ino.cutG size G) := by
    unfold nums
    rw [List.append_assoc]; rfl
  have q2 : ∀ (c : Prop) [Decidable c] (i : Nat), (if c then [(G i).toNat] else []) = (if c then [i] else []).map (numO G) := fun c _ i => by split <;> rfl
  have q3 : ∀ (c : Prop) [Decidable c] (i : Nat) (d : By), (if c then [((G i).toNat, d)] else []) = (if c then [(i, d)] else []).map (atG G) := fun c _ i d => by split <;> rfl
  rw [q1]
  dsimp only
  rw [q2, q2, q2, q3, q3]
  unfold cutIs cutPs
  simp only [List.map_append, List.append_assoc]

end Go.Proofs.YtebdgcoandfocaaGreatDoor
