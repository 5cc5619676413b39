/-
  An entry is put into a row of entries, or taken out of it: slices.Insert, slices.Delete.
-/
import Derived.Test.YtdocablbkafkiaaDoorDg
import Derived.Lib.Overlaps
import Derived.Lib.AppendZerosOnto
import Derived.Lib.JoinLaws
import Derived.Laws.IdiomCopy
import Derived.Laws.NewBlocks
namespace Go.Proofs.YtdocablbkafkiaaDoor.Cd
open Go.RowKit Go.Lib

theorem entInfo : ∃ i, Tryd.prog.info? 55 = some i ∧ i.zero = some (.agg #[.string ⟨#[]⟩, .int .i64 0]) ∧ i.size = 2 ∧ i.bytes = 24 := by
  have e : (Tryd.prog.info? 55).map (fun i => (i.zero, i.size, i.bytes)) = some (some (.agg #[.string ⟨#[]⟩, .int .i64 0]), 2, 24) := by kernel_rfl
  obtain ⟨i, hi, he⟩ := Option.map_eq_some_iff.1 e
  injection he with h1 h2
  injection h2 with h2 h3
  exact ⟨i, hi, h1, h2, h3⟩
theorem append_be (ty : TypeId) (v : Value) (x : Value) (w : World) (hv : ∃ p n c, v = .slice p n c) : (Builtin.append_ #[57, 56] ty #[v, x]).run Tryd.prog w = (Builtin.append_ #[57, 57] ty #[v, x]).run Tryd.prog w := by
  obtain ⟨p, n, c, rfl⟩ := hv
  simp [Builtin.append_, run_underlying Tryd.underlying57, run_underlying Tryd.underlying56, Tryd.sizeOf55]

theorem Blk.ext {w : World} {base : Nat} {v : Value} {n : Nat} {xs : List Value} {L : List En} (h : w.ownsRow base 55 2 v n xs) (hn : n = L.length) (hx : xs = ents L) : Blk w base v L := by
  subst hn; subst hx; exact h

/-- What Insert answers. -/
def Insd (base : Nat) (v : Value) (M : List En) (w : World) (e : Ending) (w' : World) : Prop := ∃ v', e = .returned v' ∧ Blk w' base v' M ∧ w.grownBy w' v.ownBlock ∧ (v'.ownBlock = v.ownBlock ∨ v'.ownBlock = some w.heap.size)

set_option maxRecDepth 8000 in
set_option maxHeartbeats 2000000 in
theorem insert_end (base vb : Nat) (v : Value) (L : List En) (x : En) (w : World) (h : Blk w base v L) (hl : L.length ≤ 7) (hb : base ≤ w.heap.size) (hvb : w.heap[vb]? = some (.cells (entCells x).toArray 55 (0, 0))) :
    Calls Tryd.prog 62 #[v, .int .i64 (L.length : Nat), .slice (some ⟨vb, 0, none⟩) 1 1] w (Insd base v (L ++ [x]) w) := by
  obtain ⟨i0, hi0, hz0, hz1, hz2⟩ := entInfo
  obtain ⟨p, c, rfl, hlc, hcm, _⟩ := h.form
  obtain ⟨v', w', hr, h2, h3, _, h5⟩ := run_append_own_at (P := Tryd.prog) w base 57 57 55 i0 _ 2 24 Tryd.underlying57 hi0 hz0 hz1 hz2 rfl (by omega) _ L.length (ents L) h ⟨vb, 0, none⟩ 1 1 (entCells x) rfl
    (fun j u hj => by rw [Addr.add_lit, cellOf hvb]; simpa using hj) (by intro u hu; simp [entCells] at hu; rcases hu with rfl | rfl <;> rfl) (by unfold maxLen; omega) (by omega) hb
  have H : Hid (Insd base (.slice p L.length c) (L ++ [x]) w (.returned v') w') := ⟨v', rfl, Blk.ext h2 (by simp) (by rw [ents_append]; simp [ents]), h3, h5⟩
  rw [← append_be _ _ _ _ ⟨_, _, _, rfl⟩] at hr
  have hcm' : c ≤ 9223372036854775807 := by unfold maxLen at hcm; omega
  clear h hvb h2 h3 h5 hi0 hz0 hcm
  generalize L.length = n at *
  go_enter Tryd.func62, Tryd.ntmps62
  rcases p with _ | ⟨ab, ao, asp⟩
  · go_wp2_with (at_builtin; refine Lib.wpList_append_run _ rfl _ _ _ _ rfl _ _ rfl rfl _ _ hr ?_)
    all_goals (go_ret; exact H.out)
  · go_wp2_with (at_builtin; refine Lib.wpList_append_run _ rfl _ _ _ _ rfl _ _ rfl rfl _ _ hr ?_)
    all_goals (go_ret; exact H.out)

/-- copy of entries into a row, as a run. -/
theorem run_copy2 (w : World) (dT sT ty : TypeId) (g o dLen dCap : Nat) (a : Addr) (sLen sCap : Nat) (cur : Array Value) (t : TypeId) (cs : List Value) (k : Nat)
    (hu : Tryd.prog.underlying dT = some (.slice 55)) (hg : w.heap[g]? = some (.cells cur t (0, 0))) (hk : Nat.min sLen dLen = k) (hn : cs.length = k * 2)
    (hsrc : ∀ j v, cs[j]? = some v → w.cell? (a.add j) = some v) (hfit : o + cs.length ≤ cur.size) (h1 : ∀ v ∈ cs, v.oneCell' = true) :
    (Builtin.copy_ #[dT, sT] ty #[.slice (some ⟨g, o, none⟩) dLen dCap, .slice (some a) sLen sCap]).run Tryd.prog w =
      .ok (goInt k) (w.setRow g (cur.toList.take o ++ cs ++ cur.toList.drop (o + cs.length)).toArray) := by
  have hl := run_loadCells_list (P := Tryd.prog) w a cs hsrc
  have hst := run_storeCells_at Tryd.prog g o t cs 0 cur w hg (by simpa using hfit) h1
  obtain ⟨i0, hi0, hz0, hz1, hz2⟩ := entInfo
  rw [hn] at hl
  simp [Builtin.copy_, run_underlying hu, Builtin.lenOf, Builtin.firstCells, sizeOf, typeInfo, hi0, hz1, hk, hl, hst]

theorem overlaps_no (w : World) (vb g la ca lb cb o : Nat) (cur ds : Array Value) (hne : vb ≠ g) (hvb : w.heap[vb]? = some (.cells ds 55 (0, 0))) (hg : w.heap[g]? = some (.cells cur 55 (0, 0))) (h0 : cur.size ≠ 0) :
    (callFunc 76 #[.slice (some ⟨vb, 0, none⟩) la ca, .slice (some ⟨g, o, none⟩) lb cb]).run Tryd.prog w = .ok (.value (.bool false)) w := by
  rw [run_callFunc_extern Tryd.func76 (by kernel_rfl) (by kernel_rfl) (by kernel_rfl) (e := Extern.SlicesOverlaps.overlaps #[56, 56] #[4]) (by kernel_rfl),
    Lib.run_overlaps_apart w 56 4 55 Tryd.underlying56 2 Tryd.sizeOf55 ⟨vb, 0, none⟩ ⟨g, o, none⟩ la ca lb cb hne 55 55 ds.size cur.size (by unfold World.shape?; rw [hvb]) (by unfold World.shape?; rw [hg]) h0 (by simp [World.frozen?, hvb]) (by simp [World.frozen?, hvb])]
  rfl

theorem shift_list {α : Type} (c X T R : List α) (i t : Nat) (hc : i + 2 ≤ c.length) (hX : X.length = 2) (hT : T.length = t) : ((c.take (i + 2) ++ T ++ R).take i ++ X ++ (c.take (i + 2) ++ T ++ R).drop (i + 2)).take (i + 2 + t) = c.take i ++ X ++ T := by
  have h1 : (c.take (i + 2) ++ T ++ R).take i = c.take i := by
    rw [List.append_assoc, List.take_append_of_le_length (by rw [List.length_take]; omega), List.take_take, Nat.min_eq_left (by omega)]
  have h2 : (c.take (i + 2) ++ T ++ R).drop (i + 2) = T ++ R := by
    rw [List.append_assoc, List.drop_append_of_le_length (by rw [List.length_take]; omega), List.drop_of_length_le (by rw [List.length_take]; omega), List.nil_append]
  rw [h1, h2, ← List.append_assoc, List.take_append_of_le_length (by simp; omega), List.take_of_length_le (by simp; omega)]

set_option maxRecDepth 8000 in
set_option maxHeartbeats 4000000 in
theorem insert_shift (base i vb g cap : Nat) (cur : Array Value) (L : List En) (x : En) (w : World) (hbg : base ≤ g) (hg : w.heap[g]? = some (.cells cur 55 (0, 0))) (hm : cap ≤ maxLen) (hs : cur.size = cap * 2) (ht : cur.toList.take (L.length * 2) = ents L)
    (hi : i < L.length) (hl : L.length ≤ 7) (hroom : L.length + 1 ≤ cap) (hvb : w.heap[vb]? = some (.cells (entCells x).toArray 55 (0, 0))) (hne : vb ≠ g) :
    Calls Tryd.prog 62 #[.slice (some ⟨g, 0, none⟩) L.length cap, .int .i64 (i : Nat), .slice (some ⟨vb, 0, none⟩) 1 1] w (Insd base (.slice (some ⟨g, 0, none⟩) L.length cap) (L.take i ++ x :: L.drop i) w) := by
  have hov := fun lb cb => overlaps_no w vb g 1 1 lb cb ((i + 1) * 2) cur _ hne hvb hg (by omega)
  obtain ⟨n, hn⟩ : ∃ n, n = L.length := ⟨_, rfl⟩
  have hcur : cur.toList.length = cap * 2 := by rw [Array.length_toList, hs]
  have hdr : (ents (L.drop i)).length = (n - i) * 2 := by rw [ents_length, List.length_drop, hn]
  have hcp1 : ∀ dc sc, (Builtin.copy_ #[57, 57] 3 #[.slice (some ⟨g, (i + 1) * 2, none⟩) (n - i) dc, .slice (some ⟨g, i * 2, none⟩) (n + 1 - i) sc]).run Tryd.prog w.drew = _ := fun dc sc =>
    run_copy2 w.drew 57 57 3 g ((i + 1) * 2) (n - i) dc ⟨g, i * 2, none⟩ (n + 1 - i) sc cur 55 (ents (L.drop i)) (n - i) Tryd.underlying57 hg (by simp only [Nat.min_def]; split <;> omega) hdr
      (fun j v hj => by
        rw [Addr.add_lit]
        have hj' := (List.getElem?_eq_some_iff.1 hj).1
        rw [hdr] at hj'
        refine (cellOf hg (i * 2 + j)).trans ?_
        rw [← Array.getElem?_toList]
        have : (cur.toList.take (L.length * 2))[i * 2 + j]? = some v := by
          rw [ht, ← List.getElem?_drop, ents_drop]; exact hj
        rw [List.getElem?_take] at this
        split at this
        · exact this
        · cases this) (by rw [hdr, hs]; omega) (ents_one _)
  obtain ⟨A1, hA1⟩ : ∃ A1, A1 = (cur.toList.take ((i + 1) * 2) ++ ents (L.drop i) ++ cur.toList.drop ((i + 1) * 2 + (ents (L.drop i)).length)).toArray := ⟨_, rfl⟩
  rw [← hA1] at hcp1
  have hA1s : A1.size = cap * 2 := by
    rw [hA1, ← Array.length_toList]; simp [hdr, hs]; omega
  obtain ⟨W1, hW1⟩ : ∃ W1, W1 = w.drew.setRow g A1 := ⟨_, rfl⟩
  rw [← hW1] at hcp1
  have hg1 : W1.heap[g]? = some (.cells A1 55 (0, 0)) := by rw [hW1]; exact setRow_heap _ _ cur _ 55 (0, 0) hg
  have hv1 : W1.heap[vb]? = some (.cells (entCells x).toArray 55 (0, 0)) := by rw [hW1, setRow_other _ _ _ _ hne]; exact hvb
  have hcp2 : ∀ dc, (Builtin.copy_ #[57, 56] 3 #[.slice (some ⟨g, i * 2, none⟩) (n + 1 - i) dc, .slice (some ⟨vb, 0, none⟩) 1 1]).run Tryd.prog W1 = _ := fun dc =>
    run_copy2 W1 57 56 3 g (i * 2) (n + 1 - i) dc ⟨vb, 0, none⟩ 1 1 A1 55 (entCells x) 1 Tryd.underlying57 hg1 (by simp only [Nat.min_def]; split <;> omega) rfl
      (fun j v hj => by rw [Addr.add_lit]; refine (cellOf hv1 (0 + j)).trans ?_; rw [Nat.zero_add]; simpa using hj) (by rw [hA1s]; simp [entCells]; omega) (by intro u hu; simp [entCells] at hu; rcases hu with rfl | rfl <;> rfl)
  obtain ⟨A2, hA2⟩ : ∃ A2, A2 = (A1.toList.take (i * 2) ++ entCells x ++ A1.toList.drop (i * 2 + (entCells x).length)).toArray := ⟨_, rfl⟩
  rw [← hA2] at hcp2
  have H : Hid (Insd base (.slice (some ⟨g, 0, none⟩) n cap) (L.take i ++ x :: L.drop i) w (.returned (.slice (some ⟨g, 0, none⟩) (n + 1) cap)) (W1.setRow g A2)) := by
    refine ⟨_, rfl, ?_, ⟨?_, ?_, ?_, ?_, ?_⟩, .inl rfl⟩
    · have hlen : (L.take i ++ x :: L.drop i).length = n + 1 := by rw [hn]; simp; omega
      refine ⟨ents_length _, .inr ⟨g, cap, A2, by rw [hlen], hbg, setRow_heap _ _ A1 _ 55 (0, 0) hg1, by omega, hm, ?_, ?_⟩⟩
      · rw [hA2]
        have : A1.toList.length = cap * 2 := by rw [Array.length_toList, hA1s]
        simp [entCells]; omega
      · rw [hlen, hA2, hA1, List.toList_toArray, List.toList_toArray]
        have e := shift_list cur.toList (entCells x) (ents (L.drop i)) (cur.toList.drop ((i + 1) * 2 + (ents (L.drop i)).length)) (i * 2) ((n - i) * 2) (by omega) rfl hdr
        rw [show i * 2 + 2 = (i + 1) * 2 by omega, show (i + 1) * 2 + (n - i) * 2 = (n + 1) * 2 by omega] at e
        rw [show i * 2 + (entCells x).length = (i + 1) * 2 by simp [entCells]; omega, e, ents_append, ents_cons, ← ents_take, ← ht, List.take_take, Nat.min_eq_left (by omega), List.append_assoc]
    · rw [hW1]; rfl
    · rw [hW1]; rfl
    · rw [hW1]; rfl
    · rw [hW1]; simp
    · intro k hk hkg
      have : k ≠ g := fun e => hkg (by rw [e]; rfl)
      rw [setRow_other _ _ _ _ this, hW1, setRow_other _ _ _ _ this]; rfl
  rw [← hn]
  rw [← hn] at hi hl hroom
  have hcm' : cap ≤ 9223372036854775807 := by unfold maxLen at hm; omega
  clear hg hs ht hvb hcur hdr hA1 hA1s hg1 hv1 hA2 hW1 hm hn
  go_enter Tryd.func62, Tryd.ntmps62
  go_wp2_with (simp only [hov])
  go_region
  go_wp2
  go_ret
  exact H.out

end Go.Proofs.YtdocablbkafkiaaDoor.Cd
