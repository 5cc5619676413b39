/-
  A version is put into a row of versions: slices.Insert.
-/
import Derived.Test.YteimjkicinjcgaaKLd

namespace Go.Proofs.Yteimjkicinjcgaa.Ck.Y.L
open Go.RowKit Go.Maps Go.Lib

theorem RowV.shape {w : World} {base : Nat} {v : Value} {l : List VG} (h : RowV w base v l) : ∃ p c, v = .slice p l.length c ∧ l.length ≤ c ∧ c ≤ maxLen := by
  rcases h.2 with ⟨rfl, h0⟩ | ⟨g, cap, cur, rfl, _, _, hn, hm, _⟩
  · exact ⟨none, 0, by rw [h0], by omega, Nat.zero_le _⟩
  · exact ⟨_, cap, rfl, hn, hm⟩
theorem flatV_cons (x : VG) (M : List VG) : flatV (x :: M) = verL x ++ flatV M := rfl
theorem RowV.ext {w : World} {base : Nat} {v : Value} {n : Nat} {xs : List Value} {L : List VG} (h : w.ownsRow base 43 5 v n xs) (hn : n = L.length) (hx : xs = flatV L) : RowV w base v L := by
  subst hn; subst hx; exact h

/-- What Insert answers. -/
def InsdV (base : Nat) (v : Value) (M : List VG) (w : World) (e : Ending) (w' : World) : Prop := ∃ v', e = .returned v' ∧ RowV w' base v' M ∧ w.grownBy w' v.ownBlock ∧ (v'.ownBlock = v.ownBlock ∨ v'.ownBlock = some w.heap.size)

set_option maxRecDepth 8000 in
set_option maxHeartbeats 2000000 in
theorem insert_endV (base vb : Nat) (v : Value) (L : List VG) (x : VG) (w : World) (h : RowV w base v L) (hl : L.length ≤ 1000) (hb : base ≤ w.heap.size) (hvb : w.heap[vb]? = some (.cells (verL x).toArray 43 (0, 0))) :
    Calls Try.prog 56 #[v, .int .i64 (L.length : Nat), .slice (some ⟨vb, 0, none⟩) 1 1] w (InsdV base v (L ++ [x]) w) := by
  obtain ⟨i0, hi0, hz0, hz1, hz2⟩ := infoV
  obtain ⟨p, c, rfl, hlc, hcm⟩ := h.shape
  obtain ⟨v', w', hr, h2, h3, _, h5⟩ := run_append_own_at (P := Try.prog) w base 38 38 43 i0 _ 5 72 Try.underlying38 hi0 hz0 hz1 hz2 rfl (by omega) _ L.length (flatV L) h ⟨vb, 0, none⟩ 1 1 (verL x) rfl
    (fun j u hj => by rw [Addr.add_lit, cellOf hvb]; simpa using hj) (verL_one _) (by unfold maxLen; omega) (by omega) hb
  have H : Hid (InsdV base (.slice p L.length c) (L ++ [x]) w (.returned v') w') := ⟨v', rfl, RowV.ext h2 (by simp) (by rw [flatV_append]; simp [flatV]), h3, h5⟩
  have hcm' : c ≤ 9223372036854775807 := by unfold maxLen at hcm; omega
  clear h hvb h2 h3 h5 hi0 hz0 hcm
  generalize L.length = n at *
  go_enter Try.func56, Try.ntmps56
  rcases p with _ | ⟨ab, ao, asp⟩
  · go_wp2_with (at_builtin; refine Lib.wpList_append_run _ rfl _ _ _ _ rfl _ _ rfl rfl _ _ hr ?_)
    all_goals (go_ret; exact H.out)
  · go_wp2_with (at_builtin; refine Lib.wpList_append_run _ rfl _ _ _ _ rfl _ _ rfl rfl _ _ hr ?_)
    all_goals (go_ret; exact H.out)

/-- copy of entries into a row, as a run. -/
theorem run_copy2V (w : World) (dT sT ty : TypeId) (g o dLen dCap : Nat) (a : Addr) (sLen sCap : Nat) (cur : Array Value) (t : TypeId) (cs : List Value) (k : Nat)
    (hu : Try.prog.underlying dT = some (.slice 43)) (hg : w.heap[g]? = some (.cells cur t (0, 0))) (hk : Nat.min sLen dLen = k) (hn : cs.length = k * 5)
    (hsrc : ∀ j v, cs[j]? = some v → w.cell? (a.add j) = some v) (hfit : o + cs.length ≤ cur.size) (h1 : ∀ v ∈ cs, v.oneCell' = true) :
    (Builtin.copy_ #[dT, sT] ty #[.slice (some ⟨g, o, none⟩) dLen dCap, .slice (some a) sLen sCap]).run Try.prog w =
      .ok (goInt k) (w.setRow g (cur.toList.take o ++ cs ++ cur.toList.drop (o + cs.length)).toArray) := by
  have hl := run_loadCells_list (P := Try.prog) w a cs hsrc
  have hst := run_storeCells_at Try.prog g o t cs 0 cur w hg (by simpa using hfit) h1
  obtain ⟨i0, hi0, hz0, hz1, hz2⟩ := infoV
  rw [hn] at hl
  simp [Builtin.copy_, run_underlying hu, Builtin.lenOf, Builtin.firstCells, sizeOf, typeInfo, hi0, hz1, hk, hl, hst]

theorem overlaps_noV (w : World) (vb g la ca lb cb o : Nat) (cur ds : Array Value) (hne : vb ≠ g) (hvb : w.heap[vb]? = some (.cells ds 43 (0, 0))) (hg : w.heap[g]? = some (.cells cur 43 (0, 0))) (h0 : cur.size ≠ 0) :
    (callFunc 73 #[.slice (some ⟨vb, 0, none⟩) la ca, .slice (some ⟨g, o, none⟩) lb cb]).run Try.prog w = .ok (.value (.bool false)) w := by
  rw [run_callFunc_extern Try.func73 (by kernel_rfl) (by kernel_rfl) (by kernel_rfl) (e := Extern.SlicesOverlaps.overlaps #[38, 38] #[4]) (by kernel_rfl),
    Lib.run_overlaps_apart w 38 4 43 Try.underlying38 5 Try.sizeOf43 ⟨vb, 0, none⟩ ⟨g, o, none⟩ la ca lb cb hne 43 43 ds.size cur.size (by unfold World.shape?; rw [hvb]) (by unfold World.shape?; rw [hg]) h0 (by simp [World.frozen?, hvb]) (by simp [World.frozen?, hvb])]
  rfl

theorem shift_listV {α : Type} (c X T R : List α) (i t : Nat) (hc : i + 5 ≤ c.length) (hX : X.length = 5) (hT : T.length = t) : ((c.take (i + 5) ++ T ++ R).take i ++ X ++ (c.take (i + 5) ++ T ++ R).drop (i + 5)).take (i + 5 + t) = c.take i ++ X ++ T := by
  have h1 : (c.take (i + 5) ++ T ++ R).take i = c.take i := by
    rw [List.append_assoc, List.take_append_of_le_length (by rw [List.length_take]; omega), List.take_take, Nat.min_eq_left (by omega)]
  have h2 : (c.take (i + 5) ++ T ++ R).drop (i + 5) = T ++ R := by
    rw [List.append_assoc, List.drop_append_of_le_length (by rw [List.length_take]; omega), List.drop_of_length_le (by rw [List.length_take]; omega), List.nil_append]
  rw [h1, h2, ← List.append_assoc, List.take_append_of_le_length (by simp; omega), List.take_of_length_le (by simp; omega)]

set_option maxRecDepth 8000 in
set_option maxHeartbeats 4000000 in
theorem insert_shiftV (base i vb g cap : Nat) (cur : Array Value) (L : List VG) (x : VG) (w : World) (hbg : base ≤ g) (hg : w.heap[g]? = some (.cells cur 43 (0, 0))) (hm : cap ≤ maxLen) (hs : cur.size = cap * 5) (ht : cur.toList.take (L.length * 5) = flatV L)
    (hi : i < L.length) (hl : L.length ≤ 1000) (hroom : L.length + 1 ≤ cap) (hvb : w.heap[vb]? = some (.cells (verL x).toArray 43 (0, 0))) (hne : vb ≠ g) :
    Calls Try.prog 56 #[.slice (some ⟨g, 0, none⟩) L.length cap, .int .i64 (i : Nat), .slice (some ⟨vb, 0, none⟩) 1 1] w (InsdV base (.slice (some ⟨g, 0, none⟩) L.length cap) (L.take i ++ x :: L.drop i) w) := by
  have hov := fun lb cb => overlaps_noV w vb g 1 1 lb cb ((i + 1) * 5) cur _ hne hvb hg (by omega)
  obtain ⟨n, hn⟩ : ∃ n, n = L.length := ⟨_, rfl⟩
  have hcur : cur.toList.length = cap * 5 := by rw [Array.length_toList, hs]
  have hdr : (flatV (L.drop i)).length = (n - i) * 5 := by rw [flatV_length, List.length_drop, hn]
  have hcp1 : ∀ dc sc, (Builtin.copy_ #[38, 38] 3 #[.slice (some ⟨g, (i + 1) * 5, none⟩) (n - i) dc, .slice (some ⟨g, i * 5, none⟩) (n + 1 - i) sc]).run Try.prog w.drew = _ := fun dc sc =>
    run_copy2V w.drew 38 38 3 g ((i + 1) * 5) (n - i) dc ⟨g, i * 5, none⟩ (n + 1 - i) sc cur 43 (flatV (L.drop i)) (n - i) Try.underlying38 hg (by simp only [Nat.min_def]; split <;> omega) hdr
      (fun j v hj => by
        rw [Addr.add_lit]
        have hj' := (List.getElem?_eq_some_iff.1 hj).1
        rw [hdr] at hj'
        refine (cellOf hg (i * 5 + j)).trans ?_
        rw [← Array.getElem?_toList]
        have : (cur.toList.take (L.length * 5))[i * 5 + j]? = some v := by
          rw [ht, ← List.getElem?_drop, flatV_drop]; exact hj
        rw [List.getElem?_take] at this
        split at this
        · exact this
        · cases this) (by rw [hdr, hs]; omega) (flatV_one _)
  obtain ⟨A1, hA1⟩ : ∃ A1, A1 = (cur.toList.take ((i + 1) * 5) ++ flatV (L.drop i) ++ cur.toList.drop ((i + 1) * 5 + (flatV (L.drop i)).length)).toArray := ⟨_, rfl⟩
  rw [← hA1] at hcp1
  have hA1s : A1.size = cap * 5 := by
    rw [hA1, ← Array.length_toList]; simp [hdr, hs]; omega
  obtain ⟨W1, hW1⟩ : ∃ W1, W1 = w.drew.setRow g A1 := ⟨_, rfl⟩
  rw [← hW1] at hcp1
  have hg1 : W1.heap[g]? = some (.cells A1 43 (0, 0)) := by rw [hW1]; exact setRow_heap _ _ cur _ 43 (0, 0) hg
  have hv1 : W1.heap[vb]? = some (.cells (verL x).toArray 43 (0, 0)) := by rw [hW1, setRow_other _ _ _ _ hne]; exact hvb
  have hcp2 : ∀ dc, (Builtin.copy_ #[38, 38] 3 #[.slice (some ⟨g, i * 5, none⟩) (n + 1 - i) dc, .slice (some ⟨vb, 0, none⟩) 1 1]).run Try.prog W1 = _ := fun dc =>
    run_copy2V W1 38 38 3 g (i * 5) (n + 1 - i) dc ⟨vb, 0, none⟩ 1 1 A1 43 (verL x) 1 Try.underlying38 hg1 (by simp only [Nat.min_def]; split <;> omega) rfl
      (fun j v hj => by rw [Addr.add_lit]; refine (cellOf hv1 (0 + j)).trans ?_; rw [Nat.zero_add]; simpa using hj) (by rw [hA1s]; simp [verL]; omega) (verL_one _)
  obtain ⟨A2, hA2⟩ : ∃ A2, A2 = (A1.toList.take (i * 5) ++ verL x ++ A1.toList.drop (i * 5 + (verL x).length)).toArray := ⟨_, rfl⟩
  rw [← hA2] at hcp2
  have H : Hid (InsdV base (.slice (some ⟨g, 0, none⟩) n cap) (L.take i ++ x :: L.drop i) w (.returned (.slice (some ⟨g, 0, none⟩) (n + 1) cap)) (W1.setRow g A2)) := by
    refine ⟨_, rfl, ?_, ⟨?_, ?_, ?_, ?_, ?_⟩, .inl rfl⟩
    · have hlen : (L.take i ++ x :: L.drop i).length = n + 1 := by rw [hn]; simp; omega
      refine ⟨flatV_length _, .inr ⟨g, cap, A2, by rw [hlen], hbg, setRow_heap _ _ A1 _ 43 (0, 0) hg1, by omega, hm, ?_, ?_⟩⟩
      · rw [hA2]
        have : A1.toList.length = cap * 5 := by rw [Array.length_toList, hA1s]
        simp [verL]; omega
      · rw [hlen, hA2, hA1, List.toList_toArray, List.toList_toArray]
        have e := shift_listV cur.toList (verL x) (flatV (L.drop i)) (cur.toList.drop ((i + 1) * 5 + (flatV (L.drop i)).length)) (i * 5) ((n - i) * 5) (by omega) rfl hdr
        rw [show i * 5 + 5 = (i + 1) * 5 by omega, show (i + 1) * 5 + (n - i) * 5 = (n + 1) * 5 by omega] at e
        rw [show i * 5 + (verL x).length = (i + 1) * 5 by simp [verL]; omega, e, flatV_append, flatV_cons, ← flatV_take, ← ht, List.take_take, Nat.min_eq_left (by omega), List.append_assoc]
    · rw [hW1]; rfl
    · rw [hW1]; rfl
    · rw [hW1]; rfl
    · rw [hW1]; simp
    · intro k hk hkg
      have : k ≠ g := fun e => hkg (by rw [e]; rfl)
      rw [setRow_other _ _ _ _ this, hW1, setRow_other _ _ _ _ this]; rfl
  rw [← hn]
  rw [← hn] at hi hl hroom
  have hcm' : cap ≤ 9223372036854775807 := by unfold maxLen at hm; omega
  clear hg hs ht hvb hcur hdr hA1 hA1s hg1 hv1 hA2 hW1 hm hn
  go_enter Try.func56, Try.ntmps56
  go_wp2_with (simp only [hov])
  go_region
  go_wp2
  go_ret
  exact H.out

theorem grow_listV {α : Type} (R X T : List α) (i t : Nat) (hR : i + 5 + t ≤ R.length) (hX : X.length = 5) (hT : T.length = t) :
    ((R.take i ++ X ++ R.drop (i + 5)).take (i + 5) ++ T ++ (R.take i ++ X ++ R.drop (i + 5)).drop (i + 5 + t)).take (i + 5 + t) = R.take i ++ X ++ T := by
  have h1 : (R.take i ++ X ++ R.drop (i + 5)).take (i + 5) = R.take i ++ X := by
    rw [List.take_append_of_le_length (by simp; omega), List.take_of_length_le (by simp; omega)]
  rw [h1, List.take_append_of_le_length (by simp; omega), List.take_of_length_le (by simp; omega)]

set_option maxRecDepth 8000 in
set_option maxHeartbeats 4000000 in
theorem insert_growV (base i vb g cap : Nat) (cur : Array Value) (L : List VG) (x : VG) (w : World) (hbw : base ≤ w.heap.size) (hg : w.heap[g]? = some (.cells cur 43 (0, 0))) (hm : cap ≤ maxLen) (hs : cur.size = cap * 5) (ht : cur.toList.take (L.length * 5) = flatV L)
    (hi : i < L.length) (hl : L.length ≤ 1000) (hnc : L.length ≤ cap) (hroom : cap < L.length + 1) (hvb : w.heap[vb]? = some (.cells (verL x).toArray 43 (0, 0))) :
    Calls Try.prog 56 #[.slice (some ⟨g, 0, none⟩) L.length cap, .int .i64 (i : Nat), .slice (some ⟨vb, 0, none⟩) 1 1] w (InsdV base (.slice (some ⟨g, 0, none⟩) L.length cap) (L.take i ++ x :: L.drop i) w) := by
  obtain ⟨i0, hi0, hz0, hz1, hz2⟩ := infoV
  obtain ⟨n, hn⟩ : ∃ n, n = L.length := ⟨_, rfl⟩
  have hcur : cur.toList.length = cap * 5 := by rw [Array.length_toList, hs]
  have hdr : (flatV (L.drop i)).length = (n - i) * 5 := by rw [flatV_length, List.length_drop, hn]
  have hta : (flatV (L.take i)).length = i * 5 := by rw [flatV_length, List.length_take]; omega
  have hcell : ∀ (W : World) (k j : Nat) (v : Value), W.heap[g]? = some (.cells cur 43 (0, 0)) → (flatV (L.drop k))[j]? = some v → W.cell? ⟨g, k * 5 + j, none⟩ = some v := fun W k j v hW hj => by
    refine (cellOf hW (k * 5 + j)).trans ?_
    rw [← Array.getElem?_toList]
    have : (cur.toList.take (L.length * 5))[k * 5 + j]? = some v := by
      rw [ht, ← List.getElem?_drop, flatV_drop]; exact hj
    rw [List.getElem?_take] at this
    split at this
    · exact this
    · cases this
  have hold : (Builtin.firstCells i0.size i (.slice (some ⟨g, 0, none⟩) i cap)).run Try.prog w.drew = .ok (flatV (L.take i)).toArray w.drew := by
    rw [hz1]
    refine run_firstCells_some w.drew 5 i ⟨g, 0, none⟩ i cap (flatV (L.take i)) hta (fun j v hj => ?_)
    rw [Addr.add_lit]
    have := hcell w.drew 0 j v hg (by
      rw [← flatV_take, List.getElem?_take] at hj
      split at hj
      · exact hj
      · cases hj)
    rwa [Nat.zero_mul] at this
  have hzr := Lib.run_append_grow_zeros (P := Try.prog) w 38 3 38 43 i0 _ .i64 .i64 Try.underlying38 (by kernel_rfl) hi0 hz0 (some ⟨g, 0, none⟩) i cap (flatV (L.take i)) hold (n + 1 - i) (by omega) (by omega) (by omega) (by omega) (by rw [hz2]; omega)
    (by rw [hz2, show i + (n + 1 - i) = n + 1 by omega]; exact growslice_fits (by omega) (by omega))
  rw [show i + (n + 1 - i) = n + 1 by omega] at hzr
  have hkk : (n : Int) + 1 - (i : Int) = ((n + 1 - i : Nat) : Int) := by omega
  rw [← hkk] at hzr
  obtain ⟨G, hG⟩ : ∃ G, G = grownCap w (n + 1) cap 43 := ⟨_, rfl⟩
  have hGn : n + 1 ≤ G := by rw [hG]; exact grownCap_ge w _ _ _
  have hGm : G ≤ maxLen := by rw [hG]; exact grownCap_le_maxLen w _ _ _ (by unfold maxLen; omega)
  rw [← hG] at hzr
  obtain ⟨R, hR⟩ : ∃ R : Array Value, R = (flatV (L.take i)).toArray ++ Builtin.zeroCells (Value.agg #[.int .i64 0, .int .i64 0, .int .i64 0, .slice none 0 0, .slice none 0 0]).cells (n + 1 - i) ++ Builtin.zeroCells (Value.agg #[.int .i64 0, .int .i64 0, .int .i64 0, .slice none 0 0, .slice none 0 0]).cells (G - (n + 1)) := ⟨_, rfl⟩
  rw [← hR] at hzr
  have hRs : R.size = G * 5 := by
    rw [hR]
    simp only [Array.size_append, size_zeroCells, List.size_toArray, hta]
    have : (Value.agg #[.int .i64 0, .int .i64 0, .int .i64 0, .slice none 0 0, .slice none 0 0]).cells.size = 5 := rfl
    rw [this]; omega
  have hRt : R.toList.take (i * 5) = flatV (L.take i) := by
    rw [hR]
    simp only [Array.toList_append, List.append_assoc]
    rw [List.take_append_of_le_length (by rw [hta]; omega), List.take_of_length_le (by rw [hta]; omega)]
  obtain ⟨N, hN⟩ : ∃ N, w.heap.size = N := ⟨_, rfl⟩
  obtain ⟨W1, hW1⟩ : ∃ W1, W1 = w.drew.alloc (.cells R 43) := ⟨_, rfl⟩
  rw [← hW1, hN] at hzr
  have hgl : g < N := by rw [← hN]; exact block_lt hg
  have hvl : vb < N := by rw [← hN]; exact block_lt hvb
  have hN1 : W1.heap[N]? = some (.cells R 43 (0, 0)) := by rw [hW1, ← hN]; exact heap_alloc_new w.drew _
  have hold1 : ∀ k, k < N → W1.heap[k]? = w.heap[k]? := fun k hk => by rw [hW1]; exact heap_alloc_old w.drew _ (by rw [← hN] at hk; exact hk)
  have hcpA : ∀ dc, (Builtin.copy_ #[38, 38] 3 #[.slice (some ⟨N, i * 5, none⟩) (n + 1 - i) dc, .slice (some ⟨vb, 0, none⟩) 1 1]).run Try.prog W1 = _ := fun dc =>
    run_copy2V W1 38 38 3 N (i * 5) (n + 1 - i) dc ⟨vb, 0, none⟩ 1 1 R 43 (verL x) 1 Try.underlying38 hN1 (by simp only [Nat.min_def]; split <;> omega) rfl
      (fun j v hj => by rw [Addr.add_lit]; refine (cellOf ((hold1 vb hvl).trans hvb) (0 + j)).trans ?_; rw [Nat.zero_add]; simpa using hj) (by rw [hRs]; simp [verL]; omega) (verL_one _)
  obtain ⟨A1, hA1⟩ : ∃ A1, A1 = (R.toList.take (i * 5) ++ verL x ++ R.toList.drop (i * 5 + (verL x).length)).toArray := ⟨_, rfl⟩
  rw [← hA1] at hcpA
  have hRl : R.toList.length = G * 5 := by rw [Array.length_toList, hRs]
  have hA1s : A1.size = G * 5 := by rw [hA1, ← Array.length_toList]; simp [verL]; omega
  obtain ⟨W2, hW2⟩ : ∃ W2, W2 = W1.setRow N A1 := ⟨_, rfl⟩
  rw [← hW2] at hcpA
  have hN2 : W2.heap[N]? = some (.cells A1 43 (0, 0)) := by rw [hW2]; exact setRow_heap _ _ R _ 43 (0, 0) hN1
  have hold2 : ∀ k, k < N → W2.heap[k]? = w.heap[k]? := fun k hk => by rw [hW2, setRow_other _ _ _ _ (by omega)]; exact hold1 k hk
  have hcpB : ∀ dc sc, (Builtin.copy_ #[38, 38] 3 #[.slice (some ⟨N, (i + 1) * 5, none⟩) (n - i) dc, .slice (some ⟨g, i * 5, none⟩) (n - i) sc]).run Try.prog W2.drew = _ := fun dc sc =>
    run_copy2V W2.drew 38 38 3 N ((i + 1) * 5) (n - i) dc ⟨g, i * 5, none⟩ (n - i) sc A1 43 (flatV (L.drop i)) (n - i) Try.underlying38 hN2 (by simp only [Nat.min_def]; split <;> omega) hdr
      (fun j v hj => by rw [Addr.add_lit]; exact hcell W2.drew i j v ((hold2 g hgl).trans hg) hj) (by rw [hdr, hA1s]; omega) (flatV_one _)
  obtain ⟨A2, hA2⟩ : ∃ A2, A2 = (A1.toList.take ((i + 1) * 5) ++ flatV (L.drop i) ++ A1.toList.drop ((i + 1) * 5 + (flatV (L.drop i)).length)).toArray := ⟨_, rfl⟩
  rw [← hA2] at hcpB
  have H : Hid (InsdV base (.slice (some ⟨g, 0, none⟩) n cap) (L.take i ++ x :: L.drop i) w (.returned (.slice (some ⟨N, 0, none⟩) (n + 1) G)) (W2.drew.setRow N A2)) := by
    have hsz : w.heap.size ≤ (W2.drew.setRow N A2).heap.size := by rw [hW2, hW1]; simp
    refine ⟨_, rfl, ?_, ⟨?_, ?_, ?_, hsz, ?_⟩, .inr (by rw [hN]; rfl)⟩
    · have hlen : (L.take i ++ x :: L.drop i).length = n + 1 := by rw [hn]; simp; omega
      refine ⟨flatV_length _, .inr ⟨N, G, A2, by rw [hlen], by omega, setRow_heap _ _ A1 _ 43 (0, 0) hN2, by omega, hGm, ?_, ?_⟩⟩
      · rw [hA2]
        have : A1.toList.length = G * 5 := by rw [Array.length_toList, hA1s]
        simp [hdr]; omega
      · rw [hlen, hA2, hA1, List.toList_toArray, List.toList_toArray, hdr]
        have e := grow_listV R.toList (verL x) (flatV (L.drop i)) (i * 5) ((n - i) * 5) (by omega) rfl hdr
        rw [show i * 5 + 5 = (i + 1) * 5 by omega, show (i + 1) * 5 + (n - i) * 5 = (n + 1) * 5 by omega] at e
        rw [show i * 5 + (verL x).length = (i + 1) * 5 by simp [verL]; omega, show (i + 1) * 5 + (n - i) * 5 = (n + 1) * 5 by omega, e, flatV_append, flatV_cons, hRt, List.append_assoc]
    · rw [hW2, hW1]; rfl
    · rw [hW2, hW1]; rfl
    · rw [hW2, hW1]; rfl
    · intro k hk _
      rw [setRow_other _ _ _ _ (by omega)]
      exact hold2 k (by omega)
  rw [← hn]
  rw [← hn] at hi hl hroom hnc
  have hcm' : cap ≤ 9223372036854775807 := by unfold maxLen at hm; omega
  have hGm' : G ≤ 9223372036854775807 := by unfold maxLen at hGm; omega
  clear hg hs ht hvb hcur hdr hA1 hA1s hN1 hN2 hold1 hold2 hA2 hW1 hW2 hm hn hR hRs hRt hRl hcell hold hi0 hz0 hz1 hz2 hta hG hGm hN hkk
  go_enter Try.func56, Try.ntmps56
  go_wp2_with (at_builtin; refine Lib.wpList_append_run _ rfl _ _ _ _ rfl _ _ rfl rfl _ _ hzr ?_)
  go_region
  go_wp2
  go_ret
  exact H.out

theorem insert_anyV (base i vb : Nat) (v : Value) (L : List VG) (x : VG) (w : World) (h : RowV w base v L) (hi : i ≤ L.length) (hl : L.length ≤ 1000) (hb : base ≤ w.heap.size) (hvb : w.heap[vb]? = some (.cells (verL x).toArray 43 (0, 0))) (hne : v.ownBlock ≠ some vb) :
    Calls Try.prog 56 #[v, .int .i64 (i : Nat), .slice (some ⟨vb, 0, none⟩) 1 1] w (InsdV base v (L.take i ++ x :: L.drop i) w) := by
  rcases Nat.eq_or_lt_of_le hi with rfl | hi'
  · have := insert_endV base vb v L x w h hl hb hvb
    rw [List.take_of_length_le (Nat.le_refl _), List.drop_of_length_le (Nat.le_refl _)]
    exact this
  · rcases h.2 with ⟨_, h0⟩ | ⟨g, cap, cur, rfl, hbg, hg, hn, hm, hs, ht⟩
    · omega
    · by_cases hroom : L.length + 1 ≤ cap
      · exact insert_shiftV base i vb g cap cur L x w hbg hg hm hs ht hi' hl hroom hvb (fun e => hne (by rw [e]; rfl))
      · exact insert_growV base i vb g cap cur L x w hb hg hm hs ht hi' hl hn (by omega) hvb

end Go.Proofs.Yteimjkicinjcgaa.Ck.Y.L
