/-
  An entry is put into a row that has no room; one is taken out.
-/
import Derived.Test.YtdocablbkafkiaaDoorDh
namespace Go.Proofs.YtdocablbkafkiaaDoor.Cd
open Go.RowKit Go.Lib

theorem grow_list {α : Type} (R X T : List α) (i t : Nat) (hR : i + 2 + t ≤ R.length) (hX : X.length = 2) (hT : T.length = t) :
    ((R.take i ++ X ++ R.drop (i + 2)).take (i + 2) ++ T ++ (R.take i ++ X ++ R.drop (i + 2)).drop (i + 2 + t)).take (i + 2 + t) = R.take i ++ X ++ T := by
  have h1 : (R.take i ++ X ++ R.drop (i + 2)).take (i + 2) = R.take i ++ X := by
    rw [List.take_append_of_le_length (by simp; omega), List.take_of_length_le (by simp; omega)]
  rw [h1, List.take_append_of_le_length (by simp; omega), List.take_of_length_le (by simp; omega)]

set_option maxRecDepth 8000 in
set_option maxHeartbeats 4000000 in
theorem insert_grow (base i vb g cap : Nat) (cur : Array Value) (L : List En) (x : En) (w : World) (hbw : base ≤ w.heap.size) (hg : w.heap[g]? = some (.cells cur 55 (0, 0))) (hm : cap ≤ maxLen) (hs : cur.size = cap * 2) (ht : cur.toList.take (L.length * 2) = ents L)
    (hi : i < L.length) (hl : L.length ≤ 7) (hnc : L.length ≤ cap) (hroom : cap < L.length + 1) (hvb : w.heap[vb]? = some (.cells (entCells x).toArray 55 (0, 0))) :
    Calls Tryd.prog 62 #[.slice (some ⟨g, 0, none⟩) L.length cap, .int .i64 (i : Nat), .slice (some ⟨vb, 0, none⟩) 1 1] w (Insd base (.slice (some ⟨g, 0, none⟩) L.length cap) (L.take i ++ x :: L.drop i) w) := by
  obtain ⟨i0, hi0, hz0, hz1, hz2⟩ := entInfo
  obtain ⟨n, hn⟩ : ∃ n, n = L.length := ⟨_, rfl⟩
  have hcur : cur.toList.length = cap * 2 := by rw [Array.length_toList, hs]
  have hdr : (ents (L.drop i)).length = (n - i) * 2 := by rw [ents_length, List.length_drop, hn]
  have hta : (ents (L.take i)).length = i * 2 := by rw [ents_length, List.length_take]; omega
  have hcell : ∀ (W : World) (k j : Nat) (v : Value), W.heap[g]? = some (.cells cur 55 (0, 0)) → (ents (L.drop k))[j]? = some v → W.cell? ⟨g, k * 2 + j, none⟩ = some v := fun W k j v hW hj => by
    refine (cellOf hW (k * 2 + j)).trans ?_
    rw [← Array.getElem?_toList]
    have : (cur.toList.take (L.length * 2))[k * 2 + j]? = some v := by
      rw [ht, ← List.getElem?_drop, ents_drop]; exact hj
    rw [List.getElem?_take] at this
    split at this
    · exact this
    · cases this
  have hold : (Builtin.firstCells i0.size i (.slice (some ⟨g, 0, none⟩) i cap)).run Tryd.prog w.drew = .ok (ents (L.take i)).toArray w.drew := by
    rw [hz1]
    refine run_firstCells_some w.drew 2 i ⟨g, 0, none⟩ i cap (ents (L.take i)) hta (fun j v hj => ?_)
    rw [Addr.add_lit]
    have := hcell w.drew 0 j v hg (by
      rw [← ents_take, List.getElem?_take] at hj
      split at hj
      · exact hj
      · cases hj)
    rwa [Nat.zero_mul] at this
  have hzr := Lib.run_append_grow_zeros (P := Tryd.prog) w 57 3 57 55 i0 _ .i64 .i64 Tryd.underlying57 (by kernel_rfl) hi0 hz0 (some ⟨g, 0, none⟩) i cap (ents (L.take i)) hold (n + 1 - i) (by omega) (by omega) (by omega) (by omega) (by rw [hz2]; omega)
    (by rw [hz2, show i + (n + 1 - i) = n + 1 by omega]; exact growslice_fits (by omega) (by omega))
  rw [show i + (n + 1 - i) = n + 1 by omega] at hzr
  have hkk : (n : Int) + 1 - (i : Int) = ((n + 1 - i : Nat) : Int) := by omega
  rw [← hkk] at hzr
  obtain ⟨G, hG⟩ : ∃ G, G = grownCap w (n + 1) cap 55 := ⟨_, rfl⟩
  have hGn : n + 1 ≤ G := by rw [hG]; exact grownCap_ge w _ _ _
  have hGm : G ≤ maxLen := by rw [hG]; exact grownCap_le_maxLen w _ _ _ (by unfold maxLen; omega)
  rw [← hG] at hzr
  obtain ⟨R, hR⟩ : ∃ R : Array Value, R = (ents (L.take i)).toArray ++ Builtin.zeroCells (Value.agg #[.string ⟨#[]⟩, .int .i64 0]).cells (n + 1 - i) ++ Builtin.zeroCells (Value.agg #[.string ⟨#[]⟩, .int .i64 0]).cells (G - (n + 1)) := ⟨_, rfl⟩
  rw [← hR] at hzr
  have hRs : R.size = G * 2 := by
    rw [hR]
    simp only [Array.size_append, size_zeroCells, List.size_toArray, hta]
    have : (Value.agg #[.string ⟨#[]⟩, .int .i64 0]).cells.size = 2 := rfl
    rw [this]; omega
  have hRt : R.toList.take (i * 2) = ents (L.take i) := by
    rw [hR]
    simp only [Array.toList_append, List.append_assoc]
    rw [List.take_append_of_le_length (by rw [hta]; omega), List.take_of_length_le (by rw [hta]; omega)]
  obtain ⟨N, hN⟩ : ∃ N, w.heap.size = N := ⟨_, rfl⟩
  obtain ⟨W1, hW1⟩ : ∃ W1, W1 = w.drew.alloc (.cells R 55) := ⟨_, rfl⟩
  rw [← hW1, hN] at hzr
  have hgl : g < N := by rw [← hN]; exact block_lt hg
  have hvl : vb < N := by rw [← hN]; exact block_lt hvb
  have hN1 : W1.heap[N]? = some (.cells R 55 (0, 0)) := by rw [hW1, ← hN]; exact heap_alloc_new w.drew _
  have hold1 : ∀ k, k < N → W1.heap[k]? = w.heap[k]? := fun k hk => by rw [hW1]; exact heap_alloc_old w.drew _ (by rw [← hN] at hk; exact hk)
  have hcpA : ∀ dc, (Builtin.copy_ #[57, 56] 3 #[.slice (some ⟨N, i * 2, none⟩) (n + 1 - i) dc, .slice (some ⟨vb, 0, none⟩) 1 1]).run Tryd.prog W1 = _ := fun dc =>
    run_copy2 W1 57 56 3 N (i * 2) (n + 1 - i) dc ⟨vb, 0, none⟩ 1 1 R 55 (entCells x) 1 Tryd.underlying57 hN1 (by simp only [Nat.min_def]; split <;> omega) rfl
      (fun j v hj => by rw [Addr.add_lit]; refine (cellOf ((hold1 vb hvl).trans hvb) (0 + j)).trans ?_; rw [Nat.zero_add]; simpa using hj) (by rw [hRs]; simp [entCells]; omega) (by intro u hu; simp [entCells] at hu; rcases hu with rfl | rfl <;> rfl)
  obtain ⟨A1, hA1⟩ : ∃ A1, A1 = (R.toList.take (i * 2) ++ entCells x ++ R.toList.drop (i * 2 + (entCells x).length)).toArray := ⟨_, rfl⟩
  rw [← hA1] at hcpA
  have hRl : R.toList.length = G * 2 := by rw [Array.length_toList, hRs]
  have hA1s : A1.size = G * 2 := by rw [hA1, ← Array.length_toList]; simp [entCells]; omega
  obtain ⟨W2, hW2⟩ : ∃ W2, W2 = W1.setRow N A1 := ⟨_, rfl⟩
  rw [← hW2] at hcpA
  have hN2 : W2.heap[N]? = some (.cells A1 55 (0, 0)) := by rw [hW2]; exact setRow_heap _ _ R _ 55 (0, 0) hN1
  have hold2 : ∀ k, k < N → W2.heap[k]? = w.heap[k]? := fun k hk => by rw [hW2, setRow_other _ _ _ _ (by omega)]; exact hold1 k hk
  have hcpB : ∀ dc sc, (Builtin.copy_ #[57, 57] 3 #[.slice (some ⟨N, (i + 1) * 2, none⟩) (n - i) dc, .slice (some ⟨g, i * 2, none⟩) (n - i) sc]).run Tryd.prog W2.drew = _ := fun dc sc =>
    run_copy2 W2.drew 57 57 3 N ((i + 1) * 2) (n - i) dc ⟨g, i * 2, none⟩ (n - i) sc A1 55 (ents (L.drop i)) (n - i) Tryd.underlying57 hN2 (by simp only [Nat.min_def]; split <;> omega) hdr
      (fun j v hj => by rw [Addr.add_lit]; exact hcell W2.drew i j v ((hold2 g hgl).trans hg) hj) (by rw [hdr, hA1s]; omega) (ents_one _)
  obtain ⟨A2, hA2⟩ : ∃ A2, A2 = (A1.toList.take ((i + 1) * 2) ++ ents (L.drop i) ++ A1.toList.drop ((i + 1) * 2 + (ents (L.drop i)).length)).toArray := ⟨_, rfl⟩
  rw [← hA2] at hcpB
  have H : Hid (Insd base (.slice (some ⟨g, 0, none⟩) n cap) (L.take i ++ x :: L.drop i) w (.returned (.slice (some ⟨N, 0, none⟩) (n + 1) G)) (W2.drew.setRow N A2)) := by
    have hsz : w.heap.size ≤ (W2.drew.setRow N A2).heap.size := by rw [hW2, hW1]; simp
    refine ⟨_, rfl, ?_, ⟨?_, ?_, ?_, hsz, ?_⟩, .inr (by rw [hN]; rfl)⟩
    · have hlen : (L.take i ++ x :: L.drop i).length = n + 1 := by rw [hn]; simp; omega
      refine ⟨ents_length _, .inr ⟨N, G, A2, by rw [hlen], by omega, setRow_heap _ _ A1 _ 55 (0, 0) hN2, by omega, hGm, ?_, ?_⟩⟩
      · rw [hA2]
        have : A1.toList.length = G * 2 := by rw [Array.length_toList, hA1s]
        simp [hdr]; omega
      · rw [hlen, hA2, hA1, List.toList_toArray, List.toList_toArray, hdr]
        have e := grow_list R.toList (entCells x) (ents (L.drop i)) (i * 2) ((n - i) * 2) (by omega) rfl hdr
        rw [show i * 2 + 2 = (i + 1) * 2 by omega, show (i + 1) * 2 + (n - i) * 2 = (n + 1) * 2 by omega] at e
        rw [show i * 2 + (entCells x).length = (i + 1) * 2 by simp [entCells]; omega, show (i + 1) * 2 + (n - i) * 2 = (n + 1) * 2 by omega, e, ents_append, ents_cons, hRt, List.append_assoc]
    · rw [hW2, hW1]; rfl
    · rw [hW2, hW1]; rfl
    · rw [hW2, hW1]; rfl
    · intro k hk _
      rw [setRow_other _ _ _ _ (by omega)]
      exact hold2 k (by omega)
  rw [← hn]
  rw [← hn] at hi hl hroom hnc
  have hcm' : cap ≤ 9223372036854775807 := by unfold maxLen at hm; omega
  have hGm' : G ≤ 9223372036854775807 := by unfold maxLen at hGm; omega
  clear hg hs ht hvb hcur hdr hA1 hA1s hN1 hN2 hold1 hold2 hA2 hW1 hW2 hm hn hR hRs hRt hRl hcell hold hi0 hz0 hz1 hz2 hta hG hGm hN hkk
  go_enter Tryd.func62, Tryd.ntmps62
  go_wp2_with (at_builtin; refine Lib.wpList_append_run _ rfl _ _ _ _ rfl _ _ rfl rfl _ _ hzr ?_)
  go_region
  go_wp2
  go_ret
  exact H.out

end Go.Proofs.YtdocablbkafkiaaDoor.Cd
