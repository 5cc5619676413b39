import Derived.Test.YtgpbphjplbhfmaaGreatQQb
import Derived.Lib.Overlaps
import Derived.Lib.AppendZerosOnto
import Derived.Lib.JoinLaws
import Derived.Laws.IdiomCopy
import Derived.Laws.NewBlocks
import Derived.Deep.RegionLaw
import Derived.Maps.OwnOps
import Derived.Lib.BufferWrite
import Derived.Lib.UnsafeStr
import Derived.DeepKeys

namespace Go.Proofs.YtgpbphjplbhfmaaGreat.Ck.Y
open Go.RowKit Go.Maps Go.Lib
def pv (b : Nat) : Value := .pointer (some ⟨b, 0, none⟩)
def pvs (L : List Nat) : List Value := L.map pv
theorem pvs_length (L : List Nat) : (pvs L).length = L.length := by simp [pvs]
theorem pvs_append (L M : List Nat) : pvs (L ++ M) = pvs L ++ pvs M := by simp [pvs]
theorem pvs_cons (x : Nat) (M : List Nat) : pvs (x :: M) = [pv x] ++ pvs M := by simp [pvs]
theorem pvs_one (L : List Nat) : ∀ v ∈ pvs L, v.oneCell' = true := by
  intro v hv
  obtain ⟨b, _, rfl⟩ := List.mem_map.1 hv
  rfl
theorem pvs_take (L : List Nat) (i : Nat) : (pvs L).take i = pvs (L.take i) := by simp [pvs, List.map_take]
theorem pvs_drop (L : List Nat) (i : Nat) : (pvs L).drop i = pvs (L.drop i) := by simp [pvs, List.map_drop]
def RowP (e : TypeId) (w : World) (base : Nat) (v : Value) (L : List Nat) : Prop := w.ownsRow base e 1 v L.length (pvs L)
theorem RowP.nil (e : TypeId) (w : World) (base : Nat) : RowP e w base (.slice none 0 0) [] := World.ownsRow_nil _ _ _ _
theorem RowP.ext {e : TypeId} {w : World} {base : Nat} {v : Value} {n : Nat} {xs : List Value} {L : List Nat} (h : w.ownsRow base e 1 v n xs) (hn : n = L.length) (hx : xs = pvs L) : RowP e w base v L := by
  subst hn; subst hx; exact h
theorem RowP.two {e : TypeId} {w : World} {base : Nat} {v : Value} {L : List Nat} (h : RowP e w base v L) : (v = .slice none 0 0 ∧ L = []) ∨ ∃ g cap cur, v = .slice (some ⟨g, 0, none⟩) L.length cap ∧ base ≤ g ∧ w.heap[g]? = some (.cells cur e (0, 0)) ∧ L.length ≤ cap ∧ cap ≤ maxLen ∧ cur.size = cap ∧ cur.toList.take L.length = pvs L := by
  rcases h.2 with ⟨rfl, h0⟩ | ⟨g, cap, cur, rfl, hb, hg, hn, hm, hs, ht⟩
  · exact .inl ⟨rfl, List.eq_nil_of_length_eq_zero h0⟩
  · rw [Nat.mul_one] at hs ht
    exact .inr ⟨g, cap, cur, rfl, hb, hg, hn, hm, hs, ht⟩
theorem RowP.form {e : TypeId} {w : World} {base : Nat} {v : Value} {L : List Nat} (h : RowP e w base v L) : ∃ p c, v = .slice p L.length c ∧ L.length ≤ c ∧ c ≤ maxLen ∧ (0 < L.length → ∃ g, p = some ⟨g, 0, none⟩ ∧ ∀ (i x : Nat), L[i]? = some x → w.cell? ⟨g, i, none⟩ = some (pv x)) := by
  rcases h.two with ⟨rfl, rfl⟩ | ⟨g, cap, cur, rfl, hb, hg, hn, hm, hs, ht⟩
  · exact ⟨none, 0, rfl, Nat.le_refl _, Nat.zero_le _, fun h => by simp at h⟩
  · refine ⟨_, cap, rfl, hn, hm, fun _ => ⟨g, rfl, fun i x hx => ?_⟩⟩
    have hi := (List.getElem?_eq_some_iff.1 hx).1
    rw [cellOf hg i, ← Array.getElem?_toList]
    have : (cur.toList.take L.length)[i]? = some (pv x) := by rw [ht]; unfold pvs; rw [List.getElem?_map, hx]; rfl
    rwa [List.getElem?_take_of_lt hi] at this
theorem RowP.kept {e : TypeId} {w w' : World} {base : Nat} {v : Value} {L : List Nat} {S : Nat → Prop} (h : RowP e w base v L) (ho : Only S w w') (hn : ∀ b, v.ownBlock = some b → ¬ S b) : RowP e w' base v L := by
  refine ⟨h.1, ?_⟩
  rcases h.2 with h0 | ⟨g, cap, cur, rfl, hb, hg, r⟩
  · exact .inl h0
  · exact .inr ⟨g, cap, cur, rfl, hb, (ho.block g (block_lt hg) (hn g rfl)).trans hg, r⟩
theorem RowP.tag {e : TypeId} {w : World} {base : Nat} {v : Value} {L : List Nat} (h : RowP e w base v L) {g : Nat} (hg : v.ownBlock = some g) : base ≤ g ∧ g < w.heap.size ∧ ∃ cur, w.heap[g]? = some (.cells cur e (0, 0)) := by
  rcases h.2 with ⟨rfl, h0⟩ | ⟨g', cap, cur, rfl, hb, hg', r⟩
  · cases hg
  · cases hg; exact ⟨hb, block_lt hg', cur, hg'⟩
theorem RowP.below {e : TypeId} {w w' : World} {base : Nat} {v : Value} {L : List Nat} (h : RowP e w base v L) (hb : Below w.heap.size w w') : RowP e w' base v L := own_below h hb
theorem grown_only {w w' : World} {row : Option Nat} (h : w.grownBy w' row) : Only (fun j => row = some j) w w' :=
  ⟨h.os, h.tape, h.output, h.size, fun i hi hn => h.block i hi (fun e => hn e.symm)⟩
theorem shift_list {α : Type} (c X T R : List α) (i t : Nat) (hc : i + 1 ≤ c.length) (hX : X.length = 1) (hT : T.length = t) : ((c.take (i + 1) ++ T ++ R).take i ++ X ++ (c.take (i + 1) ++ T ++ R).drop (i + 1)).take (i + 1 + t) = c.take i ++ X ++ T := by
  have h1 : (c.take (i + 1) ++ T ++ R).take i = c.take i := by
    rw [List.append_assoc, List.take_append_of_le_length (by rw [List.length_take]; omega), List.take_take, Nat.min_eq_left (by omega)]
  have h2 : (c.take (i + 1) ++ T ++ R).drop (i + 1) = T ++ R := by
    rw [List.append_assoc, List.drop_append_of_le_length (by rw [List.length_take]; omega), List.drop_of_length_le (by rw [List.length_take]; omega), List.nil_append]
  rw [h1, h2, ← List.append_assoc, List.take_append_of_le_length (by simp; omega), List.take_of_length_le (by simp; omega)]
theorem grow_list {α : Type} (R X T : List α) (i t : Nat) (hR : i + 1 + t ≤ R.length) (hX : X.length = 1) (hT : T.length = t) :
    ((R.take i ++ X ++ R.drop (i + 1)).take (i + 1) ++ T ++ (R.take i ++ X ++ R.drop (i + 1)).drop (i + 1 + t)).take (i + 1 + t) = R.take i ++ X ++ T := by
  have h1 : (R.take i ++ X ++ R.drop (i + 1)).take (i + 1) = R.take i ++ X := by
    rw [List.take_append_of_le_length (by simp; omega), List.take_of_length_le (by simp; omega)]
  rw [h1, List.take_append_of_le_length (by simp; omega), List.take_of_length_le (by simp; omega)]
theorem step_append_known {ops : Array Oper} {o : Oper} {a : Act} {w : World} {K : Act → World → Prop} {Q : Exit → Act → World → Prop} {E : Prop} (hg : o.guard = none) (s x : Operand) (t u : TypeId) (hop : o.op = .call { callee := .builtin .append, args := #[s, x], argTypes := #[t, u] }) (vs vx : Value) (hs : a.eval s = vs) (hx : a.eval x = vx) {v' : Value} {w' : World}
    (hr : (Builtin.append_ #[t, u] o.type #[vs, vx]).run Tryz.prog w = .ok v' w') (hK : K (a.put o.dst v') w') :
    if Region.wanted o (yielded ops a.tmps) = true then Oper.wp Tryz.prog o a w K Q else E := by
  rw [if_pos (by unfold Region.wanted; rw [hg])]
  unfold Oper.wp execOp
  simp only [hop, resolve, invoke, builtin, Sem.run_bind, Sem.run_pure, Result.andThen_ok, List.map_toArray, List.map_cons, List.map_nil, hs, hx, hr]
  exact hK
end Go.Proofs.YtgpbphjplbhfmaaGreat.Ck.Y

namespace Go.Proofs.YtgpbphjplbhfmaaGreat.Ck.Y
open Go.RowKit Go.Maps Go.Lib
theorem pinfoS : ∃ i, Tryz.prog.info? 56 = some i ∧ i.zero = some (.pointer none) ∧ i.size = 1 ∧ i.bytes = 8 := by
  have e : (Tryz.prog.info? 56).map (fun i => (i.zero, i.size, i.bytes)) = some (some (.pointer none), 1, 8) := by kernel_rfl
  obtain ⟨i, hi, he⟩ := Option.map_eq_some_iff.1 e
  injection he with h1 h2
  injection h2 with h2 h3
  exact ⟨i, hi, h1, h2, h3⟩
def InsdS (base : Nat) (v : Value) (M : List Nat) (w : World) (e : Ending) (w' : World) : Prop := ∃ v', e = .returned v' ∧ RowP 56 w' base v' M ∧ w.grownBy w' v.ownBlock ∧ (v'.ownBlock = v.ownBlock ∨ v'.ownBlock = some w.heap.size)
set_option maxRecDepth 8000 in
set_option maxHeartbeats 2000000 in
theorem insert_endS (base vb : Nat) (v : Value) (L : List Nat) (x : Nat) (w : World) (h : RowP 56 w base v L) (hl : L.length ≤ 1000) (hb : base ≤ w.heap.size) (hvb : w.heap[vb]? = some (.cells [pv x].toArray 56 (0, 0))) :
    Calls Tryz.prog 26 #[v, .int .i64 (L.length : Nat), .slice (some ⟨vb, 0, none⟩) 1 1] w (InsdS base v (L ++ [x]) w) := by
  obtain ⟨i0, hi0, hz0, hz1, hz2⟩ := pinfoS
  obtain ⟨p, c, rfl, hlc, hcm, _⟩ := h.form
  obtain ⟨v', w', hr, h2, h3, _, h5⟩ := run_append_own_at (P := Tryz.prog) w base 49 49 56 i0 _ 1 8 Tryz.underlying49 hi0 hz0 hz1 hz2 rfl (by omega) _ L.length (pvs L) h ⟨vb, 0, none⟩ 1 1 [pv x] rfl
    (fun j u hj => by rw [Addr.add_lit, cellOf hvb]; simpa using hj) (by intro u hu; simp [pv] at hu; rcases hu with rfl; rfl) (by unfold maxLen; omega) (by omega) hb
  have H : Hid (InsdS base (.slice p L.length c) (L ++ [x]) w (.returned v') w') := ⟨v', rfl, RowP.ext h2 (by simp) (by rw [pvs_append]; simp [pvs]), h3, h5⟩
  have hcm' : c ≤ 9223372036854775807 := by unfold maxLen at hcm; omega
  clear h hvb h2 h3 h5 hi0 hz0 hcm
  generalize L.length = n at *
  go_enter Tryz.func26, Tryz.ntmps26
  rcases p with _ | ⟨ab, ao, asp⟩
  · go_wp2_with (at_builtin; refine Lib.wpList_append_run _ rfl _ _ _ _ rfl _ _ rfl rfl _ _ hr ?_)
    all_goals (go_ret; exact H.out)
  · go_wp2_with (at_builtin; refine Lib.wpList_append_run _ rfl _ _ _ _ rfl _ _ rfl rfl _ _ hr ?_)
    all_goals (go_ret; exact H.out)
theorem run_copy2S (w : World) (dT sT ty : TypeId) (g o dLen dCap : Nat) (a : Addr) (sLen sCap : Nat) (cur : Array Value) (t : TypeId) (cs : List Value) (k : Nat) (hu : Tryz.prog.underlying dT = some (.slice 56)) (hg : w.heap[g]? = some (.cells cur t (0, 0))) (hk : Nat.min sLen dLen = k) (hn : cs.length = k) (hsrc : ∀ j v, cs[j]? = some v → w.cell? (a.add j) = some v) (hfit : o + cs.length ≤ cur.size) (h1 : ∀ v ∈ cs, v.oneCell' = true) :
    (Builtin.copy_ #[dT, sT] ty #[.slice (some ⟨g, o, none⟩) dLen dCap, .slice (some a) sLen sCap]).run Tryz.prog w =
      .ok (goInt k) (w.setRow g (cur.toList.take o ++ cs ++ cur.toList.drop (o + cs.length)).toArray) := by
  have hl := run_loadCells_list (P := Tryz.prog) w a cs hsrc
  have hst := run_storeCells_at Tryz.prog g o t cs 0 cur w hg (by simpa using hfit) h1
  obtain ⟨i0, hi0, hz0, hz1, hz2⟩ := pinfoS
  rw [hn] at hl
  simp [Builtin.copy_, run_underlying hu, Builtin.lenOf, Builtin.firstCells, sizeOf, typeInfo, hi0, hz1, hk, hl, hst]
theorem overlaps_noS (w : World) (vb g la ca lb cb o : Nat) (cur ds : Array Value) (hne : vb ≠ g) (hvb : w.heap[vb]? = some (.cells ds 56 (0, 0))) (hg : w.heap[g]? = some (.cells cur 56 (0, 0))) (h0 : cur.size ≠ 0) :
    (callFunc 53 #[.slice (some ⟨vb, 0, none⟩) la ca, .slice (some ⟨g, o, none⟩) lb cb]).run Tryz.prog w = .ok (.value (.bool false)) w := by
  rw [run_callFunc_extern Tryz.func53 (by kernel_rfl) (by kernel_rfl) (by kernel_rfl) (e := Extern.SlicesOverlaps.overlaps #[49, 49] #[4]) (by kernel_rfl),
    Lib.run_overlaps_apart w 49 4 56 Tryz.underlying49 1 Tryz.sizeOf56 ⟨vb, 0, none⟩ ⟨g, o, none⟩ la ca lb cb hne 56 56 ds.size cur.size (by unfold World.shape?; rw [hvb]) (by unfold World.shape?; rw [hg]) h0 (by simp [World.frozen?, hvb]) (by simp [World.frozen?, hvb])]
  rfl
set_option maxRecDepth 8000 in
set_option maxHeartbeats 4000000 in
theorem insert_shiftS (base i vb g cap : Nat) (cur : Array Value) (L : List Nat) (x : Nat) (w : World) (hbg : base ≤ g) (hg : w.heap[g]? = some (.cells cur 56 (0, 0))) (hm : cap ≤ maxLen) (hs : cur.size = cap) (ht : cur.toList.take (L.length) = pvs L) (hi : i < L.length) (hl : L.length ≤ 1000) (hroom : L.length + 1 ≤ cap) (hvb : w.heap[vb]? = some (.cells [pv x].toArray 56 (0, 0))) (hne : vb ≠ g) :
    Calls Tryz.prog 26 #[.slice (some ⟨g, 0, none⟩) L.length cap, .int .i64 (i : Nat), .slice (some ⟨vb, 0, none⟩) 1 1] w (InsdS base (.slice (some ⟨g, 0, none⟩) L.length cap) (L.take i ++ x :: L.drop i) w) := by
  have hov := fun lb cb => overlaps_noS w vb g 1 1 lb cb ((i + 1)) cur _ hne hvb hg (by omega)
  obtain ⟨n, hn⟩ : ∃ n, n = L.length := ⟨_, rfl⟩
  have hcur : cur.toList.length = cap := by rw [Array.length_toList, hs]
  have hdr : (pvs (L.drop i)).length = (n - i) := by rw [pvs_length, List.length_drop, hn]
  have hcp1 : ∀ dc sc, (Builtin.copy_ #[49, 49] 3 #[.slice (some ⟨g, (i + 1), none⟩) (n - i) dc, .slice (some ⟨g, i, none⟩) (n + 1 - i) sc]).run Tryz.prog w.drew = _ := fun dc sc =>
    run_copy2S w.drew 49 49 3 g ((i + 1)) (n - i) dc ⟨g, i, none⟩ (n + 1 - i) sc cur 56 (pvs (L.drop i)) (n - i) Tryz.underlying49 hg (by simp only [Nat.min_def]; split <;> omega) hdr
      (fun j v hj => by
        rw [Addr.add_lit]
        have hj' := (List.getElem?_eq_some_iff.1 hj).1
        rw [hdr] at hj'
        refine (cellOf hg (i + j)).trans ?_
        rw [← Array.getElem?_toList]
        have : (cur.toList.take (L.length))[i + j]? = some v := by
          rw [ht, ← List.getElem?_drop, pvs_drop]; exact hj
        rw [List.getElem?_take] at this
        split at this
        · exact this
        · cases this) (by rw [hdr, hs]; omega) (pvs_one _)
  obtain ⟨A1, hA1⟩ : ∃ A1, A1 = (cur.toList.take ((i + 1)) ++ pvs (L.drop i) ++ cur.toList.drop ((i + 1) + (pvs (L.drop i)).length)).toArray := ⟨_, rfl⟩
  rw [← hA1] at hcp1
  have hA1s : A1.size = cap := by
    rw [hA1, ← Array.length_toList]; simp [hdr, hs]; omega
  obtain ⟨W1, hW1⟩ : ∃ W1, W1 = w.drew.setRow g A1 := ⟨_, rfl⟩
  rw [← hW1] at hcp1
  have hg1 : W1.heap[g]? = some (.cells A1 56 (0, 0)) := by rw [hW1]; exact setRow_heap _ _ cur _ 56 (0, 0) hg
  have hv1 : W1.heap[vb]? = some (.cells [pv x].toArray 56 (0, 0)) := by rw [hW1, setRow_other _ _ _ _ hne]; exact hvb
  have hcp2 : ∀ dc, (Builtin.copy_ #[49, 49] 3 #[.slice (some ⟨g, i, none⟩) (n + 1 - i) dc, .slice (some ⟨vb, 0, none⟩) 1 1]).run Tryz.prog W1 = _ := fun dc =>
    run_copy2S W1 49 49 3 g (i) (n + 1 - i) dc ⟨vb, 0, none⟩ 1 1 A1 56 [pv x] 1 Tryz.underlying49 hg1 (by simp only [Nat.min_def]; split <;> omega) rfl
      (fun j v hj => by rw [Addr.add_lit]; refine (cellOf hv1 (0 + j)).trans ?_; rw [Nat.zero_add]; simpa using hj) (by rw [hA1s]; simp [pv]; omega) (by intro u hu; simp [pv] at hu; rcases hu with rfl; rfl)
  obtain ⟨A2, hA2⟩ : ∃ A2, A2 = (A1.toList.take (i) ++ [pv x] ++ A1.toList.drop (i + [pv x].length)).toArray := ⟨_, rfl⟩
  rw [← hA2] at hcp2
  have H : Hid (InsdS base (.slice (some ⟨g, 0, none⟩) n cap) (L.take i ++ x :: L.drop i) w (.returned (.slice (some ⟨g, 0, none⟩) (n + 1) cap)) (W1.setRow g A2)) := by
    refine ⟨_, rfl, ?_, ⟨?_, ?_, ?_, ?_, ?_⟩, .inl rfl⟩
    · have hlen : (L.take i ++ x :: L.drop i).length = n + 1 := by rw [hn]; simp; omega
      refine ⟨by rw [Nat.mul_one]; exact pvs_length _, .inr ⟨g, cap, A2, by rw [hlen], hbg, setRow_heap _ _ A1 _ 56 (0, 0) hg1, by omega, hm, ?_, ?_⟩⟩
      · rw [hA2]
        have : A1.toList.length = cap := by rw [Array.length_toList, hA1s]
        simp [pv]; omega
      · rw [Nat.mul_one, hlen, hA2, hA1, List.toList_toArray, List.toList_toArray]
        have e := shift_list cur.toList [pv x] (pvs (L.drop i)) (cur.toList.drop ((i + 1) + (pvs (L.drop i)).length)) (i) ((n - i)) (by omega) rfl hdr
        rw [show i + 1 = (i + 1) by omega, show (i + 1) + (n - i) = (n + 1) by omega] at e
        rw [show i + [pv x].length = (i + 1) by rfl, e, pvs_append, pvs_cons, ← pvs_take, ← ht, List.take_take, Nat.min_eq_left (by omega), List.append_assoc]
    · rw [hW1]; rfl
    · rw [hW1]; rfl
    · rw [hW1]; rfl
    · rw [hW1]; simp
    · intro k hk hkg
      have : k ≠ g := fun e => hkg (by rw [e]; rfl)
      rw [setRow_other _ _ _ _ this, hW1, setRow_other _ _ _ _ this]; rfl
  rw [← hn]
  rw [← hn] at hi hl hroom
  have hcm' : cap ≤ 9223372036854775807 := by unfold maxLen at hm; omega
  clear hg hs ht hvb hcur hdr hA1 hA1s hg1 hv1 hA2 hW1 hm hn
  go_enter Tryz.func26, Tryz.ntmps26
  go_wp2_with (simp only [hov])
  go_region
  go_wp2
  go_ret
  exact H.out
set_option maxRecDepth 8000 in
set_option maxHeartbeats 4000000 in
theorem insert_growS (base i vb g cap : Nat) (cur : Array Value) (L : List Nat) (x : Nat) (w : World) (hbw : base ≤ w.heap.size) (hg : w.heap[g]? = some (.cells cur 56 (0, 0))) (hm : cap ≤ maxLen) (hs : cur.size = cap) (ht : cur.toList.take (L.length) = pvs L) (hi : i < L.length) (hl : L.length ≤ 1000) (hnc : L.length ≤ cap) (hroom : cap < L.length + 1) (hvb : w.heap[vb]? = some (.cells [pv x].toArray 56 (0, 0))) :
    Calls Tryz.prog 26 #[.slice (some ⟨g, 0, none⟩) L.length cap, .int .i64 (i : Nat), .slice (some ⟨vb, 0, none⟩) 1 1] w (InsdS base (.slice (some ⟨g, 0, none⟩) L.length cap) (L.take i ++ x :: L.drop i) w) := by
  obtain ⟨i0, hi0, hz0, hz1, hz2⟩ := pinfoS
  obtain ⟨n, hn⟩ : ∃ n, n = L.length := ⟨_, rfl⟩
  have hcur : cur.toList.length = cap := by rw [Array.length_toList, hs]
  have hdr : (pvs (L.drop i)).length = (n - i) := by rw [pvs_length, List.length_drop, hn]
  have hta : (pvs (L.take i)).length = i := by rw [pvs_length, List.length_take]; omega
  have hcell : ∀ (W : World) (k j : Nat) (v : Value), W.heap[g]? = some (.cells cur 56 (0, 0)) → (pvs (L.drop k))[j]? = some v → W.cell? ⟨g, k + j, none⟩ = some v := fun W k j v hW hj => by
    refine (cellOf hW (k + j)).trans ?_
    rw [← Array.getElem?_toList]
    have : (cur.toList.take (L.length))[k + j]? = some v := by
      rw [ht, ← List.getElem?_drop, pvs_drop]; exact hj
    rw [List.getElem?_take] at this
    split at this
    · exact this
    · cases this
  have hold : (Builtin.firstCells i0.size i (.slice (some ⟨g, 0, none⟩) i cap)).run Tryz.prog w.drew = .ok (pvs (L.take i)).toArray w.drew := by
    rw [hz1]
    refine run_firstCells_some w.drew 1 i ⟨g, 0, none⟩ i cap (pvs (L.take i)) (by rw [Nat.mul_one]; exact hta) (fun j v hj => ?_)
    rw [Addr.add_lit]
    have := hcell w.drew 0 j v hg (by
      rw [← pvs_take, List.getElem?_take] at hj
      split at hj
      · exact hj
      · cases hj)
    exact this
  have hzr := Lib.run_append_grow_zeros (P := Tryz.prog) w 49 3 49 56 i0 _ .i64 .i64 Tryz.underlying49 (by kernel_rfl) hi0 hz0 (some ⟨g, 0, none⟩) i cap (pvs (L.take i)) hold (n + 1 - i) (by omega) (by omega) (by omega) (by omega) (by rw [hz2]; omega)
    (by rw [hz2, show i + (n + 1 - i) = n + 1 by omega]; exact growslice_fits (by omega) (by omega))
  rw [show i + (n + 1 - i) = n + 1 by omega] at hzr
  have hkk : (n : Int) + 1 - (i : Int) = ((n + 1 - i : Nat) : Int) := by omega
  rw [← hkk] at hzr
  obtain ⟨G, hG⟩ : ∃ G, G = grownCap w (n + 1) cap 56 := ⟨_, rfl⟩
  have hGn : n + 1 ≤ G := by rw [hG]; exact grownCap_ge w _ _ _
  have hGm : G ≤ maxLen := by rw [hG]; exact grownCap_le_maxLen w _ _ _ (by unfold maxLen; omega)
  rw [← hG] at hzr
  obtain ⟨R, hR⟩ : ∃ R : Array Value, R = (pvs (L.take i)).toArray ++ Builtin.zeroCells (Value.pointer none).cells (n + 1 - i) ++ Builtin.zeroCells (Value.pointer none).cells (G - (n + 1)) := ⟨_, rfl⟩
  rw [← hR] at hzr
  have hRs : R.size = G := by
    rw [hR]
    simp only [Array.size_append, size_zeroCells, List.size_toArray, hta]
    have : (Value.pointer none).cells.size = 1 := rfl
    rw [this]; omega
  have hRt : R.toList.take (i) = pvs (L.take i) := by
    rw [hR]
    simp only [Array.toList_append, List.append_assoc]
    rw [List.take_append_of_le_length (by rw [hta]; omega), List.take_of_length_le (by rw [hta]; omega)]
  obtain ⟨N, hN⟩ : ∃ N, w.heap.size = N := ⟨_, rfl⟩
  obtain ⟨W1, hW1⟩ : ∃ W1, W1 = w.drew.alloc (.cells R 56) := ⟨_, rfl⟩
  rw [← hW1, hN] at hzr
  have hgl : g < N := by rw [← hN]; exact block_lt hg
  have hvl : vb < N := by rw [← hN]; exact block_lt hvb
  have hN1 : W1.heap[N]? = some (.cells R 56 (0, 0)) := by rw [hW1, ← hN]; exact heap_alloc_new w.drew _
  have hold1 : ∀ k, k < N → W1.heap[k]? = w.heap[k]? := fun k hk => by rw [hW1]; exact heap_alloc_old w.drew _ (by rw [← hN] at hk; exact hk)
  have hcpA : ∀ dc, (Builtin.copy_ #[49, 49] 3 #[.slice (some ⟨N, i, none⟩) (n + 1 - i) dc, .slice (some ⟨vb, 0, none⟩) 1 1]).run Tryz.prog W1 = _ := fun dc =>
    run_copy2S W1 49 49 3 N (i) (n + 1 - i) dc ⟨vb, 0, none⟩ 1 1 R 56 [pv x] 1 Tryz.underlying49 hN1 (by simp only [Nat.min_def]; split <;> omega) rfl
      (fun j v hj => by rw [Addr.add_lit]; refine (cellOf ((hold1 vb hvl).trans hvb) (0 + j)).trans ?_; rw [Nat.zero_add]; simpa using hj) (by rw [hRs]; simp [pv]; omega) (by intro u hu; simp [pv] at hu; rcases hu with rfl; rfl)
  obtain ⟨A1, hA1⟩ : ∃ A1, A1 = (R.toList.take (i) ++ [pv x] ++ R.toList.drop (i + [pv x].length)).toArray := ⟨_, rfl⟩
  rw [← hA1] at hcpA
  have hRl : R.toList.length = G := by rw [Array.length_toList, hRs]
  have hA1s : A1.size = G := by rw [hA1, ← Array.length_toList]; simp [pv]; omega
  obtain ⟨W2, hW2⟩ : ∃ W2, W2 = W1.setRow N A1 := ⟨_, rfl⟩
  rw [← hW2] at hcpA
  have hN2 : W2.heap[N]? = some (.cells A1 56 (0, 0)) := by rw [hW2]; exact setRow_heap _ _ R _ 56 (0, 0) hN1
  have hold2 : ∀ k, k < N → W2.heap[k]? = w.heap[k]? := fun k hk => by rw [hW2, setRow_other _ _ _ _ (by omega)]; exact hold1 k hk
  have hcpB : ∀ dc sc, (Builtin.copy_ #[49, 49] 3 #[.slice (some ⟨N, (i + 1), none⟩) (n - i) dc, .slice (some ⟨g, i, none⟩) (n - i) sc]).run Tryz.prog W2.drew = _ := fun dc sc =>
    run_copy2S W2.drew 49 49 3 N ((i + 1)) (n - i) dc ⟨g, i, none⟩ (n - i) sc A1 56 (pvs (L.drop i)) (n - i) Tryz.underlying49 hN2 (by simp only [Nat.min_def]; split <;> omega) hdr
      (fun j v hj => by rw [Addr.add_lit]; exact hcell W2.drew i j v ((hold2 g hgl).trans hg) hj) (by rw [hdr, hA1s]; omega) (pvs_one _)
  obtain ⟨A2, hA2⟩ : ∃ A2, A2 = (A1.toList.take ((i + 1)) ++ pvs (L.drop i) ++ A1.toList.drop ((i + 1) + (pvs (L.drop i)).length)).toArray := ⟨_, rfl⟩
  rw [← hA2] at hcpB
  have H : Hid (InsdS base (.slice (some ⟨g, 0, none⟩) n cap) (L.take i ++ x :: L.drop i) w (.returned (.slice (some ⟨N, 0, none⟩) (n + 1) G)) (W2.drew.setRow N A2)) := by
    have hsz : w.heap.size ≤ (W2.drew.setRow N A2).heap.size := by rw [hW2, hW1]; simp
    refine ⟨_, rfl, ?_, ⟨?_, ?_, ?_, hsz, ?_⟩, .inr (by rw [hN]; rfl)⟩
    · have hlen : (L.take i ++ x :: L.drop i).length = n + 1 := by rw [hn]; simp; omega
      refine ⟨by rw [Nat.mul_one]; exact pvs_length _, .inr ⟨N, G, A2, by rw [hlen], by omega, setRow_heap _ _ A1 _ 56 (0, 0) hN2, by omega, hGm, ?_, ?_⟩⟩
      · rw [hA2]
        have : A1.toList.length = G := by rw [Array.length_toList, hA1s]
        simp [hdr]; omega
      · rw [Nat.mul_one, hlen, hA2, hA1, List.toList_toArray, List.toList_toArray, hdr]
        have e := grow_list R.toList [pv x] (pvs (L.drop i)) (i) ((n - i)) (by omega) rfl hdr
        rw [show i + 1 = (i + 1) by omega, show (i + 1) + (n - i) = (n + 1) by omega] at e
        rw [show i + [pv x].length = (i + 1) by rfl, show (i + 1) + (n - i) = (n + 1) by omega, e, pvs_append, pvs_cons, hRt, List.append_assoc]
    · rw [hW2, hW1]; rfl
    · rw [hW2, hW1]; rfl
    · rw [hW2, hW1]; rfl
    · intro k hk _
      rw [setRow_other _ _ _ _ (by omega)]
      exact hold2 k (by omega)
  rw [← hn]
  rw [← hn] at hi hl hroom hnc
  have hcm' : cap ≤ 9223372036854775807 := by unfold maxLen at hm; omega
  have hGm' : G ≤ 9223372036854775807 := by unfold maxLen at hGm; omega
  clear hg hs ht hvb hcur hdr hA1 hA1s hN1 hN2 hold1 hold2 hA2 hW1 hW2 hm hn hR hRs hRt hRl hcell hold hi0 hz0 hz1 hz2 hta hG hGm hN hkk
  go_enter Tryz.func26, Tryz.ntmps26
  go_wp2_with (at_builtin; refine Lib.wpList_append_run _ rfl _ _ _ _ rfl _ _ rfl rfl _ _ hzr ?_)
  go_region
  go_wp2
  go_ret
  exact H.out
theorem insert_anyS (base i vb : Nat) (v : Value) (L : List Nat) (x : Nat) (w : World) (h : RowP 56 w base v L) (hi : i ≤ L.length) (hl : L.length ≤ 1000) (hb : base ≤ w.heap.size) (hvb : w.heap[vb]? = some (.cells [pv x].toArray 56 (0, 0))) (hne : v.ownBlock ≠ some vb) :
    Calls Tryz.prog 26 #[v, .int .i64 (i : Nat), .slice (some ⟨vb, 0, none⟩) 1 1] w (InsdS base v (L.take i ++ x :: L.drop i) w) := by
  rcases Nat.eq_or_lt_of_le hi with rfl | hi'
  · have := insert_endS base vb v L x w h hl hb hvb
    rw [List.take_of_length_le (Nat.le_refl _), List.drop_of_length_le (Nat.le_refl _)]
    exact this
  · rcases h.two with ⟨_, h0⟩ | ⟨g, cap, cur, rfl, hbg, hg, hn, hm, hs, ht⟩
    · rw [h0] at hi'; simp at hi'
    · by_cases hroom : L.length + 1 ≤ cap
      · exact insert_shiftS base i vb g cap cur L x w hbg hg hm hs ht hi' hl hroom hvb (fun e => hne (by rw [e]; rfl))
      · exact insert_growS base i vb g cap cur L x w hb hg hm hs ht hi' hl hn (by omega) hvb
end Go.Proofs.YtgpbphjplbhfmaaGreat.Ck.Y

namespace Go.Proofs.YtgpbphjplbhfmaaGreat.Ck.Y
open Go.RowKit Go.Maps Go.Lib
theorem pinfoO : ∃ i, Tryz.prog.info? 70 = some i ∧ i.zero = some (.pointer none) ∧ i.size = 1 ∧ i.bytes = 8 := by
  have e : (Tryz.prog.info? 70).map (fun i => (i.zero, i.size, i.bytes)) = some (some (.pointer none), 1, 8) := by kernel_rfl
  obtain ⟨i, hi, he⟩ := Option.map_eq_some_iff.1 e
  injection he with h1 h2
  injection h2 with h2 h3
  exact ⟨i, hi, h1, h2, h3⟩
def InsdO (base : Nat) (v : Value) (M : List Nat) (w : World) (e : Ending) (w' : World) : Prop := ∃ v', e = .returned v' ∧ RowP 70 w' base v' M ∧ w.grownBy w' v.ownBlock ∧ (v'.ownBlock = v.ownBlock ∨ v'.ownBlock = some w.heap.size)
set_option maxRecDepth 8000 in
set_option maxHeartbeats 2000000 in
theorem insert_endO (base vb : Nat) (v : Value) (L : List Nat) (x : Nat) (w : World) (h : RowP 70 w base v L) (hl : L.length ≤ 1000) (hb : base ≤ w.heap.size) (hvb : w.heap[vb]? = some (.cells [pv x].toArray 70 (0, 0))) :
    Calls Tryz.prog 96 #[v, .int .i64 (L.length : Nat), .slice (some ⟨vb, 0, none⟩) 1 1] w (InsdO base v (L ++ [x]) w) := by
  obtain ⟨i0, hi0, hz0, hz1, hz2⟩ := pinfoO
  obtain ⟨p, c, rfl, hlc, hcm, _⟩ := h.form
  obtain ⟨v', w', hr, h2, h3, _, h5⟩ := run_append_own_at (P := Tryz.prog) w base 74 74 70 i0 _ 1 8 Tryz.underlying74 hi0 hz0 hz1 hz2 rfl (by omega) _ L.length (pvs L) h ⟨vb, 0, none⟩ 1 1 [pv x] rfl
    (fun j u hj => by rw [Addr.add_lit, cellOf hvb]; simpa using hj) (by intro u hu; simp [pv] at hu; rcases hu with rfl; rfl) (by unfold maxLen; omega) (by omega) hb
  have H : Hid (InsdO base (.slice p L.length c) (L ++ [x]) w (.returned v') w') := ⟨v', rfl, RowP.ext h2 (by simp) (by rw [pvs_append]; simp [pvs]), h3, h5⟩
  have hcm' : c ≤ 9223372036854775807 := by unfold maxLen at hcm; omega
  clear h hvb h2 h3 h5 hi0 hz0 hcm
  generalize L.length = n at *
  go_enter Tryz.func96, Tryz.ntmps96
  rcases p with _ | ⟨ab, ao, asp⟩
  · go_wp2_with (at_builtin; refine Lib.wpList_append_run _ rfl _ _ _ _ rfl _ _ rfl rfl _ _ hr ?_)
    all_goals (go_ret; exact H.out)
  · go_wp2_with (at_builtin; refine Lib.wpList_append_run _ rfl _ _ _ _ rfl _ _ rfl rfl _ _ hr ?_)
    all_goals (go_ret; exact H.out)
theorem run_copy2O (w : World) (dT sT ty : TypeId) (g o dLen dCap : Nat) (a : Addr) (sLen sCap : Nat) (cur : Array Value) (t : TypeId) (cs : List Value) (k : Nat) (hu : Tryz.prog.underlying dT = some (.slice 70)) (hg : w.heap[g]? = some (.cells cur t (0, 0))) (hk : Nat.min sLen dLen = k) (hn : cs.length = k) (hsrc : ∀ j v, cs[j]? = some v → w.cell? (a.add j) = some v) (hfit : o + cs.length ≤ cur.size) (h1 : ∀ v ∈ cs, v.oneCell' = true) :
    (Builtin.copy_ #[dT, sT] ty #[.slice (some ⟨g, o, none⟩) dLen dCap, .slice (some a) sLen sCap]).run Tryz.prog w =
      .ok (goInt k) (w.setRow g (cur.toList.take o ++ cs ++ cur.toList.drop (o + cs.length)).toArray) := by
  have hl := run_loadCells_list (P := Tryz.prog) w a cs hsrc
  have hst := run_storeCells_at Tryz.prog g o t cs 0 cur w hg (by simpa using hfit) h1
  obtain ⟨i0, hi0, hz0, hz1, hz2⟩ := pinfoO
  rw [hn] at hl
  simp [Builtin.copy_, run_underlying hu, Builtin.lenOf, Builtin.firstCells, sizeOf, typeInfo, hi0, hz1, hk, hl, hst]
theorem overlaps_noO (w : World) (vb g la ca lb cb o : Nat) (cur ds : Array Value) (hne : vb ≠ g) (hvb : w.heap[vb]? = some (.cells ds 70 (0, 0))) (hg : w.heap[g]? = some (.cells cur 70 (0, 0))) (h0 : cur.size ≠ 0) :
    (callFunc 103 #[.slice (some ⟨vb, 0, none⟩) la ca, .slice (some ⟨g, o, none⟩) lb cb]).run Tryz.prog w = .ok (.value (.bool false)) w := by
  rw [run_callFunc_extern Tryz.func103 (by kernel_rfl) (by kernel_rfl) (by kernel_rfl) (e := Extern.SlicesOverlaps.overlaps #[74, 74] #[4]) (by kernel_rfl),
    Lib.run_overlaps_apart w 74 4 70 Tryz.underlying74 1 Tryz.sizeOf70 ⟨vb, 0, none⟩ ⟨g, o, none⟩ la ca lb cb hne 70 70 ds.size cur.size (by unfold World.shape?; rw [hvb]) (by unfold World.shape?; rw [hg]) h0 (by simp [World.frozen?, hvb]) (by simp [World.frozen?, hvb])]
  rfl
set_option maxRecDepth 8000 in
set_option maxHeartbeats 4000000 in
theorem insert_shiftO (base i vb g cap : Nat) (cur : Array Value) (L : List Nat) (x : Nat) (w : World) (hbg : base ≤ g) (hg : w.heap[g]? = some (.cells cur 70 (0, 0))) (hm : cap ≤ maxLen) (hs : cur.size = cap) (ht : cur.toList.take (L.length) = pvs L) (hi : i < L.length) (hl : L.length ≤ 1000) (hroom : L.length + 1 ≤ cap) (hvb : w.heap[vb]? = some (.cells [pv x].toArray 70 (0, 0))) (hne : vb ≠ g) :
    Calls Tryz.prog 96 #[.slice (some ⟨g, 0, none⟩) L.length cap, .int .i64 (i : Nat), .slice (some ⟨vb, 0, none⟩) 1 1] w (InsdO base (.slice (some ⟨g, 0, none⟩) L.length cap) (L.take i ++ x :: L.drop i) w) := by
  have hov := fun lb cb => overlaps_noO w vb g 1 1 lb cb ((i + 1)) cur _ hne hvb hg (by omega)
  obtain ⟨n, hn⟩ : ∃ n, n = L.length := ⟨_, rfl⟩
  have hcur : cur.toList.length = cap := by rw [Array.length_toList, hs]
  have hdr : (pvs (L.drop i)).length = (n - i) := by rw [pvs_length, List.length_drop, hn]
  have hcp1 : ∀ dc sc, (Builtin.copy_ #[74, 74] 3 #[.slice (some ⟨g, (i + 1), none⟩) (n - i) dc, .slice (some ⟨g, i, none⟩) (n + 1 - i) sc]).run Tryz.prog w.drew = _ := fun dc sc =>
    run_copy2O w.drew 74 74 3 g ((i + 1)) (n - i) dc ⟨g, i, none⟩ (n + 1 - i) sc cur 70 (pvs (L.drop i)) (n - i) Tryz.underlying74 hg (by simp only [Nat.min_def]; split <;> omega) hdr
      (fun j v hj => by
        rw [Addr.add_lit]
        have hj' := (List.getElem?_eq_some_iff.1 hj).1
        rw [hdr] at hj'
        refine (cellOf hg (i + j)).trans ?_
        rw [← Array.getElem?_toList]
        have : (cur.toList.take (L.length))[i + j]? = some v := by
          rw [ht, ← List.getElem?_drop, pvs_drop]; exact hj
        rw [List.getElem?_take] at this
        split at this
        · exact this
        · cases this) (by rw [hdr, hs]; omega) (pvs_one _)
  obtain ⟨A1, hA1⟩ : ∃ A1, A1 = (cur.toList.take ((i + 1)) ++ pvs (L.drop i) ++ cur.toList.drop ((i + 1) + (pvs (L.drop i)).length)).toArray := ⟨_, rfl⟩
  rw [← hA1] at hcp1
  have hA1s : A1.size = cap := by
    rw [hA1, ← Array.length_toList]; simp [hdr, hs]; omega
  obtain ⟨W1, hW1⟩ : ∃ W1, W1 = w.drew.setRow g A1 := ⟨_, rfl⟩
  rw [← hW1] at hcp1
  have hg1 : W1.heap[g]? = some (.cells A1 70 (0, 0)) := by rw [hW1]; exact setRow_heap _ _ cur _ 70 (0, 0) hg
  have hv1 : W1.heap[vb]? = some (.cells [pv x].toArray 70 (0, 0)) := by rw [hW1, setRow_other _ _ _ _ hne]; exact hvb
  have hcp2 : ∀ dc, (Builtin.copy_ #[74, 74] 3 #[.slice (some ⟨g, i, none⟩) (n + 1 - i) dc, .slice (some ⟨vb, 0, none⟩) 1 1]).run Tryz.prog W1 = _ := fun dc =>
    run_copy2O W1 74 74 3 g (i) (n + 1 - i) dc ⟨vb, 0, none⟩ 1 1 A1 70 [pv x] 1 Tryz.underlying74 hg1 (by simp only [Nat.min_def]; split <;> omega) rfl
      (fun j v hj => by rw [Addr.add_lit]; refine (cellOf hv1 (0 + j)).trans ?_; rw [Nat.zero_add]; simpa using hj) (by rw [hA1s]; simp [pv]; omega) (by intro u hu; simp [pv] at hu; rcases hu with rfl; rfl)
  obtain ⟨A2, hA2⟩ : ∃ A2, A2 = (A1.toList.take (i) ++ [pv x] ++ A1.toList.drop (i + [pv x].length)).toArray := ⟨_, rfl⟩
  rw [← hA2] at hcp2
  have H : Hid (InsdO base (.slice (some ⟨g, 0, none⟩) n cap) (L.take i ++ x :: L.drop i) w (.returned (.slice (some ⟨g, 0, none⟩) (n + 1) cap)) (W1.setRow g A2)) := by
    refine ⟨_, rfl, ?_, ⟨?_, ?_, ?_, ?_, ?_⟩, .inl rfl⟩
    · have hlen : (L.take i ++ x :: L.drop i).length = n + 1 := by rw [hn]; simp; omega
      refine ⟨by rw [Nat.mul_one]; exact pvs_length _, .inr ⟨g, cap, A2, by rw [hlen], hbg, setRow_heap _ _ A1 _ 70 (0, 0) hg1, by omega, hm, ?_, ?_⟩⟩
      · rw [hA2]
        have : A1.toList.length = cap := by rw [Array.length_toList, hA1s]
        simp [pv]; omega
      · rw [Nat.mul_one, hlen, hA2, hA1, List.toList_toArray, List.toList_toArray]
        have e := shift_list cur.toList [pv x] (pvs (L.drop i)) (cur.toList.drop ((i + 1) + (pvs (L.drop i)).length)) (i) ((n - i)) (by omega) rfl hdr
        rw [show i + 1 = (i + 1) by omega, show (i + 1) + (n - i) = (n + 1) by omega] at e
        rw [show i + [pv x].length = (i + 1) by rfl, e, pvs_append, pvs_cons, ← pvs_take, ← ht, List.take_take, Nat.min_eq_left (by omega), List.append_assoc]
    · rw [hW1]; rfl
    · rw [hW1]; rfl
    · rw [hW1]; rfl
    · rw [hW1]; simp
    · intro k hk hkg
      have : k ≠ g := fun e => hkg (by rw [e]; rfl)
      rw [setRow_other _ _ _ _ this, hW1, setRow_other _ _ _ _ this]; rfl
  rw [← hn]
  rw [← hn] at hi hl hroom
  have hcm' : cap ≤ 9223372036854775807 := by unfold maxLen at hm; omega
  clear hg hs ht hvb hcur hdr hA1 hA1s hg1 hv1 hA2 hW1 hm hn
  go_enter Tryz.func96, Tryz.ntmps96
  go_wp2_with (simp only [hov])
  go_region
  go_wp2
  go_ret
  exact H.out
set_option maxRecDepth 8000 in
set_option maxHeartbeats 4000000 in
theorem insert_growO (base i vb g cap : Nat) (cur : Array Value) (L : List Nat) (x : Nat) (w : World) (hbw : base ≤ w.heap.size) (hg : w.heap[g]? = some (.cells cur 70 (0, 0))) (hm : cap ≤ maxLen) (hs : cur.size = cap) (ht : cur.toList.take (L.length) = pvs L) (hi : i < L.length) (hl : L.length ≤ 1000) (hnc : L.length ≤ cap) (hroom : cap < L.length + 1) (hvb : w.heap[vb]? = some (.cells [pv x].toArray 70 (0, 0))) :
    Calls Tryz.prog 96 #[.slice (some ⟨g, 0, none⟩) L.length cap, .int .i64 (i : Nat), .slice (some ⟨vb, 0, none⟩) 1 1] w (InsdO base (.slice (some ⟨g, 0, none⟩) L.length cap) (L.take i ++ x :: L.drop i) w) := by
  obtain ⟨i0, hi0, hz0, hz1, hz2⟩ := pinfoO
  obtain ⟨n, hn⟩ : ∃ n, n = L.length := ⟨_, rfl⟩
  have hcur : cur.toList.length = cap := by rw [Array.length_toList, hs]
  have hdr : (pvs (L.drop i)).length = (n - i) := by rw [pvs_length, List.length_drop, hn]
  have hta : (pvs (L.take i)).length = i := by rw [pvs_length, List.length_take]; omega
  have hcell : ∀ (W : World) (k j : Nat) (v : Value), W.heap[g]? = some (.cells cur 70 (0, 0)) → (pvs (L.drop k))[j]? = some v → W.cell? ⟨g, k + j, none⟩ = some v := fun W k j v hW hj => by
    refine (cellOf hW (k + j)).trans ?_
    rw [← Array.getElem?_toList]
    have : (cur.toList.take (L.length))[k + j]? = some v := by
      rw [ht, ← List.getElem?_drop, pvs_drop]; exact hj
    rw [List.getElem?_take] at this
    split at this
    · exact this
    · cases this
  have hold : (Builtin.firstCells i0.size i (.slice (some ⟨g, 0, none⟩) i cap)).run Tryz.prog w.drew = .ok (pvs (L.take i)).toArray w.drew := by
    rw [hz1]
    refine run_firstCells_some w.drew 1 i ⟨g, 0, none⟩ i cap (pvs (L.take i)) (by rw [Nat.mul_one]; exact hta) (fun j v hj => ?_)
    rw [Addr.add_lit]
    have := hcell w.drew 0 j v hg (by
      rw [← pvs_take, List.getElem?_take] at hj
      split at hj
      · exact hj
      · cases hj)
    exact this
  have hzr := Lib.run_append_grow_zeros (P := Tryz.prog) w 74 3 74 70 i0 _ .i64 .i64 Tryz.underlying74 (by kernel_rfl) hi0 hz0 (some ⟨g, 0, none⟩) i cap (pvs (L.take i)) hold (n + 1 - i) (by omega) (by omega) (by omega) (by omega) (by rw [hz2]; omega)
    (by rw [hz2, show i + (n + 1 - i) = n + 1 by omega]; exact growslice_fits (by omega) (by omega))
  rw [show i + (n + 1 - i) = n + 1 by omega] at hzr
  have hkk : (n : Int) + 1 - (i : Int) = ((n + 1 - i : Nat) : Int) := by omega
  rw [← hkk] at hzr
  obtain ⟨G, hG⟩ : ∃ G, G = grownCap w (n + 1) cap 70 := ⟨_, rfl⟩
  have hGn : n + 1 ≤ G := by rw [hG]; exact grownCap_ge w _ _ _
  have hGm : G ≤ maxLen := by rw [hG]; exact grownCap_le_maxLen w _ _ _ (by unfold maxLen; omega)
  rw [← hG] at hzr
  obtain ⟨R, hR⟩ : ∃ R : Array Value, R = (pvs (L.take i)).toArray ++ Builtin.zeroCells (Value.pointer none).cells (n + 1 - i) ++ Builtin.zeroCells (Value.pointer none).cells (G - (n + 1)) := ⟨_, rfl⟩
  rw [← hR] at hzr
  have hRs : R.size = G := by
    rw [hR]
    simp only [Array.size_append, size_zeroCells, List.size_toArray, hta]
    have : (Value.pointer none).cells.size = 1 := rfl
    rw [this]; omega
  have hRt : R.toList.take (i) = pvs (L.take i) := by
    rw [hR]
    simp only [Array.toList_append, List.append_assoc]
    rw [List.take_append_of_le_length (by rw [hta]; omega), List.take_of_length_le (by rw [hta]; omega)]
  obtain ⟨N, hN⟩ : ∃ N, w.heap.size = N := ⟨_, rfl⟩
  obtain ⟨W1, hW1⟩ : ∃ W1, W1 = w.drew.alloc (.cells R 70) := ⟨_, rfl⟩
  rw [← hW1, hN] at hzr
  have hgl : g < N := by rw [← hN]; exact block_lt hg
  have hvl : vb < N := by rw [← hN]; exact block_lt hvb
  have hN1 : W1.heap[N]? = some (.cells R 70 (0, 0)) := by rw [hW1, ← hN]; exact heap_alloc_new w.drew _
  have hold1 : ∀ k, k < N → W1.heap[k]? = w.heap[k]? := fun k hk => by rw [hW1]; exact heap_alloc_old w.drew _ (by rw [← hN] at hk; exact hk)
  have hcpA : ∀ dc, (Builtin.copy_ #[74, 74] 3 #[.slice (some ⟨N, i, none⟩) (n + 1 - i) dc, .slice (some ⟨vb, 0, none⟩) 1 1]).run Tryz.prog W1 = _ := fun dc =>
    run_copy2O W1 74 74 3 N (i) (n + 1 - i) dc ⟨vb, 0, none⟩ 1 1 R 70 [pv x] 1 Tryz.underlying74 hN1 (by simp only [Nat.min_def]; split <;> omega) rfl
      (fun j v hj => by rw [Addr.add_lit]; refine (cellOf ((hold1 vb hvl).trans hvb) (0 + j)).trans ?_; rw [Nat.zero_add]; simpa using hj) (by rw [hRs]; simp [pv]; omega) (by intro u hu; simp [pv] at hu; rcases hu with rfl; rfl)
  obtain ⟨A1, hA1⟩ : ∃ A1, A1 = (R.toList.take (i) ++ [pv x] ++ R.toList.drop (i + [pv x].length)).toArray := ⟨_, rfl⟩
  rw [← hA1] at hcpA
  have hRl : R.toList.length = G := by rw [Array.length_toList, hRs]
  have hA1s : A1.size = G := by rw [hA1, ← Array.length_toList]; simp [pv]; omega
  obtain ⟨W2, hW2⟩ : ∃ W2, W2 = W1.setRow N A1 := ⟨_, rfl⟩
  rw [← hW2] at hcpA
  have hN2 : W2.heap[N]? = some (.cells A1 70 (0, 0)) := by rw [hW2]; exact setRow_heap _ _ R _ 70 (0, 0) hN1
  have hold2 : ∀ k, k < N → W2.heap[k]? = w.heap[k]? := fun k hk => by rw [hW2, setRow_other _ _ _ _ (by omega)]; exact hold1 k hk
  have hcpB : ∀ dc sc, (Builtin.copy_ #[74, 74] 3 #[.slice (some ⟨N, (i + 1), none⟩) (n - i) dc, .slice (some ⟨g, i, none⟩) (n - i) sc]).run Tryz.prog W2.drew = _ := fun dc sc =>
    run_copy2O W2.drew 74 74 3 N ((i + 1)) (n - i) dc ⟨g, i, none⟩ (n - i) sc A1 70 (pvs (L.drop i)) (n - i) Tryz.underlying74 hN2 (by simp only [Nat.min_def]; split <;> omega) hdr
      (fun j v hj => by rw [Addr.add_lit]; exact hcell W2.drew i j v ((hold2 g hgl).trans hg) hj) (by rw [hdr, hA1s]; omega) (pvs_one _)
  obtain ⟨A2, hA2⟩ : ∃ A2, A2 = (A1.toList.take ((i + 1)) ++ pvs (L.drop i) ++ A1.toList.drop ((i + 1) + (pvs (L.drop i)).length)).toArray := ⟨_, rfl⟩
  rw [← hA2] at hcpB
  have H : Hid (InsdO base (.slice (some ⟨g, 0, none⟩) n cap) (L.take i ++ x :: L.drop i) w (.returned (.slice (some ⟨N, 0, none⟩) (n + 1) G)) (W2.drew.setRow N A2)) := by
    have hsz : w.heap.size ≤ (W2.drew.setRow N A2).heap.size := by rw [hW2, hW1]; simp
    refine ⟨_, rfl, ?_, ⟨?_, ?_, ?_, hsz, ?_⟩, .inr (by rw [hN]; rfl)⟩
    · have hlen : (L.take i ++ x :: L.drop i).length = n + 1 := by rw [hn]; simp; omega
      refine ⟨by rw [Nat.mul_one]; exact pvs_length _, .inr ⟨N, G, A2, by rw [hlen], by omega, setRow_heap _ _ A1 _ 70 (0, 0) hN2, by omega, hGm, ?_, ?_⟩⟩
      · rw [hA2]
        have : A1.toList.length = G := by rw [Array.length_toList, hA1s]
        simp [hdr]; omega
      · rw [Nat.mul_one, hlen, hA2, hA1, List.toList_toArray, List.toList_toArray, hdr]
        have e := grow_list R.toList [pv x] (pvs (L.drop i)) (i) ((n - i)) (by omega) rfl hdr
        rw [show i + 1 = (i + 1) by omega, show (i + 1) + (n - i) = (n + 1) by omega] at e
        rw [show i + [pv x].length = (i + 1) by rfl, show (i + 1) + (n - i) = (n + 1) by omega, e, pvs_append, pvs_cons, hRt, List.append_assoc]
    · rw [hW2, hW1]; rfl
    · rw [hW2, hW1]; rfl
    · rw [hW2, hW1]; rfl
    · intro k hk _
      rw [setRow_other _ _ _ _ (by omega)]
      exact hold2 k (by omega)
  rw [← hn]
  rw [← hn] at hi hl hroom hnc
  have hcm' : cap ≤ 9223372036854775807 := by unfold maxLen at hm; omega
  have hGm' : G ≤ 9223372036854775807 := by unfold maxLen at hGm; omega
  clear hg hs ht hvb hcur hdr hA1 hA1s hN1 hN2 hold1 hold2 hA2 hW1 hW2 hm hn hR hRs hRt hRl hcell hold hi0 hz0 hz1 hz2 hta hG hGm hN hkk
  go_enter Tryz.func96, Tryz.ntmps96
  go_wp2_with (at_builtin; refine Lib.wpList_append_run _ rfl _ _ _ _ rfl _ _ rfl rfl _ _ hzr ?_)
  go_region
  go_wp2
  go_ret
  exact H.out
theorem insert_anyO (base i vb : Nat) (v : Value) (L : List Nat) (x : Nat) (w : World) (h : RowP 70 w base v L) (hi : i ≤ L.length) (hl : L.length ≤ 1000) (hb : base ≤ w.heap.size) (hvb : w.heap[vb]? = some (.cells [pv x].toArray 70 (0, 0))) (hne : v.ownBlock ≠ some vb) :
    Calls Tryz.prog 96 #[v, .int .i64 (i : Nat), .slice (some ⟨vb, 0, none⟩) 1 1] w (InsdO base v (L.take i ++ x :: L.drop i) w) := by
  rcases Nat.eq_or_lt_of_le hi with rfl | hi'
  · have := insert_endO base vb v L x w h hl hb hvb
    rw [List.take_of_length_le (Nat.le_refl _), List.drop_of_length_le (Nat.le_refl _)]
    exact this
  · rcases h.two with ⟨_, h0⟩ | ⟨g, cap, cur, rfl, hbg, hg, hn, hm, hs, ht⟩
    · rw [h0] at hi'; simp at hi'
    · by_cases hroom : L.length + 1 ≤ cap
      · exact insert_shiftO base i vb g cap cur L x w hbg hg hm hs ht hi' hl hroom hvb (fun e => hne (by rw [e]; rfl))
      · exact insert_growO base i vb g cap cur L x w hb hg hm hs ht hi' hl hn (by omega) hvb
theorem run_clear2O (w : World) (ty : TypeId) (g o c : Nat) (cur : Array Value) (t : TypeId) (hg : w.heap[g]? = some (.cells cur t (0, 0))) (hfit : o + 1 ≤ cur.size) :
    (Builtin.clear_ #[74] ty #[.slice (some ⟨g, o, none⟩) 1 c]).run Tryz.prog w = .ok (.tuple #[]) (w.setRow g (cur.toList.take o ++ ([.pointer none] : List Value) ++ cur.toList.drop (o + 1)).toArray) := by
  have hst := run_storeCells_at Tryz.prog g o t [.pointer none] 0 cur w hg (by simpa using hfit) (by intro u hu; simp at hu; rcases hu with rfl; rfl)
  have hz : (Builtin.zeroCells (Value.pointer none).cells 1).toList = [.pointer none] := by kernel_rfl
  simp only [Nat.add_zero, List.length_cons, List.length_nil] at hst
  simp [Builtin.clear_, run_underlying Tryz.underlying74, Tryz.zeroValue70, hz, hst]
def DeldO (base : Nat) (v : Value) (M : List Nat) (w : World) (e : Ending) (w' : World) : Prop := ∃ v', e = .returned v' ∧ RowP 70 w' base v' M ∧ w.grownBy w' v.ownBlock ∧ v'.ownBlock = v.ownBlock
set_option maxRecDepth 8000 in
set_option maxHeartbeats 4000000 in
theorem delete_anyO (base i j : Nat) (v : Value) (L : List Nat) (w : World) (h : RowP 70 w base v L) (hij : j = i + 1) (hi : i < L.length) (hl : L.length ≤ 1001) :
    Calls Tryz.prog 95 #[v, .int .i64 (i : Nat), .int .i64 (j : Nat)] w (DeldO base v (L.take i ++ L.drop j) w) := by
  obtain ⟨i0, hi0, hz0, hz1, hz2⟩ := pinfoO
  rcases h.two with ⟨_, h0⟩ | ⟨g, cap, cur, rfl, hbg, hg, hnc, hm, hs, ht⟩
  · rw [h0] at hi; simp at hi
  obtain ⟨n, hn⟩ : ∃ n, n = L.length := ⟨_, rfl⟩
  have hcur : cur.toList.length = cap := by rw [Array.length_toList, hs]
  have hdr : (pvs (L.drop j)).length = (n - j) := by rw [pvs_length, List.length_drop, hn]
  have hta : (pvs (L.take i)).length = i := by rw [pvs_length, List.length_take]; omega
  obtain ⟨A, hA, hsrc⟩ : ∃ A : Addr, (if cap = j then some (⟨g, 0, none⟩ : Addr) else some ⟨g, j, none⟩) = some A ∧ ∀ q u, (pvs (L.drop j))[q]? = some u → w.drew.cell? (A.add q) = some u := by
    by_cases hc : cap = j
    · refine ⟨⟨g, 0, none⟩, by simp [hc], fun q u hj => ?_⟩
      have := (List.getElem?_eq_some_iff.1 hj).1
      rw [hdr] at this; omega
    · refine ⟨⟨g, j, none⟩, by simp [hc], fun q u hj => ?_⟩
      rw [Addr.add_lit]
      refine (cellOf hg (j + q)).trans ?_
      rw [← Array.getElem?_toList]
      have : (cur.toList.take (L.length))[j + q]? = some u := by
        rw [ht, ← List.getElem?_drop, pvs_drop]; exact hj
      rw [List.getElem?_take] at this
      split at this
      · exact this
      · cases this
  have hap := run_append_room (P := Tryz.prog) w.drew 74 74 70 i0 Tryz.underlying74 hi0 g i cap cur hg A (n - j) (cap - j) (pvs (L.drop j)) (by rw [hz1, hdr, Nat.mul_one]) hsrc (pvs_one _) (by omega) (by rw [hz1, hdr]; omega)
  rw [hz1, hdr, Nat.mul_one] at hap
  obtain ⟨A1, hA1⟩ : ∃ A1, A1 = (cur.toList.take (i) ++ pvs (L.drop j) ++ cur.toList.drop (i + (n - j))).toArray := ⟨_, rfl⟩
  rw [← hA1] at hap
  have hA1s : A1.size = cap := by rw [hA1, ← Array.length_toList]; simp [hdr]; omega
  obtain ⟨W1, hW1⟩ : ∃ W1, W1 = w.drew.setRow g A1 := ⟨_, rfl⟩
  rw [← hW1] at hap
  have hg1 : W1.heap[g]? = some (.cells A1 70 (0, 0)) := by rw [hW1]; exact setRow_heap _ _ cur _ 70 (0, 0) hg
  have hcl : ∀ ty c, _ := fun ty c => run_clear2O W1 ty g ((i + (n - j))) c A1 70 hg1 (by rw [hA1s]; omega)
  obtain ⟨A2, hA2⟩ : ∃ A2, A2 = (A1.toList.take ((i + (n - j))) ++ ([.pointer none] : List Value) ++ A1.toList.drop ((i + (n - j)) + 1)).toArray := ⟨_, rfl⟩
  rw [← hA2] at hcl
  have hcl' : ∀ ty c, (Builtin.clear_ #[74] ty #[.slice (some ⟨g, (i + (n - j)), none⟩) (n - (i + (n - j))) c]).run Tryz.prog W1 = .ok (.tuple #[]) (W1.setRow g A2) := fun ty c => by
    rw [show n - (i + (n - j)) = 1 by omega]; exact hcl ty c
  clear hcl
  have H : Hid (DeldO base (.slice (some ⟨g, 0, none⟩) n cap) (L.take i ++ L.drop j) w (.returned (.slice (some ⟨g, 0, none⟩) (i + (n - j)) cap)) (W1.setRow g A2)) := by
    have hlen : (L.take i ++ L.drop j).length = i + (n - j) := by rw [hn]; simp; omega
    refine ⟨_, rfl, ?_, ⟨?_, ?_, ?_, ?_, ?_⟩, rfl⟩
    · refine ⟨by rw [Nat.mul_one]; exact pvs_length _, .inr ⟨g, cap, A2, by rw [hlen], hbg, setRow_heap _ _ A1 _ 70 (0, 0) hg1, by omega, hm, ?_, ?_⟩⟩
      · rw [hA2]
        have : A1.toList.length = cap := by rw [Array.length_toList, hA1s]
        simp; omega
      · rw [Nat.mul_one, hlen, hA2, List.toList_toArray, List.append_assoc, List.take_append_of_le_length (by rw [List.length_take, Array.length_toList, hA1s]; omega), List.take_take, Nat.min_self, hA1, List.toList_toArray,
          List.take_append_of_le_length (by simp [hdr]; omega), List.take_of_length_le (by simp [hdr]; omega), pvs_append, ← pvs_take, ← ht, List.take_take, Nat.min_eq_left (by omega)]
    · rw [hW1]; rfl
    · rw [hW1]; rfl
    · rw [hW1]; rfl
    · rw [hW1]; simp
    · intro k hk hkg
      have : k ≠ g := fun e => hkg (by rw [e]; rfl)
      rw [setRow_other _ _ _ _ this, hW1, setRow_other _ _ _ _ this]; rfl
  rw [← hn]
  rw [← hn] at hi hl hnc
  have hcm' : cap ≤ 9223372036854775807 := by unfold maxLen at hm; omega
  have hic : i ≤ cap := by omega
  have hjc : j ≤ cap := by omega
  have hij1 : i < j := by omega
  have hjn : j ≤ n := by omega
  clear hg hs ht hcur hdr hA1 hA1s hg1 hA2 hW1 hm hn hi0 hz0 hz1 hz2 hta h hsrc hij
  go_enter Tryz.func95, Tryz.ntmps95
  go_wp2_with fail
  go_region_law (refine step_append_known rfl _ _ 74 74 rfl _ _ (by simp [Act.eval, Act.put]) (by simp [Act.eval, Act.put]) hap ?_)
  go_wp2
  go_ret
  exact H.out
end Go.Proofs.YtgpbphjplbhfmaaGreat.Ck.Y

namespace Go.Proofs.YtgpbphjplbhfmaaGreat.Ck.Y
open Go.RowKit Go.Maps Go.Lib
theorem below_of_drew {B : Nat} {w w' : World} (h : Below B w.drew w') : Below B w w' := ⟨h.os, h.tape, h.output, h.size, h.block⟩
structure AtK (L : List Nat) (ky : Nat → PI) (q : PI) (i : Nat) (r : Bool) : Prop where
  le : i ≤ L.length
  lo : ∀ k x, k < i → L[k]? = some x → lessP (ky x) q
  hi : ∀ k x, i ≤ k → L[k]? = some x → ¬ lessP (ky x) q
  eq : r = true ↔ ∃ x, L[i]? = some x ∧ ky x = q
theorem AtK.unique {L : List Nat} {ky : Nat → PI} {q : PI} {i j : Nat} {r s : Bool} (h : AtK L ky q i r) (h' : AtK L ky q j s) : i = j ∧ r = s := by
  have e : i = j := by
    rcases Nat.lt_trichotomy i j with h1 | h1 | h1
    · obtain ⟨x, hx⟩ : ∃ x, L[i]? = some x := ⟨_, List.getElem?_eq_getElem (by have := h'.le; omega)⟩
      exact absurd (h'.lo i x h1 hx) (h.hi i x (Nat.le_refl _) hx)
    · exact h1
    · obtain ⟨x, hx⟩ : ∃ x, L[j]? = some x := ⟨_, List.getElem?_eq_getElem (by have := h.le; omega)⟩
      exact absurd (h.lo j x h1 hx) (h'.hi j x (Nat.le_refl _) hx)
  subst e
  refine ⟨rfl, ?_⟩
  have := h.eq.trans h'.eq.symm
  cases r <;> cases s <;> simp_all
theorem AtK.exists {L : List Nat} {ky : Nat → PI} (q : PI) (hs : L.Pairwise fun a b => lessP (ky a) (ky b)) : ∃ i r, AtK L ky q i r := by
  induction L with
  | nil => exact ⟨0, false, Nat.le_refl _, fun k x hk => by omega, fun k x _ hx => by simp at hx, by simp⟩
  | cons y L ih =>
    have h1 := List.pairwise_cons.1 hs
    obtain ⟨i, r, h⟩ := ih h1.2
    by_cases hy : lessP (ky y) q
    · refine ⟨i + 1, r, by have := h.le; simp; omega, fun k x hk hx => ?_, fun k x hk hx => ?_, ?_⟩
      · cases k with
        | zero => simp at hx; rw [← hx]; exact hy
        | succ k => exact h.lo k x (by omega) (by simpa using hx)
      · cases k with
        | zero => omega
        | succ k => exact h.hi k x (by omega) (by simpa using hx)
      · simpa using h.eq
    · refine ⟨0, decide (ky y = q), Nat.zero_le _, fun k x hk => by omega, fun k x _ hx => ?_, by simp⟩
      cases k with
      | zero => simp at hx; rw [← hx]; exact hy
      | succ k =>
        have hm : x ∈ L := List.mem_of_getElem? (by simpa using hx)
        exact fun e => hy (lessP_trans (h1.1 x hm) e)
theorem cmpZ_zero {t n t' n' : Int} (h : cmpZ t n t' n' = 0) : t = t' ∧ n = n' := by
  unfold cmpZ at h
  by_cases h1 : cmp1 t t' = 0
  · rw [if_pos h1] at h
    unfold cmp1 at h h1
    constructor
    · split at h1
      · omega
      · split at h1 <;> omega
    · split at h
      · omega
      · split at h <;> omega
  · rw [if_neg h1] at h; exact absurd h h1
set_option maxRecDepth 8000 in
set_option maxHeartbeats 4000000 in
theorem byS_reg {Q : Exit → Act → World → Prop} {base : Array Value} {dd : List Deferred} {ops : Array Oper} (hops : Tryz.f24.body.bind (regs 1) = some ops) (bb bx : Nat) (t n t' n' : Int) (w9 : World) (hsz : base.size = 11) (b0 : base.getD 0 undef = .pointer (some ⟨bb, 0, none⟩)) (b3 : base.getD 3 undef = .pointer (some ⟨bx, 0, none⟩)) (h0 : w9.cell? ⟨bb, 0, none⟩ = some (.int .i64 t)) (h1 : w9.cell? ⟨bb, 1, none⟩ = some (.int .i64 n)) (x0 : w9.cell? ⟨bx, 0, none⟩ = some (.int .i64 t')) (x1 : w9.cell? ⟨bx, 1, none⟩ = some (.int .i64 n')) (cK : ∀ W, Below w9.heap.size w9 W → Calls Tryz.prog 51 #[idv t n, idv t' n'] W fun e w' => e = .returned (.int .i64 (cmpZ t n t' n')) ∧ Below W.heap.size W w') (hQ : ∀ W, Below w9.heap.size w9 W → Q .normal ⟨putAll base [(some 5, .pointer (some ⟨bb, 0, none⟩)), (some 6, .pointer (some ⟨bb, 0, none⟩)), (some 7, .pointer (some ⟨bb, 0, none⟩)), (some 8, .agg #[.int .i64 t, .int .i64 n]), (some 9, .agg #[.int .i64 t', .int .i64 n']), (some 10, .int .i64 (cmpZ t n t' n')), (some 4, .int .i64 (cmpZ t n t' n'))], dd⟩ W) :
    (Code.region 1 ops true).wp Tryz.prog Q ⟨base, dd⟩ w9 := by
  have hmix : Tryz.prog.follows .mixedOrders = true := by kernel_rfl
  have h2 := (show Tryz.f24.body.bind (regs 1) = some _ from rfl).symm.trans hops
  obtain rfl := Option.some.inj h2
  clear h2 hops
  have below9 : Below w9.heap.size w9 w9.drew := (Below.refl _ _).drew
  obtain ⟨LL, hLe⟩ := qL hQ
  have vv0 : vals LL 0 = .pointer (some ⟨bb, 0, none⟩) := vL hLe rfl
  have vv1 : vals LL 1 = .pointer (some ⟨bb, 0, none⟩) := vL hLe rfl
  have vv2 : vals LL 2 = .pointer (some ⟨bb, 0, none⟩) := vL hLe rfl
  have vv3 : vals LL 3 = .agg #[.int .i64 t, .int .i64 n] := vL hLe rfl
  have vv4 : vals LL 4 = .agg #[.int .i64 t', .int .i64 n'] := vL hLe rfl
  have vv5 : vals LL 5 = .int .i64 (cmpZ t n t' n') := vL hLe rfl
  have vv6 : vals LL 6 = .int .i64 (cmpZ t n t' n') := vL hLe rfl
  refine region_laid hmix (by kernel_rfl) 11 hsz (by kernel_rfl) LL (by rw [hLe]; rfl) (fun _ W => Below w9.heap.size w9 W) below9 ?_ ?_
  · intro b W i o a hS hcl ho hb hd ev kp yl
    match i with
    | 0 => simp only [qq] at ho; subst ho; have e0 := (kp 0 (by kernel_rfl)).trans b0; rw [vv0]; exact dV (by simp [execOp, go_sem, e0]) hS
    | 1 => simp only [qq] at ho; subst ho; have e5 := eD ev hd 0 5 vv0; rw [vv1]; exact dV (by simp [execOp, go_sem, e5]) hS
    | 2 => simp only [qq] at ho; subst ho; have e6 := eD ev hd 1 6 vv1; rw [vv2]; exact dV (by simp [execOp, go_sem, e6]) hS
    | 3 => simp only [qq] at ho; subst ho; have e7 := eD ev hd 2 7 vv2; have d0 := (hS.cell (p := ⟨bb, 0, none⟩) (cell_lt h0)).trans h0; have d1 := (hS.cell (p := ⟨bb, 1, none⟩) (cell_lt h1)).trans h1; rw [vv3]; exact dV (by simp [execOp, go_sem, e7, d0, d1]) hS
    | 4 => simp only [qq] at ho; subst ho; have e3 := (kp 3 (by kernel_rfl)).trans b3; have d0 := (hS.cell (p := ⟨bx, 0, none⟩) (cell_lt x0)).trans x0; have d1 := (hS.cell (p := ⟨bx, 1, none⟩) (cell_lt x1)).trans x1; rw [vv4]; exact dV (by simp [execOp, go_sem, e3, d0, d1]) hS
    | 5 =>
      simp only [qq] at ho; subst ho; have e8 := eD ev hd 3 8 vv3; have e9 := eD ev hd 4 9 vv4; rw [vv5]
      refine does_call rfl nofun (f := 51) (args := #[.agg #[.int .i64 t, .int .i64 n], .agg #[.int .i64 t', .int .i64 n']]) ?_ ?_
      · simp [go_sem, e8, e9]
      · exact (cK W hS).mono (fun e w' h => ⟨h.1, hS.trans (h.2.mono hS.size)⟩)
    | 6 => simp only [qq] at ho; subst ho; have e10 := eD ev hd 5 10 vv5; rw [vv6]; exact dV (by simp [execOp, go_sem, e10]) hS
    | k + 7 => simp at ho
  · intro b' W hS _
    subst hLe
    exact hQ W hS
set_option maxRecDepth 8000 in
set_option maxHeartbeats 4000000 in
theorem searchS_r5 {Q : Exit → Act → World → Prop} {base : Array Value} {dd : List Deferred} {ops : Array Oper} (hops : Tryz.f23.body.bind (regs 5) = some ops) (g x bx len cp k : Nat) (t n z : Int) (w9 : World) (hsz : base.size = 49) (b0 : base.getD 0 undef = .slice (some ⟨g, 0, none⟩) len cp) (b2 : base.getD 2 undef = .func (.func 24) #[] #[]) (b4 : base.getD 4 undef = .pointer (some ⟨bx, 0, none⟩)) (b11 : base.getD 11 undef = .int .i64 (k : Nat)) (hk : k < len) (c0 : w9.cell? ⟨g, k, none⟩ = some (.pointer (some ⟨x, 0, none⟩))) (x0 : w9.cell? ⟨bx, 0, none⟩ = some (.int .i64 t)) (x1 : w9.cell? ⟨bx, 1, none⟩ = some (.int .i64 n)) (cK : ∀ W, Below w9.heap.size w9 W → Calls Tryz.prog 24 #[.pointer (some ⟨x, 0, none⟩), idv t n] W fun e w' => e = .returned (.int .i64 z) ∧ Below W.heap.size W w') (hQ : ∀ W, Below w9.heap.size w9 W → Q .normal ⟨putAll base [(some 24, .func (.func 24) #[] #[]), (some 25, .slice (some ⟨g, 0, none⟩) len cp), (some 26, .int .i64 (k : Nat)), (some 27, .pointer (some ⟨g, k, none⟩)), (some 28, .pointer (some ⟨x, 0, none⟩)), (some 29, .agg #[.int .i64 t, .int .i64 n]), (some 30, .int .i64 z), (some 31, .bool (decide (z < 0)))], dd⟩ W) :
    (Code.region 5 ops true).wp Tryz.prog Q ⟨base, dd⟩ w9 := by
  have hmix : Tryz.prog.follows .mixedOrders = true := by kernel_rfl
  have h2 := (show Tryz.f23.body.bind (regs 5) = some _ from rfl).symm.trans hops
  obtain rfl := Option.some.inj h2
  clear h2 hops
  have below9 : Below w9.heap.size w9 w9.drew := (Below.refl _ _).drew
  obtain ⟨LL, hLe⟩ := qL hQ
  have vv0 : vals LL 0 = .func (.func 24) #[] #[] := vL hLe rfl
  have vv1 : vals LL 1 = .slice (some ⟨g, 0, none⟩) len cp := vL hLe rfl
  have vv2 : vals LL 2 = .int .i64 (k : Nat) := vL hLe rfl
  have vv3 : vals LL 3 = .pointer (some ⟨g, k, none⟩) := vL hLe rfl
  have vv4 : vals LL 4 = .pointer (some ⟨x, 0, none⟩) := vL hLe rfl
  have vv5 : vals LL 5 = .agg #[.int .i64 t, .int .i64 n] := vL hLe rfl
  have vv6 : vals LL 6 = .int .i64 z := vL hLe rfl
  have vv7 : vals LL 7 = .bool (decide (z < 0)) := vL hLe rfl
  refine region_laid hmix (by kernel_rfl) 49 hsz (by kernel_rfl) LL (by rw [hLe]; rfl) (fun _ W => Below w9.heap.size w9 W) below9 ?_ ?_
  · intro b W i o a hS hcl ho hb hd ev kp yl
    match i with
    | 0 => simp only [qq] at ho; subst ho; have e2 := (kp 2 (by kernel_rfl)).trans b2; rw [vv0]; exact dV (by simp [execOp, go_sem, e2]) hS
    | 1 => simp only [qq] at ho; subst ho; have e0 := (kp 0 (by kernel_rfl)).trans b0; rw [vv1]; exact dV (by simp [execOp, go_sem, e0]) hS
    | 2 => simp only [qq] at ho; subst ho; have e11 := (kp 11 (by kernel_rfl)).trans b11; rw [vv2]; exact dV (by simp [execOp, go_sem, e11]) hS
    | 3 => simp only [qq] at ho; subst ho; have e25 := eD ev hd 1 25 vv1; have e26 := eD ev hd 2 26 vv2; rw [vv3]; exact dV (by simp [execOp, go_sem, e25, e26, hk]) hS
    | 4 => simp only [qq] at ho; subst ho; have e27 := eD ev hd 3 27 vv3; have d9_0 := (hS.cell (p := ⟨g, k, none⟩) (cell_lt c0)).trans c0; rw [vv4]; exact dV (by simp [execOp, go_sem, e27, d9_0]) hS
    | 5 => simp only [qq] at ho; subst ho; have e4 := (kp 4 (by kernel_rfl)).trans b4; have d0 := (hS.cell (p := ⟨bx, 0, none⟩) (cell_lt x0)).trans x0; have d1 := (hS.cell (p := ⟨bx, 1, none⟩) (cell_lt x1)).trans x1; rw [vv5]; exact dV (by simp [execOp, go_sem, e4, d0, d1]) hS
    | 6 =>
      simp only [qq] at ho; subst ho; have e24 := eD ev hd 0 24 vv0; have e28 := eD ev hd 4 28 vv4; have e29 := eD ev hd 5 29 vv5; rw [vv6]
      refine does_call rfl nofun (f := 24) (args := #[.pointer (some ⟨x, 0, none⟩), .agg #[.int .i64 t, .int .i64 n]]) ?_ ?_
      · simp [go_sem, e24, e28, e29]
      · exact (cK W hS).mono (fun e w' h => ⟨h.1, hS.trans (h.2.mono hS.size)⟩)
    | 7 => simp only [qq] at ho; subst ho; have e30 := eD ev hd 6 30 vv6; rw [vv7]; exact dV (by simp [execOp, go_sem, e30]) hS
    | k + 8 => simp at ho
  · intro b' W hS _
    subst hLe
    exact hQ W hS
set_option maxRecDepth 8000 in
set_option maxHeartbeats 4000000 in
theorem searchS_r8 {Q : Exit → Act → World → Prop} {base : Array Value} {dd : List Deferred} {ops : Array Oper} (hops : Tryz.f23.body.bind (regs 8) = some ops) (g x bx len cp k : Nat) (t n z : Int) (w9 : World) (hsz : base.size = 49) (b0 : base.getD 0 undef = .slice (some ⟨g, 0, none⟩) len cp) (b2 : base.getD 2 undef = .func (.func 24) #[] #[]) (b4 : base.getD 4 undef = .pointer (some ⟨bx, 0, none⟩)) (b8 : base.getD 8 undef = .int .i64 (len : Nat)) (b9 : base.getD 9 undef = .int .i64 (k : Nat)) (hk : k < len) (c0 : w9.cell? ⟨g, k, none⟩ = some (.pointer (some ⟨x, 0, none⟩))) (x0 : w9.cell? ⟨bx, 0, none⟩ = some (.int .i64 t)) (x1 : w9.cell? ⟨bx, 1, none⟩ = some (.int .i64 n)) (cK : ∀ W, Below w9.heap.size w9 W → Calls Tryz.prog 24 #[.pointer (some ⟨x, 0, none⟩), idv t n] W fun e w' => e = .returned (.int .i64 z) ∧ Below W.heap.size W w') (hQ : ∀ W, Below w9.heap.size w9 W → Q .normal ⟨putAll base [(some 35, .int .i64 (k : Nat)), (some 36, .int .i64 (k : Nat)), (some 37, .int .i64 (len : Nat)), (some 38, .bool true), (some 39, .bool true), (some 40, .func (.func 24) #[] #[]), (some 41, .slice (some ⟨g, 0, none⟩) len cp), (some 42, .int .i64 (k : Nat)), (some 43, .pointer (some ⟨g, k, none⟩)), (some 44, .pointer (some ⟨x, 0, none⟩)), (some 45, .agg #[.int .i64 t, .int .i64 n]), (some 46, .int .i64 z), (some 47, .bool (z == 0)), (some 48, .bool (z == 0)), (some 6, .int .i64 (k : Nat)), (some 7, .bool (z == 0))], dd⟩ W) :
    (Code.region 8 ops true).wp Tryz.prog Q ⟨base, dd⟩ w9 := by
  have hmix : Tryz.prog.follows .mixedOrders = true := by kernel_rfl
  have h2 := (show Tryz.f23.body.bind (regs 8) = some _ from rfl).symm.trans hops
  obtain rfl := Option.some.inj h2
  clear h2 hops
  have below9 : Below w9.heap.size w9 w9.drew := (Below.refl _ _).drew
  obtain ⟨LL, hLe⟩ := qL hQ
  have vv0 : vals LL 0 = .int .i64 (k : Nat) := vL hLe rfl
  have vv1 : vals LL 1 = .int .i64 (k : Nat) := vL hLe rfl
  have vv2 : vals LL 2 = .int .i64 (len : Nat) := vL hLe rfl
  have vv3 : vals LL 3 = .bool true := vL hLe rfl
  have vv4 : vals LL 4 = .bool true := vL hLe rfl
  have vv5 : vals LL 5 = .func (.func 24) #[] #[] := vL hLe rfl
  have vv6 : vals LL 6 = .slice (some ⟨g, 0, none⟩) len cp := vL hLe rfl
  have vv7 : vals LL 7 = .int .i64 (k : Nat) := vL hLe rfl
  have vv8 : vals LL 8 = .pointer (some ⟨g, k, none⟩) := vL hLe rfl
  have vv9 : vals LL 9 = .pointer (some ⟨x, 0, none⟩) := vL hLe rfl
  have vv10 : vals LL 10 = .agg #[.int .i64 t, .int .i64 n] := vL hLe rfl
  have vv11 : vals LL 11 = .int .i64 z := vL hLe rfl
  have vv12 : vals LL 12 = .bool (z == 0) := vL hLe rfl
  have vv13 : vals LL 13 = .bool (z == 0) := vL hLe rfl
  have vv14 : vals LL 14 = .int .i64 (k : Nat) := vL hLe rfl
  have vv15 : vals LL 15 = .bool (z == 0) := vL hLe rfl
  refine region_laid hmix (by kernel_rfl) 49 hsz (by kernel_rfl) LL (by rw [hLe]; rfl) (fun _ W => Below w9.heap.size w9 W) below9 ?_ ?_
  · intro b W i o a hS hcl ho hb hd ev kp yl
    match i with
    | 0 => simp only [qq] at ho; subst ho; have e9 := (kp 9 (by kernel_rfl)).trans b9; rw [vv0]; exact dV (by simp [execOp, go_sem, e9]) hS
    | 1 => simp only [qq] at ho; subst ho; have e9 := (kp 9 (by kernel_rfl)).trans b9; rw [vv1]; exact dV (by simp [execOp, go_sem, e9]) hS
    | 2 => simp only [qq] at ho; subst ho; have e8 := (kp 8 (by kernel_rfl)).trans b8; rw [vv2]; exact dV (by simp [execOp, go_sem, e8]) hS
    | 3 => simp only [qq] at ho; subst ho; have e36 := eD ev hd 1 36 vv1; have e37 := eD ev hd 2 37 vv2; rw [vv3]; exact dV (by simp [execOp, go_sem, e36, e37, hk]) hS
    | 4 => simp only [qq] at ho; subst ho; have e38 := eD ev hd 3 38 vv3; rw [vv4]; exact dV (by simp [execOp, go_sem, e38]) hS
    | 5 => simp only [qq] at ho; subst ho; have e2 := (kp 2 (by kernel_rfl)).trans b2; rw [vv5]; exact dG (yl 4 39 true rfl (hG hd 4) vv4) (by simp [execOp, go_sem, e2]) hS
    | 6 => simp only [qq] at ho; subst ho; have e0 := (kp 0 (by kernel_rfl)).trans b0; rw [vv6]; exact dG (yl 4 39 true rfl (hG hd 4) vv4) (by simp [execOp, go_sem, e0]) hS
    | 7 => simp only [qq] at ho; subst ho; have e9 := (kp 9 (by kernel_rfl)).trans b9; rw [vv7]; exact dG (yl 4 39 true rfl (hG hd 4) vv4) (by simp [execOp, go_sem, e9]) hS
    | 8 => simp only [qq] at ho; subst ho; have e41 := eD ev hd 6 41 vv6; have e42 := eD ev hd 7 42 vv7; rw [vv8]; exact dG (yl 4 39 true rfl (hG hd 4) vv4) (by simp [execOp, go_sem, e41, e42, hk]) hS
    | 9 => simp only [qq] at ho; subst ho; have e43 := eD ev hd 8 43 vv8; have d9_0 := (hS.cell (p := ⟨g, k, none⟩) (cell_lt c0)).trans c0; rw [vv9]; exact dG (yl 4 39 true rfl (hG hd 4) vv4) (by simp [execOp, go_sem, e43, d9_0]) hS
    | 10 => simp only [qq] at ho; subst ho; have e4 := (kp 4 (by kernel_rfl)).trans b4; have d0 := (hS.cell (p := ⟨bx, 0, none⟩) (cell_lt x0)).trans x0; have d1 := (hS.cell (p := ⟨bx, 1, none⟩) (cell_lt x1)).trans x1; rw [vv10]; exact dG (yl 4 39 true rfl (hG hd 4) vv4) (by simp [execOp, go_sem, e4, d0, d1]) hS
    | 11 =>
      simp only [qq] at ho; subst ho; have e40 := eD ev hd 5 40 vv5; have e44 := eD ev hd 9 44 vv9; have e45 := eD ev hd 10 45 vv10; rw [vv11]
      refine does_call_g rfl (yl 4 39 true rfl (hG hd 4) vv4) nofun (f := 24) (args := #[.pointer (some ⟨x, 0, none⟩), .agg #[.int .i64 t, .int .i64 n]]) ?_ ?_
      · simp [go_sem, e40, e44, e45]
      · exact (cK W hS).mono (fun e w' h => ⟨h.1, hS.trans (h.2.mono hS.size)⟩)
    | 12 => simp only [qq] at ho; subst ho; have e46 := eD ev hd 11 46 vv11; rw [vv12]; exact dG (yl 4 39 true rfl (hG hd 4) vv4) (by simp [execOp, go_sem, e46]) hS
    | 13 => simp only [qq] at ho; subst ho; have e39 := eD ev hd 4 39 vv4; have e47 := eD ev hd 12 47 vv12; rw [vv13]; exact dV (by simp [execOp, go_sem, e39, e47]) hS
    | 14 => simp only [qq] at ho; subst ho; have e35 := eD ev hd 0 35 vv0; rw [vv14]; exact dV (by simp [execOp, go_sem, e35]) hS
    | 15 => simp only [qq] at ho; subst ho; have e48 := eD ev hd 13 48 vv13; rw [vv15]; exact dV (by simp [execOp, go_sem, e48]) hS
    | k + 16 => simp at ho
  · intro b' W hS _
    subst hLe
    exact hQ W hS
set_option maxRecDepth 8000 in
set_option maxHeartbeats 4000000 in
theorem searchS_r8no {Q : Exit → Act → World → Prop} {base : Array Value} {dd : List Deferred} {ops : Array Oper} (hops : Tryz.f23.body.bind (regs 8) = some ops) (len : Nat) (w9 : World) (hsz : base.size = 49) (b8 : base.getD 8 undef = .int .i64 (len : Nat)) (b9 : base.getD 9 undef = .int .i64 (len : Nat)) (hQ : ∀ W, Below w9.heap.size w9 W → Q .normal ⟨putAll base [(some 35, .int .i64 (len : Nat)), (some 36, .int .i64 (len : Nat)), (some 37, .int .i64 (len : Nat)), (some 38, .bool false), (some 39, .bool false), (some 40, undef), (some 41, undef), (some 42, undef), (some 43, undef), (some 44, undef), (some 45, undef), (some 46, undef), (some 47, undef), (some 48, .bool false), (some 6, .int .i64 (len : Nat)), (some 7, .bool false)], dd⟩ W) :
    (Code.region 8 ops true).wp Tryz.prog Q ⟨base, dd⟩ w9 := by
  have hmix : Tryz.prog.follows .mixedOrders = true := by kernel_rfl
  have h2 := (show Tryz.f23.body.bind (regs 8) = some _ from rfl).symm.trans hops
  obtain rfl := Option.some.inj h2
  clear h2 hops
  have below9 : Below w9.heap.size w9 w9.drew := (Below.refl _ _).drew
  obtain ⟨LL, hLe⟩ := qL hQ
  have vv0 : vals LL 0 = .int .i64 (len : Nat) := vL hLe rfl
  have vv1 : vals LL 1 = .int .i64 (len : Nat) := vL hLe rfl
  have vv2 : vals LL 2 = .int .i64 (len : Nat) := vL hLe rfl
  have vv3 : vals LL 3 = .bool false := vL hLe rfl
  have vv4 : vals LL 4 = .bool false := vL hLe rfl
  have vv13 : vals LL 13 = .bool false := vL hLe rfl
  have vv14 : vals LL 14 = .int .i64 (len : Nat) := vL hLe rfl
  have vv15 : vals LL 15 = .bool false := vL hLe rfl
  refine region_laid hmix (by kernel_rfl) 49 hsz (by kernel_rfl) LL (by rw [hLe]; rfl) (fun _ W => Below w9.heap.size w9 W) below9 ?_ ?_
  · intro b W i o a hS hcl ho hb hd ev kp yl
    match i with
    | 0 => simp only [qq] at ho; subst ho; have e9 := (kp 9 (by kernel_rfl)).trans b9; rw [vv0]; exact dV (by simp [execOp, go_sem, e9]) hS
    | 1 => simp only [qq] at ho; subst ho; have e9 := (kp 9 (by kernel_rfl)).trans b9; rw [vv1]; exact dV (by simp [execOp, go_sem, e9]) hS
    | 2 => simp only [qq] at ho; subst ho; have e8 := (kp 8 (by kernel_rfl)).trans b8; rw [vv2]; exact dV (by simp [execOp, go_sem, e8]) hS
    | 3 => simp only [qq] at ho; subst ho; have e36 := eD ev hd 1 36 vv1; have e37 := eD ev hd 2 37 vv2; rw [vv3]; exact dV (by simp [execOp, go_sem, e36, e37]) hS
    | 4 => simp only [qq] at ho; subst ho; have e38 := eD ev hd 3 38 vv3; rw [vv4]; exact dV (by simp [execOp, go_sem, e38]) hS
    | 5 => simp only [qq] at ho; subst ho; exact does_pass rfl (yl 4 39 false rfl (hG hd 4) vv4) (by decide) (vL hLe rfl) (hS)
    | 6 => simp only [qq] at ho; subst ho; exact does_pass rfl (yl 4 39 false rfl (hG hd 4) vv4) (by decide) (vL hLe rfl) (hS)
    | 7 => simp only [qq] at ho; subst ho; exact does_pass rfl (yl 4 39 false rfl (hG hd 4) vv4) (by decide) (vL hLe rfl) (hS)
    | 8 => simp only [qq] at ho; subst ho; exact does_pass rfl (yl 4 39 false rfl (hG hd 4) vv4) (by decide) (vL hLe rfl) (hS)
    | 9 => simp only [qq] at ho; subst ho; exact does_pass rfl (yl 4 39 false rfl (hG hd 4) vv4) (by decide) (vL hLe rfl) (hS)
    | 10 => simp only [qq] at ho; subst ho; exact does_pass rfl (yl 4 39 false rfl (hG hd 4) vv4) (by decide) (vL hLe rfl) (hS)
    | 11 => simp only [qq] at ho; subst ho; exact does_pass rfl (yl 4 39 false rfl (hG hd 4) vv4) (by decide) (vL hLe rfl) (hS)
    | 12 => simp only [qq] at ho; subst ho; exact does_pass rfl (yl 4 39 false rfl (hG hd 4) vv4) (by decide) (vL hLe rfl) (hS)
    | 13 => simp only [qq] at ho; subst ho; have e39 := eD ev hd 4 39 vv4; rw [vv13]; exact dV (by simp [execOp, go_sem, e39]) hS
    | 14 => simp only [qq] at ho; subst ho; have e35 := eD ev hd 0 35 vv0; rw [vv14]; exact dV (by simp [execOp, go_sem, e35]) hS
    | 15 => simp only [qq] at ho; subst ho; have e48 := eD ev hd 13 48 vv13; rw [vv15]; exact dV (by simp [execOp, go_sem, e48]) hS
    | k + 16 => simp at ho
  · intro b' W hS _
    subst hLe
    exact hQ W hS
theorem byS_any (b : Nat) (t n t' n' : Int) (w : World) (h0 : w.cell? ⟨b, 0, none⟩ = some (.int .i64 t)) (h1 : w.cell? ⟨b, 1, none⟩ = some (.int .i64 n)) :
    Calls Tryz.prog 24 #[pv b, idv t' n'] w fun e w' => e = .returned (.int .i64 (cmpZ t n t' n')) ∧ Below w.heap.size w w' := by
  have hb1 : Below w.heap.size w (w.alloc (.cells #[.int .i64 t', .int .i64 n'] 29)) := (Below.refl _ w).alloc (Nat.le_refl _) _
  have c0 : (w.alloc (.cells #[.int .i64 t', .int .i64 n'] 29)).cell? ⟨b, 0, none⟩ = some (.int .i64 t) := (hb1.cell (p := ⟨b, 0, none⟩) (cell_lt h0)).trans h0
  have c1 : (w.alloc (.cells #[.int .i64 t', .int .i64 n'] 29)).cell? ⟨b, 1, none⟩ = some (.int .i64 n) := (hb1.cell (p := ⟨b, 1, none⟩) (cell_lt h1)).trans h1
  have hlt : b < w.heap.size := cell_lt h0
  have c := fun W => cmp_any t n t' n' W
  have HB : Hid (Below w.heap.size w (w.alloc (.cells #[.int .i64 t', .int .i64 n'] 29))) := hb1
  clear hb1
  unfold pv
  have x0 : (w.alloc (.cells #[.int .i64 t', .int .i64 n'] 29)).cell? ⟨w.heap.size, 0, none⟩ = some (.int .i64 t') := cellOf (heap_alloc_new w _) 0
  have x1 : (w.alloc (.cells #[.int .i64 t', .int .i64 n'] 29)).cell? ⟨w.heap.size, 1, none⟩ = some (.int .i64 n') := cellOf (heap_alloc_new w _) 1
  have HC : Hid ((w.alloc (.cells #[.int .i64 t', .int .i64 n'] 29)).cell? ⟨b, 0, none⟩ = some (.int .i64 t) ∧ (w.alloc (.cells #[.int .i64 t', .int .i64 n'] 29)).cell? ⟨b, 1, none⟩ = some (.int .i64 n) ∧ (w.alloc (.cells #[.int .i64 t', .int .i64 n'] 29)).cell? ⟨w.heap.size, 0, none⟩ = some (.int .i64 t') ∧ (w.alloc (.cells #[.int .i64 t', .int .i64 n'] 29)).cell? ⟨w.heap.size, 1, none⟩ = some (.int .i64 n')) := ⟨c0, c1, x0, x1⟩
  clear c0 c1 x0 x1 h0 h1
  go_enter Tryz.func24, Tryz.ntmps24
  go_wp2_with fail
  refine byS_reg (by kernel_rfl) b w.heap.size t n t' n' _ rfl rfl rfl HC.out.1 HC.out.2.1 HC.out.2.2.1 HC.out.2.2.2 (fun W _ => c W) ?_
  intro W hS
  have HS : Hid (Below (w.alloc (.cells #[.int .i64 t', .int .i64 n'] 29)).heap.size (w.alloc (.cells #[.int .i64 t', .int .i64 n'] 29)) W) := hS
  clear hS
  simp only [putAll, sA, sB, sC]
  go_wp2_with fail
  go_ret
  exact ⟨rfl, HB.out.trans (HS.out.mono HB.out.size)⟩
set_option maxRecDepth 8000 in
set_option maxHeartbeats 4000000 in
theorem searchS_any (g cp : Nat) (L : List Nat) (ky : Nat → PI) (t n : Int) (i0 : Nat) (r0 : Bool) (hat : AtK L ky (t, n) i0 r0) (w : World) (p : Option Addr) (hp : 0 < L.length → p = some ⟨g, 0, none⟩) (hs : L.Pairwise fun a b => lessP (ky a) (ky b)) (hl : L.length ≤ 1001) (hlc : L.length ≤ cp) (hc : ∀ (i x : Nat), L[i]? = some x → w.cell? ⟨g, i, none⟩ = some (pv x)) (hk : ∀ x ∈ L, w.cell? ⟨x, 0, none⟩ = some (.int .i64 (ky x).1) ∧ w.cell? ⟨x, 1, none⟩ = some (.int .i64 (ky x).2)) :
    Calls Tryz.prog 23 #[.slice p L.length cp, idv t n, .func (.func 24) #[] #[]] w fun e w' => e = .returned (.tuple #[.int .i64 (i0 : Nat), .bool r0]) ∧ Below w.heap.size w w' := by
  obtain ⟨len, hn⟩ : ∃ len, len = L.length := ⟨_, rfl⟩
  have HN : Hid (len = L.length) := hn
  have HC : Hid (∀ (W : World), Below w.heap.size w W → ∀ (i x : Nat), L[i]? = some x → W.cell? ⟨g, i, none⟩ = some (.pointer (some ⟨x, 0, none⟩)) ∧ W.cell? ⟨x, 0, none⟩ = some (.int .i64 (ky x).1) ∧ W.cell? ⟨x, 1, none⟩ = some (.int .i64 (ky x).2)) := fun W hb i x hx => by
    have h0 := hc i x hx
    obtain ⟨h1, h2⟩ := hk x (List.mem_of_getElem? hx)
    exact ⟨(hb.cell (p := ⟨g, i, none⟩) (cell_lt h0)).trans h0, (hb.cell (p := ⟨x, 0, none⟩) (cell_lt h1)).trans h1, (hb.cell (p := ⟨x, 1, none⟩) (cell_lt h2)).trans h2⟩
  have HP : Hid (0 < L.length → p = some ⟨g, 0, none⟩) := hp
  have HA : Hid (AtK L ky (t, n) i0 r0) := hat
  clear hat
  have HS : Hid (L.Pairwise fun a b => lessP (ky a) (ky b)) := hs
  rw [← hn] at hl hlc
  rw [← hn]
  clear hn hc hp hs hk
  obtain ⟨wb, hwb⟩ : ∃ wb, wb = w.alloc (.cells #[.int .i64 t, .int .i64 n] 29) := ⟨_, rfl⟩
  have HB0 : Hid (Below w.heap.size w wb) := by rw [hwb]; exact (Below.refl _ w).alloc (Nat.le_refl _) _
  have HT : Hid (wb.cell? ⟨w.heap.size, 0, none⟩ = some (.int .i64 t) ∧ wb.cell? ⟨w.heap.size, 1, none⟩ = some (.int .i64 n)) := by
    rw [hwb]; exact ⟨cellOf (heap_alloc_new w _) 0, cellOf (heap_alloc_new w _) 1⟩
  go_enter Tryz.func23, Tryz.ntmps23
  go_wp2_with fail
  rw [← hwb]
  clear hwb
  go_loopw [9, 10] (fun ii jj wr => ∃ i j : Nat, i ≤ j ∧ j ≤ len ∧ ii = .int .i64 i ∧ jj = .int .i64 j ∧ Hid (Below wb.heap.size wb wr ∧ (∀ k x, k < i → L[k]? = some x → lessP (ky x) (t, n)) ∧ (∀ k x, j ≤ k → L[k]? = some x → ¬ lessP (ky x) (t, n)))) (fun ii jj _ => (intOf jj).toNat - (intOf ii).toNat)
  case atStart => exact ⟨0, len, by omega, by omega, rfl, rfl, Below.refl _ _, (fun k x hk => by omega), (fun k x hk hx => by have := (List.getElem?_eq_some_iff.1 hx).1; rw [← HN.out] at this; omega)⟩
  case round =>
    obtain ⟨i, j, hij, hjn, rfl, rfl, HI⟩ := hrel
    have hBr : Below w.heap.size w wr := HB0.out.trans (HI.out.1.mono HB0.out.size)
    have t0 : wr.cell? ⟨w.heap.size, 0, none⟩ = some (.int .i64 t) := (HI.out.1.cell (p := ⟨w.heap.size, 0, none⟩) (cell_lt HT.out.1)).trans HT.out.1
    have t1 : wr.cell? ⟨w.heap.size, 1, none⟩ = some (.int .i64 n) := (HI.out.1.cell (p := ⟨w.heap.size, 1, none⟩) (cell_lt HT.out.1)).trans HT.out.2
    have HBr : Hid (Below w.heap.size w wr) := hBr
    clear hBr
    by_cases hlt : i < j
    · have hltI : (i : Int) < j := by omega
      obtain ⟨h, hh⟩ : ∃ h, (i + j) / 2 = h := ⟨_, rfl⟩
      have hhI : ((i : Int) + (j : Int)) / 2 = (h : Nat) := by omega
      have hhn : h < len := by omega
      have hhnI : (h : Int) < len := by omega
      obtain ⟨x, hx⟩ : ∃ x, L[h]? = some x := ⟨_, List.getElem?_eq_getElem (by rw [← HN.out]; exact hhn)⟩
      obtain rfl : p = some ⟨g, 0, none⟩ := HP.out (by rw [← HN.out]; omega)
      obtain ⟨c0, k0, k1⟩ := HC.out wr HBr.out h x hx
      have cF : ∀ W, Below wr.heap.size wr W → _ := fun W hW => byS_any x (ky x).1 (ky x).2 t n W ((hW.cell (p := ⟨x, 0, none⟩) (cell_lt k0)).trans k0) ((hW.cell (p := ⟨x, 1, none⟩) (cell_lt k1)).trans k1)
      have HCC : Hid (wr.cell? ⟨g, h, none⟩ = some (.pointer (some ⟨x, 0, none⟩)) ∧ wr.cell? ⟨w.heap.size, 0, none⟩ = some (.int .i64 t) ∧ wr.cell? ⟨w.heap.size, 1, none⟩ = some (.int .i64 n)) := ⟨c0, t0, t1⟩
      have HX : Hid (L[h]? = some x ∧ (i + j) / 2 = h) := ⟨hx, hh⟩
      obtain ⟨z, hz⟩ : ∃ z, cmpZ (ky x).1 (ky x).2 t n = z := ⟨_, rfl⟩
      have HZ : Hid (decide (z < 0) = lessB (ky x).1 (ky x).2 t n) := by show _ = _; rw [← hz]; exact less_cmp _ _ _ _
      rw [hz] at cF
      unfold pv at cF
      clear hx hh hz k0 k1 c0 t0 t1
      by_cases hz0 : z < 0
      · have HL : Hid (lessP (ky x) (t, n)) := by
          have := HZ.out
          rw [decide_eq_true hz0] at this
          exact this.symm
        go_wp2_with fail
        refine searchS_r5 (by kernel_rfl) g x w.heap.size len cp h t n z _ rfl rfl rfl rfl rfl hhn HCC.out.1 HCC.out.2.1 HCC.out.2.2 cF ?_
        intro w1 hb1
        have HB : Hid (Below wr.heap.size wr w1) := hb1
        clear hb1
        simp only [putAll, sA, sB, sC]
        go_wp2_with fail
        go_roundw
        case rel => exact ⟨h + 1, j, by omega, by omega, by go_num, rfl, HI.out.1.trans (HB.out.mono HI.out.1.size), (fun k y hk hy => by
            by_cases e : k = h
            · subst e; rw [HX.out.1] at hy; cases hy; exact HL.out
            · have h1 := List.pairwise_iff_getElem.1 HS.out k h (List.getElem?_eq_some_iff.1 hy).1 (List.getElem?_eq_some_iff.1 HX.out.1).1 (by omega)
              rw [(List.getElem?_eq_some_iff.1 hy).2, (List.getElem?_eq_some_iff.1 HX.out.1).2] at h1
              exact lessP_trans h1 HL.out), HI.out.2.2⟩
        case measure => simp [intOf]; omega
      · have HL : Hid (¬ lessP (ky x) (t, n)) := by
          have := HZ.out
          rw [decide_eq_false hz0] at this
          intro hp
          unfold lessP at hp
          rw [hp] at this
          cases this
        go_wp2_with fail
        refine searchS_r5 (by kernel_rfl) g x w.heap.size len cp h t n z _ rfl rfl rfl rfl rfl hhn HCC.out.1 HCC.out.2.1 HCC.out.2.2 cF ?_
        intro w1 hb1
        have HB : Hid (Below wr.heap.size wr w1) := hb1
        clear hb1
        simp only [putAll, sA, sB, sC]
        go_wp2_with fail
        go_roundw
        case rel => exact ⟨i, h, by omega, by omega, rfl, rfl, HI.out.1.trans (HB.out.mono HI.out.1.size), HI.out.2.1, (fun k y hk hy => by
            by_cases e : k = h
            · subst e; rw [HX.out.1] at hy; cases hy; exact HL.out
            · have h1 := List.pairwise_iff_getElem.1 HS.out h k (List.getElem?_eq_some_iff.1 HX.out.1).1 (List.getElem?_eq_some_iff.1 hy).1 (by omega)
              rw [(List.getElem?_eq_some_iff.1 hy).2, (List.getElem?_eq_some_iff.1 HX.out.1).2] at h1
              exact fun e2 => HL.out (lessP_trans h1 e2))⟩
        case measure => simp [intOf]; omega
    · obtain rfl : i = j := by omega
      have hge : ¬ (i : Int) < i := by omega
      by_cases hin : i < len
      · have hinI : (i : Int) < len := by omega
        obtain ⟨x, hx⟩ : ∃ x, L[i]? = some x := ⟨_, List.getElem?_eq_getElem (by rw [← HN.out]; exact hin)⟩
        obtain rfl : p = some ⟨g, 0, none⟩ := HP.out (by rw [← HN.out]; omega)
        obtain ⟨c0, k0, k1⟩ := HC.out wr HBr.out i x hx
        have cF : ∀ W, Below wr.heap.size wr W → _ := fun W hW => byS_any x (ky x).1 (ky x).2 t n W ((hW.cell (p := ⟨x, 0, none⟩) (cell_lt k0)).trans k0) ((hW.cell (p := ⟨x, 1, none⟩) (cell_lt k1)).trans k1)
        have HCC : Hid (wr.cell? ⟨g, i, none⟩ = some (.pointer (some ⟨x, 0, none⟩)) ∧ wr.cell? ⟨w.heap.size, 0, none⟩ = some (.int .i64 t) ∧ wr.cell? ⟨w.heap.size, 1, none⟩ = some (.int .i64 n)) := ⟨c0, t0, t1⟩
        obtain ⟨z, hz⟩ : ∃ z, cmpZ (ky x).1 (ky x).2 t n = z := ⟨_, rfl⟩
        have HR : Hid (AtK L ky (t, n) i (z == 0)) := by
          refine ⟨by rw [← HN.out]; omega, HI.out.2.1, HI.out.2.2, ?_⟩
          rw [beq_iff_eq, ← hz]
          constructor
          · intro e
            refine ⟨x, hx, ?_⟩
            have h1 := less_cmp (ky x).1 (ky x).2 t n
            have := cmpZ_zero e
            exact Prod.ext this.1 this.2
          · rintro ⟨y, hy, e⟩
            rw [hx] at hy; cases hy
            rw [e]
            exact cmpZ_same (by simp [lessB]) (by simp [lessB])
        rw [hz] at cF
        unfold pv at cF
        clear hx hz k0 k1 c0 t0 t1
        go_wp2_with fail
        refine searchS_r8 (by kernel_rfl) g x w.heap.size len cp i t n z _ rfl rfl rfl rfl rfl rfl hin HCC.out.1 HCC.out.2.1 HCC.out.2.2 cF ?_
        intro w1 hb1
        have HB : Hid (Below wr.heap.size wr w1) := hb1
        clear hb1
        simp only [putAll, sA, sB, sC]
        obtain ⟨e1, e2⟩ := HR.out.unique HA.out
        go_wp2_with fail
        go_ret2
        refine ⟨?_, HBr.out.trans (HB.out.mono HBr.out.size)⟩
        rw [← e1, ← e2]
        rfl
      · obtain rfl : i = len := by omega
        have HR : Hid (AtK L ky (t, n) i false) := by
          refine ⟨by rw [← HN.out]; omega, HI.out.2.1, HI.out.2.2, ?_⟩
          constructor
          · intro h; cases h
          · rintro ⟨y, hy, e⟩
            have := (List.getElem?_eq_some_iff.1 hy).1
            rw [← HN.out] at this; omega
        go_wp2_with fail
        refine searchS_r8no (by kernel_rfl) i _ rfl rfl rfl ?_
        intro w1 hb1
        have HB : Hid (Below wr.heap.size wr w1) := hb1
        clear hb1
        simp only [putAll, sA, sB, sC]
        obtain ⟨e1, e2⟩ := HR.out.unique HA.out
        go_wp2_with fail
        go_ret2
        refine ⟨?_, HBr.out.trans (HB.out.mono HBr.out.size)⟩
        rw [← e1, ← e2]
        rfl
set_option maxRecDepth 8000 in
set_option maxHeartbeats 4000000 in
theorem byO_reg {Q : Exit → Act → World → Prop} {base : Array Value} {dd : List Deferred} {ops : Array Oper} (hops : Tryz.f102.body.bind (regs 1) = some ops) (bb bx : Nat) (t n t' n' : Int) (w9 : World) (hsz : base.size = 11) (b0 : base.getD 0 undef = .pointer (some ⟨bb, 0, none⟩)) (b3 : base.getD 3 undef = .pointer (some ⟨bx, 0, none⟩)) (h0 : w9.cell? ⟨bb, 2, none⟩ = some (.int .i64 t)) (h1 : w9.cell? ⟨bb, 3, none⟩ = some (.int .i64 n)) (x0 : w9.cell? ⟨bx, 0, none⟩ = some (.int .i64 t')) (x1 : w9.cell? ⟨bx, 1, none⟩ = some (.int .i64 n')) (cK : ∀ W, Below w9.heap.size w9 W → Calls Tryz.prog 51 #[idv t n, idv t' n'] W fun e w' => e = .returned (.int .i64 (cmpZ t n t' n')) ∧ Below W.heap.size W w') (hQ : ∀ W, Below w9.heap.size w9 W → Q .normal ⟨putAll base [(some 5, .pointer (some ⟨bb, 0, none⟩)), (some 6, .pointer (some ⟨bb, 0, none⟩)), (some 7, .pointer (some ⟨bb, 2, none⟩)), (some 8, .agg #[.int .i64 t, .int .i64 n]), (some 9, .agg #[.int .i64 t', .int .i64 n']), (some 10, .int .i64 (cmpZ t n t' n')), (some 4, .int .i64 (cmpZ t n t' n'))], dd⟩ W) :
    (Code.region 1 ops true).wp Tryz.prog Q ⟨base, dd⟩ w9 := by
  have hmix : Tryz.prog.follows .mixedOrders = true := by kernel_rfl
  have h2 := (show Tryz.f102.body.bind (regs 1) = some _ from rfl).symm.trans hops
  obtain rfl := Option.some.inj h2
  clear h2 hops
  have below9 : Below w9.heap.size w9 w9.drew := (Below.refl _ _).drew
  obtain ⟨LL, hLe⟩ := qL hQ
  have vv0 : vals LL 0 = .pointer (some ⟨bb, 0, none⟩) := vL hLe rfl
  have vv1 : vals LL 1 = .pointer (some ⟨bb, 0, none⟩) := vL hLe rfl
  have vv2 : vals LL 2 = .pointer (some ⟨bb, 2, none⟩) := vL hLe rfl
  have vv3 : vals LL 3 = .agg #[.int .i64 t, .int .i64 n] := vL hLe rfl
  have vv4 : vals LL 4 = .agg #[.int .i64 t', .int .i64 n'] := vL hLe rfl
  have vv5 : vals LL 5 = .int .i64 (cmpZ t n t' n') := vL hLe rfl
  have vv6 : vals LL 6 = .int .i64 (cmpZ t n t' n') := vL hLe rfl
  refine region_laid hmix (by kernel_rfl) 11 hsz (by kernel_rfl) LL (by rw [hLe]; rfl) (fun _ W => Below w9.heap.size w9 W) below9 ?_ ?_
  · intro b W i o a hS hcl ho hb hd ev kp yl
    match i with
    | 0 => simp only [qq] at ho; subst ho; have e0 := (kp 0 (by kernel_rfl)).trans b0; rw [vv0]; exact dV (by simp [execOp, go_sem, e0]) hS
    | 1 => simp only [qq] at ho; subst ho; have e5 := eD ev hd 0 5 vv0; rw [vv1]; exact dV (by simp [execOp, go_sem, e5]) hS
    | 2 => simp only [qq] at ho; subst ho; have e6 := eD ev hd 1 6 vv1; rw [vv2]; exact dV (by simp [execOp, go_sem, e6]) hS
    | 3 => simp only [qq] at ho; subst ho; have e7 := eD ev hd 2 7 vv2; have d2 := (hS.cell (p := ⟨bb, 2, none⟩) (cell_lt h0)).trans h0; have d3 := (hS.cell (p := ⟨bb, 3, none⟩) (cell_lt h1)).trans h1; rw [vv3]; exact dV (by simp [execOp, go_sem, e7, d2, d3]) hS
    | 4 => simp only [qq] at ho; subst ho; have e3 := (kp 3 (by kernel_rfl)).trans b3; have d0 := (hS.cell (p := ⟨bx, 0, none⟩) (cell_lt x0)).trans x0; have d1 := (hS.cell (p := ⟨bx, 1, none⟩) (cell_lt x1)).trans x1; rw [vv4]; exact dV (by simp [execOp, go_sem, e3, d0, d1]) hS
    | 5 =>
      simp only [qq] at ho; subst ho; have e8 := eD ev hd 3 8 vv3; have e9 := eD ev hd 4 9 vv4; rw [vv5]
      refine does_call rfl nofun (f := 51) (args := #[.agg #[.int .i64 t, .int .i64 n], .agg #[.int .i64 t', .int .i64 n']]) ?_ ?_
      · simp [go_sem, e8, e9]
      · exact (cK W hS).mono (fun e w' h => ⟨h.1, hS.trans (h.2.mono hS.size)⟩)
    | 6 => simp only [qq] at ho; subst ho; have e10 := eD ev hd 5 10 vv5; rw [vv6]; exact dV (by simp [execOp, go_sem, e10]) hS
    | k + 7 => simp at ho
  · intro b' W hS _
    subst hLe
    exact hQ W hS
set_option maxRecDepth 8000 in
set_option maxHeartbeats 4000000 in
theorem searchO_r5 {Q : Exit → Act → World → Prop} {base : Array Value} {dd : List Deferred} {ops : Array Oper} (hops : Tryz.f101.body.bind (regs 5) = some ops) (g x bx len cp k : Nat) (t n z : Int) (w9 : World) (hsz : base.size = 49) (b0 : base.getD 0 undef = .slice (some ⟨g, 0, none⟩) len cp) (b2 : base.getD 2 undef = .func (.func 102) #[] #[]) (b4 : base.getD 4 undef = .pointer (some ⟨bx, 0, none⟩)) (b11 : base.getD 11 undef = .int .i64 (k : Nat)) (hk : k < len) (c0 : w9.cell? ⟨g, k, none⟩ = some (.pointer (some ⟨x, 0, none⟩))) (x0 : w9.cell? ⟨bx, 0, none⟩ = some (.int .i64 t)) (x1 : w9.cell? ⟨bx, 1, none⟩ = some (.int .i64 n)) (cK : ∀ W, Below w9.heap.size w9 W → Calls Tryz.prog 102 #[.pointer (some ⟨x, 0, none⟩), idv t n] W fun e w' => e = .returned (.int .i64 z) ∧ Below W.heap.size W w') (hQ : ∀ W, Below w9.heap.size w9 W → Q .normal ⟨putAll base [(some 24, .func (.func 102) #[] #[]), (some 25, .slice (some ⟨g, 0, none⟩) len cp), (some 26, .int .i64 (k : Nat)), (some 27, .pointer (some ⟨g, k, none⟩)), (some 28, .pointer (some ⟨x, 0, none⟩)), (some 29, .agg #[.int .i64 t, .int .i64 n]), (some 30, .int .i64 z), (some 31, .bool (decide (z < 0)))], dd⟩ W) :
    (Code.region 5 ops true).wp Tryz.prog Q ⟨base, dd⟩ w9 := by
  have hmix : Tryz.prog.follows .mixedOrders = true := by kernel_rfl
  have h2 := (show Tryz.f101.body.bind (regs 5) = some _ from rfl).symm.trans hops
  obtain rfl := Option.some.inj h2
  clear h2 hops
  have below9 : Below w9.heap.size w9 w9.drew := (Below.refl _ _).drew
  obtain ⟨LL, hLe⟩ := qL hQ
  have vv0 : vals LL 0 = .func (.func 102) #[] #[] := vL hLe rfl
  have vv1 : vals LL 1 = .slice (some ⟨g, 0, none⟩) len cp := vL hLe rfl
  have vv2 : vals LL 2 = .int .i64 (k : Nat) := vL hLe rfl
  have vv3 : vals LL 3 = .pointer (some ⟨g, k, none⟩) := vL hLe rfl
  have vv4 : vals LL 4 = .pointer (some ⟨x, 0, none⟩) := vL hLe rfl
  have vv5 : vals LL 5 = .agg #[.int .i64 t, .int .i64 n] := vL hLe rfl
  have vv6 : vals LL 6 = .int .i64 z := vL hLe rfl
  have vv7 : vals LL 7 = .bool (decide (z < 0)) := vL hLe rfl
  refine region_laid hmix (by kernel_rfl) 49 hsz (by kernel_rfl) LL (by rw [hLe]; rfl) (fun _ W => Below w9.heap.size w9 W) below9 ?_ ?_
  · intro b W i o a hS hcl ho hb hd ev kp yl
    match i with
    | 0 => simp only [qq] at ho; subst ho; have e2 := (kp 2 (by kernel_rfl)).trans b2; rw [vv0]; exact dV (by simp [execOp, go_sem, e2]) hS
    | 1 => simp only [qq] at ho; subst ho; have e0 := (kp 0 (by kernel_rfl)).trans b0; rw [vv1]; exact dV (by simp [execOp, go_sem, e0]) hS
    | 2 => simp only [qq] at ho; subst ho; have e11 := (kp 11 (by kernel_rfl)).trans b11; rw [vv2]; exact dV (by simp [execOp, go_sem, e11]) hS
    | 3 => simp only [qq] at ho; subst ho; have e25 := eD ev hd 1 25 vv1; have e26 := eD ev hd 2 26 vv2; rw [vv3]; exact dV (by simp [execOp, go_sem, e25, e26, hk]) hS
    | 4 => simp only [qq] at ho; subst ho; have e27 := eD ev hd 3 27 vv3; have d9_0 := (hS.cell (p := ⟨g, k, none⟩) (cell_lt c0)).trans c0; rw [vv4]; exact dV (by simp [execOp, go_sem, e27, d9_0]) hS
    | 5 => simp only [qq] at ho; subst ho; have e4 := (kp 4 (by kernel_rfl)).trans b4; have d0 := (hS.cell (p := ⟨bx, 0, none⟩) (cell_lt x0)).trans x0; have d1 := (hS.cell (p := ⟨bx, 1, none⟩) (cell_lt x1)).trans x1; rw [vv5]; exact dV (by simp [execOp, go_sem, e4, d0, d1]) hS
    | 6 =>
      simp only [qq] at ho; subst ho; have e24 := eD ev hd 0 24 vv0; have e28 := eD ev hd 4 28 vv4; have e29 := eD ev hd 5 29 vv5; rw [vv6]
      refine does_call rfl nofun (f := 102) (args := #[.pointer (some ⟨x, 0, none⟩), .agg #[.int .i64 t, .int .i64 n]]) ?_ ?_
      · simp [go_sem, e24, e28, e29]
      · exact (cK W hS).mono (fun e w' h => ⟨h.1, hS.trans (h.2.mono hS.size)⟩)
    | 7 => simp only [qq] at ho; subst ho; have e30 := eD ev hd 6 30 vv6; rw [vv7]; exact dV (by simp [execOp, go_sem, e30]) hS
    | k + 8 => simp at ho
  · intro b' W hS _
    subst hLe
    exact hQ W hS
set_option maxRecDepth 8000 in
set_option maxHeartbeats 4000000 in
theorem searchO_r8 {Q : Exit → Act → World → Prop} {base : Array Value} {dd : List Deferred} {ops : Array Oper} (hops : Tryz.f101.body.bind (regs 8) = some ops) (g x bx len cp k : Nat) (t n z : Int) (w9 : World) (hsz : base.size = 49) (b0 : base.getD 0 undef = .slice (some ⟨g, 0, none⟩) len cp) (b2 : base.getD 2 undef = .func (.func 102) #[] #[]) (b4 : base.getD 4 undef = .pointer (some ⟨bx, 0, none⟩)) (b8 : base.getD 8 undef = .int .i64 (len : Nat)) (b9 : base.getD 9 undef = .int .i64 (k : Nat)) (hk : k < len) (c0 : w9.cell? ⟨g, k, none⟩ = some (.pointer (some ⟨x, 0, none⟩))) (x0 : w9.cell? ⟨bx, 0, none⟩ = some (.int .i64 t)) (x1 : w9.cell? ⟨bx, 1, none⟩ = some (.int .i64 n)) (cK : ∀ W, Below w9.heap.size w9 W → Calls Tryz.prog 102 #[.pointer (some ⟨x, 0, none⟩), idv t n] W fun e w' => e = .returned (.int .i64 z) ∧ Below W.heap.size W w') (hQ : ∀ W, Below w9.heap.size w9 W → Q .normal ⟨putAll base [(some 35, .int .i64 (k : Nat)), (some 36, .int .i64 (k : Nat)), (some 37, .int .i64 (len : Nat)), (some 38, .bool true), (some 39, .bool true), (some 40, .func (.func 102) #[] #[]), (some 41, .slice (some ⟨g, 0, none⟩) len cp), (some 42, .int .i64 (k : Nat)), (some 43, .pointer (some ⟨g, k, none⟩)), (some 44, .pointer (some ⟨x, 0, none⟩)), (some 45, .agg #[.int .i64 t, .int .i64 n]), (some 46, .int .i64 z), (some 47, .bool (z == 0)), (some 48, .bool (z == 0)), (some 6, .int .i64 (k : Nat)), (some 7, .bool (z == 0))], dd⟩ W) :
    (Code.region 8 ops true).wp Tryz.prog Q ⟨base, dd⟩ w9 := by
  have hmix : Tryz.prog.follows .mixedOrders = true := by kernel_rfl
  have h2 := (show Tryz.f101.body.bind (regs 8) = some _ from rfl).symm.trans hops
  obtain rfl := Option.some.inj h2
  clear h2 hops
  have below9 : Below w9.heap.size w9 w9.drew := (Below.refl _ _).drew
  obtain ⟨LL, hLe⟩ := qL hQ
  have vv0 : vals LL 0 = .int .i64 (k : Nat) := vL hLe rfl
  have vv1 : vals LL 1 = .int .i64 (k : Nat) := vL hLe rfl
  have vv2 : vals LL 2 = .int .i64 (len : Nat) := vL hLe rfl
  have vv3 : vals LL 3 = .bool true := vL hLe rfl
  have vv4 : vals LL 4 = .bool true := vL hLe rfl
  have vv5 : vals LL 5 = .func (.func 102) #[] #[] := vL hLe rfl
  have vv6 : vals LL 6 = .slice (some ⟨g, 0, none⟩) len cp := vL hLe rfl
  have vv7 : vals LL 7 = .int .i64 (k : Nat) := vL hLe rfl
  have vv8 : vals LL 8 = .pointer (some ⟨g, k, none⟩) := vL hLe rfl
  have vv9 : vals LL 9 = .pointer (some ⟨x, 0, none⟩) := vL hLe rfl
  have vv10 : vals LL 10 = .agg #[.int .i64 t, .int .i64 n] := vL hLe rfl
  have vv11 : vals LL 11 = .int .i64 z := vL hLe rfl
  have vv12 : vals LL 12 = .bool (z == 0) := vL hLe rfl
  have vv13 : vals LL 13 = .bool (z == 0) := vL hLe rfl
  have vv14 : vals LL 14 = .int .i64 (k : Nat) := vL hLe rfl
  have vv15 : vals LL 15 = .bool (z == 0) := vL hLe rfl
  refine region_laid hmix (by kernel_rfl) 49 hsz (by kernel_rfl) LL (by rw [hLe]; rfl) (fun _ W => Below w9.heap.size w9 W) below9 ?_ ?_
  · intro b W i o a hS hcl ho hb hd ev kp yl
    match i with
    | 0 => simp only [qq] at ho; subst ho; have e9 := (kp 9 (by kernel_rfl)).trans b9; rw [vv0]; exact dV (by simp [execOp, go_sem, e9]) hS
    | 1 => simp only [qq] at ho; subst ho; have e9 := (kp 9 (by kernel_rfl)).trans b9; rw [vv1]; exact dV (by simp [execOp, go_sem, e9]) hS
    | 2 => simp only [qq] at ho; subst ho; have e8 := (kp 8 (by kernel_rfl)).trans b8; rw [vv2]; exact dV (by simp [execOp, go_sem, e8]) hS
    | 3 => simp only [qq] at ho; subst ho; have e36 := eD ev hd 1 36 vv1; have e37 := eD ev hd 2 37 vv2; rw [vv3]; exact dV (by simp [execOp, go_sem, e36, e37, hk]) hS
    | 4 => simp only [qq] at ho; subst ho; have e38 := eD ev hd 3 38 vv3; rw [vv4]; exact dV (by simp [execOp, go_sem, e38]) hS
    | 5 => simp only [qq] at ho; subst ho; have e2 := (kp 2 (by kernel_rfl)).trans b2; rw [vv5]; exact dG (yl 4 39 true rfl (hG hd 4) vv4) (by simp [execOp, go_sem, e2]) hS
    | 6 => simp only [qq] at ho; subst ho; have e0 := (kp 0 (by kernel_rfl)).trans b0; rw [vv6]; exact dG (yl 4 39 true rfl (hG hd 4) vv4) (by simp [execOp, go_sem, e0]) hS
    | 7 => simp only [qq] at ho; subst ho; have e9 := (kp 9 (by kernel_rfl)).trans b9; rw [vv7]; exact dG (yl 4 39 true rfl (hG hd 4) vv4) (by simp [execOp, go_sem, e9]) hS
    | 8 => simp only [qq] at ho; subst ho; have e41 := eD ev hd 6 41 vv6; have e42 := eD ev hd 7 42 vv7; rw [vv8]; exact dG (yl 4 39 true rfl (hG hd 4) vv4) (by simp [execOp, go_sem, e41, e42, hk]) hS
    | 9 => simp only [qq] at ho; subst ho; have e43 := eD ev hd 8 43 vv8; have d9_0 := (hS.cell (p := ⟨g, k, none⟩) (cell_lt c0)).trans c0; rw [vv9]; exact dG (yl 4 39 true rfl (hG hd 4) vv4) (by simp [execOp, go_sem, e43, d9_0]) hS
    | 10 => simp only [qq] at ho; subst ho; have e4 := (kp 4 (by kernel_rfl)).trans b4; have d0 := (hS.cell (p := ⟨bx, 0, none⟩) (cell_lt x0)).trans x0; have d1 := (hS.cell (p := ⟨bx, 1, none⟩) (cell_lt x1)).trans x1; rw [vv10]; exact dG (yl 4 39 true rfl (hG hd 4) vv4) (by simp [execOp, go_sem, e4, d0, d1]) hS
    | 11 =>
      simp only [qq] at ho; subst ho; have e40 := eD ev hd 5 40 vv5; have e44 := eD ev hd 9 44 vv9; have e45 := eD ev hd 10 45 vv10; rw [vv11]
      refine does_call_g rfl (yl 4 39 true rfl (hG hd 4) vv4) nofun (f := 102) (args := #[.pointer (some ⟨x, 0, none⟩), .agg #[.int .i64 t, .int .i64 n]]) ?_ ?_
      · simp [go_sem, e40, e44, e45]
      · exact (cK W hS).mono (fun e w' h => ⟨h.1, hS.trans (h.2.mono hS.size)⟩)
    | 12 => simp only [qq] at ho; subst ho; have e46 := eD ev hd 11 46 vv11; rw [vv12]; exact dG (yl 4 39 true rfl (hG hd 4) vv4) (by simp [execOp, go_sem, e46]) hS
    | 13 => simp only [qq] at ho; subst ho; have e39 := eD ev hd 4 39 vv4; have e47 := eD ev hd 12 47 vv12; rw [vv13]; exact dV (by simp [execOp, go_sem, e39, e47]) hS
    | 14 => simp only [qq] at ho; subst ho; have e35 := eD ev hd 0 35 vv0; rw [vv14]; exact dV (by simp [execOp, go_sem, e35]) hS
    | 15 => simp only [qq] at ho; subst ho; have e48 := eD ev hd 13 48 vv13; rw [vv15]; exact dV (by simp [execOp, go_sem, e48]) hS
    | k + 16 => simp at ho
  · intro b' W hS _
    subst hLe
    exact hQ W hS
set_option maxRecDepth 8000 in
set_option maxHeartbeats 4000000 in
theorem searchO_r8no {Q : Exit → Act → World → Prop} {base : Array Value} {dd : List Deferred} {ops : Array Oper} (hops : Tryz.f101.body.bind (regs 8) = some ops) (len : Nat) (w9 : World) (hsz : base.size = 49) (b8 : base.getD 8 undef = .int .i64 (len : Nat)) (b9 : base.getD 9 undef = .int .i64 (len : Nat)) (hQ : ∀ W, Below w9.heap.size w9 W → Q .normal ⟨putAll base [(some 35, .int .i64 (len : Nat)), (some 36, .int .i64 (len : Nat)), (some 37, .int .i64 (len : Nat)), (some 38, .bool false), (some 39, .bool false), (some 40, undef), (some 41, undef), (some 42, undef), (some 43, undef), (some 44, undef), (some 45, undef), (some 46, undef), (some 47, undef), (some 48, .bool false), (some 6, .int .i64 (len : Nat)), (some 7, .bool false)], dd⟩ W) :
    (Code.region 8 ops true).wp Tryz.prog Q ⟨base, dd⟩ w9 := by
  have hmix : Tryz.prog.follows .mixedOrders = true := by kernel_rfl
  have h2 := (show Tryz.f101.body.bind (regs 8) = some _ from rfl).symm.trans hops
  obtain rfl := Option.some.inj h2
  clear h2 hops
  have below9 : Below w9.heap.size w9 w9.drew := (Below.refl _ _).drew
  obtain ⟨LL, hLe⟩ := qL hQ
  have vv0 : vals LL 0 = .int .i64 (len : Nat) := vL hLe rfl
  have vv1 : vals LL 1 = .int .i64 (len : Nat) := vL hLe rfl
  have vv2 : vals LL 2 = .int .i64 (len : Nat) := vL hLe rfl
  have vv3 : vals LL 3 = .bool false := vL hLe rfl
  have vv4 : vals LL 4 = .bool false := vL hLe rfl
  have vv13 : vals LL 13 = .bool false := vL hLe rfl
  have vv14 : vals LL 14 = .int .i64 (len : Nat) := vL hLe rfl
  have vv15 : vals LL 15 = .bool false := vL hLe rfl
  refine region_laid hmix (by kernel_rfl) 49 hsz (by kernel_rfl) LL (by rw [hLe]; rfl) (fun _ W => Below w9.heap.size w9 W) below9 ?_ ?_
  · intro b W i o a hS hcl ho hb hd ev kp yl
    match i with
    | 0 => simp only [qq] at ho; subst ho; have e9 := (kp 9 (by kernel_rfl)).trans b9; rw [vv0]; exact dV (by simp [execOp, go_sem, e9]) hS
    | 1 => simp only [qq] at ho; subst ho; have e9 := (kp 9 (by kernel_rfl)).trans b9; rw [vv1]; exact dV (by simp [execOp, go_sem, e9]) hS
    | 2 => simp only [qq] at ho; subst ho; have e8 := (kp 8 (by kernel_rfl)).trans b8; rw [vv2]; exact dV (by simp [execOp, go_sem, e8]) hS
    | 3 => simp only [qq] at ho; subst ho; have e36 := eD ev hd 1 36 vv1; have e37 := eD ev hd 2 37 vv2; rw [vv3]; exact dV (by simp [execOp, go_sem, e36, e37]) hS
    | 4 => simp only [qq] at ho; subst ho; have e38 := eD ev hd 3 38 vv3; rw [vv4]; exact dV (by simp [execOp, go_sem, e38]) hS
    | 5 => simp only [qq] at ho; subst ho; exact does_pass rfl (yl 4 39 false rfl (hG hd 4) vv4) (by decide) (vL hLe rfl) (hS)
    | 6 => simp only [qq] at ho; subst ho; exact does_pass rfl (yl 4 39 false rfl (hG hd 4) vv4) (by decide) (vL hLe rfl) (hS)
    | 7 => simp only [qq] at ho; subst ho; exact does_pass rfl (yl 4 39 false rfl (hG hd 4) vv4) (by decide) (vL hLe rfl) (hS)
    | 8 => simp only [qq] at ho; subst ho; exact does_pass rfl (yl 4 39 false rfl (hG hd 4) vv4) (by decide) (vL hLe rfl) (hS)
    | 9 => simp only [qq] at ho; subst ho; exact does_pass rfl (yl 4 39 false rfl (hG hd 4) vv4) (by decide) (vL hLe rfl) (hS)
    | 10 => simp only [qq] at ho; subst ho; exact does_pass rfl (yl 4 39 false rfl (hG hd 4) vv4) (by decide) (vL hLe rfl) (hS)
    | 11 => simp only [qq] at ho; subst ho; exact does_pass rfl (yl 4 39 false rfl (hG hd 4) vv4) (by decide) (vL hLe rfl) (hS)
    | 12 => simp only [qq] at ho; subst ho; exact does_pass rfl (yl 4 39 false rfl (hG hd 4) vv4) (by decide) (vL hLe rfl) (hS)
    | 13 => simp only [qq] at ho; subst ho; have e39 := eD ev hd 4 39 vv4; rw [vv13]; exact dV (by simp [execOp, go_sem, e39]) hS
    | 14 => simp only [qq] at ho; subst ho; have e35 := eD ev hd 0 35 vv0; rw [vv14]; exact dV (by simp [execOp, go_sem, e35]) hS
    | 15 => simp only [qq] at ho; subst ho; have e48 := eD ev hd 13 48 vv13; rw [vv15]; exact dV (by simp [execOp, go_sem, e48]) hS
    | k + 16 => simp at ho
  · intro b' W hS _
    subst hLe
    exact hQ W hS
theorem byO_any (b : Nat) (t n t' n' : Int) (w : World) (h0 : w.cell? ⟨b, 2, none⟩ = some (.int .i64 t)) (h1 : w.cell? ⟨b, 3, none⟩ = some (.int .i64 n)) :
    Calls Tryz.prog 102 #[pv b, idv t' n'] w fun e w' => e = .returned (.int .i64 (cmpZ t n t' n')) ∧ Below w.heap.size w w' := by
  have hb1 : Below w.heap.size w (w.alloc (.cells #[.int .i64 t', .int .i64 n'] 29)) := (Below.refl _ w).alloc (Nat.le_refl _) _
  have c0 : (w.alloc (.cells #[.int .i64 t', .int .i64 n'] 29)).cell? ⟨b, 2, none⟩ = some (.int .i64 t) := (hb1.cell (p := ⟨b, 2, none⟩) (cell_lt h0)).trans h0
  have c1 : (w.alloc (.cells #[.int .i64 t', .int .i64 n'] 29)).cell? ⟨b, 3, none⟩ = some (.int .i64 n) := (hb1.cell (p := ⟨b, 3, none⟩) (cell_lt h1)).trans h1
  have hlt : b < w.heap.size := cell_lt h0
  have c := fun W => cmp_any t n t' n' W
  have HB : Hid (Below w.heap.size w (w.alloc (.cells #[.int .i64 t', .int .i64 n'] 29))) := hb1
  clear hb1
  unfold pv
  have x0 : (w.alloc (.cells #[.int .i64 t', .int .i64 n'] 29)).cell? ⟨w.heap.size, 0, none⟩ = some (.int .i64 t') := cellOf (heap_alloc_new w _) 0
  have x1 : (w.alloc (.cells #[.int .i64 t', .int .i64 n'] 29)).cell? ⟨w.heap.size, 1, none⟩ = some (.int .i64 n') := cellOf (heap_alloc_new w _) 1
  have HC : Hid ((w.alloc (.cells #[.int .i64 t', .int .i64 n'] 29)).cell? ⟨b, 2, none⟩ = some (.int .i64 t) ∧ (w.alloc (.cells #[.int .i64 t', .int .i64 n'] 29)).cell? ⟨b, 3, none⟩ = some (.int .i64 n) ∧ (w.alloc (.cells #[.int .i64 t', .int .i64 n'] 29)).cell? ⟨w.heap.size, 0, none⟩ = some (.int .i64 t') ∧ (w.alloc (.cells #[.int .i64 t', .int .i64 n'] 29)).cell? ⟨w.heap.size, 1, none⟩ = some (.int .i64 n')) := ⟨c0, c1, x0, x1⟩
  clear c0 c1 x0 x1 h0 h1
  go_enter Tryz.func102, Tryz.ntmps102
  go_wp2_with fail
  refine byO_reg (by kernel_rfl) b w.heap.size t n t' n' _ rfl rfl rfl HC.out.1 HC.out.2.1 HC.out.2.2.1 HC.out.2.2.2 (fun W _ => c W) ?_
  intro W hS
  have HS : Hid (Below (w.alloc (.cells #[.int .i64 t', .int .i64 n'] 29)).heap.size (w.alloc (.cells #[.int .i64 t', .int .i64 n'] 29)) W) := hS
  clear hS
  simp only [putAll, sA, sB, sC]
  go_wp2_with fail
  go_ret
  exact ⟨rfl, HB.out.trans (HS.out.mono HB.out.size)⟩
set_option maxRecDepth 8000 in
set_option maxHeartbeats 4000000 in
theorem searchO_any (g cp : Nat) (L : List Nat) (ky : Nat → PI) (t n : Int) (i0 : Nat) (r0 : Bool) (hat : AtK L ky (t, n) i0 r0) (w : World) (p : Option Addr) (hp : 0 < L.length → p = some ⟨g, 0, none⟩) (hs : L.Pairwise fun a b => lessP (ky a) (ky b)) (hl : L.length ≤ 1001) (hlc : L.length ≤ cp) (hc : ∀ (i x : Nat), L[i]? = some x → w.cell? ⟨g, i, none⟩ = some (pv x)) (hk : ∀ x ∈ L, w.cell? ⟨x, 2, none⟩ = some (.int .i64 (ky x).1) ∧ w.cell? ⟨x, 3, none⟩ = some (.int .i64 (ky x).2)) :
    Calls Tryz.prog 101 #[.slice p L.length cp, idv t n, .func (.func 102) #[] #[]] w fun e w' => e = .returned (.tuple #[.int .i64 (i0 : Nat), .bool r0]) ∧ Below w.heap.size w w' := by
  obtain ⟨len, hn⟩ : ∃ len, len = L.length := ⟨_, rfl⟩
  have HN : Hid (len = L.length) := hn
  have HC : Hid (∀ (W : World), Below w.heap.size w W → ∀ (i x : Nat), L[i]? = some x → W.cell? ⟨g, i, none⟩ = some (.pointer (some ⟨x, 0, none⟩)) ∧ W.cell? ⟨x, 2, none⟩ = some (.int .i64 (ky x).1) ∧ W.cell? ⟨x, 3, none⟩ = some (.int .i64 (ky x).2)) := fun W hb i x hx => by
    have h0 := hc i x hx
    obtain ⟨h1, h2⟩ := hk x (List.mem_of_getElem? hx)
    exact ⟨(hb.cell (p := ⟨g, i, none⟩) (cell_lt h0)).trans h0, (hb.cell (p := ⟨x, 2, none⟩) (cell_lt h1)).trans h1, (hb.cell (p := ⟨x, 3, none⟩) (cell_lt h2)).trans h2⟩
  have HP : Hid (0 < L.length → p = some ⟨g, 0, none⟩) := hp
  have HA : Hid (AtK L ky (t, n) i0 r0) := hat
  clear hat
  have HS : Hid (L.Pairwise fun a b => lessP (ky a) (ky b)) := hs
  rw [← hn] at hl hlc
  rw [← hn]
  clear hn hc hp hs hk
  obtain ⟨wb, hwb⟩ : ∃ wb, wb = w.alloc (.cells #[.int .i64 t, .int .i64 n] 29) := ⟨_, rfl⟩
  have HB0 : Hid (Below w.heap.size w wb) := by rw [hwb]; exact (Below.refl _ w).alloc (Nat.le_refl _) _
  have HT : Hid (wb.cell? ⟨w.heap.size, 0, none⟩ = some (.int .i64 t) ∧ wb.cell? ⟨w.heap.size, 1, none⟩ = some (.int .i64 n)) := by
    rw [hwb]; exact ⟨cellOf (heap_alloc_new w _) 0, cellOf (heap_alloc_new w _) 1⟩
  go_enter Tryz.func101, Tryz.ntmps101
  go_wp2_with fail
  rw [← hwb]
  clear hwb
  go_loopw [9, 10] (fun ii jj wr => ∃ i j : Nat, i ≤ j ∧ j ≤ len ∧ ii = .int .i64 i ∧ jj = .int .i64 j ∧ Hid (Below wb.heap.size wb wr ∧ (∀ k x, k < i → L[k]? = some x → lessP (ky x) (t, n)) ∧ (∀ k x, j ≤ k → L[k]? = some x → ¬ lessP (ky x) (t, n)))) (fun ii jj _ => (intOf jj).toNat - (intOf ii).toNat)
  case atStart => exact ⟨0, len, by omega, by omega, rfl, rfl, Below.refl _ _, (fun k x hk => by omega), (fun k x hk hx => by have := (List.getElem?_eq_some_iff.1 hx).1; rw [← HN.out] at this; omega)⟩
  case round =>
    obtain ⟨i, j, hij, hjn, rfl, rfl, HI⟩ := hrel
    have hBr : Below w.heap.size w wr := HB0.out.trans (HI.out.1.mono HB0.out.size)
    have t0 : wr.cell? ⟨w.heap.size, 0, none⟩ = some (.int .i64 t) := (HI.out.1.cell (p := ⟨w.heap.size, 0, none⟩) (cell_lt HT.out.1)).trans HT.out.1
    have t1 : wr.cell? ⟨w.heap.size, 1, none⟩ = some (.int .i64 n) := (HI.out.1.cell (p := ⟨w.heap.size, 1, none⟩) (cell_lt HT.out.1)).trans HT.out.2
    have HBr : Hid (Below w.heap.size w wr) := hBr
    clear hBr
    by_cases hlt : i < j
    · have hltI : (i : Int) < j := by omega
      obtain ⟨h, hh⟩ : ∃ h, (i + j) / 2 = h := ⟨_, rfl⟩
      have hhI : ((i : Int) + (j : Int)) / 2 = (h : Nat) := by omega
      have hhn : h < len := by omega
      have hhnI : (h : Int) < len := by omega
      obtain ⟨x, hx⟩ : ∃ x, L[h]? = some x := ⟨_, List.getElem?_eq_getElem (by rw [← HN.out]; exact hhn)⟩
      obtain rfl : p = some ⟨g, 0, none⟩ := HP.out (by rw [← HN.out]; omega)
      obtain ⟨c0, k0, k1⟩ := HC.out wr HBr.out h x hx
      have cF : ∀ W, Below wr.heap.size wr W → _ := fun W hW => byO_any x (ky x).1 (ky x).2 t n W ((hW.cell (p := ⟨x, 2, none⟩) (cell_lt k0)).trans k0) ((hW.cell (p := ⟨x, 3, none⟩) (cell_lt k1)).trans k1)
      have HCC : Hid (wr.cell? ⟨g, h, none⟩ = some (.pointer (some ⟨x, 0, none⟩)) ∧ wr.cell? ⟨w.heap.size, 0, none⟩ = some (.int .i64 t) ∧ wr.cell? ⟨w.heap.size, 1, none⟩ = some (.int .i64 n)) := ⟨c0, t0, t1⟩
      have HX : Hid (L[h]? = some x ∧ (i + j) / 2 = h) := ⟨hx, hh⟩
      obtain ⟨z, hz⟩ : ∃ z, cmpZ (ky x).1 (ky x).2 t n = z := ⟨_, rfl⟩
      have HZ : Hid (decide (z < 0) = lessB (ky x).1 (ky x).2 t n) := by show _ = _; rw [← hz]; exact less_cmp _ _ _ _
      rw [hz] at cF
      unfold pv at cF
      clear hx hh hz k0 k1 c0 t0 t1
      by_cases hz0 : z < 0
      · have HL : Hid (lessP (ky x) (t, n)) := by
          have := HZ.out
          rw [decide_eq_true hz0] at this
          exact this.symm
        go_wp2_with fail
        refine searchO_r5 (by kernel_rfl) g x w.heap.size len cp h t n z _ rfl rfl rfl rfl rfl hhn HCC.out.1 HCC.out.2.1 HCC.out.2.2 cF ?_
        intro w1 hb1
        have HB : Hid (Below wr.heap.size wr w1) := hb1
        clear hb1
        simp only [putAll, sA, sB, sC]
        go_wp2_with fail
        go_roundw
        case rel => exact ⟨h + 1, j, by omega, by omega, by go_num, rfl, HI.out.1.trans (HB.out.mono HI.out.1.size), (fun k y hk hy => by
            by_cases e : k = h
            · subst e; rw [HX.out.1] at hy; cases hy; exact HL.out
            · have h1 := List.pairwise_iff_getElem.1 HS.out k h (List.getElem?_eq_some_iff.1 hy).1 (List.getElem?_eq_some_iff.1 HX.out.1).1 (by omega)
              rw [(List.getElem?_eq_some_iff.1 hy).2, (List.getElem?_eq_some_iff.1 HX.out.1).2] at h1
              exact lessP_trans h1 HL.out), HI.out.2.2⟩
        case measure => simp [intOf]; omega
      · have HL : Hid (¬ lessP (ky x) (t, n)) := by
          have := HZ.out
          rw [decide_eq_false hz0] at this
          intro hp
          unfold lessP at hp
          rw [hp] at this
          cases this
        go_wp2_with fail
        refine searchO_r5 (by kernel_rfl) g x w.heap.size len cp h t n z _ rfl rfl rfl rfl rfl hhn HCC.out.1 HCC.out.2.1 HCC.out.2.2 cF ?_
        intro w1 hb1
        have HB : Hid (Below wr.heap.size wr w1) := hb1
        clear hb1
        simp only [putAll, sA, sB, sC]
        go_wp2_with fail
        go_roundw
        case rel => exact ⟨i, h, by omega, by omega, rfl, rfl, HI.out.1.trans (HB.out.mono HI.out.1.size), HI.out.2.1, (fun k y hk hy => by
            by_cases e : k = h
            · subst e; rw [HX.out.1] at hy; cases hy; exact HL.out
            · have h1 := List.pairwise_iff_getElem.1 HS.out h k (List.getElem?_eq_some_iff.1 HX.out.1).1 (List.getElem?_eq_some_iff.1 hy).1 (by omega)
              rw [(List.getElem?_eq_some_iff.1 hy).2, (List.getElem?_eq_some_iff.1 HX.out.1).2] at h1
              exact fun e2 => HL.out (lessP_trans h1 e2))⟩
        case measure => simp [intOf]; omega
    · obtain rfl : i = j := by omega
      have hge : ¬ (i : Int) < i := by omega
      by_cases hin : i < len
      · have hinI : (i : Int) < len := by omega
        obtain ⟨x, hx⟩ : ∃ x, L[i]? = some x := ⟨_, List.getElem?_eq_getElem (by rw [← HN.out]; exact hin)⟩
        obtain rfl : p = some ⟨g, 0, none⟩ := HP.out (by rw [← HN.out]; omega)
        obtain ⟨c0, k0, k1⟩ := HC.out wr HBr.out i x hx
        have cF : ∀ W, Below wr.heap.size wr W → _ := fun W hW => byO_any x (ky x).1 (ky x).2 t n W ((hW.cell (p := ⟨x, 2, none⟩) (cell_lt k0)).trans k0) ((hW.cell (p := ⟨x, 3, none⟩) (cell_lt k1)).trans k1)
        have HCC : Hid (wr.cell? ⟨g, i, none⟩ = some (.pointer (some ⟨x, 0, none⟩)) ∧ wr.cell? ⟨w.heap.size, 0, none⟩ = some (.int .i64 t) ∧ wr.cell? ⟨w.heap.size, 1, none⟩ = some (.int .i64 n)) := ⟨c0, t0, t1⟩
        obtain ⟨z, hz⟩ : ∃ z, cmpZ (ky x).1 (ky x).2 t n = z := ⟨_, rfl⟩
        have HR : Hid (AtK L ky (t, n) i (z == 0)) := by
          refine ⟨by rw [← HN.out]; omega, HI.out.2.1, HI.out.2.2, ?_⟩
          rw [beq_iff_eq, ← hz]
          constructor
          · intro e
            refine ⟨x, hx, ?_⟩
            have h1 := less_cmp (ky x).1 (ky x).2 t n
            have := cmpZ_zero e
            exact Prod.ext this.1 this.2
          · rintro ⟨y, hy, e⟩
            rw [hx] at hy; cases hy
            rw [e]
            exact cmpZ_same (by simp [lessB]) (by simp [lessB])
        rw [hz] at cF
        unfold pv at cF
        clear hx hz k0 k1 c0 t0 t1
        go_wp2_with fail
        refine searchO_r8 (by kernel_rfl) g x w.heap.size len cp i t n z _ rfl rfl rfl rfl rfl rfl hin HCC.out.1 HCC.out.2.1 HCC.out.2.2 cF ?_
        intro w1 hb1
        have HB : Hid (Below wr.heap.size wr w1) := hb1
        clear hb1
        simp only [putAll, sA, sB, sC]
        obtain ⟨e1, e2⟩ := HR.out.unique HA.out
        go_wp2_with fail
        go_ret2
        refine ⟨?_, HBr.out.trans (HB.out.mono HBr.out.size)⟩
        rw [← e1, ← e2]
        rfl
      · obtain rfl : i = len := by omega
        have HR : Hid (AtK L ky (t, n) i false) := by
          refine ⟨by rw [← HN.out]; omega, HI.out.2.1, HI.out.2.2, ?_⟩
          constructor
          · intro h; cases h
          · rintro ⟨y, hy, e⟩
            have := (List.getElem?_eq_some_iff.1 hy).1
            rw [← HN.out] at this; omega
        go_wp2_with fail
        refine searchO_r8no (by kernel_rfl) i _ rfl rfl rfl ?_
        intro w1 hb1
        have HB : Hid (Below wr.heap.size wr w1) := hb1
        clear hb1
        simp only [putAll, sA, sB, sC]
        obtain ⟨e1, e2⟩ := HR.out.unique HA.out
        go_wp2_with fail
        go_ret2
        refine ⟨?_, HBr.out.trans (HB.out.mono HBr.out.size)⟩
        rw [← e1, ← e2]
        rfl
end Go.Proofs.YtgpbphjplbhfmaaGreat.Ck.Y

namespace Go.Proofs.YtgpbphjplbhfmaaGreat.Ck.Y
open Go.RowKit Go.Maps Go.Lib
set_option maxRecDepth 8000 in
set_option maxHeartbeats 1000000 in
theorem lclone_any (s : ByteArray) (w : World) (hlim : s.size ≤ 1000000) : Calls Tryz.prog 81 #[.string s] w fun e w' => e = .returned (.string s) ∧ Below w.heap.size w w' := by
  by_cases h0 : s.size = 0
  · have hs : s = ⟨#[]⟩ := by
      apply ByteArray.ext
      exact Array.eq_empty_of_size_eq_zero h0
    subst hs
    go_enter Tryz.func81, Tryz.ntmps81
    go_wp2
    go_ret
    exact ⟨rfl, Below.refl _ _⟩
  · have e5 : (Tryz.prog.info? 5).map (fun i => (i.zero, i.size, i.bytes)) = some (some (.int .u8 0), 1, 1) := by kernel_rfl
    obtain ⟨i0, hi, he⟩ := Option.map_eq_some_iff.1 e5
    injection he with hz0 he
    injection he with hz1 hz2
    have hinfo : (Tryz.prog.info? 5).map (·.size) = some 1 := by rw [hi]; simp [hz1]
    have hco : Tryz.prog.cellsOf 5 = 1 := by simp [Program.cellsOf, hi, hz1]
    obtain ⟨M, hM⟩ : ∃ M, M = madeCells (Value.int .u8 0).cells (((s.size : Nat) : Int).toNat * i0.size) := ⟨_, rfl⟩
    have hMs : M.size = s.size := by rw [hM, size_madeCells, hz1]; simp
    have hmk : ∀ W : World, (Instr.makeSlice 30 (.int .i64 (s.size : Int)) (.int .i64 (s.size : Int))).run Tryz.prog W = .ok (.slice (some ⟨W.heap.size, 0, none⟩) s.size s.size) (W.alloc (.cells M 5)) := fun W => by
      have h := run_make (P := Tryz.prog) W 30 5 i0 (.int .u8 0) Tryz.underlying30 hi hz0 .i64 .i64 (s.size : Int) (s.size : Int) (by omega) (by omega) (by rw [hz2]; omega) (by omega)
      rw [← hM] at h
      simpa using h
    clear hM
    have hcp := Lib.run_copy_row_string (P := Tryz.prog) (w.alloc (.cells M 5)) 30 9 3 5 w.heap.size 0 s.size s.size s M 5 Tryz.underlying30 hinfo (heap_alloc_new w _) (Nat.le_refl _) (by omega)
    obtain ⟨Y, hY⟩ : ∃ Y, Y = (M.toList.take 0 ++ Lib.byteCells s.data.toList ++ M.toList.drop (0 + s.size)).toArray := ⟨_, rfl⟩
    rw [← hY] at hcp
    have hYl : Y.toList = Lib.byteCells s.data.toList := by
      rw [hY, List.toList_toArray, List.take_zero, List.nil_append, List.drop_of_length_le (by rw [Array.length_toList]; omega), List.append_nil]
    have hYs : Y.size = s.size := by rw [← Array.length_toList, hYl, Lib.byteCells_length, ← Lib.size_eq]
    have hgY : ((w.alloc (.cells M 5)).setRow w.heap.size Y).heap[w.heap.size]? = some (.cells Y 5 (0, 0)) := setRow_heap _ _ M _ 5 (0, 0) (heap_alloc_new w _)
    have hne : s.data.toList ≠ [] := fun e => h0 (by rw [Lib.size_eq, e]; rfl)
    have hUS := Lib.run_unsafeString_row (P := Tryz.prog) ((w.alloc (.cells M 5)).setRow w.heap.size Y) 112 3 9 5 Tryz.underlying112 hco w.heap.size Y.size (by unfold World.shape?; rw [hgY]) s.data.toList hne (by rw [← Lib.size_eq]; omega) (by rw [← Lib.size_eq]; omega)
      (fun j x hx => Lib.cells_of_row hgY Y.size j _ (by rw [List.take_of_length_le (by rw [Array.length_toList]; exact Nat.le_refl _), hYl]; simp [Lib.byteCells, hx]))
    rw [← Lib.size_eq] at hUS
    clear hY
    go_enter Tryz.func81, Tryz.ntmps81
    go_wp2
    go_ret
    have hb1 : Below w.heap.size w (w.alloc (.cells M 5)) := (Below.refl _ w).alloc (Nat.le_refl _) _
    have hb2 : Below w.heap.size (w.alloc (.cells M 5)) ((w.alloc (.cells M 5)).setRow w.heap.size Y) := ⟨rfl, rfl, rfl, by simp, fun k hk => setRow_other _ _ _ _ (by omega)⟩
    exact ⟨rfl, Lib.below_freeze (hb1.trans hb2) (p := ⟨w.heap.size, 0, none⟩) (Nat.le_refl _) _⟩
theorem sclone_any (s : ByteArray) (w : World) (hlim : s.size ≤ 1000000) : Calls Tryz.prog 55 #[.string s] w fun e w' => e = .returned (.string s) ∧ Below w.heap.size w w' := by
  have c := lclone_any s w hlim
  go_enter Tryz.func55, Tryz.ntmps55
  go_wp2_with (go_at_call 81; refine c.mono ?_; rintro e w1 ⟨rfl, hb⟩; have HB : Hid (Below w.heap.size w w1) := hb; clear hb)
  go_ret
  exact ⟨rfl, HB.out⟩
theorem eqin_t (d : Nat) (a b : Int) (w : World) : (Op.equalIn (d + 1) 2 (.int .i64 a) (.int .i64 b)).run Tryz.prog w = .ok (a == b) w := by simp [Op.equalIn, go_sem]
theorem eqin_n (d : Nat) (a b : Int) (w : World) : (Op.equalIn (d + 1) 3 (.int .i64 a) (.int .i64 b)).run Tryz.prog w = .ok (a == b) w := by simp [Op.equalIn, go_sem]
theorem eqin_id (d : Nat) (a1 a2 b1 b2 : Int) (w : World) : (Op.equalIn (d + 2) 29 (idv a1 a2) (idv b1 b2)).run Tryz.prog w = .ok (decide (a1 = b1) && decide (a2 = b2)) w := by
  have h1 : Tryz.prog.stoodInHeld 29 = false := by kernel_rfl
  unfold Op.equalIn
  simp only [Sem.run_bind, run_underlying Tryz.underlying29, Result.andThen_ok]
  by_cases e1 : a1 = b1 <;> by_cases e2 : a2 = b2 <;> simp [go_sem, h1, e1, e2, eqin_t, eqin_n]
theorem equal_id (a b : PI) (w : World) : (Op.equal 29 (idv a.1 a.2) (idv b.1 b.2)).run Tryz.prog w = .ok (decide (a.1 = b.1) && decide (a.2 = b.2)) w := eqin_id 9998 a.1 a.2 b.1 b.2 w
theorem chk_t (d : Nat) (e : Bool) (a : Int) (w : World) : (Instr.checkKey e (d + 1) 2 (.int .i64 a)).run Tryz.prog w = .ok () w := by simp [Instr.checkKey, go_sem]
theorem chk_n (d : Nat) (e : Bool) (a : Int) (w : World) : (Instr.checkKey e (d + 1) 3 (.int .i64 a)).run Tryz.prog w = .ok () w := by simp [Instr.checkKey, go_sem]
theorem chkid (d : Nat) (e : Bool) (a b : Int) (w : World) : (Instr.checkKey e (d + 2) 29 (idv a b)).run Tryz.prog w = .ok () w := by
  unfold Instr.checkKey
  simp only [Sem.run_bind, run_underlying Tryz.underlying29, Result.andThen_ok]
  simp [go_sem, chk_t, chk_n]
theorem check_id (e : Bool) (a : PI) (w : World) : (Instr.checkKey e 10000 29 (idv a.1 a.2)).run Tryz.prog w = .ok () w := chkid 9998 e a.1 a.2 w
def atM (E : List (PI × Nat)) (q : PI) : Option Nat := (E.find? fun x => decide (x.1 = q)).map (·.2)
def enM (x : PI × Nat) : Value × Value := (idv x.1.1 x.1.2, pv x.2)
def MapAt (w : World) (mb : Nat) (E : List (PI × Nat)) : Prop := ∃ es clock, w.heap[mb]? = some (.map es clock) ∧ es.toList.map (fun e => (e.key, e.val)) = E.map enM
theorem find_ask (q : PI) (w : World) : ∀ (l : List MapEntry) (E : List (PI × Nat)) (i : Nat), l.map (fun e => (e.key, e.val)) = E.map enM → (Instr.findAsking 29 (idv q.1 q.2) l i).run Tryz.prog w = .ok ((E.findIdx? fun x => decide (x.1 = q)).bind fun k => (E[k]?).map fun x => (i + k, pv x.2)) w
  | [], [], i, _ => by simp [Instr.findAsking]
  | [], _ :: _, i, h => by simp at h
  | _ :: _, [], i, h => by simp at h
  | e :: l, x :: E, i, h => by
    simp only [List.map_cons, List.cons.injEq] at h
    obtain ⟨h1, h2⟩ := h
    obtain ⟨hk, hv⟩ := Prod.mk.inj h1
    unfold Instr.findAsking
    rw [hk]
    simp only [Sem.run_bind, equal_id, Result.andThen_ok]
    have ih := find_ask q w l E (i + 1) h2
    by_cases e1 : x.1 = q
    · have e2 : (decide (q.1 = x.1.1) && decide (q.2 = x.1.2)) = true := by rw [e1]; simp
      rw [e2]
      simp [List.findIdx?_cons, e1, hv]
    · have e2 : (decide (q.1 = x.1.1) && decide (q.2 = x.1.2)) = false := by
        by_cases f1 : q.1 = x.1.1
        · have f2 : ¬ q.2 = x.1.2 := fun f2 => e1 (Prod.ext f1.symm f2.symm)
          simp [f2]
        · simp [f1]
      rw [e2]
      simp only [Bool.false_eq_true, if_false, ih, List.findIdx?_cons, e1, decide_false]
      cases E.findIdx? fun x => decide (x.1 = q) with
      | none => simp
      | some k => simp only [Option.bind_some, Option.map_some, List.getElem?_cons_succ, show i + 1 + k = i + (k + 1) by omega]
def fdM (E : List (PI × Nat)) (q : PI) : Option (Nat × Value) := (E.findIdx? fun x => decide (x.1 = q)).bind fun k => (E[k]?).map fun x => (k, pv x.2)
theorem key_find (q : PI) (w : World) (l : List MapEntry) (E : List (PI × Nat)) (h : l.map (fun e => (e.key, e.val)) = E.map enM) : (Instr.findKey 29 (idv q.1 q.2) l).run Tryz.prog w = .ok (fdM E q) w := by
  have hA := find_ask q w l E 0 h
  simp only [Nat.zero_add] at hA
  unfold Instr.findKey
  simp only [Sem.run_bind, run_underlying Tryz.underlying29, Result.andThen_ok]
  cases l with
  | nil =>
    have : E = [] := by cases E with | nil => rfl | cons x E => simp at h
    subst this
    simp [Instr.findNow, fdM]
  | cons e l =>
    simp only [Instr.findNow, Instr.sameNow]
    exact hA
theorem fdM_none {E : List (PI × Nat)} {q : PI} (h : atM E q = none) : fdM E q = none := by
  unfold atM at h
  unfold fdM
  rw [Option.map_eq_none_iff, List.find?_eq_none] at h
  rw [List.findIdx?_eq_none_iff.2 (fun x hx => by simpa using h x hx)]
  rfl
theorem fdM_some {E : List (PI × Nat)} {q : PI} {b : Nat} (h : atM E q = some b) : ∃ k, fdM E q = some (k, pv b) := by
  unfold atM at h
  obtain ⟨x, hx, rfl⟩ := Option.map_eq_some_iff.1 h
  have hx' := hx
  rw [List.find?_eq_some_iff_getElem] at hx
  obtain ⟨h1, i, hi, he, hlt⟩ := hx
  refine ⟨i, ?_⟩
  unfold fdM
  have : E.findIdx? (fun x => decide (x.1 = q)) = some i := by
    rw [List.findIdx?_eq_some_iff_getElem]
    exact ⟨hi, by rw [he]; exact h1, fun j hj => by have := hlt j hj; simpa using this⟩
  rw [this]
  simp [List.getElem?_eq_getElem hi, he]
theorem look_map {w : World} {mb : Nat} {E : List (PI × Nat)} (h : MapAt w mb E) (t n : Int) : (Instr.lookup 48 (.map (some mb)) (idv t n) false).run Tryz.prog w = .ok ((atM E (t, n)).elim (.pointer none) pv) w := by
  obtain ⟨es, clock, hb, he⟩ := h
  have hk := key_find (t, n) w es.toList E he
  have hc := fun e => check_id e (t, n) w
  cases hq : atM E (t, n) with
  | none =>
    rw [fdM_none hq] at hk
    simp [Instr.lookup, run_underlying Tryz.underlying48, MapKept.run_getObj_map hb, hc, hk, Tryz.zeroValue70]
  | some b =>
    obtain ⟨k, e⟩ := fdM_some hq
    rw [e] at hk
    simp [Instr.lookup, run_underlying Tryz.underlying48, MapKept.run_getObj_map hb, hc, hk]
theorem block_set (w : World) (b k : Nat) (o : Obj) (h : k ≠ b) : (Go.ChangeMaps.setBlock w b o).heap[k]? = w.heap[k]? := by
  unfold Go.ChangeMaps.setBlock
  simp [Array.getElem?_setIfInBounds_ne (Ne.symm h)]
theorem only_block (w : World) (b : Nat) (o : Obj) : Only (· = b) w (Go.ChangeMaps.setBlock w b o) := ⟨rfl, rfl, rfl, by simp [Go.ChangeMaps.setBlock], fun i _ hn => block_set w b i o hn⟩
theorem block_at {w : World} {b : Nat} (o : Obj) (h : b < w.heap.size) : (Go.ChangeMaps.setBlock w b o).heap[b]? = some o := by
  unfold Go.ChangeMaps.setBlock
  simp [h]
theorem put_map {w : World} {mb : Nat} {E : List (PI × Nat)} (h : MapAt w mb E) (t n : Int) (b : Nat) (hq : atM E (t, n) = none) :
    ∃ W, (Instr.mapUpdate 48 (.map (some mb)) (idv t n) (pv b)).run Tryz.prog w = .ok () W ∧ MapAt W mb (E ++ [((t, n), b)]) ∧ Only (· = mb) w W ∧ W.heap.size = w.heap.size := by
  obtain ⟨es, clock, hb, he⟩ := h
  have hk := key_find (t, n) w es.toList E he
  have hc := fun e => check_id e (t, n) w
  rw [fdM_none hq] at hk
  refine ⟨Go.ChangeMaps.setBlock w mb (.map (es.push ⟨idv t n, pv b, clock⟩) (clock + 1)), ?_, ⟨_, _, block_at _ (block_lt hb), ?_⟩, only_block _ _ _, by simp [Go.ChangeMaps.setBlock]⟩
  · simp [Instr.mapUpdate, run_underlying Tryz.underlying48, MapKept.run_getObj_map hb, hc, hk, MapKept.run_setObj_map _ hb, Result.andThen, Go.ChangeMaps.setBlock]
  · rw [Array.toList_push, List.map_append, List.map_append, he]
    rfl
theorem map_erase {α β : Type} (f : α → β) : ∀ (l : List α) (i : Nat), (l.eraseIdx i).map f = (l.map f).eraseIdx i
  | [], _ => rfl
  | _ :: _, 0 => rfl
  | x :: l, i + 1 => by simp only [List.eraseIdx_cons_succ, List.map_cons, map_erase f l i]
theorem del_map {w : World} {mb : Nat} {E : List (PI × Nat)} {t n : Int} {b : Nat} (h : MapAt w mb (E ++ [((t, n), b)])) (hq : atM E (t, n) = none) (ty : TypeId) :
    ∃ W, (Builtin.delete_ #[48, 29] ty #[.map (some mb), idv t n]).run Tryz.prog w = .ok (.tuple #[]) W ∧ MapAt W mb E ∧ Only (· = mb) w W ∧ W.heap.size = w.heap.size := by
  obtain ⟨es, clock, hb, he⟩ := h
  have hk := key_find (t, n) w es.toList _ he
  have hc := fun e => check_id e (t, n) w
  have hf : fdM (E ++ [((t, n), b)]) (t, n) = some (E.length, pv b) := by
    unfold fdM
    unfold atM at hq
    rw [Option.map_eq_none_iff, List.find?_eq_none] at hq
    rw [List.findIdx?_append, List.findIdx?_eq_none_iff.2 (fun x hx => by simpa using hq x hx)]
    simp
  rw [hf] at hk
  refine ⟨Go.ChangeMaps.setBlock w mb (.map (es.eraseIdxIfInBounds E.length) clock), ?_, ⟨_, _, block_at _ (block_lt hb), ?_⟩, only_block _ _ _, by simp [Go.ChangeMaps.setBlock]⟩
  · simp [Builtin.delete_, run_underlying Tryz.underlying48, MapKept.run_getObj_map hb, hc, hk, MapKept.run_setObj_map _ hb, Result.andThen, Go.ChangeMaps.setBlock]
  · have hl : es.toList.length = E.length + 1 := by
      have := congrArg List.length he
      simpa using this
    have e1 : (es.eraseIdxIfInBounds E.length).toList = es.toList.eraseIdx E.length := by
      unfold Array.eraseIdxIfInBounds
      have : E.length < es.size := by rw [← Array.length_toList]; omega
      simp [this]
    rw [e1, map_erase, he, List.map_append, List.eraseIdx_append_of_length_le (by simp)]
    simp
theorem len_map {w : World} {mb : Nat} {E : List (PI × Nat)} (h : MapAt w mb E) (ty : TypeId) : (Builtin.len_ #[48] ty #[.map (some mb)]).run Tryz.prog w = .ok (.int .i64 (E.length : Nat)) w := by
  obtain ⟨es, clock, hb, he⟩ := h
  have hl : es.size = E.length := by
    have := congrArg List.length he
    simpa using this
  simp [Builtin.len_, run_underlying Tryz.underlying48, MapKept.run_getObj_map hb, goInt, hl]
theorem MapAt.lt {w : World} {mb : Nat} {E : List (PI × Nat)} (h : MapAt w mb E) : mb < w.heap.size := by
  obtain ⟨es, clock, hb, he⟩ := h
  exact block_lt hb
theorem MapAt.kept {w w' : World} {mb : Nat} {E : List (PI × Nat)} {S : Nat → Prop} (h : MapAt w mb E) (ho : Only S w w') (hn : ¬ S mb) : MapAt w' mb E := by
  obtain ⟨es, clock, hb, he⟩ := h
  exact ⟨es, clock, (ho.block mb (block_lt hb) hn).trans hb, he⟩
end Go.Proofs.YtgpbphjplbhfmaaGreat.Ck.Y
