/-
  slices.Insert and slices.Delete of one entry, whatever the room.
-/
import Derived.Test.YtdocablbkafkiaaDoorDi
import Derived.Deep.RegionLaw
namespace Go.Proofs.YtdocablbkafkiaaDoor.Cd
open Go.RowKit Go.Lib

theorem insert_any (base i vb : Nat) (v : Value) (L : List En) (x : En) (w : World) (h : Blk w base v L) (hi : i ≤ L.length) (hl : L.length ≤ 7) (hb : base ≤ w.heap.size) (hvb : w.heap[vb]? = some (.cells (entCells x).toArray 55 (0, 0))) (hne : v.ownBlock ≠ some vb) :
    Calls Tryd.prog 62 #[v, .int .i64 (i : Nat), .slice (some ⟨vb, 0, none⟩) 1 1] w (Insd base v (L.take i ++ x :: L.drop i) w) := by
  rcases Nat.eq_or_lt_of_le hi with rfl | hi'
  · have := insert_end base vb v L x w h hl hb hvb
    rw [List.take_of_length_le (Nat.le_refl _), List.drop_of_length_le (Nat.le_refl _)]
    exact this
  · rcases h.2 with ⟨_, h0⟩ | ⟨g, cap, cur, rfl, hbg, hg, hn, hm, hs, ht⟩
    · omega
    · by_cases hroom : L.length + 1 ≤ cap
      · exact insert_shift base i vb g cap cur L x w hbg hg hm hs ht hi' hl hroom hvb (fun e => hne (by rw [e]; rfl))
      · exact insert_grow base i vb g cap cur L x w hb hg hm hs ht hi' hl hn (by omega) hvb

/-- clear of one entry, as a run. -/
theorem run_clear2 (w : World) (ty : TypeId) (g o c : Nat) (cur : Array Value) (t : TypeId) (hg : w.heap[g]? = some (.cells cur t (0, 0))) (hfit : o + 2 ≤ cur.size) :
    (Builtin.clear_ #[57] ty #[.slice (some ⟨g, o, none⟩) 1 c]).run Tryd.prog w = .ok (.tuple #[]) (w.setRow g (cur.toList.take o ++ ([.string ⟨#[]⟩, .int .i64 0] : List Value) ++ cur.toList.drop (o + 2)).toArray) := by
  have hst := run_storeCells_at Tryd.prog g o t [.string ⟨#[]⟩, .int .i64 0] 0 cur w hg (by simpa using hfit) (by intro u hu; simp at hu; rcases hu with rfl | rfl <;> rfl)
  have hz : (Builtin.zeroCells (Value.agg #[.string ⟨#[]⟩, .int .i64 0]).cells 1).toList = [.string ⟨#[]⟩, .int .i64 0] := by kernel_rfl
  simp only [Nat.add_zero, List.length_cons, List.length_nil] at hst
  simp [Builtin.clear_, run_underlying Tryd.underlying57, Tryd.zeroValue55, hz, hst]

/-- An append in a region that draws, its run being known. -/
theorem step_append_known {ops : Array Oper} {o : Oper} {a : Act} {w : World} {K : Act → World → Prop} {Q : Exit → Act → World → Prop} {E : Prop} (hg : o.guard = none) (s x : Operand) (t u : TypeId)
    (hop : o.op = .call { callee := .builtin .append, args := #[s, x], argTypes := #[t, u] }) (vs vx : Value) (hs : a.eval s = vs) (hx : a.eval x = vx) {v' : Value} {w' : World}
    (hr : (Builtin.append_ #[t, u] o.type #[vs, vx]).run Tryd.prog w = .ok v' w') (hK : K (a.put o.dst v') w') :
    if Region.wanted o (yielded ops a.tmps) = true then Oper.wp Tryd.prog o a w K Q else E := by
  rw [if_pos (by unfold Region.wanted; rw [hg])]
  unfold Oper.wp execOp
  simp only [hop, resolve, invoke, builtin, Sem.run_bind, Sem.run_pure, Result.andThen_ok, List.map_toArray, List.map_cons, List.map_nil, hs, hx, hr]
  exact hK

/-- What Delete answers. -/
def Deld (base : Nat) (v : Value) (M : List En) (w : World) (e : Ending) (w' : World) : Prop := ∃ v', e = .returned v' ∧ Blk w' base v' M ∧ w.grownBy w' v.ownBlock ∧ v'.ownBlock = v.ownBlock

set_option maxRecDepth 8000 in
set_option maxHeartbeats 4000000 in
theorem delete_any (base i j : Nat) (v : Value) (L : List En) (w : World) (h : Blk w base v L) (hij : j = i + 1) (hi : i < L.length) (hl : L.length ≤ 8) :
    Calls Tryd.prog 43 #[v, .int .i64 (i : Nat), .int .i64 (j : Nat)] w (Deld base v (L.take i ++ L.drop j) w) := by
  obtain ⟨i0, hi0, hz0, hz1, hz2⟩ := entInfo
  rcases h.2 with ⟨_, h0⟩ | ⟨g, cap, cur, rfl, hbg, hg, hnc, hm, hs, ht⟩
  · omega
  obtain ⟨n, hn⟩ : ∃ n, n = L.length := ⟨_, rfl⟩
  have hcur : cur.toList.length = cap * 2 := by rw [Array.length_toList, hs]
  have hdr : (ents (L.drop j)).length = (n - j) * 2 := by rw [ents_length, List.length_drop, hn]
  have hta : (ents (L.take i)).length = i * 2 := by rw [ents_length, List.length_take]; omega
  obtain ⟨A, hA, hsrc⟩ : ∃ A : Addr, (if cap = j then some (⟨g, 0, none⟩ : Addr) else some ⟨g, j * 2, none⟩) = some A ∧ ∀ q u, (ents (L.drop j))[q]? = some u → w.drew.cell? (A.add q) = some u := by
    by_cases hc : cap = j
    · refine ⟨⟨g, 0, none⟩, by simp [hc], fun q u hj => ?_⟩
      have := (List.getElem?_eq_some_iff.1 hj).1
      rw [hdr] at this; omega
    · refine ⟨⟨g, j * 2, none⟩, by simp [hc], fun q u hj => ?_⟩
      rw [Addr.add_lit]
      refine (cellOf hg (j * 2 + q)).trans ?_
      rw [← Array.getElem?_toList]
      have : (cur.toList.take (L.length * 2))[j * 2 + q]? = some u := by
        rw [ht, ← List.getElem?_drop, ents_drop]; exact hj
      rw [List.getElem?_take] at this
      split at this
      · exact this
      · cases this
  have hap := run_append_room (P := Tryd.prog) w.drew 57 57 55 i0 Tryd.underlying57 hi0 g i cap cur hg A (n - j) (cap - j) (ents (L.drop j)) (by rw [hz1, hdr]) hsrc (ents_one _) (by omega) (by rw [hz1, hdr]; omega)
  rw [hz1, hdr] at hap
  obtain ⟨A1, hA1⟩ : ∃ A1, A1 = (cur.toList.take (i * 2) ++ ents (L.drop j) ++ cur.toList.drop (i * 2 + (n - j) * 2)).toArray := ⟨_, rfl⟩
  rw [← hA1] at hap
  have hA1s : A1.size = cap * 2 := by rw [hA1, ← Array.length_toList]; simp [hdr]; omega
  obtain ⟨W1, hW1⟩ : ∃ W1, W1 = w.drew.setRow g A1 := ⟨_, rfl⟩
  rw [← hW1] at hap
  have hg1 : W1.heap[g]? = some (.cells A1 55 (0, 0)) := by rw [hW1]; exact setRow_heap _ _ cur _ 55 (0, 0) hg
  have hcl : ∀ ty c, _ := fun ty c => run_clear2 W1 ty g ((i + (n - j)) * 2) c A1 55 hg1 (by rw [hA1s]; omega)
  obtain ⟨A2, hA2⟩ : ∃ A2, A2 = (A1.toList.take ((i + (n - j)) * 2) ++ ([.string ⟨#[]⟩, .int .i64 0] : List Value) ++ A1.toList.drop ((i + (n - j)) * 2 + 2)).toArray := ⟨_, rfl⟩
  rw [← hA2] at hcl
  have hcl' : ∀ ty c, (Builtin.clear_ #[57] ty #[.slice (some ⟨g, (i + (n - j)) * 2, none⟩) (n - (i + (n - j))) c]).run Tryd.prog W1 = .ok (.tuple #[]) (W1.setRow g A2) := fun ty c => by
    rw [show n - (i + (n - j)) = 1 by omega]; exact hcl ty c
  clear hcl
  have H : Hid (Deld base (.slice (some ⟨g, 0, none⟩) n cap) (L.take i ++ L.drop j) w (.returned (.slice (some ⟨g, 0, none⟩) (i + (n - j)) cap)) (W1.setRow g A2)) := by
    have hlen : (L.take i ++ L.drop j).length = i + (n - j) := by rw [hn]; simp; omega
    refine ⟨_, rfl, ?_, ⟨?_, ?_, ?_, ?_, ?_⟩, rfl⟩
    · refine ⟨ents_length _, .inr ⟨g, cap, A2, by rw [hlen], hbg, setRow_heap _ _ A1 _ 55 (0, 0) hg1, by omega, hm, ?_, ?_⟩⟩
      · rw [hA2]
        have : A1.toList.length = cap * 2 := by rw [Array.length_toList, hA1s]
        simp; omega
      · rw [hlen, hA2, List.toList_toArray, List.append_assoc, List.take_append_of_le_length (by rw [List.length_take, Array.length_toList, hA1s]; omega), List.take_take, Nat.min_self, hA1, List.toList_toArray,
          List.take_append_of_le_length (by simp [hdr]; omega), List.take_of_length_le (by simp [hdr]; omega), ents_append, ← ents_take, ← ht, List.take_take, Nat.min_eq_left (by omega)]
    · rw [hW1]; rfl
    · rw [hW1]; rfl
    · rw [hW1]; rfl
    · rw [hW1]; simp
    · intro k hk hkg
      have : k ≠ g := fun e => hkg (by rw [e]; rfl)
      rw [setRow_other _ _ _ _ this, hW1, setRow_other _ _ _ _ this]; rfl
  rw [← hn]
  rw [← hn] at hi hl hnc
  have hcm' : cap ≤ 9223372036854775807 := by unfold maxLen at hm; omega
  have hic : i ≤ cap := by omega
  have hjc : j ≤ cap := by omega
  have hij1 : i < j := by omega
  have hjn : j ≤ n := by omega
  clear hg hs ht hcur hdr hA1 hA1s hg1 hA2 hW1 hm hn hi0 hz0 hz1 hz2 hta h hsrc hij
  go_enter Tryd.func43, Tryd.ntmps43
  go_wp2_with fail
  go_region_law (refine step_append_known rfl _ _ 57 57 rfl _ _ (by simp [Act.eval, Act.put]) (by simp [Act.eval, Act.put]) hap ?_)
  go_wp2
  go_ret
  exact H.out

end Go.Proofs.YtdocablbkafkiaaDoor.Cd
