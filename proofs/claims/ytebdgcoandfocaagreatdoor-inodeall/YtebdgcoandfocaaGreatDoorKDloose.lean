/-
  Loose of package device: the keys of its map, rising.
-/
import Derived.Test.YtebdgcoandfocaaGreatDoorKDwrite
import Derived.Test.YtebdgcoandfocaaGreatDoorKShelf

namespace Go.Proofs.YtebdgcoandfocaaGreatDoor
open Go.RowKit Go.Maps Go.Sort Go.Shelf

/-- slices.Sort's two contracts at this program. -/
theorem sortsA (m : Nat) : AnyZI.SortsIn Tryz.prog Tryz.sortedA_ren Fence.wide m :=
  ⟨fun blk off cap ss W hH hblk hsz => callsIn_wide.2 (AnyM.slices_Sort_int Tryz.sortA blk off cap ss W hH hblk hsz),
   fun p cap W => callsIn_wide.2 (AnyM.slices_Sort_int_none Tryz.sortA p cap W)⟩

set_option maxRecDepth 8000 in
set_option maxHeartbeats 1000000 in
theorem loose_any (a : Nat) (v0 : Value) (b nn : Nat) (D0 : DataW Value) (fused : Bool) (left count : Int) (w : World) (h : IsDevAt w a v0 b fused left count)
    (hown : w.ownsMap Tryz.prog 3 ptrElem b nn D0) (hmax : Maps.size D0 ≤ maxLen) (hbytes : Maps.size D0 * 8 ≤ 140737488355328) :
    Calls Tryz.prog 83 #[.pointer (some ⟨a, 0, none⟩)] w fun e w' => ∃ (v : Value) (ss : List Int), e = .returned v ∧ ss.Perm (intKeys D0) ∧
      w'.ownsRow w.heap.size 3 1 v ss.length ((ss.mergeSort (fun x y => decide (x ≤ y))).map encZ) ∧ (v = .slice none 0 0 ↔ ss = []) ∧ Below w.heap.size w w' := by
  refine (callsIn_wide (n := 6)).1 ?_
  have hbl := hown.lt
  have k1 := cellOf h 1
  simp [devCells] at k1
  have hseq : SeqGives Fence.wide 2 Tryz.prog 120 #[.pointer (some ⟨w.heap.size, 0, none⟩)] encZ (fun ss => ss.Perm (intKeys D0)) (Maps.size D0) (w.alloc (.cells #[.map (some b)] 125)) :=
    AnyZI.keys_gives (ρ := Tryz.keysA_ren) { Tryz.keysA with } Fence.wide _ trivial rfl (by omega) w.heap.size b nn D0 _ (by simp) (by simp) (by
      obtain ⟨es, clock, hb, Ft, hs, hD⟩ := hown
      exact ⟨es, clock, (Below.heap_alloc _ _ b hbl).trans hb, Ft, hs, hD⟩)
  have cK : ∀ mb W, CallsIn Fence.wide 5 Tryz.prog 104 #[.map mb] W fun e w' => e = .returned (.func (.func 120) #[] #[.pointer (some ⟨W.heap.size, 0, none⟩)]) ∧ w' = W.alloc (.cells #[.map mb] 125) := fun mb W => AnyZI.keys_in Tryz.keysA Fence.wide 5 trivial rfl mb W
  have cS := AnyZI.sorted_in Tryz.sortedA Fence.wide 5 trivial trivial trivial trivial rfl (by omega) (sortsA _) (enters_of Tryz.func119 (by kernel_rfl) rfl) 120 #[.pointer (some ⟨w.heap.size, 0, none⟩)] trivial (enters_of Tryz.func120 (by kernel_rfl) rfl) _ _ hmax hbytes _ hseq
  change CallsIn _ _ Tryz.prog 103 _ _ _ at cS
  have hfK : Fence.wide.fn 104 := trivial
  have hfS : Fence.wide.fn 103 := trivial
  clear hown h hseq
  refine callsIn_of_wp Tryz.func83 rfl trivial ?_ rfl
  simp only [Tryz.ntmps83, List.size_toArray, List.length_cons, List.length_nil, Nat.reduceAdd, Nat.reduceSub, Array.replicate_succ, Array.replicate_zero, List.push_toArray, List.append_toArray, List.nil_append, List.cons_append]
  gi_wp2_with (first
    | (gi_at_call 104; refine (cK _ _).mono ?_; rintro e w' ⟨rfl, rfl⟩)
    | (gi_at_call 103; refine cS.mono ?_; rintro e w' ⟨v, ss, rfl, hS, hrow, hnil, hb⟩))
  go_ret
  exact ⟨v, ss, rfl, hS, ownsRow_base_a hrow (by simp), hnil, ((Below.refl _ w).alloc (Nat.le_refl _) _).trans (hb.mono (by simp))⟩

/-- The keys of the map, rising. -/
def keys (D : DataW Value) : List Int := (intKeys D).mergeSort (fun x y => decide (x ≤ y))

/-- Loose: a new slice that holds the keys, rising. -/
theorem loose_keys (a : Nat) (v0 : Value) (b nn : Nat) (D0 : DataW Value) (fused : Bool) (left count : Int) (w : World) (h : IsDevAt w a v0 b fused left count)
    (hown : w.ownsMap Tryz.prog 3 ptrElem b nn D0) (hmax : Maps.size D0 ≤ maxLen) (hbytes : Maps.size D0 * 8 ≤ 140737488355328) :
    Calls Tryz.prog 83 #[.pointer (some ⟨a, 0, none⟩)] w fun e w' => ∃ (p : Option Addr) (cp : Nat), e = .returned (.slice p (keys D0).length cp) ∧
      (0 < (keys D0).length → ∃ g cur, p = some ⟨g, 0, none⟩ ∧ w.heap.size ≤ g ∧ w'.heap[g]? = some (.cells cur 3 (0, 0)) ∧ ∀ (k : Nat) x, (keys D0)[k]? = some x → cur[k]? = some (.int .i64 x)) ∧ Below w.heap.size w w' := by
  refine (loose_any a v0 b nn D0 fused left count w h hown hmax hbytes).mono ?_
  rintro e w' ⟨v, ss, rfl, hperm, hrow, hnil, hb⟩
  have hk : ss.mergeSort (fun x y => decide (x ≤ y)) = keys D0 := mergeSort_of_perm_i hperm
  have hlen : ss.length = (keys D0).length := by rw [← hk]; simp
  rw [hk, hlen] at hrow
  obtain ⟨_, hrow⟩ := hrow
  rcases hrow with ⟨rfl, h0⟩ | ⟨g, cap, cur, rfl, hg, hblk, hcap, _, hsz, htk⟩
  · exact ⟨none, 0, by rw [h0], fun hp => by omega, hb⟩
  · refine ⟨_, cap, rfl, fun _ => ⟨g, cur, rfl, hg, hblk, fun k x hx => ?_⟩, hb⟩
    have h1 : (cur.toList.take ((keys D0).length * 1))[k]? = some (encZ x) := by rw [htk]; simp [hx]
    rw [List.getElem?_take] at h1
    split at h1
    · simpa [encZ] using h1
    · cases h1

end Go.Proofs.YtebdgcoandfocaaGreatDoor
