/-
  begun of the law's package: a block is lost, another one is kept.
-/
import Derived.Test.YtnobebgnbofdpaaCrash
import Derived.Test.YtnobebgnbofdpaaFull
import Derived.Lib.SlBytesConst
namespace Go.Proofs.Ytnobebgnbofdpaa
open Go.RowKit Go.Maps Go.Sort Go.Shelf

set_option maxHeartbeats 400000 in
theorem keepTwo (i : Int) (w : World) :
    Calls Try.prog 25 (#[.int .i64 i] ++ #[]) w fun e w' => e = .returned (.bool (i == 2)) ∧ w' = w := by
  show Calls Try.prog 25 #[.int .i64 i] w _
  go_enter Try.func25, Try.ntmps25
  go_wp2
  go_ret
  exact ⟨rfl, rfl⟩

/-- The map's datum behind the two Writes. -/
def D1 : DataW Value := loosened (.map []) 0 none
def D2 : DataW Value := loosened D1 2 none
theorem D2_keys : keys D2 = [0, 2] := by
  have h : intKeys D2 = [0, 2] := by rfl
  unfold keys
  rw [h]
  exact List.mergeSort_of_pairwise (by decide)
theorem D2_at0 : D2.atKey (.int .i64 0) (ptrD none) = ptrD none := by rfl
theorem D2_size : Maps.size D2 = 2 := by rfl

theorem ownsMap_empty {w : World} {m : Nat} (h : w.heap[m]? = some (.map #[] 0)) : w.ownsMap Try.prog 3 ptrElem m 0 (.map []) :=
  ⟨#[], 0, h, ⟨by simp, MapKept.stamped_empty 0, by simp⟩, Nat.le_refl _, rfl⟩

/-- The bytes that are written. -/
def bytesA : List Value := (full [97] 512).map u8
theorem bytesA_length : bytesA.length = 512 := by rw [bytesA, List.length_map, full_length]
theorem bytesA_one : ∀ v ∈ bytesA, v.oneCell' = true := by
  intro v hv
  obtain ⟨x, _, rfl⟩ := List.mem_map.1 hv
  rfl
theorem bytesA_zero : bytesA[0]? = some (.int .u8 97) := by
  unfold bytesA full
  simp [u8]
theorem zeros_zero : zeros[0]? = some (.int .u8 0) := by
  unfold zeros
  rw [List.getElem?_replicate, if_pos (by decide)]

set_option maxHeartbeats 1000000 in
theorem begun_any (w : World) : Calls Try.prog 6 #[] w fun e w' => e = .returned (.bool true) ∧ Below w.heap.size w w' := by
  have kc := fun (w : World) (C : Array Value) (n c : Nat) => Lib.run_convert_bytes_const (P := Try.prog) w 28 5 C n c Try.underlying28 Try.underlying5
  go_enter Try.func6, Try.ntmps6
  go_wp2_with fail
  refine (new_yes 3 w (by omega) (by omega)).mono ?_
  rintro e w1 ⟨a, m, rfl, _, hsm, hma, ha, hdev, hrow, hmap, hB1⟩
  go_wp2_with fail
  have hBa : Below w1.heap.size w1 (w1.alloc (.cells #[.int .u8 97] 5 (1, 2))) := (Below.refl _ _).alloc (Nat.le_refl _) _
  refine (show Calls Try.prog 9 #[.slice (some ⟨w1.heap.size, 0, none⟩) 1 1, .int .i64 512] _ _ from full_any [97] (some ⟨w1.heap.size, 0, none⟩) 1 512 (w1.alloc (.cells #[.int .u8 97] 5 (1, 2))) (by omega) (by decide)
    (fun _ => ⟨w1.heap.size, 0, rfl, fun j x hj => by rw [Nat.zero_add, World.cell?_alloc_mark]; cases j with | zero => simp at hj; subst hj; rfl | succ j => simp at hj⟩)).mono ?_
  rintro e w3 ⟨rfl, hb3, hB3⟩
  rw [World.size_alloc] at hb3 hB3
  clear kc
  have hB3' : Below w1.heap.size w1 w3 := hBa.trans (hB3.mono (Nat.le_succ _))
  have hdev3 : IsDevAt w3 a (.slice (some ⟨w.heap.size, 0, none⟩) 3 3) m false 0 0 := (hB3'.block a ha).trans hdev
  have hrow3 : w3.heap[w.heap.size]? = some (.cells (List.replicate 3 (.pointer none)).toArray 53 (0, 0)) := (hB3'.block _ (by omega)).trans hrow
  have hown3 : w3.ownsMap Try.prog 3 ptrElem m 0 (.map []) := ownsMap_empty ((hB3'.block m (by omega)).trans hmap)
  have hcell3 : ∀ j v, bytesA[j]? = some v → w3.cell? ⟨w1.heap.size + 1, 0 + j, none⟩ = some v := fun j v hj => by
    rw [Nat.zero_add, cellOf hb3 j, List.getElem?_toArray]
    exact hj
  clear hdev hrow hmap hb3
  go_wp2_with fail
  refine (show Calls Try.prog 10 #[.pointer (some ⟨a, 0, none⟩), .int .i64 0, .slice (some ⟨w1.heap.size + 1, 0, none⟩) 512 512] _ _ from
    write_yes 0 (w1.heap.size + 1) 0 512 bytesA a w.heap.size 3 3 m 0 (.map []) _ none false 0 0 w3 hdev3 hrow3 hown3 (by unfold maxLen; omega) (by omega) (by omega) (by omega) rfl bytesA_length bytesA_one hcell3 rfl (by omega) (by omega) (by intro h; cases h)).mono ?_
  rintro e w4 ⟨g0, rfl, hw4⟩
  have hsz3 : w1.heap.size + 1 < w3.heap.size := by
    by_cases hx : w1.heap.size + 1 < w3.heap.size
    · exact hx
    · have := hcell3 0 _ bytesA_zero
      simp [World.cell?, Array.getElem?_eq_none (Nat.not_lt.1 hx)] at this
  have hcell4 : ∀ j v, bytesA[j]? = some v → w4.cell? ⟨w1.heap.size + 1, 0 + j, none⟩ = some v := fun j v hj =>
    (World.cell?_of_block (w := w3) (hw4.but.block (w1.heap.size + 1) hsz3 (by rintro (h | h | h) <;> omega))).trans (hcell3 j v hj)
  go_wp2_with fail
  refine (show Calls Try.prog 10 #[.pointer (some ⟨a, 0, none⟩), .int .i64 2, .slice (some ⟨w1.heap.size + 1, 0, none⟩) 512 512] _ _ from
    write_yes 2 (w1.heap.size + 1) 0 512 bytesA a w.heap.size 3 3 m 1 D1 _ none false 0 1 w4 hw4.dev hw4.row hw4.own (by unfold maxLen; omega) (by omega) (by omega) (by omega) rfl bytesA_length bytesA_one hcell4 rfl (by omega) (by omega) (by intro h; cases h)).mono ?_
  rintro e w5 ⟨g2, rfl, hw5⟩
  have hb5 : w5.heap[g2]? = some (.cells bytesA.toArray 59 (0, 0)) := hw5.blk
  have hdev5 : IsDevAt w5 a (.slice (some ⟨w.heap.size, 0, none⟩) 3 3) m false 0 2 := hw5.dev
  obtain ⟨cur5, hcur5⟩ : ∃ cur5, cur5 = ((List.replicate 3 (Value.pointer none)).toArray.setIfInBounds 0 (.pointer (some ⟨g0, 0, none⟩))).setIfInBounds 2 (.pointer (some ⟨g2, 0, none⟩)) := ⟨_, rfl⟩
  have hrow5 : w5.heap[w.heap.size]? = some (.cells cur5 53 (0, 0)) := by rw [hcur5]; exact hw5.row
  have hown5 : w5.ownsMap Try.prog 3 ptrElem m 2 D2 := hw5.own
  have hB5 : Below w.heap.size w w5 := by
    have hs1 := hB1.size
    have hs3 := hB3'.size
    have hs4 := hw4.but.size
    exact ((hB1.trans (hB3'.mono hs1)).trans (hw4.but.below (by omega) (by rintro k (h | h | h) <;> omega))).trans (hw5.but.below (by omega) (by rintro k (h | h | h) <;> omega))
  have hcr := crash_any (.func (.func 25) #[] #[]) a w.heap.size 3 3 m 2 D2 cur5 false 0 2 w5 hdev5 hrow5 hown5 (by omega) (by omega) (by rw [hcur5]; simp)
    (by
      intro i hi
      rw [hcur5]
      match i, hi with
      | 0, _ => exact ⟨_, rfl⟩
      | 1, _ => exact ⟨_, rfl⟩
      | 2, _ => exact ⟨_, rfl⟩)
    (by rw [D2_size]; unfold maxLen; omega) (by rw [D2_size]; omega) (by rw [D2_keys]; intro x hx; simp at hx; omega) (by rw [D2_keys]; decide)
    (fun i => i == 2) (fun _ => False) (fun _ h => h.elim) (fun _ _ => True) trivial (fun _ _ _ _ _ => trivial)
    (fun k x W _ _ => (kept_fn x 25 #[] W (fun b W' => b = (x == 2) ∧ W' = W) (enters_of Try.func25 (by kernel_rfl) rfl) ((keepTwo x W).mono (by rintro e W' ⟨rfl, rfl⟩; exact ⟨_, rfl, rfl, rfl⟩))).mono (by
      rintro e W' ⟨b, rfl, rfl, rfl⟩
      exact ⟨rfl, trivial, But.refl _ _⟩))
  rw [D2_keys] at hcr
  clear hw4 hw5 hdev3 hrow3 hown3 hcell3 hcell4
  go_wp2_with fail
  refine hcr.mono ?_
  rintro e w6 ⟨a', g', cap', m', rfl, hin, _⟩
  clear hcr
  have hbut6 : ∀ b o, w5.heap[b]? = some o → w6.heap[b]? = some o := fun b o ho => (hin.but.block b (Array.getElem?_eq_some_iff.1 ho).1 (fun h => h)).trans ho
  obtain ⟨curk, hr6, hn6, hrow6⟩ := hin.row
  obtain ⟨q0, hq0, hq0', _⟩ := hrow6 0 (by omega)
  have eq0 : q0 = none := by
    have := hq0' ⟨by rw [D2_keys]; decide, rfl⟩
    have h2 := this.symm.trans D2_at0
    simpa [ptrD] using h2
  subst eq0
  obtain ⟨q2, hq2, _, hq2'⟩ := hrow6 2 (by omega)
  have eq2 : q2 = some ⟨g2, 0, none⟩ := by
    have h1 := hq2' (by rintro ⟨_, h⟩; cases h)
    rw [hcur5] at h1
    have h2 : some (Value.pointer (some ⟨g2, 0, none⟩)) = some (.pointer q2) := h1
    simpa using h2.symm
  subst eq2
  have r0 := read_yes 0 a' g' 3 cap' m' false 0 0 curk none zeros w6 hin.dev hr6 (by omega) hq0 (.inl ⟨rfl, rfl⟩)
  go_wp2_with fail
  refine (show Calls Try.prog 20 #[.pointer (some ⟨a', 0, none⟩), .int .i64 0] _ _ from r0).mono ?_
  rintro e w7 ⟨rfl, hz7, hB7⟩
  clear r0
  have new7 : ∀ b o, w6.heap[b]? = some o → w7.heap[b]? = some o := fun b o ho => (hB7.block b (Array.getElem?_eq_some_iff.1 ho).1).trans ho
  have r2 := read_yes 2 a' g' 3 cap' m' false 0 0 curk (some ⟨g2, 0, none⟩) bytesA w7 (new7 _ _ hin.dev) (new7 _ _ hr6) (by omega) hq2 (.inr ⟨g2, rfl, new7 _ _ (hbut6 _ _ hb5), bytesA_length, bytesA_one⟩)
  go_wp2_with fail
  refine (show Calls Try.prog 20 #[.pointer (some ⟨a', 0, none⟩), .int .i64 2] _ _ from r2).mono ?_
  rintro e w8 ⟨rfl, hz8, hB8⟩
  clear r2
  have new8 : ∀ b o, w7.heap[b]? = some o → w8.heap[b]? = some o := fun b o ho => (hB8.block b (Array.getElem?_eq_some_iff.1 ho).1).trans ho
  have old8 : ∀ b o, w5.heap[b]? = some o → w8.heap[b]? = some o := fun b o ho => new8 _ _ (new7 _ _ (hbut6 _ _ ho))
  have l0 : w8.cell? ⟨w6.heap.size, 0, none⟩ = some (.int .u8 0) := by
    rw [cellOf (new8 _ _ hz7) 0, List.getElem?_toArray]
    exact zeros_zero
  have l2 : w8.cell? ⟨w7.heap.size, 0, none⟩ = some (.int .u8 97) := by
    rw [cellOf hz8 0, List.getElem?_toArray]
    exact bytesA_zero
  have hdev8 : IsDevAt w8 a (.slice (some ⟨w.heap.size, 0, none⟩) 3 3) m false 0 2 := old8 _ _ hdev5
  have hown8 : w8.ownsMap Try.prog 3 ptrElem m 2 D2 := by
    obtain ⟨es, clock, hm, r⟩ := hown5
    exact ⟨es, clock, old8 _ _ hm, r⟩
  have hB8' : Below w.heap.size w w8 := by
    have h5 := hB5.size
    have h6 := hin.but.size
    have h7 := hB7.size
    exact ((hB5.trans (hin.but.below h5 (fun _ h => h.elim))).trans (hB7.mono (by omega))).trans (hB8.mono (by omega))
  have cL := loose_keys a _ m 2 D2 false 0 2 w8 hdev8 hown8 (by rw [D2_size]; unfold maxLen; omega) (by rw [D2_size]; omega)
  rw [D2_keys] at cL
  have cC : ∀ W, Below w8.heap.size w8 W → Calls Try.prog 23 #[.pointer (some ⟨a, 0, none⟩)] W fun e w' => e = .returned (.int .i64 2) ∧ w' = W := fun W hW =>
    count_any a _ m false 0 2 W ((hW.block a (Array.getElem?_eq_some_iff.1 hdev8).1).trans hdev8)
  have HO : Hid (Below w.heap.size w w8) := hB8'
  clear hdev8 hown8 hB8' new8 old8 hz8 hB8 new7 hz7 hB7 hbut6 hin hr6 hrow6 hq0 hq2 hq0' hq2' hown5 hrow5 hdev5 hb5 hB5 hcur5
  go_wp2_with (first
    | (go_at_call 24; refine cL.mono ?_; rintro e w9 ⟨p9, c9, rfl, _, hB9⟩)
    | (go_at_call 23; refine Calls_on (cC _ hB9) ?_))
  go_ret
  refine ⟨rfl, HO.out.trans (hB9.mono HO.out.size)⟩

end Go.Proofs.Ytnobebgnbofdpaa
