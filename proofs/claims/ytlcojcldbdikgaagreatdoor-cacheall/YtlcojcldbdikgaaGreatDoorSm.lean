/-
  The document's own cache: Held.
-/
import Derived.Test.YtlcojcldbdikgaaGreatDoorSl
namespace Go.Proofs.YtlcojcldbdikgaaGreatDoor.Rc
open Go.RowKit Go.Maps

attribute [local go_sem] Oper.semAt_some

theorem intInfo : ∃ i, Tryz.prog.info? 3 = some i ∧ i.zero = some (.int .i64 0) ∧ i.size = 1 ∧ i.bytes = 8 := by
  have e : (Tryz.prog.info? 3).map (fun i => (i.zero, i.size, i.bytes)) = some (some (.int .i64 0), 1, 8) := by kernel_rfl
  obtain ⟨i, hi, he⟩ := Option.map_eq_some_iff.1 e
  injection he with h1 h2
  injection h2 with h2 h3
  exact ⟨i, hi, h1, h2, h3⟩
/-- The blocks below n that are held, rising. -/
def heldR (L : List RE) (n : Nat) : List Nat := (List.range n).filter fun b => decide (0 ≤ placeR L b)
theorem heldR_next (L : List RE) (i : Nat) : heldR L (i + 1) = heldR L i ++ if 0 ≤ placeR L i then [i] else [] := by
  unfold heldR
  rw [List.range_succ, List.filter_append]
  congr 1
  by_cases h : 0 ≤ placeR L i <;> simp [h]
theorem heldR_le (L : List RE) (n : Nat) : (heldR L n).length ≤ n := by
  unfold heldR
  refine Nat.le_trans (List.length_filter_le _ _) ?_
  rw [List.length_range]; exact Nat.le_refl _
def numV (b : Nat) : Value := .int .i64 (b : Nat)

set_option maxRecDepth 8000 in
set_option maxHeartbeats 4000000 in
theorem rheld_any (base r : Nat) (vv lv : Value) (S : RS) (w : World) (h : RF w base r vv lv S) (hl : S.L.length ≤ 10000) (hV : S.V.length ≤ 100000) :
    Calls Tryz.prog 40 #[.pointer (some ⟨r, 0, none⟩)] w fun e w' => ∃ v, e = .returned v ∧ w'.ownsRow w.heap.size 3 1 v (heldR S.L S.V.length).length ((heldR S.L S.V.length).map numV) ∧ Below w.heap.size w w' := by
  obtain ⟨i0, hi, hz0, hz1, hz2⟩ := intInfo
  have hu : Tryz.prog.underlying 79 = some (.slice 3) := Tryz.underlying79
  obtain ⟨pL, cL, rfl, _, _⟩ := own_form h.row
  obtain ⟨pV, cV, rfl, _, _⟩ := own_form h.vrow
  obtain ⟨n, hn⟩ : ∃ n, S.V.length = n := ⟨_, rfl⟩
  have c0 : w.cell? ⟨r, 0, none⟩ = some (.slice pV n cV) := by rw [← hn]; exact cellOf h.cell 0
  have H0 : Hid (RF w base r (.slice pV S.V.length cV) (.slice pL S.L.length cL) S ∧ S.L.length ≤ 10000) := ⟨h, hl⟩
  rw [hn] at hV
  rw [hn]
  clear h hl
  go_enter Tryz.func40, Tryz.ntmps40
  go_wp2_with fail
  go_loopw [3, 4] (fun ll ii wr => ∃ i : Nat, ii = .int .i64 i ∧ i ≤ n ∧ (∃ p m c, ll = .slice p m c) ∧ Hid (wr.ownsRow w.heap.size 3 1 ll (heldR S.L i).length ((heldR S.L i).map numV) ∧ Below w.heap.size w wr)) (fun _ ii _ => n - (intOf ii).toNat)
  case atStart => exact ⟨0, rfl, by omega, ⟨_, _, _, rfl⟩, by simpa [heldR] using World.ownsRow_nil w w.heap.size 3 1, Below.refl _ _⟩
  case round =>
    obtain ⟨i, rfl, hin, ⟨p, m, c, rfl⟩, HI⟩ := hrel
    have c0r := (HI.out.2.cell (p := ⟨r, 0, none⟩) (cell_lt c0)).trans c0
    by_cases hlt : i < n
    · have hltI : (i : Int) < (n : Int) := by omega
      obtain ⟨P, hP⟩ : ∃ P, placeR S.L (i : Nat) = P := ⟨_, rfl⟩
      have cP := place_any base r _ pL cL S (i : Nat) wr (H0.out.1.below HI.out.2) (by have := H0.out.2; omega) P hP
      by_cases hp : 0 ≤ P
      · obtain ⟨W1, hW1⟩ : ∃ W1, W1 = wr.alloc (.cells #[.int .i64 (i : Nat)] 3) := ⟨_, rfl⟩
        have hb1 : Below wr.heap.size wr W1 := by rw [hW1]; exact (Below.refl _ wr).alloc (Nat.le_refl _) _
        have hnw : W1.heap[wr.heap.size]? = some (.cells #[.int .i64 (i : Nat)] 3 (0, 0)) := by rw [hW1]; exact heap_alloc_new wr _
        have hrow1 := (only_below hb1 (fun _ => False)).owns HI.out.1 (fun _ _ f => f)
        have hcl := heldR_le S.L i
        obtain ⟨v2, W2, hrun, hown, hgr, _, hat⟩ := run_append_own_at (P := Tryz.prog) W1 w.heap.size 79 79 3 i0 _ 1 8 hu hi hz0 hz1 hz2 rfl (by decide) (.slice p m c) _ _ hrow1 ⟨wr.heap.size, 0, none⟩ 1 1 [numV i] rfl (fun j u hj => by rw [Addr.add_lit, Nat.zero_add, cellOf hnw]; simpa [numV] using hj) (by intro u hu; simp [numV] at hu; subst hu; rfl) (by unfold maxLen; omega) (by omega) (Nat.le_trans HI.out.2.size hb1.size)
        obtain ⟨p2, c2', rfl, _⟩ := own_form hown
        have HN : Hid (W2.ownsRow w.heap.size 3 1 (.slice p2 ((heldR S.L i).length + 1) c2') (heldR S.L (i + 1)).length ((heldR S.L (i + 1)).map numV) ∧ Below w.heap.size w W2) := by
          refine ⟨?_, (HI.out.2.trans (hb1.mono HI.out.2.size)).trans (Only.below (only_grown hgr) (Nat.le_trans HI.out.2.size hb1.size) (fun k hk => (own_tag hrow1 hk).1))⟩
          rw [heldR_next, hP, if_pos hp]
          simpa using hown
        rw [hW1] at hrun
        clear hP HI hown hgr hat hrow1 hnw hb1 hW1 hcl
        go_wp2_with (first | (go_at_call 32; refine Calls_on cP ?_; clear cP) | (at_builtin; refine Lib.wpList_append_run _ rfl _ _ _ _ rfl _ _ rfl rfl _ _ hrun ?_))
        exact ⟨⟨i + 1, by go_num, by omega, ⟨_, _, _, rfl⟩, HN⟩, by simp [intOf]; omega⟩
      · have HN : Hid (wr.ownsRow w.heap.size 3 1 (.slice p m c) (heldR S.L (i + 1)).length ((heldR S.L (i + 1)).map numV) ∧ Below w.heap.size w wr) := by
          rw [heldR_next, hP, if_neg hp, List.append_nil]; exact HI.out
        clear hP HI
        go_wp2_with (go_at_call 32; refine Calls_on cP ?_; clear cP)
        exact ⟨⟨i + 1, by go_num, by omega, ⟨_, _, _, rfl⟩, HN⟩, by simp [intOf]; omega⟩
    · have hE : i = n := by omega
      subst hE
      have hge : ¬ (i : Int) < (i : Int) := by omega
      have HF : Hid (wr.ownsRow w.heap.size 3 1 (.slice p m c) (heldR S.L i).length ((heldR S.L i).map numV) ∧ Below w.heap.size w wr) := HI
      clear HI
      go_wp2
      go_ret
      exact ⟨_, rfl, HF.out.1, HF.out.2⟩

end Go.Proofs.YtlcojcldbdikgaaGreatDoor.Rc
