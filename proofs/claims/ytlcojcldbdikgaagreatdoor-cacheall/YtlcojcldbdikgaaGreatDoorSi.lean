/-
  The document's own cache: Drop.
-/
import Derived.Test.YtlcojcldbdikgaaGreatDoorSh
namespace Go.Proofs.YtlcojcldbdikgaaGreatDoor.Rc
open Go.RowKit Go.Maps

attribute [local go_sem] Oper.semAt_some

theorem own_mono {w : World} {base base' e size : Nat} {v : Value} {n : Nat} {xs : List Value} (ho : w.ownsRow base e size v n xs) (hb : base' ≤ base) : w.ownsRow base' e size v n xs := by
  refine ⟨ho.1, ho.2.imp id ?_⟩
  rintro ⟨g, cap, cur, h1, h2, h3⟩
  exact ⟨g, cap, cur, h1, Nat.le_trans hb h2, h3⟩
def cleanL (L : List RE) : List RE := L.filter fun y => !y.dirty
theorem cleanL_next {L : List RE} {i : Nat} {y : RE} (hy : L[i]? = some y) : cleanL (L.take (i + 1)) = if y.dirty then cleanL (L.take i) else cleanL (L.take i) ++ [y] := by
  unfold cleanL
  rw [List.take_add_one, hy, Option.toList_some, List.filter_append]
  cases h : y.dirty <;> simp [h]
theorem cleanL_le (L : List RE) : (cleanL L).length ≤ L.length := List.length_filter_le _ _

set_option maxRecDepth 8000 in
set_option maxHeartbeats 4000000 in
theorem rdrop_any (base r : Nat) (vv lv : Value) (S : RS) (w : World) (h : RF w base r vv lv S) (hl : S.L.length ≤ 10000) :
    Calls Tryz.prog 19 #[.pointer (some ⟨r, 0, none⟩)] w fun e w' => e = .returned (.tuple #[]) ∧ Fr base w w' ∧ ∃ lv', RF w' base r vv lv' { S with L := cleanL S.L } := by
  obtain ⟨i0, hi, hz0, hz1, hz2⟩ := heldInfo
  have hu : Tryz.prog.underlying 30 = some (.slice 68) := Tryz.underlying30
  obtain ⟨pL, cL, rfl, _, _⟩ := own_form h.row
  obtain ⟨n, hn⟩ : ∃ n, S.L.length = n := ⟨_, rfl⟩
  have c2 : w.cell? ⟨r, 2, none⟩ = some (.slice pL n cL) := by rw [← hn]; exact cellOf h.cell 2
  have H0 : Hid (RF w base r vv (.slice pL S.L.length cL) S ∧ base ≤ w.heap.size) := ⟨h, by have := h.lo; have := block_lt h.cell; omega⟩
  rw [hn] at hl
  clear h
  go_enter Tryz.func19, Tryz.ntmps19
  go_wp2_with fail
  go_loopw [2, 3] (fun ll ii wr => ∃ i : Nat, ii = .int .i64 i ∧ i ≤ n ∧ (∃ p m c, ll = .slice p m c) ∧ Hid (wr.ownsRow w.heap.size 68 5 ll (cleanL (S.L.take i)).length (rows (cleanL (S.L.take i))) ∧ Below w.heap.size w wr)) (fun _ ii _ => n - (intOf ii).toNat)
  case atStart => exact ⟨0, rfl, by omega, ⟨_, _, _, rfl⟩, by simpa [cleanL, rows] using World.ownsRow_nil w w.heap.size 68 5, Below.refl _ _⟩
  case round =>
    obtain ⟨i, rfl, hin, ⟨p, m, c, rfl⟩, HI⟩ := hrel
    have c2r := (HI.out.2.cell (p := ⟨r, 2, none⟩) (cell_lt c2)).trans c2
    by_cases hlt : i < n
    · have hltI : (i : Int) < (n : Int) := by omega
      obtain ⟨y, hy⟩ : ∃ y, S.L[i]? = some y := ⟨_, List.getElem?_eq_getElem (by omega)⟩
      obtain ⟨gr, cr, er, _, hc⟩ := (H0.out.1.below HI.out.2).at_ hy
      injection er with er1 er2 er3
      subst er1
      have d3 : wr.cell? ⟨gr, i * 5 + 3, none⟩ = some (.bool y.dirty) := hc 3 (by omega)
      cases hd : y.dirty with
      | true =>
        rw [hd] at d3
        have HN : Hid (wr.ownsRow w.heap.size 68 5 (.slice p m c) (cleanL (S.L.take (i + 1))).length (rows (cleanL (S.L.take (i + 1)))) ∧ Below w.heap.size w wr) := by
          rw [cleanL_next hy, hd]; exact HI.out
        clear hc er2 er3 hy HI
        go_wp2_with fail
        exact ⟨⟨i + 1, by go_num, by omega, ⟨_, _, _, rfl⟩, HN⟩, by simp [intOf]; omega⟩
      | false =>
        rw [hd] at d3
        obtain ⟨bp, bn, bc, hb⟩ : ∃ bp bn bc, y.b = ⟨bp, bn, bc⟩ := ⟨y.b.p, y.b.n, y.b.c, rfl⟩
        have e0 : wr.cell? ⟨gr, i * 5, none⟩ = some (.int .i64 (y.block : Nat)) := hc 0 (by omega)
        have e1 : wr.cell? ⟨gr, i * 5 + 1, none⟩ = some (.int .i64 (y.pins : Nat)) := hc 1 (by omega)
        have e2 : wr.cell? ⟨gr, i * 5 + 2, none⟩ = some (.int .i64 (y.used : Nat)) := hc 2 (by omega)
        have e4 : wr.cell? ⟨gr, i * 5 + 4, none⟩ = some (.slice bp bn bc) := by have := hc 4 (by omega); rw [this]; simp [reCells, hb, SV.val]
        obtain ⟨W1, hW1⟩ : ∃ W1, W1 = wr.alloc (.cells #[.int .i64 (y.block : Nat), .int .i64 (y.pins : Nat), .int .i64 (y.used : Nat), .bool false, .slice bp bn bc] 68) := ⟨_, rfl⟩
        have hb1 : Below wr.heap.size wr W1 := by rw [hW1]; exact (Below.refl _ wr).alloc (Nat.le_refl _) _
        have hnw : W1.heap[wr.heap.size]? = some (.cells (reCells y).toArray 68 (0, 0)) := by
          rw [hW1]
          have := heap_alloc_new wr (.cells #[.int .i64 (y.block : Nat), .int .i64 (y.pins : Nat), .int .i64 (y.used : Nat), .bool false, .slice bp bn bc] 68)
          rw [this]; simp [reCells, hb, hd, SV.val]
        have hrow1 := (only_below hb1 (fun _ => False)).owns HI.out.1 (fun _ _ f => f)
        have hcl := cleanL_le (S.L.take i)
        rw [List.length_take] at hcl
        obtain ⟨v2, W2, hrun, hown, hgr, _, hat⟩ := run_append_own_at (P := Tryz.prog) W1 w.heap.size 30 30 68 i0 _ 5 56 hu hi hz0 hz1 hz2 rfl (by decide) (.slice p m c) _ _ hrow1 ⟨wr.heap.size, 0, none⟩ 1 1 (reCells y) rfl (fun j u hj => by rw [Addr.add_lit, Nat.zero_add, cellOf hnw]; simpa using hj) (by intro u hu; simp [reCells, SV.val] at hu; rcases hu with rfl | rfl | rfl | rfl | rfl <;> rfl) (by unfold maxLen; omega) (by omega) (Nat.le_trans HI.out.2.size hb1.size)
        obtain ⟨p2, c2', rfl, _⟩ := own_form hown
        have HN : Hid (W2.ownsRow w.heap.size 68 5 (.slice p2 ((cleanL (S.L.take i)).length + 1) c2') (cleanL (S.L.take (i + 1))).length (rows (cleanL (S.L.take (i + 1)))) ∧ Below w.heap.size w W2) := by
          refine ⟨?_, (HI.out.2.trans (hb1.mono HI.out.2.size)).trans (Only.below (only_grown hgr) (Nat.le_trans HI.out.2.size hb1.size) (fun k hk => (own_tag hrow1 hk).1))⟩
          rw [cleanL_next hy, hd]
          have hrows : rows (cleanL (S.L.take i)) ++ reCells y = rows (cleanL (S.L.take i) ++ [y]) := by rw [rows_append]; simp [rows]
          rw [hrows] at hown
          simpa using hown
        rw [hW1] at hrun
        clear hc er2 er3 hy HI hown hgr hat hrow1 hnw hb1 hW1
        go_wp2_with (at_builtin; refine Lib.wpList_append_run _ rfl _ _ _ _ rfl _ _ rfl rfl _ _ hrun ?_)
        exact ⟨⟨i + 1, by go_num, by omega, ⟨_, _, _, rfl⟩, HN⟩, by simp [intOf]; omega⟩
    · have hE : i = n := by omega
      subst hE
      have hge : ¬ (i : Int) < (i : Int) := by omega
      have hR := H0.out.1.below HI.out.2
      have f2 := frozenOf hR.cell 2
      have ho : Only (fun k => k = r) wr (wr.setCell ⟨r, 2, none⟩ (.slice p m c)) := Only.setCell _ _ _ rfl
      have htk : S.L.take i = S.L := List.take_of_length_le (by omega)
      have HF : Hid (Fr base w (wr.setCell ⟨r, 2, none⟩ (.slice p m c)) ∧ ∃ lv', RF (wr.setCell ⟨r, 2, none⟩ (.slice p m c)) base r vv lv' { S with L := cleanL S.L }) := by
        have hrow := HI.out.1
        rw [htk] at hrow
        refine ⟨(Fr.below HI.out.2).trans (Only.weak ho (fun k _ hk => by rw [hk]; exact ⟨hR.lo, _, _, _, hR.cell, .inl rfl⟩)), .slice p m c, hR.lo, by rw [set_same hR.cell]; simp, ?_, ho.owns hR.vrow (fun g hg e => hR.ne.2.1 (by rw [hg, e]))⟩
        exact ho.owns (own_mono hrow H0.out.2) (fun g hg e => by have := (own_tag hrow hg).1; have := block_lt H0.out.1.cell; omega)
      clear hR ho htk HI
      go_wp2
      refine bodyPost_end (results_none rfl _ _ _) rfl ?_
      exact ⟨rfl, HF.out⟩

end Go.Proofs.YtlcojcldbdikgaaGreatDoor.Rc
