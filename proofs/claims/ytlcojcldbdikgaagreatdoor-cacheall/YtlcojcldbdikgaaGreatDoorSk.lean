/-
  The document's own cache: Commit.
-/
import Derived.Test.YtlcojcldbdikgaaGreatDoorSj
namespace Go.Proofs.YtlcojcldbdikgaaGreatDoor.Rc
open Go.RowKit Go.Maps

attribute [local go_sem] Oper.semAt_some

/-- What the first i entries give the volume. -/
def comR (S : RS) : Nat → RS
  | 0 => S
  | i + 1 => match (comR S i).L[i]? with
    | some y => if y.dirty then { comR S i with V := (comR S i).V.set y.block y.b, L := (comR S i).L.set i { y with dirty := false } } else comR S i
    | none => comR S i
theorem comR_len (S : RS) (i : Nat) : (comR S i).L.length = S.L.length ∧ (comR S i).V.length = S.V.length := by
  induction i with
  | zero => exact ⟨rfl, rfl⟩
  | succ i ih =>
    unfold comR
    split
    · split
      · exact ⟨by simpa using ih.1, by simpa using ih.2⟩
      · exact ih
    · exact ih
theorem comR_at (S : RS) (i : Nat) : ∀ j, i ≤ j → (comR S i).L[j]? = S.L[j]? := by
  induction i with
  | zero => intro j _; rfl
  | succ i ih =>
    intro j hj
    unfold comR
    split
    · split
      · simp only
        rw [List.getElem?_set_ne (by omega)]
        exact ih j (by omega)
      · exact ih j (by omega)
    · exact ih j (by omega)
/-- A block of the volume is set. -/
theorem RF.setV {w : World} {base r gV cV x : Nat} {lv : Value} {S : RS} (h : RF w base r (.slice (some ⟨gV, 0, none⟩) S.V.length cV) lv S) (sv : SV) : RF (w.setCell ⟨gV, x, none⟩ sv.val) base r (.slice (some ⟨gV, 0, none⟩) S.V.length cV) lv { S with V := S.V.set x sv } ∧ Fr base w (w.setCell ⟨gV, x, none⟩ sv.val) := by
  have ho : Only (fun j => j = gV) w (w.setCell ⟨gV, x, none⟩ sv.val) := Only.setCell w ⟨gV, x, none⟩ _ rfl
  have hne := h.ne
  obtain ⟨hb, cur, hg⟩ := own_tag h.vrow (g := gV) rfl
  refine ⟨⟨h.lo, (ho.block r (block_lt h.cell) (fun e => hne.2.1 (by rw [e]; rfl))).trans h.cell, ho.owns h.row (fun g hg' e => hne.2.2 gV rfl (by rw [hg', e])), ?_⟩, Only.weak ho (fun j _ hj => by rw [hj]; exact ⟨hb, _, _, _, hg, .inr (.inr rfl)⟩)⟩
  show (w.setCell ⟨gV, x, none⟩ sv.val).ownsRow base 33 1 (.slice (some ⟨gV, 0, none⟩) S.V.length cV) (S.V.set x sv).length ((S.V.set x sv).map SV.val)
  rw [List.length_set, List.map_set]
  exact own_set h.vrow _

set_option maxRecDepth 8000 in
set_option maxHeartbeats 4000000 in
theorem rcommit_any (base r : Nat) (vv lv : Value) (S : RS) (w : World) (h : RF w base r vv lv S) (hl : S.L.length ≤ 10000) (hb : ∀ y ∈ S.L, y.block < S.V.length) :
    Calls Tryz.prog 17 #[.pointer (some ⟨r, 0, none⟩)] w fun e w' => e = .returned (.tuple #[]) ∧ Fr base w w' ∧ RF w' base r vv lv (comR S S.L.length) := by
  obtain ⟨pL, cL, rfl, _, _⟩ := own_form h.row
  obtain ⟨pV, cV, rfl, _, hpV⟩ := own_form h.vrow
  have hpV' : 0 < S.V.length → ∃ g, pV = some ⟨g, 0, none⟩ := fun h0 => by obtain ⟨g, e, _⟩ := hpV h0; exact ⟨g, e⟩
  obtain ⟨n, hn⟩ : ∃ n, S.L.length = n := ⟨_, rfl⟩
  obtain ⟨nV, hnV⟩ : ∃ nV, S.V.length = nV := ⟨_, rfl⟩
  have H0 : Hid (RF w base r (.slice pV S.V.length cV) (.slice pL S.L.length cL) S ∧ (∀ y ∈ S.L, y.block < S.V.length) ∧ (0 < S.V.length → ∃ g, pV = some ⟨g, 0, none⟩)) := ⟨h, hb, hpV'⟩
  rw [hn] at hl
  clear h hb hpV hpV'
  rw [hn, hnV] at H0
  rw [hn, hnV]
  go_enter Tryz.func17, Tryz.ntmps17
  go_wp2_with fail
  go_loopw [2] (fun ii wr => ∃ i : Nat, ii = .int .i64 i ∧ i ≤ n ∧ Hid (RF wr base r (.slice pV nV cV) (.slice pL n cL) (comR S i) ∧ Fr base w wr)) (fun ii _ => n - (intOf ii).toNat)
  case atStart => exact ⟨0, rfl, by omega, H0.out.1, Fr.refl _ _⟩
  case round =>
    obtain ⟨i, rfl, hin, HI⟩ := hrel
    obtain ⟨hR, hf⟩ := HI.out
    have c2 : wr.cell? ⟨r, 2, none⟩ = some (.slice pL n cL) := cellOf hR.cell 2
    by_cases hlt : i < n
    · have hltI : (i : Int) < (n : Int) := by omega
      obtain ⟨y, hy⟩ : ∃ y, S.L[i]? = some y := ⟨_, List.getElem?_eq_getElem (by omega)⟩
      have hyi : (comR S i).L[i]? = some y := by rw [comR_at S i i (Nat.le_refl _)]; exact hy
      obtain ⟨gL, cL', eL, _, hc⟩ := hR.at_ hyi
      injection eL with eL1 eL2 eL3
      subst eL1
      have d3 : wr.cell? ⟨gL, i * 5 + 3, none⟩ = some (.bool y.dirty) := hc 3 (by omega)
      cases hd : y.dirty with
      | false =>
        rw [hd] at d3
        have HN : Hid (RF wr base r (.slice pV nV cV) (.slice (some ⟨gL, 0, none⟩) n cL) (comR S (i + 1)) ∧ Fr base w wr) := by
          have : comR S (i + 1) = comR S i := by
            conv => lhs; unfold comR
            rw [hyi]; simp [hd]
          rw [this]; exact ⟨hR, hf⟩
        clear hc eL2 eL3 hy hyi hR hf HI
        go_wp2_with fail
        exact ⟨⟨i + 1, by go_num, by omega, HN⟩, by simp [intOf]; omega⟩
      | true =>
        rw [hd] at d3
        have hyb := H0.out.2.1 y (List.mem_of_getElem? hy)
        obtain ⟨gV, hgV⟩ := H0.out.2.2 (by omega)
        subst hgV
        have c0 : wr.cell? ⟨r, 0, none⟩ = some (.slice (some ⟨gV, 0, none⟩) nV cV) := cellOf hR.cell 0
        have d0 : wr.cell? ⟨gL, i * 5, none⟩ = some (.int .i64 (y.block : Nat)) := hc 0 (by omega)
        have d4 : wr.cell? ⟨gL, i * 5 + 4, none⟩ = some y.b.val := hc 4 (by omega)
        have hVl := (comR_len S i).2
        rw [hnV] at hVl
        obtain ⟨yv, cy⟩ : ∃ yv, wr.cell? ⟨gV, y.block, none⟩ = some yv := by
          obtain ⟨pp, cc, e, _, hp⟩ := own_form hR.vrow
          obtain ⟨g', e', _, hcc⟩ := hp (by omega)
          injection e with e1
          rw [e'] at e1
          injection e1 with e1
          injection e1 with e1
          subst e1
          rw [hcc y.block (by omega)]
          exact ⟨_, List.getElem?_eq_getElem (by simp; omega)⟩
        have hne := hR.ne
        have HN : Hid (∀ W0, Below wr.heap.size wr W0 → RF ((W0.setCell ⟨gV, y.block, none⟩ y.b.val).setCell ⟨gL, i * 5 + 3, none⟩ (.bool false)) base r (.slice (some ⟨gV, 0, none⟩) nV cV) (.slice (some ⟨gL, 0, none⟩) n cL) (comR S (i + 1)) ∧ Fr base w ((W0.setCell ⟨gV, y.block, none⟩ y.b.val).setCell ⟨gL, i * 5 + 3, none⟩ (.bool false)) ∧ (W0.setCell ⟨gV, y.block, none⟩ y.b.val).cell? ⟨r, 2, none⟩ = some (.slice (some ⟨gL, 0, none⟩) n cL) ∧ (W0.setCell ⟨gV, y.block, none⟩ y.b.val).cell? ⟨gL, i * 5 + 3, none⟩ = some (.bool true) ∧ (W0.setCell ⟨gV, y.block, none⟩ y.b.val).frozen? ⟨gL, i * 5 + 3, none⟩ = false) := fun W0 hb0 => by
          have hR0 := hR.below hb0
          have hLl := (comR_len S i).1
          rw [hn] at hLl
          have hVV := RF.setV (x := y.block) (S := comR S i) (by rw [hVl]; exact hR0) y.b
          rw [hVl] at hVV
          have hEE := RF.setE (k := i) (q := 3) (u := .bool false) (S := { comR S i with V := (comR S i).V.set y.block y.b }) (y := y) (y' := { y with dirty := false }) (gL := gL) (cL := cL) (by show RF _ base r _ (.slice (some ⟨gL, 0, none⟩) (comR S i).L.length cL) _; rw [hLl]; exact hVV.1) hyi (by omega) (by simp [reCells, hd])
          have hst : comR S (i + 1) = { comR S i with V := (comR S i).V.set y.block y.b, L := (comR S i).L.set i { y with dirty := false } } := by
            conv => lhs; unfold comR
            rw [hyi]; simp [hd]
          obtain ⟨g5, c5, e5, _, hc5⟩ := hVV.1.at_ (i := i) (x := y) hyi
          injection e5 with e51 e52 e53
          injection e51 with e51
          injection e51 with e51
          subst e51
          refine ⟨?_, (hf.trans (Fr.below hb0)).trans (hVV.2.trans hEE.2), cellOf hVV.1.cell 2, by rw [hc5 3 (by omega)]; simp [reCells, hd], ?_⟩
          · rw [hst]
            have := hEE.1
            simp only [hLl] at this
            exact this
          · obtain ⟨_, cur, hg⟩ := own_tag hVV.1.row rfl
            exact frozenOf hg _
        have hgg := (own_tag hR.vrow (g := gV) rfl).2
        have hnr : ¬ r = gV := fun e => hne.2.1 (by rw [e]; rfl)
        have hnl : ¬ gL = gV := fun e => hne.2.2 gV rfl (by rw [e]; rfl)
        clear hc eL2 eL3 hy hyi hR hf HI hne hVl
        go_wp2_with fail
        refine com_reg4 (by kernel_rfl) r i y.block n cL gL nV cV gV y.b yv wr rfl rfl rfl c0 c2 hlt hyb d0 d4 cy hgg hnr hnl ?_
        intro W0 hb0
        simp only [putAll, List.setIfInBounds_toArray, List.set_cons_zero, List.set_cons_succ]
        obtain ⟨q1, q2, q3, q4, q5⟩ := HN.out W0 hb0
        have HM : Hid (RF ((W0.setCell ⟨gV, y.block, none⟩ y.b.val).setCell ⟨gL, i * 5 + 3, none⟩ (.bool false)) base r (.slice (some ⟨gV, 0, none⟩) nV cV) (.slice (some ⟨gL, 0, none⟩) n cL) (comR S (i + 1)) ∧ Fr base w ((W0.setCell ⟨gV, y.block, none⟩ y.b.val).setCell ⟨gL, i * 5 + 3, none⟩ (.bool false))) := ⟨q1, q2⟩
        obtain ⟨W5, hW5⟩ : ∃ W5, W5 = W0.setCell ⟨gV, y.block, none⟩ y.b.val := ⟨_, rfl⟩
        rw [← hW5] at q3 q4 q5 HM
        rw [← hW5]
        clear q1 q2 HN hb0 hgg c0 d0 d4 cy d3 c2 hW5
        go_wp2_with fail
        exact ⟨⟨i + 1, by go_num, by omega, HM⟩, by simp [intOf]; omega⟩
    · have hE : i = n := by omega
      subst hE
      have hge : ¬ (i : Int) < (i : Int) := by omega
      have HF : Hid (Fr base w wr ∧ RF wr base r (.slice pV nV cV) (.slice pL i cL) (comR S i)) := ⟨hf, hR⟩
      clear hR hf HI
      go_wp2
      refine bodyPost_end (results_none rfl _ _ _) rfl ?_
      exact ⟨rfl, HF.out⟩

end Go.Proofs.YtlcojcldbdikgaaGreatDoor.Rc
