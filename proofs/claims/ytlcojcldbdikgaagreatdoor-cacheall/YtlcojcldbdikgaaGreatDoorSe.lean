/-
  The document's own cache: hold.
-/
import Derived.Test.YtlcojcldbdikgaaGreatDoorSd
import Derived.Lib.AppendZerosOnto
namespace Go.Proofs.YtlcojcldbdikgaaGreatDoor.Rc
open Go.RowKit Go.Maps

attribute [local go_sem] Oper.semAt_some

/-- What hold leaves. -/
def Hold (base r x : Nat) (vv lv : Value) (S : RS) (w : World) (e : Ending) (w' : World) : Prop :=
  Fr base w w' ∧ ((∃ k : Nat, placeR S.L x = k ∧ e = .returned (.int .i64 (k : Nat)) ∧ RF w' base r vv lv S) ∨
    (placeR S.L x = -1 ∧ S.room ≤ S.L.length ∧ victimR S.L = none ∧ e = .returned (.int .i64 (-1)) ∧ RF w' base r vv lv S) ∨
    (placeR S.L x = -1 ∧ ∃ S0 sv lv', ((S.L.length < S.room ∧ S0 = S) ∨ ∃ j y, S.room ≤ S.L.length ∧ S.L[j]? = some y ∧ victimR S.L = some y ∧ S0 = { S with L := S.L.take j ++ S.L.drop (j + 1), outs := S.outs + 1 }) ∧ S.V[x]? = some sv ∧
      e = .returned (.int .i64 (S0.L.length : Nat)) ∧ RF w' base r vv lv' { S0 with L := S0.L ++ [⟨x, 0, 0, false, sv⟩] }))

theorem RF.fr {w : World} {base r : Nat} {vv lv : Value} {S : RS} (h : RF w base r vv lv S) {w' : World} (ho : Only (fun k => lv.ownBlock = some k ∨ k = r) w w') : Fr base w w' := by
  refine Only.weak ho (fun k _ hk => ?_)
  rcases hk with hk | rfl
  · obtain ⟨h1, cur, h2⟩ := own_tag h.row hk
    exact ⟨h1, _, _, _, h2, .inr (.inl rfl)⟩
  · exact ⟨h.lo, _, _, _, h.cell, .inl rfl⟩
theorem RF.ne {w : World} {base r : Nat} {vv lv : Value} {S : RS} (h : RF w base r vv lv S) : lv.ownBlock ≠ some r ∧ vv.ownBlock ≠ some r ∧ ∀ g, vv.ownBlock = some g → lv.ownBlock ≠ some g := by
  refine ⟨fun e => ?_, fun e => ?_, fun g e e' => ?_⟩
  · obtain ⟨_, cur, h2⟩ := own_tag h.row e
    rw [h.cell] at h2; injection h2 with h2; injection h2 with _ h3 _; exact absurd h3 (by decide)
  · obtain ⟨_, cur, h2⟩ := own_tag h.vrow e
    rw [h.cell] at h2; injection h2 with h2; injection h2 with _ h3 _; exact absurd h3 (by decide)
  · obtain ⟨_, cur, h2⟩ := own_tag h.row e'
    obtain ⟨_, cur2, h3⟩ := own_tag h.vrow e
    rw [h2] at h3; injection h3 with h3; injection h3 with _ h4 _; exact absurd h4 (by decide)
/-- Behind region 16. -/
theorem RF.added {w W : World} {base r x : Nat} {vv lv v2 : Value} {S : RS} {sv : SV} (h : RF w base r vv lv S) (ho : Only (fun k => lv.ownBlock = some k ∨ k = r) w W) (hown : W.ownsRow base 68 5 v2 (S.L.length + 1) (rows (S.L ++ [⟨x, 0, 0, false, sv⟩])))
    (hcell : W.heap[r]? = some (.cells (#[vv, .int .i64 (S.room : Nat), lv, .int .i64 (S.time : Nat), .int .i64 (S.hit : Nat), .int .i64 (S.miss : Nat), .int .i64 (S.outs : Nat)].setIfInBounds 2 v2) 32 (0, 0))) : RF W base r vv v2 { S with L := S.L ++ [⟨x, 0, 0, false, sv⟩] } := by
  refine ⟨h.lo, by simpa using hcell, by simpa using hown, ho.owns h.vrow (fun g hg e => ?_)⟩
  rcases e with e | e
  · exact h.ne.2.2 g hg e
  · exact h.ne.2.1 (by rw [hg, e])

set_option maxRecDepth 8000 in
set_option maxHeartbeats 4000000 in
theorem hold_any (base r x : Nat) (vv lv : Value) (S : RS) (w : World) (h : RF w base r vv lv S) (hx : x < S.V.length) (hl : S.L.length ≤ 10000) (hbig : S.outs < 1000000000000) : Calls Tryz.prog 58 #[.pointer (some ⟨r, 0, none⟩), .int .i64 (x : Nat)] w (Hold base r x vv lv S w) := by
  obtain ⟨pL, cL, rfl, hnc, hpL⟩ := own_form h.row
  obtain ⟨pV, cV, rfl, _, hpV⟩ := own_form h.vrow
  obtain ⟨gV, rfl, _, hcV⟩ := hpV (by omega)
  obtain ⟨P, hP⟩ : ∃ P, placeR S.L x = P := ⟨_, rfl⟩
  have cP := place_any base r _ pL cL S x w h (by omega) P hP
  by_cases hp : 0 ≤ P
  · obtain ⟨k, rfl⟩ := Int.eq_ofNat_of_zero_le hp
    have HR : Hid (Hold base r x (.slice (some ⟨gV, 0, none⟩) S.V.length cV) (.slice pL S.L.length cL) S w (.returned (.int .i64 (k : Nat))) w) := ⟨Fr.refl _ _, .inl ⟨k, hP, rfl, h⟩⟩
    clear h hP hcV hpL hpV
    go_enter Tryz.func58, Tryz.ntmps58
    go_wp2_with (go_at_call 32; refine Calls_on cP ?_; clear cP)
    go_ret
    exact HR.out
  · have hP1 : placeR S.L x = -1 := by
      unfold placeR at hP ⊢
      split at hP
      · omega
      · rfl
    obtain rfl : P = -1 := by rw [← hP, hP1]
    obtain ⟨sv, hsv⟩ : ∃ sv, S.V[x]? = some sv := ⟨_, List.getElem?_eq_getElem hx⟩
    have H0 : Hid (RF w base r (.slice (some ⟨gV, 0, none⟩) S.V.length cV) (.slice pL S.L.length cL) S ∧ placeR S.L x = -1 ∧ S.V[x]? = some sv ∧ base ≤ w.heap.size) := ⟨h, hP1, hsv, by have := h.lo; have := block_lt h.cell; omega⟩
    have c2 : w.cell? ⟨r, 2, none⟩ = some (.slice pL S.L.length cL) := cellOf h.cell 2
    have c1 : w.cell? ⟨r, 1, none⟩ = some (.int .i64 (S.room : Nat)) := cellOf h.cell 1
    have cS : w.cell? ⟨gV, x, none⟩ = some sv.val := by rw [hcV x (by omega)]; simp [hsv]
    obtain ⟨n, hn⟩ : ∃ n, S.L.length = n := ⟨_, rfl⟩
    obtain ⟨nV, hnV⟩ : ∃ nV, S.V.length = nV := ⟨_, rfl⟩
    rw [hn] at c2 hl hnc
    have HN : Hid (S.L.length = n ∧ S.V.length = nV) := ⟨hn, hnV⟩
    clear h hP hP1 hsv hcV hpL hpV
    by_cases hroom : n < S.room
    · have hres : decide (S.room ≤ n) = false := decide_eq_false (by omega)
      go_enter Tryz.func58, Tryz.ntmps58
      go_wp2_with (go_at_call 32; refine Calls_on cP ?_; clear cP)
      refine hold_reg4 (by kernel_rfl) r n cL S.room pL false w rfl rfl c2 c1 hres ?_
      intro W1 hb1
      simp only [putAll, List.setIfInBounds_toArray, List.set_cons_zero, List.set_cons_succ]
      go_wp2_with fail
      have hR1 := H0.out.1.below hb1
      have hne := hR1.ne
      have cS1 := (hb1.cell (p := ⟨gV, x, none⟩) (cell_lt cS)).trans cS
      have hrow := hR1.row
      rw [hn] at hrow hne
      refine hold_reg16 (by kernel_rfl) r x n cL gV nV cV base pL _ S.L sv W1 rfl rfl rfl hR1.cell (by rw [← hnV]; rfl) (by rw [← hn]; rfl) hrow cS1 (by omega) (by omega) (Nat.le_trans H0.out.2.2.2 hb1.size) hne.1 (fun e => hne.2.2 gV rfl e) (fun e => hne.2.1 (by rw [← e]; rfl)) ?_
      intro g W2 ho hown hcell hat
      simp only [putAll, List.setIfInBounds_toArray, List.set_cons_zero, List.set_cons_succ]
      obtain ⟨g1, g2⟩ := g
      simp only at hown hcell hat
      obtain ⟨p3, c3, rfl, _⟩ := own_form hown
      have d2 : W2.cell? ⟨r, 2, none⟩ = some (.slice p3 (n + 1) c3) := by rw [cellOf hcell]; rfl
      have HF : Hid (Hold base r x (.slice (some ⟨gV, 0, none⟩) S.V.length cV) (.slice pL S.L.length cL) S w (.returned (.int .i64 (n : Nat))) W2) := by
        rw [← hn] at ho hown hcell
        refine ⟨(Fr.below hb1).trans (hR1.fr ho), .inr (.inr ⟨H0.out.2.1, S, sv, _, .inl ⟨by omega, rfl⟩, H0.out.2.2.1, by rw [hn], hR1.added ho hown hcell⟩)⟩
      have hsub : ((n + 1 : Nat) : Int) - 1 = (n : Nat) := by omega
      have hsub2 : (n : Int) + 1 - 1 = (n : Nat) := by omega
      clear hown hcell hat ho hR1 hne hrow cS1 hb1
      go_wp2
      go_ret
      exact HF.out
    · have hres : decide (S.room ≤ n) = true := decide_eq_true (by omega)
      go_enter Tryz.func58, Tryz.ntmps58
      go_wp2_with (go_at_call 32; refine Calls_on cP ?_; clear cP)
      refine hold_reg4 (by kernel_rfl) r n cL S.room pL true w rfl rfl c2 c1 hres ?_
      intro W1 hb1
      simp only [putAll, List.setIfInBounds_toArray, List.set_cons_zero, List.set_cons_succ]
      have H1 : Hid (Below w.heap.size w W1) := hb1
      clear hb1
      go_wp2_with fail
      go_loopw [6, 7] (fun oo ii wr => ∃ (i : Nat) (out : Int), i ≤ n ∧ ii = .int .i64 i ∧ oo = .int .i64 out ∧ Hid (OutR S.L i out ∧ Below w.heap.size w wr)) (fun _ ii _ => n - (intOf ii).toNat)
      case atStart => exact ⟨0, -1, Nat.zero_le _, rfl, rfl, .inl ⟨rfl, rfl⟩, H1.out⟩
      case round =>
        obtain ⟨ix, out, hle, rfl, rfl, HI⟩ := hrel
        have c2r := (HI.out.2.cell (p := ⟨r, 2, none⟩) (cell_lt c2)).trans c2
        by_cases hlt : ix < n
        · obtain ⟨y, hy⟩ : ∃ y, S.L[ix]? = some y := ⟨_, List.getElem?_eq_getElem (by omega)⟩
          have hRr := H0.out.1.below HI.out.2
          obtain ⟨gr, cr, er, _, hc⟩ := hRr.at_ hy
          injection er with er1 er2 er3
          subst er1
          have d1 : wr.cell? ⟨gr, ix * 5 + 1, none⟩ = some (.int .i64 (y.pins : Nat)) := hc 1 (by omega)
          have d2 : wr.cell? ⟨gr, ix * 5 + 2, none⟩ = some (.int .i64 (y.used : Nat)) := hc 2 (by omega)
          have d3 : wr.cell? ⟨gr, ix * 5 + 3, none⟩ = some (.bool y.dirty) := hc 3 (by omega)
          obtain ⟨res, HC, HO⟩ : ∃ res : Bool, Hid ((¬ y.pins = 0 ∧ res = false) ∨ (y.pins = 0 ∧ y.dirty = true ∧ res = false) ∨ (y.pins = 0 ∧ y.dirty = false ∧ out = -1 ∧ res = true) ∨ (y.pins = 0 ∧ y.dirty = false ∧ ∃ j uj : Nat, out = (j : Nat) ∧ j < n ∧ wr.cell? ⟨gr, j * 5 + 2, none⟩ = some (.int .i64 (uj : Nat)) ∧ decide (y.used < uj) = res)) ∧ Hid (OutR S.L (ix + 1) (if res then (ix : Int) else out)) := by
            by_cases hp0 : y.pins = 0
            · cases hdy : y.dirty with
              | true => exact ⟨false, .inr (.inl ⟨hp0, rfl, rfl⟩), HI.out.1.step hy (by unfold RE.idle; rw [hdy]; simp)⟩
              | false =>
                have hid : y.idle = true := by unfold RE.idle; rw [hp0, hdy]; rfl
                rcases HI.out.1 with ⟨ho, h2⟩ | ⟨j, z, hj, ho, hz, h2⟩
                · subst ho
                  exact ⟨true, .inr (.inr (.inl ⟨hp0, rfl, rfl, rfl⟩)), OutR.first (.inl ⟨rfl, h2⟩) hy hid⟩
                · subst ho
                  obtain ⟨g', c', e', _, hc'⟩ := hRr.at_ hz
                  injection e' with e'1 e'2 e'3
                  injection e'1 with e'1
                  injection e'1 with e'1
                  subst e'1
                  have hjn : j < n := by omega
                  by_cases hu : y.used < z.used
                  · exact ⟨true, .inr (.inr (.inr ⟨hp0, rfl, j, z.used, rfl, hjn, hc' 2 (by omega), decide_eq_true hu⟩)), OutR.less (.inr ⟨j, z, hj, rfl, hz, h2⟩) hy hid hz hu⟩
                  · exact ⟨false, .inr (.inr (.inr ⟨hp0, rfl, j, z.used, rfl, hjn, hc' 2 (by omega), decide_eq_false hu⟩)), OutR.more (.inr ⟨j, z, hj, rfl, hz, h2⟩) hy hid hz hu⟩
            · exact ⟨false, .inl ⟨hp0, rfl⟩, HI.out.1.step hy (by unfold RE.idle; simp [hp0])⟩
          obtain ⟨pn, hpn⟩ : ∃ pn, y.pins = pn := ⟨_, rfl⟩
          obtain ⟨ui, hui⟩ : ∃ ui, y.used = ui := ⟨_, rfl⟩
          obtain ⟨dy, hdy⟩ : ∃ dy, y.dirty = dy := ⟨_, rfl⟩
          rw [hpn] at d1 HC
          rw [hui] at d2 HC
          rw [hdy] at d3 HC
          clear hRr hc er2 er3 hy hpn hui hdy
          go_wp2_with fail
          refine hold_reg9 (by kernel_rfl) r gr n cL ix pn ui dy out res wr rfl rfl rfl rfl c2r hlt d1 d3 d2 HC.out ?_
          intro u34 u35 u36 u37 u38 u39 u40 u41 u42 u43 u44 u45 u46 u47 u48 u49 u50 u51 u52 u53 u54 u55 u56 u57 u58 u59 u60 u61 u62 u63 u64 u65 u66 u67 u68 u69 u70 u71 u72 u73 u74 u75 W hbW
          simp only [putAll, List.setIfInBounds_toArray, List.set_cons_zero, List.set_cons_succ]
          have HW : Hid (Below w.heap.size w W) := HI.out.2.trans (hbW.mono HI.out.2.size)
          clear hbW d1 d2 d3 c2r HC
          cases res with
          | true =>
            go_wp2_with fail
            exact ⟨⟨ix + 1, (ix : Int), by omega, by go_num, rfl, HO.out, HW.out⟩, by simp [intOf]; omega⟩
          | false =>
            go_wp2_with fail
            exact ⟨⟨ix + 1, out, by omega, by go_num, rfl, HO.out, HW.out⟩, by simp [intOf]; omega⟩
        · have hEq : ix = n := by omega
          subst hEq
          have hge : ¬ (ix : Int) < (ix : Int) := by omega
          have htk : S.L.take ix = S.L := List.take_of_length_le (by omega)
          rcases HI.out.1 with ⟨ho, h2⟩ | ⟨j, y, hj, ho, hy, h2⟩
          · subst ho
            rw [htk] at h2
            have HF : Hid (Hold base r x (.slice (some ⟨gV, 0, none⟩) S.V.length cV) (.slice pL S.L.length cL) S w (.returned (.int .i64 (-1))) wr) := ⟨Fr.below HI.out.2, .inr (.inl ⟨H0.out.2.1, by omega, h2, rfl, H0.out.1.below HI.out.2⟩)⟩
            clear h2 htk
            go_wp2
            go_ret
            have := HF.out
            rw [hnV, hn] at this
            exact this
          · subst ho
            rw [htk] at h2
            obtain ⟨i0, hi, hz0, hz1, hz2⟩ := heldInfo
            have hu : Tryz.prog.underlying 30 = some (.slice 68) := Tryz.underlying30
            have hRr := H0.out.1.below HI.out.2
            obtain ⟨gr, cr, er, hgb, _⟩ := hRr.at_ hy
            injection er with er1 er2 er3
            subst er1
            have hcells : ∀ (q : Nat) (u : Value), (rows S.L)[q]? = some u → wr.cell? ⟨gr, q, none⟩ = some u := fun q u hq => by
              have hql := (List.getElem?_eq_some_iff.1 hq).1
              rw [rows_length] at hql
              rw [hRr.row.cellAt q hql]; exact hq
            have hbase : base ≤ wr.heap.size := Nat.le_trans H0.out.2.2.2 HI.out.2.size
            obtain ⟨v8, W8, hrun13, hown8, hg8, _, hat8⟩ := run_append_own_at (P := Tryz.prog) wr base 30 30 68 i0 _ 5 56 hu hi hz0 hz1 hz2 rfl (by decide) (.slice none 0 0) 0 [] (World.ownsRow_nil _ _ _ _) ⟨gr, 0, none⟩ j cL (rows (S.L.take j)) (by rw [rows_length, List.length_take]; omega)
              (fun q u hq => by
                rw [Addr.add_lit, Nat.zero_add]
                refine hcells q u ?_
                rw [← rows_take] at hq
                rw [List.getElem?_take] at hq
                split at hq
                · exact hq
                · cases hq) (rows_one _) (by unfold maxLen; omega) (by omega) hbase
            simp only [Nat.zero_add, List.nil_append] at hown8
            have hb8 : Below wr.heap.size wr W8 := ⟨hg8.os, hg8.tape, hg8.output, hg8.size, fun k hk => hg8.block k hk (by simp [Value.ownBlock])⟩
            obtain ⟨A, hA, hsrc⟩ : ∃ A : Addr, (if cL = j + 1 then some (⟨gr, 0, none⟩ : Addr) else some ⟨gr, (j + 1) * 5, none⟩) = some A ∧ ∀ (q : Nat) (u : Value), (rows (S.L.drop (j + 1)))[q]? = some u → W8.cell? (A.add q) = some u := by
              by_cases hc : cL = j + 1
              · refine ⟨⟨gr, 0, none⟩, by simp [hc], fun q u hq => ?_⟩
                have := (List.getElem?_eq_some_iff.1 hq).1
                rw [rows_length, List.length_drop] at this; omega
              · refine ⟨⟨gr, (j + 1) * 5, none⟩, by simp [hc], fun q u hq => ?_⟩
                rw [Addr.add_lit]
                rw [← rows_drop, List.getElem?_drop] at hq
                have := hcells _ u hq
                exact (hb8.cell (p := ⟨gr, (j + 1) * 5 + q, none⟩) (cell_lt this)).trans this
            obtain ⟨v9, W9, hrun14, hown9, hg9, _, hat9⟩ := run_append_own_at (P := Tryz.prog) W8 base 30 30 68 i0 _ 5 56 hu hi hz0 hz1 hz2 rfl (by decide) v8 j (rows (S.L.take j)) hown8 A (ix - (j + 1)) (cL - (j + 1)) (rows (S.L.drop (j + 1))) (by rw [rows_length, List.length_drop]; omega) hsrc (rows_one _) (by unfold maxLen; omega) (by omega) (Nat.le_trans hbase hb8.size)
            rw [← rows_append] at hown9
            obtain ⟨p8, c8, rfl, _⟩ := own_form hown8
            obtain ⟨p9, c9, rfl, _⟩ := own_form hown9
            have hv8 : ∀ k, (Value.slice p8 j c8).ownBlock = some k → wr.heap.size ≤ k := fun k hk => by
              rcases hat8 with e | e
              · rw [hk] at e; simp [Value.ownBlock] at e
              · rw [hk] at e; injection e with e; omega
            have ho9 : Only (fun k => wr.heap.size ≤ k) wr W9 := (only_below hb8 _).trans (only_grown hg9) (fun k hk => .inl (hv8 k hk))
            have hb9 : Below wr.heap.size wr W9 := ho9.below (Nat.le_refl _) (fun k hk => hk)
            have hv9 : ∀ k, (Value.slice p9 (j + (ix - (j + 1))) c9).ownBlock = some k → wr.heap.size ≤ k := fun k hk => by
              rcases hat9 with e | e
              · rw [hk] at e; exact hv8 k e.symm
              · rw [hk] at e; injection e with e; have := hb8.size; omega
            have hR9 := hRr.below hb9
            obtain ⟨m, hm⟩ : ∃ m, j + (ix - (j + 1)) = m := ⟨_, rfl⟩
            rw [hm] at hown9 hrun14 hv9
            have hLm : (S.L.take j ++ S.L.drop (j + 1)).length = m := by simp; omega
            have c28 : W8.cell? ⟨r, 2, none⟩ = some (.slice (some ⟨gr, 0, none⟩) ix cL) := (hb8.cell (p := ⟨r, 2, none⟩) (cell_lt c2r)).trans c2r
            have c29 : W9.cell? ⟨r, 2, none⟩ = some (.slice (some ⟨gr, 0, none⟩) ix cL) := (hb9.cell (p := ⟨r, 2, none⟩) (cell_lt c2r)).trans c2r
            have c69 : W9.cell? ⟨r, 6, none⟩ = some (.int .i64 (S.outs : Nat)) := cellOf hR9.cell 6
            have f29 := frozenOf hR9.cell 2
            have f69 := frozenOf hR9.cell 6
            obtain ⟨W11, hW11⟩ : ∃ W11, W11 = (W9.setCell ⟨r, 2, none⟩ (.slice p9 m c9)).setCell ⟨r, 6, none⟩ (.int .i64 ((S.outs : Int) + 1)) := ⟨_, rfl⟩
            have hcell10 : (W9.setCell ⟨r, 2, none⟩ (.slice p9 m c9)).heap[r]? = some (.cells (#[.slice (some ⟨gV, 0, none⟩) S.V.length cV, .int .i64 (S.room : Nat), .slice (some ⟨gr, 0, none⟩) S.L.length cL, .int .i64 (S.time : Nat), .int .i64 (S.hit : Nat), .int .i64 (S.miss : Nat), .int .i64 (S.outs : Nat)].setIfInBounds 2 (.slice p9 m c9)) 32 (0, 0)) := set_same hR9.cell _
            have ho11 : Only (fun k => k = r) W9 W11 := by rw [hW11]; exact Only.next (Only.setCell (S := fun k => k = r) W9 ⟨r, 2, none⟩ _ rfl) (Only.setCell (S := fun k => k = r) _ ⟨r, 6, none⟩ _ rfl)
            have hR11 : RF W11 base r (.slice (some ⟨gV, 0, none⟩) S.V.length cV) (.slice p9 m c9) { S with L := S.L.take j ++ S.L.drop (j + 1), outs := S.outs + 1 } := by
              refine ⟨hR9.lo, ?_, ?_, ho11.owns hR9.vrow (fun g hg e => hR9.ne.2.1 (by rw [hg, e]))⟩
              · rw [hW11, set_same hcell10]; simp
              · show W11.ownsRow base 68 5 (.slice p9 m c9) (S.L.take j ++ S.L.drop (j + 1)).length (rows (S.L.take j ++ S.L.drop (j + 1)))
                rw [hLm]
                exact ho11.owns hown9 (fun g hg e => by have := hv9 g hg; have := block_lt hRr.cell; omega)
            have HR11 : Hid (RF W11 base r (.slice (some ⟨gV, 0, none⟩) S.V.length cV) (.slice p9 m c9) { S with L := S.L.take j ++ S.L.drop (j + 1), outs := S.outs + 1 } ∧ Fr base w W11 ∧ W11.cell? ⟨gV, x, none⟩ = some sv.val ∧ base ≤ W11.heap.size ∧ S.L[j]? = some y ∧ victimR S.L = some y) := by
              refine ⟨hR11, ((Fr.below HI.out.2).trans (Fr.below hb9)).trans (Only.weak ho11 (fun k _ hk => by rw [hk]; exact ⟨hR9.lo, _, _, _, hR9.cell, .inl rfl⟩)), ?_, Nat.le_trans (Nat.le_trans hbase hb9.size) ho11.size, hy, h2⟩
              have h1 := (HI.out.2.cell (p := ⟨gV, x, none⟩) (cell_lt cS)).trans cS
              exact ho11.cell ((hb9.cell (p := ⟨gV, x, none⟩) (cell_lt h1)).trans h1) (fun e => hR9.ne.2.1 (by rw [← e]; rfl))
            have hjc : j ≤ cL := by omega
            have hjc1 : j + 1 ≤ ix := by omega
            have hjI : ¬ (j : Int) < 0 := by omega
            have hc0 : ¬ cL = 0 := by omega
            clear hR11 ho11 hcell10 hR9 hv9 hv8 hb9 ho9 hat9 hat8 hg9 hg8 hown9 hown8 hsrc hb8 hcells hRr hy h2 htk er2 er3 hbase hgb hLm
            go_wp2_with (first | (at_builtin; refine Lib.wpList_append_run _ rfl _ _ _ _ rfl _ _ rfl rfl _ _ hrun13 ?_) | (at_builtin; refine Lib.wpList_append_run _ rfl _ _ _ _ rfl _ _ rfl rfl _ _ hrun14 ?_))
            rw [← hW11]
            obtain ⟨hR11, hf11, cS11, hlo11, hy, hvic⟩ := HR11.out
            have hne := hR11.ne
            have hrow := hR11.row
            have hLm : (S.L.take j ++ S.L.drop (j + 1)).length = m := by simp; omega
            simp only [hLm] at hrow
            refine hold_reg16 (by kernel_rfl) r x m c9 gV nV cV base p9 _ (S.L.take j ++ S.L.drop (j + 1)) sv W11 rfl rfl rfl hR11.cell (by rw [← hnV]; rfl) rfl hrow cS11 (by omega) (by omega) hlo11 hne.1 (fun e => hne.2.2 gV rfl e) (fun e => hne.2.1 (by rw [← e]; rfl)) ?_
            intro g W12 ho hown hcell hat
            simp only [putAll, List.setIfInBounds_toArray, List.set_cons_zero, List.set_cons_succ]
            obtain ⟨g1, g2⟩ := g
            simp only at hown hcell hat
            obtain ⟨p3, c3, rfl, _⟩ := own_form hown
            have d2 : W12.cell? ⟨r, 2, none⟩ = some (.slice p3 (m + 1) c3) := by rw [cellOf hcell]; rfl
            have HF : Hid (Hold base r x (.slice (some ⟨gV, 0, none⟩) S.V.length cV) (.slice (some ⟨gr, 0, none⟩) S.L.length cL) S w (.returned (.int .i64 (m : Nat))) W12) := by
              refine ⟨hf11.trans (hR11.fr ho), .inr (.inr ⟨H0.out.2.1, { S with L := S.L.take j ++ S.L.drop (j + 1), outs := S.outs + 1 }, sv, .slice p3 (m + 1) c3, .inr ⟨j, y, by omega, hy, hvic, rfl⟩, H0.out.2.2.1, by rw [hLm], hR11.added ho ?_ ?_⟩)⟩
              · show W12.ownsRow base 68 5 (.slice p3 (m + 1) c3) ((S.L.take j ++ S.L.drop (j + 1)).length + 1) _
                rw [hLm]; exact hown
              · exact hcell
            have hsub : ((m + 1 : Nat) : Int) - 1 = (m : Nat) := by omega
            have hsub2 : (m : Int) + 1 - 1 = (m : Nat) := by omega
            clear hown hcell hat ho hR11 hne hrow cS11 hf11 hy hvic HR11 hW11 hrun13 hrun14
            go_wp2
            go_ret
            exact HF.out

end Go.Proofs.YtlcojcldbdikgaaGreatDoor.Rc
