/-
  place, walked once more, for what it keeps.
-/
import Derived.Test.YtdocablbkafkiaaDoorJm
namespace Go.Proofs.YtdocablbkafkiaaDoor.Cd
open Go.RowKit

set_option maxRecDepth 8000 in
set_option maxHeartbeats 4000000 in
theorem place_keeps (base a count : Nat) (bv : Value) (vs : List Value) (D : List (List En)) (x : En) (w : World) (ht : Tab w) (hgb : 1 < base) (h : DirAt w base a count bv vs D) (hw : WF H1 D.length D) (h0 : 0 < D.length) (hn : D.length < 100000) (htot : total D < 7 * D.length) (ha : Absent D x.name) (hx : x.name.length < 1000000) :
    Calls Tryd.prog 23 #[.pointer (some ⟨a, 0, none⟩), .agg #[.string (bas x.name), .int .i64 (x.num : Nat)]] w fun e w' => e = .returned (.tuple #[]) ∧ Placek base a count bv vs D x w w' := by
  obtain ⟨p, c, rfl, _, _, _⟩ := h.bform
  have hbw : base ≤ w.heap.size := by have := h.lo; have := block_lt h.dir; omega
  obtain ⟨K, bK, hK1, hK2⟩ := roomy htot
  have hKn : K < D.length := (List.getElem?_eq_some_iff.1 hK1).1
  obtain ⟨w1, hw1⟩ : ∃ w1, w1 = w.alloc (.cells #[.string (bas x.name), .int .i64 (x.num : Nat)] 55) := ⟨_, rfl⟩
  have hb1 : Below w.heap.size w w1 := by rw [hw1]; exact (Below.refl _ w).alloc (Nat.le_refl _) _
  have hbx1 : w1.heap[w.heap.size]? = some (.cells #[.string (bas x.name), .int .i64 (x.num : Nat)] 55 (0, 0)) := by rw [hw1]; exact heap_alloc_new w _
  have hsz1 : w1.heap.size = w.heap.size + 1 := by rw [hw1]; simp
  have cF := first_any a D.length c p (bas x.name) w1 (below_tab hb1 (by omega) ht) ((hb1.cell (p := ⟨a, 1, none⟩) (block_lt h.dir)).trans h.c1) h0 hn (by rw [bas_size]; exact hx)
  rw [bas_data] at cF
  obtain ⟨i1, hi1⟩ : ∃ i, H1 x.name D.length = i := ⟨_, rfl⟩
  have hi1n : i1 < D.length := by rw [← hi1]; exact H1_ok _ _ h0
  rw [hi1] at cF
  obtain ⟨n, hnD⟩ : ∃ n, D.length = n := ⟨_, rfl⟩
  have HS : Hid (∀ wr, Below w1.heap.size w1 wr → PJ base a count (.slice p D.length c) vs D x w K D.length i1 x vs D wr) := fun wr hb => by
    have hbb : Below w.heap.size w wr := hb1.trans (hb.mono hb1.size)
    refine ⟨⟨h.below hbb, hw, ?_, ha, (hb.block _ (block_lt hbx1)).trans hbx1, ?_, fun q => Iff.rfl, rfl, Fr.below hbb, bK, hK1, hK2⟩, fun k hk _ => hbb.block k hk, fun j v g hv hg => .inl (.inr ⟨j, v, hv, hg⟩)⟩
    · intro t htt
      rw [hi1] at htt
      have := @dist_cases D.length i1 i1
      omega
    · intro j v hv e
      have hjl := (List.getElem?_eq_some_iff.1 hv).1
      have := ((h.rows.row j v _ hv (List.getElem?_eq_getElem (by have := h.rows.len; omega))).tag e).2.1
      omega
  have HD : Hid (D.length = n ∧ base ≤ w.heap.size) := ⟨hnD, hbw⟩
  have z0 : w1.cell? ⟨w.heap.size, 0, none⟩ = some (.string (bas x.name)) := cellOf hbx1 0
  rw [hnD] at hi1n hn h0 hKn
  clear h hw htot ha hK1 hK2 hb1 hbx1 hi1 ht
  go_enter Tryd.func23, Tryd.ntmps23
  go_wp2_with fail
  rw [← hw1]
  clear hw1
  refine cF.mono ?_
  rintro e w2 ⟨rfl, hb2⟩
  have HI0 : Hid (PJ base a count (.slice p D.length c) vs D x w K D.length i1 x vs D w2) := HS.out w2 hb2
  clear HS hb2 cF z0
  go_wp2_with fail
  go_loopw [4] (fun ii wr => ∃ i : Nat, ii = .int .i64 i ∧ i < n ∧ Hid (∃ y vs' D', PJ base a count (.slice p D.length c) vs D x w K D.length i y vs' D' wr)) (fun ii _ => dist n (intOf ii).toNat K)
  case atStart => exact ⟨i1, rfl, hi1n, x, vs, D, HI0.out⟩
  case round =>
    obtain ⟨i, rfl, hin, HI⟩ := hrel
    obtain ⟨y, vs', D', hP⟩ := HI.out
    have hinI : (i : Int) < n := by omega
    have hDn : D'.length = n := by rw [hP.pi.wf.len]; exact HD.out.1
    obtain ⟨b, hb⟩ : ∃ b, D'[i]? = some b := ⟨_, List.getElem?_eq_getElem (by omega)⟩
    obtain ⟨B, cB, cur, v, hbv, hB, hcur, hv, hblk⟩ := hP.pi.dir.at_ hb
    have hbv' := hbv
    rw [hDn, HD.out.1] at hbv'
    injection hbv' with e1 e2 e3
    subst e1
    subst e3
    have d1 : wr.cell? ⟨a, 1, none⟩ = some (.slice (some ⟨B, 0, none⟩) n c) := by rw [hP.pi.dir.c1, HD.out.1]
    have x0 : wr.cell? ⟨w.heap.size, 0, none⟩ = some (.string (bas y.name)) := cellOf hP.pi.box 0
    have x1 : wr.cell? ⟨w.heap.size, 1, none⟩ = some (.int .i64 (y.num : Nat)) := cellOf hP.pi.box 1
    have hbr : base ≤ wr.heap.size := by have := hP.pi.dir.lo; have := block_lt hP.pi.dir.dir; omega
    have hxl : w.heap.size < wr.heap.size := cell_lt x0
    have hal : a < wr.heap.size := cell_lt d1
    by_cases hl : b.length < 7
    · have hbA : Below wr.heap.size wr (wr.alloc (.cells #[.string ⟨#[]⟩, .int .i64 0] 55)).drew := ((Below.refl _ wr).alloc (Nat.le_refl _) _).drew
      have cA : Calls Tryd.prog 41 #[.pointer (some ⟨B, i, none⟩), .agg #[.string (bas y.name), .int .i64 (y.num : Nat)]] (wr.alloc (.cells #[.string ⟨#[]⟩, .int .i64 0] 55)).drew fun e w' => e = .returned (.tuple #[.agg #[.string ⟨#[]⟩, .int .i64 0], .bool false]) ∧ w'.cell? ⟨wr.heap.size, 0, none⟩ = some (.string ⟨#[]⟩) ∧ w'.cell? ⟨wr.heap.size, 1, none⟩ = some (.int .i64 0) ∧ w'.frozen? ⟨wr.heap.size, 0, none⟩ = false ∧ w'.frozen? ⟨wr.heap.size, 1, none⟩ = false ∧ wr.heap.size < w'.heap.size ∧ Hid (Placek base a count (.slice (some ⟨B, 0, none⟩) D.length c) vs D x w ((w'.setCell ⟨wr.heap.size, 0, none⟩ (.string ⟨#[]⟩)).setCell ⟨wr.heap.size, 1, none⟩ (.int .i64 0))) := by
        refine (add_room base B i cur v b y _ ((hbA.block B (block_lt hB)).trans hB) hcur (World.ownsRow.alloc hblk _) (Nat.le_trans hbr hbA.size) (hP.pi.wf.srt i b hb) hl).mono ?_
        rintro e w1 ⟨rfl, v', ht⟩
        have hL := added_last hblk ht (block_lt hB)
        have hT := ht.from hbA
        have hT2 := hT.later (Only.next (Only.setCell (S := (· = wr.heap.size)) w1 ⟨wr.heap.size, 0, none⟩ (.string ⟨#[]⟩) rfl) (Only.setCell (S := (· = wr.heap.size)) _ ⟨wr.heap.size, 1, none⟩ (.int .i64 0) rfl)) (fun j hj => by omega) (fun g hg e => by
          rcases ht.new with k | ⟨g', k, hlt⟩
          · rw [k] at hg; have := (hblk.tag hg).2.1; omega
          · rw [k] at hg; injection hg with hg; simp at hlt; omega) (block_lt hB)
        refine ⟨rfl, cellOf hL 0, cellOf hL 1, frozenOf hL 0, frozenOf hL 1, block_lt hL, ?_⟩
        exact hP.done hb hl hbv hB hv hT2
      have cA' : Calls Tryd.prog 41 #[.pointer (some ⟨B, i, none⟩), .agg #[.string (bas y.name), .int .i64 (y.num : Nat)]] wr.drew fun e w' => e = .returned (.tuple #[.agg #[.string ⟨#[]⟩, .int .i64 0], .bool false]) ∧ Hid (Placek base a count (.slice (some ⟨B, 0, none⟩) D.length c) vs D x w (w'.alloc (.cells #[.string ⟨#[]⟩, .int .i64 0] 55))) := by
        refine (add_room base B i cur v b y wr.drew hB hcur hblk hbr (hP.pi.wf.srt i b hb) hl).mono ?_
        rintro e w1 ⟨rfl, v', ht⟩
        refine ⟨rfl, hP.done hb hl hbv hB hv (Turned.from (wr := wr) ((Below.refl _ wr).drew) (ht.later (Only.alloc (fun _ => False) w1 _) (fun _ f => f.elim) (fun _ _ f => f) (block_lt hB)))⟩
      clear hb hB hcur hv hblk hbv hP hbA
      go_wp2_with fail
      go_region_with (first
        | (go_at_call 41; refine cA.mono ?_; rintro e w3 ⟨rfl, l0, l1, lf0, lf1, hlt3, H3⟩; clear cA cA')
        | (go_at_call 41; refine cA'.mono ?_; rintro e w3 ⟨rfl, H3⟩; clear cA cA'))
      all_goals
        go_wp2
        refine bodyPost_ret (results_none rfl _ _ _) rfl ?_
        exact ⟨rfl, H3.out⟩
    · have hl7 : b.length = 7 := by have := hP.pi.wf.room i b hb; omega
      obtain ⟨z, hz⟩ : ∃ z, (ins b y)[7]? = some z := ⟨_, List.getElem?_eq_getElem (by rw [ins_length]; omega)⟩
      have hbA : Below wr.heap.size wr (wr.alloc (.cells #[.string ⟨#[]⟩, .int .i64 0] 55)).drew := ((Below.refl _ wr).alloc (Nat.le_refl _) _).drew
      have cN := fun (W : World) (h : W.cell? ⟨a, 1, none⟩ = some (.slice (some ⟨B, 0, none⟩) n c)) => next_any a i n c (some ⟨B, 0, none⟩) W h hin hn
      have keep : ∀ (W : World) v', Turned base B i cur v v' ((ins b y).take 7) wr W → W.cell? ⟨a, 1, none⟩ = some (.slice (some ⟨B, 0, none⟩) n c) ∧ W.heap[w.heap.size]? = some (.cells #[.string (bas y.name), .int .i64 (y.num : Nat)] 55 (0, 0)) := fun W v' hT => by
        constructor
        · have := (hP.pi.dir.turned hb hbv hB hv hT).1.c1
          rw [this, HD.out.1]
        · rw [hT.only.block _ hxl ?_]
          · exact hP.pi.box
          · rintro (e | e)
            · rw [← e, hP.pi.box] at hB; cases hB
            · exact hP.pi.boxn i v hv e
      have cA : Calls Tryd.prog 41 #[.pointer (some ⟨B, i, none⟩), .agg #[.string (bas y.name), .int .i64 (y.num : Nat)]] (wr.alloc (.cells #[.string ⟨#[]⟩, .int .i64 0] 55)).drew fun e w' => e = .returned (.tuple #[.agg #[.string (bas z.name), .int .i64 (z.num : Nat)], .bool true]) ∧ w'.cell? ⟨wr.heap.size, 0, none⟩ = some (.string ⟨#[]⟩) ∧ w'.cell? ⟨wr.heap.size, 1, none⟩ = some (.int .i64 0) ∧ w'.frozen? ⟨wr.heap.size, 0, none⟩ = false ∧ w'.frozen? ⟨wr.heap.size, 1, none⟩ = false ∧ wr.heap.size < w'.heap.size ∧ (∃ W, Hid (((w'.setCell ⟨wr.heap.size, 0, none⟩ (.string (bas z.name))).setCell ⟨wr.heap.size, 1, none⟩ (.int .i64 (z.num : Nat))) = W) ∧ Hid ((∃ v', Turned base B i cur v v' ((ins b y).take 7) wr W) ∧ W.heap[wr.heap.size]? = some (.cells #[.string (bas z.name), .int .i64 (z.num : Nat)] 55 (0, 0)))) := by
        refine (add_full base B i cur v b y z _ ((hbA.block B (block_lt hB)).trans hB) hcur (World.ownsRow.alloc hblk _) (Nat.le_trans hbr hbA.size) (hP.pi.wf.srt i b hb) hl7 hz).mono ?_
        rintro e w1 ⟨rfl, v', ht⟩
        have hL := added_last hblk ht (block_lt hB)
        have hT := ht.from hbA
        have hT2 := hT.later (Only.next (Only.setCell (S := (· = wr.heap.size)) w1 ⟨wr.heap.size, 0, none⟩ (.string (bas z.name)) rfl) (Only.setCell (S := (· = wr.heap.size)) _ ⟨wr.heap.size, 1, none⟩ (.int .i64 (z.num : Nat)) rfl)) (fun j hj => by omega) (fun g hg e => by
          rcases ht.new with k | ⟨g', k, hlt⟩
          · rw [k] at hg; have := (hblk.tag hg).2.1; omega
          · rw [k] at hg; injection hg with hg; simp at hlt; omega) (block_lt hB)
        exact ⟨rfl, cellOf hL 0, cellOf hL 1, frozenOf hL 0, frozenOf hL 1, block_lt hL, _, rfl, ⟨v', hT2⟩, by rw [heap_set_same (heap_set_same hL _)]; rfl⟩
      have cA' : Calls Tryd.prog 41 #[.pointer (some ⟨B, i, none⟩), .agg #[.string (bas y.name), .int .i64 (y.num : Nat)]] wr.drew fun e w' => e = .returned (.tuple #[.agg #[.string (bas z.name), .int .i64 (z.num : Nat)], .bool true]) ∧ (∃ W, Hid ((w'.alloc (.cells #[.string (bas z.name), .int .i64 (z.num : Nat)] 55)) = W) ∧ Hid ((∃ v', Turned base B i cur v v' ((ins b y).take 7) wr W) ∧ W.heap[w'.heap.size]? = some (.cells #[.string (bas z.name), .int .i64 (z.num : Nat)] 55 (0, 0)))) := by
        refine (add_full base B i cur v b y z wr.drew hB hcur hblk hbr (hP.pi.wf.srt i b hb) hl7 hz).mono ?_
        rintro e w1 ⟨rfl, v', ht⟩
        exact ⟨rfl, _, rfl, ⟨v', Turned.from (wr := wr) ((Below.refl _ wr).drew) (ht.later (Only.alloc (fun _ => False) w1 _) (fun _ f => f.elim) (fun _ _ f => f) (block_lt hB))⟩, heap_alloc_new w1 _⟩
      have HK : Hid (∀ (W : World) v', Turned base B i cur v v' ((ins b y).take 7) wr W → (W.cell? ⟨a, 1, none⟩ = some (.slice (some ⟨B, 0, none⟩) n c) ∧ W.heap[w.heap.size]? = some (.cells #[.string (bas y.name), .int .i64 (y.num : Nat)] 55 (0, 0))) ∧ ∀ w2, Only (fun j => j = w.heap.size) W w2 → w2.heap[w.heap.size]? = some (.cells #[.string (bas z.name), .int .i64 (z.num : Nat)] 55 (0, 0)) → i ≠ K ∧ ∃ y vs' D', PJ base a count (.slice (some ⟨B, 0, none⟩) D.length c) vs D x w K D.length (nx n i 1) y vs' D' w2) := fun W v' hT => by
        refine ⟨keep W v' hT, fun w2 ho hbox => ?_⟩
        obtain ⟨q1, q2⟩ := hP.next HD.out.2 hb hl7 hz hbv hB hv hT ho hbox
        rw [HD.out.1] at q2 ⊢
        exact ⟨q1, z, _, _, q2⟩
      clear hb hB hcur hv hblk hbv hP hbA keep hl7 hz
      go_wp2_with fail
      go_region_with (first
        | (go_at_call 41; refine cA.mono ?_; rintro e w3 ⟨rfl, l0, l1, lf0, lf1, hlt3, W, HW, H3⟩; clear cA cA')
        | (go_at_call 41; refine cA'.mono ?_; rintro e w3 ⟨rfl, W, HW, H3⟩; clear cA cA'))
      all_goals
        go_wp2_with fail
        rw [HW.out]
        clear HW
        have m0 := cellOf H3.out.2 0
        have m1 := cellOf H3.out.2 1
        simp only [List.getElem?_toArray, List.getElem?_cons_zero, List.getElem?_cons_succ] at m0 m1
        obtain ⟨v', hT⟩ := H3.out.1
        have hK := HK.out W v' hT
        have d1' := hK.1.1
        have b0 : W.cell? ⟨w.heap.size, 0, none⟩ = some (.string (bas y.name)) := cellOf hK.1.2 0
        have b1 : W.cell? ⟨w.heap.size, 1, none⟩ = some (.int .i64 (y.num : Nat)) := cellOf hK.1.2 1
        have bf0 : W.frozen? ⟨w.heap.size, 0, none⟩ = false := frozenOf hK.1.2 0
        have bf1 : W.frozen? ⟨w.heap.size, 1, none⟩ = false := frozenOf hK.1.2 1
        have HK2 : Hid (W.heap[w.heap.size]? = some (.cells #[.string (bas y.name), .int .i64 (y.num : Nat)] 55 (0, 0)) ∧ ∀ w2, Only (fun j => j = w.heap.size) W w2 → w2.heap[w.heap.size]? = some (.cells #[.string (bas z.name), .int .i64 (z.num : Nat)] 55 (0, 0)) → i ≠ K ∧ ∃ y vs' D', PJ base a count (.slice (some ⟨B, 0, none⟩) D.length c) vs D x w K D.length (nx n i 1) y vs' D' w2) := ⟨hK.1.2, hK.2⟩
        have cN' := cN W.drew d1'
        clear HK hK hT H3 cN
      all_goals go_region_with (go_at_call 39; refine Calls_on cN' ?_)
      all_goals
        have HO : Hid (i ≠ K ∧ ∃ y vs' D', PJ base a count (.slice (some ⟨B, 0, none⟩) D.length c) vs D x w K D.length (nx n i 1) y vs' D' ((W.setCell ⟨w.heap.size, 0, none⟩ (.string (bas z.name))).setCell ⟨w.heap.size, 1, none⟩ (.int .i64 (z.num : Nat))).drew) := by
          refine HK2.out.2 _ ?_ ?_
          · have := Only.next (Only.setCell (S := (· = w.heap.size)) W ⟨w.heap.size, 0, none⟩ (.string (bas z.name)) rfl) (Only.setCell (S := (· = w.heap.size)) _ ⟨w.heap.size, 1, none⟩ (.int .i64 (z.num : Nat)) rfl)
            exact ⟨this.os, this.tape, this.output, this.size, this.block⟩
          · refine (heap_set_same (heap_set_same HK2.out.1 _) _).trans ?_
            rfl
        have hxn := nx_lt hin
        clear HK2 cN' d1' b0 b1 bf0 bf1 m0 m1 x0 x1 d1
        go_wp2
        refine ⟨⟨_, _, _, _, _, _, _, _, _, _, _, _, _, _, _, _, _, _, _, _, ⟨nx n i 1, rfl, hxn, HO.out.2⟩, rfl⟩, ?_⟩
        show dist n ((nx n i 1 : Nat) : Int).toNat K < dist n ((i : Nat) : Int).toNat K
        rw [Int.toNat_natCast, Int.toNat_natCast]
        exact dist_next hin hKn HO.out.1

end Go.Proofs.YtdocablbkafkiaaDoor.Cd
