/-
  The law MergeQueue: the walk, for the other order.
-/
import Derived.Test.YtgophojgofmkeaaZu
namespace Go.Proofs.Ytgophojgofmkeaa.Ck
open Go.RowKit Go.Maps

set_option maxRecDepth 8000 in
set_option maxHeartbeats 8000000 in
theorem queue_law_t (pi : Option Addr) (ids : List (Int × Int)) (ci : Nat) (pp : Option Addr) (bs : List Bool) (cp : Nat) (w : World) (hI : IDRow w pi ids) (hP : BoolRow w pp bs) :
    Calls Try.prog 4 #[.slice pi ids.length ci, .slice pp bs.length cp, .bool true] w fun e w' => e = .returned (.bool true) ∧ Below w.heap.size w w' := by
  have cB := begun14 w
  have H0 : Hid (IDRow w pi ids ∧ BoolRow w pp bs) := ⟨hI, hP⟩
  clear hI hP
  obtain ⟨ni, hni⟩ : ∃ ni, ids.length = ni := ⟨_, rfl⟩
  obtain ⟨np, hnp⟩ : ∃ np, bs.length = np := ⟨_, rfl⟩
  have HN : Hid (ids.length = ni ∧ bs.length = np) := ⟨hni, hnp⟩
  rw [hni, hnp]
  clear hni hnp
  go_enter Try.func4, Try.ntmps4
  go_wp2_with (first | (go_at_call 5; refine Calls_new cB ?_; clear cB; intro w1 hb1) | (go_at_call 12; refine Stop.out ?_))
  refine Stop.mk ?_
  obtain ⟨c, hc⟩ : ∃ c, w1.heap.size = c := ⟨_, rfl⟩
  have cN : Calls Try.prog 12 #[.func (.func 11) #[] #[]] w1 fun e w' => e = .returned (ep c) ∧ Hid (QueI w w' c (.func (.func 11) #[] #[]) true 0 (.slice none 0 0) []) := by
    refine (new_any w.heap.size (.func (.func 11) #[] #[]) true lessIs_back w1 hb1.out.size).mono ?_
    rintro e w' ⟨rfl, h1, h2⟩
    rw [hc] at h1 ⊢
    exact ⟨rfl, h1, .inl (RowO.nil _ _), ⟨List.Pairwise.nil, fun e he => by simp at he, fun e he => by simp at he⟩, hb1.out.trans (h2.mono hb1.out.size)⟩
  refine cN.mono ?_
  rintro e w2 ⟨rfl, HS⟩
  clear cN hc hb1
  go_wp2_with fail
  go_loopw [10, 11, 12] (fun v10 v11 v12 wr => ∃ (i a cm n : Nat) (p : Option Addr) (cc : Nat) (L : List QE), v10 = .slice p n cc ∧ v11 = .int .i64 a ∧ v12 = .int .i64 i ∧ i ≤ 60 ∧ i ≤ np ∧ a ≤ i ∧ a ≤ ni ∧ L.length = n ∧ n ≤ i ∧ cm ≤ i ∧ Hid (QueI w wr c (.func (.func 11) #[] #[]) true cm (.slice p n cc) L)) (fun _ _ v12 _ => 60 - (intOf v12).toNat)
  case atStart => exact ⟨0, 0, 0, 0, none, 0, [], rfl, rfl, rfl, by omega, by omega, by omega, by omega, rfl, by omega, by omega, HS⟩
  case round =>
    clear HS
    obtain ⟨i, a, cm, n, p, cc, L, rfl, rfl, rfl, hi60, hip, hai, han, hLn, hni, hcm, HI⟩ := hrel
    by_cases hgo : i < np ∧ i < 60
    · obtain ⟨hilt, hi6⟩ := hgo
      obtain ⟨wo, hwo⟩ : ∃ wo, wo = wr := ⟨_, rfl⟩
      subst hwo
      have hiI : (i : Int) < 60 := by omega
      obtain ⟨bb, hbb⟩ : ∃ bb, bs[i]? = some bb := ⟨_, List.getElem?_eq_getElem (by rw [HN.out.2]; exact hilt)⟩
      obtain ⟨gp, op, rfl, hcp⟩ := (H0.out.2.below HI.out.bel) (by rw [HN.out.2]; omega)
      have cpi : wo.cell? ⟨gp, op + i, none⟩ = some (.bool bb) := hcp i bb hbb
      clear hcp hbb
      by_cases hpush : bb = false ∧ a < ni
      · obtain ⟨rfl, hal⟩ := hpush
        obtain ⟨tn, htn⟩ : ∃ tn, ids[a]? = some tn := ⟨_, List.getElem?_eq_getElem (by rw [HN.out.1]; exact hal)⟩
        obtain ⟨t, nd⟩ := tn
        obtain ⟨gi, oi, rfl, hci⟩ := (H0.out.1.below HI.out.bel) (by rw [HN.out.1]; omega)
        obtain ⟨d0, d1, hrg⟩ := hci a t nd htn
        have HRG : Hid (Rng t nd) := hrg
        have cA := fun W => at_any t nd (a : Int) W
        have haI : (a : Int) < (ni : Int) := by omega
        clear hci htn hrg
        go_wp2_with (first | (go_at_call 6; refine Calls_new (cA _) ?_; clear cA; intro w3 hb3) | (go_at_call 13; refine Stop.out ?_))
        refine Stop.mk ?_
        have hB4 : Below wo.heap.size wo (w3.alloc (.cells (opC t nd a) 33)) := hb3.out.trans ((below_new w3 _).out.mono hb3.out.size)
        have hq := HI.out.below hB4
        refine (push_any _ L t nd a _ hq.ql HRG.out (show cm < 900000 by omega) (by omega)).mono ?_
        rintro e w5 ⟨rfl, k1, k2⟩
        have ho5 : w5.heap[w3.heap.size]? = some (.cells (opC t nd a) 33 (0, 0)) := k2.keep (heap_alloc_new w3 _) (by decide) (by decide) (by decide)
        have b5 : Below w.heap.size w w5 := hq.bel.trans (k2.toBelow hq.bel.size)
        have HM5 : Hid (MRow w5 w.heap.size (.slice p n cc) (L.map strip)) := hq.row.fm k2
        have HQ5 : Hid (QL w5 (mkQ w.heap.size c (.func (.func 11) #[] #[]) true (cm + 1)) (L ++ [⟨t, nd, a, cm⟩]) ∧ Below w.heap.size w w5 ∧ Came true (cm + 1) (L ++ [⟨t, nd, a, cm⟩])) := ⟨k1, b5, hq.came.push HRG.out (by omega)⟩
        obtain ⟨ga, hga⟩ : ∃ ga, w3.heap.size = ga := ⟨_, rfl⟩
        rw [hga] at ho5 ⊢
        obtain ⟨y0, y1, y2, y3, y4, y5, y6, y7, y8, y9, y10⟩ := op_cells ho5
        have HA : Hid (∀ o, MRow (w5.alloc o) w.heap.size (.slice p n cc) (L.map strip) ∧ w.heap.size ≤ (w5.alloc o).heap.size) := fun o => ⟨HM5.out.below (below_new w5 o).out, by have := b5.size; simp; omega⟩
        have hLl : (L.map strip).length < 1000 := by rw [List.length_map]; omega
        have hLm : (L.map strip).length = n := by rw [List.length_map]; exact hLn
        clear k1 k2 hB4 hq hb3 ho5 b5 hga
        go_wp2_with (refine wpList_appM rfl _ _ rfl w.heap.size (.slice p n cc) (L.map strip) ⟨t, nd, a⟩ rfl w5.heap.size rfl ⟨(HA.out _).1, heap_alloc_new w5 _, hLl, (HA.out _).2⟩ ?_; intro p6 c6 w6 H6; refine Stop.out ?_)
        refine Stop.mk ?_
        rw [hLm] at H6
        have HN6 : Hid (QueI w w6 c (.func (.func 11) #[] #[]) true (cm + 1) (.slice p6 (n + 1) c6) (L ++ [⟨t, nd, a, cm⟩])) := by
          obtain ⟨g1, g2⟩ := H6.out
          obtain ⟨q1, q2, q3⟩ := HQ5.out
          have hB : Below w5.heap.size w5 (w5.alloc (.cells (opC t nd a) 33)) := (below_new w5 _).out
          have b6 := q2.trans (hB.mono q2.size)
          have r6 := HA.out (.cells (opC t nd a) 33)
          have htag : ∀ g, (Value.slice p n cc).ownBlock = some g → w.heap.size ≤ g ∧ ∃ cs, (w5.alloc (.cells (opC t nd a) 33)).heap[g]? = some (.cells cs 33 (0, 0)) := fun g hg => by
            obtain ⟨p', c', e, _, hv⟩ := r6.1.view
            injection e with e1 e2 e3
            subst e1
            rcases hv with ⟨rfl, _⟩ | ⟨g', cs, rfl, hbg, hgc, _⟩
            · simp [Value.ownBlock] at hg
            · have : g' = g := by simpa [Value.ownBlock] using hg
              subst this
              exact ⟨hbg, cs, hgc⟩
          refine ⟨?_, .inl ?_, q3, ?_⟩
          · refine (q1.below hB).only (S := fun k => (Value.slice p n cc).ownBlock = some k) ⟨g2.os, g2.tape, g2.output, g2.size, fun k hk hn => g2.block k hk (fun e => hn e.symm)⟩ (fun g cs t' fr hg hcs => ?_)
            obtain ⟨_, cs', hc'⟩ := htag g hg
            rw [hc'] at hcs
            injection hcs with hcs
            injection hcs with _ hcs _
            subst hcs
            exact ⟨by decide, by decide, by decide⟩
          · rw [List.map_append]
            exact g1
          · refine ⟨g2.os.trans b6.os, g2.tape.trans b6.tape, g2.output.trans b6.output, Nat.le_trans b6.size g2.size, fun k hk => (g2.block k (show k < (w5.alloc (.cells (opC t nd a) 33)).heap.size by have := b6.size; omega) (fun e => ?_)).trans (b6.block k hk)⟩
            have := (htag k e.symm).1
            omega
        clear H6 HA HM5 HQ5 y0 y1 y2 y3 y4 y5 y6 y7 y8 y9 y10
        go_wp2_with fail
        go_roundw
        case rel => exact ⟨i + 1, a + 1, cm + 1, n + 1, p6, c6, L ++ [⟨t, nd, a, cm⟩], rfl, rfl, rfl, by omega, by omega, by omega, by omega, by rw [List.length_append, hLn]; rfl, by omega, by omega, HN6⟩
        case measure => simp [intOf]; omega
      · have hpop : bb = true ∨ (bb = false ∧ ¬ a < ni) := by cases bb <;> simp at hpush ⊢ <;> omega
        clear hpush
        rcases hpop with rfl | ⟨rfl, hna⟩
        · have HB0 : Hid (Below wo.heap.size wo wo) := Below.refl _ _
          go_wp2_with fail
          go_loopw [14, 15] (fun v14 v15 wr => ∃ k : Nat, v15 = .int .i64 k ∧ k ≤ n ∧ Srch true L k v14 ∧ Hid (Below wo.heap.size wo wr)) (fun _ v15 _ => n - (intOf v15).toNat)
          case atStart => exact ⟨0, rfl, Nat.zero_le _, .inl ⟨rfl, rfl⟩, HB0⟩
          case round =>
            clear HB0
            obtain ⟨k, rfl, hkn, hsr, HK⟩ := hrel
            by_cases hkl : k = n
            · subst hkl
              rcases hsr with ⟨rfl, rfl⟩ | ⟨b, rfl, hbest⟩
              · have hLe : L = [] := List.length_eq_zero_iff.1 hLn
                subst hLe
                have hq := HI.out.below HK.out
                have cE := peek_none _ wr hq.ql
                have HQ : Hid (QueI w wr c (.func (.func 11) #[] #[]) true cm (.slice p 0 cc) []) := hq
                clear hq
                go_wp2_with (go_at_call 14; refine Stop.out ?_)
                refine Stop.mk ?_
                refine Calls_new cE ?_
                clear cE
                intro w3 hb3
                have HQ4 : Hid (∀ o, QueI w (w3.alloc o) c (.func (.func 11) #[] #[]) true cm (.slice p 0 cc) []) := fun o => HQ.out.below (hb3.out.trans ((below_new w3 o).out.mono hb3.out.size))
                clear hb3
                go_wp2_with (go_at_call 15; refine Stop.out ?_)
                refine Stop.mk ?_
                have cO := pop_none _ _ (HQ4.out (.cells (opC 0 0 0) 33)).ql
                refine Calls_new cO ?_
                clear cO
                intro w5 hb5
                have ho5 : w5.heap[w3.heap.size]? = some (.cells (opC 0 0 0) 33 (0, 0)) := (hb5.out.block _ (block_lt (heap_alloc_new w3 _))).trans (heap_alloc_new w3 _)
                have c3 : w5.cell? ⟨w3.heap.size, 3, none⟩ = some (.int .i64 0) := by rw [cellOf ho5 3]; rfl
                have l5 : w3.heap.size < w5.heap.size := block_lt ho5
                have HQ6 : Hid (∀ o, QueI w (w5.alloc o) c (.func (.func 11) #[] #[]) true cm (.slice p 0 cc) []) := fun o => (HQ4.out _).below (hb5.out.trans ((below_new w5 o).out.mono hb5.out.size))
                obtain ⟨ga, hga⟩ : ∃ ga, w3.heap.size = ga := ⟨_, rfl⟩
                rw [hga] at c3 l5 ⊢
                clear hb5 ho5 HQ4 HQ hga
                go_wp2_with fail
                go_roundw
                case rel => exact ⟨i + 1, a, cm, 0, p, cc, [], rfl, rfl, rfl, by omega, by omega, by omega, by omega, rfl, by omega, by omega, HQ6.out _⟩
                case measure => simp [intOf]; omega
              · have hbl : b < k := hbest.1
                obtain ⟨x, hx⟩ : ∃ x, L[b]? = some x := ⟨_, List.getElem?_eq_getElem (by omega)⟩
                have hLne : L ≠ [] := fun e => by rw [e] at hx; simp at hx
                have hbestL : BestOf true L L.length b := by rw [hLn]; exact hbest
                have hq := HI.out.below HK.out
                have cE := peek_some _ L wr hq.ql hLne
                have HQ : Hid (QueI w wr c (.func (.func 11) #[] #[]) true cm (.slice p k cc) L) := hq
                have HX : Hid (L[b]? = some x ∧ L ≠ [] ∧ BestOf true L L.length b) := ⟨hx, hLne, hbestL⟩
                clear hq hLne hbestL hbest hx
                go_wp2_with (go_at_call 14; refine Stop.out ?_)
                refine Stop.mk ?_
                refine cE.mono ?_
                rintro e w3 ⟨x', rfl, hl1, hb3⟩
                have hx' : x' = x := Option.some.inj ((HX.out.2.2.least (q := mkQ w.heap.size c (.func (.func 11) #[] #[]) true cm) rfl HQ.out.came hl1).symm.trans HX.out.1)
                subst hx'
                clear cE hl1
                have HQ4 : Hid (∀ o, QueI w (w3.alloc o) c (.func (.func 11) #[] #[]) true cm (.slice p k cc) L) := fun o => HQ.out.below (hb3.trans ((below_new w3 o).out.mono hb3.size))
                clear hb3
                go_wp2_with (go_at_call 15; refine Stop.out ?_)
                refine Stop.mk ?_
                refine (pop_some _ L _ (HQ4.out (.cells (opC x'.t x'.n x'.k) 33)).ql HX.out.2.1).mono ?_
                rintro e w5 ⟨y, L', rfl, hl2, hp2, hq2, hf2⟩
                have hy : y = x' := Option.some.inj ((HX.out.2.2.least (q := mkQ w.heap.size c (.func (.func 11) #[] #[]) true cm) rfl HQ.out.came hl2).symm.trans HX.out.1)
                subst hy
                have hpe := erase_perm HX.out.1 hp2
                have ho5 : w5.heap[w3.heap.size]? = some (.cells (opC y.t y.n y.k) 33 (0, 0)) := hf2.keep (heap_alloc_new w3 _) (by decide) (by decide) (by decide)
                have c3 : w5.cell? ⟨w3.heap.size, 3, none⟩ = some (.int .i64 y.k) := by rw [cellOf ho5 3]; rfl
                have l5 : w3.heap.size < w5.heap.size := block_lt ho5
                obtain ⟨cm', hcm'⟩ : ∃ cm', cm' = (if L' = [] then 0 else cm) := ⟨_, rfl⟩
                have hcl : cm' ≤ cm := by rw [hcm']; split <;> omega
                have H5 : Hid (QL w5 (mkQ w.heap.size c (.func (.func 11) #[] #[]) true cm') (L.eraseIdx b) ∧ MRow w5 w.heap.size (.slice p k cc) (L.map strip) ∧ Came true cm' (L.eraseIdx b) ∧ Below w.heap.size w w5) := by
                  have h4 := HQ4.out (.cells (opC y.t y.n y.k) 33)
                  refine ⟨?_, h4.row.fm hf2, HQ.out.came.drop b ?_, h4.bel.trans (hf2.toBelow h4.bel.size)⟩
                  · rw [hcm']; exact QL.perm hq2 hpe
                  · by_cases e : L' = []
                    · subst e; exact .inl (List.Perm.nil_eq hpe).symm
                    · right; rw [hcm', if_neg e]
                obtain ⟨ga, hga⟩ : ∃ ga, w3.heap.size = ga := ⟨_, rfl⟩
                rw [hga] at c3 l5 ⊢
                have hb0 : ¬ (b : Int) < 0 := by omega
                have hbg : (b : Int) ≥ 0 := by omega
                have HY : Hid (L[b]? = some y) := HX.out.1
                clear HQ4 HQ HX hl2 hp2 hq2 hf2 hpe ho5 hcm' hga HK HI
                go_wp2_with fail
                obtain ⟨W6, hW6⟩ : ∃ W6, W6 = w5.alloc (.cells (opC y.t y.n y.k) 33) := ⟨_, rfl⟩
                have hW6' : w5.alloc (.cells #[.int .i64 y.t, .int .i64 y.n, .int .i64 0, .int .i64 y.k, .int .i64 0, .int .i64 0, .int .i64 0, .int .i64 0, .string ⟨#[]⟩, .slice none 0 0, .slice none 0 0] 33) = W6 := hW6.symm
                have hB6 : Below w5.heap.size w5 W6 := by rw [hW6]; exact (below_new w5 _).out
                have ho6 : W6.heap[w5.heap.size]? = some (.cells (opC y.t y.n y.k) 33 (0, 0)) := by rw [hW6]; exact heap_alloc_new w5 _
                rw [hW6']
                obtain ⟨pv, cv, ev, hle, hvw⟩ := H5.out.2.1.view
                have hLk : (L.map strip).length = k := by rw [List.length_map]; exact hLn
                have hgl : ∃ gl, p = some ⟨gl, 0, none⟩ := by
                  rcases hvw with ⟨_, h0⟩ | ⟨gl, cs, e, _⟩
                  · omega
                  · injection ev with e1 _ _
                    exact ⟨gl, e1.trans e⟩
                obtain ⟨gl, rfl⟩ := hgl
                have hkc : k ≤ cc := by injection ev with _ _ e3; omega
                have hM6 := H5.out.2.1.below hB6
                have hyk : (L.map strip)[b]? = some (strip y) := by rw [List.getElem?_map, HY.out]; rfl
                have hk3 := (hM6.cells hyk).2.2
                have H6 : Hid (QL W6 (mkQ w.heap.size c (.func (.func 11) #[] #[]) true cm') (L.eraseIdx b) ∧ MRow W6 w.heap.size (.slice (some ⟨gl, 0, none⟩) k cc) (L.map strip) ∧ Came true cm' (L.eraseIdx b) ∧ Below w.heap.size w W6) := ⟨H5.out.1.below hB6, hM6, H5.out.2.2.1, H5.out.2.2.2.trans (hB6.mono H5.out.2.2.2.size)⟩
                refine q_reg29 (by kernel_rfl) gl w5.heap.size k cc b y.t y.n y.k W6 rfl rfl rfl rfl hbl ho6 hk3 ?_
                intro W7 hS7
                have hd7 : Below W6.heap.size W6 W7.drew := ⟨hS7.os, hS7.tape, hS7.output, hS7.size, hS7.block⟩
                obtain ⟨p8, c8, W8, hr8, hm8, hb8⟩ := (H6.out.2.1.below hd7).cut hLk (by omega) hbl (by have := H6.out.2.2.2.size; have := hS7.size; show w.heap.size ≤ W7.heap.size; omega)
                have hB8 : Below W6.heap.size W6 W8 := hd7.trans (hb8.mono hS7.size)
                have hle8 : (L.eraseIdx b).length = k - 1 := by rw [List.length_eraseIdx, if_pos (by omega)]; omega
                have cN8 := qlen_any _ _ W8 (H6.out.1.below hB8)
                rw [hle8] at cN8
                have HN8 : Hid (QueI w W8 c (.func (.func 11) #[] #[]) true cm' (.slice p8 (k - 1) c8) (L.eraseIdx b)) := ⟨H6.out.1.below hB8, by rw [map_erase]; exact hm8, H6.out.2.2.1, H6.out.2.2.2.trans (hB8.mono H6.out.2.2.2.size)⟩
                have HR8 : Hid (∀ ty, (Builtin.append_ #[25, 25] ty #[.slice (some ⟨gl, 0, none⟩) b b, .slice (tailO (some ⟨gl, 0, none⟩) cc (b + 1)) (k - (b + 1)) (cc - (b + 1))]).run Try.prog W7.drew = .ok (.slice p8 (k - 1) c8) W8) := hr8
                have HE8 : Hid ((L.eraseIdx b).length = k - 1) := hle8
                obtain ⟨k1, hk1⟩ : ∃ k1, k - 1 = k1 := ⟨_, rfl⟩
                rw [hk1] at cN8 HN8 HR8 HE8
                have HK1 : Hid (k - 1 = k1) := hk1
                clear hr8 hm8 hb8 hd7 hS7 hB8 hle8 hk3 hyk hM6 ev hvw hle ho6 hB6 hW6 hW6' H5 H6 c3 l5 hk1
                simp only [putAll, List.setIfInBounds_toArray, List.set_cons_zero, List.set_cons_succ]
                go_wp2_with fail
                refine q_reg31 (by kernel_rfl) gl k cc b (b + 1) (k - (b + 1)) (cc - (b + 1)) (tailO (some ⟨gl, 0, none⟩) cc (b + 1)) (.slice p8 k1 c8) W7 W8 rfl rfl rfl (by omega) (by rw [IntKind.wrap_i64]; omega) (fun W => slice_headO _ (.inr ⟨gl, rfl⟩) k cc b W (by omega) hkc) (fun W => slice_tailO _ k cc (b + 1) W (by omega)) HR8.out ?_
                simp only [putAll, List.setIfInBounds_toArray, List.set_cons_zero, List.set_cons_succ]
                clear HR8
                go_wp2_with (go_at_call 16; refine Calls_on cN8 ?_)
                go_roundw
                case rel => exact ⟨i + 1, a, cm', k1, p8, c8, L.eraseIdx b, rfl, rfl, rfl, by omega, by omega, by omega, by omega, HE8.out, by have := HK1.out; omega, by omega, HN8⟩
                case measure => simp [intOf]; omega
            · have hkk : k < n := by omega
              obtain ⟨y, hy⟩ : ∃ y, L[k]? = some y := ⟨_, List.getElem?_eq_getElem (by omega)⟩
              have hM := (HI.out.below HK.out).row
              have hyk : (L.map strip)[k]? = some (strip y) := by rw [List.getElem?_map, hy]; rfl
              obtain ⟨pv, cv, ev, hle, hvw⟩ := hM.view
              have hLk : (L.map strip).length = n := by rw [List.length_map]; exact hLn
              have hgl : ∃ gl, p = some ⟨gl, 0, none⟩ := by
                rcases hvw with ⟨_, h0⟩ | ⟨gl, cs, e, _⟩
                · omega
                · injection ev with e1 _ _
                  exact ⟨gl, e1.trans e⟩
              obtain ⟨gl, rfl⟩ := hgl
              obtain ⟨x0, x1, _⟩ := hM.cells hyk
              have HX : Hid (wr.cell? ⟨gl, k * 11, none⟩ = some (.int .i64 y.t) ∧ wr.cell? ⟨gl, k * 11 + 1, none⟩ = some (.int .i64 y.n)) := ⟨x0, x1⟩
              have HY : Hid (L[k]? = some y) := hy
              rcases hsr with ⟨rfl, rfl⟩ | ⟨b, rfl, hbest⟩
              · clear x0 x1 hvw ev hle hLk hyk hM hy
                go_wp2_with fail
                refine q_reg22_neg (by kernel_rfl) _ rfl rfl ?_
                intro W hS
                have HW : Hid (Below wo.heap.size wo W) := HK.out.trans (hS.mono HK.out.size)
                clear hS
                simp only [putAll, List.setIfInBounds_toArray, List.set_cons_zero, List.set_cons_succ]
                go_wp2_with fail
                go_roundw
                case rel => exact ⟨1, rfl, by omega, .inr ⟨0, rfl, BestOf.first HY.out⟩, HW⟩
                case measure => simp [intOf]; omega
              · obtain ⟨x, hx⟩ : ∃ x, L[b]? = some x := ⟨_, List.getElem?_eq_getElem (by have := hbest.1; omega)⟩
                have hxk : (L.map strip)[b]? = some (strip x) := by rw [List.getElem?_map, hx]; rfl
                obtain ⟨z0, z1, _⟩ := hM.cells hxk
                have HZ : Hid (wr.cell? ⟨gl, b * 11, none⟩ = some (.int .i64 x.t) ∧ wr.cell? ⟨gl, b * 11 + 1, none⟩ = some (.int .i64 x.n) ∧ L[b]? = some x ∧ BestOf true L k b) := ⟨z0, z1, hx, hbest⟩
                have hbk : b < n := by have := hbest.1; omega
                have hst := hbest.step HI.out.came hx hy
                have HST : Hid (BestOf true L (k + 1) (if LB true y.t y.n x.t x.n then k else b)) := hst
                clear x0 x1 z0 z1 hvw ev hle hLk hyk hM hy hx hxk hbest hst
                go_wp2_with fail
                refine q_reg22 (by kernel_rfl) gl n cc k b 11 y.t y.n x.t x.n (LB true y.t y.n x.t x.n) _ rfl rfl rfl rfl rfl (by omega) hkk hbk HX.out.1 HX.out.2 HZ.out.1 HZ.out.2.1 (fun _ _ => rfl) (fun W _ => backward_any _ _ _ _ W) ?_
                intro W hS
                have HW : Hid (Below wo.heap.size wo W) := HK.out.trans (hS.mono HK.out.size)
                clear hS
                simp only [putAll, List.setIfInBounds_toArray, List.set_cons_zero, List.set_cons_succ]
                cases hr : LB true y.t y.n x.t x.n
                · rw [hr] at HST
                  go_wp2_with fail
                  go_roundw
                  case rel => exact ⟨k + 1, rfl, by omega, .inr ⟨b, rfl, by simpa using HST.out⟩, HW⟩
                  case measure => simp [intOf]; omega
                · rw [hr] at HST
                  go_wp2_with fail
                  go_roundw
                  case rel => exact ⟨k + 1, rfl, by omega, .inr ⟨k, rfl, by simpa using HST.out⟩, HW⟩
                  case measure => simp [intOf]; omega
        · have HB0 : Hid (Below wo.heap.size wo wo) := Below.refl _ _
          go_wp2_with fail
          go_loopw [14, 15] (fun v14 v15 wr => ∃ k : Nat, v15 = .int .i64 k ∧ k ≤ n ∧ Srch true L k v14 ∧ Hid (Below wo.heap.size wo wr)) (fun _ v15 _ => n - (intOf v15).toNat)
          case atStart => exact ⟨0, rfl, Nat.zero_le _, .inl ⟨rfl, rfl⟩, HB0⟩
          case round =>
            clear HB0
            obtain ⟨k, rfl, hkn, hsr, HK⟩ := hrel
            by_cases hkl : k = n
            · subst hkl
              rcases hsr with ⟨rfl, rfl⟩ | ⟨b, rfl, hbest⟩
              · have hLe : L = [] := List.length_eq_zero_iff.1 hLn
                subst hLe
                have hq := HI.out.below HK.out
                have cE := peek_none _ wr hq.ql
                have HQ : Hid (QueI w wr c (.func (.func 11) #[] #[]) true cm (.slice p 0 cc) []) := hq
                clear hq
                go_wp2_with (go_at_call 14; refine Stop.out ?_)
                refine Stop.mk ?_
                refine Calls_new cE ?_
                clear cE
                intro w3 hb3
                have HQ4 : Hid (∀ o, QueI w (w3.alloc o) c (.func (.func 11) #[] #[]) true cm (.slice p 0 cc) []) := fun o => HQ.out.below (hb3.out.trans ((below_new w3 o).out.mono hb3.out.size))
                clear hb3
                go_wp2_with (go_at_call 15; refine Stop.out ?_)
                refine Stop.mk ?_
                have cO := pop_none _ _ (HQ4.out (.cells (opC 0 0 0) 33)).ql
                refine Calls_new cO ?_
                clear cO
                intro w5 hb5
                have ho5 : w5.heap[w3.heap.size]? = some (.cells (opC 0 0 0) 33 (0, 0)) := (hb5.out.block _ (block_lt (heap_alloc_new w3 _))).trans (heap_alloc_new w3 _)
                have c3 : w5.cell? ⟨w3.heap.size, 3, none⟩ = some (.int .i64 0) := by rw [cellOf ho5 3]; rfl
                have l5 : w3.heap.size < w5.heap.size := block_lt ho5
                have HQ6 : Hid (∀ o, QueI w (w5.alloc o) c (.func (.func 11) #[] #[]) true cm (.slice p 0 cc) []) := fun o => (HQ4.out _).below (hb5.out.trans ((below_new w5 o).out.mono hb5.out.size))
                obtain ⟨ga, hga⟩ : ∃ ga, w3.heap.size = ga := ⟨_, rfl⟩
                rw [hga] at c3 l5 ⊢
                clear hb5 ho5 HQ4 HQ hga
                go_wp2_with fail
                go_roundw
                case rel => exact ⟨i + 1, a, cm, 0, p, cc, [], rfl, rfl, rfl, by omega, by omega, by omega, by omega, rfl, by omega, by omega, HQ6.out _⟩
                case measure => simp [intOf]; omega
              · have hbl : b < k := hbest.1
                obtain ⟨x, hx⟩ : ∃ x, L[b]? = some x := ⟨_, List.getElem?_eq_getElem (by omega)⟩
                have hLne : L ≠ [] := fun e => by rw [e] at hx; simp at hx
                have hbestL : BestOf true L L.length b := by rw [hLn]; exact hbest
                have hq := HI.out.below HK.out
                have cE := peek_some _ L wr hq.ql hLne
                have HQ : Hid (QueI w wr c (.func (.func 11) #[] #[]) true cm (.slice p k cc) L) := hq
                have HX : Hid (L[b]? = some x ∧ L ≠ [] ∧ BestOf true L L.length b) := ⟨hx, hLne, hbestL⟩
                clear hq hLne hbestL hbest hx
                go_wp2_with (go_at_call 14; refine Stop.out ?_)
                refine Stop.mk ?_
                refine cE.mono ?_
                rintro e w3 ⟨x', rfl, hl1, hb3⟩
                have hx' : x' = x := Option.some.inj ((HX.out.2.2.least (q := mkQ w.heap.size c (.func (.func 11) #[] #[]) true cm) rfl HQ.out.came hl1).symm.trans HX.out.1)
                subst hx'
                clear cE hl1
                have HQ4 : Hid (∀ o, QueI w (w3.alloc o) c (.func (.func 11) #[] #[]) true cm (.slice p k cc) L) := fun o => HQ.out.below (hb3.trans ((below_new w3 o).out.mono hb3.size))
                clear hb3
                go_wp2_with (go_at_call 15; refine Stop.out ?_)
                refine Stop.mk ?_
                refine (pop_some _ L _ (HQ4.out (.cells (opC x'.t x'.n x'.k) 33)).ql HX.out.2.1).mono ?_
                rintro e w5 ⟨y, L', rfl, hl2, hp2, hq2, hf2⟩
                have hy : y = x' := Option.some.inj ((HX.out.2.2.least (q := mkQ w.heap.size c (.func (.func 11) #[] #[]) true cm) rfl HQ.out.came hl2).symm.trans HX.out.1)
                subst hy
                have hpe := erase_perm HX.out.1 hp2
                have ho5 : w5.heap[w3.heap.size]? = some (.cells (opC y.t y.n y.k) 33 (0, 0)) := hf2.keep (heap_alloc_new w3 _) (by decide) (by decide) (by decide)
                have c3 : w5.cell? ⟨w3.heap.size, 3, none⟩ = some (.int .i64 y.k) := by rw [cellOf ho5 3]; rfl
                have l5 : w3.heap.size < w5.heap.size := block_lt ho5
                obtain ⟨cm', hcm'⟩ : ∃ cm', cm' = (if L' = [] then 0 else cm) := ⟨_, rfl⟩
                have hcl : cm' ≤ cm := by rw [hcm']; split <;> omega
                have H5 : Hid (QL w5 (mkQ w.heap.size c (.func (.func 11) #[] #[]) true cm') (L.eraseIdx b) ∧ MRow w5 w.heap.size (.slice p k cc) (L.map strip) ∧ Came true cm' (L.eraseIdx b) ∧ Below w.heap.size w w5) := by
                  have h4 := HQ4.out (.cells (opC y.t y.n y.k) 33)
                  refine ⟨?_, h4.row.fm hf2, HQ.out.came.drop b ?_, h4.bel.trans (hf2.toBelow h4.bel.size)⟩
                  · rw [hcm']; exact QL.perm hq2 hpe
                  · by_cases e : L' = []
                    · subst e; exact .inl (List.Perm.nil_eq hpe).symm
                    · right; rw [hcm', if_neg e]
                obtain ⟨ga, hga⟩ : ∃ ga, w3.heap.size = ga := ⟨_, rfl⟩
                rw [hga] at c3 l5 ⊢
                have hb0 : ¬ (b : Int) < 0 := by omega
                have hbg : (b : Int) ≥ 0 := by omega
                have HY : Hid (L[b]? = some y) := HX.out.1
                clear HQ4 HQ HX hl2 hp2 hq2 hf2 hpe ho5 hcm' hga HK HI
                go_wp2_with fail
                obtain ⟨W6, hW6⟩ : ∃ W6, W6 = w5.alloc (.cells (opC y.t y.n y.k) 33) := ⟨_, rfl⟩
                have hW6' : w5.alloc (.cells #[.int .i64 y.t, .int .i64 y.n, .int .i64 0, .int .i64 y.k, .int .i64 0, .int .i64 0, .int .i64 0, .int .i64 0, .string ⟨#[]⟩, .slice none 0 0, .slice none 0 0] 33) = W6 := hW6.symm
                have hB6 : Below w5.heap.size w5 W6 := by rw [hW6]; exact (below_new w5 _).out
                have ho6 : W6.heap[w5.heap.size]? = some (.cells (opC y.t y.n y.k) 33 (0, 0)) := by rw [hW6]; exact heap_alloc_new w5 _
                rw [hW6']
                obtain ⟨pv, cv, ev, hle, hvw⟩ := H5.out.2.1.view
                have hLk : (L.map strip).length = k := by rw [List.length_map]; exact hLn
                have hgl : ∃ gl, p = some ⟨gl, 0, none⟩ := by
                  rcases hvw with ⟨_, h0⟩ | ⟨gl, cs, e, _⟩
                  · omega
                  · injection ev with e1 _ _
                    exact ⟨gl, e1.trans e⟩
                obtain ⟨gl, rfl⟩ := hgl
                have hkc : k ≤ cc := by injection ev with _ _ e3; omega
                have hM6 := H5.out.2.1.below hB6
                have hyk : (L.map strip)[b]? = some (strip y) := by rw [List.getElem?_map, HY.out]; rfl
                have hk3 := (hM6.cells hyk).2.2
                have H6 : Hid (QL W6 (mkQ w.heap.size c (.func (.func 11) #[] #[]) true cm') (L.eraseIdx b) ∧ MRow W6 w.heap.size (.slice (some ⟨gl, 0, none⟩) k cc) (L.map strip) ∧ Came true cm' (L.eraseIdx b) ∧ Below w.heap.size w W6) := ⟨H5.out.1.below hB6, hM6, H5.out.2.2.1, H5.out.2.2.2.trans (hB6.mono H5.out.2.2.2.size)⟩
                refine q_reg29 (by kernel_rfl) gl w5.heap.size k cc b y.t y.n y.k W6 rfl rfl rfl rfl hbl ho6 hk3 ?_
                intro W7 hS7
                have hd7 : Below W6.heap.size W6 W7.drew := ⟨hS7.os, hS7.tape, hS7.output, hS7.size, hS7.block⟩
                obtain ⟨p8, c8, W8, hr8, hm8, hb8⟩ := (H6.out.2.1.below hd7).cut hLk (by omega) hbl (by have := H6.out.2.2.2.size; have := hS7.size; show w.heap.size ≤ W7.heap.size; omega)
                have hB8 : Below W6.heap.size W6 W8 := hd7.trans (hb8.mono hS7.size)
                have hle8 : (L.eraseIdx b).length = k - 1 := by rw [List.length_eraseIdx, if_pos (by omega)]; omega
                have cN8 := qlen_any _ _ W8 (H6.out.1.below hB8)
                rw [hle8] at cN8
                have HN8 : Hid (QueI w W8 c (.func (.func 11) #[] #[]) true cm' (.slice p8 (k - 1) c8) (L.eraseIdx b)) := ⟨H6.out.1.below hB8, by rw [map_erase]; exact hm8, H6.out.2.2.1, H6.out.2.2.2.trans (hB8.mono H6.out.2.2.2.size)⟩
                have HR8 : Hid (∀ ty, (Builtin.append_ #[25, 25] ty #[.slice (some ⟨gl, 0, none⟩) b b, .slice (tailO (some ⟨gl, 0, none⟩) cc (b + 1)) (k - (b + 1)) (cc - (b + 1))]).run Try.prog W7.drew = .ok (.slice p8 (k - 1) c8) W8) := hr8
                have HE8 : Hid ((L.eraseIdx b).length = k - 1) := hle8
                obtain ⟨k1, hk1⟩ : ∃ k1, k - 1 = k1 := ⟨_, rfl⟩
                rw [hk1] at cN8 HN8 HR8 HE8
                have HK1 : Hid (k - 1 = k1) := hk1
                clear hr8 hm8 hb8 hd7 hS7 hB8 hle8 hk3 hyk hM6 ev hvw hle ho6 hB6 hW6 hW6' H5 H6 c3 l5 hk1
                simp only [putAll, List.setIfInBounds_toArray, List.set_cons_zero, List.set_cons_succ]
                go_wp2_with fail
                refine q_reg31 (by kernel_rfl) gl k cc b (b + 1) (k - (b + 1)) (cc - (b + 1)) (tailO (some ⟨gl, 0, none⟩) cc (b + 1)) (.slice p8 k1 c8) W7 W8 rfl rfl rfl (by omega) (by rw [IntKind.wrap_i64]; omega) (fun W => slice_headO _ (.inr ⟨gl, rfl⟩) k cc b W (by omega) hkc) (fun W => slice_tailO _ k cc (b + 1) W (by omega)) HR8.out ?_
                simp only [putAll, List.setIfInBounds_toArray, List.set_cons_zero, List.set_cons_succ]
                clear HR8
                go_wp2_with (go_at_call 16; refine Calls_on cN8 ?_)
                go_roundw
                case rel => exact ⟨i + 1, a, cm', k1, p8, c8, L.eraseIdx b, rfl, rfl, rfl, by omega, by omega, by omega, by omega, HE8.out, by have := HK1.out; omega, by omega, HN8⟩
                case measure => simp [intOf]; omega
            · have hkk : k < n := by omega
              obtain ⟨y, hy⟩ : ∃ y, L[k]? = some y := ⟨_, List.getElem?_eq_getElem (by omega)⟩
              have hM := (HI.out.below HK.out).row
              have hyk : (L.map strip)[k]? = some (strip y) := by rw [List.getElem?_map, hy]; rfl
              obtain ⟨pv, cv, ev, hle, hvw⟩ := hM.view
              have hLk : (L.map strip).length = n := by rw [List.length_map]; exact hLn
              have hgl : ∃ gl, p = some ⟨gl, 0, none⟩ := by
                rcases hvw with ⟨_, h0⟩ | ⟨gl, cs, e, _⟩
                · omega
                · injection ev with e1 _ _
                  exact ⟨gl, e1.trans e⟩
              obtain ⟨gl, rfl⟩ := hgl
              obtain ⟨x0, x1, _⟩ := hM.cells hyk
              have HX : Hid (wr.cell? ⟨gl, k * 11, none⟩ = some (.int .i64 y.t) ∧ wr.cell? ⟨gl, k * 11 + 1, none⟩ = some (.int .i64 y.n)) := ⟨x0, x1⟩
              have HY : Hid (L[k]? = some y) := hy
              rcases hsr with ⟨rfl, rfl⟩ | ⟨b, rfl, hbest⟩
              · clear x0 x1 hvw ev hle hLk hyk hM hy
                go_wp2_with fail
                refine q_reg22_neg (by kernel_rfl) _ rfl rfl ?_
                intro W hS
                have HW : Hid (Below wo.heap.size wo W) := HK.out.trans (hS.mono HK.out.size)
                clear hS
                simp only [putAll, List.setIfInBounds_toArray, List.set_cons_zero, List.set_cons_succ]
                go_wp2_with fail
                go_roundw
                case rel => exact ⟨1, rfl, by omega, .inr ⟨0, rfl, BestOf.first HY.out⟩, HW⟩
                case measure => simp [intOf]; omega
              · obtain ⟨x, hx⟩ : ∃ x, L[b]? = some x := ⟨_, List.getElem?_eq_getElem (by have := hbest.1; omega)⟩
                have hxk : (L.map strip)[b]? = some (strip x) := by rw [List.getElem?_map, hx]; rfl
                obtain ⟨z0, z1, _⟩ := hM.cells hxk
                have HZ : Hid (wr.cell? ⟨gl, b * 11, none⟩ = some (.int .i64 x.t) ∧ wr.cell? ⟨gl, b * 11 + 1, none⟩ = some (.int .i64 x.n) ∧ L[b]? = some x ∧ BestOf true L k b) := ⟨z0, z1, hx, hbest⟩
                have hbk : b < n := by have := hbest.1; omega
                have hst := hbest.step HI.out.came hx hy
                have HST : Hid (BestOf true L (k + 1) (if LB true y.t y.n x.t x.n then k else b)) := hst
                clear x0 x1 z0 z1 hvw ev hle hLk hyk hM hy hx hxk hbest hst
                go_wp2_with fail
                refine q_reg22 (by kernel_rfl) gl n cc k b 11 y.t y.n x.t x.n (LB true y.t y.n x.t x.n) _ rfl rfl rfl rfl rfl (by omega) hkk hbk HX.out.1 HX.out.2 HZ.out.1 HZ.out.2.1 (fun _ _ => rfl) (fun W _ => backward_any _ _ _ _ W) ?_
                intro W hS
                have HW : Hid (Below wo.heap.size wo W) := HK.out.trans (hS.mono HK.out.size)
                clear hS
                simp only [putAll, List.setIfInBounds_toArray, List.set_cons_zero, List.set_cons_succ]
                cases hr : LB true y.t y.n x.t x.n
                · rw [hr] at HST
                  go_wp2_with fail
                  go_roundw
                  case rel => exact ⟨k + 1, rfl, by omega, .inr ⟨b, rfl, by simpa using HST.out⟩, HW⟩
                  case measure => simp [intOf]; omega
                · rw [hr] at HST
                  go_wp2_with fail
                  go_roundw
                  case rel => exact ⟨k + 1, rfl, by omega, .inr ⟨k, rfl, by simpa using HST.out⟩, HW⟩
                  case measure => simp [intOf]; omega
    · have hstop : (¬ i < np) ∨ (i < np ∧ ¬ i < 60) := by omega
      have HB : Hid (Below w.heap.size w wr) := HI.out.bel
      have cP := fun W => push_nil 0 0 0 W
      have cQ := fun W => pop_nil W
      have cL := fun W => qlen_nil W
      clear hgo HI
      rcases hstop with hst | ⟨hst, hst2⟩
      · have tok : True := trivial
        go_wp2_with (first
          | (go_at_call 13; refine Calls_new (cP _) ?_; clear cP; intro w3 hb3)
          | (go_at_call 15; refine Calls_new (cQ _) ?_; clear cQ; intro w4 hb4)
          | (go_at_call 16; refine Calls_on (cL _) ?_))
        go_ret
        have b1 := HB.out.trans (hb3.out.mono HB.out.size)
        have b2 := b1.trans (hb4.out.mono b1.size)
        exact ⟨rfl, b2.trans ((below_new w4 _).out.mono b2.size)⟩
      · have tok : True := trivial
        go_wp2_with (first
          | (go_at_call 13; refine Calls_new (cP _) ?_; clear cP; intro w3 hb3)
          | (go_at_call 15; refine Calls_new (cQ _) ?_; clear cQ; intro w4 hb4)
          | (go_at_call 16; refine Calls_on (cL _) ?_))
        go_ret
        have b1 := HB.out.trans (hb3.out.mono HB.out.size)
        have b2 := b1.trans (hb4.out.mono b1.size)
        exact ⟨rfl, b2.trans ((below_new w4 _).out.mono b2.size)⟩
end Go.Proofs.Ytgophojgofmkeaa.Ck
