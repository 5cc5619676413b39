/-
  The law MergeSorted: the walk.
-/
import Derived.Test.YtgophojgofmkeaaZo
namespace Go.Proofs.Ytgophojgofmkeaa.Ck
open Go.RowKit Go.Maps

/-- The list that is being made. -/
structure MakI (wo wr : World) (v : Value) (lm : List OT) : Prop where
  row : RowO wr wo.heap.size v lm
  rng : RngL lm
  bel : Below wo.heap.size wo wr

set_option maxRecDepth 8000 in
set_option maxHeartbeats 8000000 in
theorem sorted_law (p : Option Addr) (xs : List IDS) (c : Nat) (w : World) (h : IDRows w p xs) :
    Calls Try.prog 3 #[.slice p xs.length c] w fun e w' => e = .returned (.bool true) ∧ Below w.heap.size w w' := by
  have cB := begun14 w
  have H0 : Hid (IDRows w p xs) := h
  clear h
  obtain ⟨m, hm⟩ : ∃ m, xs.length = m := ⟨_, rfl⟩
  have HM : Hid (xs.length = m) := hm
  rw [hm]
  clear hm
  go_enter Try.func3, Try.ntmps3
  go_wp2_with (go_at_call 5; refine Calls_new cB ?_; clear cB; intro w1 hb1; have HS : Hid (LawI w w1 0 (.slice none 0 0) (.slice none 0 0) [] []) := LawI.start w w1 hb1.out; clear hb1)
  go_loopw [4, 5, 6] (fun v4 v5 v6 wr => ∃ (i : Nat) (pL : Option Addr) (cL : Nat) (pA : Option Addr) (nA cA : Nat) (vs : List Value) (Ls : List (List OT)), v4 = .slice pL i cL ∧ v5 = .slice pA nA cA ∧ v6 = .int .i64 i ∧ i ≤ 6 ∧ i ≤ m ∧ Hid (LawI w wr i (.slice pL i cL) (.slice pA nA cA) vs Ls)) (fun _ _ v6 _ => 6 - (intOf v6).toNat)
  case atStart => exact ⟨0, none, 0, none, 0, 0, [], [], rfl, rfl, rfl, by omega, Nat.zero_le _, HS⟩
  case round =>
    clear HS
    obtain ⟨i, pL, cL, pA, nA, cA, vs, Ls, rfl, rfl, rfl, hi6, him, HI⟩ := hrel
    by_cases hgo : i < m ∧ i < 6
    · obtain ⟨hlt, hlt6⟩ := hgo
      obtain ⟨x, hx⟩ : ∃ x, xs[i]? = some x := ⟨_, List.getElem?_eq_getElem (by rw [HM.out]; exact hlt)⟩
      obtain ⟨wo, hwo⟩ : ∃ wo, wo = wr := ⟨_, rfl⟩
      subst hwo
      obtain ⟨g, o, rfl, hcs⟩ := H0.out (by have := HM.out; omega)
      have HX : Hid (w.cell? ⟨g, o + i, none⟩ = some (.slice x.p x.ids.length x.c) ∧ IDRow w x.p x.ids) := hcs i x hx
      clear hcs hx
      obtain ⟨px, ids, cx⟩ := x
      have HX2 : Hid (w.cell? ⟨g, o + i, none⟩ = some (.slice px ids.length cx) ∧ IDRow w px ids) := HX
      clear HX
      obtain ⟨ml, hml⟩ : ∃ ml, ids.length = ml := ⟨_, rfl⟩
      have HML : Hid (ids.length = ml) := hml
      rw [hml] at HX2
      clear hml
      have HW0 : Hid (Below w.heap.size w wo) := HI.out.bel
      have HK0 : Hid (MakI wo wo (.slice none 0 0) []) := ⟨RowO.nil _ _, fun x hx => by simp at hx, Below.refl _ _⟩
      have hltI : (i : Int) < 6 := by omega
      go_wp2_with fail
      go_loopw [7, 8] (fun v7 v8 wr => ∃ (k : Nat) (pM : Option Addr) (cM : Nat) (lm : List OT), v7 = .slice pM k cM ∧ v8 = .int .i64 k ∧ k ≤ 20 ∧ k ≤ ml ∧ lm.length = k ∧ Hid (MakI wo wr (.slice pM k cM) lm)) (fun _ v8 _ => 20 - (intOf v8).toNat)
      case atStart => exact ⟨0, none, 0, [], rfl, rfl, by omega, Nat.zero_le _, rfl, HK0⟩
      case round =>
        clear HK0
        obtain ⟨k, pM, cM, lm, rfl, rfl, hk20, hkm, hlm, HK⟩ := hrel
        have cI : wr.cell? ⟨g, o + i, none⟩ = some (.slice px ml cx) := cell_below HX2.out.1 (HW0.out.trans (HK.out.bel.mono HW0.out.size))
        by_cases hgk : k < ml ∧ k < 20
        · obtain ⟨hkl, hk2⟩ := hgk
          obtain ⟨tn, htn⟩ : ∃ tn, ids[k]? = some tn := ⟨_, List.getElem?_eq_getElem (by rw [HML.out]; exact hkl)⟩
          obtain ⟨t, n⟩ := tn
          have hR := HX2.out.2.below (HW0.out.trans (HK.out.bel.mono HW0.out.size))
          obtain ⟨gx, ox, rfl, hcx⟩ := hR (by rw [HML.out]; omega)
          obtain ⟨d0, d1, hrg⟩ := hcx k t n htn
          have HRG : Hid (Rng t n) := hrg
          have cA2 := fun W => at_any t n (100 * (i : Int) + (k : Int)) W
          have HA : Hid (∀ W, Below wr.heap.size wr W → RowO W wo.heap.size (.slice pM k cM) lm ∧ wo.heap.size ≤ W.heap.size) := fun W hW => ⟨HK.out.row.below hW, Nat.le_trans HK.out.bel.size hW.size⟩
          have hl1 : lm.length < 1000000 := by omega
          have hk2I : (k : Int) < 20 := by omega
          clear hR hcx htn hrg
          go_wp2_with (first
            | (go_at_call 6; refine Calls_new (cA2 _) ?_; intro w2 hb2; have HB2 : Hid (∀ o, Below wr.heap.size wr (w2.alloc o)) := fun o => hb2.out.trans ((below_new w2 o).out.mono hb2.out.size); clear hb2)
            | (refine wpList_appOp rfl _ _ rfl wo.heap.size (.slice pM k cM) lm ⟨t, n, 100 * (i : Int) + (k : Int)⟩ rfl w2.heap.size rfl ⟨(HA.out _ (HB2.out _)).1, heap_alloc_new w2 _, hl1, (HA.out _ (HB2.out _)).2⟩ ?_; intro p3 c3 w3 H3; refine Stop.out ?_))
          refine Stop.mk ?_
          go_wp2_with fail
          go_roundw
          case rel =>
            obtain ⟨k1, k2, _⟩ := H3.out
            have k1' := k1
            rw [hlm] at k1'
            refine ⟨k + 1, p3, c3, lm ++ [⟨t, n, 100 * (i : Int) + (k : Int)⟩], rfl, rfl, by omega, by omega, by rw [List.length_append, hlm]; rfl, k1', fun y hy => ?_, ?_⟩
            · rcases List.mem_append.1 hy with hy | hy
              · exact HK.out.rng y hy
              · rw [List.mem_singleton.1 hy]; exact HRG.out
            · exact grown_low (HK.out.bel.trans ((HB2.out _).mono HK.out.bel.size)) (HA.out _ (HB2.out _)).2 (HA.out _ (HB2.out _)).1 k2
          case measure => simp [intOf]; omega
        · have hstop : (¬ k < ml) ∨ (k < ml ∧ ¬ k < 20) := by omega
          have HR4 : Hid (∀ W, Below wr.heap.size wr W → W.ownsRow w.heap.size 25 1 (.slice pL i cL) i vs ∧ w.heap.size ≤ W.heap.size) := fun W hW => ⟨own_below HI.out.row (HK.out.bel.trans (hW.mono HK.out.bel.size)), Nat.le_trans HW0.out.size (Nat.le_trans HK.out.bel.size hW.size)⟩
          have HB4 : Hid (∀ o, Below wr.heap.size wr (wr.alloc o)) := fun o => (below_new wr o).out
          have hi1 : i < 1000000 := by omega
          clear hgk
          rcases hstop with hst | ⟨hst, hst2⟩
          · skip
            go_wp2_with (refine wpList_appList rfl _ _ rfl w.heap.size (.slice pL i cL) i vs (.slice pM k cM) rfl wr.heap.size rfl ⟨(HR4.out _ (HB4.out _)).1, heap_alloc_new wr _, rfl, hi1, (HR4.out _ (HB4.out _)).2⟩ ?_; intro p5 c5 w5 H5; refine Stop.out ?_)
            refine Stop.mk ?_
            have HR5 : Hid (RowO w5 w.heap.size (.slice pA nA cA) Ls.flatten ∧ RowO w5 wo.heap.size (.slice pM k cM) lm ∧ Ls.flatten.length + lm.length < 1000000 ∧ w.heap.size ≤ w5.heap.size) := by
              have r4 := (HR4.out _ (HB4.out (.cells #[.slice pM k cM] 25))).1
              refine ⟨(HI.out.all.below (HK.out.bel.trans ((HB4.out _).mono HK.out.bel.size))).tagged r4 H5.out.2, (HK.out.row.below (HB4.out _)).tagged r4 H5.out.2, ?_, Nat.le_trans (HR4.out _ (HB4.out (.cells #[.slice pM k cM] 25))).2 H5.out.2.size⟩
              have := HI.out.size
              omega
            go_wp2_with (refine wpList_appOps rfl _ _ rfl w.heap.size wo.heap.size (.slice pA nA cA) (.slice pM k cM) Ls.flatten lm rfl rfl HR5 ?_; intro p6 c6 w6 H6; refine Stop.out ?_)
            refine Stop.mk ?_
            have HN : Hid (LawI w w6 (i + 1) (.slice p5 (i + 1) c5) (.slice p6 (Ls.flatten.length + lm.length) c6) (vs ++ [.slice pM k cM]) (Ls ++ [lm])) := HI.out.more HK.out.bel HK.out.row (by omega) HK.out.rng (HB4.out (.cells #[.slice pM k cM] 25)) H5.out.1 H5.out.2 H6.out.1 H6.out.2.1 H6.out.2.2
            clear H5 H6 HR5
            go_wp2_with fail
            go_roundw
            case rel => exact ⟨i + 1, p5, c5, p6, Ls.flatten.length + lm.length, c6, _, _, rfl, by simp [hlm], rfl, by omega, by omega, HN⟩
            case measure => simp [intOf]; omega
          · skip
            go_wp2_with (refine wpList_appList rfl _ _ rfl w.heap.size (.slice pL i cL) i vs (.slice pM k cM) rfl wr.heap.size rfl ⟨(HR4.out _ (HB4.out _)).1, heap_alloc_new wr _, rfl, hi1, (HR4.out _ (HB4.out _)).2⟩ ?_; intro p5 c5 w5 H5; refine Stop.out ?_)
            refine Stop.mk ?_
            have HR5 : Hid (RowO w5 w.heap.size (.slice pA nA cA) Ls.flatten ∧ RowO w5 wo.heap.size (.slice pM k cM) lm ∧ Ls.flatten.length + lm.length < 1000000 ∧ w.heap.size ≤ w5.heap.size) := by
              have r4 := (HR4.out _ (HB4.out (.cells #[.slice pM k cM] 25))).1
              refine ⟨(HI.out.all.below (HK.out.bel.trans ((HB4.out _).mono HK.out.bel.size))).tagged r4 H5.out.2, (HK.out.row.below (HB4.out _)).tagged r4 H5.out.2, ?_, Nat.le_trans (HR4.out _ (HB4.out (.cells #[.slice pM k cM] 25))).2 H5.out.2.size⟩
              have := HI.out.size
              omega
            go_wp2_with (refine wpList_appOps rfl _ _ rfl w.heap.size wo.heap.size (.slice pA nA cA) (.slice pM k cM) Ls.flatten lm rfl rfl HR5 ?_; intro p6 c6 w6 H6; refine Stop.out ?_)
            refine Stop.mk ?_
            have HN : Hid (LawI w w6 (i + 1) (.slice p5 (i + 1) c5) (.slice p6 (Ls.flatten.length + lm.length) c6) (vs ++ [.slice pM k cM]) (Ls ++ [lm])) := HI.out.more HK.out.bel HK.out.row (by omega) HK.out.rng (HB4.out (.cells #[.slice pM k cM] 25)) H5.out.1 H5.out.2 H6.out.1 H6.out.2.1 H6.out.2.2
            clear H5 H6 HR5
            go_wp2_with fail
            go_roundw
            case rel => exact ⟨i + 1, p5, c5, p6, Ls.flatten.length + lm.length, c6, _, _, rfl, by simp [hlm], rfl, by omega, by omega, HN⟩
            case measure => simp [intOf]; omega
    · have hstop : (¬ i < m) ∨ (i < m ∧ ¬ i < 6) := by omega
      clear hgo
      have HLs : Hid (ListsAt wr pL vs Ls) := by
        refine ⟨by rw [HI.out.len.1, HI.out.len.2], fun h0 => ?_, fun j v l hv hl => (HI.out.each j v l hv hl).low (Nat.zero_le _)⟩
        rcases HI.out.row.2 with ⟨_, e⟩ | ⟨g, cp, cur, e, _, hblk, _, _, _, htk⟩
        · rw [HI.out.len.1] at h0; omega
        · refine ⟨g, cur, by injection e, hblk, fun j v hv => ?_⟩
          have hj := (List.getElem?_eq_some_iff.1 hv).1
          rw [HI.out.len.1] at hj
          rw [← htk, List.getElem?_take, if_pos (by omega), Array.getElem?_toList] at hv
          exact hv
      have hfl := HI.out.size
      have cS := sorted_any pL vs cL Ls wr HLs.out HI.out.rng (by omega) (by rw [HI.out.len.1]; omega)
      rw [HI.out.len.1] at cS
      have HC : Hid (∀ W, Below wr.heap.size wr W → Calls Try.prog 8 #[.slice pA nA cA] W fun e w' => ∃ v' S, e = .returned v' ∧ RowO w' W.heap.size v' S ∧ IsSorted Ls.flatten S ∧ Below W.heap.size W w') := fun W hW => rsorted_any w.heap.size _ Ls.flatten W (HI.out.all.below hW) HI.out.rng (by omega)
      have HB : Hid (Below w.heap.size w wr) := HI.out.bel
      have HFL : Hid (Ls.flatten.length ≤ 1000) := by show _ ≤ _; omega
      clear HLs HI hfl
      rcases hstop with hst | ⟨hst, hst2⟩
      · skip
        go_wp2_with (go_at_call 7; refine Stop.out ?_)
        refine Stop.mk ?_
        refine cS.mono ?_
        rintro e w2 ⟨v2, S, rfl, k1, k2, k3⟩
        obtain ⟨p2, c2, rfl⟩ := k1.slice
        have H2 : Hid (RowO w2 wr.heap.size (.slice p2 S.length c2) S ∧ IsSorted Ls.flatten S ∧ Below wr.heap.size wr w2) := ⟨k1, k2, k3⟩
        have cR := HC.out w2 k3
        clear cS k1 k2 k3
        go_wp2_with (go_at_call 8; refine Stop.out ?_)
        refine Stop.mk ?_
        refine cR.mono ?_
        rintro e w3 ⟨v3, S', rfl, k1, k2, k3⟩
        have hSS : S' = S := isSorted_unique k2 H2.out.2.1
        have hSl : S'.length ≤ 1000 := by rw [isSorted_length k2]; exact HFL.out
        subst hSS
        obtain ⟨p3, c3, rfl⟩ := k1.slice
        have H3 : Hid (RowO w3 wr.heap.size (.slice p2 S'.length c2) S' ∧ RowO w3 w2.heap.size (.slice p3 S'.length c3) S' ∧ Below w.heap.size w w3) := ⟨H2.out.1.below k3, k1, (HB.out.trans (H2.out.2.2.mono HB.out.size)).trans (k3.mono (Nat.le_trans HB.out.size H2.out.2.2.size))⟩
        clear cR k1 k2 k3 H2 HC
        have hnn : (S'.length != S'.length) = false := by simp
        go_wp2_with fail
        go_loopw [11] (fun v11 wr => ∃ j : Nat, v11 = .int .i64 j ∧ j ≤ S'.length ∧ Hid (Below w3.heap.size w3 wr)) (fun v11 _ => S'.length - (intOf v11).toNat)
        case atStart => exact ⟨0, rfl, Nat.zero_le _, Below.refl _ _⟩
        case round =>
          obtain ⟨j, rfl, hj, HJ⟩ := hrel
          by_cases hjl : j = S'.length
          · subst hjl
            go_wp2_with fail
            go_ret
            exact ⟨rfl, H3.out.2.2.trans (HJ.out.mono H3.out.2.2.size)⟩
          · have hjlt : j < S'.length := by omega
            obtain ⟨y, hy⟩ : ∃ y, S'[j]? = some y := ⟨_, List.getElem?_eq_getElem hjlt⟩
            have r1 := H3.out.1.below HJ.out
            have r2 := H3.out.2.1.below HJ.out
            obtain ⟨gG, _, _, e1, _⟩ := r1.form (by omega)
            obtain ⟨gW, _, _, e2, _⟩ := r2.form (by omega)
            have e1' : p2 = some ⟨gG, 0, none⟩ := by injection e1
            have e2' : p3 = some ⟨gW, 0, none⟩ := by injection e2
            subst e1' e2'
            obtain ⟨a0, a1, _, a3, _⟩ := r1.cells hy
            obtain ⟨b0, b1, _, b3, _⟩ := r2.cells hy
            have HC2 : Hid (wr.cell? ⟨gG, j * 11, none⟩ = some (.int .i64 y.t) ∧ wr.cell? ⟨gG, j * 11 + 1, none⟩ = some (.int .i64 y.n) ∧ wr.cell? ⟨gG, j * 11 + 3, none⟩ = some (.int .i64 y.k) ∧ wr.cell? ⟨gW, j * 11, none⟩ = some (.int .i64 y.t) ∧ wr.cell? ⟨gW, j * 11 + 1, none⟩ = some (.int .i64 y.n) ∧ wr.cell? ⟨gW, j * 11 + 3, none⟩ = some (.int .i64 y.k)) := ⟨a0, a1, a3, b0, b1, b3⟩
            clear r1 r2 e1 e2 a0 a1 a3 b0 b1 b3 hy
            go_wp2_with fail
            refine sl_reg21 (by kernel_rfl) gG gW S'.length c2 c3 j y.t y.n y.k _ rfl rfl rfl rfl hjlt HC2.out.1 HC2.out.2.1 HC2.out.2.2.1 HC2.out.2.2.2.1 HC2.out.2.2.2.2.1 HC2.out.2.2.2.2.2 (fun W _ => same_true _ _ W) ?_
            intro W hS
            have HW : Hid (Below w3.heap.size w3 W) := HJ.out.trans (hS.mono HJ.out.size)
            clear hS
            simp only [putAll, List.setIfInBounds_toArray, List.set_cons_zero, List.set_cons_succ]
            go_wp2_with fail
            go_roundw
            case rel => exact ⟨j + 1, rfl, by omega, HW⟩
            case measure => simp [intOf]; omega
      · skip
        go_wp2_with (go_at_call 7; refine Stop.out ?_)
        refine Stop.mk ?_
        refine cS.mono ?_
        rintro e w2 ⟨v2, S, rfl, k1, k2, k3⟩
        obtain ⟨p2, c2, rfl⟩ := k1.slice
        have H2 : Hid (RowO w2 wr.heap.size (.slice p2 S.length c2) S ∧ IsSorted Ls.flatten S ∧ Below wr.heap.size wr w2) := ⟨k1, k2, k3⟩
        have cR := HC.out w2 k3
        clear cS k1 k2 k3
        go_wp2_with (go_at_call 8; refine Stop.out ?_)
        refine Stop.mk ?_
        refine cR.mono ?_
        rintro e w3 ⟨v3, S', rfl, k1, k2, k3⟩
        have hSS : S' = S := isSorted_unique k2 H2.out.2.1
        have hSl : S'.length ≤ 1000 := by rw [isSorted_length k2]; exact HFL.out
        subst hSS
        obtain ⟨p3, c3, rfl⟩ := k1.slice
        have H3 : Hid (RowO w3 wr.heap.size (.slice p2 S'.length c2) S' ∧ RowO w3 w2.heap.size (.slice p3 S'.length c3) S' ∧ Below w.heap.size w w3) := ⟨H2.out.1.below k3, k1, (HB.out.trans (H2.out.2.2.mono HB.out.size)).trans (k3.mono (Nat.le_trans HB.out.size H2.out.2.2.size))⟩
        clear cR k1 k2 k3 H2 HC
        have hnn : (S'.length != S'.length) = false := by simp
        go_wp2_with fail
        go_loopw [11] (fun v11 wr => ∃ j : Nat, v11 = .int .i64 j ∧ j ≤ S'.length ∧ Hid (Below w3.heap.size w3 wr)) (fun v11 _ => S'.length - (intOf v11).toNat)
        case atStart => exact ⟨0, rfl, Nat.zero_le _, Below.refl _ _⟩
        case round =>
          obtain ⟨j, rfl, hj, HJ⟩ := hrel
          by_cases hjl : j = S'.length
          · subst hjl
            go_wp2_with fail
            go_ret
            exact ⟨rfl, H3.out.2.2.trans (HJ.out.mono H3.out.2.2.size)⟩
          · have hjlt : j < S'.length := by omega
            obtain ⟨y, hy⟩ : ∃ y, S'[j]? = some y := ⟨_, List.getElem?_eq_getElem hjlt⟩
            have r1 := H3.out.1.below HJ.out
            have r2 := H3.out.2.1.below HJ.out
            obtain ⟨gG, _, _, e1, _⟩ := r1.form (by omega)
            obtain ⟨gW, _, _, e2, _⟩ := r2.form (by omega)
            have e1' : p2 = some ⟨gG, 0, none⟩ := by injection e1
            have e2' : p3 = some ⟨gW, 0, none⟩ := by injection e2
            subst e1' e2'
            obtain ⟨a0, a1, _, a3, _⟩ := r1.cells hy
            obtain ⟨b0, b1, _, b3, _⟩ := r2.cells hy
            have HC2 : Hid (wr.cell? ⟨gG, j * 11, none⟩ = some (.int .i64 y.t) ∧ wr.cell? ⟨gG, j * 11 + 1, none⟩ = some (.int .i64 y.n) ∧ wr.cell? ⟨gG, j * 11 + 3, none⟩ = some (.int .i64 y.k) ∧ wr.cell? ⟨gW, j * 11, none⟩ = some (.int .i64 y.t) ∧ wr.cell? ⟨gW, j * 11 + 1, none⟩ = some (.int .i64 y.n) ∧ wr.cell? ⟨gW, j * 11 + 3, none⟩ = some (.int .i64 y.k)) := ⟨a0, a1, a3, b0, b1, b3⟩
            clear r1 r2 e1 e2 a0 a1 a3 b0 b1 b3 hy
            go_wp2_with fail
            refine sl_reg21 (by kernel_rfl) gG gW S'.length c2 c3 j y.t y.n y.k _ rfl rfl rfl rfl hjlt HC2.out.1 HC2.out.2.1 HC2.out.2.2.1 HC2.out.2.2.2.1 HC2.out.2.2.2.2.1 HC2.out.2.2.2.2.2 (fun W _ => same_true _ _ W) ?_
            intro W hS
            have HW : Hid (Below w3.heap.size w3 W) := HJ.out.trans (hS.mono HJ.out.size)
            clear hS
            simp only [putAll, List.setIfInBounds_toArray, List.set_cons_zero, List.set_cons_succ]
            go_wp2_with fail
            go_roundw
            case rel => exact ⟨j + 1, rfl, by omega, HW⟩
            case measure => simp [intOf]; omega
end Go.Proofs.Ytgophojgofmkeaa.Ck
