import Derived.Test.YtgpbphjplbhfmaaGreatKPtb
import Derived.Deep.RegionWith

namespace Go.Proofs.YtgpbphjplbhfmaaGreat.Ck.Y.S
open Go.RowKit Go.Maps Go.Lib
theorem RowI.capsS {w : World} {base : Nat} {v : Value} {l : List PI} (h : RowI w base v l) : ∃ p c, v = .slice p l.length c ∧ ∀ (i : Nat) (x : PI), l[i]? = some x → ∃ g, p = some ⟨g, 0, none⟩ ∧ w.cell? ⟨g, i * 2, none⟩ = some (.int .i64 x.1) ∧ w.cell? ⟨g, i * 2 + 1, none⟩ = some (.int .i64 x.2) := by
  rcases h.2 with ⟨rfl, h0⟩ | ⟨g, cap, cur, rfl, hb, hg, hn, hm, hs, ht⟩
  · exact ⟨none, 0, by rw [h0], fun i x hx => by have := List.eq_nil_of_length_eq_zero h0; subst this; simp at hx⟩
  · exact ⟨_, cap, rfl, fun i x hx => ⟨g, rfl, RowI.cells h hx⟩⟩
theorem blk2S {w : World} {b : Nat} {x y : Int} (h : w.heap[b]? = some (.cells #[.int .i64 x, .int .i64 y] 29 (0, 0))) : w.cell? ⟨b, 0, none⟩ = some (.int .i64 x) ∧ w.cell? ⟨b, 1, none⟩ = some (.int .i64 y) := ⟨cellOf h 0, cellOf h 1⟩
theorem parV_some {T : List OB} {q p : PI} {nm : ByteArray} (h : placeT T q = some (p, nm)) : parV T q = .tuple #[.agg #[.int .i64 p.1, .int .i64 p.2], .string nm, .bool true] := by unfold parV; rw [h]
theorem parV_none {T : List OB} {q : PI} (h : placeT T q = none) : parV T q = .tuple #[.agg #[.int .i64 0, .int .i64 0], .string ⟨#[]⟩, .bool false] := by unfold parV; rw [h]
theorem bool_of (p : Prop) : ∃ r : Bool, r = true ↔ p := by
  by_cases h : p
  · exact ⟨true, by simp [h]⟩
  · exact ⟨false, by simp [h]⟩
theorem live_iff {T : List OB} {t n : Int} : LiveT T t n ↔ (t = 0 ∧ n = 0) ∨ Bel T (t, n) (0, 0) := by simp [LiveT, rootB]
theorem has_some {T : List OB} {q : PI} {k : Nat} (h : findT T q.1 q.2 = some k) : hasT T (q.1, q.2) = true := by unfold hasT; rw [show findT T (q.1, q.2).1 (q.1, q.2).2 = some k from h]; simp
theorem has_none {T : List OB} {q : PI} (h : findT T q.1 q.2 = none) : hasT T (q.1, q.2) = (rootB q.1 q.2 || trashB q.1 q.2) := by unfold hasT; rw [show findT T (q.1, q.2).1 (q.1, q.2).2 = none from h]; simp
theorem zero_has {q : PI} (h0 : q.1 = 0) : (rootB q.1 q.2 || trashB q.1 q.2) = (q.2 == 0 || q.2 == 1) := by
  have hd : decide (q.1 = 0) = true := by simp [h0]
  unfold rootB trashB
  rw [hd]
  simp only [Bool.true_and]
  rfl
theorem place_none {T : List OB} {q : PI} (h : findT T q.1 q.2 = none) : placeT T q = none := by unfold placeT; rw [h]; rfl
theorem TreeY.gl {w : World} {base g s : Nat} {T : List OB} (h : TreeY w base g T s) {gl c m : Nat} (hc : w.heap[g]? = some (.cells #[.slice (some ⟨gl, 0, none⟩) m c, .int .i64 (s : Nat)] 65 (0, 0))) : base ≤ gl := by
  obtain ⟨v, h1, h2⟩ := h.cell
  rw [hc] at h1
  injection h1 with h1
  injection h1 with h1 _ _
  have hv : v = .slice (some ⟨gl, 0, none⟩) m c := by
    have := congrArg (fun A : Array Value => A[0]?) h1
    simpa using this.symm
  obtain ⟨_, _, _, hb⟩ := own_tagY h2 (g := gl) (by rw [hv]; rfl)
  exact hb
set_option maxRecDepth 8000 in
set_option maxHeartbeats 40000000 in
theorem same_law {F : Nat → Prop} {u w : World} {gt base : Nat} {l os : List OG} {v : Value} (hT : TW F w gt l) (hs : Srt l os) (htk : Taken u os) (hr : RowG w base v os) (hn : ∀ g, v.ownBlock = some g → ¬ F g) (hl : os.length ≤ 400) :
    Calls Tryz.prog 10 #[.pointer (some ⟨gt, 0, none⟩), v] w fun e w' => e = .returned (.bool true) ∧ TJ w F gt l w' := by
  have h0 : ∀ o ∈ os, ¬ o.ot = 0 := fun o ho => by obtain ⟨ns, bs, _, hm, _⟩ := htk.each o ho; exact (may_ok' hm).2
  have cF := yfold_any base v os w hr htk.rng (by omega) h0
  have HIN : Hid (TW F w gt l ∧ Srt l os ∧ Taken u os ∧ RowG w base v os ∧ (∀ g, v.ownBlock = some g → ¬ F g) ∧ os.length ≤ 400 ∧ (∀ b, F b → b < w.heap.size)) := ⟨hT, hs, htk, hr, hn, hl, hT.low⟩
  obtain ⟨vp, vc, rfl⟩ := hr.slice
  clear hT hs htk hr hn hl h0
  go_enter Tryz.func10, Tryz.ntmps10
  go_wp2_with (go_at_call 28; refine cF.mono ?_; clear cF; rintro e w1 ⟨gy, so, T, s, rfl, hso, hf, hwf, hty, hb1⟩; refine Stp.out ?_)
  refine Stp.mk ?_
  obtain rfl : so = l := sorted_one HIN.out.2.2.1.apart HIN.out.2.2.1.rng (by have := HIN.out.2.2.2.2.2.1; omega) HIN.out.2.1 hso
  obtain ⟨F1, k1, low1, nf1, up1⟩ := (TJ.start HIN.out.1).rebase hb1
  have HT : Hid (FoldT [] 0 so T s ∧ WfT T ∧ T.length ≤ 2000 ∧ True) := ⟨hf, hwf, by have h1 := fold_len hf; have h2 := HIN.out.2.1.len; have h3 := HIN.out.2.2.2.2.2.1; rw [List.length_nil] at h1; omega, trivial⟩
  have HY : Hid (∀ W, TJ w1 F1 gt so W → TreeY W w.heap.size gy T s) := fun W hW => TreeY.kept hty hW.only fun b hb _ hF => by have := low1 b hF; omega
  have H1 : Hid (TJ w1 F1 gt so w1 ∧ (∀ b, F1 b → b < w.heap.size) ∧ Below w.heap.size w w1 ∧ (∀ l' w2, TJ w1 F1 gt l' w2 → TJ w F gt l' w2) ∧ (∀ b, b < w.heap.size → ¬ F b → ¬ F1 b)) := ⟨k1, low1, hb1, up1, nf1⟩
  obtain ⟨py, cy, hyc, _⟩ := hty.view
  have HYB : Hid (w1.heap[gy]? = some (.cells #[.slice py T.length cy, .int .i64 (s : Nat)] 65 (0, 0)) ∧ w.heap.size ≤ gy ∧ TreeY w1 w.heap.size gy T s) := ⟨hyc, hty.lo, hty⟩
  clear hso hf hwf hty hb1 k1 low1 nf1 up1 hyc
  have HR1 : Hid (∀ W, TJ w1 F1 gt so W → RowG W base (.slice vp os.length vc) os) := fun W hW => hW.row (HIN.out.2.2.2.1.below H1.out.2.2.1) fun g hg => by
    obtain ⟨cs, hc, _⟩ := HIN.out.2.2.2.1.tag hg
    exact H1.out.2.2.2.2 g (block_lt hc) (HIN.out.2.2.2.2.1 g hg)
  go_wp2_with fail
  refine sm2 (by kernel_rfl) (fun W => TJ w1 F1 gt so W) gt gy T.length s cy py w1 rfl rfl rfl (H1.out.1.below (below_drewH w1)) (fun W hW => hW.cell (cellOf HYB.out.1 0) (fun hF => by have := H1.out.2.1 gy hF; have := HYB.out.2.1; omega)) (fun W hW => hW.cell (cellOf HYB.out.1 1) (fun hF => by have := H1.out.2.1 gy hF; have := HYB.out.2.1; omega)) (fun W hW => hW.len HT.out.1) (fun W hW => hW.skipped HT.out.1) ?_
  intro w2 hJ2
  have H2 : Hid (TJ w1 F1 gt so w2) := hJ2
  clear hJ2
  simp only [putAll, sA, sB, sC]
  go_wp2_with (go_at_call 29; refine (yids_any base (.slice vp os.length vc) os w2 (HR1.out w2 H2.out) (by have := HIN.out.2.2.2.2.2.1; omega)).mono ?_; rintro e w3 ⟨vi, rfl, hri, hb3⟩; refine Stp.out ?_)
  refine Stp.mk ?_
  obtain ⟨F3, k3, low3, nf3, up3⟩ := H2.out.rebase hb3
  obtain ⟨ids, hids⟩ : ∃ ids, idsL os = ids := ⟨_, rfl⟩
  have hidl : (idsL os).length ≤ 1000 := by
    have := idsL_length os
    have := HIN.out.2.2.2.2.2.1
    omega
  rw [hids] at hri hidl
  obtain ⟨pi, ci, rfl, _⟩ := RowI.capsS hri
  have H3 : Hid (TJ w3 F3 gt so w3 ∧ RowI w3 w2.heap.size (.slice pi ids.length ci) ids ∧ (∀ b, F3 b → b < w2.heap.size) ∧ (∀ l' w', TJ w3 F3 gt l' w' → TJ w1 F1 gt l' w')) := ⟨k3, hri, low3, up3⟩
  have hil : ids.length ≤ 1000 := hidl
  clear hri hb3 k3 low3 nf3 up3 hids hidl
  go_wp2_with fail
  go_loopw [7] (fun ii wr => ∃ i : Nat, ii = .int .i64 i ∧ i ≤ ids.length ∧ Hid (TJ w3 F3 gt so wr)) (fun ii _ => ids.length - (RowKit.intOf ii).toNat)
  case atStart => exact ⟨0, rfl, by omega, H3.out.1⟩
  case round =>
    obtain ⟨i, rfl, hi, HI⟩ := hrel
    generalize wr = wo at *
    by_cases hlt : i < ids.length
    · have hltI : (i : Int) < ids.length := by omega
      have HLT : Hid (i < ids.length) := hlt
      obtain ⟨q, hq⟩ : ∃ q, ids[i]? = some q := ⟨_, List.getElem?_eq_getElem hlt⟩
      have HQ : Hid (ids[i]? = some q) := hq
      have HRW : Hid (∀ W, TJ w3 F3 gt so W → RowI W w2.heap.size (.slice pi ids.length ci) ids) := fun W hW => hW.rowI H3.out.2.1 fun g hg hF => by
        obtain ⟨_, _, hb⟩ := H3.out.2.1.tag hg
        have := H3.out.2.2.1 g hF
        omega
      obtain ⟨p1, c1, e1, h1⟩ := RowI.capsS (HRW.out wo HI.out)
      cases e1
      obtain ⟨gi, rfl, a0, a1⟩ := h1 i q hq
      have cN := yfind_any w.heap.size gy s T q.1 q.2 wo (HY.out wo (H3.out.2.2.2 _ _ HI.out))
      have HCP : Hid (∀ W, TJ w3 F3 gt so W → Calls Tryz.prog 11 #[.pointer (some ⟨gt, 0, none⟩), .agg #[.int .i64 q.1, .int .i64 q.2]] W fun e w' => e = .returned (parV T (q.1, q.2)) ∧ TJ w3 F3 gt so w') := fun W hW => hW.parent HT.out.1 q.1 q.2
      obtain ⟨lv, hlv⟩ := bool_of (LiveT T q.1 q.2)
      have HLV : Hid (lv = true ↔ LiveT T q.1 q.2) := hlv
      clear hq h1 hlt hlv
      have htl : T.length ≤ 2000 := HT.out.2.2.1
      cases hf : findT T q.1 q.2 with
      | some kk =>
        obtain ⟨o, hko, ho1, ho2⟩ := findT_some hf
        have hkl : kk < T.length := (List.getElem?_eq_some_iff.1 hko).1
        have hpl : placeT T (q.1, q.2) = some ((o.pt, o.pn), o.nm) := placeT_at (q := (q.1, q.2)) hf hko
        have hpv := parV_some hpl
        have HH : Hid (hasT T (q.1, q.2) = true) := has_some hf
        have HKO : Hid (T[kk]? = some o ∧ kk < T.length) := ⟨hko, hkl⟩
        rw [fndZ_some hf] at cN
        clear ho1 ho2 hpl hko
        have HPV : Hid (∀ W, TJ w3 F3 gt so W → Calls Tryz.prog 11 #[.pointer (some ⟨gt, 0, none⟩), .agg #[.int .i64 q.1, .int .i64 q.2]] W fun e w' => e = .returned (.tuple #[.agg #[.int .i64 o.pt, .int .i64 o.pn], .string o.nm, .bool true]) ∧ TJ w3 F3 gt so w') := fun W hW => by have h := HCP.out W hW; rwa [hpv] at h
        clear hpv hf HCP
        as_aux_lemma =>
        go_wp2_with (first
          | (go_at_call 30; refine Calls_new cN ?_; clear cN; intro w5 HB5; have H5 : Hid (TJ w3 F3 gt so w5) := HI.out.below HB5.out; obtain ⟨p2, c2, e2, h2⟩ := RowI.capsS (HRW.out w5 H5.out); cases e2; obtain ⟨gi2, e3, d0, d1⟩ := h2 i q HQ.out; cases e3; clear h2 a0 a1)
          | (go_at_call 11; refine (HPV.out w5 H5.out).mono ?_; rintro e w6 ⟨rfl, ht6⟩; have H6 : Hid (TJ w3 F3 gt so w6) := ht6; clear ht6 d0 d1)
          | (refine wpList_putW rfl 29 _ _ rfl w6.heap.size (#[.int .i64 o.pt, .int .i64 o.pn]) rfl rfl 29 _ (heap_alloc_new w6 _) infoID rfl (idC_one _ _) ?_; intro w8 H8; refine Stp.out ?_))
        refine Stp.mk ?_
        have hb8 : Below w6.heap.size w6 w8 := (Below.alloc (Below.refl w6.heap.size w6) (Nat.le_refl _) _).trans (H8.out.2.1.below (by simp) fun b hb => by rw [show b = w6.heap.size from hb]; exact Nat.le_refl _)
        obtain ⟨F8, k8, low8, nf8, up8⟩ := H6.out.rebase hb8
        have H8b := H8.out.1
        obtain ⟨pb, hpb⟩ : ∃ pb, w6.heap.size = pb := ⟨_, rfl⟩
        rw [hpb] at H8b low8 ⊢
        have HB : Hid (TJ w8 F8 gt so w8 ∧ (∀ W, TJ w8 F8 gt so W → TJ w3 F3 gt so W) ∧ w8.heap[pb]? = some (.cells #[.int .i64 o.pt, .int .i64 o.pn] 29 (0, 0)) ∧ ¬ F8 pb) := ⟨k8, fun W h => up8 _ _ h, H8b, fun hF => by have := low8 pb hF; omega⟩
        have HP0 : Hid (∀ W, TJ w8 F8 gt so W → W.cell? ⟨pb, 0, none⟩ = some (.int .i64 o.pt)) := fun W hW => hW.cell (blk2S HB.out.2.2.1).1 HB.out.2.2.2
        have HP1 : Hid (∀ W, TJ w8 F8 gt so W → W.cell? ⟨pb, 1, none⟩ = some (.int .i64 o.pn)) := fun W hW => hW.cell (blk2S HB.out.2.2.1).2 HB.out.2.2.2
        have HC0 : Hid (∀ W, TJ w8 F8 gt so W → W.cell? ⟨gi, i * 2, none⟩ = some (.int .i64 q.1) ∧ W.cell? ⟨gi, i * 2 + 1, none⟩ = some (.int .i64 q.2)) := fun W hW => by
          obtain ⟨p2, c2, e2, h2⟩ := RowI.capsS (HRW.out W (HB.out.2.1 W hW))
          cases e2
          obtain ⟨g2, e3, x0, x1⟩ := h2 i q HQ.out
          cases e3
          exact ⟨x0, x1⟩
        have HJD : Hid (TJ w8 F8 gt so w8.drew) := HB.out.1.below (below_drewH w8)
        clear hb8 k8 low8 nf8 up8 H8b hpb H8
        go_wp2_with fail
        obtain ⟨gl, cz, hg1, _, _, x2, x3, x4, _⟩ := HYB.out.2.2.ob HKO.out.1
        have hgl := TreeY.gl HYB.out.2.2 hg1
        have HG : Hid (¬ F1 gy ∧ ¬ F1 gl) := ⟨fun hF => by have := H1.out.2.1 gy hF; have := HYB.out.2.1; omega, fun hF => by have := H1.out.2.1 gl hF; omega⟩
        refine sm10a (by kernel_rfl) (fun W => TJ w8 F8 gt so W) gy gl T.length cz kk pb o.pt o.pn o.nm w8 rfl rfl rfl rfl rfl rfl HJD.out HKO.out.2 (fun W hW => (H3.out.2.2.2 _ _ (HB.out.2.1 W hW)).cell (cellOf hg1 0) HG.out.1) HP0.out HP1.out (fun W hW => (H3.out.2.2.2 _ _ (HB.out.2.1 W hW)).cell x2 HG.out.2) (fun W hW => (H3.out.2.2.2 _ _ (HB.out.2.1 W hW)).cell x3 HG.out.2) (fun W hW => (H3.out.2.2.2 _ _ (HB.out.2.1 W hW)).cell x4 HG.out.2)
          (fun W hW => (same_any o.pt o.pn o.pt o.pn W).mono fun e w' h => ⟨by rw [h.1, show sameB o.pt o.pn o.pt o.pn = true from sameB_iff.2 ⟨rfl, rfl⟩], hW.below h.2⟩) ?_
        intro w9 hJ9
        have H9 : Hid (TJ w8 F8 gt so w9) := hJ9
        clear hJ9 hg1 x2 x3 x4 hgl HG
        simp only [putAll, sA, sB, sC]
        obtain ⟨a0, a1⟩ := HC0.out w9 H9.out
        have hk0 : (0 : Int) ≤ kk := by omega
        go_wp2_with fail
        have HD9 : Hid (TJ w8 F8 gt so w9.drew) := H9.out.below (below_drewH w9)
        refine sm13 (by kernel_rfl) (fun W => TJ w8 F8 gt so W) gt gy gi ids.length ci i q.1 q.2 true (dirT T q.1 q.2) lv w9 rfl rfl rfl rfl rfl rfl HD9.out HLT.out (fun W hW => (HC0.out W hW).1) (fun W hW => (HC0.out W hW).2)
          (fun W hW => (hW.has HT.out.1 q.1 q.2).mono fun e w' h => ⟨by rw [h.1, HH.out], h.2⟩) (fun W hW => hW.dir HT.out.1 q.1 q.2) (fun W hW => (ydir_any w.heap.size gy s T q.1 q.2 W (HY.out W (H3.out.2.2.2 _ _ (HB.out.2.1 W hW)))).mono fun e w' h => ⟨h.1, hW.below h.2⟩)
          (fun W hW => hW.live HT.out.1 q.1 q.2 (HLV.out.trans live_iff)) (fun W hW => (ylive_any w.heap.size gy s T q.1 q.2 W (HY.out W (H3.out.2.2.2 _ _ (HB.out.2.1 W hW))) HT.out.2.1.rank).mono fun e w' ⟨r, h1, h2, h3⟩ => ⟨by rw [h1, Bool.eq_iff_iff.2 (h2.trans HLV.out.symm)], hW.below h3⟩) ?_
        intro w10 hJ10
        have H10 : Hid (TJ w8 F8 gt so w10) := hJ10
        clear hJ10 a0 a1 HD9
        simp only [putAll, sA, sB, sC]
        have HD10 : Hid (TJ w8 F8 gt so w10.drew) := H10.out.below (below_drewH w10)
        have HSJ : ∀ W, Hid (TJ w8 F8 gt so W) → W.cell? ⟨gi, i * 2, none⟩ = some (.int .i64 q.1) ∧ W.cell? ⟨gi, i * 2 + 1, none⟩ = some (.int .i64 q.2) ∧ Hid (TJ w8 F8 gt so W) := fun W h => ⟨(HC0.out W h.out).1, (HC0.out W h.out).2, h⟩
        have S1 := HSJ _ HD10
        have S2 := HSJ _ H10
        go_wp2_with fail
        go_region_held3 (fun W => W.cell? ⟨gi, i * 2, none⟩ = some (.int .i64 q.1) ∧ W.cell? ⟨gi, i * 2 + 1, none⟩ = some (.int .i64 q.2) ∧ Hid (TJ w8 F8 gt so W))
          (first | exact S1 | exact S2 | exact HSJ _ (by assumption) | assumption)
          (first
            | (go_at_call 16; refine (HD10.out.kids HT.out.1 q.1 q.2).mono ?_; rintro e w14 ⟨⟨vk, mk, rfl, hrk, hik, hlk⟩, ht14⟩; have HT14 : Hid (TJ w8 F8 gt so w14) := ht14; have H14 : Hid (RowI w14 0 vk mk ∧ IsKids T q.1 q.2 mk ∧ mk.length ≤ 900) := ⟨hrk, hik, hlk⟩; clear ht14 hrk hik hlk)
            | (go_at_call 33; refine (ykids_any w.heap.size gy s T q.1 q.2 w14 (HY.out w14 (H3.out.2.2.2 _ _ (HB.out.2.1 _ HT14.out))) HT.out.2.1.apart).mono ?_; rintro e w15 ⟨vh, mh, rfl, hrh, hih, hb15⟩; have HT15 : Hid (TJ w8 F8 gt so w15) := HT14.out.below hb15; have H15 : Hid (TJ w8 F8 gt so w15 ∧ RowI w15 0 vk mk ∧ RowI w15 w14.heap.size vh mh ∧ IsKids T q.1 q.2 mh) := ⟨HT15.out, H14.out.1.below hb15, hrh, hih⟩; clear hrh hih hb15))
        all_goals
          obtain ⟨pk, ck, rfl, _⟩ := RowI.capsS H15.out.2.1
          obtain ⟨ph, ch, rfl, _⟩ := RowI.capsS H15.out.2.2.1
          obtain rfl : mk = mh := H14.out.2.1.unique H15.out.2.2.2
          have hmk9 : mk.length ≤ 900 := H14.out.2.2
          go_wp2_with fail
          go_loopw [15] (fun jj wr => ∃ j : Nat, jj = .int .i64 j ∧ j ≤ mk.length ∧ Hid (Below w15.heap.size w15 wr)) (fun jj _ => mk.length - (RowKit.intOf jj).toNat)
          case atStart => exact ⟨0, rfl, by omega, Below.refl _ _⟩
          case round =>
            as_aux_lemma =>
            obtain ⟨j, rfl, hj, HBJ⟩ := hrel
            by_cases hjt : j < mk.length
            · have hjtI : (j : Int) < mk.length := by omega
              have HJT : Hid (j < mk.length) := hjt
              obtain ⟨y, hy⟩ : ∃ y, mk[j]? = some y := ⟨_, List.getElem?_eq_getElem hjt⟩
              obtain ⟨p5, c5, e5, h5⟩ := RowI.capsS (H15.out.2.1.below HBJ.out)
              cases e5
              obtain ⟨gk, rfl, y0, y1⟩ := h5 j y hy
              obtain ⟨p6, c6, e6, h6⟩ := RowI.capsS (H15.out.2.2.1.below HBJ.out)
              cases e6
              obtain ⟨gh, rfl, z0, z1⟩ := h6 j y hy
              clear h5 h6 hy hjt
              go_wp2_with fail
              refine sm21 (by kernel_rfl) gk gh mk.length _ _ j y.1 y.2 wr rfl rfl rfl rfl HJT.out y0 y1 z0 z1 (fun W _ => (same_any y.1 y.2 y.1 y.2 W).mono fun e w' h => ⟨by rw [h.1, show sameB y.1 y.2 y.1 y.2 = true from sameB_iff.2 ⟨rfl, rfl⟩], h.2⟩) ?_
              intro w16 hb16
              have H16 : Hid (Below wr.heap.size wr w16) := hb16
              clear hb16 y0 y1 z0 z1
              simp only [putAll, sA, sB, sC]
              go_wp2_with fail
              go_roundw
              case rel => exact ⟨j + 1, by go_num, HJT.out, below_thenH HBJ.out H16.out⟩
              case measure => have := HJT.out; simp [RowKit.intOf]; omega
            · obtain rfl : j = mk.length := by omega
              have H17 : Hid (TJ w8 F8 gt so wr) := H15.out.1.below HBJ.out
              clear hjt
              go_wp2_with fail
              go_loopw [16] (fun jj wr => ∃ j : Nat, jj = .int .i64 j ∧ j ≤ ids.length ∧ Hid (TJ w8 F8 gt so wr)) (fun jj _ => ids.length - (RowKit.intOf jj).toNat)
              case atStart => exact ⟨0, rfl, by omega, H17⟩
              case round =>
                as_aux_lemma =>
                obtain ⟨j, rfl, hj2, HK⟩ := hrel
                generalize wr = wv at *
                by_cases hjt : j < ids.length ∧ j < 12
                · have hjtI : (j : Int) < ids.length := by omega
                  have hj12 : (j : Int) < 12 := by omega
                  have HJT : Hid (j < ids.length) := hjt.1
                  obtain ⟨y, hy⟩ : ∃ y, ids[j]? = some y := ⟨_, List.getElem?_eq_getElem hjt.1⟩
                  have HC1 : Hid (∀ W, TJ w8 F8 gt so W → W.cell? ⟨gi, j * 2, none⟩ = some (.int .i64 y.1) ∧ W.cell? ⟨gi, j * 2 + 1, none⟩ = some (.int .i64 y.2)) := fun W hW => by
                    obtain ⟨p2, c2, e2, h2⟩ := RowI.capsS (HRW.out W (HB.out.2.1 W hW))
                    cases e2
                    obtain ⟨g2, e3, x0, x1⟩ := h2 j y hy
                    cases e3
                    exact ⟨x0, x1⟩
                  obtain ⟨bb, hbb⟩ := bool_of (Bel T (q.1, q.2) (y.1, y.2))
                  have HBB : Hid (bb = true ↔ Bel T (q.1, q.2) (y.1, y.2)) := hbb
                  clear hy hjt hbb
                  go_wp2_with fail
                  have HDV : Hid (TJ w8 F8 gt so wv.drew) := HK.out.below (below_drewH wv)
                  refine sm26 (by kernel_rfl) (fun W => TJ w8 F8 gt so W) gt gy gi ids.length ci i j q.1 q.2 y.1 y.2 bb wv rfl rfl rfl rfl rfl rfl HDV.out HLT.out (fun W hW => (HC0.out W hW).1) (fun W hW => (HC0.out W hW).2) HJT.out (fun W hW => (HC1.out W hW).1) (fun W hW => (HC1.out W hW).2)
                    (fun W hW => hW.bel HT.out.1 q.1 q.2 y.1 y.2 HBB.out) (fun W hW => (ybelow_any w.heap.size gy s T q.1 q.2 y.1 y.2 W (HY.out W (H3.out.2.2.2 _ _ (HB.out.2.1 W hW))) HT.out.2.1.rank).mono fun e w' ⟨r, h1, h2, h3⟩ => ⟨by rw [h1, Bool.eq_iff_iff.2 (h2.trans HBB.out.symm)], hW.below h3⟩) ?_
                  intro w18 hJ18
                  have H18 : Hid (TJ w8 F8 gt so w18) := hJ18
                  clear hJ18
                  simp only [putAll, sA, sB, sC]
                  go_wp2_with fail
                  go_roundw
                  case rel => exact ⟨j + 1, by go_num, HJT.out, H18⟩
                  case measure => have := HJT.out; simp [RowKit.intOf]; omega
                · have hends : (¬ (j : Int) < ids.length) ∨ ((j : Int) < ids.length ∧ ¬ (j : Int) < 12) := by omega
                  rcases hends with he | ⟨he, he2⟩
                  all_goals
                    clear hjt
                    go_wp2_with fail
                    go_roundw
                    case rel => exact ⟨i + 1, by go_num, HLT.out, HB.out.2.1 _ HK.out⟩
                    case measure => have := HLT.out; simp [RowKit.intOf]; omega
      | none =>
        have hpv := parV_none (place_none (T := T) (q := (q.1, q.2)) hf)
        have hh0 := has_none hf
        rw [fndZ_none hf] at cN
        have HPV : Hid (∀ W, TJ w3 F3 gt so W → Calls Tryz.prog 11 #[.pointer (some ⟨gt, 0, none⟩), .agg #[.int .i64 q.1, .int .i64 q.2]] W fun e w' => e = .returned (.tuple #[.agg #[.int .i64 0, .int .i64 0], .string ⟨#[]⟩, .bool false]) ∧ TJ w3 F3 gt so w') := fun W hW => by have h := HCP.out W hW; rwa [hpv] at h
        clear hpv hf HCP
        go_wp2_with (first
          | (go_at_call 30; refine Calls_new cN ?_; clear cN; intro w5 HB5; have H5 : Hid (TJ w3 F3 gt so w5) := HI.out.below HB5.out; obtain ⟨p2, c2, e2, h2⟩ := RowI.capsS (HRW.out w5 H5.out); cases e2; obtain ⟨gi2, e3, d0, d1⟩ := h2 i q HQ.out; cases e3; clear h2 a0 a1)
          | (go_at_call 11; refine (HPV.out w5 H5.out).mono ?_; rintro e w6 ⟨rfl, ht6⟩; have H6 : Hid (TJ w3 F3 gt so w6) := ht6; clear ht6 d0 d1)
          | (refine wpList_putW rfl 29 _ _ rfl w6.heap.size (#[.int .i64 0, .int .i64 0]) rfl rfl 29 _ (heap_alloc_new w6 _) infoID rfl (idC_one _ _) ?_; intro w8 H8; refine Stp.out ?_))
        refine Stp.mk ?_
        have hb8 : Below w6.heap.size w6 w8 := (Below.alloc (Below.refl w6.heap.size w6) (Nat.le_refl _) _).trans (H8.out.2.1.below (by simp) fun b hb => by rw [show b = w6.heap.size from hb]; exact Nat.le_refl _)
        obtain ⟨F8, k8, low8, nf8, up8⟩ := H6.out.rebase hb8
        have H8b := H8.out.1
        obtain ⟨pb, hpb⟩ : ∃ pb, w6.heap.size = pb := ⟨_, rfl⟩
        rw [hpb] at H8b low8 ⊢
        have HB : Hid (TJ w8 F8 gt so w8 ∧ (∀ W, TJ w8 F8 gt so W → TJ w3 F3 gt so W) ∧ w8.heap[pb]? = some (.cells #[.int .i64 0, .int .i64 0] 29 (0, 0)) ∧ ¬ F8 pb) := ⟨k8, fun W h => up8 _ _ h, H8b, fun hF => by have := low8 pb hF; omega⟩
        have HP0 : Hid (∀ W, TJ w8 F8 gt so W → W.cell? ⟨pb, 0, none⟩ = some (.int .i64 0)) := fun W hW => hW.cell (blk2S HB.out.2.2.1).1 HB.out.2.2.2
        have HP1 : Hid (∀ W, TJ w8 F8 gt so W → W.cell? ⟨pb, 1, none⟩ = some (.int .i64 0)) := fun W hW => hW.cell (blk2S HB.out.2.2.1).2 HB.out.2.2.2
        have HC0 : Hid (∀ W, TJ w8 F8 gt so W → W.cell? ⟨gi, i * 2, none⟩ = some (.int .i64 q.1) ∧ W.cell? ⟨gi, i * 2 + 1, none⟩ = some (.int .i64 q.2)) := fun W hW => by
          obtain ⟨p2, c2, e2, h2⟩ := RowI.capsS (HRW.out W (HB.out.2.1 W hW))
          cases e2
          obtain ⟨g2, e3, x0, x1⟩ := h2 i q HQ.out
          cases e3
          exact ⟨x0, x1⟩
        have HJD : Hid (TJ w8 F8 gt so w8.drew) := HB.out.1.below (below_drewH w8)
        clear hb8 k8 low8 nf8 up8 H8b hpb H8
        go_wp2_with fail
        refine sm10b (by kernel_rfl) (fun W => TJ w8 F8 gt so W) pb w8 rfl rfl rfl rfl rfl HJD.out HP0.out HP1.out ?_
        intro w9 hJ9
        have H9 : Hid (TJ w8 F8 gt so w9) := hJ9
        clear hJ9
        simp only [putAll, sA, sB, sC]
        obtain ⟨a0, a1⟩ := HC0.out w9 H9.out
        by_cases ht0 : q.1 = 0
        · have HZ : Hid (hasT T (q.1, q.2) = (q.2 == 0 || q.2 == 1)) := hh0.trans (zero_has ht0)
          have hbz : (q.1 == 0) = true := by simp [ht0]
          clear hh0 ht0
          cases hb0 : (q.2 == 0) with
          | true =>
            have HH : Hid (hasT T (q.1, q.2) = true) := by rw [HZ.out, hb0]; rfl
            as_aux_lemma =>
            go_wp2_with fail
            have HD9 : Hid (TJ w8 F8 gt so w9.drew) := H9.out.below (below_drewH w9)
            refine sm13 (by kernel_rfl) (fun W => TJ w8 F8 gt so W) gt gy gi ids.length ci i q.1 q.2 true (dirT T q.1 q.2) lv w9 rfl rfl rfl rfl rfl rfl HD9.out HLT.out (fun W hW => (HC0.out W hW).1) (fun W hW => (HC0.out W hW).2)
              (fun W hW => (hW.has HT.out.1 q.1 q.2).mono fun e w' h => ⟨by rw [h.1, HH.out], h.2⟩) (fun W hW => hW.dir HT.out.1 q.1 q.2) (fun W hW => (ydir_any w.heap.size gy s T q.1 q.2 W (HY.out W (H3.out.2.2.2 _ _ (HB.out.2.1 W hW)))).mono fun e w' h => ⟨h.1, hW.below h.2⟩)
              (fun W hW => hW.live HT.out.1 q.1 q.2 (HLV.out.trans live_iff)) (fun W hW => (ylive_any w.heap.size gy s T q.1 q.2 W (HY.out W (H3.out.2.2.2 _ _ (HB.out.2.1 W hW))) HT.out.2.1.rank).mono fun e w' ⟨r, h1, h2, h3⟩ => ⟨by rw [h1, Bool.eq_iff_iff.2 (h2.trans HLV.out.symm)], hW.below h3⟩) ?_
            intro w10 hJ10
            have H10 : Hid (TJ w8 F8 gt so w10) := hJ10
            clear hJ10 a0 a1 HD9
            simp only [putAll, sA, sB, sC]
            have HD10 : Hid (TJ w8 F8 gt so w10.drew) := H10.out.below (below_drewH w10)
            have HSJ : ∀ W, Hid (TJ w8 F8 gt so W) → W.cell? ⟨gi, i * 2, none⟩ = some (.int .i64 q.1) ∧ W.cell? ⟨gi, i * 2 + 1, none⟩ = some (.int .i64 q.2) ∧ Hid (TJ w8 F8 gt so W) := fun W h => ⟨(HC0.out W h.out).1, (HC0.out W h.out).2, h⟩
            have S1 := HSJ _ HD10
            have S2 := HSJ _ H10
            go_wp2_with fail
            go_region_held3 (fun W => W.cell? ⟨gi, i * 2, none⟩ = some (.int .i64 q.1) ∧ W.cell? ⟨gi, i * 2 + 1, none⟩ = some (.int .i64 q.2) ∧ Hid (TJ w8 F8 gt so W))
              (first | exact S1 | exact S2 | exact HSJ _ (by assumption) | assumption)
              (first
                | (go_at_call 16; refine (HD10.out.kids HT.out.1 q.1 q.2).mono ?_; rintro e w14 ⟨⟨vk, mk, rfl, hrk, hik, hlk⟩, ht14⟩; have HT14 : Hid (TJ w8 F8 gt so w14) := ht14; have H14 : Hid (RowI w14 0 vk mk ∧ IsKids T q.1 q.2 mk ∧ mk.length ≤ 900) := ⟨hrk, hik, hlk⟩; clear ht14 hrk hik hlk)
                | (go_at_call 33; refine (ykids_any w.heap.size gy s T q.1 q.2 w14 (HY.out w14 (H3.out.2.2.2 _ _ (HB.out.2.1 _ HT14.out))) HT.out.2.1.apart).mono ?_; rintro e w15 ⟨vh, mh, rfl, hrh, hih, hb15⟩; have HT15 : Hid (TJ w8 F8 gt so w15) := HT14.out.below hb15; have H15 : Hid (TJ w8 F8 gt so w15 ∧ RowI w15 0 vk mk ∧ RowI w15 w14.heap.size vh mh ∧ IsKids T q.1 q.2 mh) := ⟨HT15.out, H14.out.1.below hb15, hrh, hih⟩; clear hrh hih hb15))
            all_goals
              obtain ⟨pk, ck, rfl, _⟩ := RowI.capsS H15.out.2.1
              obtain ⟨ph, ch, rfl, _⟩ := RowI.capsS H15.out.2.2.1
              obtain rfl : mk = mh := H14.out.2.1.unique H15.out.2.2.2
              have hmk9 : mk.length ≤ 900 := H14.out.2.2
              go_wp2_with fail
              go_loopw [15] (fun jj wr => ∃ j : Nat, jj = .int .i64 j ∧ j ≤ mk.length ∧ Hid (Below w15.heap.size w15 wr)) (fun jj _ => mk.length - (RowKit.intOf jj).toNat)
              case atStart => exact ⟨0, rfl, by omega, Below.refl _ _⟩
              case round =>
                as_aux_lemma =>
                obtain ⟨j, rfl, hj, HBJ⟩ := hrel
                by_cases hjt : j < mk.length
                · have hjtI : (j : Int) < mk.length := by omega
                  have HJT : Hid (j < mk.length) := hjt
                  obtain ⟨y, hy⟩ : ∃ y, mk[j]? = some y := ⟨_, List.getElem?_eq_getElem hjt⟩
                  obtain ⟨p5, c5, e5, h5⟩ := RowI.capsS (H15.out.2.1.below HBJ.out)
                  cases e5
                  obtain ⟨gk, rfl, y0, y1⟩ := h5 j y hy
                  obtain ⟨p6, c6, e6, h6⟩ := RowI.capsS (H15.out.2.2.1.below HBJ.out)
                  cases e6
                  obtain ⟨gh, rfl, z0, z1⟩ := h6 j y hy
                  clear h5 h6 hy hjt
                  go_wp2_with fail
                  refine sm21 (by kernel_rfl) gk gh mk.length _ _ j y.1 y.2 wr rfl rfl rfl rfl HJT.out y0 y1 z0 z1 (fun W _ => (same_any y.1 y.2 y.1 y.2 W).mono fun e w' h => ⟨by rw [h.1, show sameB y.1 y.2 y.1 y.2 = true from sameB_iff.2 ⟨rfl, rfl⟩], h.2⟩) ?_
                  intro w16 hb16
                  have H16 : Hid (Below wr.heap.size wr w16) := hb16
                  clear hb16 y0 y1 z0 z1
                  simp only [putAll, sA, sB, sC]
                  go_wp2_with fail
                  go_roundw
                  case rel => exact ⟨j + 1, by go_num, HJT.out, below_thenH HBJ.out H16.out⟩
                  case measure => have := HJT.out; simp [RowKit.intOf]; omega
                · obtain rfl : j = mk.length := by omega
                  have H17 : Hid (TJ w8 F8 gt so wr) := H15.out.1.below HBJ.out
                  clear hjt
                  go_wp2_with fail
                  go_loopw [16] (fun jj wr => ∃ j : Nat, jj = .int .i64 j ∧ j ≤ ids.length ∧ Hid (TJ w8 F8 gt so wr)) (fun jj _ => ids.length - (RowKit.intOf jj).toNat)
                  case atStart => exact ⟨0, rfl, by omega, H17⟩
                  case round =>
                    as_aux_lemma =>
                    obtain ⟨j, rfl, hj2, HK⟩ := hrel
                    generalize wr = wv at *
                    by_cases hjt : j < ids.length ∧ j < 12
                    · have hjtI : (j : Int) < ids.length := by omega
                      have hj12 : (j : Int) < 12 := by omega
                      have HJT : Hid (j < ids.length) := hjt.1
                      obtain ⟨y, hy⟩ : ∃ y, ids[j]? = some y := ⟨_, List.getElem?_eq_getElem hjt.1⟩
                      have HC1 : Hid (∀ W, TJ w8 F8 gt so W → W.cell? ⟨gi, j * 2, none⟩ = some (.int .i64 y.1) ∧ W.cell? ⟨gi, j * 2 + 1, none⟩ = some (.int .i64 y.2)) := fun W hW => by
                        obtain ⟨p2, c2, e2, h2⟩ := RowI.capsS (HRW.out W (HB.out.2.1 W hW))
                        cases e2
                        obtain ⟨g2, e3, x0, x1⟩ := h2 j y hy
                        cases e3
                        exact ⟨x0, x1⟩
                      obtain ⟨bb, hbb⟩ := bool_of (Bel T (q.1, q.2) (y.1, y.2))
                      have HBB : Hid (bb = true ↔ Bel T (q.1, q.2) (y.1, y.2)) := hbb
                      clear hy hjt hbb
                      go_wp2_with fail
                      have HDV : Hid (TJ w8 F8 gt so wv.drew) := HK.out.below (below_drewH wv)
                      refine sm26 (by kernel_rfl) (fun W => TJ w8 F8 gt so W) gt gy gi ids.length ci i j q.1 q.2 y.1 y.2 bb wv rfl rfl rfl rfl rfl rfl HDV.out HLT.out (fun W hW => (HC0.out W hW).1) (fun W hW => (HC0.out W hW).2) HJT.out (fun W hW => (HC1.out W hW).1) (fun W hW => (HC1.out W hW).2)
                        (fun W hW => hW.bel HT.out.1 q.1 q.2 y.1 y.2 HBB.out) (fun W hW => (ybelow_any w.heap.size gy s T q.1 q.2 y.1 y.2 W (HY.out W (H3.out.2.2.2 _ _ (HB.out.2.1 W hW))) HT.out.2.1.rank).mono fun e w' ⟨r, h1, h2, h3⟩ => ⟨by rw [h1, Bool.eq_iff_iff.2 (h2.trans HBB.out.symm)], hW.below h3⟩) ?_
                      intro w18 hJ18
                      have H18 : Hid (TJ w8 F8 gt so w18) := hJ18
                      clear hJ18
                      simp only [putAll, sA, sB, sC]
                      go_wp2_with fail
                      go_roundw
                      case rel => exact ⟨j + 1, by go_num, HJT.out, H18⟩
                      case measure => have := HJT.out; simp [RowKit.intOf]; omega
                    · have hends : (¬ (j : Int) < ids.length) ∨ ((j : Int) < ids.length ∧ ¬ (j : Int) < 12) := by omega
                      rcases hends with he | ⟨he, he2⟩
                      all_goals
                        clear hjt
                        go_wp2_with fail
                        go_roundw
                        case rel => exact ⟨i + 1, by go_num, HLT.out, HB.out.2.1 _ HK.out⟩
                        case measure => have := HLT.out; simp [RowKit.intOf]; omega
          | false =>
            have HH : Hid (hasT T (q.1, q.2) = (q.2 == 1)) := by rw [HZ.out, hb0]; rfl
            as_aux_lemma =>
            go_wp2_with fail
            have HD9 : Hid (TJ w8 F8 gt so w9.drew) := H9.out.below (below_drewH w9)
            refine sm13 (by kernel_rfl) (fun W => TJ w8 F8 gt so W) gt gy gi ids.length ci i q.1 q.2 (q.2 == 1) (dirT T q.1 q.2) lv w9 rfl rfl rfl rfl rfl rfl HD9.out HLT.out (fun W hW => (HC0.out W hW).1) (fun W hW => (HC0.out W hW).2)
              (fun W hW => (hW.has HT.out.1 q.1 q.2).mono fun e w' h => ⟨by rw [h.1, HH.out], h.2⟩) (fun W hW => hW.dir HT.out.1 q.1 q.2) (fun W hW => (ydir_any w.heap.size gy s T q.1 q.2 W (HY.out W (H3.out.2.2.2 _ _ (HB.out.2.1 W hW)))).mono fun e w' h => ⟨h.1, hW.below h.2⟩)
              (fun W hW => hW.live HT.out.1 q.1 q.2 (HLV.out.trans live_iff)) (fun W hW => (ylive_any w.heap.size gy s T q.1 q.2 W (HY.out W (H3.out.2.2.2 _ _ (HB.out.2.1 W hW))) HT.out.2.1.rank).mono fun e w' ⟨r, h1, h2, h3⟩ => ⟨by rw [h1, Bool.eq_iff_iff.2 (h2.trans HLV.out.symm)], hW.below h3⟩) ?_
            intro w10 hJ10
            have H10 : Hid (TJ w8 F8 gt so w10) := hJ10
            clear hJ10 a0 a1 HD9
            simp only [putAll, sA, sB, sC]
            have HD10 : Hid (TJ w8 F8 gt so w10.drew) := H10.out.below (below_drewH w10)
            have HSJ : ∀ W, Hid (TJ w8 F8 gt so W) → W.cell? ⟨gi, i * 2, none⟩ = some (.int .i64 q.1) ∧ W.cell? ⟨gi, i * 2 + 1, none⟩ = some (.int .i64 q.2) ∧ Hid (TJ w8 F8 gt so W) := fun W h => ⟨(HC0.out W h.out).1, (HC0.out W h.out).2, h⟩
            have S1 := HSJ _ HD10
            have S2 := HSJ _ H10
            go_wp2_with fail
            go_region_held3 (fun W => W.cell? ⟨gi, i * 2, none⟩ = some (.int .i64 q.1) ∧ W.cell? ⟨gi, i * 2 + 1, none⟩ = some (.int .i64 q.2) ∧ Hid (TJ w8 F8 gt so W))
              (first | exact S1 | exact S2 | exact HSJ _ (by assumption) | assumption)
              (first
                | (go_at_call 16; refine (HD10.out.kids HT.out.1 q.1 q.2).mono ?_; rintro e w14 ⟨⟨vk, mk, rfl, hrk, hik, hlk⟩, ht14⟩; have HT14 : Hid (TJ w8 F8 gt so w14) := ht14; have H14 : Hid (RowI w14 0 vk mk ∧ IsKids T q.1 q.2 mk ∧ mk.length ≤ 900) := ⟨hrk, hik, hlk⟩; clear ht14 hrk hik hlk)
                | (go_at_call 33; refine (ykids_any w.heap.size gy s T q.1 q.2 w14 (HY.out w14 (H3.out.2.2.2 _ _ (HB.out.2.1 _ HT14.out))) HT.out.2.1.apart).mono ?_; rintro e w15 ⟨vh, mh, rfl, hrh, hih, hb15⟩; have HT15 : Hid (TJ w8 F8 gt so w15) := HT14.out.below hb15; have H15 : Hid (TJ w8 F8 gt so w15 ∧ RowI w15 0 vk mk ∧ RowI w15 w14.heap.size vh mh ∧ IsKids T q.1 q.2 mh) := ⟨HT15.out, H14.out.1.below hb15, hrh, hih⟩; clear hrh hih hb15))
            all_goals
              obtain ⟨pk, ck, rfl, _⟩ := RowI.capsS H15.out.2.1
              obtain ⟨ph, ch, rfl, _⟩ := RowI.capsS H15.out.2.2.1
              obtain rfl : mk = mh := H14.out.2.1.unique H15.out.2.2.2
              have hmk9 : mk.length ≤ 900 := H14.out.2.2
              go_wp2_with fail
              go_loopw [15] (fun jj wr => ∃ j : Nat, jj = .int .i64 j ∧ j ≤ mk.length ∧ Hid (Below w15.heap.size w15 wr)) (fun jj _ => mk.length - (RowKit.intOf jj).toNat)
              case atStart => exact ⟨0, rfl, by omega, Below.refl _ _⟩
              case round =>
                as_aux_lemma =>
                obtain ⟨j, rfl, hj, HBJ⟩ := hrel
                by_cases hjt : j < mk.length
                · have hjtI : (j : Int) < mk.length := by omega
                  have HJT : Hid (j < mk.length) := hjt
                  obtain ⟨y, hy⟩ : ∃ y, mk[j]? = some y := ⟨_, List.getElem?_eq_getElem hjt⟩
                  obtain ⟨p5, c5, e5, h5⟩ := RowI.capsS (H15.out.2.1.below HBJ.out)
                  cases e5
                  obtain ⟨gk, rfl, y0, y1⟩ := h5 j y hy
                  obtain ⟨p6, c6, e6, h6⟩ := RowI.capsS (H15.out.2.2.1.below HBJ.out)
                  cases e6
                  obtain ⟨gh, rfl, z0, z1⟩ := h6 j y hy
                  clear h5 h6 hy hjt
                  go_wp2_with fail
                  refine sm21 (by kernel_rfl) gk gh mk.length _ _ j y.1 y.2 wr rfl rfl rfl rfl HJT.out y0 y1 z0 z1 (fun W _ => (same_any y.1 y.2 y.1 y.2 W).mono fun e w' h => ⟨by rw [h.1, show sameB y.1 y.2 y.1 y.2 = true from sameB_iff.2 ⟨rfl, rfl⟩], h.2⟩) ?_
                  intro w16 hb16
                  have H16 : Hid (Below wr.heap.size wr w16) := hb16
                  clear hb16 y0 y1 z0 z1
                  simp only [putAll, sA, sB, sC]
                  go_wp2_with fail
                  go_roundw
                  case rel => exact ⟨j + 1, by go_num, HJT.out, below_thenH HBJ.out H16.out⟩
                  case measure => have := HJT.out; simp [RowKit.intOf]; omega
                · obtain rfl : j = mk.length := by omega
                  have H17 : Hid (TJ w8 F8 gt so wr) := H15.out.1.below HBJ.out
                  clear hjt
                  go_wp2_with fail
                  go_loopw [16] (fun jj wr => ∃ j : Nat, jj = .int .i64 j ∧ j ≤ ids.length ∧ Hid (TJ w8 F8 gt so wr)) (fun jj _ => ids.length - (RowKit.intOf jj).toNat)
                  case atStart => exact ⟨0, rfl, by omega, H17⟩
                  case round =>
                    as_aux_lemma =>
                    obtain ⟨j, rfl, hj2, HK⟩ := hrel
                    generalize wr = wv at *
                    by_cases hjt : j < ids.length ∧ j < 12
                    · have hjtI : (j : Int) < ids.length := by omega
                      have hj12 : (j : Int) < 12 := by omega
                      have HJT : Hid (j < ids.length) := hjt.1
                      obtain ⟨y, hy⟩ : ∃ y, ids[j]? = some y := ⟨_, List.getElem?_eq_getElem hjt.1⟩
                      have HC1 : Hid (∀ W, TJ w8 F8 gt so W → W.cell? ⟨gi, j * 2, none⟩ = some (.int .i64 y.1) ∧ W.cell? ⟨gi, j * 2 + 1, none⟩ = some (.int .i64 y.2)) := fun W hW => by
                        obtain ⟨p2, c2, e2, h2⟩ := RowI.capsS (HRW.out W (HB.out.2.1 W hW))
                        cases e2
                        obtain ⟨g2, e3, x0, x1⟩ := h2 j y hy
                        cases e3
                        exact ⟨x0, x1⟩
                      obtain ⟨bb, hbb⟩ := bool_of (Bel T (q.1, q.2) (y.1, y.2))
                      have HBB : Hid (bb = true ↔ Bel T (q.1, q.2) (y.1, y.2)) := hbb
                      clear hy hjt hbb
                      go_wp2_with fail
                      have HDV : Hid (TJ w8 F8 gt so wv.drew) := HK.out.below (below_drewH wv)
                      refine sm26 (by kernel_rfl) (fun W => TJ w8 F8 gt so W) gt gy gi ids.length ci i j q.1 q.2 y.1 y.2 bb wv rfl rfl rfl rfl rfl rfl HDV.out HLT.out (fun W hW => (HC0.out W hW).1) (fun W hW => (HC0.out W hW).2) HJT.out (fun W hW => (HC1.out W hW).1) (fun W hW => (HC1.out W hW).2)
                        (fun W hW => hW.bel HT.out.1 q.1 q.2 y.1 y.2 HBB.out) (fun W hW => (ybelow_any w.heap.size gy s T q.1 q.2 y.1 y.2 W (HY.out W (H3.out.2.2.2 _ _ (HB.out.2.1 W hW))) HT.out.2.1.rank).mono fun e w' ⟨r, h1, h2, h3⟩ => ⟨by rw [h1, Bool.eq_iff_iff.2 (h2.trans HBB.out.symm)], hW.below h3⟩) ?_
                      intro w18 hJ18
                      have H18 : Hid (TJ w8 F8 gt so w18) := hJ18
                      clear hJ18
                      simp only [putAll, sA, sB, sC]
                      go_wp2_with fail
                      go_roundw
                      case rel => exact ⟨j + 1, by go_num, HJT.out, H18⟩
                      case measure => have := HJT.out; simp [RowKit.intOf]; omega
                    · have hends : (¬ (j : Int) < ids.length) ∨ ((j : Int) < ids.length ∧ ¬ (j : Int) < 12) := by omega
                      rcases hends with he | ⟨he, he2⟩
                      all_goals
                        clear hjt
                        go_wp2_with fail
                        go_roundw
                        case rel => exact ⟨i + 1, by go_num, HLT.out, HB.out.2.1 _ HK.out⟩
                        case measure => have := HLT.out; simp [RowKit.intOf]; omega
        · have HH : Hid (hasT T (q.1, q.2) = false) := by show _ = _; rw [hh0]; simp [rootB, trashB, ht0]
          clear hh0
          as_aux_lemma =>
          go_wp2_with fail
          have HD9 : Hid (TJ w8 F8 gt so w9.drew) := H9.out.below (below_drewH w9)
          refine sm13 (by kernel_rfl) (fun W => TJ w8 F8 gt so W) gt gy gi ids.length ci i q.1 q.2 false (dirT T q.1 q.2) lv w9 rfl rfl rfl rfl rfl rfl HD9.out HLT.out (fun W hW => (HC0.out W hW).1) (fun W hW => (HC0.out W hW).2)
            (fun W hW => (hW.has HT.out.1 q.1 q.2).mono fun e w' h => ⟨by rw [h.1, HH.out], h.2⟩) (fun W hW => hW.dir HT.out.1 q.1 q.2) (fun W hW => (ydir_any w.heap.size gy s T q.1 q.2 W (HY.out W (H3.out.2.2.2 _ _ (HB.out.2.1 W hW)))).mono fun e w' h => ⟨h.1, hW.below h.2⟩)
            (fun W hW => hW.live HT.out.1 q.1 q.2 (HLV.out.trans live_iff)) (fun W hW => (ylive_any w.heap.size gy s T q.1 q.2 W (HY.out W (H3.out.2.2.2 _ _ (HB.out.2.1 W hW))) HT.out.2.1.rank).mono fun e w' ⟨r, h1, h2, h3⟩ => ⟨by rw [h1, Bool.eq_iff_iff.2 (h2.trans HLV.out.symm)], hW.below h3⟩) ?_
          intro w10 hJ10
          have H10 : Hid (TJ w8 F8 gt so w10) := hJ10
          clear hJ10 a0 a1 HD9
          simp only [putAll, sA, sB, sC]
          have HD10 : Hid (TJ w8 F8 gt so w10.drew) := H10.out.below (below_drewH w10)
          have HSJ : ∀ W, Hid (TJ w8 F8 gt so W) → W.cell? ⟨gi, i * 2, none⟩ = some (.int .i64 q.1) ∧ W.cell? ⟨gi, i * 2 + 1, none⟩ = some (.int .i64 q.2) ∧ Hid (TJ w8 F8 gt so W) := fun W h => ⟨(HC0.out W h.out).1, (HC0.out W h.out).2, h⟩
          have S1 := HSJ _ HD10
          have S2 := HSJ _ H10
          go_wp2_with fail
          go_region_held3 (fun W => W.cell? ⟨gi, i * 2, none⟩ = some (.int .i64 q.1) ∧ W.cell? ⟨gi, i * 2 + 1, none⟩ = some (.int .i64 q.2) ∧ Hid (TJ w8 F8 gt so W))
            (first | exact S1 | exact S2 | exact HSJ _ (by assumption) | assumption)
            (first
              | (go_at_call 16; refine (HD10.out.kids HT.out.1 q.1 q.2).mono ?_; rintro e w14 ⟨⟨vk, mk, rfl, hrk, hik, hlk⟩, ht14⟩; have HT14 : Hid (TJ w8 F8 gt so w14) := ht14; have H14 : Hid (RowI w14 0 vk mk ∧ IsKids T q.1 q.2 mk ∧ mk.length ≤ 900) := ⟨hrk, hik, hlk⟩; clear ht14 hrk hik hlk)
              | (go_at_call 33; refine (ykids_any w.heap.size gy s T q.1 q.2 w14 (HY.out w14 (H3.out.2.2.2 _ _ (HB.out.2.1 _ HT14.out))) HT.out.2.1.apart).mono ?_; rintro e w15 ⟨vh, mh, rfl, hrh, hih, hb15⟩; have HT15 : Hid (TJ w8 F8 gt so w15) := HT14.out.below hb15; have H15 : Hid (TJ w8 F8 gt so w15 ∧ RowI w15 0 vk mk ∧ RowI w15 w14.heap.size vh mh ∧ IsKids T q.1 q.2 mh) := ⟨HT15.out, H14.out.1.below hb15, hrh, hih⟩; clear hrh hih hb15))
          all_goals
            obtain ⟨pk, ck, rfl, _⟩ := RowI.capsS H15.out.2.1
            obtain ⟨ph, ch, rfl, _⟩ := RowI.capsS H15.out.2.2.1
            obtain rfl : mk = mh := H14.out.2.1.unique H15.out.2.2.2
            have hmk9 : mk.length ≤ 900 := H14.out.2.2
            go_wp2_with fail
            go_loopw [15] (fun jj wr => ∃ j : Nat, jj = .int .i64 j ∧ j ≤ mk.length ∧ Hid (Below w15.heap.size w15 wr)) (fun jj _ => mk.length - (RowKit.intOf jj).toNat)
            case atStart => exact ⟨0, rfl, by omega, Below.refl _ _⟩
            case round =>
              as_aux_lemma =>
              obtain ⟨j, rfl, hj, HBJ⟩ := hrel
              by_cases hjt : j < mk.length
              · have hjtI : (j : Int) < mk.length := by omega
                have HJT : Hid (j < mk.length) := hjt
                obtain ⟨y, hy⟩ : ∃ y, mk[j]? = some y := ⟨_, List.getElem?_eq_getElem hjt⟩
                obtain ⟨p5, c5, e5, h5⟩ := RowI.capsS (H15.out.2.1.below HBJ.out)
                cases e5
                obtain ⟨gk, rfl, y0, y1⟩ := h5 j y hy
                obtain ⟨p6, c6, e6, h6⟩ := RowI.capsS (H15.out.2.2.1.below HBJ.out)
                cases e6
                obtain ⟨gh, rfl, z0, z1⟩ := h6 j y hy
                clear h5 h6 hy hjt
                go_wp2_with fail
                refine sm21 (by kernel_rfl) gk gh mk.length _ _ j y.1 y.2 wr rfl rfl rfl rfl HJT.out y0 y1 z0 z1 (fun W _ => (same_any y.1 y.2 y.1 y.2 W).mono fun e w' h => ⟨by rw [h.1, show sameB y.1 y.2 y.1 y.2 = true from sameB_iff.2 ⟨rfl, rfl⟩], h.2⟩) ?_
                intro w16 hb16
                have H16 : Hid (Below wr.heap.size wr w16) := hb16
                clear hb16 y0 y1 z0 z1
                simp only [putAll, sA, sB, sC]
                go_wp2_with fail
                go_roundw
                case rel => exact ⟨j + 1, by go_num, HJT.out, below_thenH HBJ.out H16.out⟩
                case measure => have := HJT.out; simp [RowKit.intOf]; omega
              · obtain rfl : j = mk.length := by omega
                have H17 : Hid (TJ w8 F8 gt so wr) := H15.out.1.below HBJ.out
                clear hjt
                go_wp2_with fail
                go_loopw [16] (fun jj wr => ∃ j : Nat, jj = .int .i64 j ∧ j ≤ ids.length ∧ Hid (TJ w8 F8 gt so wr)) (fun jj _ => ids.length - (RowKit.intOf jj).toNat)
                case atStart => exact ⟨0, rfl, by omega, H17⟩
                case round =>
                  as_aux_lemma =>
                  obtain ⟨j, rfl, hj2, HK⟩ := hrel
                  generalize wr = wv at *
                  by_cases hjt : j < ids.length ∧ j < 12
                  · have hjtI : (j : Int) < ids.length := by omega
                    have hj12 : (j : Int) < 12 := by omega
                    have HJT : Hid (j < ids.length) := hjt.1
                    obtain ⟨y, hy⟩ : ∃ y, ids[j]? = some y := ⟨_, List.getElem?_eq_getElem hjt.1⟩
                    have HC1 : Hid (∀ W, TJ w8 F8 gt so W → W.cell? ⟨gi, j * 2, none⟩ = some (.int .i64 y.1) ∧ W.cell? ⟨gi, j * 2 + 1, none⟩ = some (.int .i64 y.2)) := fun W hW => by
                      obtain ⟨p2, c2, e2, h2⟩ := RowI.capsS (HRW.out W (HB.out.2.1 W hW))
                      cases e2
                      obtain ⟨g2, e3, x0, x1⟩ := h2 j y hy
                      cases e3
                      exact ⟨x0, x1⟩
                    obtain ⟨bb, hbb⟩ := bool_of (Bel T (q.1, q.2) (y.1, y.2))
                    have HBB : Hid (bb = true ↔ Bel T (q.1, q.2) (y.1, y.2)) := hbb
                    clear hy hjt hbb
                    go_wp2_with fail
                    have HDV : Hid (TJ w8 F8 gt so wv.drew) := HK.out.below (below_drewH wv)
                    refine sm26 (by kernel_rfl) (fun W => TJ w8 F8 gt so W) gt gy gi ids.length ci i j q.1 q.2 y.1 y.2 bb wv rfl rfl rfl rfl rfl rfl HDV.out HLT.out (fun W hW => (HC0.out W hW).1) (fun W hW => (HC0.out W hW).2) HJT.out (fun W hW => (HC1.out W hW).1) (fun W hW => (HC1.out W hW).2)
                      (fun W hW => hW.bel HT.out.1 q.1 q.2 y.1 y.2 HBB.out) (fun W hW => (ybelow_any w.heap.size gy s T q.1 q.2 y.1 y.2 W (HY.out W (H3.out.2.2.2 _ _ (HB.out.2.1 W hW))) HT.out.2.1.rank).mono fun e w' ⟨r, h1, h2, h3⟩ => ⟨by rw [h1, Bool.eq_iff_iff.2 (h2.trans HBB.out.symm)], hW.below h3⟩) ?_
                    intro w18 hJ18
                    have H18 : Hid (TJ w8 F8 gt so w18) := hJ18
                    clear hJ18
                    simp only [putAll, sA, sB, sC]
                    go_wp2_with fail
                    go_roundw
                    case rel => exact ⟨j + 1, by go_num, HJT.out, H18⟩
                    case measure => have := HJT.out; simp [RowKit.intOf]; omega
                  · have hends : (¬ (j : Int) < ids.length) ∨ ((j : Int) < ids.length ∧ ¬ (j : Int) < 12) := by omega
                    rcases hends with he | ⟨he, he2⟩
                    all_goals
                      clear hjt
                      go_wp2_with fail
                      go_roundw
                      case rel => exact ⟨i + 1, by go_num, HLT.out, HB.out.2.1 _ HK.out⟩
                      case measure => have := HLT.out; simp [RowKit.intOf]; omega
    · obtain rfl : i = ids.length := by omega
      go_wp2
      go_ret
      exact ⟨rfl, H1.out.2.2.2.1 _ _ (H3.out.2.2.2 _ _ HI.out)⟩
end Go.Proofs.YtgpbphjplbhfmaaGreat.Ck.Y.S
