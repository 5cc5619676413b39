/-
  ContentAll, the law.
-/
import Derived.Test.YteimjkicinjcgaaKLcd

namespace Go.Proofs.Yteimjkicinjcgaa.Ck.Y.L
open Go.RowKit Go.Maps Go.Lib

set_option maxRecDepth 8000 in
set_option maxHeartbeats 16000000 in
theorem contentall_law (p : Option Addr) (L : List OG) (c : Nat) (w : World) (hp : OpsL w p L) (hL : L.length ≤ maxLen) :
    Calls Try.prog 3 #[.slice p L.length c] w fun e w' => e = .returned (.bool true) ∧ Below w.heap.size w w' := by
  have HP : Hid (OpsL w p L ∧ L.length ≤ maxLen) := ⟨hp, hL⟩
  clear hp hL
  go_enter Try.func3, Try.ntmps3
  go_wp2_with (first
    | (go_at_call 7; refine Calls_new (begun_any _) ?_; intro w1 HB1)
    | (go_at_call 8; refine (new_at w1).mono ?_; rintro e w2 ⟨fb, rfl, hfb, hb2, hf2⟩; have H2 : Hid (fb = w1.heap.size ∧ FileS (fun b => b = fb) w2 fb [] ∧ Below w.heap.size w w2) := ⟨hfb, hf2, below_thenH HB1.out hb2⟩; clear hfb hb2 hf2)
    | (go_at_call 9; refine (some_any p L c 20 w w2 H2.out.2.2 HP.out.1 HP.out.2 (by decide)).mono ?_; rintro e w4 ⟨v, m, rfl, hr4, ht4, hl4, hb4⟩; have H4 : Hid (RowG w4 w2.heap.size v m ∧ Taken w m ∧ m.length ≤ 20 ∧ Below w2.heap.size w2 w4) := ⟨hr4, ht4, hl4, hb4⟩; clear hr4 ht4 hl4 hb4))
  obtain ⟨q, d, rfl⟩ := H4.out.1.slice
  obtain ⟨nsf, bsf, hcon⟩ := H4.out.2.1.con
  have HC : Hid (Con w nsf bsf m ∧ m.length ≤ 700) := ⟨hcon, by have := H4.out.2.2.1; omega⟩
  have HO : Hid (AllI w w4 w2.heap.size w4.heap.size fb (.slice q m.length d) m nsf bsf (.slice none 0 0) 0 0) :=
    AllI.start (H2.out.2.1.below H4.out.2.2.2) (by have := H2.out.1; have := HB1.out.size; omega) H4.out.1 (below_thenH H2.out.2.2 H4.out.2.2.2)
  obtain ⟨lb, hlb⟩ : ∃ lb, w4.heap.size = lb := ⟨_, rfl⟩
  rw [hlb] at HO
  clear hcon hlb
  go_loopw [5, 7] (fun ll ii wr => ∃ (i : Nat) (M : List OG) (p' : Option Addr) (c' : Nat), ll = .slice p' M.length c' ∧ ii = .int .i64 i ∧ i ≤ m.length ∧ Hid (M = (m.take i).filter isW) ∧ Hid (AllI w wr w2.heap.size lb fb (.slice q m.length d) m nsf bsf (.slice p' M.length c') i i)) (fun _ ii _ => m.length - (RowKit.intOf ii).toNat)
  case atStart => exact ⟨0, [], none, 0, rfl, rfl, by omega, (show ([] : List OG) = _ from by simp), HO⟩
  case round =>
    obtain ⟨i, M, p', c', rfl, rfl, hi, HM, HI⟩ := hrel
    generalize wr = wo at *
    have hl9 : m.length ≤ 700 := HC.out.2
    by_cases hlt : i < m.length
    · have hltI : (i : Int) < m.length := by omega
      have HLT : Hid (i < m.length) := hlt
      obtain ⟨x, hx⟩ : ∃ x, m[i]? = some x := ⟨_, List.getElem?_eq_getElem hlt⟩
      have HX : Hid (m[i]? = some x) := hx
      obtain ⟨p1, c1, e1, h1⟩ := RowG.caps HI.out.row
      cases e1
      obtain ⟨g, rfl, a0, a1, a2, a3, a4, a5, a6, a7, a8, a9, a10⟩ := h1 i x hx
      clear hx h1 hlt
      by_cases k1 : x.kd = 4
      · have cA := HI.out.addW HC.out.1 HC.out.2 HX.out k1
        simp only [opgv, opgC, k1] at cA
        go_wp2_with (first
          | (go_at_call 10; refine cA.mono ?_; clear cA; rintro e w5 ⟨rfl, hm5⟩; have H5 : Hid (AllI w w5 w2.heap.size lb fb (.slice (some ⟨g, 0, none⟩) m.length d) m nsf bsf (.slice p' M.length c') (i + 1) i) := hm5; have HR5 : Hid (RowG w5 lb (.slice p' M.length c') M) := (by have h := hm5.lrow; rwa [← HM.out] at h); obtain ⟨p2, c2, e2, h2⟩ := RowG.caps hm5.row; cases e2; obtain ⟨g2, e3, d0, d1, d2, d3, d4, d5, d6, d7, d8, d9, d10⟩ := h2 i x HX.out; cases e3; clear h2 hm5 a0 a1 a2 a3 a4 a5 a6 a7 a8 a9 a10)
          | (at_builtin; refine wpList_appG rfl _ _ rfl lb _ M x rfl w5.heap.size rfl ⟨HR5.out.below (below_new _ _).out, (by have h := heap_alloc_new w5 (.cells (opgC x) 35); simp only [opgC, k1] at h ⊢; exact h), by have h := @filt_len m i; rw [← HM.out] at h; omega, by have := H5.out.lw; simp; omega⟩ ?_; intro p4 c4 w6 H6; refine Stp.out ?_))
        refine Stp.mk ?_
        have ha := H5.out.app HX.out k1 (w := w6) (p := p4) (n := M.length + 1) (c := c4) ⟨by rw [← HM.out]; exact H6.out.1, by have h := H6.out.2.1; simp only [opgC, k1]; exact h⟩
        have hM1 : M ++ [x] = (m.take (i + 1)).filter isW := by rw [List.take_add_one, HX.out, Option.toList_some, List.filter_append, ← HM.out]; simp [isW, k1]
        obtain ⟨n1, hn1⟩ : ∃ n1, n1 = M.length + 1 := ⟨_, rfl⟩
        rw [← hn1] at ha ⊢
        obtain ⟨K, hK⟩ : ∃ K, (m.take (i + 1)).filter isW = K := ⟨_, rfl⟩
        have hKn : K.length = n1 := by rw [← hK, ← hM1, List.length_append, hn1]; rfl
        have hKx : K[M.length]? = some x := by rw [← hK, ← hM1, List.getElem?_append_right (Nat.le_refl _), Nat.sub_self]; rfl
        have hrK : RowG w6 lb (.slice p4 n1 c4) K := by have := ha.lrow; rwa [hK] at this
        obtain ⟨p5, c5, e5, h5⟩ := RowG.caps hrK
        cases e5
        obtain ⟨gl, rfl, _⟩ := h5 M.length x hKx
        have HA : Hid (AllI w w6 w2.heap.size lb fb (.slice (some ⟨g, 0, none⟩) m.length d) m nsf bsf (.slice (some ⟨gl, 0, none⟩) K.length c4) (i + 1) (i + 1) ∧ RowG w6 lb (.slice (some ⟨gl, 0, none⟩) K.length c4) K) := ⟨ha, hrK⟩
        have HK : Hid ((m.take (i + 1)).filter isW = K ∧ K.length ≤ 700) := ⟨hK, by rw [← hK]; have := @filt_len m (i + 1); omega⟩
        have HK1 : Hid (x.kd = 4) := k1
        clear ha hM1 hn1 hK hKn hKx hrK h5 H6 HR5 k1 d0 d1 d2 d3 d4 d5 d6 d7 d8 d9 d10
        go_wp2_with (first
          | (go_at_call 12; refine (rsorted_any lb (.slice (some ⟨gl, 0, none⟩) K.length c4) K w6 HA.out.2 (fun y hy => HC.out.1.rng y (mem_filt (by rw [HK.out.1]; exact hy)).1) (by have := HK.out.2; omega)).mono ?_; rintro e w7 ⟨v7, s, rfl, hr7, hs7, hb7⟩; have H7 : Hid (RowG w7 w6.heap.size v7 s ∧ IsSortedG K s ∧ Below w6.heap.size w6 w7) := ⟨hr7, hs7, hb7⟩; clear hr7 hs7 hb7)
          | (go_at_call 11; refine (rheads_any w6.heap.size v7 s nsf w7 H7.out.1 (by have h := isSortedG_length H7.out.2.1; have := HK.out.2; omega) (fun o ho => by have hw := (HA.out.1.win HC.out.1 (mem_filt (by rw [HK.out.1]; exact (isSortedG_perm H7.out.2.1).mem_iff.1 ho)).1).below H7.out.2.2; exact ⟨hw.seen, hw.sl⟩) (fun o ho => may_own (HC.out.1.each o (mem_filt (by rw [HK.out.1]; exact (isSortedG_perm H7.out.2.1).mem_iff.1 ho)).1).2)).mono ?_; rintro e w8 ⟨v8, rfl, hr8, hb8⟩; refine Stp.out ?_))
        refine Stp.mk ?_
        obtain ⟨ph, ch, rfl⟩ := hr8.slice
        have hd := HC.out.1.hd HC.out.2 (k := i + 1) (by rw [HK.out.1]; exact H7.out.2.1)
        obtain ⟨H, hH⟩ : ∃ H, headsG nsf s = H := ⟨_, rfl⟩
        rw [hH] at hr8 hd ⊢
        have H8 : Hid (RowG w8 w7.heap.size (.slice ph H.length ch) H ∧ HdG w nsf bsf m (i + 1) H ∧ Below w6.heap.size w6 w8 ∧ H.length ≤ 700) := ⟨hr8, hd, below_thenH H7.out.2.2 hb8, by have := hd.len; omega⟩
        have hA8 := HA.out.1.later H8.out.2.2.1
        obtain ⟨p2, c2, e2, h2⟩ := RowG.caps hA8.row
        cases e2
        obtain ⟨g2, e3, a0, a1, a2, a3, a4, a5, a6, a7, a8, a9, a10⟩ := h2 i x HX.out
        cases e3
        have HA8 : Hid (AllI w w8 w2.heap.size lb fb (.slice (some ⟨g, 0, none⟩) m.length d) m nsf bsf (.slice (some ⟨gl, 0, none⟩) K.length c4) (i + 1) (i + 1)) := hA8
        clear hr8 hb8 hd hH hA8 h2
        rcases Nat.eq_zero_or_pos H.length with hh | hh
        · have HV : Hid ((lastO H bsf).length = 0 ∧ Cd.Bytes w8 none (lastO H bsf)) := by
            rw [lastO_nil hh]
            exact ⟨rfl, fun h => absurd h (by simp)⟩
          have hhI : (H.length : Int) = 0 := by omega
          have cA : ∀ W, Below w8.heap.size w8 W → Calls Try.prog 10 #[.pointer (some ⟨fb, 0, none⟩), opgv x] W fun e w' => e = .returned (.int .i64 17) ∧ Below W.heap.size W w' := fun W hW => (HA8.out.later hW).old HC.out.1 HX.out HK1.out
          have cH : ∀ W, Below w8.heap.size w8 W → Calls Try.prog 14 #[.pointer (some ⟨fb, 0, none⟩)] W fun e w' => ∃ v, e = .returned v ∧ Below W.heap.size W w' ∧ FinH (H.map fun o => vcOf o (nsf o) (bsf o)) v w' := fun W hW => (HA8.out.later hW).heads HC.out.1 H8.out.2.1.isHd
          have cI : ∀ W, Below w8.heap.size w8 W → ∀ v, FinH (H.map fun o => vcOf o (nsf o) (bsf o)) v W → Calls Try.prog 13 #[v, .slice ph H.length ch] W fun e w' => e = .returned (.bool true) ∧ Below W.heap.size W w' := fun W hW v hv => is_heads hv (H8.out.1.below hW) (fun o ho => (HA8.out.later hW).win HC.out.1 (H8.out.2.1.mem o ho)) rfl (by have := H8.out.2.2.2; omega)
          have cV : ∀ W, Below w8.heap.size w8 W → Calls Try.prog 15 #[.pointer (some ⟨fb, 0, none⟩)] W fun e w' => ∃ v, e = .returned v ∧ Below W.heap.size W w' ∧ FinV (Cd.strOf (lastO H bsf)) v w' := fun W hW => by
            have h := (HA8.out.later hW).value HC.out.1 H8.out.2.1.isHd
            rwa [lastC_map] at h
          have cS : ∀ W, Below w8.heap.size w8 W → Calls Try.prog 16 #[.pointer (some ⟨fb, 0, none⟩)] W fun e w' => e = .returned (.int .i64 ((0 : Nat) : Int)) ∧ Below W.heap.size W w' := fun W hW => by
            have h := (HA8.out.later hW).size HC.out.1 H8.out.2.1.isHd
            rwa [lastC_map, HV.out.1] at h
          have cL : ∀ W, Below w8.heap.size w8 W → Calls Try.prog 17 #[.pointer (some ⟨fb, 0, none⟩)] W fun e w' => e = .returned (.int .i64 ((K.length : Nat) : Int)) ∧ Below W.heap.size W w' := fun W hW => by
            have h := (HA8.out.later hW).len
            rwa [HK.out.1] at h
          have cz : ∀ W, Below w8.heap.size w8 W → (convert 31 9 (.slice none 0 0)).run Try.prog W = .ok (.string (Cd.strOf (lastO H bsf))) W := fun W hW => by
            have h := Cd.run_str W none (lastO H bsf) 0 (Cd.below_bytes hW HV.out.2)
            rwa [HV.out.1] at h
          simp only [opgv, opgC] at cA
          go_wp2_with fail
          refine ca19 (by kernel_rfl) fb g m.length d i H.length ch 0 0 K.length c4 ph none (some ⟨gl, 0, none⟩) x (H.map fun o => vcOf o (nsf o) (bsf o)) (Cd.strOf (lastO H bsf)) w8 rfl rfl rfl rfl rfl rfl rfl rfl HLT.out a0 a1 a2 a3 a4 a5 a6 a7 a8 a9 a10 cA cH cI cV cS cL cz ?_
          intro g13 g20 w9 hb9 _ _
          have H9 : Hid (AllI w w9 w2.heap.size lb fb (.slice (some ⟨g, 0, none⟩) m.length d) m nsf bsf (.slice (some ⟨gl, 0, none⟩) K.length c4) (i + 1) (i + 1)) := HA8.out.later hb9
          clear cA cH cI cV cS cL cz hb9 a0 a1 a2 a3 a4 a5 a6 a7 a8 a9 a10 
          obtain ⟨p2, c2, e2, h2⟩ := RowG.caps H9.out.row
          cases e2
          obtain ⟨g2, e3, a0, a1, a2, a3, a4, a5, a6, a7, a8, a9, a10⟩ := h2 i x HX.out
          cases e3
          have cO := of_any (H9.out.win HC.out.1 (List.mem_of_getElem? HX.out))
          simp only [opgv, opgC] at cO
          clear h2
          simp only [putAll, List.setIfInBounds_toArray, List.set_cons_zero, List.set_cons_succ]
          go_wp2_with (first
            | (go_at_call 18; refine cO.mono ?_; clear cO; rintro e w10 ⟨y, rfl, hyc, hyi, hb10⟩; have H10 : Hid (y.c = vcOf x (nsf x) (bsf x) ∧ VIn w10 y ∧ Below w9.heap.size w9 w10) := ⟨hyc, hyi, hb10⟩; clear hyc hyi hb10 a0 a1 a2 a3 a4 a5 a6 a7 a8 a9 a10)
            | (refine wpList_putV rfl 43 _ _ rfl w10.heap.size (vgC y) rfl rfl 43 _ (heap_alloc_new w10 _) infoVer rfl (vgC_one _) ?_; intro w11 H11; refine Stp.out ?_))
          refine Stp.mk ?_
          have hb11 : Below w10.heap.size w10 w11 := (below_new w10 _).out.trans (H11.out.2.1.below (by simp) fun b hb => by omega)
          have HY : Hid (y.c = vcOf x (nsf x) (bsf x) ∧ VIn w11 y ∧ Below w9.heap.size w9 w11) := ⟨H10.out.1, H10.out.2.1.below hb11, below_thenH H10.out.2.2 hb11⟩
          have HA11 : Hid (AllI w w11 w2.heap.size lb fb (.slice (some ⟨g, 0, none⟩) m.length d) m nsf bsf (.slice (some ⟨gl, 0, none⟩) K.length c4) (i + 1) (i + 1)) := H9.out.later HY.out.2.2
          have HB11 : Hid (w11.heap[w10.heap.size]? = some (.cells (vgC y) 43 (0, 0))) := H11.out.1
          obtain ⟨vb, hvb⟩ : ∃ vb, w10.heap.size = vb := ⟨_, rfl⟩
          rw [hvb] at HB11 ⊢
          obtain ⟨p2, c2, e2, h2⟩ := RowG.caps HA11.out.row
          cases e2
          obtain ⟨g2, e3, a0, a1, a2, a3, a4, a5, a6, a7, a8, a9, a10⟩ := h2 i x HX.out
          cases e3
          have y0 : w11.cell? ⟨vb, 0, none⟩ = some (.int .i64 y.t) := cellOf HB11.out 0
          have y1 : w11.cell? ⟨vb, 1, none⟩ = some (.int .i64 y.n) := cellOf HB11.out 1
          have y2 : w11.cell? ⟨vb, 2, none⟩ = some (.int .i64 y.sq) := cellOf HB11.out 2
          have y3 : w11.cell? ⟨vb, 3, none⟩ = some (.slice y.sp y.ns.length y.sc) := cellOf HB11.out 3
          have y4 : w11.cell? ⟨vb, 4, none⟩ = some (.slice y.dp y.bs.length y.dc) := cellOf HB11.out 4
          have cI : ∀ W, Below w11.heap.size w11 W → ∀ v1, RowV W w11.heap.size v1 [y] → ∀ v6, RowG W w11.heap.size v6 [x] → Calls Try.prog 13 #[v1, v6] W fun e w' => e = .returned (.bool true) ∧ Below W.heap.size W w' := fun W hW v1 h1 v6 h6 => is_one h1 h6 (HY.out.2.1.below hW) ((HA11.out.later hW).win HC.out.1 (List.mem_of_getElem? HX.out)) HY.out.1
          clear h2 hb11 hvb H11
          go_wp2_with fail
          refine ca22 (by kernel_rfl) vb g m.length d i x y w11 rfl rfl rfl rfl HLT.out y0 y1 y2 y3 y4 a0 a1 a2 a3 a4 a5 a6 a7 a8 a9 a10 cI ?_
          intro g1 g6 w12 hb12 _ _
          have H12 : Hid (Below w11.heap.size w11 w12) := hb12
          clear cI hb12 y0 y1 y2 y3 y4 a0 a1 a2 a3 a4 a5 a6 a7 a8 a9 a10
          simp only [putAll, List.setIfInBounds_toArray, List.set_cons_zero, List.set_cons_succ]
          go_wp2_with fail
          go_loopw [12] (fun kk wr => ∃ k : Nat, kk = .int .i64 k ∧ k ≤ K.length ∧ Hid (Below w12.heap.size w12 wr)) (fun kk _ => K.length - (RowKit.intOf kk).toNat)
          case atStart => exact ⟨0, rfl, by omega, Below.refl _ _⟩
          case round =>
            obtain ⟨k, rfl, hk, HB⟩ := hrel
            have hk7 : K.length ≤ 700 := HK.out.2
            by_cases hkt : k < K.length
            · have hktI : (k : Int) < K.length := by omega
              have HKT : Hid (k < K.length) := hkt
              obtain ⟨z, hz⟩ : ∃ z, K[k]? = some z := ⟨_, List.getElem?_eq_getElem hkt⟩
              have hbr : Below w11.heap.size w11 wr := below_thenH H12.out HB.out
              have HBR : Hid (Below w11.heap.size w11 wr) := hbr
              have hAr := HA11.out.later hbr
              have HAR : Hid (AllI w wr w2.heap.size lb fb (.slice (some ⟨g, 0, none⟩) m.length d) m nsf bsf (.slice (some ⟨gl, 0, none⟩) K.length c4) (i + 1) (i + 1)) := hAr
              have hzm : z ∈ m := (mem_filt (by rw [HK.out.1]; exact List.mem_of_getElem? hz)).1
              have HZM : Hid (z ∈ m) := hzm
              obtain ⟨p2, c2, e2, h2⟩ := RowG.caps hAr.row
              cases e2
              obtain ⟨g2, e3, a0, a1, a2, a3, a4, a5, a6, a7, a8, a9, a10⟩ := h2 i x HX.out
              cases e3
              have hlr := hAr.lrow
              rw [HK.out.1] at hlr
              obtain ⟨p5, c5, e5, h5⟩ := RowG.caps hlr
              cases e5
              obtain ⟨g6, e6, d0, d1, d2, d3, d4, d5, d6, d7, d8, d9, d10⟩ := h5 k z hz
              cases e6
              have hBr := (hbr.block _ (block_lt HB11.out)).trans HB11.out
              have y0 : wr.cell? ⟨vb, 0, none⟩ = some (.int .i64 y.t) := cellOf hBr 0
              have y1 : wr.cell? ⟨vb, 1, none⟩ = some (.int .i64 y.n) := cellOf hBr 1
              have y2 : wr.cell? ⟨vb, 2, none⟩ = some (.int .i64 y.sq) := cellOf hBr 2
              have y3 : wr.cell? ⟨vb, 3, none⟩ = some (.slice y.sp y.ns.length y.sc) := cellOf hBr 3
              have y4 : wr.cell? ⟨vb, 4, none⟩ = some (.slice y.dp y.bs.length y.dc) := cellOf hBr 4
              have cO : ∀ W, Below wr.heap.size wr W → Calls Try.prog 18 #[opgv z] W fun e w' => ∃ v, e = .returned v ∧ Below W.heap.size W w' ∧ FinO (vcOf z (nsf z) (bsf z)) v w' := fun W hW => (of_any ((HAR.out.later hW).win HC.out.1 HZM.out)).mono fun e w' ⟨y, he, h1, h2, h3⟩ => ⟨_, he, h3, y, rfl, h1, h2⟩
              have cB : ∀ W, Below wr.heap.size wr W → ∀ v, FinO (vcOf z (nsf z) (bsf z)) v W → Calls Try.prog 19 #[vgv y, v] W fun e w' => e = .returned (.bool (seenB x.sq x.n (nsf z))) ∧ Below W.heap.size W w' := fun W hW v hv => behind_two hv HY.out.1
              have cR : ∀ W, Below wr.heap.size wr W → Calls Try.prog 20 #[opgv x, opgv z] W fun e w' => e = .returned (.bool (seenB x.sq x.n (nsf z))) ∧ Below W.heap.size W w' := fun W hW => by
                have hw := (HAR.out.later hW).win HC.out.1 HZM.out
                exact rbehind_any x z (nsf z) W hw.sl hw.seen
              simp only [opgv, opgC, vgv, vgC] at cO cB cR
              clear h2 h5 hz hzm hlr hAr hbr hBr hkt
              go_wp2_with fail
              refine ca27 (by kernel_rfl) vb gl K.length c4 k g m.length d i x z y (vcOf z (nsf z) (bsf z)) (seenB x.sq x.n (nsf z)) wr rfl rfl rfl rfl rfl rfl HLT.out HKT.out y0 y1 y2 y3 y4 a0 a1 a2 a3 a4 a5 a6 a7 a8 a9 a10 d0 d1 d2 d3 d4 d5 d6 d7 d8 d9 d10 cO cB cR ?_
              intro g5 w14 hb14 _
              have H14 : Hid (Below wr.heap.size wr w14) := hb14
              clear cO cB cR hb14 y0 y1 y2 y3 y4 a0 a1 a2 a3 a4 a5 a6 a7 a8 a9 a10 d0 d1 d2 d3 d4 d5 d6 d7 d8 d9 d10
              simp only [putAll, List.setIfInBounds_toArray, List.set_cons_zero, List.set_cons_succ]
              go_wp2_with fail
              go_roundw
              case rel => exact ⟨k + 1, by go_num, HKT.out, below_thenH HB.out H14.out⟩
              case measure => have := HKT.out; simp [RowKit.intOf]; omega
            · go_wp2
              go_roundw
              case rel => exact ⟨i + 1, K, some ⟨gl, 0, none⟩, c4, rfl, by go_num, HLT.out, HK.out.1.symm, HA11.out.later (below_thenH H12.out HB.out)⟩
              case measure => have := HLT.out; simp [RowKit.intOf]; omega
        · obtain ⟨k, hk⟩ : ∃ k, H.length = k + 1 := ⟨H.length - 1, by omega⟩
          obtain ⟨xh, hxh⟩ : ∃ y, H[k]? = some y := ⟨_, List.getElem?_eq_getElem (by omega)⟩
          have HV : Hid ((lastO H bsf).length = xh.dl ∧ Cd.Bytes w8 xh.dp (lastO H bsf)) := by
            have hw := HA8.out.win HC.out.1 (H8.out.2.1.mem xh (List.mem_of_getElem? hxh))
            rw [lastO_at hk hxh]
            exact ⟨hw.dl, hw.data⟩
          obtain ⟨p7, c7, e7, h7⟩ := RowG.caps H8.out.1
          cases e7
          obtain ⟨gh, rfl, b0, b1, b2, b3, b4, b5, b6, b7, b8, b9, b10⟩ := h7 k xh hxh
          have hhI : ¬ (H.length : Int) = 0 := by omega
          have hhP : (0 : Int) < H.length := by omega
          have hk1 : (H.length : Int) - 1 = k := by omega
          have hkl : (k : Int) < H.length := by omega
          have hh9 : H.length ≤ 700 := H8.out.2.2.2
          clear h7 hxh hk b0 b1 b2 b3 b4 b5 b6 b7 b8 b10 hh
          have cA : ∀ W, Below w8.heap.size w8 W → Calls Try.prog 10 #[.pointer (some ⟨fb, 0, none⟩), opgv x] W fun e w' => e = .returned (.int .i64 17) ∧ Below W.heap.size W w' := fun W hW => (HA8.out.later hW).old HC.out.1 HX.out HK1.out
          have cH : ∀ W, Below w8.heap.size w8 W → Calls Try.prog 14 #[.pointer (some ⟨fb, 0, none⟩)] W fun e w' => ∃ v, e = .returned v ∧ Below W.heap.size W w' ∧ FinH (H.map fun o => vcOf o (nsf o) (bsf o)) v w' := fun W hW => (HA8.out.later hW).heads HC.out.1 H8.out.2.1.isHd
          have cI : ∀ W, Below w8.heap.size w8 W → ∀ v, FinH (H.map fun o => vcOf o (nsf o) (bsf o)) v W → Calls Try.prog 13 #[v, .slice (some ⟨gh, 0, none⟩) H.length ch] W fun e w' => e = .returned (.bool true) ∧ Below W.heap.size W w' := fun W hW v hv => is_heads hv (H8.out.1.below hW) (fun o ho => (HA8.out.later hW).win HC.out.1 (H8.out.2.1.mem o ho)) rfl (by have := H8.out.2.2.2; omega)
          have cV : ∀ W, Below w8.heap.size w8 W → Calls Try.prog 15 #[.pointer (some ⟨fb, 0, none⟩)] W fun e w' => ∃ v, e = .returned v ∧ Below W.heap.size W w' ∧ FinV (Cd.strOf (lastO H bsf)) v w' := fun W hW => by
            have h := (HA8.out.later hW).value HC.out.1 H8.out.2.1.isHd
            rwa [lastC_map] at h
          have cS : ∀ W, Below w8.heap.size w8 W → Calls Try.prog 16 #[.pointer (some ⟨fb, 0, none⟩)] W fun e w' => e = .returned (.int .i64 ((xh.dl : Nat) : Int)) ∧ Below W.heap.size W w' := fun W hW => by
            have h := (HA8.out.later hW).size HC.out.1 H8.out.2.1.isHd
            rwa [lastC_map, HV.out.1] at h
          have cL : ∀ W, Below w8.heap.size w8 W → Calls Try.prog 17 #[.pointer (some ⟨fb, 0, none⟩)] W fun e w' => e = .returned (.int .i64 ((K.length : Nat) : Int)) ∧ Below W.heap.size W w' := fun W hW => by
            have h := (HA8.out.later hW).len
            rwa [HK.out.1] at h
          have cz : ∀ W, Below w8.heap.size w8 W → (convert 31 9 (.slice xh.dp xh.dl xh.dc)).run Try.prog W = .ok (.string (Cd.strOf (lastO H bsf))) W := fun W hW => by
            have h := Cd.run_str W xh.dp (lastO H bsf) xh.dc (Cd.below_bytes hW HV.out.2)
            rwa [HV.out.1] at h
          simp only [opgv, opgC] at cA
          go_wp2_with fail
          refine ca19 (by kernel_rfl) fb g m.length d i H.length ch xh.dl xh.dc K.length c4 (some ⟨gh, 0, none⟩) xh.dp (some ⟨gl, 0, none⟩) x (H.map fun o => vcOf o (nsf o) (bsf o)) (Cd.strOf (lastO H bsf)) w8 rfl rfl rfl rfl rfl rfl rfl rfl HLT.out a0 a1 a2 a3 a4 a5 a6 a7 a8 a9 a10 cA cH cI cV cS cL cz ?_
          intro g13 g20 w9 hb9 _ _
          have H9 : Hid (AllI w w9 w2.heap.size lb fb (.slice (some ⟨g, 0, none⟩) m.length d) m nsf bsf (.slice (some ⟨gl, 0, none⟩) K.length c4) (i + 1) (i + 1)) := HA8.out.later hb9
          clear cA cH cI cV cS cL cz hb9 a0 a1 a2 a3 a4 a5 a6 a7 a8 a9 a10 
          obtain ⟨p2, c2, e2, h2⟩ := RowG.caps H9.out.row
          cases e2
          obtain ⟨g2, e3, a0, a1, a2, a3, a4, a5, a6, a7, a8, a9, a10⟩ := h2 i x HX.out
          cases e3
          have cO := of_any (H9.out.win HC.out.1 (List.mem_of_getElem? HX.out))
          simp only [opgv, opgC] at cO
          clear h2
          simp only [putAll, List.setIfInBounds_toArray, List.set_cons_zero, List.set_cons_succ]
          go_wp2_with (first
            | (go_at_call 18; refine cO.mono ?_; clear cO; rintro e w10 ⟨y, rfl, hyc, hyi, hb10⟩; have H10 : Hid (y.c = vcOf x (nsf x) (bsf x) ∧ VIn w10 y ∧ Below w9.heap.size w9 w10) := ⟨hyc, hyi, hb10⟩; clear hyc hyi hb10 a0 a1 a2 a3 a4 a5 a6 a7 a8 a9 a10)
            | (refine wpList_putV rfl 43 _ _ rfl w10.heap.size (vgC y) rfl rfl 43 _ (heap_alloc_new w10 _) infoVer rfl (vgC_one _) ?_; intro w11 H11; refine Stp.out ?_))
          refine Stp.mk ?_
          have hb11 : Below w10.heap.size w10 w11 := (below_new w10 _).out.trans (H11.out.2.1.below (by simp) fun b hb => by omega)
          have HY : Hid (y.c = vcOf x (nsf x) (bsf x) ∧ VIn w11 y ∧ Below w9.heap.size w9 w11) := ⟨H10.out.1, H10.out.2.1.below hb11, below_thenH H10.out.2.2 hb11⟩
          have HA11 : Hid (AllI w w11 w2.heap.size lb fb (.slice (some ⟨g, 0, none⟩) m.length d) m nsf bsf (.slice (some ⟨gl, 0, none⟩) K.length c4) (i + 1) (i + 1)) := H9.out.later HY.out.2.2
          have HB11 : Hid (w11.heap[w10.heap.size]? = some (.cells (vgC y) 43 (0, 0))) := H11.out.1
          obtain ⟨vb, hvb⟩ : ∃ vb, w10.heap.size = vb := ⟨_, rfl⟩
          rw [hvb] at HB11 ⊢
          obtain ⟨p2, c2, e2, h2⟩ := RowG.caps HA11.out.row
          cases e2
          obtain ⟨g2, e3, a0, a1, a2, a3, a4, a5, a6, a7, a8, a9, a10⟩ := h2 i x HX.out
          cases e3
          have y0 : w11.cell? ⟨vb, 0, none⟩ = some (.int .i64 y.t) := cellOf HB11.out 0
          have y1 : w11.cell? ⟨vb, 1, none⟩ = some (.int .i64 y.n) := cellOf HB11.out 1
          have y2 : w11.cell? ⟨vb, 2, none⟩ = some (.int .i64 y.sq) := cellOf HB11.out 2
          have y3 : w11.cell? ⟨vb, 3, none⟩ = some (.slice y.sp y.ns.length y.sc) := cellOf HB11.out 3
          have y4 : w11.cell? ⟨vb, 4, none⟩ = some (.slice y.dp y.bs.length y.dc) := cellOf HB11.out 4
          have cI : ∀ W, Below w11.heap.size w11 W → ∀ v1, RowV W w11.heap.size v1 [y] → ∀ v6, RowG W w11.heap.size v6 [x] → Calls Try.prog 13 #[v1, v6] W fun e w' => e = .returned (.bool true) ∧ Below W.heap.size W w' := fun W hW v1 h1 v6 h6 => is_one h1 h6 (HY.out.2.1.below hW) ((HA11.out.later hW).win HC.out.1 (List.mem_of_getElem? HX.out)) HY.out.1
          clear h2 hb11 hvb H11
          go_wp2_with fail
          refine ca22 (by kernel_rfl) vb g m.length d i x y w11 rfl rfl rfl rfl HLT.out y0 y1 y2 y3 y4 a0 a1 a2 a3 a4 a5 a6 a7 a8 a9 a10 cI ?_
          intro g1 g6 w12 hb12 _ _
          have H12 : Hid (Below w11.heap.size w11 w12) := hb12
          clear cI hb12 y0 y1 y2 y3 y4 a0 a1 a2 a3 a4 a5 a6 a7 a8 a9 a10
          simp only [putAll, List.setIfInBounds_toArray, List.set_cons_zero, List.set_cons_succ]
          go_wp2_with fail
          go_loopw [12] (fun kk wr => ∃ k : Nat, kk = .int .i64 k ∧ k ≤ K.length ∧ Hid (Below w12.heap.size w12 wr)) (fun kk _ => K.length - (RowKit.intOf kk).toNat)
          case atStart => exact ⟨0, rfl, by omega, Below.refl _ _⟩
          case round =>
            obtain ⟨k, rfl, hk, HB⟩ := hrel
            have hk7 : K.length ≤ 700 := HK.out.2
            by_cases hkt : k < K.length
            · have hktI : (k : Int) < K.length := by omega
              have HKT : Hid (k < K.length) := hkt
              obtain ⟨z, hz⟩ : ∃ z, K[k]? = some z := ⟨_, List.getElem?_eq_getElem hkt⟩
              have hbr : Below w11.heap.size w11 wr := below_thenH H12.out HB.out
              have HBR : Hid (Below w11.heap.size w11 wr) := hbr
              have hAr := HA11.out.later hbr
              have HAR : Hid (AllI w wr w2.heap.size lb fb (.slice (some ⟨g, 0, none⟩) m.length d) m nsf bsf (.slice (some ⟨gl, 0, none⟩) K.length c4) (i + 1) (i + 1)) := hAr
              have hzm : z ∈ m := (mem_filt (by rw [HK.out.1]; exact List.mem_of_getElem? hz)).1
              have HZM : Hid (z ∈ m) := hzm
              obtain ⟨p2, c2, e2, h2⟩ := RowG.caps hAr.row
              cases e2
              obtain ⟨g2, e3, a0, a1, a2, a3, a4, a5, a6, a7, a8, a9, a10⟩ := h2 i x HX.out
              cases e3
              have hlr := hAr.lrow
              rw [HK.out.1] at hlr
              obtain ⟨p5, c5, e5, h5⟩ := RowG.caps hlr
              cases e5
              obtain ⟨g6, e6, d0, d1, d2, d3, d4, d5, d6, d7, d8, d9, d10⟩ := h5 k z hz
              cases e6
              have hBr := (hbr.block _ (block_lt HB11.out)).trans HB11.out
              have y0 : wr.cell? ⟨vb, 0, none⟩ = some (.int .i64 y.t) := cellOf hBr 0
              have y1 : wr.cell? ⟨vb, 1, none⟩ = some (.int .i64 y.n) := cellOf hBr 1
              have y2 : wr.cell? ⟨vb, 2, none⟩ = some (.int .i64 y.sq) := cellOf hBr 2
              have y3 : wr.cell? ⟨vb, 3, none⟩ = some (.slice y.sp y.ns.length y.sc) := cellOf hBr 3
              have y4 : wr.cell? ⟨vb, 4, none⟩ = some (.slice y.dp y.bs.length y.dc) := cellOf hBr 4
              have cO : ∀ W, Below wr.heap.size wr W → Calls Try.prog 18 #[opgv z] W fun e w' => ∃ v, e = .returned v ∧ Below W.heap.size W w' ∧ FinO (vcOf z (nsf z) (bsf z)) v w' := fun W hW => (of_any ((HAR.out.later hW).win HC.out.1 HZM.out)).mono fun e w' ⟨y, he, h1, h2, h3⟩ => ⟨_, he, h3, y, rfl, h1, h2⟩
              have cB : ∀ W, Below wr.heap.size wr W → ∀ v, FinO (vcOf z (nsf z) (bsf z)) v W → Calls Try.prog 19 #[vgv y, v] W fun e w' => e = .returned (.bool (seenB x.sq x.n (nsf z))) ∧ Below W.heap.size W w' := fun W hW v hv => behind_two hv HY.out.1
              have cR : ∀ W, Below wr.heap.size wr W → Calls Try.prog 20 #[opgv x, opgv z] W fun e w' => e = .returned (.bool (seenB x.sq x.n (nsf z))) ∧ Below W.heap.size W w' := fun W hW => by
                have hw := (HAR.out.later hW).win HC.out.1 HZM.out
                exact rbehind_any x z (nsf z) W hw.sl hw.seen
              simp only [opgv, opgC, vgv, vgC] at cO cB cR
              clear h2 h5 hz hzm hlr hAr hbr hBr hkt
              go_wp2_with fail
              refine ca27 (by kernel_rfl) vb gl K.length c4 k g m.length d i x z y (vcOf z (nsf z) (bsf z)) (seenB x.sq x.n (nsf z)) wr rfl rfl rfl rfl rfl rfl HLT.out HKT.out y0 y1 y2 y3 y4 a0 a1 a2 a3 a4 a5 a6 a7 a8 a9 a10 d0 d1 d2 d3 d4 d5 d6 d7 d8 d9 d10 cO cB cR ?_
              intro g5 w14 hb14 _
              have H14 : Hid (Below wr.heap.size wr w14) := hb14
              clear cO cB cR hb14 y0 y1 y2 y3 y4 a0 a1 a2 a3 a4 a5 a6 a7 a8 a9 a10 d0 d1 d2 d3 d4 d5 d6 d7 d8 d9 d10
              simp only [putAll, List.setIfInBounds_toArray, List.set_cons_zero, List.set_cons_succ]
              go_wp2_with fail
              go_roundw
              case rel => exact ⟨k + 1, by go_num, HKT.out, below_thenH HB.out H14.out⟩
              case measure => have := HKT.out; simp [RowKit.intOf]; omega
            · go_wp2
              go_roundw
              case rel => exact ⟨i + 1, K, some ⟨gl, 0, none⟩, c4, rfl, by go_num, HLT.out, HK.out.1.symm, HA11.out.later (below_thenH H12.out HB.out)⟩
              case measure => have := HLT.out; simp [RowKit.intOf]; omega
      · have cA := HI.out.addN HC.out.1 HX.out k1
        simp only [opgv, opgC] at cA
        go_wp2_with (go_at_call 10; refine cA.mono ?_; clear cA; rintro e w5 ⟨rfl, hm5⟩; have H5 : Hid (AllI w w5 w2.heap.size lb fb (.slice (some ⟨g, 0, none⟩) m.length d) m nsf bsf (.slice p' M.length c') (i + 1) (i + 1)) := hm5; obtain ⟨p2, c2, e2, h2⟩ := RowG.caps hm5.row; cases e2; obtain ⟨g2, e3, d0, d1, d2, d3, d4, d5, d6, d7, d8, d9, d10⟩ := h2 i x HX.out; cases e3; clear h2 hm5 a0 a1 a2 a3 a4 a5 a6 a7 a8 a9 a10)
        go_roundw
        case rel => exact ⟨i + 1, M, p', c', rfl, by go_num, HLT.out, (by show M = _; rw [List.take_add_one, HX.out, Option.toList_some, List.filter_append, ← HM.out]; simp [isW, k1]), H5⟩
        case measure => have := HLT.out; simp [RowKit.intOf]; omega
    · obtain rfl : i = m.length := by omega
      go_wp2
      go_ret
      exact ⟨rfl, HI.out.below⟩

end Go.Proofs.Yteimjkicinjcgaa.Ck.Y.L
