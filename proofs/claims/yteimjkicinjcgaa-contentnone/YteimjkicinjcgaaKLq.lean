/-
  Add: one more version.
-/
import Derived.Test.YteimjkicinjcgaaKLp

namespace Go.Proofs.Yteimjkicinjcgaa.Ck.Y.L
open Go.RowKit Go.Maps Go.Lib

theorem op_cells11 {w : World} {g : Nat} {T : TypeId} {fr : Nat × Nat} {a0 a1 a2 a3 a4 a5 a6 a7 a8 a9 a10 : Value} (h : w.heap[g]? = some (.cells #[a0, a1, a2, a3, a4, a5, a6, a7, a8, a9, a10] T fr)) :
    w.cell? ⟨g, 0, none⟩ = some a0 ∧ w.cell? ⟨g, 1, none⟩ = some a1 ∧ w.cell? ⟨g, 2, none⟩ = some a2 ∧ w.cell? ⟨g, 3, none⟩ = some a3 ∧ w.cell? ⟨g, 4, none⟩ = some a4 ∧ w.cell? ⟨g, 5, none⟩ = some a5 ∧ w.cell? ⟨g, 6, none⟩ = some a6 ∧ w.cell? ⟨g, 7, none⟩ = some a7 ∧ w.cell? ⟨g, 8, none⟩ = some a8 ∧ w.cell? ⟨g, 9, none⟩ = some a9 ∧ w.cell? ⟨g, 10, none⟩ = some a10 :=
  ⟨cellOf h 0, cellOf h 1, cellOf h 2, cellOf h 3, cellOf h 4, cellOf h 5, cellOf h 6, cellOf h 7, cellOf h 8, cellOf h 9, cellOf h 10⟩
theorem foot_in {w : World} {fb mb : Nat} {mv hv : Value} (m3 : mv = .map (some mb) ∨ w.heap.size ≤ mb) {b : Nat} (hb : Foot fb (.map (some mb)) hv b) : Foot fb mv hv b ∨ w.heap.size ≤ b := by
  rcases hb with rfl | e | e
  · exact .inl (.inl rfl)
  · cases e
    rcases m3 with m3 | m3
    · exact .inl (.inr (.inl m3))
    · exact .inr m3
  · exact .inl (.inr (.inr e))

set_option maxRecDepth 8000 in
set_option maxHeartbeats 4000000 in
/-- One more version. -/
theorem add_new {w : World} {fb : Nat} {S : List VC} {F : Nat → Prop} (hf : FileS F w fb S) {o : OG} {ns : List Int} {bs : List (BitVec 8)} (h : WIn w o ns bs) (hk : o.kd = 4) (hm : mayW o ns = true) (hq : (o.t, o.n) ∉ S.map VC.key) (hl : S.length < 800) (hkp : ∀ W, Only F w W → WIn W o ns bs) :
    Calls Try.prog 10 #[.pointer (some ⟨fb, 0, none⟩), opgv o] w fun e w' => e = .returned (.int .i64 0) ∧ ∃ F', FileS F' w' fb (S ++ [vcOf o ns bs]) ∧ (∀ b, F' b → F b ∨ w.heap.size ≤ b) ∧ Only F w w' := by
  obtain ⟨sn, H, mv, sp, sc, hv, hfm, hhf, rfl, hlen, _⟩ := hf
  obtain ⟨y, hy⟩ : ∃ y, seenB o.sq o.n (seeN sn ns) = y := ⟨_, rfl⟩
  have HSB : Hid (seenB o.sq o.n (seeN sn ns) = y) := hy
  clear hy
  obtain ⟨A, hA, bA, kA, hI⟩ := add_box h
  have c1 := may_call hI
  rw [hm] at c1
  have HB : Hid (Below w.heap.size w A) := bA
  have HK : Hid (A.heap[w.heap.size]? = some (.cells (opgC o) 35 (0, 0))) := kA
  have HW : Hid (WIn A o ns bs) := hI
  have HF : Hid (FMem A fb (S.map VC.key) sn H mv sp sc hv ∧ (o.t, o.n) ∉ S.map VC.key) := ⟨hfm.below bA, hq⟩
  have HH : Hid (L.HF S sn (H.map VG.c) ∧ H.length ≤ S.length ∧ S.length < 800) := ⟨hhf, hlen, hl⟩
  obtain ⟨a0, a1, a2, a3, a4, a5, a6, a7, a8, a9, a10⟩ := op_cellsG kA
  have HA : Hid (A = w.alloc (.cells (opgC o) 35)) := hA
  have HKP : Hid (∀ W, Only (Foot fb mv hv) w W → WIn W o ns bs) := hkp
  have HSL : Hid (ns.length = o.sl ∧ bs.length = o.dl) := ⟨h.sl, h.dl⟩
  have HVC : Hid (vcOf o ns bs = ⟨o.t, o.n, o.sq, ns, bs⟩) := rfl
  rw [hA] at a0 a1 a2 a3 a4 a5 a6 a7 a8 a9 a10
  generalize hc : vcOf o ns bs = c at *
  clear hA bA kA hI h hm hfm hhf hq hlen hl hc hkp
  obtain ⟨t, n, sq, kd, ot, on, pt, pn, nm, dp, dl, dc, sp0, sl, sc0⟩ := o
  simp only [opgv, opgC] at *
  subst hk
  go_enter Try.func10, Try.ntmps10
  go_wp2_with (go_at_call 27; rw [← HA.out]; refine Calls_new c1 ?_; intro w1 HB1; clear c1 a0 a1 a2 a3 a4 a5 a6 a7 a8 a9 a10)
  have k1 := (HB1.out.block _ (block_lt HK.out)).trans HK.out
  have F1 := HF.out.1.below HB1.out
  have b0 : w1.cell? ⟨w.heap.size, 0, none⟩ = some (.int .i64 t) := cellOf k1 0
  have b1 : w1.cell? ⟨w.heap.size, 1, none⟩ = some (.int .i64 n) := cellOf k1 1
  have f0 : w1.cell? ⟨fb, 0, none⟩ = some mv := cellOf F1.blk 0
  have l1 : fb < w1.heap.size := block_lt F1.blk
  have l2 : w.heap.size < w1.heap.size := cell_lt b0
  have k2 := (F1.below (below_drewH w1)).look t n
  have k3 := (F1.below (below_thenH (below_new w1 (.cells #[] 58)).out (below_drewH _))).look t n
  rw [decide_eq_false HF.out.2] at k2 k3
  obtain ⟨w2, hw2⟩ : ∃ w2, w2 = (w1.alloc (.cells #[] 58)).drew := ⟨_, rfl⟩
  have b2 : Below w1.heap.size w1 w2 := by rw [hw2]; exact below_thenH (below_new w1 (.cells #[] 58)).out (below_drewH _)
  have HW2 : Hid (w2 = (w1.alloc (.cells #[] 58)).drew ∧ Below A.heap.size A w2) := ⟨hw2, below_thenH HB1.out b2⟩
  clear F1 k1 hw2 b2
  go_region
  all_goals
    rw [← HW2.out.1]
    clear k2 k3 b0 b1 f0 l1 l2
    have k1 := (HW2.out.2.block _ (block_lt HK.out)).trans HK.out
    have b0 : w2.cell? ⟨w.heap.size, 0, none⟩ = some (.int .i64 t) := cellOf k1 0
    have b1 : w2.cell? ⟨w.heap.size, 1, none⟩ = some (.int .i64 n) := cellOf k1 1
    clear k1
    cases y with
    | true =>
      go_wp2_with (first | (go_at_call 28; refine (mark_any (HF.out.1.below HW2.out.2) HF.out.2).mono ?_; rintro e w3 ⟨rfl, mb, hf3, ho3, hmb⟩; have HM3 : Hid (FMem w3 fb (S.map VC.key ++ [(t, n)]) sn H (.map (some mb)) sp sc hv ∧ Only (Foot fb mv hv) w2 w3 ∧ (mv = .map (some mb) ∨ w.heap.size ≤ mb)) := ⟨hf3, ho3, hmb.imp id fun e => Nat.le_trans (below_thenH HB.out HW2.out.2).size e⟩; have k3 := (ho3.block _ (block_lt ((HW2.out.2.block _ (block_lt HK.out)).trans HK.out)) ((HF.out.1.below HW2.out.2).notFoot ((HW2.out.2.block _ (block_lt HK.out)).trans HK.out) (by decide) (by decide))).trans ((HW2.out.2.block _ (block_lt HK.out)).trans HK.out); have HK3 : Hid (w3.heap[w.heap.size]? = some (.cells #[.int .i64 t, .int .i64 n, .int .i64 sq, .int .i64 4, .int .i64 ot, .int .i64 on, .int .i64 pt, .int .i64 pn, .string nm, .slice dp dl dc, .slice sp0 sl sc0] 35 (0, 0))) := k3; have HO3 : Hid (Only (Foot fb mv hv) w w3) := (Below.only (below_thenH HB.out HW2.out.2) _).next ho3; have j10 : w3.cell? ⟨w.heap.size, 10, none⟩ = some (.slice sp0 sl sc0) := cellOf k3 10; clear k3 hf3 ho3 hmb b0 b1) | (go_at_call 29; refine (see_any HM3.out.1 HH.out.1.heads.1 sp0 ns sl sc0 HSL.out.1 (HKP.out _ HO3.out).seen).mono ?_; rintro e w4 ⟨rfl, sp4, sc4, hv4, hf4, ho4, he4⟩; have HM4 : Hid (FMem w4 fb (S.map VC.key ++ [(t, n)]) (seeN sn ns) (H.filter (keepV (seeN sn ns))) (.map (some mb)) sp4 sc4 hv4 ∧ Only (Foot fb (.map (some mb)) hv) w3 w4 ∧ hv4.ownBlock = hv.ownBlock) := ⟨hf4, ho4, he4⟩; have k4 := (ho4.block _ (block_lt HK3.out) (HM3.out.1.notFoot HK3.out (by decide) (by decide))).trans HK3.out; have HW4 : Hid (WIn w4 _ ns bs) := HKP.out w4 (HO3.out.trans ho4 fun b hb => foot_in HM3.out.2.2 hb); have ⟨d0, d1, d2, d3, d4, d5, d6, d7, d8, d9, d10⟩ := op_cells11 k4; clear k4 hf4 ho4 he4 j10) | (go_at_call 18; refine (of_in t n sq 4 ot on pt pn nm ns sp0 sc0 sl bs dp dc dl w4 HSL.out.1 HSL.out.2 HW4.out.seen HW4.out.le HW4.out.data HW4.out.bl).mono ?_; rintro e w5 ⟨p1, c1, p2, c2, rfl, hx5, hb5⟩; have HX5 : Hid (VOwn w5 0 ⟨t, n, sq, ns, p1, c1, bs, p2, c2⟩ ∧ Below w4.heap.size w4 w5 ∧ FMem w5 fb (S.map VC.key ++ [(t, n)]) (seeN sn ns) (H.filter (keepV (seeN sn ns))) (.map (some mb)) sp4 sc4 hv4) := ⟨hx5.base (Nat.zero_le _), hb5, HM4.out.1.below hb5⟩; clear hx5 hb5 d0 d1 d2 d3 d4 d5 d6 d7 d8 d9 d10) | (go_at_call 30; refine (put_seen' HX5.out.2.2 t n sq ns p1 p2 c1 c2 sl dl bs HSL.out HSB.out).mono ?_; rintro e w6 ⟨rfl, hb6⟩; have HB6 : Hid (Below w5.heap.size w5 w6) := hb6; clear hb6))
      go_ret
      refine ⟨rfl, ?_⟩
      exact add_end HH.out (by rw [HVC.out]; exact HF.out.2) (below_thenH HB.out HW2.out.2) HM3.out.2.1 HM3.out.2.2 HM4.out.2.1 HM4.out.2.2 HX5.out.2.1 (.inl (by rw [HVC.out]; exact ⟨HSB.out, HB6.out, HX5.out.2.2.below HB6.out⟩))
    | false =>
      go_wp2_with (first | (go_at_call 28; refine (mark_any (HF.out.1.below HW2.out.2) HF.out.2).mono ?_; rintro e w3 ⟨rfl, mb, hf3, ho3, hmb⟩; have HM3 : Hid (FMem w3 fb (S.map VC.key ++ [(t, n)]) sn H (.map (some mb)) sp sc hv ∧ Only (Foot fb mv hv) w2 w3 ∧ (mv = .map (some mb) ∨ w.heap.size ≤ mb)) := ⟨hf3, ho3, hmb.imp id fun e => Nat.le_trans (below_thenH HB.out HW2.out.2).size e⟩; have k3 := (ho3.block _ (block_lt ((HW2.out.2.block _ (block_lt HK.out)).trans HK.out)) ((HF.out.1.below HW2.out.2).notFoot ((HW2.out.2.block _ (block_lt HK.out)).trans HK.out) (by decide) (by decide))).trans ((HW2.out.2.block _ (block_lt HK.out)).trans HK.out); have HK3 : Hid (w3.heap[w.heap.size]? = some (.cells #[.int .i64 t, .int .i64 n, .int .i64 sq, .int .i64 4, .int .i64 ot, .int .i64 on, .int .i64 pt, .int .i64 pn, .string nm, .slice dp dl dc, .slice sp0 sl sc0] 35 (0, 0))) := k3; have HO3 : Hid (Only (Foot fb mv hv) w w3) := (Below.only (below_thenH HB.out HW2.out.2) _).next ho3; have j10 : w3.cell? ⟨w.heap.size, 10, none⟩ = some (.slice sp0 sl sc0) := cellOf k3 10; clear k3 hf3 ho3 hmb b0 b1) | (go_at_call 29; refine (see_any HM3.out.1 HH.out.1.heads.1 sp0 ns sl sc0 HSL.out.1 (HKP.out _ HO3.out).seen).mono ?_; rintro e w4 ⟨rfl, sp4, sc4, hv4, hf4, ho4, he4⟩; have HM4 : Hid (FMem w4 fb (S.map VC.key ++ [(t, n)]) (seeN sn ns) (H.filter (keepV (seeN sn ns))) (.map (some mb)) sp4 sc4 hv4 ∧ Only (Foot fb (.map (some mb)) hv) w3 w4 ∧ hv4.ownBlock = hv.ownBlock) := ⟨hf4, ho4, he4⟩; have k4 := (ho4.block _ (block_lt HK3.out) (HM3.out.1.notFoot HK3.out (by decide) (by decide))).trans HK3.out; have HW4 : Hid (WIn w4 _ ns bs) := HKP.out w4 (HO3.out.trans ho4 fun b hb => foot_in HM3.out.2.2 hb); have ⟨d0, d1, d2, d3, d4, d5, d6, d7, d8, d9, d10⟩ := op_cells11 k4; clear k4 hf4 ho4 he4 j10) | (go_at_call 18; refine (of_in t n sq 4 ot on pt pn nm ns sp0 sc0 sl bs dp dc dl w4 HSL.out.1 HSL.out.2 HW4.out.seen HW4.out.le HW4.out.data HW4.out.bl).mono ?_; rintro e w5 ⟨p1, c1, p2, c2, rfl, hx5, hb5⟩; have HX5 : Hid (VOwn w5 0 ⟨t, n, sq, ns, p1, c1, bs, p2, c2⟩ ∧ Below w4.heap.size w4 w5 ∧ FMem w5 fb (S.map VC.key ++ [(t, n)]) (seeN sn ns) (H.filter (keepV (seeN sn ns))) (.map (some mb)) sp4 sc4 hv4) := ⟨hx5.base (Nat.zero_le _), hb5, HM4.out.1.below hb5⟩; clear hx5 hb5 d0 d1 d2 d3 d4 d5 d6 d7 d8 d9 d10) | (go_at_call 30; refine (put_new' HX5.out.2.2 t n sq ns p1 p2 c1 c2 sl dl bs HSL.out HX5.out.1 HSB.out (L.HF.staying HH.out.1 _) (Nat.lt_of_le_of_lt (List.length_filter_le _ _) (by have := HH.out.2; omega))).mono ?_; rintro e w6 ⟨rfl, h6⟩; have HB6 := (show Hid _ from h6); clear h6))
      go_ret
      refine ⟨rfl, ?_⟩
      exact add_end HH.out (by rw [HVC.out]; exact HF.out.2) (below_thenH HB.out HW2.out.2) HM3.out.2.1 HM3.out.2.2 HM4.out.2.1 HM4.out.2.2 HX5.out.2.1 (.inr (by rw [HVC.out]; exact ⟨HSB.out, ⟨t, n, sq, ns, p1, c1, bs, p2, c2⟩, rfl, HB6.out⟩))

end Go.Proofs.Yteimjkicinjcgaa.Ck.Y.L
