/-
  put.
-/
import Derived.Test.YteimjkicinjcgaaKLm

namespace Go.Proofs.Yteimjkicinjcgaa.Ck.Y.L
open Go.RowKit Go.Maps Go.Lib

set_option maxRecDepth 8000 in
set_option maxHeartbeats 2000000 in
theorem put_seen {w : World} {fb : Nat} {E : List KP} {sn : List Int} {H : List VG} {mv : Value} {sp : Option Addr} {sc : Nat} {hv : Value} (h : FMem w fb E sn H mv sp sc hv) (x : VG) (hs : seenB x.sq x.n sn = true) :
    Calls Try.prog 30 #[.pointer (some ⟨fb, 0, none⟩), vgv x] w fun e w' => e = .returned (.tuple #[]) ∧ Below w.heap.size w w' := by
  obtain ⟨A, hA⟩ : ∃ A, A = w.alloc (.cells (vgC x) 43) := ⟨_, rfl⟩
  have bA : Below w.heap.size w A := by rw [hA]; exact (below_new w _).out
  have kA : A.heap[w.heap.size]? = some (.cells (vgC x) 43 (0, 0)) := by rw [hA]; exact heap_alloc_new w _
  have c1 := (h.below bA).seenF.call x
  rw [hs] at c1
  have HB : Hid (Below w.heap.size w A) := bA
  obtain ⟨a0, a1, a2, a3, a4⟩ := ver_cells kA
  have HA : Hid (A = w.alloc (.cells (vgC x) 43)) := hA
  rw [hA] at a0 a1 a2 a3 a4
  clear h hs bA kA hA
  obtain ⟨t, n, sq, ns, sp, sc, bs, dp, dc⟩ := x
  simp only [vgv, vgC] at *
  generalize ns.length = nl at *
  generalize bs.length = bl at *
  go_enter Try.func30, Try.ntmps30
  go_wp2_with (go_at_call 53; rw [← HA.out]; refine Calls_new c1 ?_; intro w1 HB1)
  refine bodyPost_ret (results_none rfl _ _ _) rfl ?_
  exact ⟨rfl, below_thenH HB.out HB1.out⟩

set_option maxRecDepth 8000 in
set_option maxHeartbeats 4000000 in
theorem put_new {w : World} {fb : Nat} {E : List KP} {sn : List Int} {H : List VG} {mv : Value} {sp : Option Addr} {sc : Nat} {hv : Value} (h : FMem w fb E sn H mv sp sc hv) (x : VG) (hx : VOwn w 0 x) (hs : seenB x.sq x.n sn = false) (hr : H.Pairwise ltV) (hl : H.length < 900) :
    Calls Try.prog 30 #[.pointer (some ⟨fb, 0, none⟩), vgv x] w fun e w' => e = .returned (.tuple #[]) ∧ ∃ i hv', PlcV H x.t x.n i ∧ FMem w' fb E sn (H.take i ++ x :: H.drop i) mv sp sc hv' ∧ Only (Foot fb mv hv) w w' ∧ (hv'.ownBlock = hv.ownBlock ∨ ∃ g, hv'.ownBlock = some g ∧ w.heap.size ≤ g) := by
  obtain ⟨A, hA⟩ : ∃ A, A = w.alloc (.cells (vgC x) 43) := ⟨_, rfl⟩
  have bA : Below w.heap.size w A := by rw [hA]; exact (below_new w _).out
  have kA : A.heap[w.heap.size]? = some (.cells (vgC x) 43 (0, 0)) := by rw [hA]; exact heap_alloc_new w _
  have c1 := (h.below bA).seenF.call x
  rw [hs] at c1
  have HB : Hid (Below w.heap.size w A) := bA
  obtain ⟨a0, a1, a2, a3, a4⟩ := ver_cells kA
  have HA : Hid (A = w.alloc (.cells (vgC x) 43)) := hA
  have HF : Hid (FMem A fb E sn H mv sp sc hv) := h.below bA
  have HK : Hid (A.heap[w.heap.size]? = some (.cells (vgC x) 43 (0, 0))) := kA
  have HV : Hid (VOwn w 0 x) := hx
  have HR : Hid (H.Pairwise ltV) := hr
  have HL : Hid (H.length < 900) := hl
  obtain ⟨ph, ch, rfl, _⟩ := h.hrow.shape
  rw [hA] at a0 a1 a2 a3 a4
  clear h hs bA kA hA hx hr hl
  simp only [vgv, vgC] at c1 a0 a1 a2 a3 a4
  have HSS : Hid (∀ W, Below A.heap.size A W → Calls Try.prog 54 #[.slice ph H.length ch, idv x.t x.n, cmv] W fun e w' => ∃ (i : Nat) (r : Bool), e = .returned (.tuple #[.int .i64 i, .bool r]) ∧ PlcV H x.t x.n i ∧ Below W.heap.size W w') := fun W hW => search_any 0 _ H x.t x.n W (HF.out.hrow.below hW) (by have := HL.out; omega) HR.out
  go_enter Try.func30, Try.ntmps30
  go_wp2_with (go_at_call 53; rw [← HA.out]; refine Calls_new c1 ?_; intro w1 HB1; clear c1 a0 a1 a2 a3 a4)
  have hF1 := HF.out.below HB1.out
  have cf := cellOf hF1.blk 2
  have k1 : w1.heap[w.heap.size]? = _ := (HB1.out.block _ (block_lt HK.out)).trans HK.out
  obtain ⟨a0, a1, a2, a3, a4⟩ := ver_cells k1
  have CF : w1.cell? ⟨fb, 2, none⟩ = some (.slice ph H.length ch) := cf
  clear hF1 cf k1
  have HS1 : ∀ W W', (W.cell? ⟨w.heap.size, 0, none⟩ = some (.int .i64 x.t) ∧ W.cell? ⟨w.heap.size, 1, none⟩ = some (.int .i64 x.n) ∧ W.cell? ⟨w.heap.size, 2, none⟩ = some (.int .i64 x.sq) ∧ W.cell? ⟨w.heap.size, 3, none⟩ = some (.slice x.sp x.ns.length x.sc) ∧ W.cell? ⟨w.heap.size, 4, none⟩ = some (.slice x.dp x.bs.length x.dc) ∧ W.cell? ⟨fb, 2, none⟩ = some (.slice ph H.length ch) ∧ Hid (Below w1.heap.size w1 W)) → Hid (Below W.heap.size W W') → W'.cell? ⟨w.heap.size, 0, none⟩ = some (.int .i64 x.t) ∧ W'.cell? ⟨w.heap.size, 1, none⟩ = some (.int .i64 x.n) ∧ W'.cell? ⟨w.heap.size, 2, none⟩ = some (.int .i64 x.sq) ∧ W'.cell? ⟨w.heap.size, 3, none⟩ = some (.slice x.sp x.ns.length x.sc) ∧ W'.cell? ⟨w.heap.size, 4, none⟩ = some (.slice x.dp x.bs.length x.dc) ∧ W'.cell? ⟨fb, 2, none⟩ = some (.slice ph H.length ch) ∧ Hid (Below w1.heap.size w1 W') := fun W W' h1 h2 =>
    have hb := below_thenH h1.2.2.2.2.2.2.out h2.out
    ⟨cell_keptH a0 hb, cell_keptH a1 hb, cell_keptH a2 hb, cell_keptH a3 hb, cell_keptH a4 hb, cell_keptH CF hb, hb⟩
  have S11 : w1.drew.cell? ⟨w.heap.size, 0, none⟩ = some (.int .i64 x.t) ∧ w1.drew.cell? ⟨w.heap.size, 1, none⟩ = some (.int .i64 x.n) ∧ w1.drew.cell? ⟨w.heap.size, 2, none⟩ = some (.int .i64 x.sq) ∧ w1.drew.cell? ⟨w.heap.size, 3, none⟩ = some (.slice x.sp x.ns.length x.sc) ∧ w1.drew.cell? ⟨w.heap.size, 4, none⟩ = some (.slice x.dp x.bs.length x.dc) ∧ w1.drew.cell? ⟨fb, 2, none⟩ = some (.slice ph H.length ch) ∧ Hid (Below w1.heap.size w1 w1.drew) := ⟨a0, a1, a2, a3, a4, CF, below_drewH w1⟩
  have S21 : w1.cell? ⟨w.heap.size, 0, none⟩ = some (.int .i64 x.t) ∧ w1.cell? ⟨w.heap.size, 1, none⟩ = some (.int .i64 x.n) ∧ w1.cell? ⟨w.heap.size, 2, none⟩ = some (.int .i64 x.sq) ∧ w1.cell? ⟨w.heap.size, 3, none⟩ = some (.slice x.sp x.ns.length x.sc) ∧ w1.cell? ⟨w.heap.size, 4, none⟩ = some (.slice x.dp x.bs.length x.dc) ∧ w1.cell? ⟨fb, 2, none⟩ = some (.slice ph H.length ch) ∧ Hid (Below w1.heap.size w1 w1) := ⟨a0, a1, a2, a3, a4, CF, Below.refl _ _⟩
  have HF1 : ∀ W, (W.cell? ⟨w.heap.size, 0, none⟩ = some (.int .i64 x.t) ∧ W.cell? ⟨w.heap.size, 1, none⟩ = some (.int .i64 x.n) ∧ W.cell? ⟨w.heap.size, 2, none⟩ = some (.int .i64 x.sq) ∧ W.cell? ⟨w.heap.size, 3, none⟩ = some (.slice x.sp x.ns.length x.sc) ∧ W.cell? ⟨w.heap.size, 4, none⟩ = some (.slice x.dp x.bs.length x.dc) ∧ W.cell? ⟨fb, 2, none⟩ = some (.slice ph H.length ch) ∧ Hid (Below w1.heap.size w1 W)) → Below w1.heap.size w1 W := fun W hW => hW.2.2.2.2.2.2.out
  go_region_held3 (fun W => W.cell? ⟨w.heap.size, 0, none⟩ = some (.int .i64 x.t) ∧ W.cell? ⟨w.heap.size, 1, none⟩ = some (.int .i64 x.n) ∧ W.cell? ⟨w.heap.size, 2, none⟩ = some (.int .i64 x.sq) ∧ W.cell? ⟨w.heap.size, 3, none⟩ = some (.slice x.sp x.ns.length x.sc) ∧ W.cell? ⟨w.heap.size, 4, none⟩ = some (.slice x.dp x.bs.length x.dc) ∧ W.cell? ⟨fb, 2, none⟩ = some (.slice ph H.length ch) ∧ Hid (Below w1.heap.size w1 W))
    (first | exact S11 | exact S21 | assumption | exact HS1 _ _ (by assumption) (by assumption))
    (first | (go_at_call 54; refine (HSS.out _ (below_thenH HB1.out (HF1 _ (by assumption)))).mono ?_; rintro e w2 ⟨i, r, rfl, hpl, hb2⟩; have HPL : Hid (PlcV H x.t x.n i) := hpl; have HB2 : Hid (Below _ _ w2) := hb2; clear hpl hb2))
  have HW2 : Hid (Below w1.heap.size w1 w2) := HF1 _ (by assumption)
  have b2 : Below A.heap.size A w2 := below_thenH HB1.out HW2.out
  have hF2 := HF.out.below b2
  have k2 : w2.heap[w.heap.size]? = _ := (b2.block _ (block_lt HK.out)).trans HK.out
  have HF2 : Hid (FMem w2 fb E sn H mv sp sc (.slice ph H.length ch) ∧ Below A.heap.size A w2) := ⟨hF2, b2⟩
  obtain ⟨e0, e1, e2, e3, e4⟩ := ver_cells k2
  have ef : w2.cell? ⟨fb, 2, none⟩ = some (.slice ph H.length ch) := cellOf hF2.blk 2
  clear hF2 b2 k2 HK
  obtain ⟨B, hB⟩ : ∃ B, B = (w2.alloc (.cells (vgC x) 43)).drew := ⟨_, rfl⟩
  have bB : Below w2.heap.size w2 B := by rw [hB]; exact below_thenH (below_new w2 _).out (below_drewH _)
  have kB : B.heap[w2.heap.size]? = some (.cells (verL x).toArray 43 (0, 0)) := by rw [hB]; exact heap_alloc_new w2 _
  have HBB : Hid (FMem B fb E sn H mv sp sc (.slice ph H.length ch) ∧ Below w2.heap.size w2 B ∧ B.heap[w2.heap.size]? = some (.cells (verL x).toArray 43 (0, 0))) := ⟨HF2.out.1.below bB, bB, kB⟩
  have HBE : Hid (B = (w2.alloc (.cells (vgC x) 43)).drew) := hB
  have HINS : Hid (Calls Try.prog 56 #[.slice ph H.length ch, .int .i64 (i : Nat), .slice (some ⟨w2.heap.size, 0, none⟩) 1 1] B (InsdV 0 (.slice ph H.length ch) (H.take i ++ x :: H.drop i) B)) :=
    insert_anyV 0 i w2.heap.size _ H x B HBB.out.1.hrow HPL.out.le (by have := HL.out; omega) (Nat.zero_le _) kB (fun e => by
      have := HF2.out.1.lt _ (.inr (.inr e))
      omega)
  have HLN : Hid ((H.take i ++ x :: H.drop i).length ≤ 900) := by
    have h1 := HL.out
    have h2 := HPL.out.le
    show _ ≤ _
    simp
    omega
  obtain ⟨M, hM⟩ : ∃ M, M = H.take i ++ x :: H.drop i := ⟨_, rfl⟩
  have HMM : Hid (M = H.take i ++ x :: H.drop i) := hM
  rw [← hM] at HINS HLN
  have l1 : fb < w2.heap.size := block_lt HF2.out.1.blk
  have l2 : w.heap.size < w2.heap.size := cell_lt e0
  clear hB bB kB hM
  go_wp2_with fail
  go_region_with (go_at_call 56; rw [show (w2.alloc (.cells #[.int .i64 x.t, .int .i64 x.n, .int .i64 x.sq, .slice x.sp x.ns.length x.sc, .slice x.dp x.bs.length x.dc] 43)).drew = B from HBE.out.symm]; refine HINS.out.mono ?_; clear HINS; rintro e w4 ⟨v4, rfl, hr4, hg4, ho4⟩; obtain ⟨p4, c4, rfl, _⟩ := hr4.shape; have H4 : Hid (RowV w4 0 (.slice p4 M.length c4) M ∧ B.grownBy w4 (Value.slice ph H.length ch).ownBlock ∧ ((Value.slice p4 M.length c4).ownBlock = (Value.slice ph H.length ch).ownBlock ∨ (Value.slice p4 M.length c4).ownBlock = some B.heap.size)) := ⟨hr4, hg4, ho4⟩; have hO4 : Only (fun b => (Value.slice ph H.length ch).ownBlock = some b) B w4 := ⟨hg4.os, hg4.tape, hg4.output, hg4.size, fun k hk hn => hg4.block k hk (fun e => hn e.symm)⟩; have k4 := (hO4.block fb (block_lt HBB.out.1.blk) HBB.out.1.rowne).trans HBB.out.1.blk; have k5 : w4.cell? ⟨fb, 2, none⟩ = some (.slice ph H.length ch) := cellOf k4 2; have k6 := frozenOf k4 2; have HO4 : Hid (Only (fun b => (Value.slice ph H.length ch).ownBlock = some b) B w4) := hO4; clear hr4 hg4 ho4 hO4 k4)
  all_goals
    have bwB : Below w.heap.size w B := below_thenH HB.out (below_thenH HF2.out.2 HBB.out.2.1)
    have hxw : VOwn w4 0 x := (HV.out.below bwB).kept HO4.out (fun b hb => HBB.out.1.hard b (.inr (.inr hb)))
    have F5 := HBB.out.1.setHeads HO4.out H4.out.1 (fun y hy => by
      rw [HMM.out, List.mem_append, List.mem_cons] at hy
      rcases hy with hy | rfl | hy
      · exact HBB.out.1.headsAfter HO4.out y (List.mem_of_mem_take hy)
      · exact hxw
      · exact HBB.out.1.headsAfter HO4.out y (List.mem_of_mem_drop hy)) HLN.out
    have HFF : Hid (FMem (w4.setCell ⟨fb, 2, none⟩ (.slice p4 M.length c4)) fb E sn M mv sp sc (.slice p4 M.length c4) ∧ Only (Foot fb mv (.slice ph H.length ch)) w (w4.setCell ⟨fb, 2, none⟩ (.slice p4 M.length c4))) := ⟨F5.1, (Below.only bwB _).next F5.2⟩
    have HOB : Hid ((Value.slice p4 M.length c4).ownBlock = (Value.slice ph H.length ch).ownBlock ∨ ∃ g, (Value.slice p4 M.length c4).ownBlock = some g ∧ w.heap.size ≤ g) := by
      rcases H4.out.2.2 with e | e
      · exact .inl e
      · exact .inr ⟨_, e, bwB.size⟩
    clear bwB hxw F5
    go_end0
    refine ⟨rfl, i, _, HPL.out, ?_, HFF.out.2, HOB.out⟩
    rw [← HMM.out]
    exact HFF.out.1

end Go.Proofs.Yteimjkicinjcgaa.Ck.Y.L
