import Derived.Test.YtgpbphjplbhfmaaGreatQQf

namespace Go.Proofs.YtgpbphjplbhfmaaGreat.Ck.Y
open Go.RowKit Go.Maps
def StepPost (base g s : Nat) (T : List OB) (o : OG) (w : World) (e : Ending) (w' : World) : Prop := e = .returned (.tuple #[]) ∧ ∃ T' s', StepT T s o T' s' ∧ TreeY w' base g T' s' ∧ Fy base w w'
theorem TreeY.skipped {w W : World} {base g s : Nat} {T : List OB} (h : TreeY w base g T s) (hb : Below w.heap.size w W) : ∃ p c, W.heap[g]? = some (.cells #[.slice p T.length c, .int .i64 (s : Nat)] 65 (0, 0)) ∧ Hid (TreeY (W.setCell ⟨g, 1, none⟩ (.int .i64 ((s : Int) + 1))) base g T (s + 1) ∧ Fy base w (W.setCell ⟨g, 1, none⟩ (.int .i64 ((s : Int) + 1)))) := by
  obtain ⟨p, c, hc, _⟩ := (h.below hb).view
  have hh := (h.below hb).skip
  rw [show ((s + 1 : Nat) : Int) = (s : Int) + 1 by omega] at hh
  exact ⟨p, c, hc, hh.1, (Fy.of_below hb).next hh.2⟩
theorem TreeY.row {w : World} {base g s : Nat} {T : List OB} (h : TreeY w base g T s) {gl m c : Nat} (hc : w.heap[g]? = some (.cells #[.slice (some ⟨gl, 0, none⟩) m c, .int .i64 (s : Nat)] 65 (0, 0))) : ∃ cur, w.heap[gl]? = some (.cells cur 69 (0, 0)) := by
  obtain ⟨v, h1, h2⟩ := h.cell
  rw [hc] at h1
  simp only [Option.some.injEq, Obj.cells.injEq] at h1
  have ev := h1.1
  simp at ev
  subst ev
  rcases h2.2 with ⟨e, _⟩ | ⟨g', cap, cur, hv, hb, hblk, _⟩
  · cases e
  · cases hv
    exact ⟨cur, hblk⟩
set_option maxRecDepth 8000 in
set_option maxHeartbeats 4000000 in
theorem ystep_mk1 (base gt s : Nat) (T : List OB) (t n sq ot on pt pn : Int) (nm : ByteArray) (dp : Option Addr) (dl dc : Nat) (sp : Option Addr) (sl sc : Nat) (w : World) (h : TreeY w base gt T s) (hl : T.length < 999999) (hs : s < 1000000) :
    Calls Tryz.prog 63 #[.pointer (some ⟨gt, 0, none⟩), opgv ⟨t, n, sq, 1, ot, on, pt, pn, nm, dp, dl, dc, sp, sl, sc⟩] w (StepPost base gt s T ⟨t, n, sq, 1, ot, on, pt, pn, nm, dp, dl, dc, sp, sl, sc⟩ w) := by
  obtain ⟨w1, hw1⟩ : ∃ w1, w1 = w.alloc (.cells #[.int .i64 t, .int .i64 n, .int .i64 sq, .int .i64 1, .int .i64 ot, .int .i64 on, .int .i64 pt, .int .i64 pn, .string nm, .slice dp dl dc, .slice sp sl sc] 34) := ⟨_, rfl⟩
  have hB1 : Below w.heap.size w w1 := by rw [hw1]; exact (below_new w _).out
  have hx1 : w1.heap[w.heap.size]? = some (.cells #[.int .i64 t, .int .i64 n, .int .i64 sq, .int .i64 1, .int .i64 ot, .int .i64 on, .int .i64 pt, .int .i64 pn, .string nm, .slice dp dl dc, .slice sp sl sc] 34 (0, 0)) := by rw [hw1]; exact heap_alloc_new w _
  have HT : Hid (TreeY w1 base gt T s ∧ w1.heap[w.heap.size]? = some (.cells #[.int .i64 t, .int .i64 n, .int .i64 sq, .int .i64 1, .int .i64 ot, .int .i64 on, .int .i64 pt, .int .i64 pn, .string nm, .slice dp dl dc, .slice sp sl sc] 34 (0, 0)) ∧ Below w.heap.size w w1) := ⟨h.below hB1, hx1, hB1⟩
  have H0 : Hid (TreeY w base gt T s) := h
  have HW : Hid (w1 = w.alloc (.cells #[.int .i64 t, .int .i64 n, .int .i64 sq, .int .i64 1, .int .i64 ot, .int .i64 on, .int .i64 pt, .int .i64 pn, .string nm, .slice dp dl dc, .slice sp sl sc] 34)) := hw1
  have sI : (s : Int) < 1000000 := by omega
  obtain ⟨bx, hbx⟩ : ∃ bx, w.heap.size = bx := ⟨_, rfl⟩
  have HBX : Hid (w.heap.size = bx) := hbx
  rw [hbx] at hx1
  have HX : Hid (w1.heap[bx]? = some (.cells #[.int .i64 t, .int .i64 n, .int .i64 sq, .int .i64 1, .int .i64 ot, .int .i64 on, .int .i64 pt, .int .i64 pn, .string nm, .slice dp dl dc, .slice sp sl sc] 34 (0, 0))) := hx1
  clear hw1 hB1 hx1 h hbx
  go_enter Tryz.func63, Tryz.ntmps63
  go_wp2_with fail
  rw [← HW.out, HBX.out]
  go_at_call 65
  refine (ytrash_any pt pn w1).mono ?_
  rintro e w2 ⟨rfl, hB⟩
  have Hw2 : Hid (Below w1.heap.size w1 w2) := hB
  clear hB
  cases ht : trashB pt pn
  case true =>
    obtain ⟨p, c, hc, HS⟩ := H0.out.skipped (W := w2) (HT.out.2.2.trans (Hw2.out.mono HT.out.2.2.size))
    have c1 : w2.cell? ⟨gt, 1, none⟩ = some (.int .i64 (s : Nat)) := cellOf hc 1
    have f1 := frozenOf hc 1
    clear hc
    go_wp2_with fail
    go_end0
    exact ⟨rfl, _, _, .made (.inl rfl) (.inl ht), HS.out.1, HS.out.2⟩
  case false =>
    have hx := (Hw2.out.block _ (block_lt HX.out)).trans HX.out
    have x4 : w2.cell? ⟨bx, 4, none⟩ = some (.int .i64 ot) := cellOf hx 4
    have x5 : w2.cell? ⟨bx, 5, none⟩ = some (.int .i64 on) := cellOf hx 5
    have x6 : w2.cell? ⟨bx, 6, none⟩ = some (.int .i64 pt) := cellOf hx 6
    have x7 : w2.cell? ⟨bx, 7, none⟩ = some (.int .i64 pn) := cellOf hx 7
    clear hx
    go_wp2_with fail
    go_at_call 31
    refine (ydir_any base gt s T pt pn w2 (HT.out.1.below Hw2.out)).mono ?_
    rintro e w3 ⟨rfl, hB⟩
    have Hw3 : Hid (Below w1.heap.size w1 w3) := Hw2.out.trans (hB.mono Hw2.out.size)
    clear hB
    clear x4 x5 x6 x7
    cases hd : dirT T pt pn
    case false =>
      obtain ⟨p, c, hc, HS⟩ := H0.out.skipped (W := w3) (HT.out.2.2.trans (Hw3.out.mono HT.out.2.2.size))
      have c1 : w3.cell? ⟨gt, 1, none⟩ = some (.int .i64 (s : Nat)) := cellOf hc 1
      have f1 := frozenOf hc 1
      clear hc
      go_wp2_with fail
      go_end0
      exact ⟨rfl, _, _, .made (.inl rfl) (.inr (.inl hd)), HS.out.1, HS.out.2⟩
    case true =>
      have hx := (Hw3.out.block _ (block_lt HX.out)).trans HX.out
      have x4 : w3.cell? ⟨bx, 4, none⟩ = some (.int .i64 ot) := cellOf hx 4
      have x5 : w3.cell? ⟨bx, 5, none⟩ = some (.int .i64 on) := cellOf hx 5
      have x6 : w3.cell? ⟨bx, 6, none⟩ = some (.int .i64 pt) := cellOf hx 6
      have x7 : w3.cell? ⟨bx, 7, none⟩ = some (.int .i64 pn) := cellOf hx 7
      clear hx
      go_wp2_with fail
      go_at_call 30
      refine (yfind_any base gt s T ot on w3 (HT.out.1.below Hw3.out)).mono ?_
      rintro e w4 ⟨rfl, hB⟩
      have Hw4 : Hid (Below w1.heap.size w1 w4) := Hw3.out.trans (hB.mono Hw3.out.size)
      clear hB
      clear x4 x5 x6 x7
      cases hf : findT T ot on with
      | some k =>
        rw [fndZ_some hf]
        have HF : Hid (findT T ot on = some k) := hf
        clear hf
        have kI : ¬ ((k : Int) < 0) := by omega
        generalize (k : Int) = z at kI ⊢
        have kD : decide (z < 0) = false := by simpa using kI
        obtain ⟨p, c, hc, HS⟩ := H0.out.skipped (W := w4) (HT.out.2.2.trans (Hw4.out.mono HT.out.2.2.size))
        have c1 : w4.cell? ⟨gt, 1, none⟩ = some (.int .i64 (s : Nat)) := cellOf hc 1
        have f1 := frozenOf hc 1
        clear hc
        go_wp2_with fail
        go_end0
        exact ⟨rfl, _, _, .made (.inl rfl) (.inr (.inr ⟨k, HF.out⟩)), HS.out.1, HS.out.2⟩
      | none =>
        rw [fndZ_none hf]
        obtain ⟨p, c, hc, _⟩ := (HT.out.1.below Hw4.out).view
        obtain ⟨m, hm⟩ : ∃ m, T.length = m := ⟨_, rfl⟩
        rw [hm] at hc
        have hx := (Hw4.out.block _ (block_lt HX.out)).trans HX.out
        obtain ⟨W1, hW1⟩ : ∃ W1, W1 = w4.drew.alloc (.cells #[.int .i64 ot, .int .i64 on, .int .i64 pt, .int .i64 pn, .string nm, .bool true] 69) := ⟨_, rfl⟩
        obtain ⟨p1, k1, W2, hrun, hc2, hkp, hT3, hF3⟩ := (HT.out.1.below Hw4.out).more ⟨ot, on, pt, pn, nm, true⟩ hl hc hW1
        obtain ⟨W3, hW3⟩ : ∃ W3, W3 = W2.setCell ⟨gt, 0, none⟩ (.slice p1 (m + 1) k1) := ⟨_, rfl⟩
        rw [← hW3] at hT3 hF3
        have H3 : Hid (TreeY W3 base gt (T ++ [⟨ot, on, pt, pn, nm, true⟩]) s ∧ Fy base w W3) := ⟨hT3, (Fy.of_below (HT.out.2.2.trans (Hw4.out.mono HT.out.2.2.size))).next hF3⟩
        have hbox : ∀ W, (W = W3 ∨ W = W2 ∨ W = W1 ∨ W = w4.drew) → W.heap[bx]? = some (.cells #[.int .i64 t, .int .i64 n, .int .i64 sq, .int .i64 1, .int .i64 ot, .int .i64 on, .int .i64 pt, .int .i64 pn, .string nm, .slice dp dl dc, .slice sp sl sc] 34 (0, 0)) := by
          rintro W (rfl | rfl | rfl | rfl)
          · exact hF3.keep hx (by decide) (by decide)
          · exact (hkp _ _ _ _ hx (by decide)).2
          · exact (hkp _ _ _ _ hx (by decide)).1
          · exact hx
        have c0 : w4.drew.cell? ⟨gt, 0, none⟩ = some (.slice p m c) := cellOf hc 0
        have c1 : W1.cell? ⟨gt, 0, none⟩ = some (.slice p m c) := cellOf (hkp _ _ _ _ hc (by decide)).1 0
        have c2 : W2.cell? ⟨gt, 0, none⟩ = some (.slice p m c) := cellOf hc2 0
        have f2 := frozenOf hc2 0
        have hmix : Tryz.prog.follows .mixedOrders = true := by kernel_rfl
        have HSt : Hid (StepT T s ⟨t, n, sq, 1, ot, on, pt, pn, nm, dp, dl, dc, sp, sl, sc⟩ (T ++ [⟨ot, on, pt, pn, nm, true⟩]) s) := .make (.inl rfl) ht hd hf
        clear hc hx hkp hT3 hF3 hc2 hm hl
        go_wp2_with fail
        obtain ⟨LX1, hLX1⟩ : ∃ L : Unit → List (Option Tmp × Value), L = (fun _ : Unit => ([(some 27, .pointer (some ⟨gt, 0, none⟩)), (some 28, .pointer (some ⟨gt, 0, none⟩)), (some 29, .pointer (some ⟨gt, 0, none⟩)), (some 30, .pointer (some ⟨gt, 0, none⟩)), (some 31, .slice p m c), (some 32, .pointer (some ⟨bx, 4, none⟩)), (some 33, .agg #[.int .i64 ot, .int .i64 on]), (some 34, .pointer (some ⟨bx, 6, none⟩)), (some 35, .agg #[.int .i64 pt, .int .i64 pn]), (some 36, .pointer (some ⟨bx, 8, none⟩)), (some 37, .string nm), (some 38, .pointer (some ⟨bx, 3, none⟩)), (some 39, .int .i64 1), (some 40, .bool true), (some 41, .agg #[.int .i64 ot, .int .i64 on, .int .i64 pt, .int .i64 pn, .string nm, .bool true]), (some 42, .slice (some ⟨w4.heap.size, 0, none⟩) 1 1), (some 43, .slice p1 (m + 1) k1), (some 44, .pointer (some ⟨gt, 0, none⟩)), (some 45, .pointer (some ⟨gt, 0, none⟩)), (none, undef)] : List (Option Tmp × Value))) := ⟨_, rfl⟩
        have vv0 : ∀ g, vals (LX1 g) 0 = .pointer (some ⟨gt, 0, none⟩) := fun g => by rw [hLX1]; rfl
        have vv1 : ∀ g, vals (LX1 g) 1 = .pointer (some ⟨gt, 0, none⟩) := fun g => by rw [hLX1]; rfl
        have vv2 : ∀ g, vals (LX1 g) 2 = .pointer (some ⟨gt, 0, none⟩) := fun g => by rw [hLX1]; rfl
        have vv3 : ∀ g, vals (LX1 g) 3 = .pointer (some ⟨gt, 0, none⟩) := fun g => by rw [hLX1]; rfl
        have vv4 : ∀ g, vals (LX1 g) 4 = .slice p m c := fun g => by rw [hLX1]; rfl
        have vv5 : ∀ g, vals (LX1 g) 5 = .pointer (some ⟨bx, 4, none⟩) := fun g => by rw [hLX1]; rfl
        have vv6 : ∀ g, vals (LX1 g) 6 = .agg #[.int .i64 ot, .int .i64 on] := fun g => by rw [hLX1]; rfl
        have vv7 : ∀ g, vals (LX1 g) 7 = .pointer (some ⟨bx, 6, none⟩) := fun g => by rw [hLX1]; rfl
        have vv8 : ∀ g, vals (LX1 g) 8 = .agg #[.int .i64 pt, .int .i64 pn] := fun g => by rw [hLX1]; rfl
        have vv9 : ∀ g, vals (LX1 g) 9 = .pointer (some ⟨bx, 8, none⟩) := fun g => by rw [hLX1]; rfl
        have vv10 : ∀ g, vals (LX1 g) 10 = .string nm := fun g => by rw [hLX1]; rfl
        have vv11 : ∀ g, vals (LX1 g) 11 = .pointer (some ⟨bx, 3, none⟩) := fun g => by rw [hLX1]; rfl
        have vv12 : ∀ g, vals (LX1 g) 12 = .int .i64 1 := fun g => by rw [hLX1]; rfl
        have vv13 : ∀ g, vals (LX1 g) 13 = .bool true := fun g => by rw [hLX1]; rfl
        have vv14 : ∀ g, vals (LX1 g) 14 = .agg #[.int .i64 ot, .int .i64 on, .int .i64 pt, .int .i64 pn, .string nm, .bool true] := fun g => by rw [hLX1]; rfl
        have vv15 : ∀ g, vals (LX1 g) 15 = .slice (some ⟨w4.heap.size, 0, none⟩) 1 1 := fun g => by rw [hLX1]; rfl
        have vv16 : ∀ g, vals (LX1 g) 16 = .slice p1 (m + 1) k1 := fun g => by rw [hLX1]; rfl
        have vv17 : ∀ g, vals (LX1 g) 17 = .pointer (some ⟨gt, 0, none⟩) := fun g => by rw [hLX1]; rfl
        have vv18 : ∀ g, vals (LX1 g) 18 = .pointer (some ⟨gt, 0, none⟩) := fun g => by rw [hLX1]; rfl
        have vv19 : ∀ g, vals (LX1 g) 19 = undef := fun g => by rw [hLX1]; rfl
        refine region_laidg hmix (by kernel_rfl) 102 rfl (by kernel_rfl) () LX1 (fun g => by rw [hLX1]; rfl) (fun (_ : Unit) b W => W = if b 19 = true then W3 else if b 16 = true then W2 else if b 15 = true then W1 else w4.drew) rfl ?_ ?_
        · intro g b W io o a' hS hcl ho hb hd ev kp yl
          match io with
          | 0 =>
            simp only [qq] at ho; subst ho; have e0 : a'.tmps[0]?.getD undef = .pointer (some ⟨gt, 0, none⟩) := kp 0 (none_till (by kernel_rfl))
            refine doesg_value rfl nofun (v := .pointer (some ⟨gt, 0, none⟩)) (w' := W) ?_ ⟨g, fun _ _ => rfl, (vv0 g).symm, ?_⟩
            · simp [execOp, go_sem, e0]
            · simpa [did] using hS
          | 1 =>
            simp only [qq] at ho; subst ho; have e0 : a'.tmps[0]?.getD undef = .pointer (some ⟨gt, 0, none⟩) := kp 0 (none_till (by kernel_rfl))
            refine doesg_value rfl nofun (v := .pointer (some ⟨gt, 0, none⟩)) (w' := W) ?_ ⟨g, fun _ _ => rfl, (vv1 g).symm, ?_⟩
            · simp [execOp, go_sem, e0]
            · simpa [did] using hS
          | 2 =>
            simp only [qq] at ho; subst ho; have e28 := eD ev hd 1 28 (vv1 g)
            refine doesg_value rfl nofun (v := .pointer (some ⟨gt, 0, none⟩)) (w' := W) ?_ ⟨g, fun _ _ => rfl, (vv2 g).symm, ?_⟩
            · simp [execOp, go_sem, e28]
            · simpa [did] using hS
          | 3 =>
            simp only [qq] at ho; subst ho; have e29 := eD ev hd 2 29 (vv2 g)
            refine doesg_value rfl nofun (v := .pointer (some ⟨gt, 0, none⟩)) (w' := W) ?_ ⟨g, fun _ _ => rfl, (vv3 g).symm, ?_⟩
            · simp [execOp, go_sem, e29]
            · simpa [did] using hS
          | 4 =>
            simp only [qq] at ho; subst ho; have e30 := eD ev hd 3 30 (vv3 g); have h97 : b 19 = true → b 16 = true := fun h => hcl 19 _ rfl h ⟨16, .data⟩ (by simp) rfl
            have h7 : b 16 = false := by cases h : b 16; rfl; rw [hcl 16 _ rfl h ⟨4, .data⟩ (by simp) rfl] at hb; cases hb
            have h9 : b 19 = false := by cases h : b 19; rfl; rw [h97 h] at h7; cases h7
            rw [h9, h7] at hS; have hl : W.cell? ⟨gt, 0, none⟩ = some (.slice p m c) := by (rw [hS]; cases b 15; exact c0; exact c1)
            refine doesg_value rfl nofun (v := .slice p m c) (w' := W) ?_ ⟨g, fun _ _ => rfl, (vv4 g).symm, ?_⟩
            · simp [execOp, go_sem, e30, hl]
            · simpa [did, h9, h7] using hS
          | 5 =>
            simp only [qq] at ho; subst ho; have e3 : a'.tmps[3]?.getD undef = .pointer (some ⟨bx, 0, none⟩) := kp 3 (none_till (by kernel_rfl))
            refine doesg_value rfl nofun (v := .pointer (some ⟨bx, 4, none⟩)) (w' := W) ?_ ⟨g, fun _ _ => rfl, (vv5 g).symm, ?_⟩
            · simp [execOp, go_sem, e3]
            · simpa [did] using hS
          | 6 =>
            simp only [qq] at ho; subst ho; have e32 := eD ev hd 5 32 (vv5 g); have hW4 : W = W3 ∨ W = W2 ∨ W = W1 ∨ W = w4.drew := by (rw [hS]; cases b 19 <;> cases b 16 <;> cases b 15 <;> simp)
            have hx := hbox W hW4; have x4 : W.cell? ⟨bx, 4, none⟩ = some (.int .i64 ot) := cellOf hx 4; have x5 : W.cell? ⟨bx, 5, none⟩ = some (.int .i64 on) := cellOf hx 5
            refine doesg_value rfl nofun (v := .agg #[.int .i64 ot, .int .i64 on]) (w' := W) ?_ ⟨g, fun _ _ => rfl, (vv6 g).symm, ?_⟩
            · simp [execOp, go_sem, e32, x4, x5]
            · simpa [did] using hS
          | 7 =>
            simp only [qq] at ho; subst ho; have e3 : a'.tmps[3]?.getD undef = .pointer (some ⟨bx, 0, none⟩) := kp 3 (none_till (by kernel_rfl))
            refine doesg_value rfl nofun (v := .pointer (some ⟨bx, 6, none⟩)) (w' := W) ?_ ⟨g, fun _ _ => rfl, (vv7 g).symm, ?_⟩
            · simp [execOp, go_sem, e3]
            · simpa [did] using hS
          | 8 =>
            simp only [qq] at ho; subst ho; have e34 := eD ev hd 7 34 (vv7 g); have hW4 : W = W3 ∨ W = W2 ∨ W = W1 ∨ W = w4.drew := by (rw [hS]; cases b 19 <;> cases b 16 <;> cases b 15 <;> simp)
            have hx := hbox W hW4; have x6 : W.cell? ⟨bx, 6, none⟩ = some (.int .i64 pt) := cellOf hx 6; have x7 : W.cell? ⟨bx, 7, none⟩ = some (.int .i64 pn) := cellOf hx 7
            refine doesg_value rfl nofun (v := .agg #[.int .i64 pt, .int .i64 pn]) (w' := W) ?_ ⟨g, fun _ _ => rfl, (vv8 g).symm, ?_⟩
            · simp [execOp, go_sem, e34, x6, x7]
            · simpa [did] using hS
          | 9 =>
            simp only [qq] at ho; subst ho; have e3 : a'.tmps[3]?.getD undef = .pointer (some ⟨bx, 0, none⟩) := kp 3 (none_till (by kernel_rfl))
            refine doesg_value rfl nofun (v := .pointer (some ⟨bx, 8, none⟩)) (w' := W) ?_ ⟨g, fun _ _ => rfl, (vv9 g).symm, ?_⟩
            · simp [execOp, go_sem, e3]
            · simpa [did] using hS
          | 10 =>
            simp only [qq] at ho; subst ho; have e36 := eD ev hd 9 36 (vv9 g); have hW4 : W = W3 ∨ W = W2 ∨ W = W1 ∨ W = w4.drew := by (rw [hS]; cases b 19 <;> cases b 16 <;> cases b 15 <;> simp)
            have hx := hbox W hW4; have x8 : W.cell? ⟨bx, 8, none⟩ = some (.string nm) := cellOf hx 8
            refine doesg_value rfl nofun (v := .string nm) (w' := W) ?_ ⟨g, fun _ _ => rfl, (vv10 g).symm, ?_⟩
            · simp [execOp, go_sem, e36, x8]
            · simpa [did] using hS
          | 11 =>
            simp only [qq] at ho; subst ho; have e3 : a'.tmps[3]?.getD undef = .pointer (some ⟨bx, 0, none⟩) := kp 3 (none_till (by kernel_rfl))
            refine doesg_value rfl nofun (v := .pointer (some ⟨bx, 3, none⟩)) (w' := W) ?_ ⟨g, fun _ _ => rfl, (vv11 g).symm, ?_⟩
            · simp [execOp, go_sem, e3]
            · simpa [did] using hS
          | 12 =>
            simp only [qq] at ho; subst ho; have e38 := eD ev hd 11 38 (vv11 g); have hW4 : W = W3 ∨ W = W2 ∨ W = W1 ∨ W = w4.drew := by (rw [hS]; cases b 19 <;> cases b 16 <;> cases b 15 <;> simp)
            have hx := hbox W hW4; have x3 : W.cell? ⟨bx, 3, none⟩ = some (.int .i64 1) := cellOf hx 3
            refine doesg_value rfl nofun (v := .int .i64 1) (w' := W) ?_ ⟨g, fun _ _ => rfl, (vv12 g).symm, ?_⟩
            · simp [execOp, go_sem, e38, x3]
            · simpa [did] using hS
          | 13 =>
            simp only [qq] at ho; subst ho; have e39 := eD ev hd 12 39 (vv12 g)
            refine doesg_value rfl nofun (v := .bool true) (w' := W) ?_ ⟨g, fun _ _ => rfl, (vv13 g).symm, ?_⟩
            · simp [execOp, go_sem, e39]
            · simpa [did] using hS
          | 14 =>
            simp only [qq] at ho; subst ho; have e33 := eD ev hd 6 33 (vv6 g); have e35 := eD ev hd 8 35 (vv8 g); have e37 := eD ev hd 10 37 (vv10 g); have e40 := eD ev hd 13 40 (vv13 g)
            refine doesg_value rfl nofun (v := .agg #[.int .i64 ot, .int .i64 on, .int .i64 pt, .int .i64 pn, .string nm, .bool true]) (w' := W) ?_ ⟨g, fun _ _ => rfl, (vv14 g).symm, ?_⟩
            · simp [execOp, go_sem, e33, e35, e37, e40]
            · simpa [did] using hS
          | 15 =>
            simp only [qq] at ho; subst ho; have e41 := eD ev hd 14 41 (vv14 g); have h97 : b 19 = true → b 16 = true := fun h => hcl 19 _ rfl h ⟨16, .data⟩ (by simp) rfl
            have h7 : b 16 = false := by cases h : b 16; rfl; rw [hcl 16 _ rfl h ⟨15, .data⟩ (by simp) rfl] at hb; cases hb
            have h9 : b 19 = false := by cases h : b 19; rfl; rw [h97 h] at h7; cases h7
            rw [h9, h7, hb] at hS; have hW : W = w4.drew := hS; subst hW
            refine doesg_value rfl nofun (v := .slice (some ⟨w4.heap.size, 0, none⟩) 1 1) (w' := W1) ?_ ⟨g, fun _ _ => rfl, (vv15 g).symm, ?_⟩
            · simp [execOp, go_sem, e41, hW1]
            · simp [did, h9, h7]
          | 16 =>
            simp only [qq] at ho; subst ho; have p15 := hD hd 15; have e31 := eD ev hd 4 31 (vv4 g); have e42 := (ev 15 42 rfl p15).trans (vv15 g); have h97 : b 19 = true → b 16 = true := fun h => hcl 19 _ rfl h ⟨16, .data⟩ (by simp) rfl
            have h9 : b 19 = false := by cases h : b 19; rfl; rw [h97 h] at hb; cases hb
            rw [h9, hb, p15] at hS; have hW : W = W1 := hS; subst hW; have q7 : a'.eval (.tmp 31) = .slice p m c := by simp [go_sem, e31]
            have q10 : a'.eval (.tmp 42) = .slice (some ⟨w4.heap.size, 0, none⟩) 1 1 := by simp [go_sem, e42]
            refine doesg_value rfl nofun (v := .slice p1 (m + 1) k1) (w' := W2) ?_ ⟨g, fun _ _ => rfl, (vv16 g).symm, ?_⟩
            · simp only [execOp, resolve, invoke, builtin, Sem.run_bind, Sem.run_pure, Result.andThen_ok, List.map_toArray, List.map_cons, List.map_nil, q7, q10, hrun]
            · simp [did, h9]
          | 17 =>
            simp only [qq] at ho; subst ho; have e27 := eD ev hd 0 27 (vv0 g)
            refine doesg_value rfl nofun (v := .pointer (some ⟨gt, 0, none⟩)) (w' := W) ?_ ⟨g, fun _ _ => rfl, (vv17 g).symm, ?_⟩
            · simp [execOp, go_sem, e27]
            · simpa [did] using hS
          | 18 =>
            simp only [qq] at ho; subst ho; have e44 := eD ev hd 17 44 (vv17 g)
            refine doesg_value rfl nofun (v := .pointer (some ⟨gt, 0, none⟩)) (w' := W) ?_ ⟨g, fun _ _ => rfl, (vv18 g).symm, ?_⟩
            · simp [execOp, go_sem, e44]
            · simpa [did] using hS
          | 19 =>
            simp only [qq] at ho; subst ho; have p16 := hD hd 16; have e45 := eD ev hd 18 45 (vv18 g); have e43 := (ev 16 43 rfl p16).trans (vv16 g); rw [hb, p16] at hS; have hW : W = W2 := hS; subst hW
            refine doesg_skip rfl nofun (w' := W3) ?_ ⟨g, fun _ _ => rfl, (vv19 g).symm, ?_⟩
            · simp [execOp, go_sem, e45, e43, c2, f2, hW3]
            · exact by simp [did]
          | k + 20 => simp at ho
        · intro _ b W hS hall
          subst hLX1
          rw [hall 19 (by decide)] at hS
          have hW : W = W3 := hS
          clear hS
          subst hW
          clear hW3 hall hrun c0 c1 c2 f2 hW1 hbox
          go_wp2_with fail
          go_end0
          exact ⟨rfl, _, _, HSt.out, H3.out.1, H3.out.2⟩
set_option maxRecDepth 8000 in
set_option maxHeartbeats 4000000 in
theorem ystep_mk2 (base gt s : Nat) (T : List OB) (t n sq ot on pt pn : Int) (nm : ByteArray) (dp : Option Addr) (dl dc : Nat) (sp : Option Addr) (sl sc : Nat) (w : World) (h : TreeY w base gt T s) (hl : T.length < 999999) (hs : s < 1000000) :
    Calls Tryz.prog 63 #[.pointer (some ⟨gt, 0, none⟩), opgv ⟨t, n, sq, 2, ot, on, pt, pn, nm, dp, dl, dc, sp, sl, sc⟩] w (StepPost base gt s T ⟨t, n, sq, 2, ot, on, pt, pn, nm, dp, dl, dc, sp, sl, sc⟩ w) := by
  obtain ⟨w1, hw1⟩ : ∃ w1, w1 = w.alloc (.cells #[.int .i64 t, .int .i64 n, .int .i64 sq, .int .i64 2, .int .i64 ot, .int .i64 on, .int .i64 pt, .int .i64 pn, .string nm, .slice dp dl dc, .slice sp sl sc] 34) := ⟨_, rfl⟩
  have hB1 : Below w.heap.size w w1 := by rw [hw1]; exact (below_new w _).out
  have hx1 : w1.heap[w.heap.size]? = some (.cells #[.int .i64 t, .int .i64 n, .int .i64 sq, .int .i64 2, .int .i64 ot, .int .i64 on, .int .i64 pt, .int .i64 pn, .string nm, .slice dp dl dc, .slice sp sl sc] 34 (0, 0)) := by rw [hw1]; exact heap_alloc_new w _
  have HT : Hid (TreeY w1 base gt T s ∧ w1.heap[w.heap.size]? = some (.cells #[.int .i64 t, .int .i64 n, .int .i64 sq, .int .i64 2, .int .i64 ot, .int .i64 on, .int .i64 pt, .int .i64 pn, .string nm, .slice dp dl dc, .slice sp sl sc] 34 (0, 0)) ∧ Below w.heap.size w w1) := ⟨h.below hB1, hx1, hB1⟩
  have H0 : Hid (TreeY w base gt T s) := h
  have HW : Hid (w1 = w.alloc (.cells #[.int .i64 t, .int .i64 n, .int .i64 sq, .int .i64 2, .int .i64 ot, .int .i64 on, .int .i64 pt, .int .i64 pn, .string nm, .slice dp dl dc, .slice sp sl sc] 34)) := hw1
  have sI : (s : Int) < 1000000 := by omega
  obtain ⟨bx, hbx⟩ : ∃ bx, w.heap.size = bx := ⟨_, rfl⟩
  have HBX : Hid (w.heap.size = bx) := hbx
  rw [hbx] at hx1
  have HX : Hid (w1.heap[bx]? = some (.cells #[.int .i64 t, .int .i64 n, .int .i64 sq, .int .i64 2, .int .i64 ot, .int .i64 on, .int .i64 pt, .int .i64 pn, .string nm, .slice dp dl dc, .slice sp sl sc] 34 (0, 0))) := hx1
  clear hw1 hB1 hx1 h hbx
  go_enter Tryz.func63, Tryz.ntmps63
  go_wp2_with fail
  rw [← HW.out, HBX.out]
  go_at_call 65
  refine (ytrash_any pt pn w1).mono ?_
  rintro e w2 ⟨rfl, hB⟩
  have Hw2 : Hid (Below w1.heap.size w1 w2) := hB
  clear hB
  cases ht : trashB pt pn
  case true =>
    obtain ⟨p, c, hc, HS⟩ := H0.out.skipped (W := w2) (HT.out.2.2.trans (Hw2.out.mono HT.out.2.2.size))
    have c1 : w2.cell? ⟨gt, 1, none⟩ = some (.int .i64 (s : Nat)) := cellOf hc 1
    have f1 := frozenOf hc 1
    clear hc
    go_wp2_with fail
    go_end0
    exact ⟨rfl, _, _, .made (.inr rfl) (.inl ht), HS.out.1, HS.out.2⟩
  case false =>
    have hx := (Hw2.out.block _ (block_lt HX.out)).trans HX.out
    have x4 : w2.cell? ⟨bx, 4, none⟩ = some (.int .i64 ot) := cellOf hx 4
    have x5 : w2.cell? ⟨bx, 5, none⟩ = some (.int .i64 on) := cellOf hx 5
    have x6 : w2.cell? ⟨bx, 6, none⟩ = some (.int .i64 pt) := cellOf hx 6
    have x7 : w2.cell? ⟨bx, 7, none⟩ = some (.int .i64 pn) := cellOf hx 7
    clear hx
    go_wp2_with fail
    go_at_call 31
    refine (ydir_any base gt s T pt pn w2 (HT.out.1.below Hw2.out)).mono ?_
    rintro e w3 ⟨rfl, hB⟩
    have Hw3 : Hid (Below w1.heap.size w1 w3) := Hw2.out.trans (hB.mono Hw2.out.size)
    clear hB
    clear x4 x5 x6 x7
    cases hd : dirT T pt pn
    case false =>
      obtain ⟨p, c, hc, HS⟩ := H0.out.skipped (W := w3) (HT.out.2.2.trans (Hw3.out.mono HT.out.2.2.size))
      have c1 : w3.cell? ⟨gt, 1, none⟩ = some (.int .i64 (s : Nat)) := cellOf hc 1
      have f1 := frozenOf hc 1
      clear hc
      go_wp2_with fail
      go_end0
      exact ⟨rfl, _, _, .made (.inr rfl) (.inr (.inl hd)), HS.out.1, HS.out.2⟩
    case true =>
      have hx := (Hw3.out.block _ (block_lt HX.out)).trans HX.out
      have x4 : w3.cell? ⟨bx, 4, none⟩ = some (.int .i64 ot) := cellOf hx 4
      have x5 : w3.cell? ⟨bx, 5, none⟩ = some (.int .i64 on) := cellOf hx 5
      have x6 : w3.cell? ⟨bx, 6, none⟩ = some (.int .i64 pt) := cellOf hx 6
      have x7 : w3.cell? ⟨bx, 7, none⟩ = some (.int .i64 pn) := cellOf hx 7
      clear hx
      go_wp2_with fail
      go_at_call 30
      refine (yfind_any base gt s T ot on w3 (HT.out.1.below Hw3.out)).mono ?_
      rintro e w4 ⟨rfl, hB⟩
      have Hw4 : Hid (Below w1.heap.size w1 w4) := Hw3.out.trans (hB.mono Hw3.out.size)
      clear hB
      clear x4 x5 x6 x7
      cases hf : findT T ot on with
      | some k =>
        rw [fndZ_some hf]
        have HF : Hid (findT T ot on = some k) := hf
        clear hf
        have kI : ¬ ((k : Int) < 0) := by omega
        generalize (k : Int) = z at kI ⊢
        have kD : decide (z < 0) = false := by simpa using kI
        obtain ⟨p, c, hc, HS⟩ := H0.out.skipped (W := w4) (HT.out.2.2.trans (Hw4.out.mono HT.out.2.2.size))
        have c1 : w4.cell? ⟨gt, 1, none⟩ = some (.int .i64 (s : Nat)) := cellOf hc 1
        have f1 := frozenOf hc 1
        clear hc
        go_wp2_with fail
        go_end0
        exact ⟨rfl, _, _, .made (.inr rfl) (.inr (.inr ⟨k, HF.out⟩)), HS.out.1, HS.out.2⟩
      | none =>
        rw [fndZ_none hf]
        obtain ⟨p, c, hc, _⟩ := (HT.out.1.below Hw4.out).view
        obtain ⟨m, hm⟩ : ∃ m, T.length = m := ⟨_, rfl⟩
        rw [hm] at hc
        have hx := (Hw4.out.block _ (block_lt HX.out)).trans HX.out
        obtain ⟨W1, hW1⟩ : ∃ W1, W1 = w4.drew.alloc (.cells #[.int .i64 ot, .int .i64 on, .int .i64 pt, .int .i64 pn, .string nm, .bool false] 69) := ⟨_, rfl⟩
        obtain ⟨p1, k1, W2, hrun, hc2, hkp, hT3, hF3⟩ := (HT.out.1.below Hw4.out).more ⟨ot, on, pt, pn, nm, false⟩ hl hc hW1
        obtain ⟨W3, hW3⟩ : ∃ W3, W3 = W2.setCell ⟨gt, 0, none⟩ (.slice p1 (m + 1) k1) := ⟨_, rfl⟩
        rw [← hW3] at hT3 hF3
        have H3 : Hid (TreeY W3 base gt (T ++ [⟨ot, on, pt, pn, nm, false⟩]) s ∧ Fy base w W3) := ⟨hT3, (Fy.of_below (HT.out.2.2.trans (Hw4.out.mono HT.out.2.2.size))).next hF3⟩
        have hbox : ∀ W, (W = W3 ∨ W = W2 ∨ W = W1 ∨ W = w4.drew) → W.heap[bx]? = some (.cells #[.int .i64 t, .int .i64 n, .int .i64 sq, .int .i64 2, .int .i64 ot, .int .i64 on, .int .i64 pt, .int .i64 pn, .string nm, .slice dp dl dc, .slice sp sl sc] 34 (0, 0)) := by
          rintro W (rfl | rfl | rfl | rfl)
          · exact hF3.keep hx (by decide) (by decide)
          · exact (hkp _ _ _ _ hx (by decide)).2
          · exact (hkp _ _ _ _ hx (by decide)).1
          · exact hx
        have c0 : w4.drew.cell? ⟨gt, 0, none⟩ = some (.slice p m c) := cellOf hc 0
        have c1 : W1.cell? ⟨gt, 0, none⟩ = some (.slice p m c) := cellOf (hkp _ _ _ _ hc (by decide)).1 0
        have c2 : W2.cell? ⟨gt, 0, none⟩ = some (.slice p m c) := cellOf hc2 0
        have f2 := frozenOf hc2 0
        have hmix : Tryz.prog.follows .mixedOrders = true := by kernel_rfl
        have HSt : Hid (StepT T s ⟨t, n, sq, 2, ot, on, pt, pn, nm, dp, dl, dc, sp, sl, sc⟩ (T ++ [⟨ot, on, pt, pn, nm, false⟩]) s) := .make (.inr rfl) ht hd hf
        clear hc hx hkp hT3 hF3 hc2 hm hl
        go_wp2_with fail
        obtain ⟨LX2, hLX2⟩ : ∃ L : Unit → List (Option Tmp × Value), L = (fun _ : Unit => ([(some 27, .pointer (some ⟨gt, 0, none⟩)), (some 28, .pointer (some ⟨gt, 0, none⟩)), (some 29, .pointer (some ⟨gt, 0, none⟩)), (some 30, .pointer (some ⟨gt, 0, none⟩)), (some 31, .slice p m c), (some 32, .pointer (some ⟨bx, 4, none⟩)), (some 33, .agg #[.int .i64 ot, .int .i64 on]), (some 34, .pointer (some ⟨bx, 6, none⟩)), (some 35, .agg #[.int .i64 pt, .int .i64 pn]), (some 36, .pointer (some ⟨bx, 8, none⟩)), (some 37, .string nm), (some 38, .pointer (some ⟨bx, 3, none⟩)), (some 39, .int .i64 2), (some 40, .bool false), (some 41, .agg #[.int .i64 ot, .int .i64 on, .int .i64 pt, .int .i64 pn, .string nm, .bool false]), (some 42, .slice (some ⟨w4.heap.size, 0, none⟩) 1 1), (some 43, .slice p1 (m + 1) k1), (some 44, .pointer (some ⟨gt, 0, none⟩)), (some 45, .pointer (some ⟨gt, 0, none⟩)), (none, undef)] : List (Option Tmp × Value))) := ⟨_, rfl⟩
        have vv0 : ∀ g, vals (LX2 g) 0 = .pointer (some ⟨gt, 0, none⟩) := fun g => by rw [hLX2]; rfl
        have vv1 : ∀ g, vals (LX2 g) 1 = .pointer (some ⟨gt, 0, none⟩) := fun g => by rw [hLX2]; rfl
        have vv2 : ∀ g, vals (LX2 g) 2 = .pointer (some ⟨gt, 0, none⟩) := fun g => by rw [hLX2]; rfl
        have vv3 : ∀ g, vals (LX2 g) 3 = .pointer (some ⟨gt, 0, none⟩) := fun g => by rw [hLX2]; rfl
        have vv4 : ∀ g, vals (LX2 g) 4 = .slice p m c := fun g => by rw [hLX2]; rfl
        have vv5 : ∀ g, vals (LX2 g) 5 = .pointer (some ⟨bx, 4, none⟩) := fun g => by rw [hLX2]; rfl
        have vv6 : ∀ g, vals (LX2 g) 6 = .agg #[.int .i64 ot, .int .i64 on] := fun g => by rw [hLX2]; rfl
        have vv7 : ∀ g, vals (LX2 g) 7 = .pointer (some ⟨bx, 6, none⟩) := fun g => by rw [hLX2]; rfl
        have vv8 : ∀ g, vals (LX2 g) 8 = .agg #[.int .i64 pt, .int .i64 pn] := fun g => by rw [hLX2]; rfl
        have vv9 : ∀ g, vals (LX2 g) 9 = .pointer (some ⟨bx, 8, none⟩) := fun g => by rw [hLX2]; rfl
        have vv10 : ∀ g, vals (LX2 g) 10 = .string nm := fun g => by rw [hLX2]; rfl
        have vv11 : ∀ g, vals (LX2 g) 11 = .pointer (some ⟨bx, 3, none⟩) := fun g => by rw [hLX2]; rfl
        have vv12 : ∀ g, vals (LX2 g) 12 = .int .i64 2 := fun g => by rw [hLX2]; rfl
        have vv13 : ∀ g, vals (LX2 g) 13 = .bool false := fun g => by rw [hLX2]; rfl
        have vv14 : ∀ g, vals (LX2 g) 14 = .agg #[.int .i64 ot, .int .i64 on, .int .i64 pt, .int .i64 pn, .string nm, .bool false] := fun g => by rw [hLX2]; rfl
        have vv15 : ∀ g, vals (LX2 g) 15 = .slice (some ⟨w4.heap.size, 0, none⟩) 1 1 := fun g => by rw [hLX2]; rfl
        have vv16 : ∀ g, vals (LX2 g) 16 = .slice p1 (m + 1) k1 := fun g => by rw [hLX2]; rfl
        have vv17 : ∀ g, vals (LX2 g) 17 = .pointer (some ⟨gt, 0, none⟩) := fun g => by rw [hLX2]; rfl
        have vv18 : ∀ g, vals (LX2 g) 18 = .pointer (some ⟨gt, 0, none⟩) := fun g => by rw [hLX2]; rfl
        have vv19 : ∀ g, vals (LX2 g) 19 = undef := fun g => by rw [hLX2]; rfl
        refine region_laidg hmix (by kernel_rfl) 102 rfl (by kernel_rfl) () LX2 (fun g => by rw [hLX2]; rfl) (fun (_ : Unit) b W => W = if b 19 = true then W3 else if b 16 = true then W2 else if b 15 = true then W1 else w4.drew) rfl ?_ ?_
        · intro g b W io o a' hS hcl ho hb hd ev kp yl
          match io with
          | 0 =>
            simp only [qq] at ho; subst ho; have e0 : a'.tmps[0]?.getD undef = .pointer (some ⟨gt, 0, none⟩) := kp 0 (none_till (by kernel_rfl))
            refine doesg_value rfl nofun (v := .pointer (some ⟨gt, 0, none⟩)) (w' := W) ?_ ⟨g, fun _ _ => rfl, (vv0 g).symm, ?_⟩
            · simp [execOp, go_sem, e0]
            · simpa [did] using hS
          | 1 =>
            simp only [qq] at ho; subst ho; have e0 : a'.tmps[0]?.getD undef = .pointer (some ⟨gt, 0, none⟩) := kp 0 (none_till (by kernel_rfl))
            refine doesg_value rfl nofun (v := .pointer (some ⟨gt, 0, none⟩)) (w' := W) ?_ ⟨g, fun _ _ => rfl, (vv1 g).symm, ?_⟩
            · simp [execOp, go_sem, e0]
            · simpa [did] using hS
          | 2 =>
            simp only [qq] at ho; subst ho; have e28 := eD ev hd 1 28 (vv1 g)
            refine doesg_value rfl nofun (v := .pointer (some ⟨gt, 0, none⟩)) (w' := W) ?_ ⟨g, fun _ _ => rfl, (vv2 g).symm, ?_⟩
            · simp [execOp, go_sem, e28]
            · simpa [did] using hS
          | 3 =>
            simp only [qq] at ho; subst ho; have e29 := eD ev hd 2 29 (vv2 g)
            refine doesg_value rfl nofun (v := .pointer (some ⟨gt, 0, none⟩)) (w' := W) ?_ ⟨g, fun _ _ => rfl, (vv3 g).symm, ?_⟩
            · simp [execOp, go_sem, e29]
            · simpa [did] using hS
          | 4 =>
            simp only [qq] at ho; subst ho; have e30 := eD ev hd 3 30 (vv3 g); have h97 : b 19 = true → b 16 = true := fun h => hcl 19 _ rfl h ⟨16, .data⟩ (by simp) rfl
            have h7 : b 16 = false := by cases h : b 16; rfl; rw [hcl 16 _ rfl h ⟨4, .data⟩ (by simp) rfl] at hb; cases hb
            have h9 : b 19 = false := by cases h : b 19; rfl; rw [h97 h] at h7; cases h7
            rw [h9, h7] at hS; have hl : W.cell? ⟨gt, 0, none⟩ = some (.slice p m c) := by (rw [hS]; cases b 15; exact c0; exact c1)
            refine doesg_value rfl nofun (v := .slice p m c) (w' := W) ?_ ⟨g, fun _ _ => rfl, (vv4 g).symm, ?_⟩
            · simp [execOp, go_sem, e30, hl]
            · simpa [did, h9, h7] using hS
          | 5 =>
            simp only [qq] at ho; subst ho; have e3 : a'.tmps[3]?.getD undef = .pointer (some ⟨bx, 0, none⟩) := kp 3 (none_till (by kernel_rfl))
            refine doesg_value rfl nofun (v := .pointer (some ⟨bx, 4, none⟩)) (w' := W) ?_ ⟨g, fun _ _ => rfl, (vv5 g).symm, ?_⟩
            · simp [execOp, go_sem, e3]
            · simpa [did] using hS
          | 6 =>
            simp only [qq] at ho; subst ho; have e32 := eD ev hd 5 32 (vv5 g); have hW4 : W = W3 ∨ W = W2 ∨ W = W1 ∨ W = w4.drew := by (rw [hS]; cases b 19 <;> cases b 16 <;> cases b 15 <;> simp)
            have hx := hbox W hW4; have x4 : W.cell? ⟨bx, 4, none⟩ = some (.int .i64 ot) := cellOf hx 4; have x5 : W.cell? ⟨bx, 5, none⟩ = some (.int .i64 on) := cellOf hx 5
            refine doesg_value rfl nofun (v := .agg #[.int .i64 ot, .int .i64 on]) (w' := W) ?_ ⟨g, fun _ _ => rfl, (vv6 g).symm, ?_⟩
            · simp [execOp, go_sem, e32, x4, x5]
            · simpa [did] using hS
          | 7 =>
            simp only [qq] at ho; subst ho; have e3 : a'.tmps[3]?.getD undef = .pointer (some ⟨bx, 0, none⟩) := kp 3 (none_till (by kernel_rfl))
            refine doesg_value rfl nofun (v := .pointer (some ⟨bx, 6, none⟩)) (w' := W) ?_ ⟨g, fun _ _ => rfl, (vv7 g).symm, ?_⟩
            · simp [execOp, go_sem, e3]
            · simpa [did] using hS
          | 8 =>
            simp only [qq] at ho; subst ho; have e34 := eD ev hd 7 34 (vv7 g); have hW4 : W = W3 ∨ W = W2 ∨ W = W1 ∨ W = w4.drew := by (rw [hS]; cases b 19 <;> cases b 16 <;> cases b 15 <;> simp)
            have hx := hbox W hW4; have x6 : W.cell? ⟨bx, 6, none⟩ = some (.int .i64 pt) := cellOf hx 6; have x7 : W.cell? ⟨bx, 7, none⟩ = some (.int .i64 pn) := cellOf hx 7
            refine doesg_value rfl nofun (v := .agg #[.int .i64 pt, .int .i64 pn]) (w' := W) ?_ ⟨g, fun _ _ => rfl, (vv8 g).symm, ?_⟩
            · simp [execOp, go_sem, e34, x6, x7]
            · simpa [did] using hS
          | 9 =>
            simp only [qq] at ho; subst ho; have e3 : a'.tmps[3]?.getD undef = .pointer (some ⟨bx, 0, none⟩) := kp 3 (none_till (by kernel_rfl))
            refine doesg_value rfl nofun (v := .pointer (some ⟨bx, 8, none⟩)) (w' := W) ?_ ⟨g, fun _ _ => rfl, (vv9 g).symm, ?_⟩
            · simp [execOp, go_sem, e3]
            · simpa [did] using hS
          | 10 =>
            simp only [qq] at ho; subst ho; have e36 := eD ev hd 9 36 (vv9 g); have hW4 : W = W3 ∨ W = W2 ∨ W = W1 ∨ W = w4.drew := by (rw [hS]; cases b 19 <;> cases b 16 <;> cases b 15 <;> simp)
            have hx := hbox W hW4; have x8 : W.cell? ⟨bx, 8, none⟩ = some (.string nm) := cellOf hx 8
            refine doesg_value rfl nofun (v := .string nm) (w' := W) ?_ ⟨g, fun _ _ => rfl, (vv10 g).symm, ?_⟩
            · simp [execOp, go_sem, e36, x8]
            · simpa [did] using hS
          | 11 =>
            simp only [qq] at ho; subst ho; have e3 : a'.tmps[3]?.getD undef = .pointer (some ⟨bx, 0, none⟩) := kp 3 (none_till (by kernel_rfl))
            refine doesg_value rfl nofun (v := .pointer (some ⟨bx, 3, none⟩)) (w' := W) ?_ ⟨g, fun _ _ => rfl, (vv11 g).symm, ?_⟩
            · simp [execOp, go_sem, e3]
            · simpa [did] using hS
          | 12 =>
            simp only [qq] at ho; subst ho; have e38 := eD ev hd 11 38 (vv11 g); have hW4 : W = W3 ∨ W = W2 ∨ W = W1 ∨ W = w4.drew := by (rw [hS]; cases b 19 <;> cases b 16 <;> cases b 15 <;> simp)
            have hx := hbox W hW4; have x3 : W.cell? ⟨bx, 3, none⟩ = some (.int .i64 2) := cellOf hx 3
            refine doesg_value rfl nofun (v := .int .i64 2) (w' := W) ?_ ⟨g, fun _ _ => rfl, (vv12 g).symm, ?_⟩
            · simp [execOp, go_sem, e38, x3]
            · simpa [did] using hS
          | 13 =>
            simp only [qq] at ho; subst ho; have e39 := eD ev hd 12 39 (vv12 g)
            refine doesg_value rfl nofun (v := .bool false) (w' := W) ?_ ⟨g, fun _ _ => rfl, (vv13 g).symm, ?_⟩
            · simp [execOp, go_sem, e39]
            · simpa [did] using hS
          | 14 =>
            simp only [qq] at ho; subst ho; have e33 := eD ev hd 6 33 (vv6 g); have e35 := eD ev hd 8 35 (vv8 g); have e37 := eD ev hd 10 37 (vv10 g); have e40 := eD ev hd 13 40 (vv13 g)
            refine doesg_value rfl nofun (v := .agg #[.int .i64 ot, .int .i64 on, .int .i64 pt, .int .i64 pn, .string nm, .bool false]) (w' := W) ?_ ⟨g, fun _ _ => rfl, (vv14 g).symm, ?_⟩
            · simp [execOp, go_sem, e33, e35, e37, e40]
            · simpa [did] using hS
          | 15 =>
            simp only [qq] at ho; subst ho; have e41 := eD ev hd 14 41 (vv14 g); have h97 : b 19 = true → b 16 = true := fun h => hcl 19 _ rfl h ⟨16, .data⟩ (by simp) rfl
            have h7 : b 16 = false := by cases h : b 16; rfl; rw [hcl 16 _ rfl h ⟨15, .data⟩ (by simp) rfl] at hb; cases hb
            have h9 : b 19 = false := by cases h : b 19; rfl; rw [h97 h] at h7; cases h7
            rw [h9, h7, hb] at hS; have hW : W = w4.drew := hS; subst hW
            refine doesg_value rfl nofun (v := .slice (some ⟨w4.heap.size, 0, none⟩) 1 1) (w' := W1) ?_ ⟨g, fun _ _ => rfl, (vv15 g).symm, ?_⟩
            · simp [execOp, go_sem, e41, hW1]
            · simp [did, h9, h7]
          | 16 =>
            simp only [qq] at ho; subst ho; have p15 := hD hd 15; have e31 := eD ev hd 4 31 (vv4 g); have e42 := (ev 15 42 rfl p15).trans (vv15 g); have h97 : b 19 = true → b 16 = true := fun h => hcl 19 _ rfl h ⟨16, .data⟩ (by simp) rfl
            have h9 : b 19 = false := by cases h : b 19; rfl; rw [h97 h] at hb; cases hb
            rw [h9, hb, p15] at hS; have hW : W = W1 := hS; subst hW; have q7 : a'.eval (.tmp 31) = .slice p m c := by simp [go_sem, e31]
            have q10 : a'.eval (.tmp 42) = .slice (some ⟨w4.heap.size, 0, none⟩) 1 1 := by simp [go_sem, e42]
            refine doesg_value rfl nofun (v := .slice p1 (m + 1) k1) (w' := W2) ?_ ⟨g, fun _ _ => rfl, (vv16 g).symm, ?_⟩
            · simp only [execOp, resolve, invoke, builtin, Sem.run_bind, Sem.run_pure, Result.andThen_ok, List.map_toArray, List.map_cons, List.map_nil, q7, q10, hrun]
            · simp [did, h9]
          | 17 =>
            simp only [qq] at ho; subst ho; have e27 := eD ev hd 0 27 (vv0 g)
            refine doesg_value rfl nofun (v := .pointer (some ⟨gt, 0, none⟩)) (w' := W) ?_ ⟨g, fun _ _ => rfl, (vv17 g).symm, ?_⟩
            · simp [execOp, go_sem, e27]
            · simpa [did] using hS
          | 18 =>
            simp only [qq] at ho; subst ho; have e44 := eD ev hd 17 44 (vv17 g)
            refine doesg_value rfl nofun (v := .pointer (some ⟨gt, 0, none⟩)) (w' := W) ?_ ⟨g, fun _ _ => rfl, (vv18 g).symm, ?_⟩
            · simp [execOp, go_sem, e44]
            · simpa [did] using hS
          | 19 =>
            simp only [qq] at ho; subst ho; have p16 := hD hd 16; have e45 := eD ev hd 18 45 (vv18 g); have e43 := (ev 16 43 rfl p16).trans (vv16 g); rw [hb, p16] at hS; have hW : W = W2 := hS; subst hW
            refine doesg_skip rfl nofun (w' := W3) ?_ ⟨g, fun _ _ => rfl, (vv19 g).symm, ?_⟩
            · simp [execOp, go_sem, e45, e43, c2, f2, hW3]
            · exact by simp [did]
          | k + 20 => simp at ho
        · intro _ b W hS hall
          subst hLX2
          rw [hall 19 (by decide)] at hS
          have hW : W = W3 := hS
          clear hS
          subst hW
          clear hW3 hall hrun c0 c1 c2 f2 hW1 hbox
          go_wp2_with fail
          go_end0
          exact ⟨rfl, _, _, HSt.out, H3.out.1, H3.out.2⟩
set_option maxRecDepth 8000 in
set_option maxHeartbeats 4000000 in
theorem ystep_mv (base g s : Nat) (T : List OB) (t n sq ot on pt pn : Int) (nm : ByteArray) (dp : Option Addr) (dl dc : Nat) (sp : Option Addr) (sl sc : Nat) (w : World) (h : TreeY w base g T s) (hr : Ranked T) (hs : s < 1000000) :
    Calls Tryz.prog 63 #[.pointer (some ⟨g, 0, none⟩), opgv ⟨t, n, sq, 3, ot, on, pt, pn, nm, dp, dl, dc, sp, sl, sc⟩] w (StepPost base g s T ⟨t, n, sq, 3, ot, on, pt, pn, nm, dp, dl, dc, sp, sl, sc⟩ w) := by
  have HR : Hid (Ranked T) := hr
  clear hr
  obtain ⟨w1, hw1⟩ : ∃ w1, w1 = w.alloc (.cells #[.int .i64 t, .int .i64 n, .int .i64 sq, .int .i64 3, .int .i64 ot, .int .i64 on, .int .i64 pt, .int .i64 pn, .string nm, .slice dp dl dc, .slice sp sl sc] 34) := ⟨_, rfl⟩
  have hB1 : Below w.heap.size w w1 := by rw [hw1]; exact (below_new w _).out
  have hx1 : w1.heap[w.heap.size]? = some (.cells #[.int .i64 t, .int .i64 n, .int .i64 sq, .int .i64 3, .int .i64 ot, .int .i64 on, .int .i64 pt, .int .i64 pn, .string nm, .slice dp dl dc, .slice sp sl sc] 34 (0, 0)) := by rw [hw1]; exact heap_alloc_new w _
  have HT : Hid (TreeY w1 base g T s ∧ w1.heap[w.heap.size]? = some (.cells #[.int .i64 t, .int .i64 n, .int .i64 sq, .int .i64 3, .int .i64 ot, .int .i64 on, .int .i64 pt, .int .i64 pn, .string nm, .slice dp dl dc, .slice sp sl sc] 34 (0, 0)) ∧ Below w.heap.size w w1) := ⟨h.below hB1, hx1, hB1⟩
  have H0 : Hid (TreeY w base g T s) := h
  have HW : Hid (w1 = w.alloc (.cells #[.int .i64 t, .int .i64 n, .int .i64 sq, .int .i64 3, .int .i64 ot, .int .i64 on, .int .i64 pt, .int .i64 pn, .string nm, .slice dp dl dc, .slice sp sl sc] 34)) := hw1
  have sI : (s : Int) < 1000000 := by omega
  obtain ⟨bx, hbx⟩ : ∃ bx, w.heap.size = bx := ⟨_, rfl⟩
  have HBX : Hid (w.heap.size = bx) := hbx
  rw [hbx] at hx1
  have HX : Hid (w1.heap[bx]? = some (.cells #[.int .i64 t, .int .i64 n, .int .i64 sq, .int .i64 3, .int .i64 ot, .int .i64 on, .int .i64 pt, .int .i64 pn, .string nm, .slice dp dl dc, .slice sp sl sc] 34 (0, 0))) := hx1
  clear hw1 hB1 hx1 h hbx
  go_enter Tryz.func63, Tryz.ntmps63
  go_wp2_with fail
  rw [← HW.out, HBX.out]
  go_at_call 30
  refine (yfind_any base g s T ot on w1 HT.out.1).mono ?_
  rintro e w2 ⟨rfl, hB⟩
  have Hw2 : Hid (Below w1.heap.size w1 w2) := hB
  clear hB
  cases hf : findT T ot on with
  | none =>
    rw [fndZ_none hf]
    obtain ⟨p, c, hc, HS⟩ := H0.out.skipped (W := w2) (HT.out.2.2.trans (Hw2.out.mono HT.out.2.2.size))
    have c1 : w2.cell? ⟨g, 1, none⟩ = some (.int .i64 (s : Nat)) := cellOf hc 1
    have f1 := frozenOf hc 1
    clear hc
    go_wp2_with fail
    go_end0
    exact ⟨rfl, _, _, .moved rfl (.inl hf), HS.out.1, HS.out.2⟩
  | some k =>
    rw [fndZ_some hf]
    have HF : Hid (findT T ot on = some k) := hf
    obtain ⟨b, hb, _, _⟩ := findT_some hf
    have HK : Hid (T[k]? = some b) := hb
    have hkT := (List.getElem?_eq_some_iff.1 hb).1
    obtain ⟨m, hm⟩ : ∃ m, T.length = m := ⟨_, rfl⟩
    have HM : Hid (T.length = m) := hm
    have hml : m < 1000000 := by rw [← hm]; exact HT.out.1.len
    rw [hm] at hkT
    clear hf hb hm
    have kI : (0 : Int) ≤ (k : Int) := by omega
    have kD : decide ((0 : Int) ≤ (k : Int)) = true := by simp
    have hx := (Hw2.out.block _ (block_lt HX.out)).trans HX.out
    have x4 : w2.cell? ⟨bx, 4, none⟩ = some (.int .i64 ot) := cellOf hx 4
    have x5 : w2.cell? ⟨bx, 5, none⟩ = some (.int .i64 on) := cellOf hx 5
    have x6 : w2.cell? ⟨bx, 6, none⟩ = some (.int .i64 pt) := cellOf hx 6
    have x7 : w2.cell? ⟨bx, 7, none⟩ = some (.int .i64 pn) := cellOf hx 7
    clear hx
    go_wp2_with fail
    go_at_call 31
    refine (ydir_any base g s T pt pn w2 (HT.out.1.below Hw2.out)).mono ?_
    rintro e w3 ⟨rfl, hB⟩
    have Hw3 : Hid (Below w1.heap.size w1 w3) := Hw2.out.trans (hB.mono Hw2.out.size)
    clear hB
    clear x4 x5 x6 x7
    cases hd : dirT T pt pn
    case false =>
      obtain ⟨p, c, hc, HS⟩ := H0.out.skipped (W := w3) (HT.out.2.2.trans (Hw3.out.mono HT.out.2.2.size))
      have c1 : w3.cell? ⟨g, 1, none⟩ = some (.int .i64 (s : Nat)) := cellOf hc 1
      have f1 := frozenOf hc 1
      clear hc
      go_wp2_with fail
      go_end0
      exact ⟨rfl, _, _, .moved rfl (.inr (.inl hd)), HS.out.1, HS.out.2⟩
    case true =>
      have hx := (Hw3.out.block _ (block_lt HX.out)).trans HX.out
      have x4 : w3.cell? ⟨bx, 4, none⟩ = some (.int .i64 ot) := cellOf hx 4
      have x5 : w3.cell? ⟨bx, 5, none⟩ = some (.int .i64 on) := cellOf hx 5
      have x6 : w3.cell? ⟨bx, 6, none⟩ = some (.int .i64 pt) := cellOf hx 6
      have x7 : w3.cell? ⟨bx, 7, none⟩ = some (.int .i64 pn) := cellOf hx 7
      clear hx
      go_wp2_with fail
      go_at_call 12
      refine (same_any pt pn ot on w3).mono ?_
      rintro e w4 ⟨rfl, hB⟩
      have Hw4 : Hid (Below w1.heap.size w1 w4) := Hw3.out.trans (hB.mono Hw3.out.size)
      clear hB
      clear x4 x5 x6 x7
      cases hs : sameB pt pn ot on
      case true =>
        obtain ⟨p, c, hc, HS⟩ := H0.out.skipped (W := w4) (HT.out.2.2.trans (Hw4.out.mono HT.out.2.2.size))
        have c1 : w4.cell? ⟨g, 1, none⟩ = some (.int .i64 (s : Nat)) := cellOf hc 1
        have f1 := frozenOf hc 1
        clear hc
        go_wp2_with fail
        go_end0
        exact ⟨rfl, _, _, .moved rfl (.inr (.inr (.inl (sameB_iff.1 hs)))), HS.out.1, HS.out.2⟩
      case false =>
        have hx := (Hw4.out.block _ (block_lt HX.out)).trans HX.out
        have x4 : w4.cell? ⟨bx, 4, none⟩ = some (.int .i64 ot) := cellOf hx 4
        have x5 : w4.cell? ⟨bx, 5, none⟩ = some (.int .i64 on) := cellOf hx 5
        have x6 : w4.cell? ⟨bx, 6, none⟩ = some (.int .i64 pt) := cellOf hx 6
        have x7 : w4.cell? ⟨bx, 7, none⟩ = some (.int .i64 pn) := cellOf hx 7
        clear hx
        go_wp2_with fail
        go_at_call 34
        refine (ybelow_any base g s T pt pn ot on w4 (HT.out.1.below Hw4.out) HR.out).mono ?_
        rintro e w5 ⟨r, rfl, hr, hB⟩
        have Hw5 : Hid (Below w1.heap.size w1 w5) := Hw4.out.trans (hB.mono Hw4.out.size)
        have HB : Hid (r = true ↔ Bel T (pt, pn) (ot, on)) := hr
        clear hB hr x4 x5 x6 x7
        cases r
        case true =>
          obtain ⟨p, c, hc, HS⟩ := H0.out.skipped (W := w5) (HT.out.2.2.trans (Hw5.out.mono HT.out.2.2.size))
          have c1 : w5.cell? ⟨g, 1, none⟩ = some (.int .i64 (s : Nat)) := cellOf hc 1
          have f1 := frozenOf hc 1
          clear hc
          go_wp2_with fail
          go_end0
          exact ⟨rfl, _, _, .moved rfl (.inr (.inr (.inr (HB.out.1 (by simp))))), HS.out.1, HS.out.2⟩
        case false =>
          have HSt : Hid (StepT T s ⟨t, n, sq, 3, ot, on, pt, pn, nm, dp, dl, dc, sp, sl, sc⟩ (T.set k (moveO ⟨t, n, sq, 3, ot, on, pt, pn, nm, dp, dl, dc, sp, sl, sc⟩ b)) s) := .move rfl HF.out HK.out hd (sameB_no.1 hs) (fun hh => by have := HB.out.2 hh; cases this)
          have hT5 := HT.out.1.below Hw5.out
          obtain ⟨gl, c, hc, _, _, c2, c3, c4, _⟩ := hT5.ob HK.out
          obtain ⟨curL, hgl⟩ := hT5.row hc
          have hx := (Hw5.out.block _ (block_lt HX.out)).trans HX.out
          have hmv := hT5.moved HK.out hc pt pn nm
          have H5 : Hid (TreeY (((w5.setCell ⟨gl, k * 6 + 2, none⟩ (.int .i64 pt)).setCell ⟨gl, k * 6 + 3, none⟩ (.int .i64 pn)).setCell ⟨gl, k * 6 + 4, none⟩ (.string nm)) base g (T.set k ⟨b.it, b.ii, pt, pn, nm, b.dir⟩) s ∧ Fy base w (((w5.setCell ⟨gl, k * 6 + 2, none⟩ (.int .i64 pt)).setCell ⟨gl, k * 6 + 3, none⟩ (.int .i64 pn)).setCell ⟨gl, k * 6 + 4, none⟩ (.string nm))) := ⟨hmv.1, (Fy.of_below (HT.out.2.2.trans (Hw5.out.mono HT.out.2.2.size))).next hmv.2⟩
          rw [HM.out] at hc
          have c0 : w5.cell? ⟨g, 0, none⟩ = some (.slice (some ⟨gl, 0, none⟩) m c) := cellOf hc 0
          have f2 : w5.frozen? ⟨gl, k * 6 + 2, none⟩ = false := frozenOf hgl _
          have f3 : w5.frozen? ⟨gl, k * 6 + 3, none⟩ = false := frozenOf hgl _
          have f4 : w5.frozen? ⟨gl, k * 6 + 4, none⟩ = false := frozenOf hgl _
          have n1 : ¬ g = gl := fun e => apart_tags hgl hc (by decide) e.symm
          have n2 : ¬ gl = g := fun e => apart_tags hgl hc (by decide) e
          have n3 : ¬ bx = gl := fun e => apart_tags hgl hx (by decide) e.symm
          have n4 : ¬ gl = bx := fun e => apart_tags hgl hx (by decide) e
          have x6 : w5.cell? ⟨bx, 6, none⟩ = some (.int .i64 pt) := cellOf hx 6
          have x7 : w5.cell? ⟨bx, 7, none⟩ = some (.int .i64 pn) := cellOf hx 7
          have x8 : w5.cell? ⟨bx, 8, none⟩ = some (.string nm) := cellOf hx 8
          clear hc hgl hx hT5 hmv
          go_wp2_with fail
          go_region
          · go_wp2_with fail
            go_region
            · go_wp2_with fail
              go_end0
              exact ⟨rfl, _, _, HSt.out, H5.out.1.below ((Below.refl _ _).drew.drew), H5.out.2.next (Fy.of_below ((Below.refl _ _).drew.drew))⟩
set_option maxRecDepth 8000 in
set_option maxHeartbeats 4000000 in
theorem ystep_ot (kd : Int) (h1 : ¬ kd = 1) (h2 : ¬ kd = 2) (h3 : ¬ kd = 3) (base g s : Nat) (T : List OB) (t n sq ot on pt pn : Int) (nm : ByteArray) (dp : Option Addr) (dl dc : Nat) (sp : Option Addr) (sl sc : Nat) (w : World) (h : TreeY w base g T s) :
    Calls Tryz.prog 63 #[.pointer (some ⟨g, 0, none⟩), opgv ⟨t, n, sq, kd, ot, on, pt, pn, nm, dp, dl, dc, sp, sl, sc⟩] w (StepPost base g s T ⟨t, n, sq, kd, ot, on, pt, pn, nm, dp, dl, dc, sp, sl, sc⟩ w) := by
  have H0 : Hid (TreeY w base g T s) := h
  have HN : Hid (¬ (kd = 1 ∨ kd = 2 ∨ kd = 3)) := fun e => by omega
  have HB : Hid (∀ o, Below w.heap.size w (w.alloc o)) := fun o => (below_new w o).out
  clear h
  go_enter Tryz.func63, Tryz.ntmps63
  go_wp2_with fail
  go_end0
  exact ⟨rfl, T, s, .other HN.out, H0.out.below (HB.out _), Fy.of_below (HB.out _)⟩
end Go.Proofs.YtgpbphjplbhfmaaGreat.Ck.Y
