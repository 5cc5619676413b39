import Derived.Test.YthhakekbffembaaGreatDoorQQf
import Derived.Test.YthhakekbffembaaGreatDoorQQb

namespace Go.Proofs.YthhakekbffembaaGreatDoor.Ck.Y
open Go.RowKit Go.Maps
def StepPost (base g s : Nat) (T : List OB) (o : OG) (w : World) (e : Ending) (w' : World) : Prop := e = .returned (.tuple #[]) ∧ ∃ T' s', StepT T s o T' s' ∧ TreeY w' base g T' s' ∧ Fy base w w'
theorem TreeY.skipped {w W : World} {base g s : Nat} {T : List OB} (h : TreeY w base g T s) (hb : Below w.heap.size w W) : ∃ p c, W.heap[g]? = some (.cells #[.slice p T.length c, .int .i64 (s : Nat)] 51 (0, 0)) ∧ Hid (TreeY (W.setCell ⟨g, 1, none⟩ (.int .i64 ((s : Int) + 1))) base g T (s + 1) ∧ Fy base w (W.setCell ⟨g, 1, none⟩ (.int .i64 ((s : Int) + 1)))) := by
 obtain ⟨p, c, hc, _⟩ := (h.below hb).view
 have hh := (h.below hb).skip
 rw [show ((s + 1 : Nat) : Int) = (s : Int) + 1 by omega] at hh
 exact ⟨p, c, hc, hh.1, (Fy.of_below hb).next hh.2⟩
theorem TreeY.row {w : World} {base g s : Nat} {T : List OB} (h : TreeY w base g T s) {gl m c : Nat} (hc : w.heap[g]? = some (.cells #[.slice (some ⟨gl, 0, none⟩) m c, .int .i64 (s : Nat)] 51 (0, 0))) : ∃ cur, w.heap[gl]? = some (.cells cur 48 (0, 0)) := by
 obtain ⟨v, h1, h2⟩ := h.cell
 rw [hc] at h1
 simp only [Option.some.injEq, Obj.cells.injEq] at h1
 have ev := h1.1
 simp at ev
 subst ev
 rcases h2.2 with ⟨e, _⟩ | ⟨g', cap, cur, hv, hb, hblk, _⟩
 · cases e
 · cases hv
   exact ⟨cur, hblk⟩
set_option maxRecDepth 8000 in
set_option maxHeartbeats 4000000 in
theorem ystep_mk1 (base gt s : Nat) (T : List OB) (t n sq ot on pt pn : Int) (nm : ByteArray) (dp : Option Addr) (dl dc : Nat) (sp : Option Addr) (sl sc : Nat) (w : World) (h : TreeY w base gt T s) (hl : T.length < 999999) (hs : s < 1000000) :
   Calls Tryz.prog 76 #[.pointer (some ⟨gt, 0, none⟩), opgv ⟨t, n, sq, 1, ot, on, pt, pn, nm, dp, dl, dc, sp, sl, sc⟩] w (StepPost base gt s T ⟨t, n, sq, 1, ot, on, pt, pn, nm, dp, dl, dc, sp, sl, sc⟩ w) := by
 obtain ⟨w1, hw1⟩ : ∃ w1, w1 = w.alloc (.cells #[.int .i64 t, .int .i64 n, .int .i64 sq, .int .i64 1, .int .i64 ot, .int .i64 on, .int .i64 pt, .int .i64 pn, .string nm, .slice dp dl dc, .slice sp sl sc] 33) := ⟨_, rfl⟩
 have hB1 : Below w.heap.size w w1 := by rw [hw1]; exact (below_new w _).out
 have hx1 : w1.heap[w.heap.size]? = some (.cells #[.int .i64 t, .int .i64 n, .int .i64 sq, .int .i64 1, .int .i64 ot, .int .i64 on, .int .i64 pt, .int .i64 pn, .string nm, .slice dp dl dc, .slice sp sl sc] 33 (0, 0)) := by rw [hw1]; exact heap_alloc_new w _
 have HT : Hid (TreeY w1 base gt T s ∧ w1.heap[w.heap.size]? = some (.cells #[.int .i64 t, .int .i64 n, .int .i64 sq, .int .i64 1, .int .i64 ot, .int .i64 on, .int .i64 pt, .int .i64 pn, .string nm, .slice dp dl dc, .slice sp sl sc] 33 (0, 0)) ∧ Below w.heap.size w w1) := ⟨h.below hB1, hx1, hB1⟩
 have H0 : Hid (TreeY w base gt T s) := h
 have HW : Hid (w1 = w.alloc (.cells #[.int .i64 t, .int .i64 n, .int .i64 sq, .int .i64 1, .int .i64 ot, .int .i64 on, .int .i64 pt, .int .i64 pn, .string nm, .slice dp dl dc, .slice sp sl sc] 33)) := hw1
 have sI : (s : Int) < 1000000 := by omega
 obtain ⟨bx, hbx⟩ : ∃ bx, w.heap.size = bx := ⟨_, rfl⟩
 have HBX : Hid (w.heap.size = bx) := hbx
 rw [hbx] at hx1
 have HX : Hid (w1.heap[bx]? = some (.cells #[.int .i64 t, .int .i64 n, .int .i64 sq, .int .i64 1, .int .i64 ot, .int .i64 on, .int .i64 pt, .int .i64 pn, .string nm, .slice dp dl dc, .slice sp sl sc] 33 (0, 0))) := hx1
 clear hw1 hB1 hx1 h hbx
 go_enter Tryz.func76, Tryz.ntmps76
 go_wp2_with fail
 rw [← HW.out, HBX.out]
 go_at_call 78
 refine (ytrash_any pt pn w1).mono ?_
 rintro e w2 ⟨rfl, hB⟩
 have Hw2 : Hid (Below w1.heap.size w1 w2) := hB
 clear hB
 cases ht : trashB pt pn
 case true =>
   obtain ⟨p, c, hc, HS⟩ := H0.out.skipped (W := w2) (HT.out.2.2.trans (Hw2.out.mono HT.out.2.2.size))
   have c1 : w2.cell? ⟨gt, 1, none⟩ = some (.int .i64 (s : Nat)) := cellOf hc 1
   have f1 := frozenOf hc 1
   clear hc
   go_wp2_with fail
   go_end0
   exact ⟨rfl, _, _, .made (.inl rfl) (.inl ht), HS.out.1, HS.out.2⟩
 case false =>
   have hx := (Hw2.out.block _ (block_lt HX.out)).trans HX.out
   have x4 : w2.cell? ⟨bx, 4, none⟩ = some (.int .i64 ot) := cellOf hx 4
   have x5 : w2.cell? ⟨bx, 5, none⟩ = some (.int .i64 on) := cellOf hx 5
   have x6 : w2.cell? ⟨bx, 6, none⟩ = some (.int .i64 pt) := cellOf hx 6
   have x7 : w2.cell? ⟨bx, 7, none⟩ = some (.int .i64 pn) := cellOf hx 7
   clear hx
   go_wp2_with fail
   go_at_call 37
   refine (ydir_any base gt s T pt pn w2 (HT.out.1.below Hw2.out)).mono ?_
   rintro e w3 ⟨rfl, hB⟩
   have Hw3 : Hid (Below w1.heap.size w1 w3) := Hw2.out.trans (hB.mono Hw2.out.size)
   clear hB
   clear x4 x5 x6 x7
   cases hd : dirT T pt pn
   case false =>
     obtain ⟨p, c, hc, HS⟩ := H0.out.skipped (W := w3) (HT.out.2.2.trans (Hw3.out.mono HT.out.2.2.size))
     have c1 : w3.cell? ⟨gt, 1, none⟩ = some (.int .i64 (s : Nat)) := cellOf hc 1
     have f1 := frozenOf hc 1
     clear hc
     go_wp2_with fail
     go_end0
     exact ⟨rfl, _, _, .made (.inl rfl) (.inr (.inl hd)), HS.out.1, HS.out.2⟩
   case true =>
     have hx := (Hw3.out.block _ (block_lt HX.out)).trans HX.out
     have x4 : w3.cell? ⟨bx, 4, none⟩ = some (.int .i64 ot) := cellOf hx 4
     have x5 : w3.cell? ⟨bx, 5, none⟩ = some (.int .i64 on) := cellOf hx 5
     have x6 : w3.cell? ⟨bx, 6, none⟩ = some (.int .i64 pt) := cellOf hx 6
     have x7 : w3.cell? ⟨bx, 7, none⟩ = some (.int .i64 pn) := cellOf hx 7
     clear hx
     go_wp2_with fail
     go_at_call 14
     refine (yfind_any base gt s T ot on w3 (HT.out.1.below Hw3.out)).mono ?_
     rintro e w4 ⟨rfl, hB⟩
     have Hw4 : Hid (Below w1.heap.size w1 w4) := Hw3.out.trans (hB.mono Hw3.out.size)
     clear hB
     clear x4 x5 x6 x7
     cases hf : findT T ot on with
     | some k =>
       rw [fndZ_some hf]
       have HF : Hid (findT T ot on = some k) := hf
       clear hf
       have kI : ¬ ((k : Int) < 0) := by omega
       generalize (k : Int) = z at kI ⊢
       have kD : decide (z < 0) = false := by simpa using kI
       obtain ⟨p, c, hc, HS⟩ := H0.out.skipped (W := w4) (HT.out.2.2.trans (Hw4.out.mono HT.out.2.2.size))
       have c1 : w4.cell? ⟨gt, 1, none⟩ = some (.int .i64 (s : Nat)) := cellOf hc 1
       have f1 := frozenOf hc 1
       clear hc
       go_wp2_with fail
       go_end0
       exact ⟨rfl, _, _, .made (.inl rfl) (.inr (.inr ⟨k, HF.out⟩)), HS.out.1, HS.out.2⟩
     | none =>
       rw [fndZ_none hf]
       obtain ⟨p, c, hc, _⟩ := (HT.out.1.below Hw4.out).view
       obtain ⟨m, hm⟩ : ∃ m, T.length = m := ⟨_, rfl⟩
       rw [hm] at hc
       have hx := (Hw4.out.block _ (block_lt HX.out)).trans HX.out
       obtain ⟨W1, hW1⟩ : ∃ W1, W1 = w4.drew.alloc (.cells #[.int .i64 ot, .int .i64 on, .int .i64 pt, .int .i64 pn, .string nm, .bool true] 48) := ⟨_, rfl⟩
       obtain ⟨p1, k1, W2, hrun, hc2, hkp, hT3, hF3⟩ := (HT.out.1.below Hw4.out).more ⟨ot, on, pt, pn, nm, true⟩ hl hc hW1
       obtain ⟨W3, hW3⟩ : ∃ W3, W3 = W2.setCell ⟨gt, 0, none⟩ (.slice p1 (m + 1) k1) := ⟨_, rfl⟩
       rw [← hW3] at hT3 hF3
       have H3 : Hid (TreeY W3 base gt (T ++ [⟨ot, on, pt, pn, nm, true⟩]) s ∧ Fy base w W3) := ⟨hT3, (Fy.of_below (HT.out.2.2.trans (Hw4.out.mono HT.out.2.2.size))).next hF3⟩
       have hbox : ∀ W, (W = W3 ∨ W = W2 ∨ W = W1 ∨ W = w4.drew) → W.heap[bx]? = some (.cells #[.int .i64 t, .int .i64 n, .int .i64 sq, .int .i64 1, .int .i64 ot, .int .i64 on, .int .i64 pt, .int .i64 pn, .string nm, .slice dp dl dc, .slice sp sl sc] 33 (0, 0)) := by
         rintro W (rfl | rfl | rfl | rfl)
         · exact hF3.keep hx (by decide) (by decide)
         · exact (hkp _ _ _ _ hx (by decide)).2
         · exact (hkp _ _ _ _ hx (by decide)).1
         · exact hx
       have c0 : w4.drew.cell? ⟨gt, 0, none⟩ = some (.slice p m c) := cellOf hc 0
       have c1 : W1.cell? ⟨gt, 0, none⟩ = some (.slice p m c) := cellOf (hkp _ _ _ _ hc (by decide)).1 0
       have c2 : W2.cell? ⟨gt, 0, none⟩ = some (.slice p m c) := cellOf hc2 0
       have f2 := frozenOf hc2 0
       have hmix := hmx
       have HSt : Hid (StepT T s ⟨t, n, sq, 1, ot, on, pt, pn, nm, dp, dl, dc, sp, sl, sc⟩ (T ++ [⟨ot, on, pt, pn, nm, true⟩]) s) := .make (.inl rfl) ht hd hf
       clear hc hx hkp hT3 hF3 hc2 hm hl
       go_wp2_with fail
       obtain ⟨LX1, hLX1⟩ : ∃ L : Unit → List (Option Tmp × Value), L = (fun _ : Unit => ([(some 27, .pointer (some ⟨gt, 0, none⟩)), (some 28, .pointer (some ⟨gt, 0, none⟩)), (some 29, .pointer (some ⟨gt, 0, none⟩)), (some 30, .pointer (some ⟨gt, 0, none⟩)), (some 31, .slice p m c), (some 32, .pointer (some ⟨bx, 4, none⟩)), (some 33, .agg #[.int .i64 ot, .int .i64 on]), (some 34, .pointer (some ⟨bx, 6, none⟩)), (some 35, .agg #[.int .i64 pt, .int .i64 pn]), (some 36, .pointer (some ⟨bx, 8, none⟩)), (some 37, .string nm), (some 38, .pointer (some ⟨bx, 3, none⟩)), (some 39, .int .i64 1), (some 40, .bool true), (some 41, .agg #[.int .i64 ot, .int .i64 on, .int .i64 pt, .int .i64 pn, .string nm, .bool true]), (some 42, .slice (some ⟨w4.heap.size, 0, none⟩) 1 1), (some 43, .slice p1 (m + 1) k1), (some 44, .pointer (some ⟨gt, 0, none⟩)), (some 45, .pointer (some ⟨gt, 0, none⟩)), (none, undef)] : List (Option Tmp × Value))) := ⟨_, rfl⟩
       have vv0 : ∀ g, vals (LX1 g) 0 = .pointer (some ⟨gt, 0, none⟩) := fun g => by rw [hLX1]; rfl
       have vv1 : ∀ g, vals (LX1 g) 1 = .pointer (some ⟨gt, 0, none⟩) := fun g => by rw [hLX1]; rfl
       have vv2 : ∀ g, vals (LX1 g) 2 = .pointer (some ⟨gt, 0, none⟩) := fun g => by rw [hLX1]; rfl
       have vv3 : ∀ g, vals (LX1 g) 3 = .pointer (some ⟨gt, 0, none⟩) := fun g => by rw [hLX1]; rfl
       have vv4 : ∀ g, vals (LX1 g) 4 = .slice p m c := fun g => by rw [hLX1]; rfl
       have vv5 : ∀ g, vals (LX1 g) 5 = .pointer (some ⟨bx, 4, none⟩) := fun g => by rw [hLX1]; rfl
       have vv6 : ∀ g, vals (LX1 g) 6 = .agg #[.int .i64 ot, .int .i64 on] := fun g => by rw [hLX1]; rfl
       have vv7 : ∀ g, vals (LX1 g) 7 = .pointer (some ⟨bx, 6, none⟩) := fun g => by rw [hLX1]; rfl
       have vv8 : ∀ g, vals (LX1 g) 8 = .agg #[.int .i64 pt, .int .i64 pn] := fun g => by rw [hLX1]; rfl
       have vv9 : ∀ g, vals (LX1 g) 9 = .pointer (some ⟨bx, 8, none⟩) := fun g => by rw [hLX1]; rfl
       have vv10 : ∀ g, vals (LX1 g) 10 = .string nm := fun g => by rw [hLX1]; rfl
       have vv11 : ∀ g, vals (LX1 g) 11 = .pointer (some ⟨bx, 3, none⟩) := fun g => by rw [hLX1]; rfl
       have vv12 : ∀ g, vals (LX1 g) 12 = .int .i64 1 := fun g => by rw [hLX1]; rfl
       have vv13 : ∀ g, vals (LX1 g) 13 = .bool true := fun g => by rw [hLX1]; rfl
       have vv14 : ∀ g, vals (LX1 g) 14 = .agg #[.int .i64 ot, .int .i64 on, .int .i64 pt, .int .i64 pn, .string nm, .bool true] := fun g => by rw [hLX1]; rfl
       have vv15 : ∀ g, vals (LX1 g) 15 = .slice (some ⟨w4.heap.size, 0, none⟩) 1 1 := fun g => by rw [hLX1]; rfl
       have vv16 : ∀ g, vals (LX1 g) 16 = .slice p1 (m + 1) k1 := fun g => by rw [hLX1]; rfl
       have vv17 : ∀ g, vals (LX1 g) 17 = .pointer (some ⟨gt, 0, none⟩) := fun g => by rw [hLX1]; rfl
       have vv18 : ∀ g, vals (LX1 g) 18 = .pointer (some ⟨gt, 0, none⟩) := fun g => by rw [hLX1]; rfl
       have vv19 : ∀ g, vals (LX1 g) 19 = undef := fun g => by rw [hLX1]; rfl
       refine region_laidg hmix (by kernel_rfl) 102 rfl (by kernel_rfl) () LX1 (fun g => by rw [hLX1]; rfl) (fun (_ : Unit) b W => W = if b 19 = true then W3 else if b 16 = true then W2 else if b 15 = true then W1 else w4.drew) rfl ?_ ?_
       · intro g b W io o a' hS hcl ho hb hd ev kp yl
         match io with
         | 0 =>
           simp only [qq] at ho; subst ho; have e0 : a'.tmps[0]?.getD undef = .pointer (some ⟨gt, 0, none⟩) := kp 0 (none_till (by kernel_rfl))
           refine doesg_value rfl nofun (v := .pointer (some ⟨gt, 0, none⟩)) (w' := W) ?_ ⟨g, fun _ _ => rfl, (vv0 g).symm, ?_⟩
           · simp [execOp, go_sem, e0]
           · simpa [did] using hS
         | 1 =>
           simp only [qq] at ho; subst ho; have e0 : a'.tmps[0]?.getD undef = .pointer (some ⟨gt, 0, none⟩) := kp 0 (none_till (by kernel_rfl))
           refine doesg_value rfl nofun (v := .pointer (some ⟨gt, 0, none⟩)) (w' := W) ?_ ⟨g, fun _ _ => rfl, (vv1 g).symm, ?_⟩
           · simp [execOp, go_sem, e0]
           · simpa [did] using hS
         | 2 =>
           simp only [qq] at ho; subst ho; have e28 := eD ev hd 1 28 (vv1 g)
           refine doesg_value rfl nofun (v := .pointer (some ⟨gt, 0, none⟩)) (w' := W) ?_ ⟨g, fun _ _ => rfl, (vv2 g).symm, ?_⟩
           · simp [execOp, go_sem, e28]
           · simpa [did] using hS
         | 3 =>
           simp only [qq] at ho; subst ho; have e29 := eD ev hd 2 29 (vv2 g)
           refine doesg_value rfl nofun (v := .pointer (some ⟨gt, 0, none⟩)) (w' := W) ?_ ⟨g, fun _ _ => rfl, (vv3 g).symm, ?_⟩
           · simp [execOp, go_sem, e29]
           · simpa [did] using hS
         | 4 =>
           simp only [qq] at ho; subst ho; have e30 := eD ev hd 3 30 (vv3 g); have h97 : b 19 = true → b 16 = true := fun h => hcl 19 _ rfl h ⟨16, .data⟩ (by simp) rfl
           have h7 : b 16 = false := by cases h : b 16; rfl; rw [hcl 16 _ rfl h ⟨4, .data⟩ (by simp) rfl] at hb; cases hb
           have h9 : b 19 = false := by cases h : b 19; rfl; rw [h97 h] at h7; cases h7
           rw [h9, h7] at hS; have hl : W.cell? ⟨gt, 0, none⟩ = some (.slice p m c) := by (rw [hS]; cases b 15; exact c0; exact c1)
           refine doesg_value rfl nofun (v := .slice p m c) (w' := W) ?_ ⟨g, fun _ _ => rfl, (vv4 g).symm, ?_⟩
           · simp [execOp, go_sem, e30, hl]
           · simpa [did, h9, h7] using hS
         | 5 =>
           simp only [qq] at ho; subst ho; have e3 : a'.tmps[3]?.getD undef = .pointer (some ⟨bx, 0, none⟩) := kp 3 (none_till (by kernel_rfl))
           refine doesg_value rfl nofun (v := .pointer (some ⟨bx, 4, none⟩)) (w' := W) ?_ ⟨g, fun _ _ => rfl, (vv5 g).symm, ?_⟩
           · simp [execOp, go_sem, e3]
           · simpa [did] using hS
         | 6 =>
           simp only [qq] at ho; subst ho; have e32 := eD ev hd 5 32 (vv5 g); have hW4 : W = W3 ∨ W = W2 ∨ W = W1 ∨ W = w4.drew := by (rw [hS]; cases b 19 <;> cases b 16 <;> cases b 15 <;> simp)
           have hx := hbox W hW4; have x4 : W.cell? ⟨bx, 4, none⟩ = some (.int .i64 ot) := cellOf hx 4; have x5 : W.cell? ⟨bx, 5, none⟩ = some (.int .i64 on) := cellOf hx 5
           refine doesg_value rfl nofun (v := .agg #[.int .i64 ot, .int .i64 on]) (w' := W) ?_ ⟨g, fun _ _ => rfl, (vv6 g).symm, ?_⟩
           · simp [execOp, go_sem, e32, x4, x5]
           · simpa [did] using hS
         | 7 =>
           simp only [qq] at ho; subst ho; have e3 : a'.tmps[3]?.getD undef = .pointer (some ⟨bx, 0, none⟩) := kp 3 (none_till (by kernel_rfl))
           refine doesg_value rfl nofun (v := .pointer (some ⟨bx, 6, none⟩)) (w' := W) ?_ ⟨g, fun _ _ => rfl, (vv7 g).symm, ?_⟩
           · simp [execOp, go_sem, e3]
           · simpa [did] using hS
         | 8 =>
           simp only [qq] at ho; subst ho; have e34 := eD ev hd 7 34 (vv7 g); have hW4 : W = W3 ∨ W = W2 ∨ W = W1 ∨ W = w4.drew := by (rw [hS]; cases b 19 <;> cases b 16 <;> cases b 15 <;> simp)
           have hx := hbox W hW4; have x6 : W.cell? ⟨bx, 6, none⟩ = some (.int .i64 pt) := cellOf hx 6; have x7 : W.cell? ⟨bx, 7, none⟩ = some (.int .i64 pn) := cellOf hx 7
           refine doesg_value rfl nofun (v := .agg #[.int .i64 pt, .int .i64 pn]) (w' := W) ?_ ⟨g, fun _ _ => rfl, (vv8 g).symm, ?_⟩
           · simp [execOp, go_sem, e34, x6, x7]
           · simpa [did] using hS
         | 9 =>
           simp only [qq] at ho; subst ho; have e3 : a'.tmps[3]?.getD undef = .pointer (some ⟨bx, 0, none⟩) := kp 3 (none_till (by kernel_rfl))
           refine doesg_value rfl nofun (v := .pointer (some ⟨bx, 8, none⟩)) (w' := W) ?_ ⟨g, fun _ _ => rfl, (vv9 g).symm, ?_⟩
           · simp [execOp, go_sem, e3]
           · simpa [did] using hS
         | 10 =>
           simp only [qq] at ho; subst ho; have e36 := eD ev hd 9 36 (vv9 g); have hW4 : W = W3 ∨ W = W2 ∨ W = W1 ∨ W = w4.drew := by (rw [hS]; cases b 19 <;> cases b 16 <;> cases b 15 <;> simp)
           have hx := hbox W hW4; have x8 : W.cell? ⟨bx, 8, none⟩ = some (.string nm) := cellOf hx 8
           refine doesg_value rfl nofun (v := .string nm) (w' := W) ?_ ⟨g, fun _ _ => rfl, (vv10 g).symm, ?_⟩
           · simp [execOp, go_sem, e36, x8]
           · simpa [did] using hS
         | 11 =>
           simp only [qq] at ho; subst ho; have e3 : a'.tmps[3]?.getD undef = .pointer (some ⟨bx, 0, none⟩) := kp 3 (none_till (by kernel_rfl))
           refine doesg_value rfl nofun (v := .pointer (some ⟨bx, 3, none⟩)) (w' := W) ?_ ⟨g, fun _ _ => rfl, (vv11 g).symm, ?_⟩
           · simp [execOp, go_sem, e3]
           · simpa [did] using hS
         | 12 =>
           simp only [qq] at ho; subst ho; have e38 := eD ev hd 11 38 (vv11 g); have hW4 : W = W3 ∨ W = W2 ∨ W = W1 ∨ W = w4.drew := by (rw [hS]; cases b 19 <;> cases b 16 <;> cases b 15 <;> simp)
           have hx := hbox W hW4; have x3 : W.cell? ⟨bx, 3, none⟩ = some (.int .i64 1) := cellOf hx 3
           refine doesg_value rfl nofun (v := .int .i64 1) (w' := W) ?_ ⟨g, fun _ _ => rfl, (vv12 g).symm, ?_⟩
           · simp [execOp, go_sem, e38, x3]
           · simpa [did] using hS
         | 13 =>
           simp only [qq] at ho; subst ho; have e39 := eD ev hd 12 39 (vv12 g)
           refine doesg_value rfl nofun (v := .bool true) (w' := W) ?_ ⟨g, fun _ _ => rfl, (vv13 g).symm, ?_⟩
           · simp [execOp, go_sem, e39]
           · simpa [did] using hS
         | 14 =>
           simp only [qq] at ho; subst ho; have e33 := eD ev hd 6 33 (vv6 g); have e35 := eD ev hd 8 35 (vv8 g); have e37 := eD ev hd 10 37 (vv10 g); have e40 := eD ev hd 13 40 (vv13 g)
           refine doesg_value rfl nofun (v := .agg #[.int .i64 ot, .int .i64 on, .int .i64 pt, .int .i64 pn, .string nm, .bool true]) (w' := W) ?_ ⟨g, fun _ _ => rfl, (vv14 g).symm, ?_⟩
           · simp [execOp, go_sem, e33, e35, e37, e40]
           · simpa [did] using hS
         | 15 =>
           simp only [qq] at ho; subst ho; have e41 := eD ev hd 14 41 (vv14 g); have h97 : b 19 = true → b 16 = true := fun h => hcl 19 _ rfl h ⟨16, .data⟩ (by simp) rfl
           have h7 : b 16 = false := by cases h : b 16; rfl; rw [hcl 16 _ rfl h ⟨15, .data⟩ (by simp) rfl] at hb; cases hb
           have h9 : b 19 = false := by cases h : b 19; rfl; rw [h97 h] at h7; cases h7
           rw [h9, h7, hb] at hS; have hW : W = w4.drew := hS; subst hW
           refine doesg_value rfl nofun (v := .slice (some ⟨w4.heap.size, 0, none⟩) 1 1) (w' := W1) ?_ ⟨g, fun _ _ => rfl, (vv15 g).symm, ?_⟩
           · simp [execOp, go_sem, e41, hW1]
           · simp [did, h9, h7]
         | 16 =>
           simp only [qq] at ho; subst ho; have p15 := hD hd 15; have e31 := eD ev hd 4 31 (vv4 g); have e42 := (ev 15 42 rfl p15).trans (vv15 g); have h97 : b 19 = true → b 16 = true := fun h => hcl 19 _ rfl h ⟨16, .data⟩ (by simp) rfl
           have h9 : b 19 = false := by cases h : b 19; rfl; rw [h97 h] at hb; cases hb
           rw [h9, hb, p15] at hS; have hW : W = W1 := hS; subst hW; have q7 : a'.eval (.tmp 31) = .slice p m c := by simp [go_sem, e31]
           have q10 : a'.eval (.tmp 42) = .slice (some ⟨w4.heap.size, 0, none⟩) 1 1 := by simp [go_sem, e42]
           refine doesg_value rfl nofun (v := .slice p1 (m + 1) k1) (w' := W2) ?_ ⟨g, fun _ _ => rfl, (vv16 g).symm, ?_⟩
           · simp only [execOp, resolve, invoke, builtin, Sem.run_bind, Sem.run_pure, Result.andThen_ok, List.map_toArray, List.map_cons, List.map_nil, q7, q10, hrun]
           · simp [did, h9]
         | 17 =>
           simp only [qq] at ho; subst ho; have e27 := eD ev hd 0 27 (vv0 g)
           refine doesg_value rfl nofun (v := .pointer (some ⟨gt, 0, none⟩)) (w' := W) ?_ ⟨g, fun _ _ => rfl, (vv17 g).symm, ?_⟩
           · simp [execOp, go_sem, e27]
           · simpa [did] using hS
         | 18 =>
           simp only [qq] at ho; subst ho; have e44 := eD ev hd 17 44 (vv17 g)
           refine doesg_value rfl nofun (v := .pointer (some ⟨gt, 0, none⟩)) (w' := W) ?_ ⟨g, fun _ _ => rfl, (vv18 g).symm, ?_⟩
           · simp [execOp, go_sem, e44]
           · simpa [did] using hS
         | 19 =>
           simp only [qq] at ho; subst ho; have p16 := hD hd 16; have e45 := eD ev hd 18 45 (vv18 g); have e43 := (ev 16 43 rfl p16).trans (vv16 g); rw [hb, p16] at hS; have hW : W = W2 := hS; subst hW
           refine doesg_skip rfl nofun (w' := W3) ?_ ⟨g, fun _ _ => rfl, (vv19 g).symm, ?_⟩
           · simp [execOp, go_sem, e45, e43, c2, f2, hW3]
           · exact by simp [did]
         | k + 20 => simp at ho
       · intro _ b W hS hall
         subst hLX1
         rw [hall 19 (by decide)] at hS
         have hW : W = W3 := hS
         clear hS
         subst hW
         clear hW3 hall hrun c0 c1 c2 f2 hW1 hbox
         go_wp2_with fail
         go_end0
         exact ⟨rfl, _, _, HSt.out, H3.out.1, H3.out.2⟩
set_option maxRecDepth 8000 in
set_option maxHeartbeats 4000000 in
theorem ystep_mk2 (base gt s : Nat) (T : List OB) (t n sq ot on pt pn : Int) (nm : ByteArray) (dp : Option Addr) (dl dc : Nat) (sp : Option Addr) (sl sc : Nat) (w : World) (h : TreeY w base gt T s) (hl : T.length < 999999) (hs : s < 1000000) :
   Calls Tryz.prog 76 #[.pointer (some ⟨gt, 0, none⟩), opgv ⟨t, n, sq, 2, ot, on, pt, pn, nm, dp, dl, dc, sp, sl, sc⟩] w (StepPost base gt s T ⟨t, n, sq, 2, ot, on, pt, pn, nm, dp, dl, dc, sp, sl, sc⟩ w) := by
 obtain ⟨w1, hw1⟩ : ∃ w1, w1 = w.alloc (.cells #[.int .i64 t, .int .i64 n, .int .i64 sq, .int .i64 2, .int .i64 ot, .int .i64 on, .int .i64 pt, .int .i64 pn, .string nm, .slice dp dl dc, .slice sp sl sc] 33) := ⟨_, rfl⟩
 have hB1 : Below w.heap.size w w1 := by rw [hw1]; exact (below_new w _).out
 have hx1 : w1.heap[w.heap.size]? = some (.cells #[.int .i64 t, .int .i64 n, .int .i64 sq, .int .i64 2, .int .i64 ot, .int .i64 on, .int .i64 pt, .int .i64 pn, .string nm, .slice dp dl dc, .slice sp sl sc] 33 (0, 0)) := by rw [hw1]; exact heap_alloc_new w _
 have HT : Hid (TreeY w1 base gt T s ∧ w1.heap[w.heap.size]? = some (.cells #[.int .i64 t, .int .i64 n, .int .i64 sq, .int .i64 2, .int .i64 ot, .int .i64 on, .int .i64 pt, .int .i64 pn, .string nm, .slice dp dl dc, .slice sp sl sc] 33 (0, 0)) ∧ Below w.heap.size w w1) := ⟨h.below hB1, hx1, hB1⟩
 have H0 : Hid (TreeY w base gt T s) := h
 have HW : Hid (w1 = w.alloc (.cells #[.int .i64 t, .int .i64 n, .int .i64 sq, .int .i64 2, .int .i64 ot, .int .i64 on, .int .i64 pt, .int .i64 pn, .string nm, .slice dp dl dc, .slice sp sl sc] 33)) := hw1
 have sI : (s : Int) < 1000000 := by omega
 obtain ⟨bx, hbx⟩ : ∃ bx, w.heap.size = bx := ⟨_, rfl⟩
 have HBX : Hid (w.heap.size = bx) := hbx
 rw [hbx] at hx1
 have HX : Hid (w1.heap[bx]? = some (.cells #[.int .i64 t, .int .i64 n, .int .i64 sq, .int .i64 2, .int .i64 ot, .int .i64 on, .int .i64 pt, .int .i64 pn, .string nm, .slice dp dl dc, .slice sp sl sc] 33 (0, 0))) := hx1
 clear hw1 hB1 hx1 h hbx
 go_enter Tryz.func76, Tryz.ntmps76
 go_wp2_with fail
 rw [← HW.out, HBX.out]
 go_at_call 78
 refine (ytrash_any pt pn w1).mono ?_
 rintro e w2 ⟨rfl, hB⟩
 have Hw2 : Hid (Below w1.heap.size w1 w2) := hB
 clear hB
 cases ht : trashB pt pn
 case true =>
   obtain ⟨p, c, hc, HS⟩ := H0.out.skipped (W := w2) (HT.out.2.2.trans (Hw2.out.mono HT.out.2.2.size))
   have c1 : w2.cell? ⟨gt, 1, none⟩ = some (.int .i64 (s : Nat)) := cellOf hc 1
   have f1 := frozenOf hc 1
   clear hc
   go_wp2_with fail
   go_end0
   exact ⟨rfl, _, _, .made (.inr rfl) (.inl ht), HS.out.1, HS.out.2⟩
 case false =>
   have hx := (Hw2.out.block _ (block_lt HX.out)).trans HX.out
   have x4 : w2.cell? ⟨bx, 4, none⟩ = some (.int .i64 ot) := cellOf hx 4
   have x5 : w2.cell? ⟨bx, 5, none⟩ = some (.int .i64 on) := cellOf hx 5
   have x6 : w2.cell? ⟨bx, 6, none⟩ = some (.int .i64 pt) := cellOf hx 6
   have x7 : w2.cell? ⟨bx, 7, none⟩ = some (.int .i64 pn) := cellOf hx 7
   clear hx
   go_wp2_with fail
   go_at_call 37
   refine (ydir_any base gt s T pt pn w2 (HT.out.1.below Hw2.out)).mono ?_
   rintro e w3 ⟨rfl, hB⟩
   have Hw3 : Hid (Below w1.heap.size w1 w3) := Hw2.out.trans (hB.mono Hw2.out.size)
   clear hB
   clear x4 x5 x6 x7
   cases hd : dirT T pt pn
   case false =>
     obtain ⟨p, c, hc, HS⟩ := H0.out.skipped (W := w3) (HT.out.2.2.trans (Hw3.out.mono HT.out.2.2.size))
     have c1 : w3.cell? ⟨gt, 1, none⟩ = some (.int .i64 (s : Nat)) := cellOf hc 1
     have f1 := frozenOf hc 1
     clear hc
     go_wp2_with fail
     go_end0
     exact ⟨rfl, _, _, .made (.inr rfl) (.inr (.inl hd)), HS.out.1, HS.out.2⟩
   case true =>
     have hx := (Hw3.out.block _ (block_lt HX.out)).trans HX.out
     have x4 : w3.cell? ⟨bx, 4, none⟩ = some (.int .i64 ot) := cellOf hx 4
     have x5 : w3.cell? ⟨bx, 5, none⟩ = some (.int .i64 on) := cellOf hx 5
     have x6 : w3.cell? ⟨bx, 6, none⟩ = some (.int .i64 pt) := cellOf hx 6
     have x7 : w3.cell? ⟨bx, 7, none⟩ = some (.int .i64 pn) := cellOf hx 7
     clear hx
     go_wp2_with fail
     go_at_call 14
     refine (yfind_any base gt s T ot on w3 (HT.out.1.below Hw3.out)).mono ?_
     rintro e w4 ⟨rfl, hB⟩
     have Hw4 : Hid (Below w1.heap.size w1 w4) := Hw3.out.trans (hB.mono Hw3.out.size)
     clear hB
     clear x4 x5 x6 x7
     cases hf : findT T ot on with
     | some k =>
       rw [fndZ_some hf]
       have HF : Hid (findT T ot on = some k) := hf
       clear hf
       have kI : ¬ ((k : Int) < 0) := by omega
       generalize (k : Int) = z at kI ⊢
       have kD : decide (z < 0) = false := by simpa using kI
       obtain ⟨p, c, hc, HS⟩ := H0.out.skipped (W := w4) (HT.out.2.2.trans (Hw4.out.mono HT.out.2.2.size))
       have c1 : w4.cell? ⟨gt, 1, none⟩ = some (.int .i64 (s : Nat)) := cellOf hc 1
       have f1 := frozenOf hc 1
       clear hc
       go_wp2_with fail
       go_end0
       exact ⟨rfl, _, _, .made (.inr rfl) (.inr (.inr ⟨k, HF.out⟩)), HS.out.1, HS.out.2⟩
     | none =>
       rw [fndZ_none hf]
       obtain ⟨p, c, hc, _⟩ := (HT.out.1.below Hw4.out).view
       obtain ⟨m, hm⟩ : ∃ m, T.length = m := ⟨_, rfl⟩
       rw [hm] at hc
       have hx := (Hw4.out.block _ (block_lt HX.out)).trans HX.out
       obtain ⟨W1, hW1⟩ : ∃ W1, W1 = w4.drew.alloc (.cells #[.int .i64 ot, .int .i64 on, .int .i64 pt, .int .i64 pn, .string nm, .bool false] 48) := ⟨_, rfl⟩
       obtain ⟨p1, k1, W2, hrun, hc2, hkp, hT3, hF3⟩ := (HT.out.1.below Hw4.out).more ⟨ot, on, pt, pn, nm, false⟩ hl hc hW1
       obtain ⟨W3, hW3⟩ : ∃ W3, W3 = W2.setCell ⟨gt, 0, none⟩ (.slice p1 (m + 1) k1) := ⟨_, rfl⟩
       rw [← hW3] at hT3 hF3
       have H3 : Hid (TreeY W3 base gt (T ++ [⟨ot, on, pt, pn, nm, false⟩]) s ∧ Fy base w W3) := ⟨hT3, (Fy.of_below (HT.out.2.2.trans (Hw4.out.mono HT.out.2.2.size))).next hF3⟩
       have hbox : ∀ W, (W = W3 ∨ W = W2 ∨ W = W1 ∨ W = w4.drew) → W.heap[bx]? = some (.cells #[.int .i64 t, .int .i64 n, .int .i64 sq, .int .i64 2, .int .i64 ot, .int .i64 on, .int .i64 pt, .int .i64 pn, .string nm, .slice dp dl dc, .slice sp sl sc] 33 (0, 0)) := by
         rintro W (rfl | rfl | rfl | rfl)
         · exact hF3.keep hx (by decide) (by decide)
         · exact (hkp _ _ _ _ hx (by decide)).2
         · exact (hkp _ _ _ _ hx (by decide)).1
         · exact hx
       have c0 : w4.drew.cell? ⟨gt, 0, none⟩ = some (.slice p m c) := cellOf hc 0
       have c1 : W1.cell? ⟨gt, 0, none⟩ = some (.slice p m c) := cellOf (hkp _ _ _ _ hc (by decide)).1 0
       have c2 : W2.cell? ⟨gt, 0, none⟩ = some (.slice p m c) := cellOf hc2 0
       have f2 := frozenOf hc2 0
       have hmix := hmx
       have HSt : Hid (StepT T s ⟨t, n, sq, 2, ot, on, pt, pn, nm, dp, dl, dc, sp, sl, sc⟩ (T ++ [⟨ot, on, pt, pn, nm, false⟩]) s) := .make (.inr rfl) ht hd hf
       clear hc hx hkp hT3 hF3 hc2 hm hl
       go_wp2_with fail
       obtain ⟨LX2, hLX2⟩ : ∃ L : Unit → List (Option Tmp × Value), L = (fun _ : Unit => ([(some 27, .pointer (some ⟨gt, 0, none⟩)), (some 28, .pointer (some ⟨gt, 0, none⟩)), (some 29, .pointer (some ⟨gt, 0, none⟩)), (some 30, .pointer (some ⟨gt, 0, none⟩)), (some 31, .slice p m c), (some 32, .pointer (some ⟨bx, 4, none⟩)), (some 33, .agg #[.int .i64 ot, .int .i64 on]), (some 34, .pointer (some ⟨bx, 6, none⟩)), (some 35, .agg #[.int .i64 pt, .int .i64 pn]), (some 36, .pointer (some ⟨bx, 8, none⟩)), (some 37, .string nm), (some 38, .pointer (some ⟨bx, 3, none⟩)), (some 39, .int .i64 2), (some 40, .bool false), (some 41, .agg #[.int .i64 ot, .int .i64 on, .int .i64 pt, .int .i64 pn, .string nm, .bool false]), (some 42, .slice (some ⟨w4.heap.size, 0, none⟩) 1 1), (some 43, .slice p1 (m + 1) k1), (some 44, .pointer (some ⟨gt, 0, none⟩)), (some 45, .pointer (some ⟨gt, 0, none⟩)), (none, undef)] : List (Option Tmp × Value))) := ⟨_, rfl⟩
       have vv0 : ∀ g, vals (LX2 g) 0 = .pointer (some ⟨gt, 0, none⟩) := fun g => by rw [hLX2]; rfl
       have vv1 : ∀ g, vals (LX2 g) 1 = .pointer (some ⟨gt, 0, none⟩) := fun g => by rw [hLX2]; rfl
       have vv2 : ∀ g, vals (LX2 g) 2 = .pointer (some ⟨gt, 0, none⟩) := fun g => by rw [hLX2]; rfl
       have vv3 : ∀ g, vals (LX2 g) 3 = .pointer (some ⟨gt, 0, none⟩) := fun g => by rw [hLX2]; rfl
       have vv4 : ∀ g, vals (LX2 g) 4 = .slice p m c := fun g => by rw [hLX2]; rfl
       have vv5 : ∀ g, vals (LX2 g) 5 = .pointer (some ⟨bx, 4, none⟩) := fun g => by rw [hLX2]; rfl
       have vv6 : ∀ g, vals (LX2 g) 6 = .agg #[.int .i64 ot, .int .i64 on] := fun g => by rw [hLX2]; rfl
       have vv7 : ∀ g, vals (LX2 g) 7 = .pointer (some ⟨bx, 6, none⟩) := fun g => by rw [hLX2]; rfl
       have vv8 : ∀ g, vals (LX2 g) 8 = .agg #[.int .i64 pt, .int .i64 pn] := fun g => by rw [hLX2]; rfl
       have vv9 : ∀ g, vals (LX2 g) 9 = .pointer (some ⟨bx, 8, none⟩) := fun g => by rw [hLX2]; rfl
       have vv10 : ∀ g, vals (LX2 g) 10 = .string nm := fun g => by rw [hLX2]; rfl
       have vv11 : ∀ g, vals (LX2 g) 11 = .pointer (some ⟨bx, 3, none⟩) := fun g => by rw [hLX2]; rfl
       have vv12 : ∀ g, vals (LX2 g) 12 = .int .i64 2 := fun g => by rw [hLX2]; rfl
       have vv13 : ∀ g, vals (LX2 g) 13 = .bool false := fun g => by rw [hLX2]; rfl
       have vv14 : ∀ g, vals (LX2 g) 14 = .agg #[.int .i64 ot, .int .i64 on, .int .i64 pt, .int .i64 pn, .string nm, .bool false] := fun g => by rw [hLX2]; rfl
       have vv15 : ∀ g, vals (LX2 g) 15 = .slice (some ⟨w4.heap.size, 0, none⟩) 1 1 := fun g => by rw [hLX2]; rfl
       have vv16 : ∀ g, vals (LX2 g) 16 = .slice p1 (m + 1) k1 := fun g => by rw [hLX2]; rfl
       have vv17 : ∀ g, vals (LX2 g) 17 = .pointer (some ⟨gt, 0, none⟩) := fun g => by rw [hLX2]; rfl
       have vv18 : ∀ g, vals (LX2 g) 18 = .pointer (some ⟨gt, 0, none⟩) := fun g => by rw [hLX2]; rfl
       have vv19 : ∀ g, vals (LX2 g) 19 = undef := fun g => by rw [hLX2]; rfl
       refine region_laidg hmix (by kernel_rfl) 102 rfl (by kernel_rfl) () LX2 (fun g => by rw [hLX2]; rfl) (fun (_ : Unit) b W => W = if b 19 = true then W3 else if b 16 = true then W2 else if b 15 = true then W1 else w4.drew) rfl ?_ ?_
       · intro g b W io o a' hS hcl ho hb hd ev kp yl
         match io with
         | 0 =>
           simp only [qq] at ho; subst ho; have e0 : a'.tmps[0]?.getD undef = .pointer (some ⟨gt, 0, none⟩) := kp 0 (none_till (by kernel_rfl))
           refine doesg_value rfl nofun (v := .pointer (some ⟨gt, 0, none⟩)) (w' := W) ?_ ⟨g, fun _ _ => rfl, (vv0 g).symm, ?_⟩
           · simp [execOp, go_sem, e0]
           · simpa [did] using hS
         | 1 =>
           simp only [qq] at ho; subst ho; have e0 : a'.tmps[0]?.getD undef = .pointer (some ⟨gt, 0, none⟩) := kp 0 (none_till (by kernel_rfl))
           refine doesg_value rfl nofun (v := .pointer (some ⟨gt, 0, none⟩)) (w' := W) ?_ ⟨g, fun _ _ => rfl, (vv1 g).symm, ?_⟩
           · simp [execOp, go_sem, e0]
           · simpa [did] using hS
         | 2 =>
           simp only [qq] at ho; subst ho; have e28 := eD ev hd 1 28 (vv1 g)
           refine doesg_value rfl nofun (v := .pointer (some ⟨gt, 0, none⟩)) (w' := W) ?_ ⟨g, fun _ _ => rfl, (vv2 g).symm, ?_⟩
           · simp [execOp, go_sem, e28]
           · simpa [did] using hS
         | 3 =>
           simp only [qq] at ho; subst ho; have e29 := eD ev hd 2 29 (vv2 g)
           refine doesg_value rfl nofun (v := .pointer (some ⟨gt, 0, none⟩)) (w' := W) ?_ ⟨g, fun _ _ => rfl, (vv3 g).symm, ?_⟩
           · simp [execOp, go_sem, e29]
           · simpa [did] using hS
         | 4 =>
           simp only [qq] at ho; subst ho; have e30 := eD ev hd 3 30 (vv3 g); have h97 : b 19 = true → b 16 = true := fun h => hcl 19 _ rfl h ⟨16, .data⟩ (by simp) rfl
           have h7 : b 16 = false := by cases h : b 16; rfl; rw [hcl 16 _ rfl h ⟨4, .data⟩ (by simp) rfl] at hb; cases hb
           have h9 : b 19 = false := by cases h : b 19; rfl; rw [h97 h] at h7; cases h7
           rw [h9, h7] at hS; have hl : W.cell? ⟨gt, 0, none⟩ = some (.slice p m c) := by (rw [hS]; cases b 15; exact c0; exact c1)
           refine doesg_value rfl nofun (v := .slice p m c) (w' := W) ?_ ⟨g, fun _ _ => rfl, (vv4 g).symm, ?_⟩
           · simp [execOp, go_sem, e30, hl]
           · simpa [did, h9, h7] using hS
         | 5 =>
           simp only [qq] at ho; subst ho; have e3 : a'.tmps[3]?.getD undef = .pointer (some ⟨bx, 0, none⟩) := kp 3 (none_till (by kernel_rfl))
           refine doesg_value rfl nofun (v := .pointer (some ⟨bx, 4, none⟩)) (w' := W) ?_ ⟨g, fun _ _ => rfl, (vv5 g).symm, ?_⟩
           · simp [execOp, go_sem, e3]
           · simpa [did] using hS
         | 6 =>
           simp only [qq] at ho; subst ho; have e32 := eD ev hd 5 32 (vv5 g); have hW4 : W = W3 ∨ W = W2 ∨ W = W1 ∨ W = w4.drew := by (rw [hS]; cases b 19 <;> cases b 16 <;> cases b 15 <;> simp)
           have hx := hbox W hW4; have x4 : W.cell? ⟨bx, 4, none⟩ = some (.int .i64 ot) := cellOf hx 4; have x5 : W.cell? ⟨bx, 5, none⟩ = some (.int .i64 on) := cellOf hx 5
           refine doesg_value rfl nofun (v := .agg #[.int .i64 ot, .int .i64 on]) (w' := W) ?_ ⟨g, fun _ _ => rfl, (vv6 g).symm, ?_⟩
           · simp [execOp, go_sem, e32, x4, x5]
           · simpa [did] using hS
         | 7 =>
           simp only [qq] at ho; subst ho; have e3 : a'.tmps[3]?.getD undef = .pointer (some ⟨bx, 0, none⟩) := kp 3 (none_till (by kernel_rfl))
           refine doesg_value rfl nofun (v := .pointer (some ⟨bx, 6, none⟩)) (w' := W) ?_ ⟨g, fun _ _ => rfl, (vv7 g).symm, ?_⟩
           · simp [execOp, go_sem, e3]
           · simpa [did] using hS
         | 8 =>
           simp only [qq] at ho; subst ho; have e34 := eD ev hd 7 34 (vv7 g); have hW4 : W = W3 ∨ W = W2 ∨ W = W1 ∨ W = w4.drew := by (rw [hS]; cases b 19 <;> cases b 16 <;> cases b 15 <;> simp)
           have hx := hbox W hW4; have x6 : W.cell? ⟨bx, 6, none⟩ = some (.int .i64 pt) := cellOf hx 6; have x7 : W.cell? ⟨bx, 7, none⟩ = some (.int .i64 pn) := cellOf hx 7
           refine doesg_value rfl nofun (v := .agg #[.int .i64 pt, .int .i64 pn]) (w' := W) ?_ ⟨g, fun _ _ => rfl, (vv8 g).symm, ?_⟩
           · simp [execOp, go_sem, e34, x6, x7]
           · simpa [did] using hS
         | 9 =>
           simp only [qq] at ho; subst ho; have e3 : a'.tmps[3]?.getD undef = .pointer (some ⟨bx, 0, none⟩) := kp 3 (none_till (by kernel_rfl))
           refine doesg_value rfl nofun (v := .pointer (some ⟨bx, 8, none⟩)) (w' := W) ?_ ⟨g, fun _ _ => rfl, (vv9 g).symm, ?_⟩
           · simp [execOp, go_sem, e3]
           · simpa [did] using hS
         | 10 =>
           simp only [qq] at ho; subst ho; have e36 := eD ev hd 9 36 (vv9 g); have hW4 : W = W3 ∨ W = W2 ∨ W = W1 ∨ W = w4.drew := by (rw [hS]; cases b 19 <;> cases b 16 <;> cases b 15 <;> simp)
           have hx := hbox W hW4; have x8 : W.cell? ⟨bx, 8, none⟩ = some (.string nm) := cellOf hx 8
           refine doesg_value rfl nofun (v := .string nm) (w' := W) ?_ ⟨g, fun _ _ => rfl, (vv10 g).symm, ?_⟩
           · simp [execOp, go_sem, e36, x8]
           · simpa [did] using hS
         | 11 =>
           simp only [qq] at ho; subst ho; have e3 : a'.tmps[3]?.getD undef = .pointer (some ⟨bx, 0, none⟩) := kp 3 (none_till (by kernel_rfl))
           refine doesg_value rfl nofun (v := .pointer (some ⟨bx, 3, none⟩)) (w' := W) ?_ ⟨g, fun _ _ => rfl, (vv11 g).symm, ?_⟩
           · simp [execOp, go_sem, e3]
           · simpa [did] using hS
         | 12 =>
           simp only [qq] at ho; subst ho; have e38 := eD ev hd 11 38 (vv11 g); have hW4 : W = W3 ∨ W = W2 ∨ W = W1 ∨ W = w4.drew := by (rw [hS]; cases b 19 <;> cases b 16 <;> cases b 15 <;> simp)
           have hx := hbox W hW4; have x3 : W.cell? ⟨bx, 3, none⟩ = some (.int .i64 2) := cellOf hx 3
           refine doesg_value rfl nofun (v := .int .i64 2) (w' := W) ?_ ⟨g, fun _ _ => rfl, (vv12 g).symm, ?_⟩
           · simp [execOp, go_sem, e38, x3]
           · simpa [did] using hS
         | 13 =>
           simp only [qq] at ho; subst ho; have e39 := eD ev hd 12 39 (vv12 g)
           refine doesg_value rfl nofun (v := .bool false) (w' := W) ?_ ⟨g, fun _ _ => rfl, (vv13 g).symm, ?_⟩
           · simp [execOp, go_sem, e39]
           · simpa [did] using hS
         | 14 =>
           simp only [qq] at ho; subst ho; have e33 := eD ev hd 6 33 (vv6 g); have e35 := eD ev hd 8 35 (vv8 g); have e37 := eD ev hd 10 37 (vv10 g); have e40 := eD ev hd 13 40 (vv13 g)
           refine doesg_value rfl nofun (v := .agg #[.int .i64 ot, .int .i64 on, .int .i64 pt, .int .i64 pn, .string nm, .bool false]) (w' := W) ?_ ⟨g, fun _ _ => rfl, (vv14 g).symm, ?_⟩
           · simp [execOp, go_sem, e33, e35, e37, e40]
           · simpa [did] using hS
         | 15 =>
           simp only [qq] at ho; subst ho; have e41 := eD ev hd 14 41 (vv14 g); have h97 : b 19 = true → b 16 = true := fun h => hcl 19 _ rfl h ⟨16, .data⟩ (by simp) rfl
           have h7 : b 16 = false := by cases h : b 16; rfl; rw [hcl 16 _ rfl h ⟨15, .data⟩ (by simp) rfl] at hb; cases hb
           have h9 : b 19 = false := by cases h : b 19; rfl; rw [h97 h] at h7; cases h7
           rw [h9, h7, hb] at hS; have hW : W = w4.drew := hS; subst hW
           refine doesg_value rfl nofun (v := .slice (some ⟨w4.heap.size, 0, none⟩) 1 1) (w' := W1) ?_ ⟨g, fun _ _ => rfl, (vv15 g).symm, ?_⟩
           · simp [execOp, go_sem, e41, hW1]
           · simp [did, h9, h7]
         | 16 =>
           simp only [qq] at ho; subst ho; have p15 := hD hd 15; have e31 := eD ev hd 4 31 (vv4 g); have e42 := (ev 15 42 rfl p15).trans (vv15 g); have h97 : b 19 = true → b 16 = true := fun h => hcl 19 _ rfl h ⟨16, .data⟩ (by simp) rfl
           have h9 : b 19 = false := by cases h : b 19; rfl; rw [h97 h] at hb; cases hb
           rw [h9, hb, p15] at hS; have hW : W = W1 := hS; subst hW; have q7 : a'.eval (.tmp 31) = .slice p m c := by simp [go_sem, e31]
           have q10 : a'.eval (.tmp 42) = .slice (some ⟨w4.heap.size, 0, none⟩) 1 1 := by simp [go_sem, e42]
           refine doesg_value rfl nofun (v := .slice p1 (m + 1) k1) (w' := W2) ?_ ⟨g, fun _ _ => rfl, (vv16 g).symm, ?_⟩
           · simp only [execOp, resolve, invoke, builtin, Sem.run_bind, Sem.run_pure, Result.andThen_ok, List.map_toArray, List.map_cons, List.map_nil, q7, q10, hrun]
           · simp [did, h9]
         | 17 =>
           simp only [qq] at ho; subst ho; have e27 := eD ev hd 0 27 (vv0 g)
           refine doesg_value rfl nofun (v := .pointer (some ⟨gt, 0, none⟩)) (w' := W) ?_ ⟨g, fun _ _ => rfl, (vv17 g).symm, ?_⟩
           · simp [execOp, go_sem, e27]
           · simpa [did] using hS
         | 18 =>
           simp only [qq] at ho; subst ho; have e44 := eD ev hd 17 44 (vv17 g)
           refine doesg_value rfl nofun (v := .pointer (some ⟨gt, 0, none⟩)) (w' := W) ?_ ⟨g, fun _ _ => rfl, (vv18 g).symm, ?_⟩
           · simp [execOp, go_sem, e44]
           · simpa [did] using hS
         | 19 =>
           simp only [qq] at ho; subst ho; have p16 := hD hd 16; have e45 := eD ev hd 18 45 (vv18 g); have e43 := (ev 16 43 rfl p16).trans (vv16 g); rw [hb, p16] at hS; have hW : W = W2 := hS; subst hW
           refine doesg_skip rfl nofun (w' := W3) ?_ ⟨g, fun _ _ => rfl, (vv19 g).symm, ?_⟩
           · simp [execOp, go_sem, e45, e43, c2, f2, hW3]
           · exact by simp [did]
         | k + 20 => simp at ho
       · intro _ b W hS hall
         subst hLX2
         rw [hall 19 (by decide)] at hS
         have hW : W = W3 := hS
         clear hS
         subst hW
         clear hW3 hall hrun c0 c1 c2 f2 hW1 hbox
         go_wp2_with fail
         go_end0
         exact ⟨rfl, _, _, HSt.out, H3.out.1, H3.out.2⟩
set_option maxRecDepth 8000 in
set_option maxHeartbeats 4000000 in
theorem ystep_mv (base g s : Nat) (T : List OB) (t n sq ot on pt pn : Int) (nm : ByteArray) (dp : Option Addr) (dl dc : Nat) (sp : Option Addr) (sl sc : Nat) (w : World) (h : TreeY w base g T s) (hr : Ranked T) (hs : s < 1000000) :
   Calls Tryz.prog 76 #[.pointer (some ⟨g, 0, none⟩), opgv ⟨t, n, sq, 3, ot, on, pt, pn, nm, dp, dl, dc, sp, sl, sc⟩] w (StepPost base g s T ⟨t, n, sq, 3, ot, on, pt, pn, nm, dp, dl, dc, sp, sl, sc⟩ w) := by
 have HR : Hid (Ranked T) := hr
 clear hr
 obtain ⟨w1, hw1⟩ : ∃ w1, w1 = w.alloc (.cells #[.int .i64 t, .int .i64 n, .int .i64 sq, .int .i64 3, .int .i64 ot, .int .i64 on, .int .i64 pt, .int .i64 pn, .string nm, .slice dp dl dc, .slice sp sl sc] 33) := ⟨_, rfl⟩
 have hB1 : Below w.heap.size w w1 := by rw [hw1]; exact (below_new w _).out
 have hx1 : w1.heap[w.heap.size]? = some (.cells #[.int .i64 t, .int .i64 n, .int .i64 sq, .int .i64 3, .int .i64 ot, .int .i64 on, .int .i64 pt, .int .i64 pn, .string nm, .slice dp dl dc, .slice sp sl sc] 33 (0, 0)) := by rw [hw1]; exact heap_alloc_new w _
 have HT : Hid (TreeY w1 base g T s ∧ w1.heap[w.heap.size]? = some (.cells #[.int .i64 t, .int .i64 n, .int .i64 sq, .int .i64 3, .int .i64 ot, .int .i64 on, .int .i64 pt, .int .i64 pn, .string nm, .slice dp dl dc, .slice sp sl sc] 33 (0, 0)) ∧ Below w.heap.size w w1) := ⟨h.below hB1, hx1, hB1⟩
 have H0 : Hid (TreeY w base g T s) := h
 have HW : Hid (w1 = w.alloc (.cells #[.int .i64 t, .int .i64 n, .int .i64 sq, .int .i64 3, .int .i64 ot, .int .i64 on, .int .i64 pt, .int .i64 pn, .string nm, .slice dp dl dc, .slice sp sl sc] 33)) := hw1
 have sI : (s : Int) < 1000000 := by omega
 obtain ⟨bx, hbx⟩ : ∃ bx, w.heap.size = bx := ⟨_, rfl⟩
 have HBX : Hid (w.heap.size = bx) := hbx
 rw [hbx] at hx1
 have HX : Hid (w1.heap[bx]? = some (.cells #[.int .i64 t, .int .i64 n, .int .i64 sq, .int .i64 3, .int .i64 ot, .int .i64 on, .int .i64 pt, .int .i64 pn, .string nm, .slice dp dl dc, .slice sp sl sc] 33 (0, 0))) := hx1
 clear hw1 hB1 hx1 h hbx
 go_enter Tryz.func76, Tryz.ntmps76
 go_wp2_with fail
 rw [← HW.out, HBX.out]
 go_at_call 14
 refine (yfind_any base g s T ot on w1 HT.out.1).mono ?_
 rintro e w2 ⟨rfl, hB⟩
 have Hw2 : Hid (Below w1.heap.size w1 w2) := hB
 clear hB
 cases hf : findT T ot on with
 | none =>
   rw [fndZ_none hf]
   obtain ⟨p, c, hc, HS⟩ := H0.out.skipped (W := w2) (HT.out.2.2.trans (Hw2.out.mono HT.out.2.2.size))
   have c1 : w2.cell? ⟨g, 1, none⟩ = some (.int .i64 (s : Nat)) := cellOf hc 1
   have f1 := frozenOf hc 1
   clear hc
   go_wp2_with fail
   go_end0
   exact ⟨rfl, _, _, .moved rfl (.inl hf), HS.out.1, HS.out.2⟩
 | some k =>
   rw [fndZ_some hf]
   have HF : Hid (findT T ot on = some k) := hf
   obtain ⟨b, hb, _, _⟩ := findT_some hf
   have HK : Hid (T[k]? = some b) := hb
   have hkT := (List.getElem?_eq_some_iff.1 hb).1
   obtain ⟨m, hm⟩ : ∃ m, T.length = m := ⟨_, rfl⟩
   have HM : Hid (T.length = m) := hm
   have hml : m < 1000000 := by rw [← hm]; exact HT.out.1.len
   rw [hm] at hkT
   clear hf hb hm
   have kI : (0 : Int) ≤ (k : Int) := by omega
   have kD : decide ((0 : Int) ≤ (k : Int)) = true := by simp
   have hx := (Hw2.out.block _ (block_lt HX.out)).trans HX.out
   have x4 : w2.cell? ⟨bx, 4, none⟩ = some (.int .i64 ot) := cellOf hx 4
   have x5 : w2.cell? ⟨bx, 5, none⟩ = some (.int .i64 on) := cellOf hx 5
   have x6 : w2.cell? ⟨bx, 6, none⟩ = some (.int .i64 pt) := cellOf hx 6
   have x7 : w2.cell? ⟨bx, 7, none⟩ = some (.int .i64 pn) := cellOf hx 7
   clear hx
   go_wp2_with fail
   go_at_call 37
   refine (ydir_any base g s T pt pn w2 (HT.out.1.below Hw2.out)).mono ?_
   rintro e w3 ⟨rfl, hB⟩
   have Hw3 : Hid (Below w1.heap.size w1 w3) := Hw2.out.trans (hB.mono Hw2.out.size)
   clear hB
   clear x4 x5 x6 x7
   cases hd : dirT T pt pn
   case false =>
     obtain ⟨p, c, hc, HS⟩ := H0.out.skipped (W := w3) (HT.out.2.2.trans (Hw3.out.mono HT.out.2.2.size))
     have c1 : w3.cell? ⟨g, 1, none⟩ = some (.int .i64 (s : Nat)) := cellOf hc 1
     have f1 := frozenOf hc 1
     clear hc
     go_wp2_with fail
     go_end0
     exact ⟨rfl, _, _, .moved rfl (.inr (.inl hd)), HS.out.1, HS.out.2⟩
   case true =>
     have hx := (Hw3.out.block _ (block_lt HX.out)).trans HX.out
     have x4 : w3.cell? ⟨bx, 4, none⟩ = some (.int .i64 ot) := cellOf hx 4
     have x5 : w3.cell? ⟨bx, 5, none⟩ = some (.int .i64 on) := cellOf hx 5
     have x6 : w3.cell? ⟨bx, 6, none⟩ = some (.int .i64 pt) := cellOf hx 6
     have x7 : w3.cell? ⟨bx, 7, none⟩ = some (.int .i64 pn) := cellOf hx 7
     clear hx
     go_wp2_with fail
     go_at_call 15
     refine (same_any pt pn ot on w3).mono ?_
     rintro e w4 ⟨rfl, hB⟩
     have Hw4 : Hid (Below w1.heap.size w1 w4) := Hw3.out.trans (hB.mono Hw3.out.size)
     clear hB
     clear x4 x5 x6 x7
     cases hs : sameB pt pn ot on
     case true =>
       obtain ⟨p, c, hc, HS⟩ := H0.out.skipped (W := w4) (HT.out.2.2.trans (Hw4.out.mono HT.out.2.2.size))
       have c1 : w4.cell? ⟨g, 1, none⟩ = some (.int .i64 (s : Nat)) := cellOf hc 1
       have f1 := frozenOf hc 1
       clear hc
       go_wp2_with fail
       go_end0
       exact ⟨rfl, _, _, .moved rfl (.inr (.inr (.inl (sameB_iff.1 hs)))), HS.out.1, HS.out.2⟩
     case false =>
       have hx := (Hw4.out.block _ (block_lt HX.out)).trans HX.out
       have x4 : w4.cell? ⟨bx, 4, none⟩ = some (.int .i64 ot) := cellOf hx 4
       have x5 : w4.cell? ⟨bx, 5, none⟩ = some (.int .i64 on) := cellOf hx 5
       have x6 : w4.cell? ⟨bx, 6, none⟩ = some (.int .i64 pt) := cellOf hx 6
       have x7 : w4.cell? ⟨bx, 7, none⟩ = some (.int .i64 pn) := cellOf hx 7
       clear hx
       go_wp2_with fail
       go_at_call 17
       refine (ybelow_any base g s T pt pn ot on w4 (HT.out.1.below Hw4.out) HR.out).mono ?_
       rintro e w5 ⟨r, rfl, hr, hB⟩
       have Hw5 : Hid (Below w1.heap.size w1 w5) := Hw4.out.trans (hB.mono Hw4.out.size)
       have HB : Hid (r = true ↔ Bel T (pt, pn) (ot, on)) := hr
       clear hB hr x4 x5 x6 x7
       cases r
       case true =>
         obtain ⟨p, c, hc, HS⟩ := H0.out.skipped (W := w5) (HT.out.2.2.trans (Hw5.out.mono HT.out.2.2.size))
         have c1 : w5.cell? ⟨g, 1, none⟩ = some (.int .i64 (s : Nat)) := cellOf hc 1
         have f1 := frozenOf hc 1
         clear hc
         go_wp2_with fail
         go_end0
         exact ⟨rfl, _, _, .moved rfl (.inr (.inr (.inr (HB.out.1 (by simp))))), HS.out.1, HS.out.2⟩
       case false =>
         have HSt : Hid (StepT T s ⟨t, n, sq, 3, ot, on, pt, pn, nm, dp, dl, dc, sp, sl, sc⟩ (T.set k (moveO ⟨t, n, sq, 3, ot, on, pt, pn, nm, dp, dl, dc, sp, sl, sc⟩ b)) s) := .move rfl HF.out HK.out hd (sameB_no.1 hs) (fun hh => by have := HB.out.2 hh; cases this)
         have hT5 := HT.out.1.below Hw5.out
         obtain ⟨gl, c, hc, _, _, c2, c3, c4, _⟩ := hT5.ob HK.out
         obtain ⟨curL, hgl⟩ := hT5.row hc
         have hx := (Hw5.out.block _ (block_lt HX.out)).trans HX.out
         have hmv := hT5.moved HK.out hc pt pn nm
         have H5 : Hid (TreeY (((w5.setCell ⟨gl, k * 6 + 2, none⟩ (.int .i64 pt)).setCell ⟨gl, k * 6 + 3, none⟩ (.int .i64 pn)).setCell ⟨gl, k * 6 + 4, none⟩ (.string nm)) base g (T.set k ⟨b.it, b.ii, pt, pn, nm, b.dir⟩) s ∧ Fy base w (((w5.setCell ⟨gl, k * 6 + 2, none⟩ (.int .i64 pt)).setCell ⟨gl, k * 6 + 3, none⟩ (.int .i64 pn)).setCell ⟨gl, k * 6 + 4, none⟩ (.string nm))) := ⟨hmv.1, (Fy.of_below (HT.out.2.2.trans (Hw5.out.mono HT.out.2.2.size))).next hmv.2⟩
         rw [HM.out] at hc
         have c0 : w5.cell? ⟨g, 0, none⟩ = some (.slice (some ⟨gl, 0, none⟩) m c) := cellOf hc 0
         have f2 : w5.frozen? ⟨gl, k * 6 + 2, none⟩ = false := frozenOf hgl _
         have f3 : w5.frozen? ⟨gl, k * 6 + 3, none⟩ = false := frozenOf hgl _
         have f4 : w5.frozen? ⟨gl, k * 6 + 4, none⟩ = false := frozenOf hgl _
         have n1 : ¬ g = gl := fun e => apart_tags hgl hc (by decide) e.symm
         have n2 : ¬ gl = g := fun e => apart_tags hgl hc (by decide) e
         have n3 : ¬ bx = gl := fun e => apart_tags hgl hx (by decide) e.symm
         have n4 : ¬ gl = bx := fun e => apart_tags hgl hx (by decide) e
         have x6 : w5.cell? ⟨bx, 6, none⟩ = some (.int .i64 pt) := cellOf hx 6
         have x7 : w5.cell? ⟨bx, 7, none⟩ = some (.int .i64 pn) := cellOf hx 7
         have x8 : w5.cell? ⟨bx, 8, none⟩ = some (.string nm) := cellOf hx 8
         clear hc hgl hx hT5 hmv
         go_wp2_with fail
         go_region
         · go_wp2_with fail
           go_region
           · go_wp2_with fail
             go_end0
             exact ⟨rfl, _, _, HSt.out, H5.out.1.below ((Below.refl _ _).drew.drew), H5.out.2.next (Fy.of_below ((Below.refl _ _).drew.drew))⟩
set_option maxRecDepth 8000 in
set_option maxHeartbeats 4000000 in
theorem ystep_ot (kd : Int) (h1 : ¬ kd = 1) (h2 : ¬ kd = 2) (h3 : ¬ kd = 3) (base g s : Nat) (T : List OB) (t n sq ot on pt pn : Int) (nm : ByteArray) (dp : Option Addr) (dl dc : Nat) (sp : Option Addr) (sl sc : Nat) (w : World) (h : TreeY w base g T s) :
   Calls Tryz.prog 76 #[.pointer (some ⟨g, 0, none⟩), opgv ⟨t, n, sq, kd, ot, on, pt, pn, nm, dp, dl, dc, sp, sl, sc⟩] w (StepPost base g s T ⟨t, n, sq, kd, ot, on, pt, pn, nm, dp, dl, dc, sp, sl, sc⟩ w) := by
 have H0 : Hid (TreeY w base g T s) := h
 have HN : Hid (¬ (kd = 1 ∨ kd = 2 ∨ kd = 3)) := fun e => by omega
 have HB : Hid (∀ o, Below w.heap.size w (w.alloc o)) := fun o => (below_new w o).out
 clear h
 go_enter Tryz.func76, Tryz.ntmps76
 go_wp2_with fail
 go_end0
 exact ⟨rfl, T, s, .other HN.out, H0.out.below (HB.out _), Fy.of_below (HB.out _)⟩
end Go.Proofs.YthhakekbffembaaGreatDoor.Ck.Y

namespace Go.Proofs.YthhakekbffembaaGreatDoor.Ck.Y
open Go.RowKit Go.Maps
def insT (T : List GE) (k : Nat) (x : GE) : List GE := T.take k ++ x :: T.drop k
structure DocI (w wr : World) (l : List OG) (i : Nat) (v : Value) (T : List GE) : Prop where
 row : RowG wr w.heap.size v (T.map stripG)
 perm : T.Perm (enumG 0 (l.take i))
 rise : RiseG keyG T
 bel : Below w.heap.size w wr
theorem DocI.len {w wr : World} {l : List OG} {i : Nat} {v : Value} {T : List GE} (h : DocI w wr l i v T) (hi : i ≤ l.length) : T.length = i := by
 rw [h.perm.length_eq, enumG_length, List.length_take]; omega
structure DocK (w wr : World) (T : List GE) (xe : GE) (k i g c : Nat) : Prop where
 row : RowG wr w.heap.size (.slice (some ⟨g, 0, none⟩) (i + 1) c) ((insT T k xe).map stripG)
 less : ∀ a ∈ T.drop k, lessB xe.o.t xe.o.n a.o.t a.o.n = true
 bel : Below w.heap.size w wr
theorem grown_below {w0 w w' : World} {v : Value} {l : List OG} {B : Nat} (hb : Below B w0 w) (hB : B ≤ w.heap.size) (hr : RowG w B v l) (hg : w.grownBy w' v.ownBlock) : Below B w0 w' :=
 ⟨hg.os.trans hb.os, hg.tape.trans hb.tape, hg.output.trans hb.output, Nat.le_trans hb.size hg.size, fun k hk => (hg.block k (by omega) (fun e => by
   obtain ⟨_, _, h⟩ := hr.tag e.symm
   omega)).trans (hb.block k hk)⟩
theorem insT_perm (T : List GE) (k : Nat) (x : GE) : (insT T k x).Perm (T ++ [x]) := by
 unfold insT
 have h1 : (T.take k ++ x :: T.drop k).Perm (x :: (T.take k ++ T.drop k)) := List.perm_middle
 rw [List.take_append_drop] at h1
 exact h1.trans (List.perm_append_comm (l₁ := [x]) (l₂ := T))
theorem DocK.done {w wr : World} {T : List GE} {xe : GE} {k i g c : Nat} {l : List OG} {x : OG} (h : DocK w wr T xe k i g c) (hp : T.Perm (enumG 0 (l.take i))) (hrise : RiseG keyG T) (hxe : xe = ⟨x, i⟩) (hx : l[i]? = some x) (hr : RngG l) (hl : l.length ≤ 1000) (hs : k = 0 ∨ ∃ b, T[k - 1]? = some b ∧ lessB xe.o.t xe.o.n b.o.t b.o.n = false) : DocI w wr l (i + 1) (.slice (some ⟨g, 0, none⟩) (i + 1) c) (insT T k xe) := by
 have hil := (List.getElem?_eq_some_iff.1 hx).1
 have hrt : RngG (l.take i) := fun y hy => hr y (List.mem_of_mem_take hy)
 have ok : ∀ a ∈ T, a.ok ∧ a.came < i := fun a ha => by
   have hm := hp.mem_iff.1 ha
   refine ⟨enumG_ok hrt (by rw [List.length_take]; omega) a hm, ?_⟩
   have := (enumG_came _ 0 a hm).2
   rw [List.length_take] at this
   omega
 have okx : xe.ok := by rw [hxe]; exact ⟨hr x (List.mem_of_getElem? hx), by show i < 1000000; omega⟩
 have hcx : xe.came = i := by rw [hxe]
 refine ⟨h.row, ?_, riseG_ins hrise (fun a ha => ?_) (fun a ha => ?_), h.bel⟩
 · refine (insT_perm T k xe).trans ?_
   have e : l.take (i + 1) = l.take i ++ [x] := by rw [List.take_add_one, hx]; rfl
   rw [e, enumG_snoc, hxe, List.length_take, show 0 + min i l.length = i by omega]
   exact hp.append_right _
 · rcases hs with h0 | ⟨b, hb, hlb⟩
   · subst h0; simp at ha
   · have hbm := List.mem_of_getElem? hb
     have k1 : keyG b < keyG xe := by
       rw [keyG_lt (ok b hbm).1 okx]
       refine .inr ⟨hlb, ?_⟩
       have := (ok b hbm).2
       omega
     obtain ⟨j, hj, e⟩ := List.getElem_of_mem ha
     rw [List.length_take] at hj
     rw [List.getElem_take] at e
     have hbl := List.getElem?_eq_some_iff.1 hb
     obtain ⟨hkl, hbe⟩ := hbl
     by_cases hjk : j = k - 1
     · subst hjk
       rw [← e, hbe]
       exact k1
     · have := (List.pairwise_iff_getElem.1 hrise) j (k - 1) (by omega) hkl (by omega)
       rw [e, hbe] at this
       omega
 · rw [keyG_lt okx (ok a (List.mem_of_mem_drop ha)).1]
   exact .inl (h.less a ha)
theorem DocK.below {w wr W : World} {T : List GE} {xe : GE} {k i g c : Nat} (h : DocK w wr T xe k i g c) (hb : Below wr.heap.size wr W) : DocK w W T xe k i g c := ⟨h.row.below hb, h.less, h.bel.trans (hb.mono h.bel.size)⟩
theorem insT_swap {T : List GE} {xe b : GE} {kk : Nat} (hb : T[kk]? = some b) : ((((insT T (kk + 1) xe).map stripG).set kk (stripG xe)).set (kk + 1) (stripG b)) = (insT T kk xe).map stripG := by
 have hk := (List.getElem?_eq_some_iff.1 hb).1
 have e0 : T.drop kk = b :: T.drop (kk + 1) := by
   rw [List.drop_eq_getElem_cons hk]
   have := (List.getElem?_eq_some_iff.1 hb).2
   rw [this]
 have e1 : T.take (kk + 1) = T.take kk ++ [b] := by rw [List.take_add_one, hb]; rfl
 have hl : (T.take kk).length = kk := by rw [List.length_take]; omega
 rw [← List.map_set, ← List.map_set]
 congr 1
 unfold insT
 rw [e0, e1, List.append_assoc]
 rw [List.set_append_right kk _ (by omega), hl, Nat.sub_self]
 rw [List.set_append_right (kk + 1) _ (by omega), hl, show kk + 1 - kk = 1 by omega]
 rfl
theorem DocK.swap {w W W2 W3 W4 : World} {T : List GE} {xe b : GE} {kk i g c : Nat} (h : DocK w W T xe (kk + 1) i g c) (hb : T[kk]? = some b) (hle : lessB xe.o.t xe.o.n b.o.t b.o.n = true) (hB2 : Below W.heap.size W W2) (ho3 : Only (· = g) W2 W3) (ho4 : Only (· = g) W3 W4) (hrow : RowG W4 w.heap.size (.slice (some ⟨g, 0, none⟩) (i + 1) c) ((((insT T (kk + 1) xe).map stripG).set kk (stripG xe)).set (kk + 1) (stripG b))) : DocK w W4 T xe kk i g c := by
 have hk := (List.getElem?_eq_some_iff.1 hb).1
 have hgb : w.heap.size ≤ g := by obtain ⟨_, _, _, hb, _⟩ := h.row.cur; exact hb
 rw [insT_swap hb] at hrow
 refine ⟨hrow, fun a ha => ?_, ?_⟩
 · rw [List.drop_eq_getElem_cons hk, (List.getElem?_eq_some_iff.1 hb).2, List.mem_cons] at ha
   rcases ha with rfl | ha
   · exact hle
   · exact h.less a ha
 · have h1 := h.bel.trans (hB2.mono h.bel.size)
   exact ⟨ho4.os.trans (ho3.os.trans h1.os), ho4.tape.trans (ho3.tape.trans h1.tape), ho4.output.trans (ho3.output.trans h1.output), Nat.le_trans h1.size (Nat.le_trans ho3.size ho4.size), fun k hk => by
     have s1 := h1.size
     have s2 := ho3.size
     rw [ho4.block k (by omega) (by omega), ho3.block k (by omega) (by omega)]
     exact h1.block k hk⟩
set_option maxRecDepth 8000 in
set_option maxHeartbeats 4000000 in
theorem rs_reg7_no {Q : Exit → Act → World → Prop} {base : Array Value} {dd : List Deferred} {ops : Array Oper} (hops : Tryz.f75.body.bind (regs 7) = some ops)  (w9 : World) (hsz : base.size = 61) (b5 : base.getD 5 undef = .int .i64 0) (hQ : ∀ W, Below w9.heap.size w9 W → Q .normal ⟨putAll base [(some 24, .int .i64 0), (some 25, .bool false), (some 26, .bool false), (some 27, undef), (some 28, undef), (some 29, undef), (some 30, undef), (some 31, undef), (some 32, undef), (some 33, undef), (some 34, undef), (some 35, undef), (some 36, undef), (some 37, undef), (some 38, undef), (some 39, .bool false)], dd⟩ W) :
   (Code.region 7 ops true).wp Tryz.prog Q ⟨base, dd⟩ w9 := by
 have hmix := hmx
 have h2 := (show Tryz.f75.body.bind (regs 7) = some _ from rfl).symm.trans hops
 obtain rfl := Option.some.inj h2
 clear h2 hops
 have below9 : Below w9.heap.size w9 w9.drew := (Below.refl _ _).drew
 obtain ⟨LL, hLe⟩ := qL hQ
 have vv0 : vals LL 0 = .int .i64 0 := vL hLe rfl
 have vv1 : vals LL 1 = .bool false := vL hLe rfl
 have vv2 : vals LL 2 = .bool false := vL hLe rfl
 have vv15 : vals LL 15 = .bool false := vL hLe rfl
 refine region_laid hmix (by kernel_rfl) 61 hsz (by kernel_rfl) LL (by rw [hLe]; rfl) (fun _ W => Below w9.heap.size w9 W) below9 ?_ ?_
 · intro b W i o a hS hcl ho hb hd ev kp yl
   match i with
   | 0 => simp only [qq] at ho; subst ho; have e5 := (kp 5 (by kernel_rfl)).trans b5; rw [vv0]; exact dV (by simp [execOp, go_sem, e5]) hS
   | 1 => simp only [qq] at ho; subst ho; have e24 := eD ev hd 0 24 vv0; rw [vv1]; exact dV (by simp [execOp, go_sem, e24]) hS
   | 2 => simp only [qq] at ho; subst ho; have e25 := eD ev hd 1 25 vv1; rw [vv2]; exact dV (by simp [execOp, go_sem, e25]) hS
   | 3 => simp only [qq] at ho; subst ho; exact does_pass rfl (yl 2 26 false rfl (hG hd 2) vv2) (by decide) (vL hLe rfl) (hS)
   | 4 => simp only [qq] at ho; subst ho; exact does_pass rfl (yl 2 26 false rfl (hG hd 2) vv2) (by decide) (vL hLe rfl) (hS)
   | 5 => simp only [qq] at ho; subst ho; exact does_pass rfl (yl 2 26 false rfl (hG hd 2) vv2) (by decide) (vL hLe rfl) (hS)
   | 6 => simp only [qq] at ho; subst ho; exact does_pass rfl (yl 2 26 false rfl (hG hd 2) vv2) (by decide) (vL hLe rfl) (hS)
   | 7 => simp only [qq] at ho; subst ho; exact does_pass rfl (yl 2 26 false rfl (hG hd 2) vv2) (by decide) (vL hLe rfl) (hS)
   | 8 => simp only [qq] at ho; subst ho; exact does_pass rfl (yl 2 26 false rfl (hG hd 2) vv2) (by decide) (vL hLe rfl) (hS)
   | 9 => simp only [qq] at ho; subst ho; exact does_pass rfl (yl 2 26 false rfl (hG hd 2) vv2) (by decide) (vL hLe rfl) (hS)
   | 10 => simp only [qq] at ho; subst ho; exact does_pass rfl (yl 2 26 false rfl (hG hd 2) vv2) (by decide) (vL hLe rfl) (hS)
   | 11 => simp only [qq] at ho; subst ho; exact does_pass rfl (yl 2 26 false rfl (hG hd 2) vv2) (by decide) (vL hLe rfl) (hS)
   | 12 => simp only [qq] at ho; subst ho; exact does_pass rfl (yl 2 26 false rfl (hG hd 2) vv2) (by decide) (vL hLe rfl) (hS)
   | 13 => simp only [qq] at ho; subst ho; exact does_pass rfl (yl 2 26 false rfl (hG hd 2) vv2) (by decide) (vL hLe rfl) (hS)
   | 14 => simp only [qq] at ho; subst ho; exact does_pass rfl (yl 2 26 false rfl (hG hd 2) vv2) (by decide) (vL hLe rfl) (hS)
   | 15 => simp only [qq] at ho; subst ho; have e26 := eD ev hd 2 26 vv2; rw [vv15]; exact dV (by simp [execOp, go_sem, e26]) hS
   | k + 16 => simp at ho
 · intro b' W hS _
   subst hLe
   exact hQ W hS
set_option maxRecDepth 8000 in
set_option maxHeartbeats 4000000 in
theorem rs_reg7 {Q : Exit → Act → World → Prop} {base : Array Value} {dd : List Deferred} {ops : Array Oper} (hops : Tryz.f75.body.bind (regs 7) = some ops) (gl m cl K kk : Nat) (xt xn yt yn : Int) (r : Bool) (w9 : World) (hsz : base.size = 61) (b3 : base.getD 3 undef = .slice (some ⟨gl, 0, none⟩) m cl) (b5 : base.getD 5 undef = .int .i64 (K : Nat)) (hK : 0 < K) (hKm : K < m) (hkm : kk < m) (hsub : (K : Int) - 1 = (kk : Nat)) (hwr : IntKind.i64.wrap (kk : Int) = (kk : Int)) (hx0 : w9.cell? ⟨gl, K * 11, none⟩ = some (.int .i64 xt)) (hx1 : w9.cell? ⟨gl, K * 11 + 1, none⟩ = some (.int .i64 xn)) (hy0 : w9.cell? ⟨gl, kk * 11, none⟩ = some (.int .i64 yt)) (hy1 : w9.cell? ⟨gl, kk * 11 + 1, none⟩ = some (.int .i64 yn)) (cK : ∀ W, Below w9.heap.size w9 W → Calls Tryz.prog 97 #[idv xt xn, idv yt yn] W fun e w' => e = .returned (.bool r) ∧ Below W.heap.size W w') (hQ : ∀ W, Below w9.heap.size w9 W → Q .normal ⟨putAll base [(some 24, .int .i64 (K : Nat)), (some 25, .bool true), (some 26, .bool true), (some 27, .slice (some ⟨gl, 0, none⟩) m cl), (some 28, .int .i64 (K : Nat)), (some 29, .pointer (some ⟨gl, K * 11, none⟩)), (some 30, .pointer (some ⟨gl, K * 11, none⟩)), (some 31, .agg #[.int .i64 xt, .int .i64 xn]), (some 32, .slice (some ⟨gl, 0, none⟩) m cl), (some 33, .int .i64 (K : Nat)), (some 34, .int .i64 (kk : Nat)), (some 35, .pointer (some ⟨gl, kk * 11, none⟩)), (some 36, .pointer (some ⟨gl, kk * 11, none⟩)), (some 37, .agg #[.int .i64 yt, .int .i64 yn]), (some 38, .bool r), (some 39, .bool r)], dd⟩ W) :
   (Code.region 7 ops true).wp Tryz.prog Q ⟨base, dd⟩ w9 := by
 have hmix := hmx
 have h2 := (show Tryz.f75.body.bind (regs 7) = some _ from rfl).symm.trans hops
 obtain rfl := Option.some.inj h2
 clear h2 hops
 have below9 : Below w9.heap.size w9 w9.drew := (Below.refl _ _).drew
 obtain ⟨LL, hLe⟩ := qL hQ
 have vv0 : vals LL 0 = .int .i64 (K : Nat) := vL hLe rfl
 have vv1 : vals LL 1 = .bool true := vL hLe rfl
 have vv2 : vals LL 2 = .bool true := vL hLe rfl
 have vv3 : vals LL 3 = .slice (some ⟨gl, 0, none⟩) m cl := vL hLe rfl
 have vv4 : vals LL 4 = .int .i64 (K : Nat) := vL hLe rfl
 have vv5 : vals LL 5 = .pointer (some ⟨gl, K * 11, none⟩) := vL hLe rfl
 have vv6 : vals LL 6 = .pointer (some ⟨gl, K * 11, none⟩) := vL hLe rfl
 have vv7 : vals LL 7 = .agg #[.int .i64 xt, .int .i64 xn] := vL hLe rfl
 have vv8 : vals LL 8 = .slice (some ⟨gl, 0, none⟩) m cl := vL hLe rfl
 have vv9 : vals LL 9 = .int .i64 (K : Nat) := vL hLe rfl
 have vv10 : vals LL 10 = .int .i64 (kk : Nat) := vL hLe rfl
 have vv11 : vals LL 11 = .pointer (some ⟨gl, kk * 11, none⟩) := vL hLe rfl
 have vv12 : vals LL 12 = .pointer (some ⟨gl, kk * 11, none⟩) := vL hLe rfl
 have vv13 : vals LL 13 = .agg #[.int .i64 yt, .int .i64 yn] := vL hLe rfl
 have vv14 : vals LL 14 = .bool r := vL hLe rfl
 have vv15 : vals LL 15 = .bool r := vL hLe rfl
 refine region_laid hmix (by kernel_rfl) 61 hsz (by kernel_rfl) LL (by rw [hLe]; rfl) (fun _ W => Below w9.heap.size w9 W) below9 ?_ ?_
 · intro b W i o a hS hcl ho hb hd ev kp yl
   match i with
   | 0 => simp only [qq] at ho; subst ho; have e5 := (kp 5 (by kernel_rfl)).trans b5; rw [vv0]; exact dV (by simp [execOp, go_sem, e5]) hS
   | 1 => simp only [qq] at ho; subst ho; have e24 := eD ev hd 0 24 vv0; rw [vv1]; exact dV (by simp [execOp, go_sem, e24, hK]) hS
   | 2 => simp only [qq] at ho; subst ho; have e25 := eD ev hd 1 25 vv1; rw [vv2]; exact dV (by simp [execOp, go_sem, e25]) hS
   | 3 => simp only [qq] at ho; subst ho; have e3 := (kp 3 (by kernel_rfl)).trans b3; rw [vv3]; exact dG (yl 2 26 true rfl (hG hd 2) vv2) (by simp [execOp, go_sem, e3]) hS
   | 4 => simp only [qq] at ho; subst ho; have e5 := (kp 5 (by kernel_rfl)).trans b5; rw [vv4]; exact dG (yl 2 26 true rfl (hG hd 2) vv2) (by simp [execOp, go_sem, e5]) hS
   | 5 => simp only [qq] at ho; subst ho; have e27 := eD ev hd 3 27 vv3; have e28 := eD ev hd 4 28 vv4; rw [vv5]; exact dG (yl 2 26 true rfl (hG hd 2) vv2) (by simp [execOp, go_sem, e27, e28, hKm]) hS
   | 6 => simp only [qq] at ho; subst ho; have e29 := eD ev hd 5 29 vv5; rw [vv6]; exact dG (yl 2 26 true rfl (hG hd 2) vv2) (by simp [execOp, go_sem, e29]) hS
   | 7 => simp only [qq] at ho; subst ho; have e30 := eD ev hd 6 30 vv6; have d9_0 := (hS.cell (p := ⟨gl, K * 11, none⟩) (cell_lt hx0)).trans hx0; have d9_1 := (hS.cell (p := ⟨gl, K * 11 + 1, none⟩) (cell_lt hx1)).trans hx1; rw [vv7]; exact dG (yl 2 26 true rfl (hG hd 2) vv2) (by simp [execOp, go_sem, e30, d9_0, d9_1]) hS
   | 8 => simp only [qq] at ho; subst ho; have e3 := (kp 3 (by kernel_rfl)).trans b3; rw [vv8]; exact dG (yl 2 26 true rfl (hG hd 2) vv2) (by simp [execOp, go_sem, e3]) hS
   | 9 => simp only [qq] at ho; subst ho; have e5 := (kp 5 (by kernel_rfl)).trans b5; rw [vv9]; exact dG (yl 2 26 true rfl (hG hd 2) vv2) (by simp [execOp, go_sem, e5]) hS
   | 10 => simp only [qq] at ho; subst ho; have e33 := eD ev hd 9 33 vv9; rw [vv10]; exact dG (yl 2 26 true rfl (hG hd 2) vv2) (by simp [execOp, go_sem, e33, hsub, hwr]) hS
   | 11 => simp only [qq] at ho; subst ho; have e32 := eD ev hd 8 32 vv8; have e34 := eD ev hd 10 34 vv10; rw [vv11]; exact dG (yl 2 26 true rfl (hG hd 2) vv2) (by simp [execOp, go_sem, e32, e34, hkm]) hS
   | 12 => simp only [qq] at ho; subst ho; have e35 := eD ev hd 11 35 vv11; rw [vv12]; exact dG (yl 2 26 true rfl (hG hd 2) vv2) (by simp [execOp, go_sem, e35]) hS
   | 13 => simp only [qq] at ho; subst ho; have e36 := eD ev hd 12 36 vv12; have d9_0 := (hS.cell (p := ⟨gl, kk * 11, none⟩) (cell_lt hy0)).trans hy0; have d9_1 := (hS.cell (p := ⟨gl, kk * 11 + 1, none⟩) (cell_lt hy1)).trans hy1; rw [vv13]; exact dG (yl 2 26 true rfl (hG hd 2) vv2) (by simp [execOp, go_sem, e36, d9_0, d9_1]) hS
   | 14 =>
     simp only [qq] at ho; subst ho; have e31 := eD ev hd 7 31 vv7; have e37 := eD ev hd 13 37 vv13; rw [vv14]
     refine does_call_g rfl (yl 2 26 true rfl (hG hd 2) vv2) nofun (f := 97) (args := #[.agg #[.int .i64 xt, .int .i64 xn], .agg #[.int .i64 yt, .int .i64 yn]]) ?_ ?_
     · simp [go_sem, e31, e37]
     · exact (cK W hS).mono (fun e w' h => ⟨h.1, hS.trans (h.2.mono hS.size)⟩)
   | 15 => simp only [qq] at ho; subst ho; have e26 := eD ev hd 2 26 vv2; have e38 := eD ev hd 14 38 vv14; rw [vv15]; exact dV (by simp [execOp, go_sem, e26, e38]) hS
   | k + 16 => simp at ho
 · intro b' W hS _
   subst hLe
   exact hQ W hS
set_option maxRecDepth 8000 in
set_option maxHeartbeats 4000000 in
theorem rsorted_any (base : Nat) (v : Value) (l : List OG) (w : World) (h : RowG w base v l) (hr : RngG l) (hl : l.length ≤ 1000) :
   Calls Tryz.prog 75 #[v] w fun e w' => ∃ v' m, e = .returned v' ∧ RowG w' w.heap.size v' m ∧ IsSortedG l m ∧ Below w.heap.size w w' := by
 obtain ⟨p, c, rfl⟩ := h.slice
 have H0 : Hid (RowG w base (.slice p l.length c) l ∧ RngG l) := ⟨h, hr⟩
 have HS : Hid (DocI w w l 0 (.slice none 0 0) []) := ⟨RowG.nil _ _, by simp [enumG], List.Pairwise.nil, Below.refl _ _⟩
 clear h hr
 go_enter Tryz.func75, Tryz.ntmps75
 go_wp2_with fail
 go_loopw [3, 4] (fun vl vi wr => ∃ (i : Nat) (p' : Option Addr) (c' : Nat) (T : List GE), vl = .slice p' i c' ∧ vi = .int .i64 i ∧ i ≤ l.length ∧ Hid (DocI w wr l i (.slice p' i c') T)) (fun _ vi _ => l.length - (intOf vi).toNat)
 case atStart => exact ⟨0, none, 0, [], rfl, rfl, Nat.zero_le _, HS⟩
 case round =>
   clear HS
   obtain ⟨i, p', c', T, rfl, rfl, hi, HI⟩ := hrel
   by_cases hil : i = l.length
   · subst hil
     go_wp2_with fail
     go_ret
     refine ⟨_, T.map stripG, rfl, HI.out.row, ⟨T, rfl, ?_, HI.out.rise⟩, HI.out.bel⟩
     have := HI.out.perm
     rwa [List.take_length] at this
   · have hlt : i < l.length := by omega
     have hlI : (i : Int) < (l.length : Int) := by omega
     obtain ⟨x, hx⟩ : ∃ x, l[i]? = some x := ⟨_, List.getElem?_eq_getElem hlt⟩
     have hW := H0.out.1.below HI.out.bel
     obtain ⟨g, cap, cur, ev, _⟩ := hW.form (by omega)
     cases ev
     obtain ⟨x0, x1, x2, x3, x4, x5, x6, x7, x8, x9, x10⟩ := hW.cells hx
     have HA : Hid (∀ o, RowG (wr.alloc o) w.heap.size (.slice p' i c') (T.map stripG)) := fun o => HI.out.row.below (below_new wr o).out
     have hTl := HI.out.len hi
     have HT : Hid (T.length = i ∧ (T.map stripG).length = i) := ⟨hTl, by rw [List.length_map, hTl]⟩
     have hsz : w.heap.size ≤ wr.heap.size := HI.out.bel.size
     clear hW
     go_wp2_with (refine wpList_appG rfl _ _ rfl w.heap.size (.slice p' i c') (T.map stripG) x rfl wr.heap.size rfl ⟨HA.out _, heap_alloc_new wr _, by rw [HT.out.2]; omega, by simp; omega⟩ ?_; intro p2 c2 w2 H2; refine Stop.out ?_)
     refine Stop.mk ?_
     obtain ⟨xe, hxe⟩ : ∃ xe : GE, xe = ⟨x, i⟩ := ⟨_, rfl⟩
     have HK : ∃ g2, p2 = some ⟨g2, 0, none⟩ ∧ Hid (DocK w w2 T xe i i g2 c2) := by
       obtain ⟨k1, k2, _⟩ := H2.out
       rw [HT.out.2] at k1
       obtain ⟨g2, cap2, cur2, e2, _⟩ := k1.form (by simp)
       have e3 : p2 = some ⟨g2, 0, none⟩ := by injection e2
       subst e3
       refine ⟨g2, rfl, ?_, ?_, grown_below (HI.out.bel.trans ((below_new wr _).out.mono hsz)) (by simp; omega) (HA.out _) k2⟩
       · have : (insT T i xe).map stripG = T.map stripG ++ [x] := by
           unfold insT
           rw [List.take_of_length_le (by rw [HT.out.1]; exact Nat.le_refl _), List.drop_of_length_le (by rw [HT.out.1]; exact Nat.le_refl _), List.map_append, hxe]
           rfl
         rw [this]
         exact k1
       · intro a ha
         rw [List.drop_of_length_le (by rw [HT.out.1]; exact Nat.le_refl _)] at ha
         cases ha
     obtain ⟨g2, rfl, HK⟩ := HK
     have HX : Hid (xe = ⟨x, i⟩ ∧ l[i]? = some x) := ⟨hxe, hx⟩
     have eI : ((i + 1 : Nat) : Int) - 1 = (i : Int) := by omega
     have hi1000 : i < 1000 := by omega
     clear H2 hxe hx x0 x1 x2 x3 x4 x5 x6 x7 x8 x9 x10 HA hsz
     go_wp2_with fail
     go_loopw [5] (fun vk wr2 => ∃ k : Nat, vk = .int .i64 k ∧ k ≤ i ∧ Hid (DocK w wr2 T xe k i g2 c2)) (fun vk _ => (intOf vk).toNat)
     case atStart => exact ⟨i, rfl, Nat.le_refl _, HK⟩
     case round =>
       clear HK
       obtain ⟨k, rfl, hk, HK⟩ := hrel
       by_cases h0 : k = 0
       · subst h0
         go_wp2_with fail
         refine rs_reg7_no (by kernel_rfl) _ rfl rfl ?_
         intro W hS
         have HW : Hid (Below wr.heap.size wr W) := hS
         clear hS
         simp only [putAll, sA, sB, sC]
         go_wp2_with fail
         go_roundw
         case rel => exact ⟨i + 1, _, _, insT T 0 xe, rfl, rfl, by omega, (HK.out.below HW.out).done HI.out.perm HI.out.rise HX.out.1 HX.out.2 H0.out.2 hl (.inl rfl)⟩
         case measure => simp [intOf]; omega
       · obtain ⟨kk, rfl⟩ : ∃ kk, k = kk + 1 := ⟨k - 1, by omega⟩
         obtain ⟨b, hb⟩ : ∃ b, T[kk]? = some b := ⟨_, List.getElem?_eq_getElem (by have := HT.out.1; omega)⟩
         have hkT : kk < T.length := by have := HT.out.1; omega
         have e1 : ((insT T (kk + 1) xe).map stripG)[kk + 1]? = some (stripG xe) := by
           unfold insT
           rw [List.getElem?_map, List.getElem?_append_right (by rw [List.length_take]; omega), List.length_take, show kk + 1 - min (kk + 1) T.length = 0 by omega]
           rfl
         have e2 : ((insT T (kk + 1) xe).map stripG)[kk]? = some (stripG b) := by
           unfold insT
           rw [List.getElem?_map, List.getElem?_append_left (by rw [List.length_take]; omega), List.getElem?_take, if_pos (by omega), hb]
           rfl
         have HX2 : Hid (T[kk]? = some b ∧ kk < T.length ∧ ((insT T (kk + 1) xe).map stripG)[kk + 1]? = some (stripG xe) ∧ ((insT T (kk + 1) xe).map stripG)[kk]? = some (stripG b)) := ⟨hb, hkT, e1, e2⟩
         obtain ⟨x0, x1, x2, x3, x4, x5, x6, x7, x8, x9, x10⟩ := HK.out.row.cells e1
         obtain ⟨y0, y1, y2, y3, y4, y5, y6, y7, y8, y9, y10⟩ := HK.out.row.cells e2
         have HXY : Hid (wr.cell? ⟨g2, (kk + 1) * 11, none⟩ = some (.int .i64 xe.o.t) ∧ wr.cell? ⟨g2, (kk + 1) * 11 + 1, none⟩ = some (.int .i64 xe.o.n) ∧ wr.cell? ⟨g2, kk * 11, none⟩ = some (.int .i64 b.o.t) ∧ wr.cell? ⟨g2, kk * 11 + 1, none⟩ = some (.int .i64 b.o.n)) := ⟨x0, x1, y0, y1⟩
         clear hb hkT e1 e2 x0 x1 x2 x3 x4 x5 x6 x7 x8 x9 x10 y0 y1 y2 y3 y4 y5 y6 y7 y8 y9 y10
         obtain ⟨K, hK⟩ : ∃ K, K = kk + 1 := ⟨_, rfl⟩
         rw [← hK] at HXY hk HK HX2 ⊢
         have HKk : Hid (K = kk + 1) := hK
         have hK0 : 0 < K := by omega
         have hKm : K < i + 1 := by omega
         have hkm : kk < i + 1 := by omega
         have hsub : (K : Int) - 1 = (kk : Nat) := by omega
         clear hK
         go_wp2_with fail
         refine rs_reg7 (by kernel_rfl) g2 (i + 1) c2 K kk xe.o.t xe.o.n b.o.t b.o.n (lessB xe.o.t xe.o.n b.o.t b.o.n) _ rfl rfl rfl hK0 hKm hkm hsub (by rw [IntKind.wrap_i64]; omega) HXY.out.1 HXY.out.2.1 HXY.out.2.2.1 HXY.out.2.2.2 (fun W _ => rless_any _ _ _ _ W) ?_
         intro W hS
         have HW : Hid (Below wr.heap.size wr W) := hS
         clear hS
         simp only [putAll, sA, sB, sC]
         cases hle : lessB xe.o.t xe.o.n b.o.t b.o.n
         · go_wp2_with fail
           go_roundw
           case rel => exact ⟨i + 1, _, _, insT T K xe, rfl, rfl, by omega, (HK.out.below HW.out).done HI.out.perm HI.out.rise HX.out.1 HX.out.2 H0.out.2 hl (.inr ⟨b, by rw [HKk.out]; exact HX2.out.1, hle⟩)⟩
           case measure => simp [intOf]; omega
         · have HLE : Hid (lessB xe.o.t xe.o.n b.o.t b.o.n = true) := hle
           have hWr := HK.out.row.below HW.out
           obtain ⟨x0, x1, x2, x3, x4, x5, x6, x7, x8, x9, x10⟩ := hWr.cells HX2.out.2.2.1
           obtain ⟨y0, y1, y2, y3, y4, y5, y6, y7, y8, y9, y10⟩ := hWr.cells HX2.out.2.2.2
           have lg : g2 < W.heap.size := by obtain ⟨cur, hcur, _⟩ := hWr.cur; exact block_lt hcur
           have n1 : ¬ g2 = W.heap.size := by omega
           have n2 : ¬ g2 = W.heap.size + 1 := by omega
           have n3 : ¬ W.heap.size = g2 := by omega
           have n4 : ¬ W.heap.size + 1 = g2 := by omega
           clear hle hWr
           go_wp2_with fail
           go_region
           · generalize hW2 : ((W.alloc (.cells #[.int .i64 (stripG b).t, .int .i64 (stripG b).n, .int .i64 (stripG b).sq, .int .i64 (stripG b).kd, .int .i64 (stripG b).ot, .int .i64 (stripG b).on, .int .i64 (stripG b).pt, .int .i64 (stripG b).pn, .string (stripG b).nm, .slice (stripG b).dp (stripG b).dl (stripG b).dc, .slice (stripG b).sp (stripG b).sl (stripG b).sc] 33)).alloc (.cells #[.int .i64 (stripG xe).t, .int .i64 (stripG xe).n, .int .i64 (stripG xe).sq, .int .i64 (stripG xe).kd, .int .i64 (stripG xe).ot, .int .i64 (stripG xe).on, .int .i64 (stripG xe).pt, .int .i64 (stripG xe).pn, .string (stripG xe).nm, .slice (stripG xe).dp (stripG xe).dl (stripG xe).dc, .slice (stripG xe).sp (stripG xe).sl (stripG xe).sc] 33)).drew = W2
             have hA : W2.heap[W.heap.size]? = some (.cells (opgC (stripG b)) 33 (0, 0)) := by rw [← hW2]; exact heap_alloc2_old W _ _
             have hB : W2.heap[W.heap.size + 1]? = some (.cells (opgC (stripG xe)) 33 (0, 0)) := by rw [← hW2]; exact heap_alloc2_new W _ _
             have hB2 : Below W.heap.size W W2 := by
               rw [← hW2]
               have := (below_two W (.cells #[.int .i64 (stripG b).t, .int .i64 (stripG b).n, .int .i64 (stripG b).sq, .int .i64 (stripG b).kd, .int .i64 (stripG b).ot, .int .i64 (stripG b).on, .int .i64 (stripG b).pt, .int .i64 (stripG b).pn, .string (stripG b).nm, .slice (stripG b).dp (stripG b).dl (stripG b).dc, .slice (stripG b).sp (stripG b).sl (stripG b).sc] 33) (.cells #[.int .i64 (stripG xe).t, .int .i64 (stripG xe).n, .int .i64 (stripG xe).sq, .int .i64 (stripG xe).kd, .int .i64 (stripG xe).ot, .int .i64 (stripG xe).on, .int .i64 (stripG xe).pt, .int .i64 (stripG xe).pn, .string (stripG xe).nm, .slice (stripG xe).dp (stripG xe).dl (stripG xe).dc, .slice (stripG xe).sp (stripG xe).sl (stripG xe).sc] 33)).out
               exact ⟨this.os, this.tape, this.output, this.size, this.block⟩
             have HR2 : Hid (RowG W2 w.heap.size (.slice (some ⟨g2, 0, none⟩) (i + 1) c2) ((insT T K xe).map stripG) ∧ kk < ((insT T K xe).map stripG).length) := ⟨(HK.out.row.below HW.out).below hB2, (List.getElem?_eq_some_iff.1 HX2.out.2.2.2).1⟩
             have HKl : Hid (K < ((insT T K xe).map stripG).length) := (List.getElem?_eq_some_iff.1 HX2.out.2.2.1).1
             obtain ⟨z0, z1, z2, z3, z4, z5, z6, z7, z8, z9, z10⟩ := op_cellsG hB
             have H2 : Hid (Below W.heap.size W W2 ∧ W2.heap[W.heap.size]? = some (.cells (opgC (stripG b)) 33 (0, 0))) := ⟨hB2, hA⟩
             clear hW2 hA hB hB2 x0 x1 x2 x3 x4 x5 x6 x7 x8 x9 x10 y0 y1 y2 y3 y4 y5 y6 y7 y8 y9 y10
             go_wp2_with (refine wpList_setG rfl _ _ rfl w.heap.size g2 (i + 1) c2 kk ((insT T K xe).map stripG) (stripG xe) rfl rfl HR2 ?_; intro W3 H3; refine Stop.out ?_)
             refine Stop.mk ?_
             have hA3 := (H3.out.2.1.block _ (block_lt H2.out.2) (by omega)).trans H2.out.2
             obtain ⟨v0, v1, v2, v3, v4, v5, v6, v7, v8, v9, v10⟩ := op_cellsG hA3
             have HR3 : Hid (RowG W3 w.heap.size (.slice (some ⟨g2, 0, none⟩) (i + 1) c2) (((insT T K xe).map stripG).set kk (stripG xe)) ∧ K < (((insT T K xe).map stripG).set kk (stripG xe)).length) := ⟨H3.out.1, by rw [List.length_set]; exact HKl.out⟩
             clear hA3 z0 z1 z2 z3 z4 z5 z6 z7 z8 z9 z10
             go_wp2_with (refine wpList_setG rfl _ _ rfl w.heap.size g2 (i + 1) c2 K (((insT T K xe).map stripG).set kk (stripG xe)) (stripG b) rfl rfl HR3 ?_; intro W4 H4; refine Stop.out ?_)
             refine Stop.mk ?_
             clear v0 v1 v2 v3 v4 v5 v6 v7 v8 v9 v10
             go_wp2_with fail
             go_roundw
             case rel =>
               refine ⟨kk, rfl, by omega, ?_⟩
               obtain ⟨k1, k2, k3⟩ := H4.out
               have hD := HK.out.below HW.out
               have e := HKk.out
               subst e
               exact hD.swap HX2.out.1 HLE.out H2.out.1 H3.out.2.1 k2 k1
             case measure => simp [intOf]; omega
           · generalize hW2 : ((W.alloc (.cells #[.int .i64 (stripG xe).t, .int .i64 (stripG xe).n, .int .i64 (stripG xe).sq, .int .i64 (stripG xe).kd, .int .i64 (stripG xe).ot, .int .i64 (stripG xe).on, .int .i64 (stripG xe).pt, .int .i64 (stripG xe).pn, .string (stripG xe).nm, .slice (stripG xe).dp (stripG xe).dl (stripG xe).dc, .slice (stripG xe).sp (stripG xe).sl (stripG xe).sc] 33)).alloc (.cells #[.int .i64 (stripG b).t, .int .i64 (stripG b).n, .int .i64 (stripG b).sq, .int .i64 (stripG b).kd, .int .i64 (stripG b).ot, .int .i64 (stripG b).on, .int .i64 (stripG b).pt, .int .i64 (stripG b).pn, .string (stripG b).nm, .slice (stripG b).dp (stripG b).dl (stripG b).dc, .slice (stripG b).sp (stripG b).sl (stripG b).sc] 33)).drew = W2
             have hA : W2.heap[W.heap.size + 1]? = some (.cells (opgC (stripG b)) 33 (0, 0)) := by rw [← hW2]; exact heap_alloc2_new W _ _
             have hB : W2.heap[W.heap.size]? = some (.cells (opgC (stripG xe)) 33 (0, 0)) := by rw [← hW2]; exact heap_alloc2_old W _ _
             have hB2 : Below W.heap.size W W2 := by
               rw [← hW2]
               have := (below_two W (.cells #[.int .i64 (stripG xe).t, .int .i64 (stripG xe).n, .int .i64 (stripG xe).sq, .int .i64 (stripG xe).kd, .int .i64 (stripG xe).ot, .int .i64 (stripG xe).on, .int .i64 (stripG xe).pt, .int .i64 (stripG xe).pn, .string (stripG xe).nm, .slice (stripG xe).dp (stripG xe).dl (stripG xe).dc, .slice (stripG xe).sp (stripG xe).sl (stripG xe).sc] 33) (.cells #[.int .i64 (stripG b).t, .int .i64 (stripG b).n, .int .i64 (stripG b).sq, .int .i64 (stripG b).kd, .int .i64 (stripG b).ot, .int .i64 (stripG b).on, .int .i64 (stripG b).pt, .int .i64 (stripG b).pn, .string (stripG b).nm, .slice (stripG b).dp (stripG b).dl (stripG b).dc, .slice (stripG b).sp (stripG b).sl (stripG b).sc] 33)).out
               exact ⟨this.os, this.tape, this.output, this.size, this.block⟩
             have HR2 : Hid (RowG W2 w.heap.size (.slice (some ⟨g2, 0, none⟩) (i + 1) c2) ((insT T K xe).map stripG) ∧ kk < ((insT T K xe).map stripG).length) := ⟨(HK.out.row.below HW.out).below hB2, (List.getElem?_eq_some_iff.1 HX2.out.2.2.2).1⟩
             have HKl : Hid (K < ((insT T K xe).map stripG).length) := (List.getElem?_eq_some_iff.1 HX2.out.2.2.1).1
             obtain ⟨z0, z1, z2, z3, z4, z5, z6, z7, z8, z9, z10⟩ := op_cellsG hB
             have H2 : Hid (Below W.heap.size W W2 ∧ W2.heap[W.heap.size + 1]? = some (.cells (opgC (stripG b)) 33 (0, 0))) := ⟨hB2, hA⟩
             clear hW2 hA hB hB2 x0 x1 x2 x3 x4 x5 x6 x7 x8 x9 x10 y0 y1 y2 y3 y4 y5 y6 y7 y8 y9 y10
             go_wp2_with (refine wpList_setG rfl _ _ rfl w.heap.size g2 (i + 1) c2 kk ((insT T K xe).map stripG) (stripG xe) rfl rfl HR2 ?_; intro W3 H3; refine Stop.out ?_)
             refine Stop.mk ?_
             have hA3 := (H3.out.2.1.block _ (block_lt H2.out.2) (by omega)).trans H2.out.2
             obtain ⟨v0, v1, v2, v3, v4, v5, v6, v7, v8, v9, v10⟩ := op_cellsG hA3
             have HR3 : Hid (RowG W3 w.heap.size (.slice (some ⟨g2, 0, none⟩) (i + 1) c2) (((insT T K xe).map stripG).set kk (stripG xe)) ∧ K < (((insT T K xe).map stripG).set kk (stripG xe)).length) := ⟨H3.out.1, by rw [List.length_set]; exact HKl.out⟩
             clear hA3 z0 z1 z2 z3 z4 z5 z6 z7 z8 z9 z10
             go_wp2_with (refine wpList_setG rfl _ _ rfl w.heap.size g2 (i + 1) c2 K (((insT T K xe).map stripG).set kk (stripG xe)) (stripG b) rfl rfl HR3 ?_; intro W4 H4; refine Stop.out ?_)
             refine Stop.mk ?_
             clear v0 v1 v2 v3 v4 v5 v6 v7 v8 v9 v10
             go_wp2_with fail
             go_roundw
             case rel =>
               refine ⟨kk, rfl, by omega, ?_⟩
               obtain ⟨k1, k2, k3⟩ := H4.out
               have hD := HK.out.below HW.out
               have e := HKk.out
               subst e
               exact hD.swap HX2.out.1 HLE.out H2.out.1 H3.out.2.1 k2 k1
             case measure => simp [intOf]; omega
end Go.Proofs.YthhakekbffembaaGreatDoor.Ck.Y
