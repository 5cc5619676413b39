/-
  ClashSplit's law.
-/
import Derived.Test.YtjajbhpcjickbaaDoorKAk

namespace Go.Proofs.YtjajbhpcjickbaaDoor.Ck.Sh
open Go.RowKit Go.Lib Go.Maps

attribute [local go_sem] Oper.semAt_some

def sameB (t n t' n' : Int) : Bool := decide (t = t') && decide (n = n')
theorem same_any (t n t' n' : Int) (w : World) : Calls Tryd.prog 12 #[idv t n, idv t' n'] w fun e w' => e = .returned (.bool (sameB t n t' n')) ∧ Below w.heap.size w w' := by
  have HB : Hid (∀ o o', Below w.heap.size w ((w.alloc o).alloc o')) := fun o o' => (below_two w o o').out
  by_cases h0 : t = t'
  · subst h0
    have HE : Hid (sameB t n t n' = decide (n = n')) := by show _ = _; simp [sameB]
    go_enter Tryd.func12, Tryd.ntmps12
    go_wp2
    go_ret
    rw [HE.out]
    exact ⟨by simp; rfl, HB.out _ _⟩
  · have HE : Hid (sameB t n t' n' = false) := by show _ = _; simp [sameB, h0]
    go_enter Tryd.func12, Tryd.ntmps12
    go_wp2
    go_ret
    rw [HE.out]
    exact ⟨by simp, HB.out _ _⟩
theorem splitV_form (l : List UInt8) (r : Option (List UInt8 × Int × Int)) : ∃ a x y b, splitV l r = .tuple #[.string (bas a), idv x y, .bool b] := by
  cases r with
  | none => exact ⟨l, 0, 0, false, rfl⟩
  | some r => exact ⟨r.1, r.2.1, r.2.2, true, rfl⟩

set_option maxRecDepth 8000 in
set_option maxRecDepth 8000 in
set_option maxHeartbeats 2000000 in
/-- The law behind its cut, whatever it begins with. -/
theorem split_law (s : ByteArray) (l : List UInt8) (hl : l.length ≤ 120) (hs : (120 < s.size ∧ s.extract 0 120 = bas l) ∨ (¬ 120 < s.size ∧ s = bas l)) (t n : Int) (ht : InI t) (hn : InI n) (w : World) (hL : Lb w) : Calls Tryd.prog 5 #[.string s, idv t n] w fun e w' => e = .returned (.bool true) ∧ Below w.heap.size w w' := by
  have cb := fun W (hW : Lb W) => begun_any W hW
  have c1 := fun W (hW : Lb W) => split_any l (by omega) W hW
  have c2 := fun W => rsplit_any l (by omega) W
  have c2' : ∀ W, Calls Tryd.prog 14 #[.string (bas l)] W fun e w' => e = .returned (splitV l (splitP l)) ∧ Below W.heap.size W w' := fun W => (c2 W).mono fun e w' ⟨⟨r, he, hr⟩, hb⟩ => ⟨by rw [he, hr.unique (splitP_of l)], hb⟩
  obtain ⟨a, x, y, b, hv⟩ := splitV_form l (splitP l)
  rw [hv] at c1 c2'
  clear hv c2
  have cm := fun W => same_any x y x y W
  have hsm : sameB x y x y = true := by simp [sameB]
  rw [hsm] at cm
  have c3 := fun W (hW : Lb W) => suffix_any t n ht hn W hW
  have c4 := fun W => rsuffix_any t n ht hn W
  generalize sufL t n = sf at c3 c4
  have q1 : ((bas a).toList == (bas a).toList) = true := by rw [bas_beq]; exact decide_eq_true rfl
  have q2 : ((bas sf).toList == (bas sf).toList) = true := by rw [bas_beq]; exact decide_eq_true rfl
  have HL := Lib.hid hL
  clear hsm hL ht hn
  rcases hs with ⟨h1, h2⟩ | ⟨h1, rfl⟩
  · have hI : (120 : Int) < (s.size : Int) := by omega
    have h90 : 120 ≤ s.size := by omega
    clear hl
    go_enter Tryd.func5, Tryd.ntmps5
    go_wp2_with (first
      | (go_at_call 7
         have b0 : Below w.heap.size w (w.alloc (.cells #[.int .i64 t, .int .i64 n] 29)) := (below_new w _).out
         refine (cb _ (HL.out.below b0)).mono ?_
         rintro e w2 ⟨rfl, hb2⟩
         have B2 := Lib.hid (below_then b0 hb2)
         have I2 := Lib.hid ((IdC.new w t n).below hb2)
         clear hb2 b0 cb)
      | (go_at_call 13
         refine (c1 _ (HL.out.below B2.out)).mono ?_
         rintro e w3 ⟨rfl, hb3⟩
         have B3 := Lib.hid (below_then B2.out hb3)
         have I3 := Lib.hid (I2.out.below hb3)
         clear hb3 c1)
      | (go_at_call 14
         have b3 : Below w3.heap.size w3 (w3.alloc (.cells #[.int .i64 x, .int .i64 y] 29)) := (below_new w3 _).out
         refine (c2' _).mono ?_
         rintro e w4 ⟨rfl, hb4⟩
         have B4 := Lib.hid (below_then (below_then B3.out b3) hb4)
         have I4 := Lib.hid (I3.out.below (below_then b3 hb4))
         have J4 := Lib.hid ((IdC.new w3 x y).below hb4)
         clear hb4 b3 c2'))
    obtain ⟨X, hX⟩ : ∃ X, X = w4.alloc (.cells #[.int .i64 x, .int .i64 y] 29) := ⟨_, rfl⟩
    rw [← hX]
    have b4 : Below w4.heap.size w4 X := by rw [hX]; exact (below_new w4 _).out
    have BX := Lib.hid (below_then B4.out b4)
    have i1 := I4.out.below b4
    have i2 := J4.out.below b4
    have i3 : IdC X w4.heap.size x y := by rw [hX]; exact IdC.new w4 x y
    have HS : ∀ W W', (W.cell? ⟨w.heap.size, 0, none⟩ = some (.int .i64 t) ∧ W.cell? ⟨w.heap.size, 1, none⟩ = some (.int .i64 n) ∧ W.cell? ⟨w3.heap.size, 0, none⟩ = some (.int .i64 x) ∧ W.cell? ⟨w3.heap.size, 1, none⟩ = some (.int .i64 y) ∧ W.cell? ⟨w4.heap.size, 0, none⟩ = some (.int .i64 x) ∧ W.cell? ⟨w4.heap.size, 1, none⟩ = some (.int .i64 y) ∧ Hid (Below X.heap.size X W)) → Hid (Below W.heap.size W W') → W'.cell? ⟨w.heap.size, 0, none⟩ = some (.int .i64 t) ∧ W'.cell? ⟨w.heap.size, 1, none⟩ = some (.int .i64 n) ∧ W'.cell? ⟨w3.heap.size, 0, none⟩ = some (.int .i64 x) ∧ W'.cell? ⟨w3.heap.size, 1, none⟩ = some (.int .i64 y) ∧ W'.cell? ⟨w4.heap.size, 0, none⟩ = some (.int .i64 x) ∧ W'.cell? ⟨w4.heap.size, 1, none⟩ = some (.int .i64 y) ∧ Hid (Below X.heap.size X W') := fun W W' h1 h2 =>
      have hb := below_then h1.2.2.2.2.2.2.out h2.out
      ⟨(i1.below hb).c0, (i1.below hb).c1, (i2.below hb).c0, (i2.below hb).c1, (i3.below hb).c0, (i3.below hb).c1, hb⟩
    have S1 : X.drew.cell? ⟨w.heap.size, 0, none⟩ = some (.int .i64 t) ∧ X.drew.cell? ⟨w.heap.size, 1, none⟩ = some (.int .i64 n) ∧ X.drew.cell? ⟨w3.heap.size, 0, none⟩ = some (.int .i64 x) ∧ X.drew.cell? ⟨w3.heap.size, 1, none⟩ = some (.int .i64 y) ∧ X.drew.cell? ⟨w4.heap.size, 0, none⟩ = some (.int .i64 x) ∧ X.drew.cell? ⟨w4.heap.size, 1, none⟩ = some (.int .i64 y) ∧ Hid (Below X.heap.size X X.drew) := ⟨i1.c0, i1.c1, i2.c0, i2.c1, i3.c0, i3.c1, below_drewN X 1⟩
    have S2 : X.cell? ⟨w.heap.size, 0, none⟩ = some (.int .i64 t) ∧ X.cell? ⟨w.heap.size, 1, none⟩ = some (.int .i64 n) ∧ X.cell? ⟨w3.heap.size, 0, none⟩ = some (.int .i64 x) ∧ X.cell? ⟨w3.heap.size, 1, none⟩ = some (.int .i64 y) ∧ X.cell? ⟨w4.heap.size, 0, none⟩ = some (.int .i64 x) ∧ X.cell? ⟨w4.heap.size, 1, none⟩ = some (.int .i64 y) ∧ Hid (Below X.heap.size X X) := ⟨i1.c0, i1.c1, i2.c0, i2.c1, i3.c0, i3.c1, Below.refl _ _⟩
    have HF : ∀ W, (W.cell? ⟨w.heap.size, 0, none⟩ = some (.int .i64 t) ∧ W.cell? ⟨w.heap.size, 1, none⟩ = some (.int .i64 n) ∧ W.cell? ⟨w3.heap.size, 0, none⟩ = some (.int .i64 x) ∧ W.cell? ⟨w3.heap.size, 1, none⟩ = some (.int .i64 y) ∧ W.cell? ⟨w4.heap.size, 0, none⟩ = some (.int .i64 x) ∧ W.cell? ⟨w4.heap.size, 1, none⟩ = some (.int .i64 y) ∧ Hid (Below X.heap.size X W)) → Below w.heap.size w W := fun W hW => below_then BX.out hW.2.2.2.2.2.2.out
    have HLB : ∀ W, (W.cell? ⟨w.heap.size, 0, none⟩ = some (.int .i64 t) ∧ W.cell? ⟨w.heap.size, 1, none⟩ = some (.int .i64 n) ∧ W.cell? ⟨w3.heap.size, 0, none⟩ = some (.int .i64 x) ∧ W.cell? ⟨w3.heap.size, 1, none⟩ = some (.int .i64 y) ∧ W.cell? ⟨w4.heap.size, 0, none⟩ = some (.int .i64 x) ∧ W.cell? ⟨w4.heap.size, 1, none⟩ = some (.int .i64 y) ∧ Hid (Below X.heap.size X W)) → Lb W := fun W hW => HL.out.below (HF W hW)
    clear hX b4 i1 i2 i3
    go_region_held3 (fun W => W.cell? ⟨w.heap.size, 0, none⟩ = some (.int .i64 t) ∧ W.cell? ⟨w.heap.size, 1, none⟩ = some (.int .i64 n) ∧ W.cell? ⟨w3.heap.size, 0, none⟩ = some (.int .i64 x) ∧ W.cell? ⟨w3.heap.size, 1, none⟩ = some (.int .i64 y) ∧ W.cell? ⟨w4.heap.size, 0, none⟩ = some (.int .i64 x) ∧ W.cell? ⟨w4.heap.size, 1, none⟩ = some (.int .i64 y) ∧ Hid (Below X.heap.size X W))
      (first | exact S1 | exact S2 | assumption | exact HS _ _ (by assumption) (by assumption))
      (first | (go_at_call 12; refine Calls_new (cm _) ?_; intro w5 HB5) | (go_at_call 15; refine Calls_new (c3 _ (HLB _ (by assumption))) ?_; intro w6 HB6) | (go_at_call 16; refine Calls_new (c4 _) ?_; intro w7 HB7))
    go_wp2
    go_ret
    exact ⟨rfl, HF _ (by assumption)⟩
  · have hI : ¬ (120 : Int) < (l.length : Int) := by omega
    have hsz := bas_size l
    clear hl h1
    go_enter Tryd.func5, Tryd.ntmps5
    go_wp2_with (first
      | (go_at_call 7
         have b0 : Below w.heap.size w (w.alloc (.cells #[.int .i64 t, .int .i64 n] 29)) := (below_new w _).out
         refine (cb _ (HL.out.below b0)).mono ?_
         rintro e w2 ⟨rfl, hb2⟩
         have B2 := Lib.hid (below_then b0 hb2)
         have I2 := Lib.hid ((IdC.new w t n).below hb2)
         clear hb2 b0 cb)
      | (go_at_call 13
         refine (c1 _ (HL.out.below B2.out)).mono ?_
         rintro e w3 ⟨rfl, hb3⟩
         have B3 := Lib.hid (below_then B2.out hb3)
         have I3 := Lib.hid (I2.out.below hb3)
         clear hb3 c1)
      | (go_at_call 14
         have b3 : Below w3.heap.size w3 (w3.alloc (.cells #[.int .i64 x, .int .i64 y] 29)) := (below_new w3 _).out
         refine (c2' _).mono ?_
         rintro e w4 ⟨rfl, hb4⟩
         have B4 := Lib.hid (below_then (below_then B3.out b3) hb4)
         have I4 := Lib.hid (I3.out.below (below_then b3 hb4))
         have J4 := Lib.hid ((IdC.new w3 x y).below hb4)
         clear hb4 b3 c2'))
    obtain ⟨X, hX⟩ : ∃ X, X = w4.alloc (.cells #[.int .i64 x, .int .i64 y] 29) := ⟨_, rfl⟩
    rw [← hX]
    have b4 : Below w4.heap.size w4 X := by rw [hX]; exact (below_new w4 _).out
    have BX := Lib.hid (below_then B4.out b4)
    have i1 := I4.out.below b4
    have i2 := J4.out.below b4
    have i3 : IdC X w4.heap.size x y := by rw [hX]; exact IdC.new w4 x y
    have HS : ∀ W W', (W.cell? ⟨w.heap.size, 0, none⟩ = some (.int .i64 t) ∧ W.cell? ⟨w.heap.size, 1, none⟩ = some (.int .i64 n) ∧ W.cell? ⟨w3.heap.size, 0, none⟩ = some (.int .i64 x) ∧ W.cell? ⟨w3.heap.size, 1, none⟩ = some (.int .i64 y) ∧ W.cell? ⟨w4.heap.size, 0, none⟩ = some (.int .i64 x) ∧ W.cell? ⟨w4.heap.size, 1, none⟩ = some (.int .i64 y) ∧ Hid (Below X.heap.size X W)) → Hid (Below W.heap.size W W') → W'.cell? ⟨w.heap.size, 0, none⟩ = some (.int .i64 t) ∧ W'.cell? ⟨w.heap.size, 1, none⟩ = some (.int .i64 n) ∧ W'.cell? ⟨w3.heap.size, 0, none⟩ = some (.int .i64 x) ∧ W'.cell? ⟨w3.heap.size, 1, none⟩ = some (.int .i64 y) ∧ W'.cell? ⟨w4.heap.size, 0, none⟩ = some (.int .i64 x) ∧ W'.cell? ⟨w4.heap.size, 1, none⟩ = some (.int .i64 y) ∧ Hid (Below X.heap.size X W') := fun W W' h1 h2 =>
      have hb := below_then h1.2.2.2.2.2.2.out h2.out
      ⟨(i1.below hb).c0, (i1.below hb).c1, (i2.below hb).c0, (i2.below hb).c1, (i3.below hb).c0, (i3.below hb).c1, hb⟩
    have S1 : X.drew.cell? ⟨w.heap.size, 0, none⟩ = some (.int .i64 t) ∧ X.drew.cell? ⟨w.heap.size, 1, none⟩ = some (.int .i64 n) ∧ X.drew.cell? ⟨w3.heap.size, 0, none⟩ = some (.int .i64 x) ∧ X.drew.cell? ⟨w3.heap.size, 1, none⟩ = some (.int .i64 y) ∧ X.drew.cell? ⟨w4.heap.size, 0, none⟩ = some (.int .i64 x) ∧ X.drew.cell? ⟨w4.heap.size, 1, none⟩ = some (.int .i64 y) ∧ Hid (Below X.heap.size X X.drew) := ⟨i1.c0, i1.c1, i2.c0, i2.c1, i3.c0, i3.c1, below_drewN X 1⟩
    have S2 : X.cell? ⟨w.heap.size, 0, none⟩ = some (.int .i64 t) ∧ X.cell? ⟨w.heap.size, 1, none⟩ = some (.int .i64 n) ∧ X.cell? ⟨w3.heap.size, 0, none⟩ = some (.int .i64 x) ∧ X.cell? ⟨w3.heap.size, 1, none⟩ = some (.int .i64 y) ∧ X.cell? ⟨w4.heap.size, 0, none⟩ = some (.int .i64 x) ∧ X.cell? ⟨w4.heap.size, 1, none⟩ = some (.int .i64 y) ∧ Hid (Below X.heap.size X X) := ⟨i1.c0, i1.c1, i2.c0, i2.c1, i3.c0, i3.c1, Below.refl _ _⟩
    have HF : ∀ W, (W.cell? ⟨w.heap.size, 0, none⟩ = some (.int .i64 t) ∧ W.cell? ⟨w.heap.size, 1, none⟩ = some (.int .i64 n) ∧ W.cell? ⟨w3.heap.size, 0, none⟩ = some (.int .i64 x) ∧ W.cell? ⟨w3.heap.size, 1, none⟩ = some (.int .i64 y) ∧ W.cell? ⟨w4.heap.size, 0, none⟩ = some (.int .i64 x) ∧ W.cell? ⟨w4.heap.size, 1, none⟩ = some (.int .i64 y) ∧ Hid (Below X.heap.size X W)) → Below w.heap.size w W := fun W hW => below_then BX.out hW.2.2.2.2.2.2.out
    have HLB : ∀ W, (W.cell? ⟨w.heap.size, 0, none⟩ = some (.int .i64 t) ∧ W.cell? ⟨w.heap.size, 1, none⟩ = some (.int .i64 n) ∧ W.cell? ⟨w3.heap.size, 0, none⟩ = some (.int .i64 x) ∧ W.cell? ⟨w3.heap.size, 1, none⟩ = some (.int .i64 y) ∧ W.cell? ⟨w4.heap.size, 0, none⟩ = some (.int .i64 x) ∧ W.cell? ⟨w4.heap.size, 1, none⟩ = some (.int .i64 y) ∧ Hid (Below X.heap.size X W)) → Lb W := fun W hW => HL.out.below (HF W hW)
    clear hX b4 i1 i2 i3
    go_region_held3 (fun W => W.cell? ⟨w.heap.size, 0, none⟩ = some (.int .i64 t) ∧ W.cell? ⟨w.heap.size, 1, none⟩ = some (.int .i64 n) ∧ W.cell? ⟨w3.heap.size, 0, none⟩ = some (.int .i64 x) ∧ W.cell? ⟨w3.heap.size, 1, none⟩ = some (.int .i64 y) ∧ W.cell? ⟨w4.heap.size, 0, none⟩ = some (.int .i64 x) ∧ W.cell? ⟨w4.heap.size, 1, none⟩ = some (.int .i64 y) ∧ Hid (Below X.heap.size X W))
      (first | exact S1 | exact S2 | assumption | exact HS _ _ (by assumption) (by assumption))
      (first | (go_at_call 12; refine Calls_new (cm _) ?_; intro w5 HB5) | (go_at_call 15; refine Calls_new (c3 _ (HLB _ (by assumption))) ?_; intro w6 HB6) | (go_at_call 16; refine Calls_new (c4 _) ?_; intro w7 HB7))
    go_wp2
    go_ret
    exact ⟨rfl, HF _ (by assumption)⟩

theorem clashSplit_law (s : ByteArray) (t n : Int) (ht : InI t) (hn : InI n) (w : World) (hL : Lb w) : Calls Tryd.prog 5 #[.string s, idv t n] w fun e w' => e = .returned (.bool true) ∧ Below w.heap.size w w' := by
  by_cases h : 120 < s.size
  · refine split_law s (s.extract 0 120).data.toList ?_ (.inl ⟨h, (bas_of _).symm⟩) t n ht hn w hL
    rw [ByteArray.data_extract]
    simp
    omega
  · exact split_law s s.data.toList (by rw [← Lib.size_eq]; omega) (.inr ⟨h, (bas_of s).symm⟩) t n ht hn w hL

end Go.Proofs.YtjajbhpcjickbaaDoor.Ck.Sh
