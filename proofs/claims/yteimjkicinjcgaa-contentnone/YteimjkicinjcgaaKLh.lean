/-
  Where a stamp stands among the heads: slices.BinarySearchFunc.
-/
import Derived.Test.YteimjkicinjcgaaKLg

namespace Go.Proofs.Yteimjkicinjcgaa.Ck.Y.L
open Go.RowKit Go.Maps Go.Lib

theorem below_drewNH (w : World) (n : Nat) : Below w.heap.size w (w.drewN n) := ⟨rfl, rfl, rfl, Nat.le_refl _, fun _ _ => rfl⟩
/-- The function value compareStamp. -/
abbrev cmv : Value := .func (.func 55) #[] #[]
def ltV (x y : VG) : Prop := lessB x.t x.n y.t y.n = true
def leV (x : VG) (t n : Int) : Prop := lessB x.t x.n t n = true
/-- The place of a stamp. -/
structure PlcV (L : List VG) (t n : Int) (i : Nat) : Prop where
  le : i ≤ L.length
  lo : ∀ k x, k < i → L[k]? = some x → leV x t n
  hi : ∀ k x, i ≤ k → L[k]? = some x → ¬ leV x t n
theorem leV_trans {x y : VG} {t n : Int} (h : ltV x y) (k : leV y t n) : leV x t n := by
  unfold ltV at h; unfold leV at *
  rw [lessB_true] at *; omega

set_option maxRecDepth 8000 in
set_option maxHeartbeats 4000000 in
theorem search_any (base : Nat) (v : Value) (L : List VG) (t n : Int) (w : World) (hr : RowV w base v L) (hl : L.length ≤ 1000) (hs : L.Pairwise ltV) :
    Calls Try.prog 54 #[v, idv t n, cmv] w fun e w' => ∃ (i : Nat) (r : Bool), e = .returned (.tuple #[.int .i64 i, .bool r]) ∧ PlcV L t n i ∧ Below w.heap.size w w' := by
  obtain ⟨w0, hw0⟩ : ∃ w0, w0 = w.alloc (.cells #[.int .i64 t, .int .i64 n] 30) := ⟨_, rfl⟩
  have hk : w0.heap[w.heap.size]? = some (.cells #[.int .i64 t, .int .i64 n] 30 (0, 0)) := by rw [hw0]; exact heap_alloc_new w _
  have hB : Below w.heap.size w w0 := by rw [hw0]; exact below_new w _
  obtain ⟨p, c, rfl, _⟩ := hr.caps
  have HR : Hid (RowV w0 base (.slice p L.length c) L) := hr.below hB
  have HPW : Hid (L.Pairwise ltV) := hs
  have HT : Hid (w0.cell? ⟨w.heap.size, 0, none⟩ = some (.int .i64 t) ∧ w0.cell? ⟨w.heap.size, 1, none⟩ = some (.int .i64 n)) := ⟨cellOf hk 0, cellOf hk 1⟩
  have HB : Hid (Below w.heap.size w w0) := hB
  have HW0 : Hid (w0 = w.alloc (.cells #[.int .i64 t, .int .i64 n] 30)) := hw0
  clear hr hs hk hB hw0
  go_enter Try.func54, Try.ntmps54
  go_wp2
  rw [← HW0.out]
  go_loopw [9, 10] (fun ii jj wr => ∃ i j : Nat, i ≤ j ∧ j ≤ L.length ∧ ii = .int .i64 i ∧ jj = .int .i64 j ∧ Hid (Below w0.heap.size w0 wr ∧ (∀ k x, k < i → L[k]? = some x → leV x t n) ∧ (∀ k x, j ≤ k → L[k]? = some x → ¬ leV x t n))) (fun ii jj _ => (intOf jj).toNat - (intOf ii).toNat)
  case atStart => exact ⟨0, L.length, by omega, by omega, rfl, rfl, Below.refl _ _, (fun k x hk => by omega), (fun k x hk hx => by have := (List.getElem?_eq_some_iff.1 hx).1; omega)⟩
  case round =>
    obtain ⟨i, j, hij, hjn, rfl, rfl, HI⟩ := hrel
    have t0 := cell_keptH HT.out.1 HI.out.1
    have t1 := cell_keptH HT.out.2 HI.out.1
    by_cases hlt : i < j
    · have hltI : (i : Int) < j := by omega
      obtain ⟨h, hh⟩ : ∃ h, (i + j) / 2 = h := ⟨_, rfl⟩
      have hhI : ((i : Int) + (j : Int)) / 2 = (h : Nat) := by omega
      have hhn : h < L.length := by omega
      have hhnI : (h : Int) < L.length := by omega
      obtain ⟨x, hx⟩ : ∃ x, L[h]? = some x := ⟨_, List.getElem?_eq_getElem hhn⟩
      obtain ⟨p', c', e', hc⟩ := (HR.out.below HI.out.1).caps
      cases e'
      obtain ⟨g, rfl, d0, d1, d2, d3, d4⟩ := hc h x hx
      have hcall : ∀ W, Calls Try.prog 55 #[vgv x, idv t n] W fun e w' => e = .returned (.int .i64 (cmpZ x.t x.n t n)) ∧ Below W.heap.size W w' := fun W => compare_any x t n W
      obtain ⟨z, hz⟩ : ∃ z, cmpZ x.t x.n t n = z := ⟨_, rfl⟩
      have HZ : Hid (decide (z < 0) = lessB x.t x.n t n) := by show _ = _; rw [← hz]; exact less_cmp _ _ _ _
      have HX : Hid (L[h]? = some x ∧ (i + j) / 2 = h) := ⟨hx, hh⟩
      rw [hz] at hcall
      clear hc hx hh hz
      by_cases hz0 : z < 0
      · have HL : Hid (leV x t n) := by
          have := HZ.out
          rw [decide_eq_true hz0] at this
          exact this.symm
        obtain ⟨xt, xn, xq, ns, sp, sc, bs, dp, dc⟩ := x
        simp only [vgv, vgC] at *
        generalize ns.length = nl at *
        generalize bs.length = bl at *
        go_wp2_with fail
        have HS : ∀ W W', (W.cell? ⟨g, h * 5, none⟩ = some (.int .i64 xt) ∧ W.cell? ⟨g, h * 5 + 1, none⟩ = some (.int .i64 xn) ∧ W.cell? ⟨g, h * 5 + 2, none⟩ = some (.int .i64 xq) ∧ W.cell? ⟨g, h * 5 + 3, none⟩ = some (.slice sp nl sc) ∧ W.cell? ⟨g, h * 5 + 4, none⟩ = some (.slice dp bl dc) ∧ W.cell? ⟨w.heap.size, 0, none⟩ = some (.int .i64 t) ∧ W.cell? ⟨w.heap.size, 1, none⟩ = some (.int .i64 n) ∧ Hid (Below wr.heap.size wr W)) → Hid (Below W.heap.size W W') → W'.cell? ⟨g, h * 5, none⟩ = some (.int .i64 xt) ∧ W'.cell? ⟨g, h * 5 + 1, none⟩ = some (.int .i64 xn) ∧ W'.cell? ⟨g, h * 5 + 2, none⟩ = some (.int .i64 xq) ∧ W'.cell? ⟨g, h * 5 + 3, none⟩ = some (.slice sp nl sc) ∧ W'.cell? ⟨g, h * 5 + 4, none⟩ = some (.slice dp bl dc) ∧ W'.cell? ⟨w.heap.size, 0, none⟩ = some (.int .i64 t) ∧ W'.cell? ⟨w.heap.size, 1, none⟩ = some (.int .i64 n) ∧ Hid (Below wr.heap.size wr W') := fun W W' h1 h2 =>
          have hb := below_thenH h1.2.2.2.2.2.2.2.out h2.out
          ⟨cell_keptH d0 hb, cell_keptH d1 hb, cell_keptH d2 hb, cell_keptH d3 hb, cell_keptH d4 hb, cell_keptH t0 hb, cell_keptH t1 hb, hb⟩
        have S1 : wr.drew.cell? ⟨g, h * 5, none⟩ = some (.int .i64 xt) ∧ wr.drew.cell? ⟨g, h * 5 + 1, none⟩ = some (.int .i64 xn) ∧ wr.drew.cell? ⟨g, h * 5 + 2, none⟩ = some (.int .i64 xq) ∧ wr.drew.cell? ⟨g, h * 5 + 3, none⟩ = some (.slice sp nl sc) ∧ wr.drew.cell? ⟨g, h * 5 + 4, none⟩ = some (.slice dp bl dc) ∧ wr.drew.cell? ⟨w.heap.size, 0, none⟩ = some (.int .i64 t) ∧ wr.drew.cell? ⟨w.heap.size, 1, none⟩ = some (.int .i64 n) ∧ Hid (Below wr.heap.size wr wr.drew) := ⟨d0, d1, d2, d3, d4, t0, t1, below_drewH wr⟩
        have S2 : wr.cell? ⟨g, h * 5, none⟩ = some (.int .i64 xt) ∧ wr.cell? ⟨g, h * 5 + 1, none⟩ = some (.int .i64 xn) ∧ wr.cell? ⟨g, h * 5 + 2, none⟩ = some (.int .i64 xq) ∧ wr.cell? ⟨g, h * 5 + 3, none⟩ = some (.slice sp nl sc) ∧ wr.cell? ⟨g, h * 5 + 4, none⟩ = some (.slice dp bl dc) ∧ wr.cell? ⟨w.heap.size, 0, none⟩ = some (.int .i64 t) ∧ wr.cell? ⟨w.heap.size, 1, none⟩ = some (.int .i64 n) ∧ Hid (Below wr.heap.size wr wr) := ⟨d0, d1, d2, d3, d4, t0, t1, Below.refl _ _⟩
        have HF : ∀ W, (W.cell? ⟨g, h * 5, none⟩ = some (.int .i64 xt) ∧ W.cell? ⟨g, h * 5 + 1, none⟩ = some (.int .i64 xn) ∧ W.cell? ⟨g, h * 5 + 2, none⟩ = some (.int .i64 xq) ∧ W.cell? ⟨g, h * 5 + 3, none⟩ = some (.slice sp nl sc) ∧ W.cell? ⟨g, h * 5 + 4, none⟩ = some (.slice dp bl dc) ∧ W.cell? ⟨w.heap.size, 0, none⟩ = some (.int .i64 t) ∧ W.cell? ⟨w.heap.size, 1, none⟩ = some (.int .i64 n) ∧ Hid (Below wr.heap.size wr W)) → Below wr.heap.size wr W := fun W hW => hW.2.2.2.2.2.2.2.out
        go_region_held3 (fun W => W.cell? ⟨g, h * 5, none⟩ = some (.int .i64 xt) ∧ W.cell? ⟨g, h * 5 + 1, none⟩ = some (.int .i64 xn) ∧ W.cell? ⟨g, h * 5 + 2, none⟩ = some (.int .i64 xq) ∧ W.cell? ⟨g, h * 5 + 3, none⟩ = some (.slice sp nl sc) ∧ W.cell? ⟨g, h * 5 + 4, none⟩ = some (.slice dp bl dc) ∧ W.cell? ⟨w.heap.size, 0, none⟩ = some (.int .i64 t) ∧ W.cell? ⟨w.heap.size, 1, none⟩ = some (.int .i64 n) ∧ Hid (Below wr.heap.size wr W))
          (first | exact S1 | exact S2 | assumption | exact HS _ _ (by assumption) (by assumption))
          (first | (go_at_call 55; refine Calls_new (hcall _) ?_; intro w3 HB3))
        have HB2 : Hid (Below wr.heap.size wr _) := HF _ (by assumption)
        go_wp2_with fail
        go_roundw
        case rel => exact ⟨h + 1, j, by omega, by omega, by go_num, rfl, below_thenH HI.out.1 HB2.out, (fun k y hk hy => by
            by_cases e : k = h
            · subst e; rw [HX.out.1] at hy; cases hy; exact HL.out
            · have h1 := List.pairwise_iff_getElem.1 HPW.out k h (List.getElem?_eq_some_iff.1 hy).1 (List.getElem?_eq_some_iff.1 HX.out.1).1 (by omega)
              rw [(List.getElem?_eq_some_iff.1 hy).2, (List.getElem?_eq_some_iff.1 HX.out.1).2] at h1
              exact leV_trans h1 HL.out), HI.out.2.2⟩
        case measure => simp [intOf]; omega
      · have HL : Hid (¬ leV x t n) := by
          have := HZ.out
          rw [decide_eq_false hz0] at this
          intro hp
          unfold leV at hp
          rw [hp] at this
          cases this
        obtain ⟨xt, xn, xq, ns, sp, sc, bs, dp, dc⟩ := x
        simp only [vgv, vgC] at *
        generalize ns.length = nl at *
        generalize bs.length = bl at *
        go_wp2_with fail
        have HS : ∀ W W', (W.cell? ⟨g, h * 5, none⟩ = some (.int .i64 xt) ∧ W.cell? ⟨g, h * 5 + 1, none⟩ = some (.int .i64 xn) ∧ W.cell? ⟨g, h * 5 + 2, none⟩ = some (.int .i64 xq) ∧ W.cell? ⟨g, h * 5 + 3, none⟩ = some (.slice sp nl sc) ∧ W.cell? ⟨g, h * 5 + 4, none⟩ = some (.slice dp bl dc) ∧ W.cell? ⟨w.heap.size, 0, none⟩ = some (.int .i64 t) ∧ W.cell? ⟨w.heap.size, 1, none⟩ = some (.int .i64 n) ∧ Hid (Below wr.heap.size wr W)) → Hid (Below W.heap.size W W') → W'.cell? ⟨g, h * 5, none⟩ = some (.int .i64 xt) ∧ W'.cell? ⟨g, h * 5 + 1, none⟩ = some (.int .i64 xn) ∧ W'.cell? ⟨g, h * 5 + 2, none⟩ = some (.int .i64 xq) ∧ W'.cell? ⟨g, h * 5 + 3, none⟩ = some (.slice sp nl sc) ∧ W'.cell? ⟨g, h * 5 + 4, none⟩ = some (.slice dp bl dc) ∧ W'.cell? ⟨w.heap.size, 0, none⟩ = some (.int .i64 t) ∧ W'.cell? ⟨w.heap.size, 1, none⟩ = some (.int .i64 n) ∧ Hid (Below wr.heap.size wr W') := fun W W' h1 h2 =>
          have hb := below_thenH h1.2.2.2.2.2.2.2.out h2.out
          ⟨cell_keptH d0 hb, cell_keptH d1 hb, cell_keptH d2 hb, cell_keptH d3 hb, cell_keptH d4 hb, cell_keptH t0 hb, cell_keptH t1 hb, hb⟩
        have S1 : wr.drew.cell? ⟨g, h * 5, none⟩ = some (.int .i64 xt) ∧ wr.drew.cell? ⟨g, h * 5 + 1, none⟩ = some (.int .i64 xn) ∧ wr.drew.cell? ⟨g, h * 5 + 2, none⟩ = some (.int .i64 xq) ∧ wr.drew.cell? ⟨g, h * 5 + 3, none⟩ = some (.slice sp nl sc) ∧ wr.drew.cell? ⟨g, h * 5 + 4, none⟩ = some (.slice dp bl dc) ∧ wr.drew.cell? ⟨w.heap.size, 0, none⟩ = some (.int .i64 t) ∧ wr.drew.cell? ⟨w.heap.size, 1, none⟩ = some (.int .i64 n) ∧ Hid (Below wr.heap.size wr wr.drew) := ⟨d0, d1, d2, d3, d4, t0, t1, below_drewH wr⟩
        have S2 : wr.cell? ⟨g, h * 5, none⟩ = some (.int .i64 xt) ∧ wr.cell? ⟨g, h * 5 + 1, none⟩ = some (.int .i64 xn) ∧ wr.cell? ⟨g, h * 5 + 2, none⟩ = some (.int .i64 xq) ∧ wr.cell? ⟨g, h * 5 + 3, none⟩ = some (.slice sp nl sc) ∧ wr.cell? ⟨g, h * 5 + 4, none⟩ = some (.slice dp bl dc) ∧ wr.cell? ⟨w.heap.size, 0, none⟩ = some (.int .i64 t) ∧ wr.cell? ⟨w.heap.size, 1, none⟩ = some (.int .i64 n) ∧ Hid (Below wr.heap.size wr wr) := ⟨d0, d1, d2, d3, d4, t0, t1, Below.refl _ _⟩
        have HF : ∀ W, (W.cell? ⟨g, h * 5, none⟩ = some (.int .i64 xt) ∧ W.cell? ⟨g, h * 5 + 1, none⟩ = some (.int .i64 xn) ∧ W.cell? ⟨g, h * 5 + 2, none⟩ = some (.int .i64 xq) ∧ W.cell? ⟨g, h * 5 + 3, none⟩ = some (.slice sp nl sc) ∧ W.cell? ⟨g, h * 5 + 4, none⟩ = some (.slice dp bl dc) ∧ W.cell? ⟨w.heap.size, 0, none⟩ = some (.int .i64 t) ∧ W.cell? ⟨w.heap.size, 1, none⟩ = some (.int .i64 n) ∧ Hid (Below wr.heap.size wr W)) → Below wr.heap.size wr W := fun W hW => hW.2.2.2.2.2.2.2.out
        go_region_held3 (fun W => W.cell? ⟨g, h * 5, none⟩ = some (.int .i64 xt) ∧ W.cell? ⟨g, h * 5 + 1, none⟩ = some (.int .i64 xn) ∧ W.cell? ⟨g, h * 5 + 2, none⟩ = some (.int .i64 xq) ∧ W.cell? ⟨g, h * 5 + 3, none⟩ = some (.slice sp nl sc) ∧ W.cell? ⟨g, h * 5 + 4, none⟩ = some (.slice dp bl dc) ∧ W.cell? ⟨w.heap.size, 0, none⟩ = some (.int .i64 t) ∧ W.cell? ⟨w.heap.size, 1, none⟩ = some (.int .i64 n) ∧ Hid (Below wr.heap.size wr W))
          (first | exact S1 | exact S2 | assumption | exact HS _ _ (by assumption) (by assumption))
          (first | (go_at_call 55; refine Calls_new (hcall _) ?_; intro w3 HB3))
        have HB2 : Hid (Below wr.heap.size wr _) := HF _ (by assumption)
        go_wp2_with fail
        go_roundw
        case rel => exact ⟨i, h, by omega, by omega, rfl, rfl, below_thenH HI.out.1 HB2.out, HI.out.2.1, (fun k y hk hy => by
            by_cases e : k = h
            · subst e; rw [HX.out.1] at hy; cases hy; exact HL.out
            · have h1 := List.pairwise_iff_getElem.1 HPW.out h k (List.getElem?_eq_some_iff.1 HX.out.1).1 (List.getElem?_eq_some_iff.1 hy).1 (by omega)
              rw [(List.getElem?_eq_some_iff.1 hy).2, (List.getElem?_eq_some_iff.1 HX.out.1).2] at h1
              exact fun e => HL.out (leV_trans h1 e))⟩
        case measure => simp [intOf]; omega
    · obtain rfl : j = i := by omega
      by_cases hin : j < L.length
      · have hinI : (j : Int) < L.length := by omega
        obtain ⟨x, hx⟩ : ∃ x, L[j]? = some x := ⟨_, List.getElem?_eq_getElem hin⟩
        obtain ⟨p', c', e', hc⟩ := (HR.out.below HI.out.1).caps
        cases e'
        obtain ⟨g, rfl, d0, d1, d2, d3, d4⟩ := hc j x hx
        have hcall : ∀ W, Calls Try.prog 55 #[vgv x, idv t n] W fun e w' => e = .returned (.int .i64 (cmpZ x.t x.n t n)) ∧ Below W.heap.size W w' := fun W => compare_any x t n W
        obtain ⟨z, hz⟩ : ∃ z, cmpZ x.t x.n t n = z := ⟨_, rfl⟩
        rw [hz] at hcall
        clear hc hx hz
        obtain ⟨xt, xn, xq, ns, sp, sc, bs, dp, dc⟩ := x
        simp only [vgv, vgC] at *
        generalize ns.length = nl at *
        generalize bs.length = bl at *
        go_wp2_with fail
        have HS : ∀ W W', (W.cell? ⟨g, j * 5, none⟩ = some (.int .i64 xt) ∧ W.cell? ⟨g, j * 5 + 1, none⟩ = some (.int .i64 xn) ∧ W.cell? ⟨g, j * 5 + 2, none⟩ = some (.int .i64 xq) ∧ W.cell? ⟨g, j * 5 + 3, none⟩ = some (.slice sp nl sc) ∧ W.cell? ⟨g, j * 5 + 4, none⟩ = some (.slice dp bl dc) ∧ W.cell? ⟨w.heap.size, 0, none⟩ = some (.int .i64 t) ∧ W.cell? ⟨w.heap.size, 1, none⟩ = some (.int .i64 n) ∧ Hid (Below wr.heap.size wr W)) → Hid (Below W.heap.size W W') → W'.cell? ⟨g, j * 5, none⟩ = some (.int .i64 xt) ∧ W'.cell? ⟨g, j * 5 + 1, none⟩ = some (.int .i64 xn) ∧ W'.cell? ⟨g, j * 5 + 2, none⟩ = some (.int .i64 xq) ∧ W'.cell? ⟨g, j * 5 + 3, none⟩ = some (.slice sp nl sc) ∧ W'.cell? ⟨g, j * 5 + 4, none⟩ = some (.slice dp bl dc) ∧ W'.cell? ⟨w.heap.size, 0, none⟩ = some (.int .i64 t) ∧ W'.cell? ⟨w.heap.size, 1, none⟩ = some (.int .i64 n) ∧ Hid (Below wr.heap.size wr W') := fun W W' h1 h2 =>
          have hb := below_thenH h1.2.2.2.2.2.2.2.out h2.out
          ⟨cell_keptH d0 hb, cell_keptH d1 hb, cell_keptH d2 hb, cell_keptH d3 hb, cell_keptH d4 hb, cell_keptH t0 hb, cell_keptH t1 hb, hb⟩
        have S1 : wr.drew.cell? ⟨g, j * 5, none⟩ = some (.int .i64 xt) ∧ wr.drew.cell? ⟨g, j * 5 + 1, none⟩ = some (.int .i64 xn) ∧ wr.drew.cell? ⟨g, j * 5 + 2, none⟩ = some (.int .i64 xq) ∧ wr.drew.cell? ⟨g, j * 5 + 3, none⟩ = some (.slice sp nl sc) ∧ wr.drew.cell? ⟨g, j * 5 + 4, none⟩ = some (.slice dp bl dc) ∧ wr.drew.cell? ⟨w.heap.size, 0, none⟩ = some (.int .i64 t) ∧ wr.drew.cell? ⟨w.heap.size, 1, none⟩ = some (.int .i64 n) ∧ Hid (Below wr.heap.size wr wr.drew) := ⟨d0, d1, d2, d3, d4, t0, t1, below_drewH wr⟩
        have S2 : wr.cell? ⟨g, j * 5, none⟩ = some (.int .i64 xt) ∧ wr.cell? ⟨g, j * 5 + 1, none⟩ = some (.int .i64 xn) ∧ wr.cell? ⟨g, j * 5 + 2, none⟩ = some (.int .i64 xq) ∧ wr.cell? ⟨g, j * 5 + 3, none⟩ = some (.slice sp nl sc) ∧ wr.cell? ⟨g, j * 5 + 4, none⟩ = some (.slice dp bl dc) ∧ wr.cell? ⟨w.heap.size, 0, none⟩ = some (.int .i64 t) ∧ wr.cell? ⟨w.heap.size, 1, none⟩ = some (.int .i64 n) ∧ Hid (Below wr.heap.size wr wr) := ⟨d0, d1, d2, d3, d4, t0, t1, Below.refl _ _⟩
        have HF : ∀ W, (W.cell? ⟨g, j * 5, none⟩ = some (.int .i64 xt) ∧ W.cell? ⟨g, j * 5 + 1, none⟩ = some (.int .i64 xn) ∧ W.cell? ⟨g, j * 5 + 2, none⟩ = some (.int .i64 xq) ∧ W.cell? ⟨g, j * 5 + 3, none⟩ = some (.slice sp nl sc) ∧ W.cell? ⟨g, j * 5 + 4, none⟩ = some (.slice dp bl dc) ∧ W.cell? ⟨w.heap.size, 0, none⟩ = some (.int .i64 t) ∧ W.cell? ⟨w.heap.size, 1, none⟩ = some (.int .i64 n) ∧ Hid (Below wr.heap.size wr W)) → Below wr.heap.size wr W := fun W hW => hW.2.2.2.2.2.2.2.out
        go_region_held3 (fun W => W.cell? ⟨g, j * 5, none⟩ = some (.int .i64 xt) ∧ W.cell? ⟨g, j * 5 + 1, none⟩ = some (.int .i64 xn) ∧ W.cell? ⟨g, j * 5 + 2, none⟩ = some (.int .i64 xq) ∧ W.cell? ⟨g, j * 5 + 3, none⟩ = some (.slice sp nl sc) ∧ W.cell? ⟨g, j * 5 + 4, none⟩ = some (.slice dp bl dc) ∧ W.cell? ⟨w.heap.size, 0, none⟩ = some (.int .i64 t) ∧ W.cell? ⟨w.heap.size, 1, none⟩ = some (.int .i64 n) ∧ Hid (Below wr.heap.size wr W))
          (first | exact S1 | exact S2 | assumption | exact HS _ _ (by assumption) (by assumption))
          (first | (go_at_call 55; refine Calls_new (hcall _) ?_; intro w3 HB3))
        have HB2 : Hid (Below wr.heap.size wr _) := HF _ (by assumption)
        go_wp2_with fail
        go_ret2
        exact ⟨j, _, rfl, ⟨by omega, HI.out.2.1, HI.out.2.2⟩, below_thenH HB.out (below_thenH HI.out.1 HB2.out)⟩
      · obtain rfl : j = L.length := by omega
        go_wp2_with fail
        go_quiet (fail)
        go_wp2_with fail
        go_ret2
        exact ⟨L.length, false, rfl, ⟨by omega, HI.out.2.1, HI.out.2.2⟩, below_thenH HB.out (below_thenH HI.out.1 (below_drewNH wr _))⟩

end Go.Proofs.Yteimjkicinjcgaa.Ck.Y.L
