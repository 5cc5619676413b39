/-
  begun of layer 14.
-/
import Derived.Test.YtgophojgofmkeaaZm
namespace Go.Proofs.Ytgophojgofmkeaa.Ck
open Go.RowKit Go.Maps

theorem rng_small {t n : Int} (h1 : 0 ≤ t) (h2 : t ≤ 1000) (h3 : 0 ≤ n) (h4 : n ≤ 1000) : Rng t n := by unfold Rng B63; omega
theorem two_sorted : IsSorted [⟨5, 0, 1⟩, ⟨2, 0, 2⟩] [⟨2, 0, 2⟩, ⟨5, 0, 1⟩] := by
  refine ⟨[⟨2, 0, 2, 1⟩, ⟨5, 0, 1, 0⟩], rfl, List.Perm.swap _ _ _, ?_⟩
  unfold Rise
  rw [List.pairwise_cons]
  refine ⟨fun b hb => ?_, by simp⟩
  rw [List.mem_singleton.1 hb, keyE_lt ⟨rng_small (by decide) (by decide) (by decide) (by decide), by decide⟩ ⟨rng_small (by decide) (by decide) (by decide) (by decide), by decide⟩]
  left
  decide
/-- A row of one operation that was just laid. -/
theorem RowO.lit (w : World) (x : OT) (base : Nat) (hb : base ≤ w.heap.size) : RowO (w.alloc (.cells (opC x.t x.n x.k) 33)) base (.slice (some ⟨w.heap.size, 0, none⟩) 1 1) [x] :=
  ⟨rfl, .inr ⟨w.heap.size, 1, opC x.t x.n x.k, rfl, hb, heap_alloc_new w _, Nat.le_refl _, by decide, rfl, rfl⟩⟩

set_option maxRecDepth 8000 in
set_option maxHeartbeats 4000000 in
theorem begun14 (w : World) : Calls Try.prog 5 #[] w fun e w' => e = .returned (.bool true) ∧ Below w.heap.size w w' := by
  have cA := at_any 5 0 1 w
  go_enter Try.func5, Try.ntmps5
  go_wp2_with (go_at_call 6; refine Calls_new cA ?_; clear cA; intro w1 hb1; refine Stop.out ?_)
  refine Stop.mk ?_
  have r1 := RowO.lit w1 ⟨5, 0, 1⟩ 0 (Nat.zero_le _)
  have b1 : Below w.heap.size w (w1.alloc (.cells (opC 5 0 1) 33)) := hb1.out.trans ((below_new w1 _).out.mono hb1.out.size)
  obtain ⟨w2, hw2⟩ : ∃ w2, w2 = w1.alloc (.cells (opC 5 0 1) 33) := ⟨_, rfl⟩
  obtain ⟨g1, hg1⟩ : ∃ g1, w1.heap.size = g1 := ⟨_, rfl⟩
  have hw2' : w1.alloc (.cells #[.int .i64 5, .int .i64 0, .int .i64 0, .int .i64 1, .int .i64 0, .int .i64 0, .int .i64 0, .int .i64 0, .string ⟨#[]⟩, .slice none 0 0, .slice none 0 0] 33) = w2 := hw2.symm
  have cB := at_any 2 0 2 w2
  have HR : Hid (RowO w2 0 (.slice (some ⟨g1, 0, none⟩) 1 1) [⟨5, 0, 1⟩] ∧ Below w.heap.size w w2) := by rw [hw2, ← hg1]; exact ⟨r1, b1⟩
  clear r1 b1 hb1 hw2
  go_wp2_with (go_at_call 6; refine Calls_new cB ?_; clear cB; intro w3 hb3; refine Stop.out ?_)
  refine Stop.mk ?_
  clear hw2' hg1
  obtain ⟨w4, hw4⟩ : ∃ w4, w4 = w3.alloc (.cells (opC 2 0 2) 33) := ⟨_, rfl⟩
  obtain ⟨g3, hg3⟩ : ∃ g3, w3.heap.size = g3 := ⟨_, rfl⟩
  obtain ⟨w5, hw5⟩ : ∃ w5, w5 = w4.alloc (.cells #[.slice (some ⟨g1, 0, none⟩) 1 1, .slice (some ⟨g3, 0, none⟩) 1 1] 25) := ⟨_, rfl⟩
  have hs4 : w4.heap.size = g3 + 1 := by rw [hw4, ← hg3]; simp
  have b4 : Below w2.heap.size w2 w4 := by rw [hw4]; exact hb3.out.trans ((below_new w3 _).out.mono hb3.out.size)
  have b5 : Below w4.heap.size w4 w5 := by rw [hw5]; exact (below_new w4 _).out
  have r1 := (HR.out.1.below b4).below b5
  have r2 : RowO w5 0 (.slice (some ⟨g3, 0, none⟩) 1 1) [⟨2, 0, 2⟩] := by
    have := RowO.lit w3 ⟨2, 0, 2⟩ 0 (Nat.zero_le _)
    rw [hg3, ← hw4] at this
    exact this.below b5
  have hn5 : w5.heap[g3 + 1]? = some (.cells #[.slice (some ⟨g1, 0, none⟩) 1 1, .slice (some ⟨g3, 0, none⟩) 1 1] 25 (0, 0)) := by rw [hw5, ← hs4]; exact heap_alloc_new w4 _
  have hLs : ListsAt w5 (some ⟨g3 + 1, 0, none⟩) [.slice (some ⟨g1, 0, none⟩) 1 1, .slice (some ⟨g3, 0, none⟩) 1 1] [[⟨5, 0, 1⟩], [⟨2, 0, 2⟩]] := by
    refine ⟨rfl, fun _ => ⟨g3 + 1, _, rfl, hn5, fun i v hv => by simpa using hv⟩, fun i v l hv hl => ?_⟩
    match i, hv, hl with
    | 0, hv, hl => cases hv; cases hl; exact r1
    | 1, hv, hl => cases hv; cases hl; exact r2
    | i + 2, hv, hl => simp at hv
  have hRg : RngL ([[⟨5, 0, 1⟩], [⟨2, 0, 2⟩]] : List (List OT)).flatten := by
    intro x hx
    simp at hx
    rcases hx with rfl | rfl
    · exact rng_small (by decide) (by decide) (by decide) (by decide)
    · exact rng_small (by decide) (by decide) (by decide) (by decide)
  have cS := sorted_any _ _ 2 _ w5 hLs hRg (by decide) (by simp)
  have HB5 : Hid (Below w.heap.size w w5) := (HR.out.2.trans (b4.mono HR.out.2.size)).trans (b5.mono (Nat.le_trans HR.out.2.size b4.size))
  have hw4' : w3.alloc (.cells #[.int .i64 2, .int .i64 0, .int .i64 0, .int .i64 2, .int .i64 0, .int .i64 0, .int .i64 0, .int .i64 0, .string ⟨#[]⟩, .slice none 0 0, .slice none 0 0] 33) = w4 := hw4.symm
  have hw5' := hw5.symm
  clear r1 r2 hn5 hLs hRg b4 b5 hb3 HR hw4 hw5
  go_wp2_with (go_at_call 7; refine Stop.out ?_)
  refine Stop.mk ?_
  refine cS.mono ?_
  rintro e w6 ⟨v6, S, rfl, k1, k2, k3⟩
  clear cS hw4' hw5' hg3 hs4
  have hS : S = [⟨2, 0, 2⟩, ⟨5, 0, 1⟩] := isSorted_unique k2 two_sorted
  subst hS
  obtain ⟨gv, capv, curv, rfl, _⟩ := k1.form (by decide)
  have HB6 : Hid (Below w.heap.size w w6) := HB5.out.trans (k3.mono HB5.out.size)
  have HV : Hid (RowO w6 w5.heap.size (.slice (some ⟨gv, 0, none⟩) 2 capv) [⟨2, 0, 2⟩, ⟨5, 0, 1⟩]) := k1
  clear k1 k2 k3 HB5
  obtain ⟨c, hc⟩ : ∃ c, w6.heap.size = c := ⟨_, rfl⟩
  have cN : Calls Try.prog 12 #[.nilFunc] w6 fun e w' => e = .returned (ep c) ∧ Hid (QL w' (mkQ w6.heap.size c .nilFunc false 0) [] ∧ Below w6.heap.size w6 w') := by
    rw [← hc]
    exact (new_any w6.heap.size .nilFunc false lessIs_nil w6 (Nat.le_refl _)).mono fun e w' ⟨h0, h1, h2⟩ => ⟨h0, h1, h2⟩
  clear hc
  go_wp2_with (go_at_call 12; refine cN.mono ?_; clear cN; rintro e w7 ⟨rfl, H7⟩; refine Stop.out ?_)
  refine Stop.mk ?_
  have cC := fun W => at_any 9 0 3 W
  have cD := fun W => at_any 8 0 4 W
  go_wp2_with (first | (go_at_call 6; refine Calls_new (cC _) ?_; clear cC; intro w8 hb8) | (go_at_call 13; refine Stop.out ?_))
  refine Stop.mk ?_
  refine (push_any (mkQ w6.heap.size c .nilFunc false 0) [] 9 0 3 w8 (H7.out.1.below hb8.out) (rng_small (by decide) (by decide) (by decide) (by decide)) (show (0 : Nat) < 900000 by decide) (by decide)).mono ?_
  rintro e w9 ⟨rfl, k1, k2⟩
  have H9 : Hid (QL w9 (mkQ w6.heap.size c .nilFunc false 1) [⟨9, 0, 3, 0⟩] ∧ Below w6.heap.size w6 w9) := ⟨k1, (H7.out.2.trans (hb8.out.mono H7.out.2.size)).trans (k2.toBelow (Nat.le_trans H7.out.2.size hb8.out.size))⟩
  clear k1 k2 hb8 H7
  go_wp2_with (first | (go_at_call 6; refine Calls_new (cD _) ?_; clear cD; intro w10 hb10) | (go_at_call 13; refine Stop.out ?_))
  refine Stop.mk ?_
  refine (push_any (mkQ w6.heap.size c .nilFunc false 1) [⟨9, 0, 3, 0⟩] 8 0 4 w10 (H9.out.1.below hb10.out) (rng_small (by decide) (by decide) (by decide) (by decide)) (show (1 : Nat) < 900000 by decide) (by decide)).mono ?_
  rintro e w11 ⟨rfl, k1, k2⟩
  have H11 : Hid (QL w11 (mkQ w6.heap.size c .nilFunc false 2) [⟨9, 0, 3, 0⟩, ⟨8, 0, 4, 1⟩] ∧ Below w6.heap.size w6 w11) := ⟨k1, (H9.out.2.trans (hb10.out.mono H9.out.2.size)).trans (k2.toBelow (Nat.le_trans H9.out.2.size hb10.out.size))⟩
  clear k1 k2 hb10 H9
  go_wp2_with (go_at_call 15; refine Stop.out ?_)
  refine Stop.mk ?_
  refine (pop_some (mkQ w6.heap.size c .nilFunc false 2) _ w11 H11.out.1 (by simp)).mono ?_
  rintro e w12 ⟨x, L', rfl, k1, k2, k3, k4⟩
  have hx : x.k = 4 ∧ L'.length = 1 := by
    refine ⟨?_, by have := k2.length_eq; simp at this; omega⟩
    have h1 := k1.1
    simp at h1
    rcases h1 with rfl | rfl
    · have h2 := k1.2 ⟨8, 0, 4, 1⟩ (by simp)
      have h3 : keyE false ⟨8, 0, 4, 1⟩ < keyE false ⟨9, 0, 3, 0⟩ := by
        rw [keyE_lt ⟨rng_small (by decide) (by decide) (by decide) (by decide), by decide⟩ ⟨rng_small (by decide) (by decide) (by decide) (by decide), by decide⟩]
        left
        decide
      have h4 : keyE false ⟨9, 0, 3, 0⟩ ≤ keyE false ⟨8, 0, 4, 1⟩ := h2
      omega
    · rfl
  obtain ⟨hx4, hl1⟩ := hx
  have B12 : Below w6.heap.size w6 w12 := H11.out.2.trans (k4.toBelow H11.out.2.size)
  have cL : ∀ o, Calls Try.prog 16 #[ep c] (w12.alloc o) fun e w' => e = .returned (.int .i64 1) ∧ w' = w12.alloc o := fun o => by
    have := qlen_any _ L' (w12.alloc o) (k3.below (below_new w12 o).out)
    rw [hl1] at this
    exact this
  have hV := (HV.out.below B12)
  have v3 : w12.cell? ⟨gv, 3, none⟩ = some (.int .i64 2) := (hV.cells (i := 0) (x := ⟨2, 0, 2⟩) rfl).2.2.2.1
  have lgv : gv < w12.heap.size := by obtain ⟨cur, hcur, _⟩ := hV.cur; exact block_lt hcur
  have HF : Hid (∀ o, Below w.heap.size w (w12.alloc o)) := fun o => (HB6.out.trans (B12.mono HB6.out.size)).trans ((below_new w12 o).out.mono (Nat.le_trans HB6.out.size B12.size))
  rw [hx4]
  clear k1 k2 k3 k4 hV B12 HV H11 hl1 hx4
  go_wp2_with (go_at_call 16; refine Calls_on (cL _) ?_)
  go_ret
  exact ⟨rfl, HF.out _⟩
end Go.Proofs.Ytgophojgofmkeaa.Ck
