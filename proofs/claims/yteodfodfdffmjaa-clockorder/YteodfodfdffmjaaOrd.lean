/-
  The law ClockOrder returns true. (Printed by mkord.py.)
-/
import Derived.Test.YteodfodfdffmjaaBegun
namespace Go.Proofs.Yteodfodfdffmjaa
open Go.RowKit

/-- Two stamps lie in two blocks; nothing that was there in w has turned. -/
theorem keepS {w : World} {g g' : Nat} {t n t' n' : Int} {W W' : World} (hb : Below W.heap.size W W')
    (h : W.cell? ⟨g, 0, none⟩ = some (.int .i64 t) ∧ W.cell? ⟨g, 1, none⟩ = some (.int .i64 n) ∧ W.cell? ⟨g', 0, none⟩ = some (.int .i64 t') ∧ W.cell? ⟨g', 1, none⟩ = some (.int .i64 n') ∧ Below w.heap.size w W) :
    W'.cell? ⟨g, 0, none⟩ = some (.int .i64 t) ∧ W'.cell? ⟨g, 1, none⟩ = some (.int .i64 n) ∧ W'.cell? ⟨g', 0, none⟩ = some (.int .i64 t') ∧ W'.cell? ⟨g', 1, none⟩ = some (.int .i64 n') ∧ Below w.heap.size w W' := by
  obtain ⟨h0, h1, h2, h3, h4⟩ := h
  refine ⟨?_, ?_, ?_, ?_, h4.trans (hb.mono h4.size)⟩
  · exact (hb.cell (p := ⟨g, 0, none⟩) (cell_lt h0)).trans h0
  · exact (hb.cell (p := ⟨g, 1, none⟩) (cell_lt h1)).trans h1
  · exact (hb.cell (p := ⟨g', 0, none⟩) (cell_lt h2)).trans h2
  · exact (hb.cell (p := ⟨g', 1, none⟩) (cell_lt h3)).trans h3
theorem drewS {w : World} {g g' : Nat} {t n t' n' : Int} {W : World} 
    (h : W.cell? ⟨g, 0, none⟩ = some (.int .i64 t) ∧ W.cell? ⟨g, 1, none⟩ = some (.int .i64 n) ∧ W.cell? ⟨g', 0, none⟩ = some (.int .i64 t') ∧ W.cell? ⟨g', 1, none⟩ = some (.int .i64 n') ∧ Below w.heap.size w W) :
    W.drew.cell? ⟨g, 0, none⟩ = some (.int .i64 t) ∧ W.drew.cell? ⟨g, 1, none⟩ = some (.int .i64 n) ∧ W.drew.cell? ⟨g', 0, none⟩ = some (.int .i64 t') ∧ W.drew.cell? ⟨g', 1, none⟩ = some (.int .i64 n') ∧ Below w.heap.size w W.drew :=
  ⟨h.1, h.2.1, h.2.2.1, h.2.2.2.1, h.2.2.2.2.drew⟩

theorem less_not {t n t' n' : Int} (h : lessB t n t' n' = true) : lessB t' n' t n = false := by
  rw [lessB_true] at h
  rw [lessB_false]
  omega

set_option maxRecDepth 8000 in
set_option maxHeartbeats 1000000 in
theorem order_lt_true (t n t' n' : Int) (w : World) (hl : lessB t n t' n' = true) (hm : lessB t' n' t n = false) (hz : cmpZ t n t' n' = -1) (hv : validB t n = true) :
    Calls Try.prog 3 #[idv t n, idv t' n'] w fun e w' => e = .returned (.bool true) ∧ Below w.heap.size w w' := by
  have c7 : ∀ W, Calls Try.prog 7 #[idv t n, idv t' n'] W fun e w' => e = .returned (.bool true) ∧ Below W.heap.size W w' := fun W => hl ▸ rless_any t n t' n' W
  have c7b : ∀ W, Calls Try.prog 7 #[idv t' n', idv t n] W fun e w' => e = .returned (.bool false) ∧ Below W.heap.size W w' := fun W => hm ▸ rless_any t' n' t n W
  have c8 : ∀ W, Calls Try.prog 8 #[idv t n, idv t' n'] W fun e w' => e = .returned (.int .i64 (-1)) ∧ Below W.heap.size W w' := fun W => hz ▸ cmp_any t n t' n' W
  have c9 : ∀ W, Calls Try.prog 9 #[idv t n, idv t' n'] W fun e w' => e = .returned (.bool true) ∧ Below W.heap.size W w' := fun W => hl ▸ less_any t n t' n' W
  have c10 : ∀ W, Calls Try.prog 10 #[idv t n] W fun e w' => e = .returned (.bool true) ∧ Below W.heap.size W w' := fun W => hv ▸ valid_any t n W
  have c11 : ∀ W, Calls Try.prog 11 #[idv t n] W fun e w' => e = .returned (.bool true) ∧ Below W.heap.size W w' := fun W => hv ▸ rvalid_any t n W
  clear hl hm hz hv
  obtain ⟨w2, hw2⟩ : ∃ w2, w2 = (w.alloc (.cells #[.int .i64 t, .int .i64 n] 23)).alloc (.cells #[.int .i64 t', .int .i64 n'] 23) := ⟨_, rfl⟩
  have S2 : w2.cell? ⟨w.heap.size, 0, none⟩ = some (.int .i64 t) ∧ w2.cell? ⟨w.heap.size, 1, none⟩ = some (.int .i64 n) ∧ w2.cell? ⟨w.heap.size + 1, 0, none⟩ = some (.int .i64 t') ∧ w2.cell? ⟨w.heap.size + 1, 1, none⟩ = some (.int .i64 n') ∧ Below w.heap.size w w2 := by
    rw [hw2]
    refine ⟨by simp [go_sem], by simp [go_sem], by simp [go_sem], by simp [go_sem], (below_two w _ _).out⟩
  have HS2 : Hid _ := S2
  clear S2
  go_enter Try.func3, Try.ntmps3
  go_wp2_with fail
  rw [← hw2]
  refine (begun_any w2).mono ?_
  rintro e w3 ⟨rfl, hB3⟩
  have S3 := keepS hB3 HS2.out
  clear hw2 hB3 HS2
  obtain ⟨q0, q1, q2, q3, q4⟩ := S3
  have HQ : Hid (Below w.heap.size w w3) := q4
  clear q4
  go_wp2_with fail
  refine (c7 w3).mono ?_
  rintro e w4 ⟨rfl, hB4⟩
  have S4 := keepS hB4 ⟨q0, q1, q2, q3, HQ.out⟩
  clear q0 q1 q2 q3 HQ hB4
  have S5 := S4
  clear S4
  have SD : Hid _ := drewS S5
  clear c7 c7b S5
  go_wp2_with fail
  go_region_held3 (fun W => W.cell? ⟨w.heap.size, 0, none⟩ = some (.int .i64 t) ∧ W.cell? ⟨w.heap.size, 1, none⟩ = some (.int .i64 n) ∧ W.cell? ⟨w.heap.size + 1, 0, none⟩ = some (.int .i64 t') ∧ W.cell? ⟨w.heap.size + 1, 1, none⟩ = some (.int .i64 n') ∧ Below w.heap.size w W)
    (first | exact SD.out | assumption)
    (first
      | (go_at_call 8; refine Calls_new (c8 _) ?_; intro w6 HB6; have S6 := keepS HB6.out (by first | exact SD.out | assumption))
      | (go_at_call 9; refine Calls_new (c9 _) ?_; intro w7 HB7; have S7 := keepS HB7.out (by assumption))
      | (go_at_call 10; refine Calls_new (c10 _) ?_; intro w8 HB8; have S8 := keepS HB8.out (by assumption))
      | (go_at_call 11; refine Calls_new (c11 _) ?_; intro w9 HB9; have S9 := keepS HB9.out (by assumption)))
  go_wp2
  go_ret
  exact ⟨rfl, S9.2.2.2.2⟩

set_option maxRecDepth 8000 in
set_option maxHeartbeats 1000000 in
theorem order_lt_false (t n t' n' : Int) (w : World) (hl : lessB t n t' n' = true) (hm : lessB t' n' t n = false) (hz : cmpZ t n t' n' = -1) (hv : validB t n = false) :
    Calls Try.prog 3 #[idv t n, idv t' n'] w fun e w' => e = .returned (.bool true) ∧ Below w.heap.size w w' := by
  have c7 : ∀ W, Calls Try.prog 7 #[idv t n, idv t' n'] W fun e w' => e = .returned (.bool true) ∧ Below W.heap.size W w' := fun W => hl ▸ rless_any t n t' n' W
  have c7b : ∀ W, Calls Try.prog 7 #[idv t' n', idv t n] W fun e w' => e = .returned (.bool false) ∧ Below W.heap.size W w' := fun W => hm ▸ rless_any t' n' t n W
  have c8 : ∀ W, Calls Try.prog 8 #[idv t n, idv t' n'] W fun e w' => e = .returned (.int .i64 (-1)) ∧ Below W.heap.size W w' := fun W => hz ▸ cmp_any t n t' n' W
  have c9 : ∀ W, Calls Try.prog 9 #[idv t n, idv t' n'] W fun e w' => e = .returned (.bool true) ∧ Below W.heap.size W w' := fun W => hl ▸ less_any t n t' n' W
  have c10 : ∀ W, Calls Try.prog 10 #[idv t n] W fun e w' => e = .returned (.bool false) ∧ Below W.heap.size W w' := fun W => hv ▸ valid_any t n W
  have c11 : ∀ W, Calls Try.prog 11 #[idv t n] W fun e w' => e = .returned (.bool false) ∧ Below W.heap.size W w' := fun W => hv ▸ rvalid_any t n W
  clear hl hm hz hv
  obtain ⟨w2, hw2⟩ : ∃ w2, w2 = (w.alloc (.cells #[.int .i64 t, .int .i64 n] 23)).alloc (.cells #[.int .i64 t', .int .i64 n'] 23) := ⟨_, rfl⟩
  have S2 : w2.cell? ⟨w.heap.size, 0, none⟩ = some (.int .i64 t) ∧ w2.cell? ⟨w.heap.size, 1, none⟩ = some (.int .i64 n) ∧ w2.cell? ⟨w.heap.size + 1, 0, none⟩ = some (.int .i64 t') ∧ w2.cell? ⟨w.heap.size + 1, 1, none⟩ = some (.int .i64 n') ∧ Below w.heap.size w w2 := by
    rw [hw2]
    refine ⟨by simp [go_sem], by simp [go_sem], by simp [go_sem], by simp [go_sem], (below_two w _ _).out⟩
  have HS2 : Hid _ := S2
  clear S2
  go_enter Try.func3, Try.ntmps3
  go_wp2_with fail
  rw [← hw2]
  refine (begun_any w2).mono ?_
  rintro e w3 ⟨rfl, hB3⟩
  have S3 := keepS hB3 HS2.out
  clear hw2 hB3 HS2
  obtain ⟨q0, q1, q2, q3, q4⟩ := S3
  have HQ : Hid (Below w.heap.size w w3) := q4
  clear q4
  go_wp2_with fail
  refine (c7 w3).mono ?_
  rintro e w4 ⟨rfl, hB4⟩
  have S4 := keepS hB4 ⟨q0, q1, q2, q3, HQ.out⟩
  clear q0 q1 q2 q3 HQ hB4
  have S5 := S4
  clear S4
  have SD : Hid _ := drewS S5
  clear c7 c7b S5
  go_wp2_with fail
  go_region_held3 (fun W => W.cell? ⟨w.heap.size, 0, none⟩ = some (.int .i64 t) ∧ W.cell? ⟨w.heap.size, 1, none⟩ = some (.int .i64 n) ∧ W.cell? ⟨w.heap.size + 1, 0, none⟩ = some (.int .i64 t') ∧ W.cell? ⟨w.heap.size + 1, 1, none⟩ = some (.int .i64 n') ∧ Below w.heap.size w W)
    (first | exact SD.out | assumption)
    (first
      | (go_at_call 8; refine Calls_new (c8 _) ?_; intro w6 HB6; have S6 := keepS HB6.out (by first | exact SD.out | assumption))
      | (go_at_call 9; refine Calls_new (c9 _) ?_; intro w7 HB7; have S7 := keepS HB7.out (by assumption))
      | (go_at_call 10; refine Calls_new (c10 _) ?_; intro w8 HB8; have S8 := keepS HB8.out (by assumption))
      | (go_at_call 11; refine Calls_new (c11 _) ?_; intro w9 HB9; have S9 := keepS HB9.out (by assumption)))
  go_wp2
  go_ret
  exact ⟨rfl, S9.2.2.2.2⟩

set_option maxRecDepth 8000 in
set_option maxHeartbeats 1000000 in
theorem order_gt_true (t n t' n' : Int) (w : World) (hl : lessB t n t' n' = false) (hm : lessB t' n' t n = true) (hz : cmpZ t n t' n' = 1) (hv : validB t n = true) :
    Calls Try.prog 3 #[idv t n, idv t' n'] w fun e w' => e = .returned (.bool true) ∧ Below w.heap.size w w' := by
  have c7 : ∀ W, Calls Try.prog 7 #[idv t n, idv t' n'] W fun e w' => e = .returned (.bool false) ∧ Below W.heap.size W w' := fun W => hl ▸ rless_any t n t' n' W
  have c7b : ∀ W, Calls Try.prog 7 #[idv t' n', idv t n] W fun e w' => e = .returned (.bool true) ∧ Below W.heap.size W w' := fun W => hm ▸ rless_any t' n' t n W
  have c8 : ∀ W, Calls Try.prog 8 #[idv t n, idv t' n'] W fun e w' => e = .returned (.int .i64 (1)) ∧ Below W.heap.size W w' := fun W => hz ▸ cmp_any t n t' n' W
  have c9 : ∀ W, Calls Try.prog 9 #[idv t n, idv t' n'] W fun e w' => e = .returned (.bool false) ∧ Below W.heap.size W w' := fun W => hl ▸ less_any t n t' n' W
  have c10 : ∀ W, Calls Try.prog 10 #[idv t n] W fun e w' => e = .returned (.bool true) ∧ Below W.heap.size W w' := fun W => hv ▸ valid_any t n W
  have c11 : ∀ W, Calls Try.prog 11 #[idv t n] W fun e w' => e = .returned (.bool true) ∧ Below W.heap.size W w' := fun W => hv ▸ rvalid_any t n W
  clear hl hm hz hv
  obtain ⟨w2, hw2⟩ : ∃ w2, w2 = (w.alloc (.cells #[.int .i64 t, .int .i64 n] 23)).alloc (.cells #[.int .i64 t', .int .i64 n'] 23) := ⟨_, rfl⟩
  have S2 : w2.cell? ⟨w.heap.size, 0, none⟩ = some (.int .i64 t) ∧ w2.cell? ⟨w.heap.size, 1, none⟩ = some (.int .i64 n) ∧ w2.cell? ⟨w.heap.size + 1, 0, none⟩ = some (.int .i64 t') ∧ w2.cell? ⟨w.heap.size + 1, 1, none⟩ = some (.int .i64 n') ∧ Below w.heap.size w w2 := by
    rw [hw2]
    refine ⟨by simp [go_sem], by simp [go_sem], by simp [go_sem], by simp [go_sem], (below_two w _ _).out⟩
  have HS2 : Hid _ := S2
  clear S2
  go_enter Try.func3, Try.ntmps3
  go_wp2_with fail
  rw [← hw2]
  refine (begun_any w2).mono ?_
  rintro e w3 ⟨rfl, hB3⟩
  have S3 := keepS hB3 HS2.out
  clear hw2 hB3 HS2
  obtain ⟨q0, q1, q2, q3, q4⟩ := S3
  have HQ : Hid (Below w.heap.size w w3) := q4
  clear q4
  go_wp2_with fail
  refine (c7 w3).mono ?_
  rintro e w4 ⟨rfl, hB4⟩
  have S4 := keepS hB4 ⟨q0, q1, q2, q3, HQ.out⟩
  clear q0 q1 q2 q3 HQ hB4
  obtain ⟨q0, q1, q2, q3, q4⟩ := S4
  have HQ : Hid (Below w.heap.size w w4) := q4
  clear q4
  go_wp2_with fail
  refine (c7b w4).mono ?_
  rintro e w5 ⟨rfl, hB5⟩
  have S5 := keepS hB5 ⟨q0, q1, q2, q3, HQ.out⟩
  clear q0 q1 q2 q3 HQ hB5
  have SD : Hid _ := drewS S5
  clear c7 c7b S5
  go_wp2_with fail
  go_region_held3 (fun W => W.cell? ⟨w.heap.size, 0, none⟩ = some (.int .i64 t) ∧ W.cell? ⟨w.heap.size, 1, none⟩ = some (.int .i64 n) ∧ W.cell? ⟨w.heap.size + 1, 0, none⟩ = some (.int .i64 t') ∧ W.cell? ⟨w.heap.size + 1, 1, none⟩ = some (.int .i64 n') ∧ Below w.heap.size w W)
    (first | exact SD.out | assumption)
    (first
      | (go_at_call 8; refine Calls_new (c8 _) ?_; intro w6 HB6; have S6 := keepS HB6.out (by first | exact SD.out | assumption))
      | (go_at_call 9; refine Calls_new (c9 _) ?_; intro w7 HB7; have S7 := keepS HB7.out (by assumption))
      | (go_at_call 10; refine Calls_new (c10 _) ?_; intro w8 HB8; have S8 := keepS HB8.out (by assumption))
      | (go_at_call 11; refine Calls_new (c11 _) ?_; intro w9 HB9; have S9 := keepS HB9.out (by assumption)))
  go_wp2
  go_ret
  exact ⟨rfl, S9.2.2.2.2⟩

set_option maxRecDepth 8000 in
set_option maxHeartbeats 1000000 in
theorem order_gt_false (t n t' n' : Int) (w : World) (hl : lessB t n t' n' = false) (hm : lessB t' n' t n = true) (hz : cmpZ t n t' n' = 1) (hv : validB t n = false) :
    Calls Try.prog 3 #[idv t n, idv t' n'] w fun e w' => e = .returned (.bool true) ∧ Below w.heap.size w w' := by
  have c7 : ∀ W, Calls Try.prog 7 #[idv t n, idv t' n'] W fun e w' => e = .returned (.bool false) ∧ Below W.heap.size W w' := fun W => hl ▸ rless_any t n t' n' W
  have c7b : ∀ W, Calls Try.prog 7 #[idv t' n', idv t n] W fun e w' => e = .returned (.bool true) ∧ Below W.heap.size W w' := fun W => hm ▸ rless_any t' n' t n W
  have c8 : ∀ W, Calls Try.prog 8 #[idv t n, idv t' n'] W fun e w' => e = .returned (.int .i64 (1)) ∧ Below W.heap.size W w' := fun W => hz ▸ cmp_any t n t' n' W
  have c9 : ∀ W, Calls Try.prog 9 #[idv t n, idv t' n'] W fun e w' => e = .returned (.bool false) ∧ Below W.heap.size W w' := fun W => hl ▸ less_any t n t' n' W
  have c10 : ∀ W, Calls Try.prog 10 #[idv t n] W fun e w' => e = .returned (.bool false) ∧ Below W.heap.size W w' := fun W => hv ▸ valid_any t n W
  have c11 : ∀ W, Calls Try.prog 11 #[idv t n] W fun e w' => e = .returned (.bool false) ∧ Below W.heap.size W w' := fun W => hv ▸ rvalid_any t n W
  clear hl hm hz hv
  obtain ⟨w2, hw2⟩ : ∃ w2, w2 = (w.alloc (.cells #[.int .i64 t, .int .i64 n] 23)).alloc (.cells #[.int .i64 t', .int .i64 n'] 23) := ⟨_, rfl⟩
  have S2 : w2.cell? ⟨w.heap.size, 0, none⟩ = some (.int .i64 t) ∧ w2.cell? ⟨w.heap.size, 1, none⟩ = some (.int .i64 n) ∧ w2.cell? ⟨w.heap.size + 1, 0, none⟩ = some (.int .i64 t') ∧ w2.cell? ⟨w.heap.size + 1, 1, none⟩ = some (.int .i64 n') ∧ Below w.heap.size w w2 := by
    rw [hw2]
    refine ⟨by simp [go_sem], by simp [go_sem], by simp [go_sem], by simp [go_sem], (below_two w _ _).out⟩
  have HS2 : Hid _ := S2
  clear S2
  go_enter Try.func3, Try.ntmps3
  go_wp2_with fail
  rw [← hw2]
  refine (begun_any w2).mono ?_
  rintro e w3 ⟨rfl, hB3⟩
  have S3 := keepS hB3 HS2.out
  clear hw2 hB3 HS2
  obtain ⟨q0, q1, q2, q3, q4⟩ := S3
  have HQ : Hid (Below w.heap.size w w3) := q4
  clear q4
  go_wp2_with fail
  refine (c7 w3).mono ?_
  rintro e w4 ⟨rfl, hB4⟩
  have S4 := keepS hB4 ⟨q0, q1, q2, q3, HQ.out⟩
  clear q0 q1 q2 q3 HQ hB4
  obtain ⟨q0, q1, q2, q3, q4⟩ := S4
  have HQ : Hid (Below w.heap.size w w4) := q4
  clear q4
  go_wp2_with fail
  refine (c7b w4).mono ?_
  rintro e w5 ⟨rfl, hB5⟩
  have S5 := keepS hB5 ⟨q0, q1, q2, q3, HQ.out⟩
  clear q0 q1 q2 q3 HQ hB5
  have SD : Hid _ := drewS S5
  clear c7 c7b S5
  go_wp2_with fail
  go_region_held3 (fun W => W.cell? ⟨w.heap.size, 0, none⟩ = some (.int .i64 t) ∧ W.cell? ⟨w.heap.size, 1, none⟩ = some (.int .i64 n) ∧ W.cell? ⟨w.heap.size + 1, 0, none⟩ = some (.int .i64 t') ∧ W.cell? ⟨w.heap.size + 1, 1, none⟩ = some (.int .i64 n') ∧ Below w.heap.size w W)
    (first | exact SD.out | assumption)
    (first
      | (go_at_call 8; refine Calls_new (c8 _) ?_; intro w6 HB6; have S6 := keepS HB6.out (by first | exact SD.out | assumption))
      | (go_at_call 9; refine Calls_new (c9 _) ?_; intro w7 HB7; have S7 := keepS HB7.out (by assumption))
      | (go_at_call 10; refine Calls_new (c10 _) ?_; intro w8 HB8; have S8 := keepS HB8.out (by assumption))
      | (go_at_call 11; refine Calls_new (c11 _) ?_; intro w9 HB9; have S9 := keepS HB9.out (by assumption)))
  go_wp2
  go_ret
  exact ⟨rfl, S9.2.2.2.2⟩

set_option maxRecDepth 8000 in
set_option maxHeartbeats 1000000 in
theorem order_eq_true (t n t' n' : Int) (w : World) (hl : lessB t n t' n' = false) (hm : lessB t' n' t n = false) (hz : cmpZ t n t' n' = 0) (hv : validB t n = true) :
    Calls Try.prog 3 #[idv t n, idv t' n'] w fun e w' => e = .returned (.bool true) ∧ Below w.heap.size w w' := by
  have c7 : ∀ W, Calls Try.prog 7 #[idv t n, idv t' n'] W fun e w' => e = .returned (.bool false) ∧ Below W.heap.size W w' := fun W => hl ▸ rless_any t n t' n' W
  have c7b : ∀ W, Calls Try.prog 7 #[idv t' n', idv t n] W fun e w' => e = .returned (.bool false) ∧ Below W.heap.size W w' := fun W => hm ▸ rless_any t' n' t n W
  have c8 : ∀ W, Calls Try.prog 8 #[idv t n, idv t' n'] W fun e w' => e = .returned (.int .i64 (0)) ∧ Below W.heap.size W w' := fun W => hz ▸ cmp_any t n t' n' W
  have c9 : ∀ W, Calls Try.prog 9 #[idv t n, idv t' n'] W fun e w' => e = .returned (.bool false) ∧ Below W.heap.size W w' := fun W => hl ▸ less_any t n t' n' W
  have c10 : ∀ W, Calls Try.prog 10 #[idv t n] W fun e w' => e = .returned (.bool true) ∧ Below W.heap.size W w' := fun W => hv ▸ valid_any t n W
  have c11 : ∀ W, Calls Try.prog 11 #[idv t n] W fun e w' => e = .returned (.bool true) ∧ Below W.heap.size W w' := fun W => hv ▸ rvalid_any t n W
  clear hl hm hz hv
  obtain ⟨w2, hw2⟩ : ∃ w2, w2 = (w.alloc (.cells #[.int .i64 t, .int .i64 n] 23)).alloc (.cells #[.int .i64 t', .int .i64 n'] 23) := ⟨_, rfl⟩
  have S2 : w2.cell? ⟨w.heap.size, 0, none⟩ = some (.int .i64 t) ∧ w2.cell? ⟨w.heap.size, 1, none⟩ = some (.int .i64 n) ∧ w2.cell? ⟨w.heap.size + 1, 0, none⟩ = some (.int .i64 t') ∧ w2.cell? ⟨w.heap.size + 1, 1, none⟩ = some (.int .i64 n') ∧ Below w.heap.size w w2 := by
    rw [hw2]
    refine ⟨by simp [go_sem], by simp [go_sem], by simp [go_sem], by simp [go_sem], (below_two w _ _).out⟩
  have HS2 : Hid _ := S2
  clear S2
  go_enter Try.func3, Try.ntmps3
  go_wp2_with fail
  rw [← hw2]
  refine (begun_any w2).mono ?_
  rintro e w3 ⟨rfl, hB3⟩
  have S3 := keepS hB3 HS2.out
  clear hw2 hB3 HS2
  obtain ⟨q0, q1, q2, q3, q4⟩ := S3
  have HQ : Hid (Below w.heap.size w w3) := q4
  clear q4
  go_wp2_with fail
  refine (c7 w3).mono ?_
  rintro e w4 ⟨rfl, hB4⟩
  have S4 := keepS hB4 ⟨q0, q1, q2, q3, HQ.out⟩
  clear q0 q1 q2 q3 HQ hB4
  obtain ⟨q0, q1, q2, q3, q4⟩ := S4
  have HQ : Hid (Below w.heap.size w w4) := q4
  clear q4
  go_wp2_with fail
  refine (c7b w4).mono ?_
  rintro e w5 ⟨rfl, hB5⟩
  have S5 := keepS hB5 ⟨q0, q1, q2, q3, HQ.out⟩
  clear q0 q1 q2 q3 HQ hB5
  have SD : Hid _ := drewS S5
  clear c7 c7b S5
  go_wp2_with fail
  go_region_held3 (fun W => W.cell? ⟨w.heap.size, 0, none⟩ = some (.int .i64 t) ∧ W.cell? ⟨w.heap.size, 1, none⟩ = some (.int .i64 n) ∧ W.cell? ⟨w.heap.size + 1, 0, none⟩ = some (.int .i64 t') ∧ W.cell? ⟨w.heap.size + 1, 1, none⟩ = some (.int .i64 n') ∧ Below w.heap.size w W)
    (first | exact SD.out | assumption)
    (first
      | (go_at_call 8; refine Calls_new (c8 _) ?_; intro w6 HB6; have S6 := keepS HB6.out (by first | exact SD.out | assumption))
      | (go_at_call 9; refine Calls_new (c9 _) ?_; intro w7 HB7; have S7 := keepS HB7.out (by assumption))
      | (go_at_call 10; refine Calls_new (c10 _) ?_; intro w8 HB8; have S8 := keepS HB8.out (by assumption))
      | (go_at_call 11; refine Calls_new (c11 _) ?_; intro w9 HB9; have S9 := keepS HB9.out (by assumption)))
  go_wp2
  go_ret
  exact ⟨rfl, S9.2.2.2.2⟩

set_option maxRecDepth 8000 in
set_option maxHeartbeats 1000000 in
theorem order_eq_false (t n t' n' : Int) (w : World) (hl : lessB t n t' n' = false) (hm : lessB t' n' t n = false) (hz : cmpZ t n t' n' = 0) (hv : validB t n = false) :
    Calls Try.prog 3 #[idv t n, idv t' n'] w fun e w' => e = .returned (.bool true) ∧ Below w.heap.size w w' := by
  have c7 : ∀ W, Calls Try.prog 7 #[idv t n, idv t' n'] W fun e w' => e = .returned (.bool false) ∧ Below W.heap.size W w' := fun W => hl ▸ rless_any t n t' n' W
  have c7b : ∀ W, Calls Try.prog 7 #[idv t' n', idv t n] W fun e w' => e = .returned (.bool false) ∧ Below W.heap.size W w' := fun W => hm ▸ rless_any t' n' t n W
  have c8 : ∀ W, Calls Try.prog 8 #[idv t n, idv t' n'] W fun e w' => e = .returned (.int .i64 (0)) ∧ Below W.heap.size W w' := fun W => hz ▸ cmp_any t n t' n' W
  have c9 : ∀ W, Calls Try.prog 9 #[idv t n, idv t' n'] W fun e w' => e = .returned (.bool false) ∧ Below W.heap.size W w' := fun W => hl ▸ less_any t n t' n' W
  have c10 : ∀ W, Calls Try.prog 10 #[idv t n] W fun e w' => e = .returned (.bool false) ∧ Below W.heap.size W w' := fun W => hv ▸ valid_any t n W
  have c11 : ∀ W, Calls Try.prog 11 #[idv t n] W fun e w' => e = .returned (.bool false) ∧ Below W.heap.size W w' := fun W => hv ▸ rvalid_any t n W
  clear hl hm hz hv
  obtain ⟨w2, hw2⟩ : ∃ w2, w2 = (w.alloc (.cells #[.int .i64 t, .int .i64 n] 23)).alloc (.cells #[.int .i64 t', .int .i64 n'] 23) := ⟨_, rfl⟩
  have S2 : w2.cell? ⟨w.heap.size, 0, none⟩ = some (.int .i64 t) ∧ w2.cell? ⟨w.heap.size, 1, none⟩ = some (.int .i64 n) ∧ w2.cell? ⟨w.heap.size + 1, 0, none⟩ = some (.int .i64 t') ∧ w2.cell? ⟨w.heap.size + 1, 1, none⟩ = some (.int .i64 n') ∧ Below w.heap.size w w2 := by
    rw [hw2]
    refine ⟨by simp [go_sem], by simp [go_sem], by simp [go_sem], by simp [go_sem], (below_two w _ _).out⟩
  have HS2 : Hid _ := S2
  clear S2
  go_enter Try.func3, Try.ntmps3
  go_wp2_with fail
  rw [← hw2]
  refine (begun_any w2).mono ?_
  rintro e w3 ⟨rfl, hB3⟩
  have S3 := keepS hB3 HS2.out
  clear hw2 hB3 HS2
  obtain ⟨q0, q1, q2, q3, q4⟩ := S3
  have HQ : Hid (Below w.heap.size w w3) := q4
  clear q4
  go_wp2_with fail
  refine (c7 w3).mono ?_
  rintro e w4 ⟨rfl, hB4⟩
  have S4 := keepS hB4 ⟨q0, q1, q2, q3, HQ.out⟩
  clear q0 q1 q2 q3 HQ hB4
  obtain ⟨q0, q1, q2, q3, q4⟩ := S4
  have HQ : Hid (Below w.heap.size w w4) := q4
  clear q4
  go_wp2_with fail
  refine (c7b w4).mono ?_
  rintro e w5 ⟨rfl, hB5⟩
  have S5 := keepS hB5 ⟨q0, q1, q2, q3, HQ.out⟩
  clear q0 q1 q2 q3 HQ hB5
  have SD : Hid _ := drewS S5
  clear c7 c7b S5
  go_wp2_with fail
  go_region_held3 (fun W => W.cell? ⟨w.heap.size, 0, none⟩ = some (.int .i64 t) ∧ W.cell? ⟨w.heap.size, 1, none⟩ = some (.int .i64 n) ∧ W.cell? ⟨w.heap.size + 1, 0, none⟩ = some (.int .i64 t') ∧ W.cell? ⟨w.heap.size + 1, 1, none⟩ = some (.int .i64 n') ∧ Below w.heap.size w W)
    (first | exact SD.out | assumption)
    (first
      | (go_at_call 8; refine Calls_new (c8 _) ?_; intro w6 HB6; have S6 := keepS HB6.out (by first | exact SD.out | assumption))
      | (go_at_call 9; refine Calls_new (c9 _) ?_; intro w7 HB7; have S7 := keepS HB7.out (by assumption))
      | (go_at_call 10; refine Calls_new (c10 _) ?_; intro w8 HB8; have S8 := keepS HB8.out (by assumption))
      | (go_at_call 11; refine Calls_new (c11 _) ?_; intro w9 HB9; have S9 := keepS HB9.out (by assumption)))
  go_wp2
  go_ret
  exact ⟨rfl, S9.2.2.2.2⟩

theorem order_any (t n t' n' : Int) (w : World) : Calls Try.prog 3 #[idv t n, idv t' n'] w fun e w' => e = .returned (.bool true) ∧ Below w.heap.size w w' := by
  cases hv : validB t n with
  | true =>
    cases hl : lessB t n t' n' with
    | true => exact order_lt_true t n t' n' w hl (less_not hl) (cmpZ_less hl) hv
    | false =>
      cases hm : lessB t' n' t n with
      | true => exact order_gt_true t n t' n' w hl hm (cmpZ_more hm) hv
      | false => exact order_eq_true t n t' n' w hl hm (cmpZ_same hl hm) hv
  | false =>
    cases hl : lessB t n t' n' with
    | true => exact order_lt_false t n t' n' w hl (less_not hl) (cmpZ_less hl) hv
    | false =>
      cases hm : lessB t' n' t n with
      | true => exact order_gt_false t n t' n' w hl hm (cmpZ_more hm) hv
      | false => exact order_eq_false t n t' n' w hl hm (cmpZ_same hl hm) hv

end Go.Proofs.Yteodfodfdffmjaa
