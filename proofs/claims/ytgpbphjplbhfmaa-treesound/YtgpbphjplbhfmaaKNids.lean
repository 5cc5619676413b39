/-
  Stamps: isNode, isTime, Compare, Or, Cmp, Less, Valid of the program; Less, Same, Valid of the document's own text.
-/
import Derived.Test.YtgpbphjplbhfmaaKNbase

namespace Go.Proofs.Ytgpbphjplbhfmaa.Ck
open Go.RowKit

set_option maxRecDepth 8000 in
set_option maxHeartbeats 400000 in
theorem isNode_any (z : Int) (w : World) : Calls Try.prog 64 #[.int .i64 z] w fun e w' => e = .returned (.bool (nodeB z)) ∧ w' = w := by
  by_cases h0 : 0 ≤ z
  · have HE : Hid (nodeB z = decide (z < 64)) := by show _ = _; simp [nodeB, h0]
    go_enter Try.func64, Try.ntmps64
    go_wp2
    go_ret
    rw [HE.out]
    exact ⟨rfl, rfl⟩
  · have HE : Hid (nodeB z = false) := by show _ = _; simp [nodeB]; omega
    go_enter Try.func64, Try.ntmps64
    go_wp2
    go_ret
    rw [HE.out]
    exact ⟨rfl, rfl⟩

set_option maxRecDepth 8000 in
set_option maxHeartbeats 400000 in
theorem isTime_any (x : Int) (w : World) : Calls Try.prog 63 #[.int .i64 x] w fun e w' => e = .returned (.bool (timeB x)) ∧ w' = w := by
  by_cases h0 : 0 ≤ x
  · have HE : Hid (timeB x = decide (x ≤ 1152921504606846976)) := by show _ = _; simp [timeB, h0]
    go_enter Try.func63, Try.ntmps63
    go_wp2
    go_ret
    rw [HE.out]
    exact ⟨rfl, rfl⟩
  · have HE : Hid (timeB x = false) := by show _ = _; simp [timeB]; omega
    go_enter Try.func63, Try.ntmps63
    go_wp2
    go_ret
    rw [HE.out]
    exact ⟨rfl, rfl⟩

set_option maxRecDepth 8000 in
set_option maxHeartbeats 400000 in
theorem nan27 (x : Int) (w : World) : Calls Try.prog 85 #[.int .i64 x] w fun e w' => e = .returned (.bool false) ∧ w' = w := by
  have hxx : (x != x) = false := by simp
  go_enter Try.func85, Try.ntmps85
  go_wp2
  go_ret
  exact ⟨rfl, rfl⟩
set_option maxRecDepth 8000 in
set_option maxHeartbeats 400000 in
theorem nan28 (x : Int) (w : World) : Calls Try.prog 86 #[.int .i64 x] w fun e w' => e = .returned (.bool false) ∧ w' = w := by
  have hxx : (x != x) = false := by simp
  go_enter Try.func86, Try.ntmps86
  go_wp2
  go_ret
  exact ⟨rfl, rfl⟩

set_option maxRecDepth 8000 in
set_option maxHeartbeats 400000 in
theorem compare21 (x y : Int) (w : World) : Calls Try.prog 72 #[.int .i64 x, .int .i64 y] w fun e w' => e = .returned (.int .i64 (cmp1 x y)) ∧ w' = w := by
  by_cases h : x < y
  · rw [cmp1_lt h]
    go_enter Try.func72, Try.ntmps72
    go_wp2_with (go_at_call 85; refine Calls_on (nan27 _ _) ?_)
    go_ret
    exact ⟨rfl, rfl⟩
  · by_cases h' : y < x
    · rw [cmp1_gt h']
      go_enter Try.func72, Try.ntmps72
      go_wp2_with (go_at_call 85; refine Calls_on (nan27 _ _) ?_)
      go_ret
      exact ⟨rfl, rfl⟩
    · rw [cmp1_eq (by omega)]
      go_enter Try.func72, Try.ntmps72
      go_wp2_with (go_at_call 85; refine Calls_on (nan27 _ _) ?_)
      go_ret
      exact ⟨rfl, rfl⟩
set_option maxRecDepth 8000 in
set_option maxHeartbeats 400000 in
theorem compare22 (x y : Int) (w : World) : Calls Try.prog 73 #[.int .i64 x, .int .i64 y] w fun e w' => e = .returned (.int .i64 (cmp1 x y)) ∧ w' = w := by
  by_cases h : x < y
  · rw [cmp1_lt h]
    go_enter Try.func73, Try.ntmps73
    go_wp2_with (go_at_call 86; refine Calls_on (nan28 _ _) ?_)
    go_ret
    exact ⟨rfl, rfl⟩
  · by_cases h' : y < x
    · rw [cmp1_gt h']
      go_enter Try.func73, Try.ntmps73
      go_wp2_with (go_at_call 86; refine Calls_on (nan28 _ _) ?_)
      go_ret
      exact ⟨rfl, rfl⟩
    · rw [cmp1_eq (by omega)]
      go_enter Try.func73, Try.ntmps73
      go_wp2_with (go_at_call 86; refine Calls_on (nan28 _ _) ?_)
      go_ret
      exact ⟨rfl, rfl⟩

/-- Valid of the program. -/
theorem valid_any (t n : Int) (w : World) : Calls Try.prog 46 #[idv t n] w fun e w' => e = .returned (.bool (validB t n)) ∧ Below w.heap.size w w' := by
  obtain ⟨o, ho⟩ : ∃ o, o = Obj.cells #[.int .i64 t, .int .i64 n] 31 := ⟨_, rfl⟩
  have c23 := isTime_any t
  have c24 := isNode_any n
  have HB : Hid (∀ o, Below w.heap.size w (w.alloc o)) := fun o => (below_new w o).out
  by_cases h0 : 0 < t
  · by_cases h1 : t ≤ 1152921504606846976
    · have HE : Hid (validB t n = nodeB n) := by show _ = _; simp [validB, nodeB, h1, show (1 : Int) ≤ t by omega]
      have h2 : timeB t = true := by simp [timeB, h1]; omega
      rw [h2] at c23
      go_enter Try.func46, Try.ntmps46
      go_wp2_with (first | (go_at_call 63; refine Calls_on (c23 _) ?_) | (go_at_call 64; refine Calls_on (c24 _) ?_))
      go_ret
      rw [HE.out]
      exact ⟨rfl, HB.out _⟩
    · have HE : Hid (validB t n = false) := by show _ = _; simp [validB]; omega
      have h2 : timeB t = false := by simp [timeB]; omega
      rw [h2] at c23
      go_enter Try.func46, Try.ntmps46
      go_wp2_with (first | (go_at_call 63; refine Calls_on (c23 _) ?_) | (go_at_call 64; refine Calls_on (c24 _) ?_))
      go_ret
      rw [HE.out]
      exact ⟨rfl, HB.out _⟩
  · have HE : Hid (validB t n = false) := by show _ = _; simp [validB]; omega
    go_enter Try.func46, Try.ntmps46
    go_wp2_with (first | (go_at_call 63; refine Calls_on (c23 _) ?_) | (go_at_call 64; refine Calls_on (c24 _) ?_))
    go_ret
    rw [HE.out]
    exact ⟨rfl, HB.out _⟩

/-- Valid of the document's own text. -/
theorem rvalid_any (t n : Int) (w : World) : Calls Try.prog 40 #[idv t n] w fun e w' => e = .returned (.bool (validB t n)) ∧ Below w.heap.size w w' := by
  have HB : Hid (∀ o, Below w.heap.size w (w.alloc o)) := fun o => (below_new w o).out
  by_cases h0 : 1 ≤ t
  · by_cases h1 : t ≤ 1152921504606846976
    · by_cases h2 : 0 ≤ n
      · have HE : Hid (validB t n = decide (n < 64)) := by show _ = _; simp [validB, h0, h1, h2]
        go_enter Try.func40, Try.ntmps40
        go_wp2
        go_ret
        rw [HE.out]
        exact ⟨rfl, HB.out _⟩
      · have HE : Hid (validB t n = false) := by show _ = _; simp [validB]; omega
        go_enter Try.func40, Try.ntmps40
        go_wp2
        go_ret
        rw [HE.out]
        exact ⟨rfl, HB.out _⟩
    · have HE : Hid (validB t n = false) := by show _ = _; simp [validB]; omega
      go_enter Try.func40, Try.ntmps40
      go_wp2
      go_ret
      rw [HE.out]
      exact ⟨rfl, HB.out _⟩
  · have HE : Hid (validB t n = false) := by show _ = _; simp [validB]; omega
    go_enter Try.func40, Try.ntmps40
    go_wp2
    go_ret
    rw [HE.out]
    exact ⟨rfl, HB.out _⟩

/-- Less of the document's own text. -/
theorem rless_any (t n t' n' : Int) (w : World) : Calls Try.prog 19 #[idv t n, idv t' n'] w fun e w' => e = .returned (.bool (lessB t n t' n')) ∧ Below w.heap.size w w' := by
  have HB : Hid (∀ o o', Below w.heap.size w ((w.alloc o).alloc o')) := fun o o' => (below_two w o o').out
  by_cases h0 : t < t'
  · have HE : Hid (lessB t n t' n' = true) := by show _ = _; simp [lessB, h0]
    go_enter Try.func19, Try.ntmps19
    go_wp2
    go_ret
    rw [HE.out]
    exact ⟨rfl, HB.out _ _⟩
  · by_cases h1 : t = t'
    · subst h1
      have HE : Hid (lessB t n t n' = decide (n < n')) := by show _ = _; simp [lessB]
      go_enter Try.func19, Try.ntmps19
      go_wp2
      go_ret
      rw [HE.out]
      exact ⟨rfl, HB.out _ _⟩
    · have HE : Hid (lessB t n t' n' = false) := by show _ = _; simp [lessB]; omega
      go_enter Try.func19, Try.ntmps19
      go_wp2
      go_ret
      rw [HE.out]
      exact ⟨rfl, HB.out _ _⟩

end Go.Proofs.Ytgpbphjplbhfmaa.Ck
