/-
  Stamps: isNode, isTime, Compare, Or, Cmp, Less, Valid of the program; Less, Same, Valid of the document's own text.
-/
import Derived.Test.YtjggnmeeeofepaaDoorKNbase

namespace Go.Proofs.YtjggnmeeeofepaaDoor.Ck
open Go.RowKit

set_option maxRecDepth 8000 in
set_option maxHeartbeats 400000 in
theorem isNode_any (z : Int) (w : World) : Calls Tryd.prog 48 #[.int .i64 z] w fun e w' => e = .returned (.bool (nodeB z)) ∧ w' = w := by
  by_cases h0 : 0 ≤ z
  · have HE : Hid (nodeB z = decide (z < 64)) := by show _ = _; simp [nodeB, h0]
    go_enter Tryd.func48, Tryd.ntmps48
    go_wp2
    go_ret
    rw [HE.out]
    exact ⟨rfl, rfl⟩
  · have HE : Hid (nodeB z = false) := by show _ = _; simp [nodeB]; omega
    go_enter Tryd.func48, Tryd.ntmps48
    go_wp2
    go_ret
    rw [HE.out]
    exact ⟨rfl, rfl⟩

set_option maxRecDepth 8000 in
set_option maxHeartbeats 400000 in
theorem isTime_any (x : Int) (w : World) : Calls Tryd.prog 47 #[.int .i64 x] w fun e w' => e = .returned (.bool (timeB x)) ∧ w' = w := by
  by_cases h0 : 0 ≤ x
  · have HE : Hid (timeB x = decide (x ≤ 1152921504606846976)) := by show _ = _; simp [timeB, h0]
    go_enter Tryd.func47, Tryd.ntmps47
    go_wp2
    go_ret
    rw [HE.out]
    exact ⟨rfl, rfl⟩
  · have HE : Hid (timeB x = false) := by show _ = _; simp [timeB]; omega
    go_enter Tryd.func47, Tryd.ntmps47
    go_wp2
    go_ret
    rw [HE.out]
    exact ⟨rfl, rfl⟩

/-- Valid of the program. -/
theorem valid_any (t n : Int) (w : World) : Calls Tryd.prog 36 #[idv t n] w fun e w' => e = .returned (.bool (validB t n)) ∧ Below w.heap.size w w' := by
  obtain ⟨o, ho⟩ : ∃ o, o = Obj.cells #[.int .i64 t, .int .i64 n] 35 := ⟨_, rfl⟩
  have c23 := isTime_any t
  have c24 := isNode_any n
  have HB : Hid (∀ o, Below w.heap.size w (w.alloc o)) := fun o => (below_new w o).out
  by_cases h0 : 0 < t
  · by_cases h1 : t ≤ 1152921504606846976
    · have HE : Hid (validB t n = nodeB n) := by show _ = _; simp [validB, nodeB, h1, show (1 : Int) ≤ t by omega]
      have h2 : timeB t = true := by simp [timeB, h1]; omega
      rw [h2] at c23
      go_enter Tryd.func36, Tryd.ntmps36
      go_wp2_with (first | (go_at_call 47; refine Calls_on (c23 _) ?_) | (go_at_call 48; refine Calls_on (c24 _) ?_))
      go_ret
      rw [HE.out]
      exact ⟨rfl, HB.out _⟩
    · have HE : Hid (validB t n = false) := by show _ = _; simp [validB]; omega
      have h2 : timeB t = false := by simp [timeB]; omega
      rw [h2] at c23
      go_enter Tryd.func36, Tryd.ntmps36
      go_wp2_with (first | (go_at_call 47; refine Calls_on (c23 _) ?_) | (go_at_call 48; refine Calls_on (c24 _) ?_))
      go_ret
      rw [HE.out]
      exact ⟨rfl, HB.out _⟩
  · have HE : Hid (validB t n = false) := by show _ = _; simp [validB]; omega
    go_enter Tryd.func36, Tryd.ntmps36
    go_wp2_with (first | (go_at_call 47; refine Calls_on (c23 _) ?_) | (go_at_call 48; refine Calls_on (c24 _) ?_))
    go_ret
    rw [HE.out]
    exact ⟨rfl, HB.out _⟩

/-- Valid of the document's own text. -/
theorem rvalid_any (t n : Int) (w : World) : Calls Tryd.prog 27 #[idv t n] w fun e w' => e = .returned (.bool (validB t n)) ∧ Below w.heap.size w w' := by
  have HB : Hid (∀ o, Below w.heap.size w (w.alloc o)) := fun o => (below_new w o).out
  by_cases h0 : 1 ≤ t
  · by_cases h1 : t ≤ 1152921504606846976
    · by_cases h2 : 0 ≤ n
      · have HE : Hid (validB t n = decide (n < 64)) := by show _ = _; simp [validB, h0, h1, h2]
        go_enter Tryd.func27, Tryd.ntmps27
        go_wp2
        go_ret
        rw [HE.out]
        exact ⟨rfl, HB.out _⟩
      · have HE : Hid (validB t n = false) := by show _ = _; simp [validB]; omega
        go_enter Tryd.func27, Tryd.ntmps27
        go_wp2
        go_ret
        rw [HE.out]
        exact ⟨rfl, HB.out _⟩
    · have HE : Hid (validB t n = false) := by show _ = _; simp [validB]; omega
      go_enter Tryd.func27, Tryd.ntmps27
      go_wp2
      go_ret
      rw [HE.out]
      exact ⟨rfl, HB.out _⟩
  · have HE : Hid (validB t n = false) := by show _ = _; simp [validB]; omega
    go_enter Tryd.func27, Tryd.ntmps27
    go_wp2
    go_ret
    rw [HE.out]
    exact ⟨rfl, HB.out _⟩

end Go.Proofs.YtjggnmeeeofepaaDoor.Ck
