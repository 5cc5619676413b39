/-
  Stamps: isNode, isTime, Compare, Or, Cmp, Less, Valid of the program; Less, Same, Valid of the document's own text.
-/
import Derived.Test.YtgophojgofmkeaaNbase
namespace Go.Proofs.Ytgophojgofmkeaa.Ck
open Go.RowKit

set_option maxRecDepth 8000 in
set_option maxHeartbeats 400000 in
theorem nan27 (x : Int) (w : World) : Calls Try.prog 38 #[.int .i64 x] w fun e w' => e = .returned (.bool false) ∧ w' = w := by
  have hxx : (x != x) = false := by simp
  go_enter Try.func38, Try.ntmps38
  go_wp2
  go_ret
  exact ⟨rfl, rfl⟩
set_option maxRecDepth 8000 in
set_option maxHeartbeats 400000 in
theorem nan28 (x : Int) (w : World) : Calls Try.prog 39 #[.int .i64 x] w fun e w' => e = .returned (.bool false) ∧ w' = w := by
  have hxx : (x != x) = false := by simp
  go_enter Try.func39, Try.ntmps39
  go_wp2
  go_ret
  exact ⟨rfl, rfl⟩

set_option maxRecDepth 8000 in
set_option maxHeartbeats 400000 in
theorem compare21 (x y : Int) (w : World) : Calls Try.prog 32 #[.int .i64 x, .int .i64 y] w fun e w' => e = .returned (.int .i64 (cmp1 x y)) ∧ w' = w := by
  by_cases h : x < y
  · rw [cmp1_lt h]
    go_enter Try.func32, Try.ntmps32
    go_wp2_with (go_at_call 38; refine Calls_on (nan27 _ _) ?_)
    go_ret
    exact ⟨rfl, rfl⟩
  · by_cases h' : y < x
    · rw [cmp1_gt h']
      go_enter Try.func32, Try.ntmps32
      go_wp2_with (go_at_call 38; refine Calls_on (nan27 _ _) ?_)
      go_ret
      exact ⟨rfl, rfl⟩
    · rw [cmp1_eq (by omega)]
      go_enter Try.func32, Try.ntmps32
      go_wp2_with (go_at_call 38; refine Calls_on (nan27 _ _) ?_)
      go_ret
      exact ⟨rfl, rfl⟩
set_option maxRecDepth 8000 in
set_option maxHeartbeats 400000 in
theorem compare22 (x y : Int) (w : World) : Calls Try.prog 33 #[.int .i64 x, .int .i64 y] w fun e w' => e = .returned (.int .i64 (cmp1 x y)) ∧ w' = w := by
  by_cases h : x < y
  · rw [cmp1_lt h]
    go_enter Try.func33, Try.ntmps33
    go_wp2_with (go_at_call 39; refine Calls_on (nan28 _ _) ?_)
    go_ret
    exact ⟨rfl, rfl⟩
  · by_cases h' : y < x
    · rw [cmp1_gt h']
      go_enter Try.func33, Try.ntmps33
      go_wp2_with (go_at_call 39; refine Calls_on (nan28 _ _) ?_)
      go_ret
      exact ⟨rfl, rfl⟩
    · rw [cmp1_eq (by omega)]
      go_enter Try.func33, Try.ntmps33
      go_wp2_with (go_at_call 39; refine Calls_on (nan28 _ _) ?_)
      go_ret
      exact ⟨rfl, rfl⟩

/-- Same, of equal stamps. -/
theorem same_true (t n : Int) (w : World) :
    Calls Try.prog 9 #[idv t n, idv t n] w fun e w' => e = .returned (.bool true) ∧ Below w.heap.size w w' := by
  go_enter Try.func9, Try.ntmps9
  go_wp2
  go_ret
  exact ⟨rfl, (below_two w _ _).out⟩

/-- Less of the document's own text. -/
theorem rless_any (t n t' n' : Int) (w : World) : Calls Try.prog 10 #[idv t n, idv t' n'] w fun e w' => e = .returned (.bool (lessB t n t' n')) ∧ Below w.heap.size w w' := by
  have HB : Hid (∀ o o', Below w.heap.size w ((w.alloc o).alloc o')) := fun o o' => (below_two w o o').out
  by_cases h0 : t < t'
  · have HE : Hid (lessB t n t' n' = true) := by show _ = _; simp [lessB, h0]
    go_enter Try.func10, Try.ntmps10
    go_wp2
    go_ret
    rw [HE.out]
    exact ⟨rfl, HB.out _ _⟩
  · by_cases h1 : t = t'
    · subst h1
      have HE : Hid (lessB t n t n' = decide (n < n')) := by show _ = _; simp [lessB]
      go_enter Try.func10, Try.ntmps10
      go_wp2
      go_ret
      rw [HE.out]
      exact ⟨rfl, HB.out _ _⟩
    · have HE : Hid (lessB t n t' n' = false) := by show _ = _; simp [lessB]; omega
      go_enter Try.func10, Try.ntmps10
      go_wp2
      go_ret
      rw [HE.out]
      exact ⟨rfl, HB.out _ _⟩

end Go.Proofs.Ytgophojgofmkeaa.Ck
