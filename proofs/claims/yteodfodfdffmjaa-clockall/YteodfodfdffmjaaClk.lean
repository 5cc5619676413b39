/-
  A clock of the program: New, Now, Lease, reach.
-/
import Derived.Test.YteodfodfdffmjaaCmp
namespace Go.Proofs.Yteodfodfdffmjaa
open Go.RowKit

def newB (nd tm ls : Int) : Bool := nodeB nd && timeB tm && timeB ls && decide (tm ≤ ls)

set_option maxHeartbeats 400000 in
theorem new_no (nd tm ls : Int) (w : World) (h : newB nd tm ls = false) : Calls Try.prog 12 #[.int .i64 nd, .int .i64 tm, .int .i64 ls] w fun e w' => e = .returned (.pointer none) ∧ w' = w := by
  have c24 := isNode_any nd w
  have ct := isTime_any tm w
  have cl := isTime_any ls w
  cases h0 : nodeB nd with
  | false =>
    rw [h0] at c24
    clear ct cl h0 h
    go_enter Try.func12, Try.ntmps12
    go_wp2_with (go_at_call 24; refine Calls_on c24 ?_)
    go_ret
    exact ⟨rfl, rfl⟩
  | true =>
    rw [h0] at c24
    cases h1 : timeB tm with
    | false =>
      rw [h1] at ct
      clear cl h1 h0 h
      go_enter Try.func12, Try.ntmps12
      go_wp2_with (first | (go_at_call 24; refine Calls_on c24 ?_) | (go_at_call 23; refine Calls_on ct ?_; clear ct))
      go_ret
      exact ⟨rfl, rfl⟩
    | true =>
      rw [h1] at ct
      cases h2 : timeB ls with
      | false =>
        rw [h2] at cl
        clear h2 h1 h0 h
        go_enter Try.func12, Try.ntmps12
        go_wp2_with (first | (go_at_call 24; refine Calls_on c24 ?_) | (go_at_call 23; refine Calls_on ct ?_; clear ct) | (go_at_call 23; refine Calls_on cl ?_; clear cl))
        go_ret
        exact ⟨rfl, rfl⟩
      | true =>
        rw [h2] at cl
        have hlt : ls < tm := by simp [newB, h0, h1, h2] at h; omega
        clear h2 h1 h0 h
        go_enter Try.func12, Try.ntmps12
        go_wp2_with (first | (go_at_call 24; refine Calls_on c24 ?_) | (go_at_call 23; refine Calls_on ct ?_; clear ct) | (go_at_call 23; refine Calls_on cl ?_; clear cl))
        go_ret
        exact ⟨rfl, rfl⟩

set_option maxHeartbeats 400000 in
theorem new_yes (nd tm ls : Int) (w : World) (h : newB nd tm ls = true) : Calls Try.prog 12 #[.int .i64 nd, .int .i64 tm, .int .i64 ls] w fun e w' => e = .returned (.pointer (some ⟨w.heap.size, 0, none⟩)) ∧ w' = w.alloc (.cells #[.int .i64 nd, .int .i64 tm, .int .i64 ls] 49) := by
  have c24 := isNode_any nd w
  have ct := isTime_any tm w
  have cl := isTime_any ls w
  simp [newB] at h
  obtain ⟨⟨⟨h0, h1⟩, h2⟩, h3⟩ := h
  rw [h0] at c24
  rw [h1] at ct
  rw [h2] at cl
  have hlt : ¬ ls < tm := by omega
  clear h0 h1 h2 h3
  go_enter Try.func12, Try.ntmps12
  go_wp2_with (first | (go_at_call 24; refine Calls_on c24 ?_) | (go_at_call 23; refine Calls_on ct ?_; clear ct) | (go_at_call 23; refine Calls_on cl ?_; clear cl))
  go_ret
  exact ⟨rfl, rfl⟩

theorem new_clk (nd tm ls : Int) (w : World) (h : newB nd tm ls = true) : Calls Try.prog 12 #[.int .i64 nd, .int .i64 tm, .int .i64 ls] w fun e w' => e = .returned (.pointer (some ⟨w.heap.size, 0, none⟩)) ∧ Clk 49 w' w.heap.size nd tm ls ∧ Below w.heap.size w w' :=
  (new_yes nd tm ls w h).mono (by rintro e w' ⟨rfl, rfl⟩; exact ⟨rfl, heap_alloc_new w _, (below_new _ _).out⟩)

set_option maxHeartbeats 400000 in
theorem now_any (a : Nat) (nd tm ls : Int) (w : World) (h : Clk 49 w a nd tm ls) : Calls Try.prog 18 #[.pointer (some ⟨a, 0, none⟩)] w fun e w' => e = .returned (.int .i64 tm) ∧ w' = w := by
  have c1 := h.cell1
  clear h
  go_enter Try.func18, Try.ntmps18
  go_wp2
  go_ret
  exact ⟨rfl, rfl⟩
set_option maxHeartbeats 400000 in
theorem lease_any (a : Nat) (nd tm ls : Int) (w : World) (h : Clk 49 w a nd tm ls) : Calls Try.prog 19 #[.pointer (some ⟨a, 0, none⟩)] w fun e w' => e = .returned (.int .i64 ls) ∧ w' = w := by
  have c1 := h.cell2
  clear h
  go_enter Try.func19, Try.ntmps19
  go_wp2
  go_ret
  exact ⟨rfl, rfl⟩
set_option maxHeartbeats 400000 in
theorem now_nil (w : World) : Calls Try.prog 18 #[.pointer none] w fun e w' => e = .returned (.int .i64 0) ∧ w' = w := by
  go_enter Try.func18, Try.ntmps18
  go_wp2
  go_ret
  exact ⟨rfl, rfl⟩
set_option maxHeartbeats 400000 in
theorem lease_nil (w : World) : Calls Try.prog 19 #[.pointer none] w fun e w' => e = .returned (.int .i64 0) ∧ w' = w := by
  go_enter Try.func19, Try.ntmps19
  go_wp2
  go_ret
  exact ⟨rfl, rfl⟩

/-- What a step to the time t answers and does. -/
def Did (ty : TypeId) (w : World) (a : Nat) (nd t ls : Int) (e : Ending) (w' : World) : Prop :=
  e = .returned (.bool (upB t ls)) ∧ Clk ty w' a nd t (upL t ls) ∧ Only (· = a) w w'

theorem upB_no {t ls : Int} (h : t ≤ ls) : upB t ls = false := by simp [upB]; omega
theorem upL_no {t ls : Int} (h : t ≤ ls) : upL t ls = ls := by unfold upL; rw [if_neg (by omega)]
theorem upB_yes {t ls : Int} (h : ¬ t ≤ ls) : upB t ls = true := by simp [upB]; omega
theorem upL_top {t ls : Int} (h : ¬ t ≤ ls) (h' : (1152921504606846976 : Int) < t + 4096) : upL t ls = 1152921504606846976 := by unfold upL; rw [if_pos (by omega), if_pos h']
theorem upL_yes {t ls : Int} (h : ¬ t ≤ ls) (h' : ¬ (1152921504606846976 : Int) < t + 4096) : upL t ls = t + 4096 := by unfold upL; rw [if_pos (by omega), if_neg h']

theorem Only.drew {S : Nat → Prop} {w w' : World} (h : Only S w w') : Only S w w'.drew := ⟨h.os, h.tape, h.output, h.size, h.block⟩
theorem Did.drew {ty : TypeId} {w : World} {a : Nat} {nd t ls : Int} {e : Ending} {w' : World} (h : Did ty w a nd t ls e w') : Did ty w a nd t ls e w'.drew := ⟨h.1, h.2.1, h.2.2.drew⟩
theorem did_no {ty : TypeId} {w : World} {a : Nat} {nd tm t ls : Int} (h : Clk ty w a nd tm ls) (hn : t ≤ ls) : Did ty w a nd t ls (.returned (.bool false)) (w.setCell ⟨a, 1, none⟩ (.int .i64 t)) := by
  refine ⟨by rw [upB_no hn], ?_, Only.setCell _ _ _ rfl⟩
  rw [upL_no hn]
  exact h.set1 t
theorem did_yes {ty : TypeId} {w : World} {a : Nat} {nd tm t ls l : Int} (h : Clk ty w a nd tm ls) (hn : ¬ t ≤ ls) (hl : upL t ls = l) : Did ty w a nd t ls (.returned (.bool true)) ((w.setCell ⟨a, 1, none⟩ (.int .i64 t)).setCell ⟨a, 2, none⟩ (.int .i64 l)) := by
  refine ⟨by rw [upB_yes hn], ?_, Only.next (Only.setCell (S := (· = a)) w ⟨a, 1, none⟩ _ rfl) (Only.setCell (S := (· = a)) _ ⟨a, 2, none⟩ _ rfl)⟩
  rw [hl]
  exact (h.set1 t).set2 l

set_option maxRecDepth 8000 in
set_option maxHeartbeats 400000 in
theorem reach_any (a : Nat) (nd tm ls x t : Int) (w : World) (h : Clk 49 w a nd tm ls) (ht : (if x > tm then x else tm) = t) (h0 : 0 ≤ t) (h1 : t ≤ 1152921504606846976) :
    Calls Try.prog 25 #[.pointer (some ⟨a, 0, none⟩), .int .i64 x] w (Did 49 w a nd t ls) := by
  have c1 := h.cell1
  have f1 := h.frozen 1
  have d1 := (h.set1 t).cell1
  have d2 := (h.set1 t).cell2
  have g2 := (h.set1 t).frozen 2
  have hw : Hid (t + 4096 ≤ 1152921504606851072) := by show _ ≤ _; omega
  by_cases hn : t ≤ ls
  · have HD : Hid (Did 49 w a nd t ls (.returned (.bool false)) (w.setCell ⟨a, 1, none⟩ (.int .i64 t))) := did_no h hn
    clear h
    go_enter Try.func25, Try.ntmps25
    go_wp2
    go_region
    go_wp2
    go_ret
    exact HD.out.drew
  · by_cases hm : (1152921504606846976 : Int) < t + 4096
    · have HD : Hid (Did 49 w a nd t ls (.returned (.bool true)) ((w.setCell ⟨a, 1, none⟩ (.int .i64 t)).setCell ⟨a, 2, none⟩ (.int .i64 1152921504606846976))) := did_yes h hn (upL_top hn hm)
      clear h
      go_enter Try.func25, Try.ntmps25
      go_wp2
      go_region
      go_wp2
      go_ret
      exact HD.out.drew
    · have HD : Hid (Did 49 w a nd t ls (.returned (.bool true)) ((w.setCell ⟨a, 1, none⟩ (.int .i64 t)).setCell ⟨a, 2, none⟩ (.int .i64 (t + 4096)))) := did_yes h hn (upL_yes hn hm)
      clear h
      go_enter Try.func25, Try.ntmps25
      go_wp2
      go_region
      go_wp2
      go_ret
      exact HD.out.drew

end Go.Proofs.Yteodfodfdffmjaa
