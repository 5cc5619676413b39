/-
  The law ClockAll returns true.
-/
import Derived.Test.YteodfodfdffmjaaBegun
import Derived.Test.YteodfodfdffmjaaOpen
namespace Go.Proofs.Yteodfodfdffmjaa
open Go.RowKit

theorem below_drewN (w : World) (k : Nat) : Below w.heap.size w (w.drewN k) := ⟨rfl, rfl, rfl, Nat.le_refl _, fun _ _ => rfl⟩
theorem tag_ne {W : World} {a b : Nat} {cs ds : Array Value} {s t : TypeId} {f g : Nat × Nat} (h : W.heap[a]? = some (.cells cs s f)) (k : W.heap[b]? = some (.cells ds t g)) (hne : s ≠ t) : a ≠ b := by
  rintro rfl
  rw [h] at k
  cases k
  exact hne rfl

/-- The program's clock (tm, ls) and the document's own (um, us) lie in memory that is new since w; nothing older has turned. -/
structure J (w : World) (a r : Nat) (nd tm ls um us : Int) (W : World) : Prop where
  c : Clk 49 W a nd tm ls
  d : Clk 33 W r nd um us
  ha : w.heap.size ≤ a
  hr : w.heap.size ≤ r
  b : Below w.heap.size w W
theorem J.ne {w : World} {a r : Nat} {nd tm ls um us : Int} {W : World} (h : J w a r nd tm ls um us W) : a ≠ r := tag_ne h.c h.d (by decide)
theorem J.stepc {w : World} {a r : Nat} {nd tm ls um us : Int} {W W' : World} (h : J w a r nd tm ls um us W) {x y : Int} (hc : Clk 49 W' a nd x y) (ho : Only (· = a) W W') : J w a r nd x y um us W' :=
  ⟨hc, h.d.keep ho (Ne.symm h.ne), h.ha, h.hr, h.b.trans (ho.below h.b.size (fun i hi => by have := h.ha; omega))⟩
theorem J.stepd {w : World} {a r : Nat} {nd tm ls um us : Int} {W W' : World} (h : J w a r nd tm ls um us W) {x y : Int} (hd : Clk 33 W' r nd x y) (ho : Only (· = r) W W') : J w a r nd tm ls x y W' :=
  ⟨h.c.keep ho h.ne, hd, h.ha, h.hr, h.b.trans (ho.below h.b.size (fun i hi => by have := h.hr; omega))⟩
theorem J.below {w : World} {a r : Nat} {nd tm ls um us : Int} {W W' : World} (h : J w a r nd tm ls um us W) (hb : Below W.heap.size W W') : J w a r nd tm ls um us W' :=
  ⟨h.c.below hb, h.d.below hb, h.ha, h.hr, h.b.trans (hb.mono h.b.size)⟩
theorem J.cell {w : World} {a r : Nat} {nd tm ls um us : Int} {W : World} (h : J w a r nd tm ls um us W) {b o : Nat} {v : Value} (hc : w.cell? ⟨b, o, none⟩ = some v) : W.cell? ⟨b, o, none⟩ = some v :=
  (h.b.cell (p := ⟨b, o, none⟩) (cell_lt hc)).trans hc

/- There is no such clock. -/

def bad (nd tm ls : Int) : Prop := nd < 0 ∨ 64 ≤ nd ∨ tm < 0 ∨ 1152921504606846976 < tm ∨ ls < tm ∨ 1152921504606846976 < ls
theorem bad_new {nd tm ls : Int} (h : bad nd tm ls) : newB nd tm ls = false := by
  unfold bad at h
  simp [newB, nodeB, timeB]
  omega
theorem good_new {nd tm ls : Int} (h : ¬ bad nd tm ls) : newB nd tm ls = true := by
  unfold bad at h
  simp [newB, nodeB, timeB]
  omega

set_option maxRecDepth 8000 in
set_option maxHeartbeats 1000000 in
theorem all_bad (p : Option Addr) (l cp : Nat) (nd tm ls : Int) (w : World) (h : bad nd tm ls) :
    Calls Try.prog 4 #[.int .i64 nd, .int .i64 tm, .int .i64 ls, .slice p l cp] w fun e w' => e = .returned (.bool true) ∧ Below w.heap.size w w' := by
  have c6 := begun_any w
  have c12 : ∀ W, Calls Try.prog 12 #[.int .i64 nd, .int .i64 tm, .int .i64 ls] W fun e w' => e = .returned (.pointer none) ∧ w' = W := fun W => new_no nd tm ls W (bad_new h)
  by_cases h1 : nd < 0
  · clear h
    go_enter Try.func4, Try.ntmps4
    go_wp2_with (first | (go_at_call 6; refine Calls_new c6 ?_; intro w1 HB1) | (go_at_call 12; refine Calls_on (c12 _) ?_))
    go_ret
    exact ⟨rfl, HB1.out⟩
  by_cases h2 : 64 ≤ nd
  · clear h
    go_enter Try.func4, Try.ntmps4
    go_wp2_with (first | (go_at_call 6; refine Calls_new c6 ?_; intro w1 HB1) | (go_at_call 12; refine Calls_on (c12 _) ?_))
    go_ret
    exact ⟨rfl, HB1.out⟩
  by_cases h3 : tm < 0
  · clear h
    go_enter Try.func4, Try.ntmps4
    go_wp2_with (first | (go_at_call 6; refine Calls_new c6 ?_; intro w1 HB1) | (go_at_call 12; refine Calls_on (c12 _) ?_))
    go_ret
    exact ⟨rfl, HB1.out⟩
  by_cases h4 : 1152921504606846976 < tm
  · clear h
    go_enter Try.func4, Try.ntmps4
    go_wp2_with (first | (go_at_call 6; refine Calls_new c6 ?_; intro w1 HB1) | (go_at_call 12; refine Calls_on (c12 _) ?_))
    go_ret
    exact ⟨rfl, HB1.out⟩
  by_cases h5 : ls < tm
  · clear h
    go_enter Try.func4, Try.ntmps4
    go_wp2_with (first | (go_at_call 6; refine Calls_new c6 ?_; intro w1 HB1) | (go_at_call 12; refine Calls_on (c12 _) ?_))
    go_ret
    exact ⟨rfl, HB1.out⟩
  have h6 : 1152921504606846976 < ls := by unfold bad at h; omega
  clear h
  go_enter Try.func4, Try.ntmps4
  go_wp2_with (first | (go_at_call 6; refine Calls_new c6 ?_; intro w1 HB1) | (go_at_call 12; refine Calls_on (c12 _) ?_))
  go_ret
  exact ⟨rfl, HB1.out⟩

end Go.Proofs.Yteodfodfdffmjaa
