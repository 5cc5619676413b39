/-
  The document's device (package lagoonref1): its small functions, and New.
-/
import Derived.Test.YtnobebgnbofdpaaNone
import Derived.Maps.AppendAt
namespace Go.Proofs.Ytnobebgnbofdpaa
open Go.RowKit Go.Maps

/-- The five cells of the document's device. -/
def refCells (vS vN vL : Value) (lef cnt : Int) : Array Value := #[vS, vN, vL, .int .i64 lef, .int .i64 cnt]
/-- Block r of w is the struct of a device of the document's. -/
def IsRefAt (w : World) (r : Nat) (vS vN vL : Value) (lef cnt : Int) : Prop := w.heap[r]? = some (.cells (refCells vS vN vL lef cnt) 40 (0, 0))

section
variable {w : World} {r : Nat} {vS vN vL : Value} {lef cnt : Int}
theorem IsRefAt.set0 (h : IsRefAt w r vS vN vL lef cnt) (v : Value) : IsRefAt (w.setCell ⟨r, 0, none⟩ v) r v vN vL lef cnt := by
  unfold IsRefAt at *; simp [World.setCell, Array.getElem?_modify, h, refCells]
theorem IsRefAt.set1 (h : IsRefAt w r vS vN vL lef cnt) (v : Value) : IsRefAt (w.setCell ⟨r, 1, none⟩ v) r vS v vL lef cnt := by
  unfold IsRefAt at *; simp [World.setCell, Array.getElem?_modify, h, refCells]
theorem IsRefAt.set3 (h : IsRefAt w r vS vN vL lef cnt) (x : Int) : IsRefAt (w.setCell ⟨r, 3, none⟩ (.int .i64 x)) r vS vN vL x cnt := by
  unfold IsRefAt at *; simp [World.setCell, Array.getElem?_modify, h, refCells]
theorem IsRefAt.set4 (h : IsRefAt w r vS vN vL lef cnt) (x : Int) : IsRefAt (w.setCell ⟨r, 4, none⟩ (.int .i64 x)) r vS vN vL lef x := by
  unfold IsRefAt at *; simp [World.setCell, Array.getElem?_modify, h, refCells]
end

set_option maxHeartbeats 400000 in
theorem rdead_any (r : Nat) (vS vN vL : Value) (lef cnt : Int) (w : World) (h : IsRefAt w r vS vN vL lef cnt) :
    Calls Try.prog 29 #[.pointer (some ⟨r, 0, none⟩)] w fun e w' => e = .returned (.bool (lef == 0)) ∧ w' = w := by
  have h3 := cellOf h 3
  simp [refCells] at h3
  clear h
  go_enter Try.func29, Try.ntmps29
  go_wp2
  go_ret
  exact ⟨rfl, rfl⟩

/-- What is left of the document's fuse behind one more step. -/
def rstepped (lef : Int) : Int := if 0 < lef then lef - 1 else lef

set_option maxHeartbeats 400000 in
theorem rstep_any (r : Nat) (vS vN vL : Value) (lef cnt : Int) (w : World) (h : IsRefAt w r vS vN vL lef cnt) (hc0 : 0 ≤ cnt) (hc1 : cnt < 1000000000) (hl : lef ≤ 9223372036854775807) :
    Calls Try.prog 30 #[.pointer (some ⟨r, 0, none⟩)] w fun e w' => e = .returned (.tuple #[]) ∧ IsRefAt w' r vS vN vL (rstepped lef) (cnt + 1) ∧ w.grownBy w' (some r) ∧ w'.heap.size = w.heap.size := by
  have h3 := cellOf h 3
  have h4 := cellOf h 4
  have f3 := frozenOf h 3
  have f4 := frozenOf h 4
  have H : Hid (IsRefAt w r vS vN vL lef cnt) := h
  simp [refCells] at h3 h4
  clear h
  by_cases hp : 0 < lef
  · have e1 : rstepped lef = lef - 1 := if_pos hp
    have E1 : Hid (rstepped lef = lef - 1) := e1
    clear e1
    go_enter Try.func30, Try.ntmps30
    go_wp2
    go_end0
    rw [E1.out]
    exact ⟨rfl, (H.out.set4 _).set3 _, grown_trans (grown_set _ _ _) (grown_set _ _ _), by simp [World.setCell]⟩
  · have e1 : rstepped lef = lef := if_neg hp
    have E1 : Hid (rstepped lef = lef) := e1
    clear e1
    go_enter Try.func30, Try.ntmps30
    go_wp2
    go_end0
    rw [E1.out]
    exact ⟨rfl, H.out.set4 _, grown_set _ _ _, by simp [World.setCell]⟩

set_option maxHeartbeats 400000 in
theorem rread_no (i : Int) (r : Nat) (vS vL : Value) (p : Option Addr) (n c : Nat) (lef cnt : Int) (w : World) (h : IsRefAt w r vS (.slice p n c) vL lef cnt) (hi : ¬ (0 ≤ i ∧ i < n)) :
    Calls Try.prog 33 #[.pointer (some ⟨r, 0, none⟩), .int .i64 i] w fun e w' => e = .returned (.tuple #[.slice none 0 0, .int .i64 22]) ∧ w' = w := by
  have h1 := cellOf h 1
  simp [refCells] at h1
  clear h
  by_cases h0 : i < 0
  · go_enter Try.func33, Try.ntmps33
    go_wp2
    go_ret2
    exact ⟨rfl, rfl⟩
  · have h2 : (n : Int) ≤ i := by omega
    clear hi
    go_enter Try.func33, Try.ntmps33
    go_wp2
    go_ret2
    exact ⟨rfl, rfl⟩

set_option maxHeartbeats 400000 in
theorem rread_yes (i : Nat) (r sN : Nat) (vS vL : Value) (n c : Nat) (lef cnt : Int) (aN : Array Value) (q : Option Addr) (l k : Nat) (w : World) (h : IsRefAt w r vS (.slice (some ⟨sN, 0, none⟩) n c) vL lef cnt) (hi : i < n)
    (hN : w.heap[sN]? = some (.cells aN 28 (0, 0))) (hv : aN[i]? = some (.slice q l k)) :
    Calls Try.prog 33 #[.pointer (some ⟨r, 0, none⟩), .int .i64 i] w fun e w' => e = .returned (.tuple #[.slice q l k, .int .i64 0]) ∧ w' = w := by
  have h1 := cellOf h 1
  simp [refCells] at h1
  have h2 : w.cell? ⟨sN, i, none⟩ = some (.slice q l k) := (cellOf hN i).trans hv
  clear h hN hv
  have hlt : (i : Int) < n := by omega
  go_enter Try.func33, Try.ntmps33
  go_wp2
  go_ret2
  exact ⟨rfl, rfl⟩

set_option maxHeartbeats 400000 in
theorem rfuse_dead (x : Int) (r : Nat) (vS vN vL : Value) (cnt : Int) (w : World) (h : IsRefAt w r vS vN vL 0 cnt) :
    Calls Try.prog 15 #[.pointer (some ⟨r, 0, none⟩), .int .i64 x] w fun e w' => e = .returned (.tuple #[]) ∧ w' = w := by
  have c29 := rdead_any r vS vN vL 0 cnt w h
  clear h
  go_enter Try.func15, Try.ntmps15
  go_wp2_with (go_at_call 29; refine Calls_on c29 ?_)
  first | go_end0 | refine bodyPost_ret (results_none rfl _ _ _) rfl ?_
  exact ⟨rfl, rfl⟩

set_option maxHeartbeats 400000 in
theorem rfuse_yes (x : Int) (r : Nat) (vS vN vL : Value) (lef cnt : Int) (w : World) (h : IsRefAt w r vS vN vL lef cnt) (hl : (lef == 0) = false) :
    Calls Try.prog 15 #[.pointer (some ⟨r, 0, none⟩), .int .i64 x] w fun e w' => e = .returned (.tuple #[]) ∧ IsRefAt w' r vS vN vL (if x < 0 then 0 else x) cnt ∧ But (fun k => k = r) w w' := by
  have c29 := rdead_any r vS vN vL lef cnt w h
  rw [hl] at c29
  have h3 := cellOf h 3
  have f3 := frozenOf h 3
  simp [refCells] at h3
  have H : Hid (IsRefAt w r vS vN vL lef cnt) := h
  clear h hl
  by_cases hx : x < 0
  · go_enter Try.func15, Try.ntmps15
    go_wp2_with (go_at_call 29; refine Calls_on c29 ?_)
    first | go_end0 | refine bodyPost_ret (results_none rfl _ _ _) rfl ?_
    exact ⟨rfl, H.out.set3 _, (But.refl (fun k => k = r) w).setCell ⟨r, 3, none⟩ rfl _⟩
  · go_enter Try.func15, Try.ntmps15
    go_wp2_with (go_at_call 29; refine Calls_on c29 ?_)
    first | go_end0 | refine bodyPost_ret (results_none rfl _ _ _) rfl ?_
    exact ⟨rfl, H.out.set3 _, (But.refl (fun k => k = r) w).setCell ⟨r, 3, none⟩ rfl _⟩

end Go.Proofs.Ytnobebgnbofdpaa
