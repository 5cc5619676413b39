/-
  A volume in memory; its small methods.
-/
import Derived.Test.YtebdgcoandfocaaGreatDoorKDev
import Derived.Laws.Small

namespace Go.Proofs.YtebdgcoandfocaaGreatDoor
open Go.RowKit Go.Maps Go.Sort Go.Shelf

/-- The six cells of a volume. -/
def volCells (d : Value) (commits turn next : Nat) (f : Option Nat) (count : Int) : Array Value :=
  #[d, .int .i64 commits, .int .i64 turn, .int .i64 next, .map f, .int .i64 count]
def IsVol (w : World) (v : Nat) (d : Value) (commits turn next : Nat) (f : Option Nat) (count : Int) : Prop :=
  w.heap[v]? = some (.cells (volCells d commits turn next f count) 115 (0, 0))

theorem IsVol.lt {w : World} {v : Nat} {d : Value} {commits turn next : Nat} {f : Option Nat} {count : Int} (h : IsVol w v d commits turn next f count) : v < w.heap.size := (Array.getElem?_eq_some_iff.1 h).1
theorem IsVol.but {w w' : World} {v : Nat} {d : Value} {commits turn next : Nat} {f : Option Nat} {count : Int} (h : IsVol w v d commits turn next f count) {S : Nat → Prop} (hb : But S w w') (hv : ¬ S v) : IsVol w' v d commits turn next f count :=
  (hb.block v h.lt hv).trans h
theorem IsVol.below {w w' : World} {v : Nat} {d : Value} {commits turn next : Nat} {f : Option Nat} {count : Int} (h : IsVol w v d commits turn next f count) (hb : Below w.heap.size w w') : IsVol w' v d commits turn next f count :=
  (hb.block v h.lt).trans h
theorem IsVol.mine {w : World} {v : Nat} {dv : Value} {commits turn next : Nat} {f : Option Nat} {count : Int} {d : DS} (h : IsVol w v dv commits turn next f count) (hd : Dev w d) : ¬ d.mine v :=
  hd.other h (by decide) (by decide)

theorem IsVol.setC {w : World} {v : Nat} {d : Value} {commits turn next : Nat} {f : Option Nat} {count : Int} (h : IsVol w v d commits turn next f count) (x : Nat) : IsVol (w.setCell ⟨v, 1, none⟩ (.int .i64 (x : Nat))) v d x turn next f count := by
  unfold IsVol at *; simp [World.setCell, Array.getElem?_modify, h, volCells]
theorem IsVol.setT {w : World} {v : Nat} {d : Value} {commits turn next : Nat} {f : Option Nat} {count : Int} (h : IsVol w v d commits turn next f count) (x : Nat) : IsVol (w.setCell ⟨v, 2, none⟩ (.int .i64 (x : Nat))) v d commits x next f count := by
  unfold IsVol at *; simp [World.setCell, Array.getElem?_modify, h, volCells]
theorem IsVol.setN {w : World} {v : Nat} {d : Value} {commits turn next : Nat} {f : Option Nat} {count : Int} (h : IsVol w v d commits turn next f count) (x : Nat) : IsVol (w.setCell ⟨v, 3, none⟩ (.int .i64 (x : Nat))) v d commits turn x f count := by
  unfold IsVol at *; simp [World.setCell, Array.getElem?_modify, h, volCells]
theorem IsVol.setF {w : World} {v : Nat} {d : Value} {commits turn next : Nat} {f : Option Nat} {count : Int} (h : IsVol w v d commits turn next f count) (x : Nat) : IsVol (w.setCell ⟨v, 4, none⟩ (.map (some x))) v d commits turn next (some x) count := by
  unfold IsVol at *; simp [World.setCell, Array.getElem?_modify, h, volCells]
theorem IsVol.setK {w : World} {v : Nat} {d : Value} {commits turn next : Nat} {f : Option Nat} {count : Int} (h : IsVol w v d commits turn next f count) (x : Int) : IsVol (w.setCell ⟨v, 5, none⟩ (.int .i64 x)) v d commits turn next f x := by
  unfold IsVol at *; simp [World.setCell, Array.getElem?_modify, h, volCells]

/-- Where a device's pointer points. -/
abbrev dp (a : Nat) : Value := .pointer (some ⟨a, 0, none⟩)

/-- How many blocks a volume has. -/
def nbOf (n : Nat) : Nat := (n - 8) / 4

set_option maxRecDepth 8000 in
set_option maxHeartbeats 400000 in
theorem vBlocks (v : Nat) (commits turn next : Nat) (f : Option Nat) (count : Int) (d : DS) (w : World) (h : IsVol w v (dp d.a) commits turn next f count) (hd : Dev w d) (hn : 16 ≤ d.n) :
    Calls Tryz.prog 98 #[dp v] w fun e w' => e = .returned (.int .i64 (nbOf d.n)) ∧ w' = w := by
  have c31 := dev_blocks d w hd
  have h0 := cellOf h 0
  simp [volCells] at h0
  have hle := hd.hn
  clear h hd
  obtain ⟨k, hk⟩ : ∃ k, nbOf d.n = k := ⟨_, rfl⟩
  have e1 : (((d.n : Int) - 8) / 4) = (k : Int) := by rw [← hk]; unfold nbOf; omega
  have e2 : Int.tdiv ((d.n : Int) - 8) 4 = (k : Int) := by rw [Int.tdiv_eq_ediv_of_nonneg (by omega)]; exact e1
  have hk' : (k : Int) ≤ 65536 := by omega
  rw [hk]
  have hm : (if (k : Int) > 0 then (k : Int) else 0) = k := by split <;> omega
  go_enter Tryz.func98, Tryz.ntmps98
  go_wp2_with (go_at_call 69; refine Calls_on c31 ?_)
  go_ret
  exact ⟨rfl, rfl⟩

set_option maxRecDepth 8000 in
set_option maxHeartbeats 400000 in
theorem vHas (i : Int) (v : Nat) (commits turn next : Nat) (f : Option Nat) (count : Int) (d : DS) (w : World) (h : IsVol w v (dp d.a) commits turn next f count) (hd : Dev w d) (hn : 16 ≤ d.n) :
    Calls Tryz.prog 116 #[dp v, .int .i64 i] w fun e w' => e = .returned (.bool (decide (0 ≤ i ∧ i < nbOf d.n))) ∧ w' = w := by
  have c9 := vBlocks v commits turn next f count d w h hd hn
  clear h hd
  by_cases hi : 0 ≤ i
  · go_enter Tryz.func116, Tryz.ntmps116
    go_wp2_with (go_at_call 98; refine Calls_on c9 ?_)
    go_ret
    exact ⟨by simp [hi], rfl⟩
  · go_enter Tryz.func116, Tryz.ntmps116
    go_wp2_with (go_at_call 98; refine Calls_on c9 ?_)
    go_ret
    exact ⟨by simp; omega, rfl⟩

set_option maxRecDepth 8000 in
set_option maxHeartbeats 400000 in
theorem homeOf_any (i : Nat) (w : World) (hi : i < 1000000000) : Calls Tryz.prog 97 #[.int .i64 i] w fun e w' => e = .returned (.int .i64 ((1 + i : Nat) : Int)) ∧ w' = w := by
  go_enter Tryz.func97, Tryz.ntmps97
  go_wp2
  go_ret
  exact ⟨by simp, rfl⟩

set_option maxRecDepth 8000 in
set_option maxHeartbeats 400000 in
theorem vStart (v : Nat) (commits turn next : Nat) (f : Option Nat) (count : Int) (d : DS) (w : World) (h : IsVol w v (dp d.a) commits turn next f count) (hd : Dev w d) (hn : 16 ≤ d.n) :
    Calls Tryz.prog 80 #[dp v] w fun e w' => e = .returned (.int .i64 ((1 + nbOf d.n : Nat) : Int)) ∧ w' = w := by
  have c9 := vBlocks v commits turn next f count d w h hd hn
  have hle := hd.hn
  have c16 := homeOf_any (nbOf d.n) w (by unfold nbOf; omega)
  clear h hd
  go_enter Tryz.func80, Tryz.ntmps80
  go_wp2_with (first | (go_at_call 98; refine Calls_on c9 ?_) | (go_at_call 97; refine Calls_on c16 ?_))
  go_ret
  exact ⟨rfl, rfl⟩

set_option maxRecDepth 8000 in
set_option maxHeartbeats 400000 in
theorem checkRoom_yes (v : Nat) (commits turn next : Nat) (f : Option Nat) (count : Int) (d : DS) (w : World) (h : IsVol w v (dp d.a) commits turn next f count) (hd : Dev w d) (hn : 16 ≤ d.n) :
    Calls Tryz.prog 50 #[dp v] w fun e w' => e = .returned (.int .i64 0) ∧ w' = w := by
  have c31 := dev_blocks d w hd
  have h0 := cellOf h 0
  simp [volCells] at h0
  have hnI : ¬ (d.n : Int) < 16 := by omega
  clear h hd
  go_enter Tryz.func50, Tryz.ntmps50
  go_wp2_with (go_at_call 69; refine Calls_on c31 ?_)
  go_ret
  exact ⟨rfl, rfl⟩

set_option maxRecDepth 8000 in
set_option maxHeartbeats 400000 in
theorem checkLife (v : Nat) (commits turn next : Nat) (f : Option Nat) (count : Int) (d : DS) (w : World) (h : IsVol w v (dp d.a) commits turn next f count) (hd : Dev w d) :
    Calls Tryz.prog 55 #[dp v] w fun e w' => e = .returned (.int .i64 (if d.dead then 5 else 0)) ∧ w' = w := by
  have c36 := dev_dead d w hd
  have h0 := cellOf h 0
  simp [volCells] at h0
  clear h hd
  cases hx : d.dead
  · rw [hx] at c36
    clear hx
    go_enter Tryz.func55, Tryz.ntmps55
    go_wp2_with (go_at_call 71; refine Calls_on c36 ?_)
    go_ret
    exact ⟨rfl, rfl⟩
  · rw [hx] at c36
    clear hx
    go_enter Tryz.func55, Tryz.ntmps55
    go_wp2_with (go_at_call 71; refine Calls_on c36 ?_)
    go_ret
    exact ⟨rfl, rfl⟩

theorem Dev.drewN {w : World} {d : DS} (h : Dev w d) : ∀ k, Dev (w.drewN k) d := fun _ => ⟨h.dev, h.row, h.own, h.aNs, h.hn1, h.hn, h.len, h.cnt, h.nnc, h.fuse⟩

set_option maxRecDepth 8000 in
set_option maxHeartbeats 400000 in
theorem catchUp_idle (v : Nat) (commits turn next : Nat) (f : Option Nat) (d : DS) (w : World) (h : IsVol w v (dp d.a) commits turn next f d.count) (hd : Dev w d) :
    Calls Tryz.prog 123 #[dp v] w fun e w' => e = .returned (.tuple #[]) ∧ ∃ k, w' = w.drewN k := by
  have c23 := fun k => dev_count d (w.drewN k) (hd.drewN k)
  have h0 := cellOf h 0
  have h5 := cellOf h 5
  simp [volCells] at h0 h5
  have hq : (d.count == d.count) = true := by simp
  clear h hd
  go_enter Tryz.func123, Tryz.ntmps123
  go_wp2_with fail
  go_quiet ((go_at_call 59; exact Calls.quiet_of_same (c23 _)))
  go_wp2
  first | go_end0 | refine bodyPost_ret (results_none rfl _ _ _) rfl ?_
  exact ⟨rfl, _, rfl⟩

set_option maxRecDepth 8000 in
set_option maxHeartbeats 400000 in
theorem isCount_yes (n : Nat) (w : World) (hn : n < 4611686018427387904) : Calls Tryz.prog 78 #[.int .i64 n] w fun e w' => e = .returned (.bool true) ∧ w' = w := by
  have h1 : ¬ (n : Int) < 0 := by omega
  have h2 : (n : Int) < 4611686018427387904 := by omega
  go_enter Tryz.func78, Tryz.ntmps78
  go_wp2
  go_ret
  exact ⟨rfl, rfl⟩

set_option maxRecDepth 8000 in
set_option maxHeartbeats 400000 in
theorem pagesFor_any (k : Nat) (w : World) (hk : k < 1000000000) : Calls Tryz.prog 100 #[.int .i64 k] w fun e w' => e = .returned (.int .i64 (pagesFor k)) ∧ w' = w := by
  obtain ⟨q, hq⟩ : ∃ q, pagesFor k = q := ⟨_, rfl⟩
  have e1 : (8 + (k : Int) * 520 + 496 - 1) / 496 = (q : Int) := by rw [← hq]; unfold pagesFor; omega
  have e2 : Int.tdiv (8 + (k : Int) * 520 + 496 - 1) 496 = (q : Int) := by rw [Int.tdiv_eq_ediv_of_nonneg (by omega)]; exact e1
  rw [hq]
  go_enter Tryz.func100, Tryz.ntmps100
  go_wp2
  go_ret
  exact ⟨rfl, rfl⟩

set_option maxRecDepth 8000 in
set_option maxHeartbeats 400000 in
/-- settle where no block is loose. -/
theorem settle_none (v : Nat) (commits turn next : Nat) (f : Option Nat) (count : Int) (d : DS) (w : World) (h : IsVol w v (dp d.a) commits turn next f count) (hd : Dev w d) (hD : d.D = .map []) :
    Calls Tryz.prog 58 #[dp v] w fun e w' => e = .returned (.int .i64 0) ∧ Below w.heap.size w w' := by
  have c44 := dev_loose_none d w hd hD
  have h0 := cellOf h 0
  simp [volCells] at h0
  clear h hd hD
  go_enter Tryz.func58, Tryz.ntmps58
  go_wp2_with (go_at_call 83; refine c44.mono ?_; rintro e w1 ⟨p1, cc1, rfl, hB1⟩; clear c44)
  go_ret
  exact ⟨rfl, hB1⟩

end Go.Proofs.YtebdgcoandfocaaGreatDoor
