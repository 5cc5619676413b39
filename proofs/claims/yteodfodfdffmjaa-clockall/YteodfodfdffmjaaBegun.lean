/-
  begun of the law's package: some stamps are told.
-/
import Derived.Test.YteodfodfdffmjaaNxr
namespace Go.Proofs.Yteodfodfdffmjaa
open Go.RowKit

theorem first_next {w : World} {a : Nat} (h : Clk 49 w a 3 5 6) : Calls Try.prog 15 #[.pointer (some ⟨a, 0, none⟩)] w fun e w' => e = .returned (.tuple #[idv 6 3, .bool false, .int .i64 0]) ∧ Clk 49 w' a 3 6 6 ∧ Only (· = a) w w' :=
  (next_any a 3 5 6 w h (by unfold Fit; omega)).mono fun e w' ⟨he, hc, ho⟩ => ⟨he.trans rfl, hc, ho⟩
theorem second_next {w : World} {a : Nat} (h : Clk 49 w a 3 6 6) : Calls Try.prog 15 #[.pointer (some ⟨a, 0, none⟩)] w fun e w' => e = .returned (.tuple #[idv 7 3, .bool true, .int .i64 0]) ∧ Clk 49 w' a 3 7 4103 ∧ Only (· = a) w w' :=
  (next_any a 3 6 6 w h (by unfold Fit; omega)).mono fun e w' ⟨he, hc, ho⟩ => ⟨he.trans rfl, hc, ho⟩

/-- A stamp lies in block g. -/
def Idb (w : World) (g : Nat) (t n : Int) : Prop := w.heap[g]? = some (.cells #[.int .i64 t, .int .i64 n] 23 (0, 0))
theorem Idb.lt {w : World} {g : Nat} {t n : Int} (h : Idb w g t n) : g < w.heap.size := block_lt h
theorem Idb.keep {S : Nat → Prop} {w w' : World} {g : Nat} {t n : Int} (h : Idb w g t n) (ho : Only S w w') (hn : ¬ S g) : Idb w' g t n := (ho.block g h.lt hn).trans h
theorem Idb.below {w w' : World} {g : Nat} {t n : Int} (h : Idb w g t n) (hb : Below w.heap.size w w') : Idb w' g t n := (hb.block g h.lt).trans h
theorem Idb.cell0 {w : World} {g : Nat} {t n : Int} (h : Idb w g t n) : w.cell? ⟨g, 0, none⟩ = some (.int .i64 t) := cellOf h 0
theorem Idb.cell1 {w : World} {g : Nat} {t n : Int} (h : Idb w g t n) : w.cell? ⟨g, 1, none⟩ = some (.int .i64 n) := cellOf h 1

set_option maxRecDepth 8000 in
set_option maxHeartbeats 1000000 in
theorem begun_any (w : World) : Calls Try.prog 6 #[] w fun e w' => e = .returned (.bool true) ∧ Below w.heap.size w w' := by
  have c12 := new_clk 3 5 6 w rfl
  go_enter Try.func6, Try.ntmps6
  go_wp2_with fail
  refine c12.mono ?_
  rintro e w1 ⟨rfl, h1, hB1⟩
  have c15 := first_next h1
  have HB1 : Hid (Below w.heap.size w w1) := hB1
  have hlt1 : w.heap.size < w1.heap.size := h1.lt
  clear c12 h1 hB1
  go_wp2_with fail
  refine c15.mono ?_
  rintro e w2 ⟨rfl, h2, o2⟩
  obtain ⟨w3, hw3⟩ : ∃ w3, w3 = w2.alloc (.cells #[.int .i64 6, .int .i64 3] 23) := ⟨_, rfl⟩
  have hB3 : Below w2.heap.size w2 w3 := by rw [hw3]; exact (below_new _ _).out
  have i3 : Idb w3 w2.heap.size 6 3 := by rw [hw3]; exact heap_alloc_new w2 _
  have h3 := h2.below hB3
  have hne : w2.heap.size ≠ w.heap.size := by have := h2.lt; omega
  have HO3 : Hid (Only (· = w.heap.size) w1 w3) := o2.next (Below.only hB3 _)
  have c15 := second_next h3
  clear h2 o2 hB3 h3
  go_wp2_with fail
  rw [← hw3]
  refine c15.mono ?_
  rintro e w4 ⟨rfl, h4, o4⟩
  clear hw3
  obtain ⟨w5, hw5⟩ : ∃ w5, w5 = w4.alloc (.cells #[.int .i64 7, .int .i64 3] 23) := ⟨_, rfl⟩
  have hB5 : Below w4.heap.size w4 w5 := by rw [hw5]; exact (below_new _ _).out
  have i4 := i3.keep o4 hne
  have i5 := i4.below hB5
  have j5 : Idb w5 w4.heap.size 7 3 := by rw [hw5]; exact heap_alloc_new w4 _
  have hs4 : w2.heap.size < w4.heap.size := i4.lt
  have HO5 : Hid (Only (· = w.heap.size) w1 w5) := (HO3.out.next o4).next (Below.only hB5 _)
  have c19 := lease_any w.heap.size 3 7 4103 w5 (h4.below hB5)
  have c9 : ∀ W, Calls Try.prog 9 #[idv 6 3, idv 7 3] W fun e w' => e = .returned (.bool true) ∧ Below W.heap.size W w' := fun W => less_any 6 3 7 3 W
  have c10 : ∀ W, Calls Try.prog 10 #[idv 6 3] W fun e w' => e = .returned (.bool true) ∧ Below W.heap.size W w' := fun W => valid_any 6 3 W
  have a0 := i5.cell0
  have a1 := i5.cell1
  have b0 := j5.cell0
  have b1 := j5.cell1
  have d0 := i4.cell0
  have d1 := i4.cell1
  have I5 : Hid (Idb w5 w2.heap.size 6 3) := i5
  clear c15 h4 o4 hB5 i3 i4 i5 j5
  go_wp2_with (first
    | (go_at_call 19; rw [← hw5]; refine Calls_on c19 ?_; clear hw5)
    | (go_at_call 9; refine Calls_new (c9 _) ?_; intro w6 HB6; have m0 := (I5.out.below HB6.out).cell0; have m1 := (I5.out.below HB6.out).cell1)
    | (go_at_call 10; refine Calls_new (c10 _) ?_; intro w7 HB7))
  go_ret
  have h7 : Only (· = w.heap.size) w1 w7 := (HO5.out.next (Below.only HB6.out _)).next (Below.only HB7.out _)
  exact ⟨rfl, HB1.out.trans (h7.below HB1.out.size (fun i hi => by omega))⟩

end Go.Proofs.Yteodfodfdffmjaa
