/-
  An operation in memory; the small functions over operations, both sides.
-/
import Derived.Test.YteimjkicinjcgaaKOa

namespace Go.Proofs.Yteimjkicinjcgaa.Cd
open Go.RowKit

attribute [local go_sem] Oper.semAt_some

/-- What lies in a block of an operation. -/
def OpB (W : World) (g : Nat) (t n sq kd ot on pt pn : Int) (nm : List UInt8) (p q : Option Addr) (l c m d : Nat) : Prop := W.heap[g]? = some (.cells #[.int .i64 t, .int .i64 n, .int .i64 sq, .int .i64 kd, .int .i64 ot, .int .i64 on, .int .i64 pt, .int .i64 pn, .string (bas nm), .slice p l c, .slice q m d] 35 (0, 0))
theorem OpB.lt {W : World} {g : Nat} {t n sq kd ot on pt pn : Int} {nm : List UInt8} {p q : Option Addr} {l c m d : Nat} (h : OpB W g t n sq kd ot on pt pn nm p q l c m d) : g < W.heap.size := block_lt h
theorem OpB.below {W W' : World} {g : Nat} {t n sq kd ot on pt pn : Int} {nm : List UInt8} {p q : Option Addr} {l c m d : Nat} (h : OpB W g t n sq kd ot on pt pn nm p q l c m d) (hb : Below W.heap.size W W') : OpB W' g t n sq kd ot on pt pn nm p q l c m d := (hb.block g h.lt).trans h
theorem OpB.made (w : World) (t n sq kd ot on pt pn : Int) (nm : List UInt8) (p q : Option Addr) (l c m d : Nat) : OpB (w.alloc (.cells #[.int .i64 t, .int .i64 n, .int .i64 sq, .int .i64 kd, .int .i64 ot, .int .i64 on, .int .i64 pt, .int .i64 pn, .string (bas nm), .slice p l c, .slice q m d] 35)) w.heap.size t n sq kd ot on pt pn nm p q l c m d := heap_alloc_new w _
theorem OpB.next (w : World) (o : Obj) (t n sq kd ot on pt pn : Int) (nm : List UInt8) (p q : Option Addr) (l c m d : Nat) : OpB ((w.alloc o).alloc (.cells #[.int .i64 t, .int .i64 n, .int .i64 sq, .int .i64 kd, .int .i64 ot, .int .i64 on, .int .i64 pt, .int .i64 pn, .string (bas nm), .slice p l c, .slice q m d] 35)) (w.heap.size + 1) t n sq kd ot on pt pn nm p q l c m d := by
  have := OpB.made (w.alloc o) t n sq kd ot on pt pn nm p q l c m d
  rwa [show (w.alloc o).heap.size = w.heap.size + 1 by simp] at this
theorem OpB.cells {W : World} {g : Nat} {t n sq kd ot on pt pn : Int} {nm : List UInt8} {p q : Option Addr} {l c m d : Nat} (h : OpB W g t n sq kd ot on pt pn nm p q l c m d) :
    W.cell? ⟨g, 0, none⟩ = some (.int .i64 t) ∧ W.cell? ⟨g, 1, none⟩ = some (.int .i64 n) ∧ W.cell? ⟨g, 2, none⟩ = some (.int .i64 sq) ∧ W.cell? ⟨g, 3, none⟩ = some (.int .i64 kd) ∧ W.cell? ⟨g, 4, none⟩ = some (.int .i64 ot) ∧ W.cell? ⟨g, 5, none⟩ = some (.int .i64 on) ∧ W.cell? ⟨g, 6, none⟩ = some (.int .i64 pt) ∧ W.cell? ⟨g, 7, none⟩ = some (.int .i64 pn) ∧ W.cell? ⟨g, 8, none⟩ = some (.string (bas nm)) ∧ W.cell? ⟨g, 9, none⟩ = some (.slice p l c) ∧ W.cell? ⟨g, 10, none⟩ = some (.slice q m d) :=
  ⟨cellOf h 0, cellOf h 1, cellOf h 2, cellOf h 3, cellOf h 4, cellOf h 5, cellOf h 6, cellOf h 7, cellOf h 8, cellOf h 9, cellOf h 10⟩
/-- A callee that makes new memory alone, met at its call. -/
theorem Calls_new {f : Nat} {args : Array Value} {w : World} {v : Ending} {K : Ending → World → Prop} (h : Calls Try.prog f args w fun e w' => e = v ∧ Below w.heap.size w w')
    (hk : ∀ w', Hid (Below w.heap.size w w') → K v w') : Calls Try.prog f args w K :=
  h.mono (by rintro e w' ⟨rfl, hb⟩; exact hk w' hb)

theorem root_any (w : World) : Calls Try.prog 81 #[] w fun e w' => e = .returned (.agg #[.int .i64 0, .int .i64 0]) ∧ Below w.heap.size w w' := by
  go_enter Try.func81, Try.ntmps81
  go_wp2
  refine bodyPost_ret (v := .agg #[.int .i64 0, .int .i64 0]) (by simp [results, Try.results81, go_sem]) rfl ?_
  exact ⟨rfl, (below_new w _).out⟩
theorem trash_any (w : World) : Calls Try.prog 67 #[] w fun e w' => e = .returned (.agg #[.int .i64 0, .int .i64 1]) ∧ Below w.heap.size w w' := by
  go_enter Try.func67, Try.ntmps67
  go_wp2
  refine bodyPost_ret (v := .agg #[.int .i64 0, .int .i64 1]) (by simp [results, Try.results67, go_sem]) rfl ?_
  exact ⟨rfl, (below_new w _).out⟩

abbrev idv (t n : Int) : Value := .agg #[.int .i64 t, .int .i64 n]
def olderB (t n t' n' : Int) : Bool := Ck.validB t n && Ck.lessB t n t' n'
def placedB (nm : List UInt8) (l : Nat) : Bool := decide (nameN nm = 0) && decide (l = 0)

set_option maxRecDepth 8000 in
set_option maxHeartbeats 1000000 in
theorem earlier_any (it ii : Int) (t n sq kd ot on pt pn : Int) (nm : List UInt8) (p q : Option Addr) (l c m d : Nat) (w : World) :
    Calls Try.prog 66 #[idv it ii, .agg #[.int .i64 t, .int .i64 n, .int .i64 sq, .int .i64 kd, .int .i64 ot, .int .i64 on, .int .i64 pt, .int .i64 pn, .string (bas nm), .slice p l c, .slice q m d]] w fun e w' => e = .returned (.bool (olderB it ii t n)) ∧ Below w.heap.size w w' := by
  obtain ⟨ob, hob⟩ : ∃ ob, ob = Obj.cells #[.int .i64 it, .int .i64 ii] 30 := ⟨_, rfl⟩
  obtain ⟨oc, hoc⟩ : ∃ oc, oc = Obj.cells #[.int .i64 t, .int .i64 n, .int .i64 sq, .int .i64 kd, .int .i64 ot, .int .i64 on, .int .i64 pt, .int .i64 pn, .string (bas nm), .slice p l c, .slice q m d] 35 := ⟨_, rfl⟩
  have B0 : Hid (Below w.heap.size w ((w.alloc ob).alloc oc)) := ((Below.refl _ _).alloc (Nat.le_refl _) _).alloc (by simp) _
  have hi : ((w.alloc ob).alloc oc).heap[w.heap.size]? = some (.cells #[.int .i64 it, .int .i64 ii] 30 (0, 0)) := by rw [Below.heap_alloc _ _ _ (by simp), hob]; exact heap_alloc_new w _
  have ho : OpB ((w.alloc ob).alloc oc) (w.heap.size + 1) t n sq kd ot on pt pn nm p q l c m d := by rw [hoc]; exact OpB.next _ _ t n sq kd ot on pt pn nm p q l c m d
  have HI : Hid (((w.alloc ob).alloc oc).heap[w.heap.size]? = some (.cells #[.int .i64 it, .int .i64 ii] 30 (0, 0))) := hi
  have HO : Hid (OpB ((w.alloc ob).alloc oc) (w.heap.size + 1) t n sq kd ot on pt pn nm p q l c m d) := ho
  have c1 := fun W => Ck.valid_any it ii W
  have c2 := fun W => Ck.less_any it ii t n W
  have tok : True := trivial
  cases hv : Ck.validB it ii with
  | true =>
    have HE : Hid (olderB it ii t n = Ck.lessB it ii t n) := by show _ = _; simp [olderB, hv]
    rw [hv] at c1
    clear hv hi ho
    subst hob; subst hoc
    go_enter Try.func66, Try.ntmps66
    go_wp2_with (first | (go_at_call 47; have tk := tok; refine Calls_new (c1 _) ?_; clear tk tok; intro w2 hb; have i0 : w2.cell? ⟨w.heap.size, 0, none⟩ = some (.int .i64 it) := cellOf ((hb.out.block _ (block_lt HI.out)).trans HI.out) 0; have i1 : w2.cell? ⟨w.heap.size, 1, none⟩ = some (.int .i64 ii) := cellOf ((hb.out.block _ (block_lt HI.out)).trans HI.out) 1; have c0 : w2.cell? ⟨w.heap.size + 1, 0, none⟩ = some (.int .i64 t) := cellOf (HO.out.below hb.out) 0; have c1' : w2.cell? ⟨w.heap.size + 1, 1, none⟩ = some (.int .i64 n) := cellOf (HO.out.below hb.out) 1) | (go_at_call 83; refine Calls_new (c2 _) ?_; intro w3 hb3))
    go_ret
    rw [HE.out]
    exact ⟨rfl, (B0.out.trans (hb.out.mono B0.out.size)).trans (hb3.out.mono (Nat.le_trans B0.out.size hb.out.size))⟩
  | false =>
    have HE : Hid (olderB it ii t n = false) := by show _ = _; simp [olderB, hv]
    rw [hv] at c1
    clear hv hi ho
    subst hob; subst hoc
    go_enter Try.func66, Try.ntmps66
    go_wp2_with (go_at_call 47; refine Calls_new (c1 _) ?_; intro w2 hb)
    go_ret
    rw [HE.out]
    exact ⟨rfl, B0.out.trans (hb.out.mono B0.out.size)⟩

set_option maxRecDepth 8000 in
set_option maxHeartbeats 1000000 in
theorem placed_any (t n sq kd ot on pt pn : Int) (nm : List UInt8) (p q : Option Addr) (l c m d : Nat) (w : World) (hs : nm.length < 1000000000000000) :
    Calls Try.prog 65 #[.agg #[.int .i64 t, .int .i64 n, .int .i64 sq, .int .i64 kd, .int .i64 ot, .int .i64 on, .int .i64 pt, .int .i64 pn, .string (bas nm), .slice p l c, .slice q m d]] w fun e w' => e = .returned (.bool (placedB nm l)) ∧ Below w.heap.size w w' := by
  have B0 : Hid (∀ o, Below w.heap.size w (w.alloc o)) := fun o => (below_new w o).out
  have c1 := fun W => name_any nm W hs
  obtain ⟨x, hx⟩ : ∃ x, nameN nm = x := ⟨_, rfl⟩
  rw [hx] at c1
  have HE : Hid (placedB nm l = (decide (x = 0) && decide (l = 0))) := by show _ = _; rw [← hx]; rfl
  clear hx
  by_cases h0 : x = 0
  · subst h0
    by_cases h1 : l = 0
    · subst h1
      go_enter Try.func65, Try.ntmps65
      go_wp2_with (go_at_call 82; refine Calls_on (c1 _) ?_)
      go_ret
      rw [HE.out]
      exact ⟨rfl, B0.out _⟩
    · have h1I : ¬ (l : Int) = 0 := by omega
      go_enter Try.func65, Try.ntmps65
      go_wp2_with (go_at_call 82; refine Calls_on (c1 _) ?_)
      go_ret
      rw [HE.out]
      exact ⟨by simp [h1], B0.out _⟩
  · go_enter Try.func65, Try.ntmps65
    go_wp2_with (go_at_call 82; refine Calls_on (c1 _) ?_)
    go_ret
    rw [HE.out]
    exact ⟨by simp [h0], B0.out _⟩

end Go.Proofs.Yteimjkicinjcgaa.Cd
