/-
  Short and Cut of the laws; the drawn regions of OpCode.
-/
import Derived.Test.YtegjageenofbjaaGreatOq
import Derived.Test.YtegjageenofbjaaGreatOk
namespace Go.Proofs.YtegjageenofbjaaGreat.Cd
open Go.RowKit Go.Maps

attribute [local go_sem] Oper.semAt_some


set_option maxRecDepth 8000 in
set_option maxHeartbeats 400000 in
theorem short_le (p : Option Addr) (l c : Nat) (n : Nat) (w : World) (h : l ≤ n) :
    Calls Tryz.prog 16 #[.slice p l c, .int .i64 n] w fun e w' => e = .returned (.slice p l c) ∧ w' = w := by
  have hI : ¬ (n : Int) < l := by omega
  go_enter Tryz.func16, Tryz.ntmps16
  go_wp2
  go_ret
  exact ⟨rfl, rfl⟩

set_option maxRecDepth 8000 in
set_option maxHeartbeats 400000 in
theorem short_gt (g o : Nat) (l c : Nat) (n : Nat) (w : World) (h : n < l) (hn : n < 1000000) (hc : l ≤ c) :
    Calls Tryz.prog 16 #[.slice (some ⟨g, o, none⟩) l c, .int .i64 n] w fun e w' => e = .returned (.slice (some ⟨g, o, none⟩) n c) ∧ w' = w := by
  have hI : (n : Int) < l := by omega
  go_enter Tryz.func16, Tryz.ntmps16
  go_wp2
  go_ret
  exact ⟨rfl, rfl⟩

theorem short_any (p : Option Addr) (bs : List (BitVec 8)) (c n : Nat) (w : World) (hc : bs.length ≤ c) (hn6 : n < 1000000) (hb : Bytes w p bs) :
    (Calls Tryz.prog 16 #[.slice p bs.length c, .int .i64 n] w fun e w' => e = .returned (.slice p (bs.take n).length c) ∧ w' = w) ∧ Bytes w p (bs.take n) ∧ (bs.take n).length ≤ c ∧ (bs.take n).length ≤ n := by
  refine ⟨?_, bytes_take hb n, by simp; omega, by simp; omega⟩
  by_cases h : bs.length ≤ n
  · rw [List.take_of_length_le h]
    exact short_le p bs.length c n w h
  · obtain ⟨g, o, rfl, _⟩ := hb (by omega)
    rw [List.length_take, Nat.min_eq_left (by omega)]
    exact short_gt g o bs.length c n w (by omega) hn6 hc


/-- An operation of which some is cut off. -/
def Opn.cut (o : Opn) : Opn := { o with nm := o.nm.take 100, data := o.data.take 3000, ns := Vc.cut o.ns }

set_option maxRecDepth 8000 in
set_option maxHeartbeats 4000000 in
theorem cut12_any (t n sq kd ot on pt pn : Int) (nm : List UInt8) (p q : Option Addr) (l c m d : Nat) (data : List (BitVec 8)) (ns : List Int) (w : World) (hl : l = data.length) (hlc : data.length ≤ c) (hm : m = ns.length) (hmd : ns.length ≤ d) (hml : ns.length ≤ maxLen) (hp : Bytes w p data) :
    Calls Tryz.prog 6 #[.agg #[.int .i64 t, .int .i64 n, .int .i64 sq, .int .i64 kd, .int .i64 ot, .int .i64 on, .int .i64 pt, .int .i64 pn, .string (bas nm), .slice p l c, .slice q m d]] w fun e w' => e = .returned (.agg #[.int .i64 t, .int .i64 n, .int .i64 sq, .int .i64 kd, .int .i64 ot, .int .i64 on, .int .i64 pt, .int .i64 pn, .string (bas (nm.take 100)), .slice p (data.take 3000).length c, .slice q (Vc.cut ns).length d]) ∧ Below w.heap.size w w' := by
  have B0 : Below w.heap.size w ((w.alloc (.cells #[.int .i64 t, .int .i64 n, .int .i64 sq, .int .i64 kd, .int .i64 ot, .int .i64 on, .int .i64 pt, .int .i64 pn, .string (bas nm), .slice p l c, .slice q m d] 28)).alloc (.cells #[.int .i64 0, .int .i64 0, .int .i64 0, .int .i64 0, .int .i64 0, .int .i64 0, .int .i64 0, .int .i64 0, .string ⟨#[]⟩, .slice none 0 0, .slice none 0 0] 28)) := ((Below.refl _ _).alloc (Nat.le_refl _) _).alloc (by simp) _
  have H1 : ((w.alloc (.cells #[.int .i64 t, .int .i64 n, .int .i64 sq, .int .i64 kd, .int .i64 ot, .int .i64 on, .int .i64 pt, .int .i64 pn, .string (bas nm), .slice p l c, .slice q m d] 28)).alloc (.cells #[.int .i64 0, .int .i64 0, .int .i64 0, .int .i64 0, .int .i64 0, .int .i64 0, .int .i64 0, .int .i64 0, .string ⟨#[]⟩, .slice none 0 0, .slice none 0 0] 28)).heap[w.heap.size]? = some (.cells #[.int .i64 t, .int .i64 n, .int .i64 sq, .int .i64 kd, .int .i64 ot, .int .i64 on, .int .i64 pt, .int .i64 pn, .string (bas nm), .slice p l c, .slice q m d] 28 (0, 0)) := by rw [Below.heap_alloc _ _ _ (by simp)]; exact heap_alloc_new w _
  have H2 : ((w.alloc (.cells #[.int .i64 t, .int .i64 n, .int .i64 sq, .int .i64 kd, .int .i64 ot, .int .i64 on, .int .i64 pt, .int .i64 pn, .string (bas nm), .slice p l c, .slice q m d] 28)).alloc (.cells #[.int .i64 0, .int .i64 0, .int .i64 0, .int .i64 0, .int .i64 0, .int .i64 0, .int .i64 0, .int .i64 0, .string ⟨#[]⟩, .slice none 0 0, .slice none 0 0] 28)).heap[w.heap.size + 1]? = some (.cells #[.int .i64 0, .int .i64 0, .int .i64 0, .int .i64 0, .int .i64 0, .int .i64 0, .int .i64 0, .int .i64 0, .string ⟨#[]⟩, .slice none 0 0, .slice none 0 0] 28 (0, 0)) := by
    have := heap_alloc_new (w.alloc (.cells #[.int .i64 t, .int .i64 n, .int .i64 sq, .int .i64 kd, .int .i64 ot, .int .i64 on, .int .i64 pt, .int .i64 pn, .string (bas nm), .slice p l c, .slice q m d] 28)) (.cells #[.int .i64 0, .int .i64 0, .int .i64 0, .int .i64 0, .int .i64 0, .int .i64 0, .int .i64 0, .int .i64 0, .string ⟨#[]⟩, .slice none 0 0, .slice none 0 0] 28)
    rwa [show (w.alloc (.cells #[.int .i64 t, .int .i64 n, .int .i64 sq, .int .i64 kd, .int .i64 ot, .int .i64 on, .int .i64 pt, .int .i64 pn, .string (bas nm), .slice p l c, .slice q m d] 28)).heap.size = w.heap.size + 1 by simp] at this
  obtain ⟨cS, _⟩ := short_any p data c 3000 ((w.alloc (.cells #[.int .i64 t, .int .i64 n, .int .i64 sq, .int .i64 kd, .int .i64 ot, .int .i64 on, .int .i64 pt, .int .i64 pn, .string (bas nm), .slice p l c, .slice q m d] 28)).alloc (.cells #[.int .i64 0, .int .i64 0, .int .i64 0, .int .i64 0, .int .i64 0, .int .i64 0, .int .i64 0, .int .i64 0, .string ⟨#[]⟩, .slice none 0 0, .slice none 0 0] 28)) hlc (by decide) (below_bytes B0 hp)
  have cC := fun W => Vc.cut_any q ns d W hmd hml
  rw [← hl] at cS
  rw [← hm] at cC
  obtain ⟨l1, hl1⟩ : ∃ l1, (data.take 3000).length = l1 := ⟨_, rfl⟩
  obtain ⟨m1, hm1⟩ : ∃ m1, (Vc.cut ns).length = m1 := ⟨_, rfl⟩
  rw [hl1] at cS
  rw [hm1] at cC
  rw [hl1, hm1]
  have HO : Hid (Below w.heap.size w ((w.alloc (.cells #[.int .i64 t, .int .i64 n, .int .i64 sq, .int .i64 kd, .int .i64 ot, .int .i64 on, .int .i64 pt, .int .i64 pn, .string (bas nm), .slice p l c, .slice q m d] 28)).alloc (.cells #[.int .i64 0, .int .i64 0, .int .i64 0, .int .i64 0, .int .i64 0, .int .i64 0, .int .i64 0, .int .i64 0, .string ⟨#[]⟩, .slice none 0 0, .slice none 0 0] 28)) ∧ ((w.alloc (.cells #[.int .i64 t, .int .i64 n, .int .i64 sq, .int .i64 kd, .int .i64 ot, .int .i64 on, .int .i64 pt, .int .i64 pn, .string (bas nm), .slice p l c, .slice q m d] 28)).alloc (.cells #[.int .i64 0, .int .i64 0, .int .i64 0, .int .i64 0, .int .i64 0, .int .i64 0, .int .i64 0, .int .i64 0, .string ⟨#[]⟩, .slice none 0 0, .slice none 0 0] 28)).heap[w.heap.size]? = some (.cells #[.int .i64 t, .int .i64 n, .int .i64 sq, .int .i64 kd, .int .i64 ot, .int .i64 on, .int .i64 pt, .int .i64 pn, .string (bas nm), .slice p l c, .slice q m d] 28 (0, 0)) ∧ ((w.alloc (.cells #[.int .i64 t, .int .i64 n, .int .i64 sq, .int .i64 kd, .int .i64 ot, .int .i64 on, .int .i64 pt, .int .i64 pn, .string (bas nm), .slice p l c, .slice q m d] 28)).alloc (.cells #[.int .i64 0, .int .i64 0, .int .i64 0, .int .i64 0, .int .i64 0, .int .i64 0, .int .i64 0, .int .i64 0, .string ⟨#[]⟩, .slice none 0 0, .slice none 0 0] 28)).heap[w.heap.size + 1]? = some (.cells #[.int .i64 0, .int .i64 0, .int .i64 0, .int .i64 0, .int .i64 0, .int .i64 0, .int .i64 0, .int .i64 0, .string ⟨#[]⟩, .slice none 0 0, .slice none 0 0] 28 (0, 0))) := ⟨B0, H1, H2⟩
  have hsz := bas_size nm
  clear hl1 hm1 hl hlc hm hmd hml hp
  have ⟨x0, x1, x2, x3, x4, x5, x6, x7, x8, x9, x10⟩ : ((w.alloc (.cells #[.int .i64 t, .int .i64 n, .int .i64 sq, .int .i64 kd, .int .i64 ot, .int .i64 on, .int .i64 pt, .int .i64 pn, .string (bas nm), .slice p l c, .slice q m d] 28)).alloc (.cells #[.int .i64 0, .int .i64 0, .int .i64 0, .int .i64 0, .int .i64 0, .int .i64 0, .int .i64 0, .int .i64 0, .string ⟨#[]⟩, .slice none 0 0, .slice none 0 0] 28)).cell? ⟨w.heap.size, 0, none⟩ = some (.int .i64 t) ∧ ((w.alloc (.cells #[.int .i64 t, .int .i64 n, .int .i64 sq, .int .i64 kd, .int .i64 ot, .int .i64 on, .int .i64 pt, .int .i64 pn, .string (bas nm), .slice p l c, .slice q m d] 28)).alloc (.cells #[.int .i64 0, .int .i64 0, .int .i64 0, .int .i64 0, .int .i64 0, .int .i64 0, .int .i64 0, .int .i64 0, .string ⟨#[]⟩, .slice none 0 0, .slice none 0 0] 28)).cell? ⟨w.heap.size, 1, none⟩ = some (.int .i64 n) ∧ ((w.alloc (.cells #[.int .i64 t, .int .i64 n, .int .i64 sq, .int .i64 kd, .int .i64 ot, .int .i64 on, .int .i64 pt, .int .i64 pn, .string (bas nm), .slice p l c, .slice q m d] 28)).alloc (.cells #[.int .i64 0, .int .i64 0, .int .i64 0, .int .i64 0, .int .i64 0, .int .i64 0, .int .i64 0, .int .i64 0, .string ⟨#[]⟩, .slice none 0 0, .slice none 0 0] 28)).cell? ⟨w.heap.size, 2, none⟩ = some (.int .i64 sq) ∧ ((w.alloc (.cells #[.int .i64 t, .int .i64 n, .int .i64 sq, .int .i64 kd, .int .i64 ot, .int .i64 on, .int .i64 pt, .int .i64 pn, .string (bas nm), .slice p l c, .slice q m d] 28)).alloc (.cells #[.int .i64 0, .int .i64 0, .int .i64 0, .int .i64 0, .int .i64 0, .int .i64 0, .int .i64 0, .int .i64 0, .string ⟨#[]⟩, .slice none 0 0, .slice none 0 0] 28)).cell? ⟨w.heap.size, 3, none⟩ = some (.int .i64 kd) ∧ ((w.alloc (.cells #[.int .i64 t, .int .i64 n, .int .i64 sq, .int .i64 kd, .int .i64 ot, .int .i64 on, .int .i64 pt, .int .i64 pn, .string (bas nm), .slice p l c, .slice q m d] 28)).alloc (.cells #[.int .i64 0, .int .i64 0, .int .i64 0, .int .i64 0, .int .i64 0, .int .i64 0, .int .i64 0, .int .i64 0, .string ⟨#[]⟩, .slice none 0 0, .slice none 0 0] 28)).cell? ⟨w.heap.size, 4, none⟩ = some (.int .i64 ot) ∧ ((w.alloc (.cells #[.int .i64 t, .int .i64 n, .int .i64 sq, .int .i64 kd, .int .i64 ot, .int .i64 on, .int .i64 pt, .int .i64 pn, .string (bas nm), .slice p l c, .slice q m d] 28)).alloc (.cells #[.int .i64 0, .int .i64 0, .int .i64 0, .int .i64 0, .int .i64 0, .int .i64 0, .int .i64 0, .int .i64 0, .string ⟨#[]⟩, .slice none 0 0, .slice none 0 0] 28)).cell? ⟨w.heap.size, 5, none⟩ = some (.int .i64 on) ∧ ((w.alloc (.cells #[.int .i64 t, .int .i64 n, .int .i64 sq, .int .i64 kd, .int .i64 ot, .int .i64 on, .int .i64 pt, .int .i64 pn, .string (bas nm), .slice p l c, .slice q m d] 28)).alloc (.cells #[.int .i64 0, .int .i64 0, .int .i64 0, .int .i64 0, .int .i64 0, .int .i64 0, .int .i64 0, .int .i64 0, .string ⟨#[]⟩, .slice none 0 0, .slice none 0 0] 28)).cell? ⟨w.heap.size, 6, none⟩ = some (.int .i64 pt) ∧ ((w.alloc (.cells #[.int .i64 t, .int .i64 n, .int .i64 sq, .int .i64 kd, .int .i64 ot, .int .i64 on, .int .i64 pt, .int .i64 pn, .string (bas nm), .slice p l c, .slice q m d] 28)).alloc (.cells #[.int .i64 0, .int .i64 0, .int .i64 0, .int .i64 0, .int .i64 0, .int .i64 0, .int .i64 0, .int .i64 0, .string ⟨#[]⟩, .slice none 0 0, .slice none 0 0] 28)).cell? ⟨w.heap.size, 7, none⟩ = some (.int .i64 pn) ∧ ((w.alloc (.cells #[.int .i64 t, .int .i64 n, .int .i64 sq, .int .i64 kd, .int .i64 ot, .int .i64 on, .int .i64 pt, .int .i64 pn, .string (bas nm), .slice p l c, .slice q m d] 28)).alloc (.cells #[.int .i64 0, .int .i64 0, .int .i64 0, .int .i64 0, .int .i64 0, .int .i64 0, .int .i64 0, .int .i64 0, .string ⟨#[]⟩, .slice none 0 0, .slice none 0 0] 28)).cell? ⟨w.heap.size, 8, none⟩ = some (.string (bas nm)) ∧ ((w.alloc (.cells #[.int .i64 t, .int .i64 n, .int .i64 sq, .int .i64 kd, .int .i64 ot, .int .i64 on, .int .i64 pt, .int .i64 pn, .string (bas nm), .slice p l c, .slice q m d] 28)).alloc (.cells #[.int .i64 0, .int .i64 0, .int .i64 0, .int .i64 0, .int .i64 0, .int .i64 0, .int .i64 0, .int .i64 0, .string ⟨#[]⟩, .slice none 0 0, .slice none 0 0] 28)).cell? ⟨w.heap.size, 9, none⟩ = some (.slice p l c) ∧ ((w.alloc (.cells #[.int .i64 t, .int .i64 n, .int .i64 sq, .int .i64 kd, .int .i64 ot, .int .i64 on, .int .i64 pt, .int .i64 pn, .string (bas nm), .slice p l c, .slice q m d] 28)).alloc (.cells #[.int .i64 0, .int .i64 0, .int .i64 0, .int .i64 0, .int .i64 0, .int .i64 0, .int .i64 0, .int .i64 0, .string ⟨#[]⟩, .slice none 0 0, .slice none 0 0] 28)).cell? ⟨w.heap.size, 10, none⟩ = some (.slice q m d) := ⟨cellOf H1 0, cellOf H1 1, cellOf H1 2, cellOf H1 3, cellOf H1 4, cellOf H1 5, cellOf H1 6, cellOf H1 7, cellOf H1 8, cellOf H1 9, cellOf H1 10⟩
  have f9 : ((w.alloc (.cells #[.int .i64 t, .int .i64 n, .int .i64 sq, .int .i64 kd, .int .i64 ot, .int .i64 on, .int .i64 pt, .int .i64 pn, .string (bas nm), .slice p l c, .slice q m d] 28)).alloc (.cells #[.int .i64 0, .int .i64 0, .int .i64 0, .int .i64 0, .int .i64 0, .int .i64 0, .int .i64 0, .int .i64 0, .string ⟨#[]⟩, .slice none 0 0, .slice none 0 0] 28)).frozen? ⟨w.heap.size, 9, none⟩ = false := frozenOf H1 9
  have f8 : ((w.alloc (.cells #[.int .i64 t, .int .i64 n, .int .i64 sq, .int .i64 kd, .int .i64 ot, .int .i64 on, .int .i64 pt, .int .i64 pn, .string (bas nm), .slice p l c, .slice q m d] 28)).alloc (.cells #[.int .i64 0, .int .i64 0, .int .i64 0, .int .i64 0, .int .i64 0, .int .i64 0, .int .i64 0, .int .i64 0, .string ⟨#[]⟩, .slice none 0 0, .slice none 0 0] 28)).frozen? ⟨w.heap.size, 8, none⟩ = false := frozenOf H1 8
  have f10 : ((w.alloc (.cells #[.int .i64 t, .int .i64 n, .int .i64 sq, .int .i64 kd, .int .i64 ot, .int .i64 on, .int .i64 pt, .int .i64 pn, .string (bas nm), .slice p l c, .slice q m d] 28)).alloc (.cells #[.int .i64 0, .int .i64 0, .int .i64 0, .int .i64 0, .int .i64 0, .int .i64 0, .int .i64 0, .int .i64 0, .string ⟨#[]⟩, .slice none 0 0, .slice none 0 0] 28)).frozen? ⟨w.heap.size, 10, none⟩ = false := frozenOf H1 10
  have ⟨z0, z1, z2, z3, z4, z5, z6, z7, z8, z9, z10⟩ : ((w.alloc (.cells #[.int .i64 t, .int .i64 n, .int .i64 sq, .int .i64 kd, .int .i64 ot, .int .i64 on, .int .i64 pt, .int .i64 pn, .string (bas nm), .slice p l c, .slice q m d] 28)).alloc (.cells #[.int .i64 0, .int .i64 0, .int .i64 0, .int .i64 0, .int .i64 0, .int .i64 0, .int .i64 0, .int .i64 0, .string ⟨#[]⟩, .slice none 0 0, .slice none 0 0] 28)).cell? ⟨w.heap.size + 1, 0, none⟩ = some (.int .i64 0) ∧ ((w.alloc (.cells #[.int .i64 t, .int .i64 n, .int .i64 sq, .int .i64 kd, .int .i64 ot, .int .i64 on, .int .i64 pt, .int .i64 pn, .string (bas nm), .slice p l c, .slice q m d] 28)).alloc (.cells #[.int .i64 0, .int .i64 0, .int .i64 0, .int .i64 0, .int .i64 0, .int .i64 0, .int .i64 0, .int .i64 0, .string ⟨#[]⟩, .slice none 0 0, .slice none 0 0] 28)).cell? ⟨w.heap.size + 1, 1, none⟩ = some (.int .i64 0) ∧ ((w.alloc (.cells #[.int .i64 t, .int .i64 n, .int .i64 sq, .int .i64 kd, .int .i64 ot, .int .i64 on, .int .i64 pt, .int .i64 pn, .string (bas nm), .slice p l c, .slice q m d] 28)).alloc (.cells #[.int .i64 0, .int .i64 0, .int .i64 0, .int .i64 0, .int .i64 0, .int .i64 0, .int .i64 0, .int .i64 0, .string ⟨#[]⟩, .slice none 0 0, .slice none 0 0] 28)).cell? ⟨w.heap.size + 1, 2, none⟩ = some (.int .i64 0) ∧ ((w.alloc (.cells #[.int .i64 t, .int .i64 n, .int .i64 sq, .int .i64 kd, .int .i64 ot, .int .i64 on, .int .i64 pt, .int .i64 pn, .string (bas nm), .slice p l c, .slice q m d] 28)).alloc (.cells #[.int .i64 0, .int .i64 0, .int .i64 0, .int .i64 0, .int .i64 0, .int .i64 0, .int .i64 0, .int .i64 0, .string ⟨#[]⟩, .slice none 0 0, .slice none 0 0] 28)).cell? ⟨w.heap.size + 1, 3, none⟩ = some (.int .i64 0) ∧ ((w.alloc (.cells #[.int .i64 t, .int .i64 n, .int .i64 sq, .int .i64 kd, .int .i64 ot, .int .i64 on, .int .i64 pt, .int .i64 pn, .string (bas nm), .slice p l c, .slice q m d] 28)).alloc (.cells #[.int .i64 0, .int .i64 0, .int .i64 0, .int .i64 0, .int .i64 0, .int .i64 0, .int .i64 0, .int .i64 0, .string ⟨#[]⟩, .slice none 0 0, .slice none 0 0] 28)).cell? ⟨w.heap.size + 1, 4, none⟩ = some (.int .i64 0) ∧ ((w.alloc (.cells #[.int .i64 t, .int .i64 n, .int .i64 sq, .int .i64 kd, .int .i64 ot, .int .i64 on, .int .i64 pt, .int .i64 pn, .string (bas nm), .slice p l c, .slice q m d] 28)).alloc (.cells #[.int .i64 0, .int .i64 0, .int .i64 0, .int .i64 0, .int .i64 0, .int .i64 0, .int .i64 0, .int .i64 0, .string ⟨#[]⟩, .slice none 0 0, .slice none 0 0] 28)).cell? ⟨w.heap.size + 1, 5, none⟩ = some (.int .i64 0) ∧ ((w.alloc (.cells #[.int .i64 t, .int .i64 n, .int .i64 sq, .int .i64 kd, .int .i64 ot, .int .i64 on, .int .i64 pt, .int .i64 pn, .string (bas nm), .slice p l c, .slice q m d] 28)).alloc (.cells #[.int .i64 0, .int .i64 0, .int .i64 0, .int .i64 0, .int .i64 0, .int .i64 0, .int .i64 0, .int .i64 0, .string ⟨#[]⟩, .slice none 0 0, .slice none 0 0] 28)).cell? ⟨w.heap.size + 1, 6, none⟩ = some (.int .i64 0) ∧ ((w.alloc (.cells #[.int .i64 t, .int .i64 n, .int .i64 sq, .int .i64 kd, .int .i64 ot, .int .i64 on, .int .i64 pt, .int .i64 pn, .string (bas nm), .slice p l c, .slice q m d] 28)).alloc (.cells #[.int .i64 0, .int .i64 0, .int .i64 0, .int .i64 0, .int .i64 0, .int .i64 0, .int .i64 0, .int .i64 0, .string ⟨#[]⟩, .slice none 0 0, .slice none 0 0] 28)).cell? ⟨w.heap.size + 1, 7, none⟩ = some (.int .i64 0) ∧ ((w.alloc (.cells #[.int .i64 t, .int .i64 n, .int .i64 sq, .int .i64 kd, .int .i64 ot, .int .i64 on, .int .i64 pt, .int .i64 pn, .string (bas nm), .slice p l c, .slice q m d] 28)).alloc (.cells #[.int .i64 0, .int .i64 0, .int .i64 0, .int .i64 0, .int .i64 0, .int .i64 0, .int .i64 0, .int .i64 0, .string ⟨#[]⟩, .slice none 0 0, .slice none 0 0] 28)).cell? ⟨w.heap.size + 1, 8, none⟩ = some (.string ⟨#[]⟩) ∧ ((w.alloc (.cells #[.int .i64 t, .int .i64 n, .int .i64 sq, .int .i64 kd, .int .i64 ot, .int .i64 on, .int .i64 pt, .int .i64 pn, .string (bas nm), .slice p l c, .slice q m d] 28)).alloc (.cells #[.int .i64 0, .int .i64 0, .int .i64 0, .int .i64 0, .int .i64 0, .int .i64 0, .int .i64 0, .int .i64 0, .string ⟨#[]⟩, .slice none 0 0, .slice none 0 0] 28)).cell? ⟨w.heap.size + 1, 9, none⟩ = some (.slice none 0 0) ∧ ((w.alloc (.cells #[.int .i64 t, .int .i64 n, .int .i64 sq, .int .i64 kd, .int .i64 ot, .int .i64 on, .int .i64 pt, .int .i64 pn, .string (bas nm), .slice p l c, .slice q m d] 28)).alloc (.cells #[.int .i64 0, .int .i64 0, .int .i64 0, .int .i64 0, .int .i64 0, .int .i64 0, .int .i64 0, .int .i64 0, .string ⟨#[]⟩, .slice none 0 0, .slice none 0 0] 28)).cell? ⟨w.heap.size + 1, 10, none⟩ = some (.slice none 0 0) := ⟨cellOf H2 0, cellOf H2 1, cellOf H2 2, cellOf H2 3, cellOf H2 4, cellOf H2 5, cellOf H2 6, cellOf H2 7, cellOf H2 8, cellOf H2 9, cellOf H2 10⟩
  have fz : ∀ k, ((w.alloc (.cells #[.int .i64 t, .int .i64 n, .int .i64 sq, .int .i64 kd, .int .i64 ot, .int .i64 on, .int .i64 pt, .int .i64 pn, .string (bas nm), .slice p l c, .slice q m d] 28)).alloc (.cells #[.int .i64 0, .int .i64 0, .int .i64 0, .int .i64 0, .int .i64 0, .int .i64 0, .int .i64 0, .int .i64 0, .string ⟨#[]⟩, .slice none 0 0, .slice none 0 0] 28)).frozen? ⟨w.heap.size + 1, k, none⟩ = false := fun k => frozenOf H2 k
  have ⟨y0, y1, y2, y3, y4, y5, y6, y7, y8, y9, y10⟩ := (⟨fz 0, fz 1, fz 2, fz 3, fz 4, fz 5, fz 6, fz 7, fz 8, fz 9, fz 10⟩ : ((w.alloc (.cells #[.int .i64 t, .int .i64 n, .int .i64 sq, .int .i64 kd, .int .i64 ot, .int .i64 on, .int .i64 pt, .int .i64 pn, .string (bas nm), .slice p l c, .slice q m d] 28)).alloc (.cells #[.int .i64 0, .int .i64 0, .int .i64 0, .int .i64 0, .int .i64 0, .int .i64 0, .int .i64 0, .int .i64 0, .string ⟨#[]⟩, .slice none 0 0, .slice none 0 0] 28)).frozen? ⟨w.heap.size + 1, 0, none⟩ = false ∧ ((w.alloc (.cells #[.int .i64 t, .int .i64 n, .int .i64 sq, .int .i64 kd, .int .i64 ot, .int .i64 on, .int .i64 pt, .int .i64 pn, .string (bas nm), .slice p l c, .slice q m d] 28)).alloc (.cells #[.int .i64 0, .int .i64 0, .int .i64 0, .int .i64 0, .int .i64 0, .int .i64 0, .int .i64 0, .int .i64 0, .string ⟨#[]⟩, .slice none 0 0, .slice none 0 0] 28)).frozen? ⟨w.heap.size + 1, 1, none⟩ = false ∧ ((w.alloc (.cells #[.int .i64 t, .int .i64 n, .int .i64 sq, .int .i64 kd, .int .i64 ot, .int .i64 on, .int .i64 pt, .int .i64 pn, .string (bas nm), .slice p l c, .slice q m d] 28)).alloc (.cells #[.int .i64 0, .int .i64 0, .int .i64 0, .int .i64 0, .int .i64 0, .int .i64 0, .int .i64 0, .int .i64 0, .string ⟨#[]⟩, .slice none 0 0, .slice none 0 0] 28)).frozen? ⟨w.heap.size + 1, 2, none⟩ = false ∧ ((w.alloc (.cells #[.int .i64 t, .int .i64 n, .int .i64 sq, .int .i64 kd, .int .i64 ot, .int .i64 on, .int .i64 pt, .int .i64 pn, .string (bas nm), .slice p l c, .slice q m d] 28)).alloc (.cells #[.int .i64 0, .int .i64 0, .int .i64 0, .int .i64 0, .int .i64 0, .int .i64 0, .int .i64 0, .int .i64 0, .string ⟨#[]⟩, .slice none 0 0, .slice none 0 0] 28)).frozen? ⟨w.heap.size + 1, 3, none⟩ = false ∧ ((w.alloc (.cells #[.int .i64 t, .int .i64 n, .int .i64 sq, .int .i64 kd, .int .i64 ot, .int .i64 on, .int .i64 pt, .int .i64 pn, .string (bas nm), .slice p l c, .slice q m d] 28)).alloc (.cells #[.int .i64 0, .int .i64 0, .int .i64 0, .int .i64 0, .int .i64 0, .int .i64 0, .int .i64 0, .int .i64 0, .string ⟨#[]⟩, .slice none 0 0, .slice none 0 0] 28)).frozen? ⟨w.heap.size + 1, 4, none⟩ = false ∧ ((w.alloc (.cells #[.int .i64 t, .int .i64 n, .int .i64 sq, .int .i64 kd, .int .i64 ot, .int .i64 on, .int .i64 pt, .int .i64 pn, .string (bas nm), .slice p l c, .slice q m d] 28)).alloc (.cells #[.int .i64 0, .int .i64 0, .int .i64 0, .int .i64 0, .int .i64 0, .int .i64 0, .int .i64 0, .int .i64 0, .string ⟨#[]⟩, .slice none 0 0, .slice none 0 0] 28)).frozen? ⟨w.heap.size + 1, 5, none⟩ = false ∧ ((w.alloc (.cells #[.int .i64 t, .int .i64 n, .int .i64 sq, .int .i64 kd, .int .i64 ot, .int .i64 on, .int .i64 pt, .int .i64 pn, .string (bas nm), .slice p l c, .slice q m d] 28)).alloc (.cells #[.int .i64 0, .int .i64 0, .int .i64 0, .int .i64 0, .int .i64 0, .int .i64 0, .int .i64 0, .int .i64 0, .string ⟨#[]⟩, .slice none 0 0, .slice none 0 0] 28)).frozen? ⟨w.heap.size + 1, 6, none⟩ = false ∧ ((w.alloc (.cells #[.int .i64 t, .int .i64 n, .int .i64 sq, .int .i64 kd, .int .i64 ot, .int .i64 on, .int .i64 pt, .int .i64 pn, .string (bas nm), .slice p l c, .slice q m d] 28)).alloc (.cells #[.int .i64 0, .int .i64 0, .int .i64 0, .int .i64 0, .int .i64 0, .int .i64 0, .int .i64 0, .int .i64 0, .string ⟨#[]⟩, .slice none 0 0, .slice none 0 0] 28)).frozen? ⟨w.heap.size + 1, 7, none⟩ = false ∧ ((w.alloc (.cells #[.int .i64 t, .int .i64 n, .int .i64 sq, .int .i64 kd, .int .i64 ot, .int .i64 on, .int .i64 pt, .int .i64 pn, .string (bas nm), .slice p l c, .slice q m d] 28)).alloc (.cells #[.int .i64 0, .int .i64 0, .int .i64 0, .int .i64 0, .int .i64 0, .int .i64 0, .int .i64 0, .int .i64 0, .string ⟨#[]⟩, .slice none 0 0, .slice none 0 0] 28)).frozen? ⟨w.heap.size + 1, 8, none⟩ = false ∧ ((w.alloc (.cells #[.int .i64 t, .int .i64 n, .int .i64 sq, .int .i64 kd, .int .i64 ot, .int .i64 on, .int .i64 pt, .int .i64 pn, .string (bas nm), .slice p l c, .slice q m d] 28)).alloc (.cells #[.int .i64 0, .int .i64 0, .int .i64 0, .int .i64 0, .int .i64 0, .int .i64 0, .int .i64 0, .int .i64 0, .string ⟨#[]⟩, .slice none 0 0, .slice none 0 0] 28)).frozen? ⟨w.heap.size + 1, 9, none⟩ = false ∧ ((w.alloc (.cells #[.int .i64 t, .int .i64 n, .int .i64 sq, .int .i64 kd, .int .i64 ot, .int .i64 on, .int .i64 pt, .int .i64 pn, .string (bas nm), .slice p l c, .slice q m d] 28)).alloc (.cells #[.int .i64 0, .int .i64 0, .int .i64 0, .int .i64 0, .int .i64 0, .int .i64 0, .int .i64 0, .int .i64 0, .string ⟨#[]⟩, .slice none 0 0, .slice none 0 0] 28)).frozen? ⟨w.heap.size + 1, 10, none⟩ = false)
  clear B0 H1 H2 fz
  by_cases h : 100 < nm.length
  · have hI : (100 : Int) < (nm.length : Int) := by omega
    have h90 : 100 ≤ (bas nm).size := by omega
    have HN : Hid ((bas nm).extract 0 100 = bas (nm.take 100)) := by
      show _ = _
      unfold bas
      rw [show ((⟨nm.toArray⟩ : ByteArray).extract 0 100) = ⟨(nm.toArray).extract 0 100⟩ by ext1; simp [ByteArray.data_extract]]
      simp
    go_enter Tryz.func6, Tryz.ntmps6
    go_wp2_with (first | (go_at_call 16; refine Calls_on cS ?_; clear cS) | (go_at_call 21; refine Calls_on (cC _) ?_))
    refine bodyPost_ret (v := .agg #[.int .i64 t, .int .i64 n, .int .i64 sq, .int .i64 kd, .int .i64 ot, .int .i64 on, .int .i64 pt, .int .i64 pn, .string ((bas nm).extract 0 100), .slice p l1 c, .slice q m1 d]) (by simp [results, Tryz.results6, go_sem]) rfl ?_
    refine ⟨by rw [HN.out], ?_⟩
    exact ((Below.refl _ _).alloc (Nat.le_refl _) _).alloc (by simp) _
  · have hI : ¬ (100 : Int) < (nm.length : Int) := by omega
    have HN : Hid (nm.take 100 = nm) := List.take_of_length_le (by omega)
    rw [HN.out]
    go_enter Tryz.func6, Tryz.ntmps6
    go_wp2_with (first | (go_at_call 16; refine Calls_on cS ?_; clear cS) | (go_at_call 21; refine Calls_on (cC _) ?_))
    refine bodyPost_ret (v := .agg #[.int .i64 t, .int .i64 n, .int .i64 sq, .int .i64 kd, .int .i64 ot, .int .i64 on, .int .i64 pt, .int .i64 pn, .string (bas nm), .slice p l1 c, .slice q m1 d]) (by simp [results, Tryz.results6, go_sem]) rfl ?_
    refine ⟨rfl, ?_⟩
    exact ((Below.refl _ _).alloc (Nat.le_refl _) _).alloc (by simp) _

set_option maxRecDepth 8000 in
set_option maxHeartbeats 4000000 in
theorem code_six_true {Q : Exit → Act → World → Prop} {base : Array Value} {dd : List Deferred} {ops : Array Oper} (hops : Tryz.f3.body.bind (regs 6) = some ops) (g g2 lw cw lb cb : Nat) (pw pb : Option Addr) (S : ByteArray) (y : Bool) (t n sq kd ot on pt pn : Int) (nm : List UInt8) (p q : Option Addr) (l c m d : Nat) (t' n' sq' kd' ot' on' pt' pn' : Int) (nm' : List UInt8) (p' q' : Option Addr) (l' c' m' d' : Nat) (w9 : World) (hsz : base.size = 93)
    (b2 : base.getD 2 undef = .pointer (some ⟨g, 0, none⟩))
    (b3 : base.getD 3 undef = .pointer (some ⟨g2, 0, none⟩))
    (b6 : base.getD 6 undef = .bool true)
    (b7 : base.getD 7 undef = .slice pw lw cw)
    (b8 : base.getD 8 undef = .slice pb lb cb)
    (b9 : base.getD 9 undef = .int .i64 0)
    (h9 : OpB w9 g t n sq kd ot on pt pn nm p q l c m d)
    (h9b : OpB w9 g2 t' n' sq' kd' ot' on' pt' pn' nm' p' q' l' c' m' d')
    (cM : ∀ W, Below w9.heap.size w9 W → Calls Tryz.prog 10 #[.agg #[.int .i64 t, .int .i64 n, .int .i64 sq, .int .i64 kd, .int .i64 ot, .int .i64 on, .int .i64 pt, .int .i64 pn, .string (bas nm), .slice p l c, .slice q m d]] W fun e w' => e = .returned (.bool true) ∧ Below W.heap.size W w')
    (cC : ∀ W, Below w9.heap.size w9 W → Calls Tryz.prog 11 #[.agg #[.int .i64 t, .int .i64 n, .int .i64 sq, .int .i64 kd, .int .i64 ot, .int .i64 on, .int .i64 pt, .int .i64 pn, .string (bas nm), .slice p l c, .slice q m d]] W fun e w' => e = .returned (.int .i64 (lw : Nat)) ∧ Below W.heap.size W w')
    (cE : ∀ W, Below w9.heap.size w9 W → Calls Tryz.prog 12 #[.agg #[.int .i64 t, .int .i64 n, .int .i64 sq, .int .i64 kd, .int .i64 ot, .int .i64 on, .int .i64 pt, .int .i64 pn, .string (bas nm), .slice p l c, .slice q m d], .agg #[.int .i64 t', .int .i64 n', .int .i64 sq', .int .i64 kd', .int .i64 ot', .int .i64 on', .int .i64 pt', .int .i64 pn', .string (bas nm'), .slice p' l' c', .slice q' m' d']] W fun e w' => e = .returned (.bool y) ∧ Below W.heap.size W w')
    (cF : ∀ W, Below w9.heap.size w9 W → Calls Tryz.prog 13 #[.agg #[.int .i64 t, .int .i64 n, .int .i64 sq, .int .i64 kd, .int .i64 ot, .int .i64 on, .int .i64 pt, .int .i64 pn, .string (bas nm), .slice p l c, .slice q m d], .agg #[.int .i64 t', .int .i64 n', .int .i64 sq', .int .i64 kd', .int .i64 ot', .int .i64 on', .int .i64 pt', .int .i64 pn', .string (bas nm'), .slice p' l' c', .slice q' m' d']] W fun e w' => e = .returned (.bool y) ∧ Below W.heap.size W w')
    (hR : ∀ W, Below w9.heap.size w9 W → (convert 24 9 (.slice pb lb cb)).run Tryz.prog W = .ok (.string S) W ∧ (convert 24 9 (.slice pw lw cw)).run Tryz.prog W = .ok (.string S) W)
    (hQ : ∀ W, Below w9.heap.size w9 W → Q .normal ⟨putAll base [(some 26, .agg #[.int .i64 t, .int .i64 n, .int .i64 sq, .int .i64 kd, .int .i64 ot, .int .i64 on, .int .i64 pt, .int .i64 pn, .string (bas nm), .slice p l c, .slice q m d]), (some 27, .bool true), (some 28, .bool true), (some 29, .bool false), (some 30, .bool false), (some 31, .int .i64 0), (some 32, .bool true), (some 33, .bool true), (some 34, .bool false), (some 35, .bool false), (some 36, .bool false), (some 37, .slice pb lb cb), (some 38, .string S), (some 39, .slice pw lw cw), (some 40, .string S), (some 41, .bool false), (some 42, .bool false), (some 43, .bool false), (some 44, .agg #[.int .i64 t, .int .i64 n, .int .i64 sq, .int .i64 kd, .int .i64 ot, .int .i64 on, .int .i64 pt, .int .i64 pn, .string (bas nm), .slice p l c, .slice q m d]), (some 45, .int .i64 (lw : Nat)), (some 46, .slice pw lw cw), (some 47, .int .i64 (lw : Nat)), (some 48, .bool false), (some 49, .bool false), (some 50, .bool false), (some 51, .agg #[.int .i64 t, .int .i64 n, .int .i64 sq, .int .i64 kd, .int .i64 ot, .int .i64 on, .int .i64 pt, .int .i64 pn, .string (bas nm), .slice p l c, .slice q m d]), (some 52, .agg #[.int .i64 t', .int .i64 n', .int .i64 sq', .int .i64 kd', .int .i64 ot', .int .i64 on', .int .i64 pt', .int .i64 pn', .string (bas nm'), .slice p' l' c', .slice q' m' d']), (some 53, .bool y), (some 54, .agg #[.int .i64 t, .int .i64 n, .int .i64 sq, .int .i64 kd, .int .i64 ot, .int .i64 on, .int .i64 pt, .int .i64 pn, .string (bas nm), .slice p l c, .slice q m d]), (some 55, .agg #[.int .i64 t', .int .i64 n', .int .i64 sq', .int .i64 kd', .int .i64 ot', .int .i64 on', .int .i64 pt', .int .i64 pn', .string (bas nm'), .slice p' l' c', .slice q' m' d']), (some 56, .bool y), (some 57, .bool false), (some 58, .bool false)], dd⟩ W) :
    (Code.region 6 ops true).wp Tryz.prog Q ⟨base, dd⟩ w9 := by
  have hmix : Tryz.prog.follows .mixedOrders = true := by kernel_rfl
  have h2 := (show Tryz.f3.body.bind (regs 6) = some _ from rfl).symm.trans hops
  obtain rfl := Option.some.inj h2
  clear h2 hops
  have below9 : Below w9.heap.size w9 w9.drew := (Below.refl _ _).drew
  obtain ⟨LL, hLe⟩ : ∃ LL : List (Option Tmp × Value), LL = [(some 26, .agg #[.int .i64 t, .int .i64 n, .int .i64 sq, .int .i64 kd, .int .i64 ot, .int .i64 on, .int .i64 pt, .int .i64 pn, .string (bas nm), .slice p l c, .slice q m d]), (some 27, .bool true), (some 28, .bool true), (some 29, .bool false), (some 30, .bool false), (some 31, .int .i64 0), (some 32, .bool true), (some 33, .bool true), (some 34, .bool false), (some 35, .bool false), (some 36, .bool false), (some 37, .slice pb lb cb), (some 38, .string S), (some 39, .slice pw lw cw), (some 40, .string S), (some 41, .bool false), (some 42, .bool false), (some 43, .bool false), (some 44, .agg #[.int .i64 t, .int .i64 n, .int .i64 sq, .int .i64 kd, .int .i64 ot, .int .i64 on, .int .i64 pt, .int .i64 pn, .string (bas nm), .slice p l c, .slice q m d]), (some 45, .int .i64 (lw : Nat)), (some 46, .slice pw lw cw), (some 47, .int .i64 (lw : Nat)), (some 48, .bool false), (some 49, .bool false), (some 50, .bool false), (some 51, .agg #[.int .i64 t, .int .i64 n, .int .i64 sq, .int .i64 kd, .int .i64 ot, .int .i64 on, .int .i64 pt, .int .i64 pn, .string (bas nm), .slice p l c, .slice q m d]), (some 52, .agg #[.int .i64 t', .int .i64 n', .int .i64 sq', .int .i64 kd', .int .i64 ot', .int .i64 on', .int .i64 pt', .int .i64 pn', .string (bas nm'), .slice p' l' c', .slice q' m' d']), (some 53, .bool y), (some 54, .agg #[.int .i64 t, .int .i64 n, .int .i64 sq, .int .i64 kd, .int .i64 ot, .int .i64 on, .int .i64 pt, .int .i64 pn, .string (bas nm), .slice p l c, .slice q m d]), (some 55, .agg #[.int .i64 t', .int .i64 n', .int .i64 sq', .int .i64 kd', .int .i64 ot', .int .i64 on', .int .i64 pt', .int .i64 pn', .string (bas nm'), .slice p' l' c', .slice q' m' d']), (some 56, .bool y), (some 57, .bool false), (some 58, .bool false)] := ⟨_, rfl⟩
  have vv0 : vals LL 0 = .agg #[.int .i64 t, .int .i64 n, .int .i64 sq, .int .i64 kd, .int .i64 ot, .int .i64 on, .int .i64 pt, .int .i64 pn, .string (bas nm), .slice p l c, .slice q m d] := by rw [hLe]; rfl
  have vv1 : vals LL 1 = .bool true := by rw [hLe]; rfl
  have vv2 : vals LL 2 = .bool true := by rw [hLe]; rfl
  have vv3 : vals LL 3 = .bool false := by rw [hLe]; rfl
  have vv4 : vals LL 4 = .bool false := by rw [hLe]; rfl
  have vv5 : vals LL 5 = .int .i64 0 := by rw [hLe]; rfl
  have vv6 : vals LL 6 = .bool true := by rw [hLe]; rfl
  have vv7 : vals LL 7 = .bool true := by rw [hLe]; rfl
  have vv8 : vals LL 8 = .bool false := by rw [hLe]; rfl
  have vv9 : vals LL 9 = .bool false := by rw [hLe]; rfl
  have vv10 : vals LL 10 = .bool false := by rw [hLe]; rfl
  have vv11 : vals LL 11 = .slice pb lb cb := by rw [hLe]; rfl
  have vv12 : vals LL 12 = .string S := by rw [hLe]; rfl
  have vv13 : vals LL 13 = .slice pw lw cw := by rw [hLe]; rfl
  have vv14 : vals LL 14 = .string S := by rw [hLe]; rfl
  have vv15 : vals LL 15 = .bool false := by rw [hLe]; rfl
  have vv16 : vals LL 16 = .bool false := by rw [hLe]; rfl
  have vv17 : vals LL 17 = .bool false := by rw [hLe]; rfl
  have vv18 : vals LL 18 = .agg #[.int .i64 t, .int .i64 n, .int .i64 sq, .int .i64 kd, .int .i64 ot, .int .i64 on, .int .i64 pt, .int .i64 pn, .string (bas nm), .slice p l c, .slice q m d] := by rw [hLe]; rfl
  have vv19 : vals LL 19 = .int .i64 (lw : Nat) := by rw [hLe]; rfl
  have vv20 : vals LL 20 = .slice pw lw cw := by rw [hLe]; rfl
  have vv21 : vals LL 21 = .int .i64 (lw : Nat) := by rw [hLe]; rfl
  have vv22 : vals LL 22 = .bool false := by rw [hLe]; rfl
  have vv23 : vals LL 23 = .bool false := by rw [hLe]; rfl
  have vv24 : vals LL 24 = .bool false := by rw [hLe]; rfl
  have vv25 : vals LL 25 = .agg #[.int .i64 t, .int .i64 n, .int .i64 sq, .int .i64 kd, .int .i64 ot, .int .i64 on, .int .i64 pt, .int .i64 pn, .string (bas nm), .slice p l c, .slice q m d] := by rw [hLe]; rfl
  have vv26 : vals LL 26 = .agg #[.int .i64 t', .int .i64 n', .int .i64 sq', .int .i64 kd', .int .i64 ot', .int .i64 on', .int .i64 pt', .int .i64 pn', .string (bas nm'), .slice p' l' c', .slice q' m' d'] := by rw [hLe]; rfl
  have vv27 : vals LL 27 = .bool y := by rw [hLe]; rfl
  have vv28 : vals LL 28 = .agg #[.int .i64 t, .int .i64 n, .int .i64 sq, .int .i64 kd, .int .i64 ot, .int .i64 on, .int .i64 pt, .int .i64 pn, .string (bas nm), .slice p l c, .slice q m d] := by rw [hLe]; rfl
  have vv29 : vals LL 29 = .agg #[.int .i64 t', .int .i64 n', .int .i64 sq', .int .i64 kd', .int .i64 ot', .int .i64 on', .int .i64 pt', .int .i64 pn', .string (bas nm'), .slice p' l' c', .slice q' m' d'] := by rw [hLe]; rfl
  have vv30 : vals LL 30 = .bool y := by rw [hLe]; rfl
  have vv31 : vals LL 31 = .bool false := by rw [hLe]; rfl
  have vv32 : vals LL 32 = .bool false := by rw [hLe]; rfl
  refine region_laid hmix (by kernel_rfl) 93 hsz (by kernel_rfl) LL (by rw [hLe]; rfl) (fun _ W => Below w9.heap.size w9 W) below9 ?_ ?_
  · intro b W i o a hS hcl ho hb hd ev kp yl
    match i with
    | 0 =>
      simp only [List.getElem?_toArray, List.getElem?_cons_zero, Option.some.injEq] at ho
      subst ho
      have e2 : a.tmps[2]?.getD undef = .pointer (some ⟨g, 0, none⟩) := (kp 2 (by kernel_rfl)).trans b2
      obtain ⟨d0, d1, d2, d3, d4, d5, d6, d7, d8, d9, d10⟩ := (h9.below hS).cells
      rw [vv0]
      refine does_value rfl (by intro c h; cases h) (w' := W) ?_ (hS)
      · simp [execOp, go_sem, e2, d0, d1, d2, d3, d4, d5, d6, d7, d8, d9, d10]
    | 1 =>
      simp only [List.getElem?_toArray, List.getElem?_cons_zero, List.getElem?_cons_succ, Option.some.injEq] at ho
      subst ho
      have p0 : b 0 = true := hd ⟨0, .data⟩ (by simp) rfl
      have e26 := (ev 0 26 rfl p0).trans vv0
      rw [vv1]
      refine does_call rfl (by intro c h; cases h) (f := 10) (args := #[.agg #[.int .i64 t, .int .i64 n, .int .i64 sq, .int .i64 kd, .int .i64 ot, .int .i64 on, .int .i64 pt, .int .i64 pn, .string (bas nm), .slice p l c, .slice q m d]]) ?_ ?_
      · simp [go_sem, e26]
      · exact (cM W hS).mono (fun e w' h => ⟨h.1, hS.trans (h.2.mono hS.size)⟩)
    | 2 =>
      simp only [List.getElem?_toArray, List.getElem?_cons_zero, List.getElem?_cons_succ, Option.some.injEq] at ho
      subst ho
      have e6 : a.tmps[6]?.getD undef = .bool true := (kp 6 (by kernel_rfl)).trans b6
      rw [vv2]
      refine does_value rfl (by intro c h; cases h) (w' := W) ?_ (hS)
      · simp [execOp, go_sem, e6]
    | 3 =>
      simp only [List.getElem?_toArray, List.getElem?_cons_zero, List.getElem?_cons_succ, Option.some.injEq] at ho
      subst ho
      have p1 : b 1 = true := hd ⟨1, .data⟩ (by simp) rfl
      have p2 : b 2 = true := hd ⟨2, .data⟩ (by simp) rfl
      have e27 := (ev 1 27 rfl p1).trans vv1
      have e28 := (ev 2 28 rfl p2).trans vv2
      rw [vv3]
      refine does_value rfl (by intro c h; cases h) (w' := W) ?_ (hS)
      · simp [execOp, go_sem, e27, e28]
    | 4 =>
      simp only [List.getElem?_toArray, List.getElem?_cons_zero, List.getElem?_cons_succ, Option.some.injEq] at ho
      subst ho
      have p3 : b 3 = true := hd ⟨3, .data⟩ (by simp) rfl
      have e29 := (ev 3 29 rfl p3).trans vv3
      rw [vv4]
      refine does_value rfl (by intro c h; cases h) (w' := W) ?_ (hS)
      · simp [execOp, go_sem, e29]
    | 5 =>
      simp only [List.getElem?_toArray, List.getElem?_cons_zero, List.getElem?_cons_succ, Option.some.injEq] at ho
      subst ho
      have p4 : b 4 = true := hd ⟨4, .guard⟩ (by simp) rfl
      have e9 : a.tmps[9]?.getD undef = .int .i64 0 := (kp 9 (by kernel_rfl)).trans b9
      rw [vv5]
      refine does_value_g rfl (yl 4 30 false rfl p4 vv4) (by intro c h; cases h) (w' := W) ?_ (hS)
      · simp [execOp, go_sem, e9]
    | 6 =>
      simp only [List.getElem?_toArray, List.getElem?_cons_zero, List.getElem?_cons_succ, Option.some.injEq] at ho
      subst ho
      have p5 : b 5 = true := hd ⟨5, .data⟩ (by simp) rfl
      have p4 : b 4 = true := hd ⟨4, .guard⟩ (by simp) rfl
      have e31 := (ev 5 31 rfl p5).trans vv5
      rw [vv6]
      refine does_value_g rfl (yl 4 30 false rfl p4 vv4) (by intro c h; cases h) (w' := W) ?_ (hS)
      · simp [execOp, go_sem, e31]
    | 7 =>
      simp only [List.getElem?_toArray, List.getElem?_cons_zero, List.getElem?_cons_succ, Option.some.injEq] at ho
      subst ho
      have p4 : b 4 = true := hd ⟨4, .guard⟩ (by simp) rfl
      have e6 : a.tmps[6]?.getD undef = .bool true := (kp 6 (by kernel_rfl)).trans b6
      rw [vv7]
      refine does_value_g rfl (yl 4 30 false rfl p4 vv4) (by intro c h; cases h) (w' := W) ?_ (hS)
      · simp [execOp, go_sem, e6]
    | 8 =>
      simp only [List.getElem?_toArray, List.getElem?_cons_zero, List.getElem?_cons_succ, Option.some.injEq] at ho
      subst ho
      have p6 : b 6 = true := hd ⟨6, .data⟩ (by simp) rfl
      have p7 : b 7 = true := hd ⟨7, .data⟩ (by simp) rfl
      have p4 : b 4 = true := hd ⟨4, .guard⟩ (by simp) rfl
      have e32 := (ev 6 32 rfl p6).trans vv6
      have e33 := (ev 7 33 rfl p7).trans vv7
      rw [vv8]
      refine does_value_g rfl (yl 4 30 false rfl p4 vv4) (by intro c h; cases h) (w' := W) ?_ (hS)
      · simp [execOp, go_sem, e32, e33]
    | 9 =>
      simp only [List.getElem?_toArray, List.getElem?_cons_zero, List.getElem?_cons_succ, Option.some.injEq] at ho
      subst ho
      have p4 : b 4 = true := hd ⟨4, .data⟩ (by simp) rfl
      have p8 : b 8 = true := hd ⟨8, .data⟩ (by simp) rfl
      have e30 := (ev 4 30 rfl p4).trans vv4
      have e34 := (ev 8 34 rfl p8).trans vv8
      rw [vv9]
      refine does_value rfl (by intro c h; cases h) (w' := W) ?_ (hS)
      · simp [execOp, go_sem, e30, e34]
    | 10 =>
      simp only [List.getElem?_toArray, List.getElem?_cons_zero, List.getElem?_cons_succ, Option.some.injEq] at ho
      subst ho
      have p9 : b 9 = true := hd ⟨9, .data⟩ (by simp) rfl
      have e35 := (ev 9 35 rfl p9).trans vv9
      rw [vv10]
      refine does_value rfl (by intro c h; cases h) (w' := W) ?_ (hS)
      · simp [execOp, go_sem, e35]
    | 11 =>
      simp only [List.getElem?_toArray, List.getElem?_cons_zero, List.getElem?_cons_succ, Option.some.injEq] at ho
      subst ho
      have p10 : b 10 = true := hd ⟨10, .guard⟩ (by simp) rfl
      have e8 : a.tmps[8]?.getD undef = .slice pb lb cb := (kp 8 (by kernel_rfl)).trans b8
      rw [vv11]
      refine does_value_g rfl (yl 10 36 false rfl p10 vv10) (by intro c h; cases h) (w' := W) ?_ (hS)
      · simp [execOp, go_sem, e8]
    | 12 =>
      simp only [List.getElem?_toArray, List.getElem?_cons_zero, List.getElem?_cons_succ, Option.some.injEq] at ho
      subst ho
      have p11 : b 11 = true := hd ⟨11, .data⟩ (by simp) rfl
      have p10 : b 10 = true := hd ⟨10, .guard⟩ (by simp) rfl
      have e37 := (ev 11 37 rfl p11).trans vv11
      rw [vv12]
      refine does_value_g rfl (yl 10 36 false rfl p10 vv10) (by intro c h; cases h) (w' := W) ?_ (hS)
      · simp [execOp, go_sem, e37, (hR W hS).1]
    | 13 =>
      simp only [List.getElem?_toArray, List.getElem?_cons_zero, List.getElem?_cons_succ, Option.some.injEq] at ho
      subst ho
      have p10 : b 10 = true := hd ⟨10, .guard⟩ (by simp) rfl
      have e7 : a.tmps[7]?.getD undef = .slice pw lw cw := (kp 7 (by kernel_rfl)).trans b7
      rw [vv13]
      refine does_value_g rfl (yl 10 36 false rfl p10 vv10) (by intro c h; cases h) (w' := W) ?_ (hS)
      · simp [execOp, go_sem, e7]
    | 14 =>
      simp only [List.getElem?_toArray, List.getElem?_cons_zero, List.getElem?_cons_succ, Option.some.injEq] at ho
      subst ho
      have p13 : b 13 = true := hd ⟨13, .data⟩ (by simp) rfl
      have p10 : b 10 = true := hd ⟨10, .guard⟩ (by simp) rfl
      have e39 := (ev 13 39 rfl p13).trans vv13
      rw [vv14]
      refine does_value_g rfl (yl 10 36 false rfl p10 vv10) (by intro c h; cases h) (w' := W) ?_ (hS)
      · simp [execOp, go_sem, e39, (hR W hS).2]
    | 15 =>
      simp only [List.getElem?_toArray, List.getElem?_cons_zero, List.getElem?_cons_succ, Option.some.injEq] at ho
      subst ho
      have p12 : b 12 = true := hd ⟨12, .data⟩ (by simp) rfl
      have p14 : b 14 = true := hd ⟨14, .data⟩ (by simp) rfl
      have p10 : b 10 = true := hd ⟨10, .guard⟩ (by simp) rfl
      have e38 := (ev 12 38 rfl p12).trans vv12
      have e40 := (ev 14 40 rfl p14).trans vv14
      rw [vv15]
      refine does_value_g rfl (yl 10 36 false rfl p10 vv10) (by intro c h; cases h) (w' := W) ?_ (hS)
      · simp [execOp, go_sem, e38, e40]
    | 16 =>
      simp only [List.getElem?_toArray, List.getElem?_cons_zero, List.getElem?_cons_succ, Option.some.injEq] at ho
      subst ho
      have p10 : b 10 = true := hd ⟨10, .data⟩ (by simp) rfl
      have p15 : b 15 = true := hd ⟨15, .data⟩ (by simp) rfl
      have e36 := (ev 10 36 rfl p10).trans vv10
      have e41 := (ev 15 41 rfl p15).trans vv15
      rw [vv16]
      refine does_value rfl (by intro c h; cases h) (w' := W) ?_ (hS)
      · simp [execOp, go_sem, e36, e41]
    | 17 =>
      simp only [List.getElem?_toArray, List.getElem?_cons_zero, List.getElem?_cons_succ, Option.some.injEq] at ho
      subst ho
      have p16 : b 16 = true := hd ⟨16, .data⟩ (by simp) rfl
      have e42 := (ev 16 42 rfl p16).trans vv16
      rw [vv17]
      refine does_value rfl (by intro c h; cases h) (w' := W) ?_ (hS)
      · simp [execOp, go_sem, e42]
    | 18 =>
      simp only [List.getElem?_toArray, List.getElem?_cons_zero, List.getElem?_cons_succ, Option.some.injEq] at ho
      subst ho
      have p17 : b 17 = true := hd ⟨17, .guard⟩ (by simp) rfl
      have e2 : a.tmps[2]?.getD undef = .pointer (some ⟨g, 0, none⟩) := (kp 2 (by kernel_rfl)).trans b2
      obtain ⟨d0, d1, d2, d3, d4, d5, d6, d7, d8, d9, d10⟩ := (h9.below hS).cells
      rw [vv18]
      refine does_value_g rfl (yl 17 43 false rfl p17 vv17) (by intro c h; cases h) (w' := W) ?_ (hS)
      · simp [execOp, go_sem, e2, d0, d1, d2, d3, d4, d5, d6, d7, d8, d9, d10]
    | 19 =>
      simp only [List.getElem?_toArray, List.getElem?_cons_zero, List.getElem?_cons_succ, Option.some.injEq] at ho
      subst ho
      have p18 : b 18 = true := hd ⟨18, .data⟩ (by simp) rfl
      have p17 : b 17 = true := hd ⟨17, .guard⟩ (by simp) rfl
      have e44 := (ev 18 44 rfl p18).trans vv18
      rw [vv19]
      refine does_call_g rfl (yl 17 43 false rfl p17 vv17) (by intro c h; cases h) (f := 11) (args := #[.agg #[.int .i64 t, .int .i64 n, .int .i64 sq, .int .i64 kd, .int .i64 ot, .int .i64 on, .int .i64 pt, .int .i64 pn, .string (bas nm), .slice p l c, .slice q m d]]) ?_ ?_
      · simp [go_sem, e44]
      · exact (cC W hS).mono (fun e w' h => ⟨h.1, hS.trans (h.2.mono hS.size)⟩)
    | 20 =>
      simp only [List.getElem?_toArray, List.getElem?_cons_zero, List.getElem?_cons_succ, Option.some.injEq] at ho
      subst ho
      have p17 : b 17 = true := hd ⟨17, .guard⟩ (by simp) rfl
      have e7 : a.tmps[7]?.getD undef = .slice pw lw cw := (kp 7 (by kernel_rfl)).trans b7
      rw [vv20]
      refine does_value_g rfl (yl 17 43 false rfl p17 vv17) (by intro c h; cases h) (w' := W) ?_ (hS)
      · simp [execOp, go_sem, e7]
    | 21 =>
      simp only [List.getElem?_toArray, List.getElem?_cons_zero, List.getElem?_cons_succ, Option.some.injEq] at ho
      subst ho
      have p20 : b 20 = true := hd ⟨20, .data⟩ (by simp) rfl
      have p17 : b 17 = true := hd ⟨17, .guard⟩ (by simp) rfl
      have e46 := (ev 20 46 rfl p20).trans vv20
      rw [vv21]
      refine does_value_g rfl (yl 17 43 false rfl p17 vv17) (by intro c h; cases h) (w' := W) ?_ (hS)
      · simp [go_sem, e46]
    | 22 =>
      simp only [List.getElem?_toArray, List.getElem?_cons_zero, List.getElem?_cons_succ, Option.some.injEq] at ho
      subst ho
      have p19 : b 19 = true := hd ⟨19, .data⟩ (by simp) rfl
      have p21 : b 21 = true := hd ⟨21, .data⟩ (by simp) rfl
      have p17 : b 17 = true := hd ⟨17, .guard⟩ (by simp) rfl
      have e45 := (ev 19 45 rfl p19).trans vv19
      have e47 := (ev 21 47 rfl p21).trans vv21
      rw [vv22]
      refine does_value_g rfl (yl 17 43 false rfl p17 vv17) (by intro c h; cases h) (w' := W) ?_ (hS)
      · simp [execOp, go_sem, e45, e47]
    | 23 =>
      simp only [List.getElem?_toArray, List.getElem?_cons_zero, List.getElem?_cons_succ, Option.some.injEq] at ho
      subst ho
      have p17 : b 17 = true := hd ⟨17, .data⟩ (by simp) rfl
      have p22 : b 22 = true := hd ⟨22, .data⟩ (by simp) rfl
      have e43 := (ev 17 43 rfl p17).trans vv17
      have e48 := (ev 22 48 rfl p22).trans vv22
      rw [vv23]
      refine does_value rfl (by intro c h; cases h) (w' := W) ?_ (hS)
      · simp [execOp, go_sem, e43, e48]
    | 24 =>
      simp only [List.getElem?_toArray, List.getElem?_cons_zero, List.getElem?_cons_succ, Option.some.injEq] at ho
      subst ho
      have p23 : b 23 = true := hd ⟨23, .data⟩ (by simp) rfl
      have e49 := (ev 23 49 rfl p23).trans vv23
      rw [vv24]
      refine does_value rfl (by intro c h; cases h) (w' := W) ?_ (hS)
      · simp [execOp, go_sem, e49]
    | 25 =>
      simp only [List.getElem?_toArray, List.getElem?_cons_zero, List.getElem?_cons_succ, Option.some.injEq] at ho
      subst ho
      have p24 : b 24 = true := hd ⟨24, .guard⟩ (by simp) rfl
      have e2 : a.tmps[2]?.getD undef = .pointer (some ⟨g, 0, none⟩) := (kp 2 (by kernel_rfl)).trans b2
      obtain ⟨d0, d1, d2, d3, d4, d5, d6, d7, d8, d9, d10⟩ := (h9.below hS).cells
      rw [vv25]
      refine does_value_g rfl (yl 24 50 false rfl p24 vv24) (by intro c h; cases h) (w' := W) ?_ (hS)
      · simp [execOp, go_sem, e2, d0, d1, d2, d3, d4, d5, d6, d7, d8, d9, d10]
    | 26 =>
      simp only [List.getElem?_toArray, List.getElem?_cons_zero, List.getElem?_cons_succ, Option.some.injEq] at ho
      subst ho
      have p24 : b 24 = true := hd ⟨24, .guard⟩ (by simp) rfl
      have e3 : a.tmps[3]?.getD undef = .pointer (some ⟨g2, 0, none⟩) := (kp 3 (by kernel_rfl)).trans b3
      obtain ⟨d0, d1, d2, d3, d4, d5, d6, d7, d8, d9, d10⟩ := (h9b.below hS).cells
      rw [vv26]
      refine does_value_g rfl (yl 24 50 false rfl p24 vv24) (by intro c h; cases h) (w' := W) ?_ (hS)
      · simp [execOp, go_sem, e3, d0, d1, d2, d3, d4, d5, d6, d7, d8, d9, d10]
    | 27 =>
      simp only [List.getElem?_toArray, List.getElem?_cons_zero, List.getElem?_cons_succ, Option.some.injEq] at ho
      subst ho
      have p25 : b 25 = true := hd ⟨25, .data⟩ (by simp) rfl
      have p26 : b 26 = true := hd ⟨26, .data⟩ (by simp) rfl
      have p24 : b 24 = true := hd ⟨24, .guard⟩ (by simp) rfl
      have e51 := (ev 25 51 rfl p25).trans vv25
      have e52 := (ev 26 52 rfl p26).trans vv26
      rw [vv27]
      refine does_call_g rfl (yl 24 50 false rfl p24 vv24) (by intro c h; cases h) (f := 12) (args := #[.agg #[.int .i64 t, .int .i64 n, .int .i64 sq, .int .i64 kd, .int .i64 ot, .int .i64 on, .int .i64 pt, .int .i64 pn, .string (bas nm), .slice p l c, .slice q m d], .agg #[.int .i64 t', .int .i64 n', .int .i64 sq', .int .i64 kd', .int .i64 ot', .int .i64 on', .int .i64 pt', .int .i64 pn', .string (bas nm'), .slice p' l' c', .slice q' m' d']]) ?_ ?_
      · simp [go_sem, e51, e52]
      · exact (cE W hS).mono (fun e w' h => ⟨h.1, hS.trans (h.2.mono hS.size)⟩)
    | 28 =>
      simp only [List.getElem?_toArray, List.getElem?_cons_zero, List.getElem?_cons_succ, Option.some.injEq] at ho
      subst ho
      have p24 : b 24 = true := hd ⟨24, .guard⟩ (by simp) rfl
      have e2 : a.tmps[2]?.getD undef = .pointer (some ⟨g, 0, none⟩) := (kp 2 (by kernel_rfl)).trans b2
      obtain ⟨d0, d1, d2, d3, d4, d5, d6, d7, d8, d9, d10⟩ := (h9.below hS).cells
      rw [vv28]
      refine does_value_g rfl (yl 24 50 false rfl p24 vv24) (by intro c h; cases h) (w' := W) ?_ (hS)
      · simp [execOp, go_sem, e2, d0, d1, d2, d3, d4, d5, d6, d7, d8, d9, d10]
    | 29 =>
      simp only [List.getElem?_toArray, List.getElem?_cons_zero, List.getElem?_cons_succ, Option.some.injEq] at ho
      subst ho
      have p24 : b 24 = true := hd ⟨24, .guard⟩ (by simp) rfl
      have e3 : a.tmps[3]?.getD undef = .pointer (some ⟨g2, 0, none⟩) := (kp 3 (by kernel_rfl)).trans b3
      obtain ⟨d0, d1, d2, d3, d4, d5, d6, d7, d8, d9, d10⟩ := (h9b.below hS).cells
      rw [vv29]
      refine does_value_g rfl (yl 24 50 false rfl p24 vv24) (by intro c h; cases h) (w' := W) ?_ (hS)
      · simp [execOp, go_sem, e3, d0, d1, d2, d3, d4, d5, d6, d7, d8, d9, d10]
    | 30 =>
      simp only [List.getElem?_toArray, List.getElem?_cons_zero, List.getElem?_cons_succ, Option.some.injEq] at ho
      subst ho
      have p28 : b 28 = true := hd ⟨28, .data⟩ (by simp) rfl
      have p29 : b 29 = true := hd ⟨29, .data⟩ (by simp) rfl
      have p24 : b 24 = true := hd ⟨24, .guard⟩ (by simp) rfl
      have e54 := (ev 28 54 rfl p28).trans vv28
      have e55 := (ev 29 55 rfl p29).trans vv29
      rw [vv30]
      refine does_call_g rfl (yl 24 50 false rfl p24 vv24) (by intro c h; cases h) (f := 13) (args := #[.agg #[.int .i64 t, .int .i64 n, .int .i64 sq, .int .i64 kd, .int .i64 ot, .int .i64 on, .int .i64 pt, .int .i64 pn, .string (bas nm), .slice p l c, .slice q m d], .agg #[.int .i64 t', .int .i64 n', .int .i64 sq', .int .i64 kd', .int .i64 ot', .int .i64 on', .int .i64 pt', .int .i64 pn', .string (bas nm'), .slice p' l' c', .slice q' m' d']]) ?_ ?_
      · simp [go_sem, e54, e55]
      · exact (cF W hS).mono (fun e w' h => ⟨h.1, hS.trans (h.2.mono hS.size)⟩)
    | 31 =>
      simp only [List.getElem?_toArray, List.getElem?_cons_zero, List.getElem?_cons_succ, Option.some.injEq] at ho
      subst ho
      have p27 : b 27 = true := hd ⟨27, .data⟩ (by simp) rfl
      have p30 : b 30 = true := hd ⟨30, .data⟩ (by simp) rfl
      have p24 : b 24 = true := hd ⟨24, .guard⟩ (by simp) rfl
      have e53 := (ev 27 53 rfl p27).trans vv27
      have e56 := (ev 30 56 rfl p30).trans vv30
      rw [vv31]
      refine does_value_g rfl (yl 24 50 false rfl p24 vv24) (by intro c h; cases h) (w' := W) ?_ (hS)
      · simp [execOp, go_sem, e53, e56]
    | 32 =>
      simp only [List.getElem?_toArray, List.getElem?_cons_zero, List.getElem?_cons_succ, Option.some.injEq] at ho
      subst ho
      have p24 : b 24 = true := hd ⟨24, .data⟩ (by simp) rfl
      have p31 : b 31 = true := hd ⟨31, .data⟩ (by simp) rfl
      have e50 := (ev 24 50 rfl p24).trans vv24
      have e57 := (ev 31 57 rfl p31).trans vv31
      rw [vv32]
      refine does_value rfl (by intro c h; cases h) (w' := W) ?_ (hS)
      · simp [execOp, go_sem, e50, e57]
    | k + 33 => simp at ho
  · intro b' W hS _
    subst hLe
    exact hQ W hS

set_option maxRecDepth 8000 in
set_option maxHeartbeats 4000000 in
theorem code_six_false {Q : Exit → Act → World → Prop} {base : Array Value} {dd : List Deferred} {ops : Array Oper} (hops : Tryz.f3.body.bind (regs 6) = some ops) (g g2 lw cw lb cb : Nat) (pw pb : Option Addr) (S : ByteArray) (y : Bool) (t n sq kd ot on pt pn : Int) (nm : List UInt8) (p q : Option Addr) (l c m d : Nat) (t' n' sq' kd' ot' on' pt' pn' : Int) (nm' : List UInt8) (p' q' : Option Addr) (l' c' m' d' : Nat) (w9 : World) (hsz : base.size = 93)
    (b2 : base.getD 2 undef = .pointer (some ⟨g, 0, none⟩))
    (b3 : base.getD 3 undef = .pointer (some ⟨g2, 0, none⟩))
    (b6 : base.getD 6 undef = .bool false)
    (b7 : base.getD 7 undef = .slice pw lw cw)
    (b8 : base.getD 8 undef = .slice pb lb cb)
    (b9 : base.getD 9 undef = .int .i64 22)
    (h9 : OpB w9 g t n sq kd ot on pt pn nm p q l c m d)
    (h9b : OpB w9 g2 t' n' sq' kd' ot' on' pt' pn' nm' p' q' l' c' m' d')
    (cM : ∀ W, Below w9.heap.size w9 W → Calls Tryz.prog 10 #[.agg #[.int .i64 t, .int .i64 n, .int .i64 sq, .int .i64 kd, .int .i64 ot, .int .i64 on, .int .i64 pt, .int .i64 pn, .string (bas nm), .slice p l c, .slice q m d]] W fun e w' => e = .returned (.bool false) ∧ Below W.heap.size W w')
    (cC : ∀ W, Below w9.heap.size w9 W → Calls Tryz.prog 11 #[.agg #[.int .i64 t, .int .i64 n, .int .i64 sq, .int .i64 kd, .int .i64 ot, .int .i64 on, .int .i64 pt, .int .i64 pn, .string (bas nm), .slice p l c, .slice q m d]] W fun e w' => e = .returned (.int .i64 (lw : Nat)) ∧ Below W.heap.size W w')
    (cE : ∀ W, Below w9.heap.size w9 W → Calls Tryz.prog 12 #[.agg #[.int .i64 t, .int .i64 n, .int .i64 sq, .int .i64 kd, .int .i64 ot, .int .i64 on, .int .i64 pt, .int .i64 pn, .string (bas nm), .slice p l c, .slice q m d], .agg #[.int .i64 t', .int .i64 n', .int .i64 sq', .int .i64 kd', .int .i64 ot', .int .i64 on', .int .i64 pt', .int .i64 pn', .string (bas nm'), .slice p' l' c', .slice q' m' d']] W fun e w' => e = .returned (.bool y) ∧ Below W.heap.size W w')
    (cF : ∀ W, Below w9.heap.size w9 W → Calls Tryz.prog 13 #[.agg #[.int .i64 t, .int .i64 n, .int .i64 sq, .int .i64 kd, .int .i64 ot, .int .i64 on, .int .i64 pt, .int .i64 pn, .string (bas nm), .slice p l c, .slice q m d], .agg #[.int .i64 t', .int .i64 n', .int .i64 sq', .int .i64 kd', .int .i64 ot', .int .i64 on', .int .i64 pt', .int .i64 pn', .string (bas nm'), .slice p' l' c', .slice q' m' d']] W fun e w' => e = .returned (.bool y) ∧ Below W.heap.size W w')
    (hR : ∀ W, Below w9.heap.size w9 W → (convert 24 9 (.slice pb lb cb)).run Tryz.prog W = .ok (.string S) W ∧ (convert 24 9 (.slice pw lw cw)).run Tryz.prog W = .ok (.string S) W)
    (hQ : ∀ W, Below w9.heap.size w9 W → Q .normal ⟨putAll base [(some 26, .agg #[.int .i64 t, .int .i64 n, .int .i64 sq, .int .i64 kd, .int .i64 ot, .int .i64 on, .int .i64 pt, .int .i64 pn, .string (bas nm), .slice p l c, .slice q m d]), (some 27, .bool false), (some 28, .bool false), (some 29, .bool false), (some 30, .bool false), (some 31, .int .i64 22), (some 32, .bool false), (some 33, .bool false), (some 34, .bool false), (some 35, .bool false), (some 36, .bool false), (some 37, .slice pb lb cb), (some 38, .string S), (some 39, .slice pw lw cw), (some 40, .string S), (some 41, .bool false), (some 42, .bool false), (some 43, .bool false), (some 44, .agg #[.int .i64 t, .int .i64 n, .int .i64 sq, .int .i64 kd, .int .i64 ot, .int .i64 on, .int .i64 pt, .int .i64 pn, .string (bas nm), .slice p l c, .slice q m d]), (some 45, .int .i64 (lw : Nat)), (some 46, .slice pw lw cw), (some 47, .int .i64 (lw : Nat)), (some 48, .bool false), (some 49, .bool false), (some 50, .bool false), (some 51, .agg #[.int .i64 t, .int .i64 n, .int .i64 sq, .int .i64 kd, .int .i64 ot, .int .i64 on, .int .i64 pt, .int .i64 pn, .string (bas nm), .slice p l c, .slice q m d]), (some 52, .agg #[.int .i64 t', .int .i64 n', .int .i64 sq', .int .i64 kd', .int .i64 ot', .int .i64 on', .int .i64 pt', .int .i64 pn', .string (bas nm'), .slice p' l' c', .slice q' m' d']), (some 53, .bool y), (some 54, .agg #[.int .i64 t, .int .i64 n, .int .i64 sq, .int .i64 kd, .int .i64 ot, .int .i64 on, .int .i64 pt, .int .i64 pn, .string (bas nm), .slice p l c, .slice q m d]), (some 55, .agg #[.int .i64 t', .int .i64 n', .int .i64 sq', .int .i64 kd', .int .i64 ot', .int .i64 on', .int .i64 pt', .int .i64 pn', .string (bas nm'), .slice p' l' c', .slice q' m' d']), (some 56, .bool y), (some 57, .bool false), (some 58, .bool false)], dd⟩ W) :
    (Code.region 6 ops true).wp Tryz.prog Q ⟨base, dd⟩ w9 := by
  have hmix : Tryz.prog.follows .mixedOrders = true := by kernel_rfl
  have h2 := (show Tryz.f3.body.bind (regs 6) = some _ from rfl).symm.trans hops
  obtain rfl := Option.some.inj h2
  clear h2 hops
  have below9 : Below w9.heap.size w9 w9.drew := (Below.refl _ _).drew
  obtain ⟨LL, hLe⟩ : ∃ LL : List (Option Tmp × Value), LL = [(some 26, .agg #[.int .i64 t, .int .i64 n, .int .i64 sq, .int .i64 kd, .int .i64 ot, .int .i64 on, .int .i64 pt, .int .i64 pn, .string (bas nm), .slice p l c, .slice q m d]), (some 27, .bool false), (some 28, .bool false), (some 29, .bool false), (some 30, .bool false), (some 31, .int .i64 22), (some 32, .bool false), (some 33, .bool false), (some 34, .bool false), (some 35, .bool false), (some 36, .bool false), (some 37, .slice pb lb cb), (some 38, .string S), (some 39, .slice pw lw cw), (some 40, .string S), (some 41, .bool false), (some 42, .bool false), (some 43, .bool false), (some 44, .agg #[.int .i64 t, .int .i64 n, .int .i64 sq, .int .i64 kd, .int .i64 ot, .int .i64 on, .int .i64 pt, .int .i64 pn, .string (bas nm), .slice p l c, .slice q m d]), (some 45, .int .i64 (lw : Nat)), (some 46, .slice pw lw cw), (some 47, .int .i64 (lw : Nat)), (some 48, .bool false), (some 49, .bool false), (some 50, .bool false), (some 51, .agg #[.int .i64 t, .int .i64 n, .int .i64 sq, .int .i64 kd, .int .i64 ot, .int .i64 on, .int .i64 pt, .int .i64 pn, .string (bas nm), .slice p l c, .slice q m d]), (some 52, .agg #[.int .i64 t', .int .i64 n', .int .i64 sq', .int .i64 kd', .int .i64 ot', .int .i64 on', .int .i64 pt', .int .i64 pn', .string (bas nm'), .slice p' l' c', .slice q' m' d']), (some 53, .bool y), (some 54, .agg #[.int .i64 t, .int .i64 n, .int .i64 sq, .int .i64 kd, .int .i64 ot, .int .i64 on, .int .i64 pt, .int .i64 pn, .string (bas nm), .slice p l c, .slice q m d]), (some 55, .agg #[.int .i64 t', .int .i64 n', .int .i64 sq', .int .i64 kd', .int .i64 ot', .int .i64 on', .int .i64 pt', .int .i64 pn', .string (bas nm'), .slice p' l' c', .slice q' m' d']), (some 56, .bool y), (some 57, .bool false), (some 58, .bool false)] := ⟨_, rfl⟩
  have vv0 : vals LL 0 = .agg #[.int .i64 t, .int .i64 n, .int .i64 sq, .int .i64 kd, .int .i64 ot, .int .i64 on, .int .i64 pt, .int .i64 pn, .string (bas nm), .slice p l c, .slice q m d] := by rw [hLe]; rfl
  have vv1 : vals LL 1 = .bool false := by rw [hLe]; rfl
  have vv2 : vals LL 2 = .bool false := by rw [hLe]; rfl
  have vv3 : vals LL 3 = .bool false := by rw [hLe]; rfl
  have vv4 : vals LL 4 = .bool false := by rw [hLe]; rfl
  have vv5 : vals LL 5 = .int .i64 22 := by rw [hLe]; rfl
  have vv6 : vals LL 6 = .bool false := by rw [hLe]; rfl
  have vv7 : vals LL 7 = .bool false := by rw [hLe]; rfl
  have vv8 : vals LL 8 = .bool false := by rw [hLe]; rfl
  have vv9 : vals LL 9 = .bool false := by rw [hLe]; rfl
  have vv10 : vals LL 10 = .bool false := by rw [hLe]; rfl
  have vv11 : vals LL 11 = .slice pb lb cb := by rw [hLe]; rfl
  have vv12 : vals LL 12 = .string S := by rw [hLe]; rfl
  have vv13 : vals LL 13 = .slice pw lw cw := by rw [hLe]; rfl
  have vv14 : vals LL 14 = .string S := by rw [hLe]; rfl
  have vv15 : vals LL 15 = .bool false := by rw [hLe]; rfl
  have vv16 : vals LL 16 = .bool false := by rw [hLe]; rfl
  have vv17 : vals LL 17 = .bool false := by rw [hLe]; rfl
  have vv18 : vals LL 18 = .agg #[.int .i64 t, .int .i64 n, .int .i64 sq, .int .i64 kd, .int .i64 ot, .int .i64 on, .int .i64 pt, .int .i64 pn, .string (bas nm), .slice p l c, .slice q m d] := by rw [hLe]; rfl
  have vv19 : vals LL 19 = .int .i64 (lw : Nat) := by rw [hLe]; rfl
  have vv20 : vals LL 20 = .slice pw lw cw := by rw [hLe]; rfl
  have vv21 : vals LL 21 = .int .i64 (lw : Nat) := by rw [hLe]; rfl
  have vv22 : vals LL 22 = .bool false := by rw [hLe]; rfl
  have vv23 : vals LL 23 = .bool false := by rw [hLe]; rfl
  have vv24 : vals LL 24 = .bool false := by rw [hLe]; rfl
  have vv25 : vals LL 25 = .agg #[.int .i64 t, .int .i64 n, .int .i64 sq, .int .i64 kd, .int .i64 ot, .int .i64 on, .int .i64 pt, .int .i64 pn, .string (bas nm), .slice p l c, .slice q m d] := by rw [hLe]; rfl
  have vv26 : vals LL 26 = .agg #[.int .i64 t', .int .i64 n', .int .i64 sq', .int .i64 kd', .int .i64 ot', .int .i64 on', .int .i64 pt', .int .i64 pn', .string (bas nm'), .slice p' l' c', .slice q' m' d'] := by rw [hLe]; rfl
  have vv27 : vals LL 27 = .bool y := by rw [hLe]; rfl
  have vv28 : vals LL 28 = .agg #[.int .i64 t, .int .i64 n, .int .i64 sq, .int .i64 kd, .int .i64 ot, .int .i64 on, .int .i64 pt, .int .i64 pn, .string (bas nm), .slice p l c, .slice q m d] := by rw [hLe]; rfl
  have vv29 : vals LL 29 = .agg #[.int .i64 t', .int .i64 n', .int .i64 sq', .int .i64 kd', .int .i64 ot', .int .i64 on', .int .i64 pt', .int .i64 pn', .string (bas nm'), .slice p' l' c', .slice q' m' d'] := by rw [hLe]; rfl
  have vv30 : vals LL 30 = .bool y := by rw [hLe]; rfl
  have vv31 : vals LL 31 = .bool false := by rw [hLe]; rfl
  have vv32 : vals LL 32 = .bool false := by rw [hLe]; rfl
  refine region_laid hmix (by kernel_rfl) 93 hsz (by kernel_rfl) LL (by rw [hLe]; rfl) (fun _ W => Below w9.heap.size w9 W) below9 ?_ ?_
  · intro b W i o a hS hcl ho hb hd ev kp yl
    match i with
    | 0 =>
      simp only [List.getElem?_toArray, List.getElem?_cons_zero, Option.some.injEq] at ho
      subst ho
      have e2 : a.tmps[2]?.getD undef = .pointer (some ⟨g, 0, none⟩) := (kp 2 (by kernel_rfl)).trans b2
      obtain ⟨d0, d1, d2, d3, d4, d5, d6, d7, d8, d9, d10⟩ := (h9.below hS).cells
      rw [vv0]
      refine does_value rfl (by intro c h; cases h) (w' := W) ?_ (hS)
      · simp [execOp, go_sem, e2, d0, d1, d2, d3, d4, d5, d6, d7, d8, d9, d10]
    | 1 =>
      simp only [List.getElem?_toArray, List.getElem?_cons_zero, List.getElem?_cons_succ, Option.some.injEq] at ho
      subst ho
      have p0 : b 0 = true := hd ⟨0, .data⟩ (by simp) rfl
      have e26 := (ev 0 26 rfl p0).trans vv0
      rw [vv1]
      refine does_call rfl (by intro c h; cases h) (f := 10) (args := #[.agg #[.int .i64 t, .int .i64 n, .int .i64 sq, .int .i64 kd, .int .i64 ot, .int .i64 on, .int .i64 pt, .int .i64 pn, .string (bas nm), .slice p l c, .slice q m d]]) ?_ ?_
      · simp [go_sem, e26]
      · exact (cM W hS).mono (fun e w' h => ⟨h.1, hS.trans (h.2.mono hS.size)⟩)
    | 2 =>
      simp only [List.getElem?_toArray, List.getElem?_cons_zero, List.getElem?_cons_succ, Option.some.injEq] at ho
      subst ho
      have e6 : a.tmps[6]?.getD undef = .bool false := (kp 6 (by kernel_rfl)).trans b6
      rw [vv2]
      refine does_value rfl (by intro c h; cases h) (w' := W) ?_ (hS)
      · simp [execOp, go_sem, e6]
    | 3 =>
      simp only [List.getElem?_toArray, List.getElem?_cons_zero, List.getElem?_cons_succ, Option.some.injEq] at ho
      subst ho
      have p1 : b 1 = true := hd ⟨1, .data⟩ (by simp) rfl
      have p2 : b 2 = true := hd ⟨2, .data⟩ (by simp) rfl
      have e27 := (ev 1 27 rfl p1).trans vv1
      have e28 := (ev 2 28 rfl p2).trans vv2
      rw [vv3]
      refine does_value rfl (by intro c h; cases h) (w' := W) ?_ (hS)
      · simp [execOp, go_sem, e27, e28]
    | 4 =>
      simp only [List.getElem?_toArray, List.getElem?_cons_zero, List.getElem?_cons_succ, Option.some.injEq] at ho
      subst ho
      have p3 : b 3 = true := hd ⟨3, .data⟩ (by simp) rfl
      have e29 := (ev 3 29 rfl p3).trans vv3
      rw [vv4]
      refine does_value rfl (by intro c h; cases h) (w' := W) ?_ (hS)
      · simp [execOp, go_sem, e29]
    | 5 =>
      simp only [List.getElem?_toArray, List.getElem?_cons_zero, List.getElem?_cons_succ, Option.some.injEq] at ho
      subst ho
      have p4 : b 4 = true := hd ⟨4, .guard⟩ (by simp) rfl
      have e9 : a.tmps[9]?.getD undef = .int .i64 22 := (kp 9 (by kernel_rfl)).trans b9
      rw [vv5]
      refine does_value_g rfl (yl 4 30 false rfl p4 vv4) (by intro c h; cases h) (w' := W) ?_ (hS)
      · simp [execOp, go_sem, e9]
    | 6 =>
      simp only [List.getElem?_toArray, List.getElem?_cons_zero, List.getElem?_cons_succ, Option.some.injEq] at ho
      subst ho
      have p5 : b 5 = true := hd ⟨5, .data⟩ (by simp) rfl
      have p4 : b 4 = true := hd ⟨4, .guard⟩ (by simp) rfl
      have e31 := (ev 5 31 rfl p5).trans vv5
      rw [vv6]
      refine does_value_g rfl (yl 4 30 false rfl p4 vv4) (by intro c h; cases h) (w' := W) ?_ (hS)
      · simp [execOp, go_sem, e31]
    | 7 =>
      simp only [List.getElem?_toArray, List.getElem?_cons_zero, List.getElem?_cons_succ, Option.some.injEq] at ho
      subst ho
      have p4 : b 4 = true := hd ⟨4, .guard⟩ (by simp) rfl
      have e6 : a.tmps[6]?.getD undef = .bool false := (kp 6 (by kernel_rfl)).trans b6
      rw [vv7]
      refine does_value_g rfl (yl 4 30 false rfl p4 vv4) (by intro c h; cases h) (w' := W) ?_ (hS)
      · simp [execOp, go_sem, e6]
    | 8 =>
      simp only [List.getElem?_toArray, List.getElem?_cons_zero, List.getElem?_cons_succ, Option.some.injEq] at ho
      subst ho
      have p6 : b 6 = true := hd ⟨6, .data⟩ (by simp) rfl
      have p7 : b 7 = true := hd ⟨7, .data⟩ (by simp) rfl
      have p4 : b 4 = true := hd ⟨4, .guard⟩ (by simp) rfl
      have e32 := (ev 6 32 rfl p6).trans vv6
      have e33 := (ev 7 33 rfl p7).trans vv7
      rw [vv8]
      refine does_value_g rfl (yl 4 30 false rfl p4 vv4) (by intro c h; cases h) (w' := W) ?_ (hS)
      · simp [execOp, go_sem, e32, e33]
    | 9 =>
      simp only [List.getElem?_toArray, List.getElem?_cons_zero, List.getElem?_cons_succ, Option.some.injEq] at ho
      subst ho
      have p4 : b 4 = true := hd ⟨4, .data⟩ (by simp) rfl
      have p8 : b 8 = true := hd ⟨8, .data⟩ (by simp) rfl
      have e30 := (ev 4 30 rfl p4).trans vv4
      have e34 := (ev 8 34 rfl p8).trans vv8
      rw [vv9]
      refine does_value rfl (by intro c h; cases h) (w' := W) ?_ (hS)
      · simp [execOp, go_sem, e30, e34]
    | 10 =>
      simp only [List.getElem?_toArray, List.getElem?_cons_zero, List.getElem?_cons_succ, Option.some.injEq] at ho
      subst ho
      have p9 : b 9 = true := hd ⟨9, .data⟩ (by simp) rfl
      have e35 := (ev 9 35 rfl p9).trans vv9
      rw [vv10]
      refine does_value rfl (by intro c h; cases h) (w' := W) ?_ (hS)
      · simp [execOp, go_sem, e35]
    | 11 =>
      simp only [List.getElem?_toArray, List.getElem?_cons_zero, List.getElem?_cons_succ, Option.some.injEq] at ho
      subst ho
      have p10 : b 10 = true := hd ⟨10, .guard⟩ (by simp) rfl
      have e8 : a.tmps[8]?.getD undef = .slice pb lb cb := (kp 8 (by kernel_rfl)).trans b8
      rw [vv11]
      refine does_value_g rfl (yl 10 36 false rfl p10 vv10) (by intro c h; cases h) (w' := W) ?_ (hS)
      · simp [execOp, go_sem, e8]
    | 12 =>
      simp only [List.getElem?_toArray, List.getElem?_cons_zero, List.getElem?_cons_succ, Option.some.injEq] at ho
      subst ho
      have p11 : b 11 = true := hd ⟨11, .data⟩ (by simp) rfl
      have p10 : b 10 = true := hd ⟨10, .guard⟩ (by simp) rfl
      have e37 := (ev 11 37 rfl p11).trans vv11
      rw [vv12]
      refine does_value_g rfl (yl 10 36 false rfl p10 vv10) (by intro c h; cases h) (w' := W) ?_ (hS)
      · simp [execOp, go_sem, e37, (hR W hS).1]
    | 13 =>
      simp only [List.getElem?_toArray, List.getElem?_cons_zero, List.getElem?_cons_succ, Option.some.injEq] at ho
      subst ho
      have p10 : b 10 = true := hd ⟨10, .guard⟩ (by simp) rfl
      have e7 : a.tmps[7]?.getD undef = .slice pw lw cw := (kp 7 (by kernel_rfl)).trans b7
      rw [vv13]
      refine does_value_g rfl (yl 10 36 false rfl p10 vv10) (by intro c h; cases h) (w' := W) ?_ (hS)
      · simp [execOp, go_sem, e7]
    | 14 =>
      simp only [List.getElem?_toArray, List.getElem?_cons_zero, List.getElem?_cons_succ, Option.some.injEq] at ho
      subst ho
      have p13 : b 13 = true := hd ⟨13, .data⟩ (by simp) rfl
      have p10 : b 10 = true := hd ⟨10, .guard⟩ (by simp) rfl
      have e39 := (ev 13 39 rfl p13).trans vv13
      rw [vv14]
      refine does_value_g rfl (yl 10 36 false rfl p10 vv10) (by intro c h; cases h) (w' := W) ?_ (hS)
      · simp [execOp, go_sem, e39, (hR W hS).2]
    | 15 =>
      simp only [List.getElem?_toArray, List.getElem?_cons_zero, List.getElem?_cons_succ, Option.some.injEq] at ho
      subst ho
      have p12 : b 12 = true := hd ⟨12, .data⟩ (by simp) rfl
      have p14 : b 14 = true := hd ⟨14, .data⟩ (by simp) rfl
      have p10 : b 10 = true := hd ⟨10, .guard⟩ (by simp) rfl
      have e38 := (ev 12 38 rfl p12).trans vv12
      have e40 := (ev 14 40 rfl p14).trans vv14
      rw [vv15]
      refine does_value_g rfl (yl 10 36 false rfl p10 vv10) (by intro c h; cases h) (w' := W) ?_ (hS)
      · simp [execOp, go_sem, e38, e40]
    | 16 =>
      simp only [List.getElem?_toArray, List.getElem?_cons_zero, List.getElem?_cons_succ, Option.some.injEq] at ho
      subst ho
      have p10 : b 10 = true := hd ⟨10, .data⟩ (by simp) rfl
      have p15 : b 15 = true := hd ⟨15, .data⟩ (by simp) rfl
      have e36 := (ev 10 36 rfl p10).trans vv10
      have e41 := (ev 15 41 rfl p15).trans vv15
      rw [vv16]
      refine does_value rfl (by intro c h; cases h) (w' := W) ?_ (hS)
      · simp [execOp, go_sem, e36, e41]
    | 17 =>
      simp only [List.getElem?_toArray, List.getElem?_cons_zero, List.getElem?_cons_succ, Option.some.injEq] at ho
      subst ho
      have p16 : b 16 = true := hd ⟨16, .data⟩ (by simp) rfl
      have e42 := (ev 16 42 rfl p16).trans vv16
      rw [vv17]
      refine does_value rfl (by intro c h; cases h) (w' := W) ?_ (hS)
      · simp [execOp, go_sem, e42]
    | 18 =>
      simp only [List.getElem?_toArray, List.getElem?_cons_zero, List.getElem?_cons_succ, Option.some.injEq] at ho
      subst ho
      have p17 : b 17 = true := hd ⟨17, .guard⟩ (by simp) rfl
      have e2 : a.tmps[2]?.getD undef = .pointer (some ⟨g, 0, none⟩) := (kp 2 (by kernel_rfl)).trans b2
      obtain ⟨d0, d1, d2, d3, d4, d5, d6, d7, d8, d9, d10⟩ := (h9.below hS).cells
      rw [vv18]
      refine does_value_g rfl (yl 17 43 false rfl p17 vv17) (by intro c h; cases h) (w' := W) ?_ (hS)
      · simp [execOp, go_sem, e2, d0, d1, d2, d3, d4, d5, d6, d7, d8, d9, d10]
    | 19 =>
      simp only [List.getElem?_toArray, List.getElem?_cons_zero, List.getElem?_cons_succ, Option.some.injEq] at ho
      subst ho
      have p18 : b 18 = true := hd ⟨18, .data⟩ (by simp) rfl
      have p17 : b 17 = true := hd ⟨17, .guard⟩ (by simp) rfl
      have e44 := (ev 18 44 rfl p18).trans vv18
      rw [vv19]
      refine does_call_g rfl (yl 17 43 false rfl p17 vv17) (by intro c h; cases h) (f := 11) (args := #[.agg #[.int .i64 t, .int .i64 n, .int .i64 sq, .int .i64 kd, .int .i64 ot, .int .i64 on, .int .i64 pt, .int .i64 pn, .string (bas nm), .slice p l c, .slice q m d]]) ?_ ?_
      · simp [go_sem, e44]
      · exact (cC W hS).mono (fun e w' h => ⟨h.1, hS.trans (h.2.mono hS.size)⟩)
    | 20 =>
      simp only [List.getElem?_toArray, List.getElem?_cons_zero, List.getElem?_cons_succ, Option.some.injEq] at ho
      subst ho
      have p17 : b 17 = true := hd ⟨17, .guard⟩ (by simp) rfl
      have e7 : a.tmps[7]?.getD undef = .slice pw lw cw := (kp 7 (by kernel_rfl)).trans b7
      rw [vv20]
      refine does_value_g rfl (yl 17 43 false rfl p17 vv17) (by intro c h; cases h) (w' := W) ?_ (hS)
      · simp [execOp, go_sem, e7]
    | 21 =>
      simp only [List.getElem?_toArray, List.getElem?_cons_zero, List.getElem?_cons_succ, Option.some.injEq] at ho
      subst ho
      have p20 : b 20 = true := hd ⟨20, .data⟩ (by simp) rfl
      have p17 : b 17 = true := hd ⟨17, .guard⟩ (by simp) rfl
      have e46 := (ev 20 46 rfl p20).trans vv20
      rw [vv21]
      refine does_value_g rfl (yl 17 43 false rfl p17 vv17) (by intro c h; cases h) (w' := W) ?_ (hS)
      · simp [go_sem, e46]
    | 22 =>
      simp only [List.getElem?_toArray, List.getElem?_cons_zero, List.getElem?_cons_succ, Option.some.injEq] at ho
      subst ho
      have p19 : b 19 = true := hd ⟨19, .data⟩ (by simp) rfl
      have p21 : b 21 = true := hd ⟨21, .data⟩ (by simp) rfl
      have p17 : b 17 = true := hd ⟨17, .guard⟩ (by simp) rfl
      have e45 := (ev 19 45 rfl p19).trans vv19
      have e47 := (ev 21 47 rfl p21).trans vv21
      rw [vv22]
      refine does_value_g rfl (yl 17 43 false rfl p17 vv17) (by intro c h; cases h) (w' := W) ?_ (hS)
      · simp [execOp, go_sem, e45, e47]
    | 23 =>
      simp only [List.getElem?_toArray, List.getElem?_cons_zero, List.getElem?_cons_succ, Option.some.injEq] at ho
      subst ho
      have p17 : b 17 = true := hd ⟨17, .data⟩ (by simp) rfl
      have p22 : b 22 = true := hd ⟨22, .data⟩ (by simp) rfl
      have e43 := (ev 17 43 rfl p17).trans vv17
      have e48 := (ev 22 48 rfl p22).trans vv22
      rw [vv23]
      refine does_value rfl (by intro c h; cases h) (w' := W) ?_ (hS)
      · simp [execOp, go_sem, e43, e48]
    | 24 =>
      simp only [List.getElem?_toArray, List.getElem?_cons_zero, List.getElem?_cons_succ, Option.some.injEq] at ho
      subst ho
      have p23 : b 23 = true := hd ⟨23, .data⟩ (by simp) rfl
      have e49 := (ev 23 49 rfl p23).trans vv23
      rw [vv24]
      refine does_value rfl (by intro c h; cases h) (w' := W) ?_ (hS)
      · simp [execOp, go_sem, e49]
    | 25 =>
      simp only [List.getElem?_toArray, List.getElem?_cons_zero, List.getElem?_cons_succ, Option.some.injEq] at ho
      subst ho
      have p24 : b 24 = true := hd ⟨24, .guard⟩ (by simp) rfl
      have e2 : a.tmps[2]?.getD undef = .pointer (some ⟨g, 0, none⟩) := (kp 2 (by kernel_rfl)).trans b2
      obtain ⟨d0, d1, d2, d3, d4, d5, d6, d7, d8, d9, d10⟩ := (h9.below hS).cells
      rw [vv25]
      refine does_value_g rfl (yl 24 50 false rfl p24 vv24) (by intro c h; cases h) (w' := W) ?_ (hS)
      · simp [execOp, go_sem, e2, d0, d1, d2, d3, d4, d5, d6, d7, d8, d9, d10]
    | 26 =>
      simp only [List.getElem?_toArray, List.getElem?_cons_zero, List.getElem?_cons_succ, Option.some.injEq] at ho
      subst ho
      have p24 : b 24 = true := hd ⟨24, .guard⟩ (by simp) rfl
      have e3 : a.tmps[3]?.getD undef = .pointer (some ⟨g2, 0, none⟩) := (kp 3 (by kernel_rfl)).trans b3
      obtain ⟨d0, d1, d2, d3, d4, d5, d6, d7, d8, d9, d10⟩ := (h9b.below hS).cells
      rw [vv26]
      refine does_value_g rfl (yl 24 50 false rfl p24 vv24) (by intro c h; cases h) (w' := W) ?_ (hS)
      · simp [execOp, go_sem, e3, d0, d1, d2, d3, d4, d5, d6, d7, d8, d9, d10]
    | 27 =>
      simp only [List.getElem?_toArray, List.getElem?_cons_zero, List.getElem?_cons_succ, Option.some.injEq] at ho
      subst ho
      have p25 : b 25 = true := hd ⟨25, .data⟩ (by simp) rfl
      have p26 : b 26 = true := hd ⟨26, .data⟩ (by simp) rfl
      have p24 : b 24 = true := hd ⟨24, .guard⟩ (by simp) rfl
      have e51 := (ev 25 51 rfl p25).trans vv25
      have e52 := (ev 26 52 rfl p26).trans vv26
      rw [vv27]
      refine does_call_g rfl (yl 24 50 false rfl p24 vv24) (by intro c h; cases h) (f := 12) (args := #[.agg #[.int .i64 t, .int .i64 n, .int .i64 sq, .int .i64 kd, .int .i64 ot, .int .i64 on, .int .i64 pt, .int .i64 pn, .string (bas nm), .slice p l c, .slice q m d], .agg #[.int .i64 t', .int .i64 n', .int .i64 sq', .int .i64 kd', .int .i64 ot', .int .i64 on', .int .i64 pt', .int .i64 pn', .string (bas nm'), .slice p' l' c', .slice q' m' d']]) ?_ ?_
      · simp [go_sem, e51, e52]
      · exact (cE W hS).mono (fun e w' h => ⟨h.1, hS.trans (h.2.mono hS.size)⟩)
    | 28 =>
      simp only [List.getElem?_toArray, List.getElem?_cons_zero, List.getElem?_cons_succ, Option.some.injEq] at ho
      subst ho
      have p24 : b 24 = true := hd ⟨24, .guard⟩ (by simp) rfl
      have e2 : a.tmps[2]?.getD undef = .pointer (some ⟨g, 0, none⟩) := (kp 2 (by kernel_rfl)).trans b2
      obtain ⟨d0, d1, d2, d3, d4, d5, d6, d7, d8, d9, d10⟩ := (h9.below hS).cells
      rw [vv28]
      refine does_value_g rfl (yl 24 50 false rfl p24 vv24) (by intro c h; cases h) (w' := W) ?_ (hS)
      · simp [execOp, go_sem, e2, d0, d1, d2, d3, d4, d5, d6, d7, d8, d9, d10]
    | 29 =>
      simp only [List.getElem?_toArray, List.getElem?_cons_zero, List.getElem?_cons_succ, Option.some.injEq] at ho
      subst ho
      have p24 : b 24 = true := hd ⟨24, .guard⟩ (by simp) rfl
      have e3 : a.tmps[3]?.getD undef = .pointer (some ⟨g2, 0, none⟩) := (kp 3 (by kernel_rfl)).trans b3
      obtain ⟨d0, d1, d2, d3, d4, d5, d6, d7, d8, d9, d10⟩ := (h9b.below hS).cells
      rw [vv29]
      refine does_value_g rfl (yl 24 50 false rfl p24 vv24) (by intro c h; cases h) (w' := W) ?_ (hS)
      · simp [execOp, go_sem, e3, d0, d1, d2, d3, d4, d5, d6, d7, d8, d9, d10]
    | 30 =>
      simp only [List.getElem?_toArray, List.getElem?_cons_zero, List.getElem?_cons_succ, Option.some.injEq] at ho
      subst ho
      have p28 : b 28 = true := hd ⟨28, .data⟩ (by simp) rfl
      have p29 : b 29 = true := hd ⟨29, .data⟩ (by simp) rfl
      have p24 : b 24 = true := hd ⟨24, .guard⟩ (by simp) rfl
      have e54 := (ev 28 54 rfl p28).trans vv28
      have e55 := (ev 29 55 rfl p29).trans vv29
      rw [vv30]
      refine does_call_g rfl (yl 24 50 false rfl p24 vv24) (by intro c h; cases h) (f := 13) (args := #[.agg #[.int .i64 t, .int .i64 n, .int .i64 sq, .int .i64 kd, .int .i64 ot, .int .i64 on, .int .i64 pt, .int .i64 pn, .string (bas nm), .slice p l c, .slice q m d], .agg #[.int .i64 t', .int .i64 n', .int .i64 sq', .int .i64 kd', .int .i64 ot', .int .i64 on', .int .i64 pt', .int .i64 pn', .string (bas nm'), .slice p' l' c', .slice q' m' d']]) ?_ ?_
      · simp [go_sem, e54, e55]
      · exact (cF W hS).mono (fun e w' h => ⟨h.1, hS.trans (h.2.mono hS.size)⟩)
    | 31 =>
      simp only [List.getElem?_toArray, List.getElem?_cons_zero, List.getElem?_cons_succ, Option.some.injEq] at ho
      subst ho
      have p27 : b 27 = true := hd ⟨27, .data⟩ (by simp) rfl
      have p30 : b 30 = true := hd ⟨30, .data⟩ (by simp) rfl
      have p24 : b 24 = true := hd ⟨24, .guard⟩ (by simp) rfl
      have e53 := (ev 27 53 rfl p27).trans vv27
      have e56 := (ev 30 56 rfl p30).trans vv30
      rw [vv31]
      refine does_value_g rfl (yl 24 50 false rfl p24 vv24) (by intro c h; cases h) (w' := W) ?_ (hS)
      · simp [execOp, go_sem, e53, e56]
    | 32 =>
      simp only [List.getElem?_toArray, List.getElem?_cons_zero, List.getElem?_cons_succ, Option.some.injEq] at ho
      subst ho
      have p24 : b 24 = true := hd ⟨24, .data⟩ (by simp) rfl
      have p31 : b 31 = true := hd ⟨31, .data⟩ (by simp) rfl
      have e50 := (ev 24 50 rfl p24).trans vv24
      have e57 := (ev 31 57 rfl p31).trans vv31
      rw [vv32]
      refine does_value rfl (by intro c h; cases h) (w' := W) ?_ (hS)
      · simp [execOp, go_sem, e50, e57]
    | k + 33 => simp at ho
  · intro b' W hS _
    subst hLe
    exact hQ W hS

end Go.Proofs.YtegjageenofbjaaGreat.Cd
