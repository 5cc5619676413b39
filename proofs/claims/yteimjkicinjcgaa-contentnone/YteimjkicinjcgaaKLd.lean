/-
  isSeen, Behind, compareStamp, isBehindOne; the document's Behind.
-/
import Derived.Test.YteimjkicinjcgaaKLc

namespace Go.Proofs.Yteimjkicinjcgaa.Ck.Y.L
open Go.RowKit Go.Maps

theorem cell_keptH {w w' : World} {b k : Nat} {v : Value} (h : w.cell? ⟨b, k, none⟩ = some v) (hb : Below w.heap.size w w') : w'.cell? ⟨b, k, none⟩ = some v := (hb.cell (p := ⟨b, k, none⟩) (cell_lt h)).trans h
theorem below_thenH {a b c : World} (h : Below a.heap.size a b) (k : Below b.heap.size b c) : Below a.heap.size a c := h.trans (k.mono h.size)
theorem below_drewH (w : World) : Below w.heap.size w w.drew := ⟨rfl, rfl, rfl, Nat.le_refl _, fun _ _ => rfl⟩
/-- One that a vector has seen. -/
def seenB (sq n : Int) (ns : List Int) : Bool := decide (sq ≤ Vc.atZ ns n)

set_option maxRecDepth 8000 in
set_option maxHeartbeats 1000000 in
theorem isSeen_in (t n sq : Int) (sp dp : Option Addr) (nl sc bl dc : Nat) (q : Option Addr) (ns : List Int) (ml mc : Nat) (w : World) (hm : ns.length = ml) (hq : Cd.Lies w q (ns.map Cd.iv)) :
    Calls Try.prog 36 #[.agg #[.int .i64 t, .int .i64 n, .int .i64 sq, .slice sp nl sc, .slice dp bl dc], .slice q ml mc] w fun e w' => e = .returned (.bool (seenB sq n ns)) ∧ Below w.heap.size w w' := by
  obtain ⟨w2, hw2⟩ : ∃ w2, w2 = w.alloc (.cells #[.int .i64 t, .int .i64 n, .int .i64 sq, .slice sp nl sc, .slice dp bl dc] 43) := ⟨_, rfl⟩
  have hk : w2.heap[w.heap.size]? = some (.cells #[.int .i64 t, .int .i64 n, .int .i64 sq, .slice sp nl sc, .slice dp bl dc] 43 (0, 0)) := by rw [hw2]; exact heap_alloc_new w _
  have HB : Hid (Below w.heap.size w w2) := by rw [hw2]; exact below_new w _
  have c1 := cellOf hk 1
  have c2 := cellOf hk 2
  have CC : w2.cell? ⟨w.heap.size, 1, none⟩ = some (.int .i64 n) ∧ w2.cell? ⟨w.heap.size, 2, none⟩ = some (.int .i64 sq) := ⟨c1, c2⟩
  clear c1 c2
  obtain ⟨c1, c2⟩ := CC
  have HA : ∀ W, Below w2.heap.size w2 W → Calls Try.prog 59 #[.slice q ml mc, .int .i64 n] W fun e w' => e = .returned (.int .i64 (Vc.atZ ns n)) ∧ Below W.heap.size W w' := fun W hW => by
    have := Vc.at_any q ns mc n W (Cd.below_lies (below_thenH HB.out hW) hq)
    rw [hm] at this
    exact Calls_fresh this
  obtain ⟨z, hz⟩ : ∃ z, Vc.atZ ns n = z := ⟨_, rfl⟩
  have HX : Hid (seenB sq n ns = decide (sq ≤ z)) := by show _ = _; unfold seenB; rw [hz]
  rw [hz] at HA
  have HW2 : Hid (w2 = w.alloc (.cells #[.int .i64 t, .int .i64 n, .int .i64 sq, .slice sp nl sc, .slice dp bl dc] 43)) := hw2
  clear hm hq hz hk hw2
  go_enter Try.func36, Try.ntmps36
  go_wp2_with fail
  rw [← HW2.out]
  have HS : ∀ W W', (W.cell? ⟨w.heap.size, 1, none⟩ = some (.int .i64 n) ∧ W.cell? ⟨w.heap.size, 2, none⟩ = some (.int .i64 sq) ∧ Hid (Below w2.heap.size w2 W)) → Hid (Below W.heap.size W W') → W'.cell? ⟨w.heap.size, 1, none⟩ = some (.int .i64 n) ∧ W'.cell? ⟨w.heap.size, 2, none⟩ = some (.int .i64 sq) ∧ Hid (Below w2.heap.size w2 W') := fun W W' h1 h2 =>
    have hb := below_thenH h1.2.2.out h2.out
    ⟨cell_keptH c1 hb, cell_keptH c2 hb, hb⟩
  have S1 : w2.drew.cell? ⟨w.heap.size, 1, none⟩ = some (.int .i64 n) ∧ w2.drew.cell? ⟨w.heap.size, 2, none⟩ = some (.int .i64 sq) ∧ Hid (Below w2.heap.size w2 w2.drew) := ⟨c1, c2, below_drewH w2⟩
  have S2 : w2.cell? ⟨w.heap.size, 1, none⟩ = some (.int .i64 n) ∧ w2.cell? ⟨w.heap.size, 2, none⟩ = some (.int .i64 sq) ∧ Hid (Below w2.heap.size w2 w2) := ⟨c1, c2, Below.refl _ _⟩
  have HF : ∀ W, (W.cell? ⟨w.heap.size, 1, none⟩ = some (.int .i64 n) ∧ W.cell? ⟨w.heap.size, 2, none⟩ = some (.int .i64 sq) ∧ Hid (Below w2.heap.size w2 W)) → Below w2.heap.size w2 W := fun W hW => hW.2.2.out
  go_region_held3 (fun W => W.cell? ⟨w.heap.size, 1, none⟩ = some (.int .i64 n) ∧ W.cell? ⟨w.heap.size, 2, none⟩ = some (.int .i64 sq) ∧ Hid (Below w2.heap.size w2 W))
    (first | exact S1 | exact S2 | assumption | exact HS _ _ (by assumption) (by assumption))
    (first | (go_at_call 59; refine Calls_new (HA _ (HF _ (by assumption))) ?_; intro w3 HB3))
  have HW : Hid (Below w2.heap.size w2 _) := HF _ (by assumption)
  go_wp2
  go_ret
  rw [HX.out]
  exact ⟨rfl, below_thenH HB.out HW.out⟩

theorem isSeen_any (x : VG) (q : Option Addr) (ns : List Int) (mc : Nat) (w : World) (hq : Cd.Lies w q (ns.map Cd.iv)) :
    Calls Try.prog 36 #[vgv x, .slice q ns.length mc] w fun e w' => e = .returned (.bool (seenB x.sq x.n ns)) ∧ Below w.heap.size w w' := isSeen_in x.t x.n x.sq x.sp x.dp x.ns.length x.sc x.bs.length x.dc q ns ns.length mc w rfl hq

set_option maxRecDepth 8000 in
set_option maxHeartbeats 1000000 in
theorem compare_any (x : VG) (t' n' : Int) (w : World) :
    Calls Try.prog 55 #[vgv x, idv t' n'] w fun e w' => e = .returned (.int .i64 (cmpZ x.t x.n t' n')) ∧ Below w.heap.size w w' := by
  obtain ⟨W0, hW0⟩ : ∃ W0, W0 = (w.alloc (.cells (vgC x) 43)).alloc (.cells #[.int .i64 t', .int .i64 n'] 30) := ⟨_, rfl⟩
  have b0 : Below w.heap.size w W0 := by rw [hW0]; exact (below_two w _ _).out
  have k1 : W0.heap[w.heap.size]? = some (.cells (vgC x) 43 (0, 0)) := by
    rw [hW0, Below.heap_alloc _ _ _ (by simp)]; exact heap_alloc_new w _
  have k2 : W0.heap[w.heap.size + 1]? = some (.cells #[.int .i64 t', .int .i64 n'] 30 (0, 0)) := by
    have := heap_alloc_new (w.alloc (.cells (vgC x) 43)) (.cells #[.int .i64 t', .int .i64 n'] 30)
    rw [← hW0] at this
    rwa [show (w.alloc (.cells (vgC x) 43)).heap.size = w.heap.size + 1 by simp] at this
  have HC : Hid (Calls Try.prog 72 #[idv x.t x.n, idv t' n'] W0 fun e w' => e = .returned (.int .i64 (cmpZ x.t x.n t' n')) ∧ Below W0.heap.size W0 w') := cmp_any x.t x.n t' n' W0
  have HB : Hid (Below w.heap.size w W0) := b0
  obtain ⟨a0, a1, a2, a3, a4⟩ := ver_cells k1
  have z0 : W0.cell? ⟨w.heap.size + 1, 0, none⟩ = some (.int .i64 t') := cellOf k2 0
  have z1 : W0.cell? ⟨w.heap.size + 1, 1, none⟩ = some (.int .i64 n') := cellOf k2 1
  have HW : Hid (W0 = (w.alloc (.cells (vgC x) 43)).alloc (.cells #[.int .i64 t', .int .i64 n'] 30)) := hW0
  clear b0 k1 k2 hW0
  obtain ⟨t, n, sq, ns, sp, sc, bs, dp, dc⟩ := x
  simp only [vgv, vgC] at *
  generalize cmpZ t n t' n' = r at *
  generalize ns.length = nl at *
  generalize bs.length = bl at *
  go_enter Try.func55, Try.ntmps55
  go_wp2_with (go_at_call 72; rw [← HW.out]; refine Calls_new HC.out ?_; intro w3 HB3)
  go_ret
  exact ⟨rfl, below_thenH HB.out HB3.out⟩

set_option maxRecDepth 8000 in
set_option maxHeartbeats 1000000 in
theorem behindOne_any (x : VG) (fb : Nat) (q : Option Addr) (ns : List Int) (mc : Nat) (w : World) (hf : w.cell? ⟨fb, 1, none⟩ = some (.slice q ns.length mc)) (hq : Cd.Lies w q (ns.map Cd.iv)) :
    Calls Try.prog 53 #[.pointer (some ⟨fb, 0, none⟩), vgv x] w fun e w' => e = .returned (.bool (seenB x.sq x.n ns)) ∧ Below w.heap.size w w' := by
  obtain ⟨w2, hw2⟩ : ∃ w2, w2 = w.alloc (.cells (vgC x) 43) := ⟨_, rfl⟩
  have hk : w2.heap[w.heap.size]? = some (.cells (vgC x) 43 (0, 0)) := by rw [hw2]; exact heap_alloc_new w _
  have HB : Hid (Below w.heap.size w w2) := by rw [hw2]; exact below_new w _
  have HA : ∀ W, Below w2.heap.size w2 W → Calls Try.prog 36 #[vgv x, .slice q ns.length mc] W fun e w' => e = .returned (.bool (seenB x.sq x.n ns)) ∧ Below W.heap.size W w' := fun W hW => isSeen_any x q ns mc W (Cd.below_lies (below_thenH HB.out hW) hq)
  have cf : w2.cell? ⟨fb, 1, none⟩ = some (.slice q ns.length mc) := cell_keptH hf HB.out
  obtain ⟨a0, a1, a2, a3, a4⟩ := ver_cells hk
  generalize seenB x.sq x.n ns = r at *
  have HW2 : Hid (w2 = w.alloc (.cells (vgC x) 43)) := hw2
  clear hq hk hw2 hf
  obtain ⟨t, n, sq, ns', sp, sc, bs, dp, dc⟩ := x
  simp only [vgv, vgC] at *
  generalize ns'.length = nl at *
  generalize bs.length = bl at *
  generalize ns.length = ml at *
  go_enter Try.func53, Try.ntmps53
  go_wp2_with fail
  rw [← HW2.out]
  have HS : ∀ W W', (W.cell? ⟨w.heap.size, 0, none⟩ = some (.int .i64 t) ∧ W.cell? ⟨w.heap.size, 1, none⟩ = some (.int .i64 n) ∧ W.cell? ⟨w.heap.size, 2, none⟩ = some (.int .i64 sq) ∧ W.cell? ⟨w.heap.size, 3, none⟩ = some (.slice sp nl sc) ∧ W.cell? ⟨w.heap.size, 4, none⟩ = some (.slice dp bl dc) ∧ W.cell? ⟨fb, 1, none⟩ = some (.slice q ml mc) ∧ Hid (Below w2.heap.size w2 W)) → Hid (Below W.heap.size W W') → W'.cell? ⟨w.heap.size, 0, none⟩ = some (.int .i64 t) ∧ W'.cell? ⟨w.heap.size, 1, none⟩ = some (.int .i64 n) ∧ W'.cell? ⟨w.heap.size, 2, none⟩ = some (.int .i64 sq) ∧ W'.cell? ⟨w.heap.size, 3, none⟩ = some (.slice sp nl sc) ∧ W'.cell? ⟨w.heap.size, 4, none⟩ = some (.slice dp bl dc) ∧ W'.cell? ⟨fb, 1, none⟩ = some (.slice q ml mc) ∧ Hid (Below w2.heap.size w2 W') := fun W W' h1 h2 =>
    have hb := below_thenH h1.2.2.2.2.2.2.out h2.out
    ⟨cell_keptH a0 hb, cell_keptH a1 hb, cell_keptH a2 hb, cell_keptH a3 hb, cell_keptH a4 hb, cell_keptH cf hb, hb⟩
  have S1 : w2.drew.cell? ⟨w.heap.size, 0, none⟩ = some (.int .i64 t) ∧ w2.drew.cell? ⟨w.heap.size, 1, none⟩ = some (.int .i64 n) ∧ w2.drew.cell? ⟨w.heap.size, 2, none⟩ = some (.int .i64 sq) ∧ w2.drew.cell? ⟨w.heap.size, 3, none⟩ = some (.slice sp nl sc) ∧ w2.drew.cell? ⟨w.heap.size, 4, none⟩ = some (.slice dp bl dc) ∧ w2.drew.cell? ⟨fb, 1, none⟩ = some (.slice q ml mc) ∧ Hid (Below w2.heap.size w2 w2.drew) := ⟨a0, a1, a2, a3, a4, cf, below_drewH w2⟩
  have S2 : w2.cell? ⟨w.heap.size, 0, none⟩ = some (.int .i64 t) ∧ w2.cell? ⟨w.heap.size, 1, none⟩ = some (.int .i64 n) ∧ w2.cell? ⟨w.heap.size, 2, none⟩ = some (.int .i64 sq) ∧ w2.cell? ⟨w.heap.size, 3, none⟩ = some (.slice sp nl sc) ∧ w2.cell? ⟨w.heap.size, 4, none⟩ = some (.slice dp bl dc) ∧ w2.cell? ⟨fb, 1, none⟩ = some (.slice q ml mc) ∧ Hid (Below w2.heap.size w2 w2) := ⟨a0, a1, a2, a3, a4, cf, Below.refl _ _⟩
  have HF : ∀ W, (W.cell? ⟨w.heap.size, 0, none⟩ = some (.int .i64 t) ∧ W.cell? ⟨w.heap.size, 1, none⟩ = some (.int .i64 n) ∧ W.cell? ⟨w.heap.size, 2, none⟩ = some (.int .i64 sq) ∧ W.cell? ⟨w.heap.size, 3, none⟩ = some (.slice sp nl sc) ∧ W.cell? ⟨w.heap.size, 4, none⟩ = some (.slice dp bl dc) ∧ W.cell? ⟨fb, 1, none⟩ = some (.slice q ml mc) ∧ Hid (Below w2.heap.size w2 W)) → Below w2.heap.size w2 W := fun W hW => hW.2.2.2.2.2.2.out
  go_region_held3 (fun W => W.cell? ⟨w.heap.size, 0, none⟩ = some (.int .i64 t) ∧ W.cell? ⟨w.heap.size, 1, none⟩ = some (.int .i64 n) ∧ W.cell? ⟨w.heap.size, 2, none⟩ = some (.int .i64 sq) ∧ W.cell? ⟨w.heap.size, 3, none⟩ = some (.slice sp nl sc) ∧ W.cell? ⟨w.heap.size, 4, none⟩ = some (.slice dp bl dc) ∧ W.cell? ⟨fb, 1, none⟩ = some (.slice q ml mc) ∧ Hid (Below w2.heap.size w2 W))
    (first | exact S1 | exact S2 | assumption | exact HS _ _ (by assumption) (by assumption))
    (first | (go_at_call 36; refine Calls_new (HA _ (HF _ (by assumption))) ?_; intro w3 HB3))
  have HW : Hid (Below w2.heap.size w2 _) := HF _ (by assumption)
  go_wp2
  go_ret
  exact ⟨rfl, below_thenH HB.out HW.out⟩

end Go.Proofs.Yteimjkicinjcgaa.Ck.Y.L
