/-
  VectorLattice: nine ways through its two tests, each walked whole.
-/
import Derived.Test.YtflmlojdjegnkaaBegun
import Derived.Test.YtflmlojdjegnkaaEqs
namespace Go.Proofs.Ytflmlojdjegnkaa
open Go.RowKit

/-- A callee that answers a truth, told otherwise. -/
theorem Calls_onB {f : Nat} {args : Array Value} {w : World} {x y : Bool} {K : Ending → World → Prop} (h : Calls Try.prog f args w fun e w' => e = .returned (.bool x) ∧ w' = w) (hx : Hid (x = y)) (hk : K (.returned (.bool y)) w) : Calls Try.prog f args w K := by
  rw [hx.out] at h
  exact Calls_on h hk
theorem Calls_newB {f : Nat} {args : Array Value} {w : World} {x y : Bool} {K : Ending → World → Prop} (h : Calls Try.prog f args w fun e w' => e = .returned (.bool x) ∧ Below w.heap.size w w') (hx : Hid (x = y))
    (hk : ∀ w', Hid (Below w.heap.size w w') → K (.returned (.bool y)) w') : Calls Try.prog f args w K := by
  rw [hx.out] at h
  exact Calls_new h hk

set_option maxRecDepth 8000 in
set_option maxHeartbeats 4000000 in
theorem lattice_fxfx (p q r : Option Addr) (a b c A B C : List Int) (ca cb cc : Nat) (w : World) (HA : Hid (Lies w p (A.map iv))) (HB0 : Hid (Lies w q (B.map iv))) (HC : Hid (Lies w r (C.map iv)))
    (KA : Hid (∀ w', Calls Try.prog 6 #[.slice p a.length ca] w' fun e w'' => e = .returned (.slice p A.length ca) ∧ w'' = w')) (KB : Hid (∀ w', Calls Try.prog 6 #[.slice q b.length cb] w' fun e w'' => e = .returned (.slice q B.length cb) ∧ w'' = w')) (KC : Hid (∀ w', Calls Try.prog 6 #[.slice r c.length cc] w' fun e w'' => e = .returned (.slice r C.length cc) ∧ w'' = w'))
    (h1 : leqB A C = false) (h3 : leqB C A = false) :
    Calls Try.prog 4 #[.slice p a.length ca, .slice q b.length cb, .slice r c.length cc] w fun e w' => e = .returned (.bool true) ∧ Below w.heap.size w w' := by
  have HR1 : Hid (leqB A C = false) := h1
  have HR3 : Hid (leqB C A = false) := h3
  clear h1 h3
  have t0 : True := trivial
  have t1 : True := trivial
  have t2 : True := trivial
  have t3 : True := trivial
  have t4 : True := trivial
  have t5 : True := trivial
  have t6 : True := trivial
  have t7 : True := trivial
  have t8 : True := trivial
  have t9 : True := trivial
  have t10 : True := trivial
  have t11 : True := trivial
  have t12 : True := trivial
  have t13 : True := trivial
  have t14 : True := trivial
  have t15 : True := trivial
  have t16 : True := trivial
  have t17 : True := trivial
  have t18 : True := trivial
  generalize a.length = la at *
  generalize b.length = lb at *
  generalize c.length = lc at *
  go_enter Try.func4, Try.ntmps4
  go_wp2_with (first
    | (go_at_call 5; refine Calls_new (begun_any w) ?_; intro w1 HB)
    | (go_at_call 6; have tk := t0; refine Calls_on (KA.out w1) ?_; clear tk t0)
    | (go_at_call 6; have tk := t1; refine Calls_on (KB.out w1) ?_; clear tk t1)
    | (go_at_call 6; have tk := t2; refine Calls_on (KC.out w1) ?_; clear tk t2)
    | (go_at_call 15; have tk := t3; refine Calls_ansAt (max_two p q A B ca cb w1 w1.heap.size rfl (below_lies HB.out HA.out) (below_lies HB.out HB0.out)) ?_; intro p1 c1 w2 M1 Sw2; clear tk t3; replace HB : Hid (Below w.heap.size w w2) := Below.then HB.out Sw2.out (Nat.le_refl _))
    | (go_at_call 15; have tk := t4; refine Calls_ansAt (max_two q p B A cb ca w2 w2.heap.size rfl (below_lies HB.out HB0.out) (below_lies HB.out HA.out)) ?_; intro p2 c2 w3 M2 Sw3; clear tk t4; replace HB : Hid (Below w.heap.size w w3) := Below.then HB.out Sw3.out (Nat.le_refl _))
    | (go_at_call 21; have tk := t5; refine Calls_newB (eq_any p1 p2 (vec (maxAt [A, B])) (vec (maxAt [B, A])) c1 c2 w3 (below_lies Sw3.out M1.out) M2.out) (show _ = true from max_comm_eqB A B) ?_; intro w4 Sw4; clear tk t5; replace HB : Hid (Below w.heap.size w w4) := Below.then HB.out Sw4.out (Nat.le_refl _))
    | (go_at_call 15; have tk := t6; refine Calls_ansAt (max_two p q A B ca cb w4 w4.heap.size rfl (below_lies HB.out HA.out) (below_lies HB.out HB0.out)) ?_; intro p3 c3 w5 M3 Sw5; clear tk t6; replace HB : Hid (Below w.heap.size w w5) := Below.then HB.out Sw5.out (Nat.le_refl _))
    | (go_at_call 15; have tk := t7; refine Calls_ansAt (max_two p3 r (vec (maxAt [A, B])) C c3 cc w5 w5.heap.size rfl M3.out (below_lies HB.out HC.out)) ?_; intro p4 c4 w6 M4 Sw6; clear tk t7; replace HB : Hid (Below w.heap.size w w6) := Below.then HB.out Sw6.out (Nat.le_refl _))
    | (go_at_call 15; have tk := t8; refine Calls_ansAt (max_three p q r A B C ca cb cc w6 w6.heap.size rfl (below_lies HB.out HA.out) (below_lies HB.out HB0.out) (below_lies HB.out HC.out)) ?_; intro p5 c5 w7 M5 Sw7; clear tk t8; replace HB : Hid (Below w.heap.size w w7) := Below.then HB.out Sw7.out (Nat.le_refl _))
    | (go_at_call 21; have tk := t9; refine Calls_newB (eq_any p4 p5 (vec (maxAt [vec (maxAt [A, B]), C])) (vec (maxAt [A, B, C])) c4 c5 w7 (below_lies Sw7.out M4.out) M5.out) (show _ = true from max_assoc_eqB A B C) ?_; intro w8 Sw8; clear tk t9; replace HB : Hid (Below w.heap.size w w8) := Below.then HB.out Sw8.out (Nat.le_refl _))
    | (go_at_call 15; have tk := t10; refine Calls_ansAt (max_two p p A A ca ca w8 w8.heap.size rfl (below_lies HB.out HA.out) (below_lies HB.out HA.out)) ?_; intro p6 c6 w9 M6 Sw9; clear tk t10; replace HB : Hid (Below w.heap.size w w9) := Below.then HB.out Sw9.out (Nat.le_refl _))
    | (go_at_call 21; have tk := t11; refine Calls_newB (eq_any p6 p (vec (maxAt [A, A])) A c6 ca w9 M6.out (below_lies HB.out HA.out)) (show _ = true from max_idem_eqB A) ?_; intro w10 Sw10; clear tk t11; replace HB : Hid (Below w.heap.size w w10) := Below.then HB.out Sw10.out (Nat.le_refl _))
    | (go_at_call 15; have tk := t12; refine Calls_ansAt (max_two p q A B ca cb w10 w10.heap.size rfl (below_lies HB.out HA.out) (below_lies HB.out HB0.out)) ?_; intro p7 c7 w11 M7 Sw11; clear tk t12; replace HB : Hid (Below w.heap.size w w11) := Below.then HB.out Sw11.out (Nat.le_refl _))
    | (go_at_call 19; have tk := t13; refine Calls_onB (leq_any p p7 A (vec (maxAt [A, B])) ca c7 w11 (below_lies HB.out HA.out) M7.out) (show _ = true from leq_max A B) ?_; clear tk t13)
    | (go_at_call 17; have tk := t14; refine Calls_ans (min_any p q A B ca cb w11 (below_lies HB.out HA.out) (below_lies HB.out HB0.out)) ?_; intro p8 c8 w12 M8 Sw12; clear tk t14; replace HB : Hid (Below w.heap.size w w12) := Below.then HB.out Sw12.out (Nat.le_refl _))
    | (go_at_call 19; have tk := t15; refine Calls_onB (leq_any p8 p (vec (minAt A B)) A c8 ca w12 M8.out (below_lies HB.out HA.out)) (show _ = true from min_leq A B) ?_; clear tk t15)
    | (go_at_call 19; have tk := t16; refine Calls_onB (leq_any p r A C ca cc w12 (below_lies HB.out HA.out) (below_lies HB.out HC.out)) (HR1) ?_; clear tk t16)
    | (go_at_call 19; have tk := t17; refine Calls_onB (leq_any r p C A cc ca w12 (below_lies HB.out HC.out) (below_lies HB.out HA.out)) (HR3) ?_; clear tk t17)
    | (go_at_call 15; have tk := t18; refine Calls_ans (max_zero 0 w12) ?_; intro pz cz w13 Mz Sw13; clear tk t18; replace HB : Hid (Below w.heap.size w w13) := Below.then HB.out Sw13.out (Nat.le_refl _)))
  go_ret
  exact ⟨rfl, HB.out⟩

set_option maxRecDepth 8000 in
set_option maxHeartbeats 4000000 in
theorem lattice_fxtf (p q r : Option Addr) (a b c A B C : List Int) (ca cb cc : Nat) (w : World) (HA : Hid (Lies w p (A.map iv))) (HB0 : Hid (Lies w q (B.map iv))) (HC : Hid (Lies w r (C.map iv)))
    (KA : Hid (∀ w', Calls Try.prog 6 #[.slice p a.length ca] w' fun e w'' => e = .returned (.slice p A.length ca) ∧ w'' = w')) (KB : Hid (∀ w', Calls Try.prog 6 #[.slice q b.length cb] w' fun e w'' => e = .returned (.slice q B.length cb) ∧ w'' = w')) (KC : Hid (∀ w', Calls Try.prog 6 #[.slice r c.length cc] w' fun e w'' => e = .returned (.slice r C.length cc) ∧ w'' = w'))
    (h1 : leqB A C = false) (h3 : leqB C A = true) (h4 : leqB C B = false) :
    Calls Try.prog 4 #[.slice p a.length ca, .slice q b.length cb, .slice r c.length cc] w fun e w' => e = .returned (.bool true) ∧ Below w.heap.size w w' := by
  have HR1 : Hid (leqB A C = false) := h1
  have HR3 : Hid (leqB C A = true) := h3
  have HR4 : Hid (leqB C B = false) := h4
  clear h1 h3 h4
  have t0 : True := trivial
  have t1 : True := trivial
  have t2 : True := trivial
  have t3 : True := trivial
  have t4 : True := trivial
  have t5 : True := trivial
  have t6 : True := trivial
  have t7 : True := trivial
  have t8 : True := trivial
  have t9 : True := trivial
  have t10 : True := trivial
  have t11 : True := trivial
  have t12 : True := trivial
  have t13 : True := trivial
  have t14 : True := trivial
  have t15 : True := trivial
  have t16 : True := trivial
  have t17 : True := trivial
  have t18 : True := trivial
  have t19 : True := trivial
  generalize a.length = la at *
  generalize b.length = lb at *
  generalize c.length = lc at *
  go_enter Try.func4, Try.ntmps4
  go_wp2_with (first
    | (go_at_call 5; refine Calls_new (begun_any w) ?_; intro w1 HB)
    | (go_at_call 6; have tk := t0; refine Calls_on (KA.out w1) ?_; clear tk t0)
    | (go_at_call 6; have tk := t1; refine Calls_on (KB.out w1) ?_; clear tk t1)
    | (go_at_call 6; have tk := t2; refine Calls_on (KC.out w1) ?_; clear tk t2)
    | (go_at_call 15; have tk := t3; refine Calls_ansAt (max_two p q A B ca cb w1 w1.heap.size rfl (below_lies HB.out HA.out) (below_lies HB.out HB0.out)) ?_; intro p1 c1 w2 M1 Sw2; clear tk t3; replace HB : Hid (Below w.heap.size w w2) := Below.then HB.out Sw2.out (Nat.le_refl _))
    | (go_at_call 15; have tk := t4; refine Calls_ansAt (max_two q p B A cb ca w2 w2.heap.size rfl (below_lies HB.out HB0.out) (below_lies HB.out HA.out)) ?_; intro p2 c2 w3 M2 Sw3; clear tk t4; replace HB : Hid (Below w.heap.size w w3) := Below.then HB.out Sw3.out (Nat.le_refl _))
    | (go_at_call 21; have tk := t5; refine Calls_newB (eq_any p1 p2 (vec (maxAt [A, B])) (vec (maxAt [B, A])) c1 c2 w3 (below_lies Sw3.out M1.out) M2.out) (show _ = true from max_comm_eqB A B) ?_; intro w4 Sw4; clear tk t5; replace HB : Hid (Below w.heap.size w w4) := Below.then HB.out Sw4.out (Nat.le_refl _))
    | (go_at_call 15; have tk := t6; refine Calls_ansAt (max_two p q A B ca cb w4 w4.heap.size rfl (below_lies HB.out HA.out) (below_lies HB.out HB0.out)) ?_; intro p3 c3 w5 M3 Sw5; clear tk t6; replace HB : Hid (Below w.heap.size w w5) := Below.then HB.out Sw5.out (Nat.le_refl _))
    | (go_at_call 15; have tk := t7; refine Calls_ansAt (max_two p3 r (vec (maxAt [A, B])) C c3 cc w5 w5.heap.size rfl M3.out (below_lies HB.out HC.out)) ?_; intro p4 c4 w6 M4 Sw6; clear tk t7; replace HB : Hid (Below w.heap.size w w6) := Below.then HB.out Sw6.out (Nat.le_refl _))
    | (go_at_call 15; have tk := t8; refine Calls_ansAt (max_three p q r A B C ca cb cc w6 w6.heap.size rfl (below_lies HB.out HA.out) (below_lies HB.out HB0.out) (below_lies HB.out HC.out)) ?_; intro p5 c5 w7 M5 Sw7; clear tk t8; replace HB : Hid (Below w.heap.size w w7) := Below.then HB.out Sw7.out (Nat.le_refl _))
    | (go_at_call 21; have tk := t9; refine Calls_newB (eq_any p4 p5 (vec (maxAt [vec (maxAt [A, B]), C])) (vec (maxAt [A, B, C])) c4 c5 w7 (below_lies Sw7.out M4.out) M5.out) (show _ = true from max_assoc_eqB A B C) ?_; intro w8 Sw8; clear tk t9; replace HB : Hid (Below w.heap.size w w8) := Below.then HB.out Sw8.out (Nat.le_refl _))
    | (go_at_call 15; have tk := t10; refine Calls_ansAt (max_two p p A A ca ca w8 w8.heap.size rfl (below_lies HB.out HA.out) (below_lies HB.out HA.out)) ?_; intro p6 c6 w9 M6 Sw9; clear tk t10; replace HB : Hid (Below w.heap.size w w9) := Below.then HB.out Sw9.out (Nat.le_refl _))
    | (go_at_call 21; have tk := t11; refine Calls_newB (eq_any p6 p (vec (maxAt [A, A])) A c6 ca w9 M6.out (below_lies HB.out HA.out)) (show _ = true from max_idem_eqB A) ?_; intro w10 Sw10; clear tk t11; replace HB : Hid (Below w.heap.size w w10) := Below.then HB.out Sw10.out (Nat.le_refl _))
    | (go_at_call 15; have tk := t12; refine Calls_ansAt (max_two p q A B ca cb w10 w10.heap.size rfl (below_lies HB.out HA.out) (below_lies HB.out HB0.out)) ?_; intro p7 c7 w11 M7 Sw11; clear tk t12; replace HB : Hid (Below w.heap.size w w11) := Below.then HB.out Sw11.out (Nat.le_refl _))
    | (go_at_call 19; have tk := t13; refine Calls_onB (leq_any p p7 A (vec (maxAt [A, B])) ca c7 w11 (below_lies HB.out HA.out) M7.out) (show _ = true from leq_max A B) ?_; clear tk t13)
    | (go_at_call 17; have tk := t14; refine Calls_ans (min_any p q A B ca cb w11 (below_lies HB.out HA.out) (below_lies HB.out HB0.out)) ?_; intro p8 c8 w12 M8 Sw12; clear tk t14; replace HB : Hid (Below w.heap.size w w12) := Below.then HB.out Sw12.out (Nat.le_refl _))
    | (go_at_call 19; have tk := t15; refine Calls_onB (leq_any p8 p (vec (minAt A B)) A c8 ca w12 M8.out (below_lies HB.out HA.out)) (show _ = true from min_leq A B) ?_; clear tk t15)
    | (go_at_call 19; have tk := t16; refine Calls_onB (leq_any p r A C ca cc w12 (below_lies HB.out HA.out) (below_lies HB.out HC.out)) (HR1) ?_; clear tk t16)
    | (go_at_call 19; have tk := t17; refine Calls_onB (leq_any r p C A cc ca w12 (below_lies HB.out HC.out) (below_lies HB.out HA.out)) (HR3) ?_; clear tk t17)
    | (go_at_call 19; have tk := t18; refine Calls_onB (leq_any r q C B cc cb w12 (below_lies HB.out HC.out) (below_lies HB.out HB0.out)) (HR4) ?_; clear tk t18)
    | (go_at_call 15; have tk := t19; refine Calls_ans (max_zero 0 w12) ?_; intro pz cz w13 Mz Sw13; clear tk t19; replace HB : Hid (Below w.heap.size w w13) := Below.then HB.out Sw13.out (Nat.le_refl _)))
  go_ret
  exact ⟨rfl, HB.out⟩

set_option maxRecDepth 8000 in
set_option maxHeartbeats 4000000 in
theorem lattice_fxtt (p q r : Option Addr) (a b c A B C : List Int) (ca cb cc : Nat) (w : World) (HA : Hid (Lies w p (A.map iv))) (HB0 : Hid (Lies w q (B.map iv))) (HC : Hid (Lies w r (C.map iv)))
    (KA : Hid (∀ w', Calls Try.prog 6 #[.slice p a.length ca] w' fun e w'' => e = .returned (.slice p A.length ca) ∧ w'' = w')) (KB : Hid (∀ w', Calls Try.prog 6 #[.slice q b.length cb] w' fun e w'' => e = .returned (.slice q B.length cb) ∧ w'' = w')) (KC : Hid (∀ w', Calls Try.prog 6 #[.slice r c.length cc] w' fun e w'' => e = .returned (.slice r C.length cc) ∧ w'' = w'))
    (h1 : leqB A C = false) (h3 : leqB C A = true) (h4 : leqB C B = true) :
    Calls Try.prog 4 #[.slice p a.length ca, .slice q b.length cb, .slice r c.length cc] w fun e w' => e = .returned (.bool true) ∧ Below w.heap.size w w' := by
  have HR1 : Hid (leqB A C = false) := h1
  have HR3 : Hid (leqB C A = true) := h3
  have HR4 : Hid (leqB C B = true) := h4
  clear h1 h3 h4
  have t0 : True := trivial
  have t1 : True := trivial
  have t2 : True := trivial
  have t3 : True := trivial
  have t4 : True := trivial
  have t5 : True := trivial
  have t6 : True := trivial
  have t7 : True := trivial
  have t8 : True := trivial
  have t9 : True := trivial
  have t10 : True := trivial
  have t11 : True := trivial
  have t12 : True := trivial
  have t13 : True := trivial
  have t14 : True := trivial
  have t15 : True := trivial
  have t16 : True := trivial
  have t17 : True := trivial
  have t18 : True := trivial
  have t19 : True := trivial
  have t20 : True := trivial
  have t21 : True := trivial
  generalize a.length = la at *
  generalize b.length = lb at *
  generalize c.length = lc at *
  go_enter Try.func4, Try.ntmps4
  go_wp2_with (first
    | (go_at_call 5; refine Calls_new (begun_any w) ?_; intro w1 HB)
    | (go_at_call 6; have tk := t0; refine Calls_on (KA.out w1) ?_; clear tk t0)
    | (go_at_call 6; have tk := t1; refine Calls_on (KB.out w1) ?_; clear tk t1)
    | (go_at_call 6; have tk := t2; refine Calls_on (KC.out w1) ?_; clear tk t2)
    | (go_at_call 15; have tk := t3; refine Calls_ansAt (max_two p q A B ca cb w1 w1.heap.size rfl (below_lies HB.out HA.out) (below_lies HB.out HB0.out)) ?_; intro p1 c1 w2 M1 Sw2; clear tk t3; replace HB : Hid (Below w.heap.size w w2) := Below.then HB.out Sw2.out (Nat.le_refl _))
    | (go_at_call 15; have tk := t4; refine Calls_ansAt (max_two q p B A cb ca w2 w2.heap.size rfl (below_lies HB.out HB0.out) (below_lies HB.out HA.out)) ?_; intro p2 c2 w3 M2 Sw3; clear tk t4; replace HB : Hid (Below w.heap.size w w3) := Below.then HB.out Sw3.out (Nat.le_refl _))
    | (go_at_call 21; have tk := t5; refine Calls_newB (eq_any p1 p2 (vec (maxAt [A, B])) (vec (maxAt [B, A])) c1 c2 w3 (below_lies Sw3.out M1.out) M2.out) (show _ = true from max_comm_eqB A B) ?_; intro w4 Sw4; clear tk t5; replace HB : Hid (Below w.heap.size w w4) := Below.then HB.out Sw4.out (Nat.le_refl _))
    | (go_at_call 15; have tk := t6; refine Calls_ansAt (max_two p q A B ca cb w4 w4.heap.size rfl (below_lies HB.out HA.out) (below_lies HB.out HB0.out)) ?_; intro p3 c3 w5 M3 Sw5; clear tk t6; replace HB : Hid (Below w.heap.size w w5) := Below.then HB.out Sw5.out (Nat.le_refl _))
    | (go_at_call 15; have tk := t7; refine Calls_ansAt (max_two p3 r (vec (maxAt [A, B])) C c3 cc w5 w5.heap.size rfl M3.out (below_lies HB.out HC.out)) ?_; intro p4 c4 w6 M4 Sw6; clear tk t7; replace HB : Hid (Below w.heap.size w w6) := Below.then HB.out Sw6.out (Nat.le_refl _))
    | (go_at_call 15; have tk := t8; refine Calls_ansAt (max_three p q r A B C ca cb cc w6 w6.heap.size rfl (below_lies HB.out HA.out) (below_lies HB.out HB0.out) (below_lies HB.out HC.out)) ?_; intro p5 c5 w7 M5 Sw7; clear tk t8; replace HB : Hid (Below w.heap.size w w7) := Below.then HB.out Sw7.out (Nat.le_refl _))
    | (go_at_call 21; have tk := t9; refine Calls_newB (eq_any p4 p5 (vec (maxAt [vec (maxAt [A, B]), C])) (vec (maxAt [A, B, C])) c4 c5 w7 (below_lies Sw7.out M4.out) M5.out) (show _ = true from max_assoc_eqB A B C) ?_; intro w8 Sw8; clear tk t9; replace HB : Hid (Below w.heap.size w w8) := Below.then HB.out Sw8.out (Nat.le_refl _))
    | (go_at_call 15; have tk := t10; refine Calls_ansAt (max_two p p A A ca ca w8 w8.heap.size rfl (below_lies HB.out HA.out) (below_lies HB.out HA.out)) ?_; intro p6 c6 w9 M6 Sw9; clear tk t10; replace HB : Hid (Below w.heap.size w w9) := Below.then HB.out Sw9.out (Nat.le_refl _))
    | (go_at_call 21; have tk := t11; refine Calls_newB (eq_any p6 p (vec (maxAt [A, A])) A c6 ca w9 M6.out (below_lies HB.out HA.out)) (show _ = true from max_idem_eqB A) ?_; intro w10 Sw10; clear tk t11; replace HB : Hid (Below w.heap.size w w10) := Below.then HB.out Sw10.out (Nat.le_refl _))
    | (go_at_call 15; have tk := t12; refine Calls_ansAt (max_two p q A B ca cb w10 w10.heap.size rfl (below_lies HB.out HA.out) (below_lies HB.out HB0.out)) ?_; intro p7 c7 w11 M7 Sw11; clear tk t12; replace HB : Hid (Below w.heap.size w w11) := Below.then HB.out Sw11.out (Nat.le_refl _))
    | (go_at_call 19; have tk := t13; refine Calls_onB (leq_any p p7 A (vec (maxAt [A, B])) ca c7 w11 (below_lies HB.out HA.out) M7.out) (show _ = true from leq_max A B) ?_; clear tk t13)
    | (go_at_call 17; have tk := t14; refine Calls_ans (min_any p q A B ca cb w11 (below_lies HB.out HA.out) (below_lies HB.out HB0.out)) ?_; intro p8 c8 w12 M8 Sw12; clear tk t14; replace HB : Hid (Below w.heap.size w w12) := Below.then HB.out Sw12.out (Nat.le_refl _))
    | (go_at_call 19; have tk := t15; refine Calls_onB (leq_any p8 p (vec (minAt A B)) A c8 ca w12 M8.out (below_lies HB.out HA.out)) (show _ = true from min_leq A B) ?_; clear tk t15)
    | (go_at_call 19; have tk := t16; refine Calls_onB (leq_any p r A C ca cc w12 (below_lies HB.out HA.out) (below_lies HB.out HC.out)) (HR1) ?_; clear tk t16)
    | (go_at_call 19; have tk := t17; refine Calls_onB (leq_any r p C A cc ca w12 (below_lies HB.out HC.out) (below_lies HB.out HA.out)) (HR3) ?_; clear tk t17)
    | (go_at_call 19; have tk := t18; refine Calls_onB (leq_any r q C B cc cb w12 (below_lies HB.out HC.out) (below_lies HB.out HB0.out)) (HR4) ?_; clear tk t18)
    | (go_at_call 17; have tk := t19; refine Calls_ans (min_any p q A B ca cb w12 (below_lies HB.out HA.out) (below_lies HB.out HB0.out)) ?_; intro p10 c10 w13 M10 Sw13; clear tk t19; replace HB : Hid (Below w.heap.size w w13) := Below.then HB.out Sw13.out (Nat.le_refl _))
    | (go_at_call 19; have tk := t20; refine Calls_onB (leq_any r p10 C (vec (minAt A B)) cc c10 w13 (below_lies HB.out HC.out) M10.out) (show _ = true from min_greatest HR3.out HR4.out) ?_; clear tk t20)
    | (go_at_call 15; have tk := t21; refine Calls_ans (max_zero 0 w13) ?_; intro pz cz w14 Mz Sw14; clear tk t21; replace HB : Hid (Below w.heap.size w w14) := Below.then HB.out Sw14.out (Nat.le_refl _)))
  go_ret
  exact ⟨rfl, HB.out⟩

set_option maxRecDepth 8000 in
set_option maxHeartbeats 4000000 in
theorem lattice_tffx (p q r : Option Addr) (a b c A B C : List Int) (ca cb cc : Nat) (w : World) (HA : Hid (Lies w p (A.map iv))) (HB0 : Hid (Lies w q (B.map iv))) (HC : Hid (Lies w r (C.map iv)))
    (KA : Hid (∀ w', Calls Try.prog 6 #[.slice p a.length ca] w' fun e w'' => e = .returned (.slice p A.length ca) ∧ w'' = w')) (KB : Hid (∀ w', Calls Try.prog 6 #[.slice q b.length cb] w' fun e w'' => e = .returned (.slice q B.length cb) ∧ w'' = w')) (KC : Hid (∀ w', Calls Try.prog 6 #[.slice r c.length cc] w' fun e w'' => e = .returned (.slice r C.length cc) ∧ w'' = w'))
    (h1 : leqB A C = true) (h2 : leqB B C = false) (h3 : leqB C A = false) :
    Calls Try.prog 4 #[.slice p a.length ca, .slice q b.length cb, .slice r c.length cc] w fun e w' => e = .returned (.bool true) ∧ Below w.heap.size w w' := by
  have HR1 : Hid (leqB A C = true) := h1
  have HR2 : Hid (leqB B C = false) := h2
  have HR3 : Hid (leqB C A = false) := h3
  clear h1 h2 h3
  have t0 : True := trivial
  have t1 : True := trivial
  have t2 : True := trivial
  have t3 : True := trivial
  have t4 : True := trivial
  have t5 : True := trivial
  have t6 : True := trivial
  have t7 : True := trivial
  have t8 : True := trivial
  have t9 : True := trivial
  have t10 : True := trivial
  have t11 : True := trivial
  have t12 : True := trivial
  have t13 : True := trivial
  have t14 : True := trivial
  have t15 : True := trivial
  have t16 : True := trivial
  have t17 : True := trivial
  have t18 : True := trivial
  have t19 : True := trivial
  generalize a.length = la at *
  generalize b.length = lb at *
  generalize c.length = lc at *
  go_enter Try.func4, Try.ntmps4
  go_wp2_with (first
    | (go_at_call 5; refine Calls_new (begun_any w) ?_; intro w1 HB)
    | (go_at_call 6; have tk := t0; refine Calls_on (KA.out w1) ?_; clear tk t0)
    | (go_at_call 6; have tk := t1; refine Calls_on (KB.out w1) ?_; clear tk t1)
    | (go_at_call 6; have tk := t2; refine Calls_on (KC.out w1) ?_; clear tk t2)
    | (go_at_call 15; have tk := t3; refine Calls_ansAt (max_two p q A B ca cb w1 w1.heap.size rfl (below_lies HB.out HA.out) (below_lies HB.out HB0.out)) ?_; intro p1 c1 w2 M1 Sw2; clear tk t3; replace HB : Hid (Below w.heap.size w w2) := Below.then HB.out Sw2.out (Nat.le_refl _))
    | (go_at_call 15; have tk := t4; refine Calls_ansAt (max_two q p B A cb ca w2 w2.heap.size rfl (below_lies HB.out HB0.out) (below_lies HB.out HA.out)) ?_; intro p2 c2 w3 M2 Sw3; clear tk t4; replace HB : Hid (Below w.heap.size w w3) := Below.then HB.out Sw3.out (Nat.le_refl _))
    | (go_at_call 21; have tk := t5; refine Calls_newB (eq_any p1 p2 (vec (maxAt [A, B])) (vec (maxAt [B, A])) c1 c2 w3 (below_lies Sw3.out M1.out) M2.out) (show _ = true from max_comm_eqB A B) ?_; intro w4 Sw4; clear tk t5; replace HB : Hid (Below w.heap.size w w4) := Below.then HB.out Sw4.out (Nat.le_refl _))
    | (go_at_call 15; have tk := t6; refine Calls_ansAt (max_two p q A B ca cb w4 w4.heap.size rfl (below_lies HB.out HA.out) (below_lies HB.out HB0.out)) ?_; intro p3 c3 w5 M3 Sw5; clear tk t6; replace HB : Hid (Below w.heap.size w w5) := Below.then HB.out Sw5.out (Nat.le_refl _))
    | (go_at_call 15; have tk := t7; refine Calls_ansAt (max_two p3 r (vec (maxAt [A, B])) C c3 cc w5 w5.heap.size rfl M3.out (below_lies HB.out HC.out)) ?_; intro p4 c4 w6 M4 Sw6; clear tk t7; replace HB : Hid (Below w.heap.size w w6) := Below.then HB.out Sw6.out (Nat.le_refl _))
    | (go_at_call 15; have tk := t8; refine Calls_ansAt (max_three p q r A B C ca cb cc w6 w6.heap.size rfl (below_lies HB.out HA.out) (below_lies HB.out HB0.out) (below_lies HB.out HC.out)) ?_; intro p5 c5 w7 M5 Sw7; clear tk t8; replace HB : Hid (Below w.heap.size w w7) := Below.then HB.out Sw7.out (Nat.le_refl _))
    | (go_at_call 21; have tk := t9; refine Calls_newB (eq_any p4 p5 (vec (maxAt [vec (maxAt [A, B]), C])) (vec (maxAt [A, B, C])) c4 c5 w7 (below_lies Sw7.out M4.out) M5.out) (show _ = true from max_assoc_eqB A B C) ?_; intro w8 Sw8; clear tk t9; replace HB : Hid (Below w.heap.size w w8) := Below.then HB.out Sw8.out (Nat.le_refl _))
    | (go_at_call 15; have tk := t10; refine Calls_ansAt (max_two p p A A ca ca w8 w8.heap.size rfl (below_lies HB.out HA.out) (below_lies HB.out HA.out)) ?_; intro p6 c6 w9 M6 Sw9; clear tk t10; replace HB : Hid (Below w.heap.size w w9) := Below.then HB.out Sw9.out (Nat.le_refl _))
    | (go_at_call 21; have tk := t11; refine Calls_newB (eq_any p6 p (vec (maxAt [A, A])) A c6 ca w9 M6.out (below_lies HB.out HA.out)) (show _ = true from max_idem_eqB A) ?_; intro w10 Sw10; clear tk t11; replace HB : Hid (Below w.heap.size w w10) := Below.then HB.out Sw10.out (Nat.le_refl _))
    | (go_at_call 15; have tk := t12; refine Calls_ansAt (max_two p q A B ca cb w10 w10.heap.size rfl (below_lies HB.out HA.out) (below_lies HB.out HB0.out)) ?_; intro p7 c7 w11 M7 Sw11; clear tk t12; replace HB : Hid (Below w.heap.size w w11) := Below.then HB.out Sw11.out (Nat.le_refl _))
    | (go_at_call 19; have tk := t13; refine Calls_onB (leq_any p p7 A (vec (maxAt [A, B])) ca c7 w11 (below_lies HB.out HA.out) M7.out) (show _ = true from leq_max A B) ?_; clear tk t13)
    | (go_at_call 17; have tk := t14; refine Calls_ans (min_any p q A B ca cb w11 (below_lies HB.out HA.out) (below_lies HB.out HB0.out)) ?_; intro p8 c8 w12 M8 Sw12; clear tk t14; replace HB : Hid (Below w.heap.size w w12) := Below.then HB.out Sw12.out (Nat.le_refl _))
    | (go_at_call 19; have tk := t15; refine Calls_onB (leq_any p8 p (vec (minAt A B)) A c8 ca w12 M8.out (below_lies HB.out HA.out)) (show _ = true from min_leq A B) ?_; clear tk t15)
    | (go_at_call 19; have tk := t16; refine Calls_onB (leq_any p r A C ca cc w12 (below_lies HB.out HA.out) (below_lies HB.out HC.out)) (HR1) ?_; clear tk t16)
    | (go_at_call 19; have tk := t17; refine Calls_onB (leq_any q r B C cb cc w12 (below_lies HB.out HB0.out) (below_lies HB.out HC.out)) (HR2) ?_; clear tk t17)
    | (go_at_call 19; have tk := t18; refine Calls_onB (leq_any r p C A cc ca w12 (below_lies HB.out HC.out) (below_lies HB.out HA.out)) (HR3) ?_; clear tk t18)
    | (go_at_call 15; have tk := t19; refine Calls_ans (max_zero 0 w12) ?_; intro pz cz w13 Mz Sw13; clear tk t19; replace HB : Hid (Below w.heap.size w w13) := Below.then HB.out Sw13.out (Nat.le_refl _)))
  go_ret
  exact ⟨rfl, HB.out⟩

set_option maxRecDepth 8000 in
set_option maxHeartbeats 4000000 in
theorem lattice_tftf (p q r : Option Addr) (a b c A B C : List Int) (ca cb cc : Nat) (w : World) (HA : Hid (Lies w p (A.map iv))) (HB0 : Hid (Lies w q (B.map iv))) (HC : Hid (Lies w r (C.map iv)))
    (KA : Hid (∀ w', Calls Try.prog 6 #[.slice p a.length ca] w' fun e w'' => e = .returned (.slice p A.length ca) ∧ w'' = w')) (KB : Hid (∀ w', Calls Try.prog 6 #[.slice q b.length cb] w' fun e w'' => e = .returned (.slice q B.length cb) ∧ w'' = w')) (KC : Hid (∀ w', Calls Try.prog 6 #[.slice r c.length cc] w' fun e w'' => e = .returned (.slice r C.length cc) ∧ w'' = w'))
    (h1 : leqB A C = true) (h2 : leqB B C = false) (h3 : leqB C A = true) (h4 : leqB C B = false) :
    Calls Try.prog 4 #[.slice p a.length ca, .slice q b.length cb, .slice r c.length cc] w fun e w' => e = .returned (.bool true) ∧ Below w.heap.size w w' := by
  have HR1 : Hid (leqB A C = true) := h1
  have HR2 : Hid (leqB B C = false) := h2
  have HR3 : Hid (leqB C A = true) := h3
  have HR4 : Hid (leqB C B = false) := h4
  clear h1 h2 h3 h4
  have t0 : True := trivial
  have t1 : True := trivial
  have t2 : True := trivial
  have t3 : True := trivial
  have t4 : True := trivial
  have t5 : True := trivial
  have t6 : True := trivial
  have t7 : True := trivial
  have t8 : True := trivial
  have t9 : True := trivial
  have t10 : True := trivial
  have t11 : True := trivial
  have t12 : True := trivial
  have t13 : True := trivial
  have t14 : True := trivial
  have t15 : True := trivial
  have t16 : True := trivial
  have t17 : True := trivial
  have t18 : True := trivial
  have t19 : True := trivial
  have t20 : True := trivial
  generalize a.length = la at *
  generalize b.length = lb at *
  generalize c.length = lc at *
  go_enter Try.func4, Try.ntmps4
  go_wp2_with (first
    | (go_at_call 5; refine Calls_new (begun_any w) ?_; intro w1 HB)
    | (go_at_call 6; have tk := t0; refine Calls_on (KA.out w1) ?_; clear tk t0)
    | (go_at_call 6; have tk := t1; refine Calls_on (KB.out w1) ?_; clear tk t1)
    | (go_at_call 6; have tk := t2; refine Calls_on (KC.out w1) ?_; clear tk t2)
    | (go_at_call 15; have tk := t3; refine Calls_ansAt (max_two p q A B ca cb w1 w1.heap.size rfl (below_lies HB.out HA.out) (below_lies HB.out HB0.out)) ?_; intro p1 c1 w2 M1 Sw2; clear tk t3; replace HB : Hid (Below w.heap.size w w2) := Below.then HB.out Sw2.out (Nat.le_refl _))
    | (go_at_call 15; have tk := t4; refine Calls_ansAt (max_two q p B A cb ca w2 w2.heap.size rfl (below_lies HB.out HB0.out) (below_lies HB.out HA.out)) ?_; intro p2 c2 w3 M2 Sw3; clear tk t4; replace HB : Hid (Below w.heap.size w w3) := Below.then HB.out Sw3.out (Nat.le_refl _))
    | (go_at_call 21; have tk := t5; refine Calls_newB (eq_any p1 p2 (vec (maxAt [A, B])) (vec (maxAt [B, A])) c1 c2 w3 (below_lies Sw3.out M1.out) M2.out) (show _ = true from max_comm_eqB A B) ?_; intro w4 Sw4; clear tk t5; replace HB : Hid (Below w.heap.size w w4) := Below.then HB.out Sw4.out (Nat.le_refl _))
    | (go_at_call 15; have tk := t6; refine Calls_ansAt (max_two p q A B ca cb w4 w4.heap.size rfl (below_lies HB.out HA.out) (below_lies HB.out HB0.out)) ?_; intro p3 c3 w5 M3 Sw5; clear tk t6; replace HB : Hid (Below w.heap.size w w5) := Below.then HB.out Sw5.out (Nat.le_refl _))
    | (go_at_call 15; have tk := t7; refine Calls_ansAt (max_two p3 r (vec (maxAt [A, B])) C c3 cc w5 w5.heap.size rfl M3.out (below_lies HB.out HC.out)) ?_; intro p4 c4 w6 M4 Sw6; clear tk t7; replace HB : Hid (Below w.heap.size w w6) := Below.then HB.out Sw6.out (Nat.le_refl _))
    | (go_at_call 15; have tk := t8; refine Calls_ansAt (max_three p q r A B C ca cb cc w6 w6.heap.size rfl (below_lies HB.out HA.out) (below_lies HB.out HB0.out) (below_lies HB.out HC.out)) ?_; intro p5 c5 w7 M5 Sw7; clear tk t8; replace HB : Hid (Below w.heap.size w w7) := Below.then HB.out Sw7.out (Nat.le_refl _))
    | (go_at_call 21; have tk := t9; refine Calls_newB (eq_any p4 p5 (vec (maxAt [vec (maxAt [A, B]), C])) (vec (maxAt [A, B, C])) c4 c5 w7 (below_lies Sw7.out M4.out) M5.out) (show _ = true from max_assoc_eqB A B C) ?_; intro w8 Sw8; clear tk t9; replace HB : Hid (Below w.heap.size w w8) := Below.then HB.out Sw8.out (Nat.le_refl _))
    | (go_at_call 15; have tk := t10; refine Calls_ansAt (max_two p p A A ca ca w8 w8.heap.size rfl (below_lies HB.out HA.out) (below_lies HB.out HA.out)) ?_; intro p6 c6 w9 M6 Sw9; clear tk t10; replace HB : Hid (Below w.heap.size w w9) := Below.then HB.out Sw9.out (Nat.le_refl _))
    | (go_at_call 21; have tk := t11; refine Calls_newB (eq_any p6 p (vec (maxAt [A, A])) A c6 ca w9 M6.out (below_lies HB.out HA.out)) (show _ = true from max_idem_eqB A) ?_; intro w10 Sw10; clear tk t11; replace HB : Hid (Below w.heap.size w w10) := Below.then HB.out Sw10.out (Nat.le_refl _))
    | (go_at_call 15; have tk := t12; refine Calls_ansAt (max_two p q A B ca cb w10 w10.heap.size rfl (below_lies HB.out HA.out) (below_lies HB.out HB0.out)) ?_; intro p7 c7 w11 M7 Sw11; clear tk t12; replace HB : Hid (Below w.heap.size w w11) := Below.then HB.out Sw11.out (Nat.le_refl _))
    | (go_at_call 19; have tk := t13; refine Calls_onB (leq_any p p7 A (vec (maxAt [A, B])) ca c7 w11 (below_lies HB.out HA.out) M7.out) (show _ = true from leq_max A B) ?_; clear tk t13)
    | (go_at_call 17; have tk := t14; refine Calls_ans (min_any p q A B ca cb w11 (below_lies HB.out HA.out) (below_lies HB.out HB0.out)) ?_; intro p8 c8 w12 M8 Sw12; clear tk t14; replace HB : Hid (Below w.heap.size w w12) := Below.then HB.out Sw12.out (Nat.le_refl _))
    | (go_at_call 19; have tk := t15; refine Calls_onB (leq_any p8 p (vec (minAt A B)) A c8 ca w12 M8.out (below_lies HB.out HA.out)) (show _ = true from min_leq A B) ?_; clear tk t15)
    | (go_at_call 19; have tk := t16; refine Calls_onB (leq_any p r A C ca cc w12 (below_lies HB.out HA.out) (below_lies HB.out HC.out)) (HR1) ?_; clear tk t16)
    | (go_at_call 19; have tk := t17; refine Calls_onB (leq_any q r B C cb cc w12 (below_lies HB.out HB0.out) (below_lies HB.out HC.out)) (HR2) ?_; clear tk t17)
    | (go_at_call 19; have tk := t18; refine Calls_onB (leq_any r p C A cc ca w12 (below_lies HB.out HC.out) (below_lies HB.out HA.out)) (HR3) ?_; clear tk t18)
    | (go_at_call 19; have tk := t19; refine Calls_onB (leq_any r q C B cc cb w12 (below_lies HB.out HC.out) (below_lies HB.out HB0.out)) (HR4) ?_; clear tk t19)
    | (go_at_call 15; have tk := t20; refine Calls_ans (max_zero 0 w12) ?_; intro pz cz w13 Mz Sw13; clear tk t20; replace HB : Hid (Below w.heap.size w w13) := Below.then HB.out Sw13.out (Nat.le_refl _)))
  go_ret
  exact ⟨rfl, HB.out⟩

set_option maxRecDepth 8000 in
set_option maxHeartbeats 4000000 in
theorem lattice_tftt (p q r : Option Addr) (a b c A B C : List Int) (ca cb cc : Nat) (w : World) (HA : Hid (Lies w p (A.map iv))) (HB0 : Hid (Lies w q (B.map iv))) (HC : Hid (Lies w r (C.map iv)))
    (KA : Hid (∀ w', Calls Try.prog 6 #[.slice p a.length ca] w' fun e w'' => e = .returned (.slice p A.length ca) ∧ w'' = w')) (KB : Hid (∀ w', Calls Try.prog 6 #[.slice q b.length cb] w' fun e w'' => e = .returned (.slice q B.length cb) ∧ w'' = w')) (KC : Hid (∀ w', Calls Try.prog 6 #[.slice r c.length cc] w' fun e w'' => e = .returned (.slice r C.length cc) ∧ w'' = w'))
    (h1 : leqB A C = true) (h2 : leqB B C = false) (h3 : leqB C A = true) (h4 : leqB C B = true) :
    Calls Try.prog 4 #[.slice p a.length ca, .slice q b.length cb, .slice r c.length cc] w fun e w' => e = .returned (.bool true) ∧ Below w.heap.size w w' := by
  have HR1 : Hid (leqB A C = true) := h1
  have HR2 : Hid (leqB B C = false) := h2
  have HR3 : Hid (leqB C A = true) := h3
  have HR4 : Hid (leqB C B = true) := h4
  clear h1 h2 h3 h4
  have t0 : True := trivial
  have t1 : True := trivial
  have t2 : True := trivial
  have t3 : True := trivial
  have t4 : True := trivial
  have t5 : True := trivial
  have t6 : True := trivial
  have t7 : True := trivial
  have t8 : True := trivial
  have t9 : True := trivial
  have t10 : True := trivial
  have t11 : True := trivial
  have t12 : True := trivial
  have t13 : True := trivial
  have t14 : True := trivial
  have t15 : True := trivial
  have t16 : True := trivial
  have t17 : True := trivial
  have t18 : True := trivial
  have t19 : True := trivial
  have t20 : True := trivial
  have t21 : True := trivial
  have t22 : True := trivial
  generalize a.length = la at *
  generalize b.length = lb at *
  generalize c.length = lc at *
  go_enter Try.func4, Try.ntmps4
  go_wp2_with (first
    | (go_at_call 5; refine Calls_new (begun_any w) ?_; intro w1 HB)
    | (go_at_call 6; have tk := t0; refine Calls_on (KA.out w1) ?_; clear tk t0)
    | (go_at_call 6; have tk := t1; refine Calls_on (KB.out w1) ?_; clear tk t1)
    | (go_at_call 6; have tk := t2; refine Calls_on (KC.out w1) ?_; clear tk t2)
    | (go_at_call 15; have tk := t3; refine Calls_ansAt (max_two p q A B ca cb w1 w1.heap.size rfl (below_lies HB.out HA.out) (below_lies HB.out HB0.out)) ?_; intro p1 c1 w2 M1 Sw2; clear tk t3; replace HB : Hid (Below w.heap.size w w2) := Below.then HB.out Sw2.out (Nat.le_refl _))
    | (go_at_call 15; have tk := t4; refine Calls_ansAt (max_two q p B A cb ca w2 w2.heap.size rfl (below_lies HB.out HB0.out) (below_lies HB.out HA.out)) ?_; intro p2 c2 w3 M2 Sw3; clear tk t4; replace HB : Hid (Below w.heap.size w w3) := Below.then HB.out Sw3.out (Nat.le_refl _))
    | (go_at_call 21; have tk := t5; refine Calls_newB (eq_any p1 p2 (vec (maxAt [A, B])) (vec (maxAt [B, A])) c1 c2 w3 (below_lies Sw3.out M1.out) M2.out) (show _ = true from max_comm_eqB A B) ?_; intro w4 Sw4; clear tk t5; replace HB : Hid (Below w.heap.size w w4) := Below.then HB.out Sw4.out (Nat.le_refl _))
    | (go_at_call 15; have tk := t6; refine Calls_ansAt (max_two p q A B ca cb w4 w4.heap.size rfl (below_lies HB.out HA.out) (below_lies HB.out HB0.out)) ?_; intro p3 c3 w5 M3 Sw5; clear tk t6; replace HB : Hid (Below w.heap.size w w5) := Below.then HB.out Sw5.out (Nat.le_refl _))
    | (go_at_call 15; have tk := t7; refine Calls_ansAt (max_two p3 r (vec (maxAt [A, B])) C c3 cc w5 w5.heap.size rfl M3.out (below_lies HB.out HC.out)) ?_; intro p4 c4 w6 M4 Sw6; clear tk t7; replace HB : Hid (Below w.heap.size w w6) := Below.then HB.out Sw6.out (Nat.le_refl _))
    | (go_at_call 15; have tk := t8; refine Calls_ansAt (max_three p q r A B C ca cb cc w6 w6.heap.size rfl (below_lies HB.out HA.out) (below_lies HB.out HB0.out) (below_lies HB.out HC.out)) ?_; intro p5 c5 w7 M5 Sw7; clear tk t8; replace HB : Hid (Below w.heap.size w w7) := Below.then HB.out Sw7.out (Nat.le_refl _))
    | (go_at_call 21; have tk := t9; refine Calls_newB (eq_any p4 p5 (vec (maxAt [vec (maxAt [A, B]), C])) (vec (maxAt [A, B, C])) c4 c5 w7 (below_lies Sw7.out M4.out) M5.out) (show _ = true from max_assoc_eqB A B C) ?_; intro w8 Sw8; clear tk t9; replace HB : Hid (Below w.heap.size w w8) := Below.then HB.out Sw8.out (Nat.le_refl _))
    | (go_at_call 15; have tk := t10; refine Calls_ansAt (max_two p p A A ca ca w8 w8.heap.size rfl (below_lies HB.out HA.out) (below_lies HB.out HA.out)) ?_; intro p6 c6 w9 M6 Sw9; clear tk t10; replace HB : Hid (Below w.heap.size w w9) := Below.then HB.out Sw9.out (Nat.le_refl _))
    | (go_at_call 21; have tk := t11; refine Calls_newB (eq_any p6 p (vec (maxAt [A, A])) A c6 ca w9 M6.out (below_lies HB.out HA.out)) (show _ = true from max_idem_eqB A) ?_; intro w10 Sw10; clear tk t11; replace HB : Hid (Below w.heap.size w w10) := Below.then HB.out Sw10.out (Nat.le_refl _))
    | (go_at_call 15; have tk := t12; refine Calls_ansAt (max_two p q A B ca cb w10 w10.heap.size rfl (below_lies HB.out HA.out) (below_lies HB.out HB0.out)) ?_; intro p7 c7 w11 M7 Sw11; clear tk t12; replace HB : Hid (Below w.heap.size w w11) := Below.then HB.out Sw11.out (Nat.le_refl _))
    | (go_at_call 19; have tk := t13; refine Calls_onB (leq_any p p7 A (vec (maxAt [A, B])) ca c7 w11 (below_lies HB.out HA.out) M7.out) (show _ = true from leq_max A B) ?_; clear tk t13)
    | (go_at_call 17; have tk := t14; refine Calls_ans (min_any p q A B ca cb w11 (below_lies HB.out HA.out) (below_lies HB.out HB0.out)) ?_; intro p8 c8 w12 M8 Sw12; clear tk t14; replace HB : Hid (Below w.heap.size w w12) := Below.then HB.out Sw12.out (Nat.le_refl _))
    | (go_at_call 19; have tk := t15; refine Calls_onB (leq_any p8 p (vec (minAt A B)) A c8 ca w12 M8.out (below_lies HB.out HA.out)) (show _ = true from min_leq A B) ?_; clear tk t15)
    | (go_at_call 19; have tk := t16; refine Calls_onB (leq_any p r A C ca cc w12 (below_lies HB.out HA.out) (below_lies HB.out HC.out)) (HR1) ?_; clear tk t16)
    | (go_at_call 19; have tk := t17; refine Calls_onB (leq_any q r B C cb cc w12 (below_lies HB.out HB0.out) (below_lies HB.out HC.out)) (HR2) ?_; clear tk t17)
    | (go_at_call 19; have tk := t18; refine Calls_onB (leq_any r p C A cc ca w12 (below_lies HB.out HC.out) (below_lies HB.out HA.out)) (HR3) ?_; clear tk t18)
    | (go_at_call 19; have tk := t19; refine Calls_onB (leq_any r q C B cc cb w12 (below_lies HB.out HC.out) (below_lies HB.out HB0.out)) (HR4) ?_; clear tk t19)
    | (go_at_call 17; have tk := t20; refine Calls_ans (min_any p q A B ca cb w12 (below_lies HB.out HA.out) (below_lies HB.out HB0.out)) ?_; intro p10 c10 w13 M10 Sw13; clear tk t20; replace HB : Hid (Below w.heap.size w w13) := Below.then HB.out Sw13.out (Nat.le_refl _))
    | (go_at_call 19; have tk := t21; refine Calls_onB (leq_any r p10 C (vec (minAt A B)) cc c10 w13 (below_lies HB.out HC.out) M10.out) (show _ = true from min_greatest HR3.out HR4.out) ?_; clear tk t21)
    | (go_at_call 15; have tk := t22; refine Calls_ans (max_zero 0 w13) ?_; intro pz cz w14 Mz Sw14; clear tk t22; replace HB : Hid (Below w.heap.size w w14) := Below.then HB.out Sw14.out (Nat.le_refl _)))
  go_ret
  exact ⟨rfl, HB.out⟩

set_option maxRecDepth 8000 in
set_option maxHeartbeats 4000000 in
theorem lattice_ttfx (p q r : Option Addr) (a b c A B C : List Int) (ca cb cc : Nat) (w : World) (HA : Hid (Lies w p (A.map iv))) (HB0 : Hid (Lies w q (B.map iv))) (HC : Hid (Lies w r (C.map iv)))
    (KA : Hid (∀ w', Calls Try.prog 6 #[.slice p a.length ca] w' fun e w'' => e = .returned (.slice p A.length ca) ∧ w'' = w')) (KB : Hid (∀ w', Calls Try.prog 6 #[.slice q b.length cb] w' fun e w'' => e = .returned (.slice q B.length cb) ∧ w'' = w')) (KC : Hid (∀ w', Calls Try.prog 6 #[.slice r c.length cc] w' fun e w'' => e = .returned (.slice r C.length cc) ∧ w'' = w'))
    (h1 : leqB A C = true) (h2 : leqB B C = true) (h3 : leqB C A = false) :
    Calls Try.prog 4 #[.slice p a.length ca, .slice q b.length cb, .slice r c.length cc] w fun e w' => e = .returned (.bool true) ∧ Below w.heap.size w w' := by
  have HR1 : Hid (leqB A C = true) := h1
  have HR2 : Hid (leqB B C = true) := h2
  have HR3 : Hid (leqB C A = false) := h3
  clear h1 h2 h3
  have t0 : True := trivial
  have t1 : True := trivial
  have t2 : True := trivial
  have t3 : True := trivial
  have t4 : True := trivial
  have t5 : True := trivial
  have t6 : True := trivial
  have t7 : True := trivial
  have t8 : True := trivial
  have t9 : True := trivial
  have t10 : True := trivial
  have t11 : True := trivial
  have t12 : True := trivial
  have t13 : True := trivial
  have t14 : True := trivial
  have t15 : True := trivial
  have t16 : True := trivial
  have t17 : True := trivial
  have t18 : True := trivial
  have t19 : True := trivial
  have t20 : True := trivial
  have t21 : True := trivial
  generalize a.length = la at *
  generalize b.length = lb at *
  generalize c.length = lc at *
  go_enter Try.func4, Try.ntmps4
  go_wp2_with (first
    | (go_at_call 5; refine Calls_new (begun_any w) ?_; intro w1 HB)
    | (go_at_call 6; have tk := t0; refine Calls_on (KA.out w1) ?_; clear tk t0)
    | (go_at_call 6; have tk := t1; refine Calls_on (KB.out w1) ?_; clear tk t1)
    | (go_at_call 6; have tk := t2; refine Calls_on (KC.out w1) ?_; clear tk t2)
    | (go_at_call 15; have tk := t3; refine Calls_ansAt (max_two p q A B ca cb w1 w1.heap.size rfl (below_lies HB.out HA.out) (below_lies HB.out HB0.out)) ?_; intro p1 c1 w2 M1 Sw2; clear tk t3; replace HB : Hid (Below w.heap.size w w2) := Below.then HB.out Sw2.out (Nat.le_refl _))
    | (go_at_call 15; have tk := t4; refine Calls_ansAt (max_two q p B A cb ca w2 w2.heap.size rfl (below_lies HB.out HB0.out) (below_lies HB.out HA.out)) ?_; intro p2 c2 w3 M2 Sw3; clear tk t4; replace HB : Hid (Below w.heap.size w w3) := Below.then HB.out Sw3.out (Nat.le_refl _))
    | (go_at_call 21; have tk := t5; refine Calls_newB (eq_any p1 p2 (vec (maxAt [A, B])) (vec (maxAt [B, A])) c1 c2 w3 (below_lies Sw3.out M1.out) M2.out) (show _ = true from max_comm_eqB A B) ?_; intro w4 Sw4; clear tk t5; replace HB : Hid (Below w.heap.size w w4) := Below.then HB.out Sw4.out (Nat.le_refl _))
    | (go_at_call 15; have tk := t6; refine Calls_ansAt (max_two p q A B ca cb w4 w4.heap.size rfl (below_lies HB.out HA.out) (below_lies HB.out HB0.out)) ?_; intro p3 c3 w5 M3 Sw5; clear tk t6; replace HB : Hid (Below w.heap.size w w5) := Below.then HB.out Sw5.out (Nat.le_refl _))
    | (go_at_call 15; have tk := t7; refine Calls_ansAt (max_two p3 r (vec (maxAt [A, B])) C c3 cc w5 w5.heap.size rfl M3.out (below_lies HB.out HC.out)) ?_; intro p4 c4 w6 M4 Sw6; clear tk t7; replace HB : Hid (Below w.heap.size w w6) := Below.then HB.out Sw6.out (Nat.le_refl _))
    | (go_at_call 15; have tk := t8; refine Calls_ansAt (max_three p q r A B C ca cb cc w6 w6.heap.size rfl (below_lies HB.out HA.out) (below_lies HB.out HB0.out) (below_lies HB.out HC.out)) ?_; intro p5 c5 w7 M5 Sw7; clear tk t8; replace HB : Hid (Below w.heap.size w w7) := Below.then HB.out Sw7.out (Nat.le_refl _))
    | (go_at_call 21; have tk := t9; refine Calls_newB (eq_any p4 p5 (vec (maxAt [vec (maxAt [A, B]), C])) (vec (maxAt [A, B, C])) c4 c5 w7 (below_lies Sw7.out M4.out) M5.out) (show _ = true from max_assoc_eqB A B C) ?_; intro w8 Sw8; clear tk t9; replace HB : Hid (Below w.heap.size w w8) := Below.then HB.out Sw8.out (Nat.le_refl _))
    | (go_at_call 15; have tk := t10; refine Calls_ansAt (max_two p p A A ca ca w8 w8.heap.size rfl (below_lies HB.out HA.out) (below_lies HB.out HA.out)) ?_; intro p6 c6 w9 M6 Sw9; clear tk t10; replace HB : Hid (Below w.heap.size w w9) := Below.then HB.out Sw9.out (Nat.le_refl _))
    | (go_at_call 21; have tk := t11; refine Calls_newB (eq_any p6 p (vec (maxAt [A, A])) A c6 ca w9 M6.out (below_lies HB.out HA.out)) (show _ = true from max_idem_eqB A) ?_; intro w10 Sw10; clear tk t11; replace HB : Hid (Below w.heap.size w w10) := Below.then HB.out Sw10.out (Nat.le_refl _))
    | (go_at_call 15; have tk := t12; refine Calls_ansAt (max_two p q A B ca cb w10 w10.heap.size rfl (below_lies HB.out HA.out) (below_lies HB.out HB0.out)) ?_; intro p7 c7 w11 M7 Sw11; clear tk t12; replace HB : Hid (Below w.heap.size w w11) := Below.then HB.out Sw11.out (Nat.le_refl _))
    | (go_at_call 19; have tk := t13; refine Calls_onB (leq_any p p7 A (vec (maxAt [A, B])) ca c7 w11 (below_lies HB.out HA.out) M7.out) (show _ = true from leq_max A B) ?_; clear tk t13)
    | (go_at_call 17; have tk := t14; refine Calls_ans (min_any p q A B ca cb w11 (below_lies HB.out HA.out) (below_lies HB.out HB0.out)) ?_; intro p8 c8 w12 M8 Sw12; clear tk t14; replace HB : Hid (Below w.heap.size w w12) := Below.then HB.out Sw12.out (Nat.le_refl _))
    | (go_at_call 19; have tk := t15; refine Calls_onB (leq_any p8 p (vec (minAt A B)) A c8 ca w12 M8.out (below_lies HB.out HA.out)) (show _ = true from min_leq A B) ?_; clear tk t15)
    | (go_at_call 19; have tk := t16; refine Calls_onB (leq_any p r A C ca cc w12 (below_lies HB.out HA.out) (below_lies HB.out HC.out)) (HR1) ?_; clear tk t16)
    | (go_at_call 19; have tk := t17; refine Calls_onB (leq_any q r B C cb cc w12 (below_lies HB.out HB0.out) (below_lies HB.out HC.out)) (HR2) ?_; clear tk t17)
    | (go_at_call 15; have tk := t18; refine Calls_ansAt (max_two p q A B ca cb w12 w12.heap.size rfl (below_lies HB.out HA.out) (below_lies HB.out HB0.out)) ?_; intro p9 c9 w13 M9 Sw13; clear tk t18; replace HB : Hid (Below w.heap.size w w13) := Below.then HB.out Sw13.out (Nat.le_refl _))
    | (go_at_call 19; have tk := t19; refine Calls_onB (leq_any p9 r (vec (maxAt [A, B])) C c9 cc w13 M9.out (below_lies HB.out HC.out)) (show _ = true from max_least HR1.out HR2.out) ?_; clear tk t19)
    | (go_at_call 19; have tk := t20; refine Calls_onB (leq_any r p C A cc ca w13 (below_lies HB.out HC.out) (below_lies HB.out HA.out)) (HR3) ?_; clear tk t20)
    | (go_at_call 15; have tk := t21; refine Calls_ans (max_zero 0 w13) ?_; intro pz cz w14 Mz Sw14; clear tk t21; replace HB : Hid (Below w.heap.size w w14) := Below.then HB.out Sw14.out (Nat.le_refl _)))
  go_ret
  exact ⟨rfl, HB.out⟩

set_option maxRecDepth 8000 in
set_option maxHeartbeats 4000000 in
theorem lattice_tttf (p q r : Option Addr) (a b c A B C : List Int) (ca cb cc : Nat) (w : World) (HA : Hid (Lies w p (A.map iv))) (HB0 : Hid (Lies w q (B.map iv))) (HC : Hid (Lies w r (C.map iv)))
    (KA : Hid (∀ w', Calls Try.prog 6 #[.slice p a.length ca] w' fun e w'' => e = .returned (.slice p A.length ca) ∧ w'' = w')) (KB : Hid (∀ w', Calls Try.prog 6 #[.slice q b.length cb] w' fun e w'' => e = .returned (.slice q B.length cb) ∧ w'' = w')) (KC : Hid (∀ w', Calls Try.prog 6 #[.slice r c.length cc] w' fun e w'' => e = .returned (.slice r C.length cc) ∧ w'' = w'))
    (h1 : leqB A C = true) (h2 : leqB B C = true) (h3 : leqB C A = true) (h4 : leqB C B = false) :
    Calls Try.prog 4 #[.slice p a.length ca, .slice q b.length cb, .slice r c.length cc] w fun e w' => e = .returned (.bool true) ∧ Below w.heap.size w w' := by
  have HR1 : Hid (leqB A C = true) := h1
  have HR2 : Hid (leqB B C = true) := h2
  have HR3 : Hid (leqB C A = true) := h3
  have HR4 : Hid (leqB C B = false) := h4
  clear h1 h2 h3 h4
  have t0 : True := trivial
  have t1 : True := trivial
  have t2 : True := trivial
  have t3 : True := trivial
  have t4 : True := trivial
  have t5 : True := trivial
  have t6 : True := trivial
  have t7 : True := trivial
  have t8 : True := trivial
  have t9 : True := trivial
  have t10 : True := trivial
  have t11 : True := trivial
  have t12 : True := trivial
  have t13 : True := trivial
  have t14 : True := trivial
  have t15 : True := trivial
  have t16 : True := trivial
  have t17 : True := trivial
  have t18 : True := trivial
  have t19 : True := trivial
  have t20 : True := trivial
  have t21 : True := trivial
  have t22 : True := trivial
  generalize a.length = la at *
  generalize b.length = lb at *
  generalize c.length = lc at *
  go_enter Try.func4, Try.ntmps4
  go_wp2_with (first
    | (go_at_call 5; refine Calls_new (begun_any w) ?_; intro w1 HB)
    | (go_at_call 6; have tk := t0; refine Calls_on (KA.out w1) ?_; clear tk t0)
    | (go_at_call 6; have tk := t1; refine Calls_on (KB.out w1) ?_; clear tk t1)
    | (go_at_call 6; have tk := t2; refine Calls_on (KC.out w1) ?_; clear tk t2)
    | (go_at_call 15; have tk := t3; refine Calls_ansAt (max_two p q A B ca cb w1 w1.heap.size rfl (below_lies HB.out HA.out) (below_lies HB.out HB0.out)) ?_; intro p1 c1 w2 M1 Sw2; clear tk t3; replace HB : Hid (Below w.heap.size w w2) := Below.then HB.out Sw2.out (Nat.le_refl _))
    | (go_at_call 15; have tk := t4; refine Calls_ansAt (max_two q p B A cb ca w2 w2.heap.size rfl (below_lies HB.out HB0.out) (below_lies HB.out HA.out)) ?_; intro p2 c2 w3 M2 Sw3; clear tk t4; replace HB : Hid (Below w.heap.size w w3) := Below.then HB.out Sw3.out (Nat.le_refl _))
    | (go_at_call 21; have tk := t5; refine Calls_newB (eq_any p1 p2 (vec (maxAt [A, B])) (vec (maxAt [B, A])) c1 c2 w3 (below_lies Sw3.out M1.out) M2.out) (show _ = true from max_comm_eqB A B) ?_; intro w4 Sw4; clear tk t5; replace HB : Hid (Below w.heap.size w w4) := Below.then HB.out Sw4.out (Nat.le_refl _))
    | (go_at_call 15; have tk := t6; refine Calls_ansAt (max_two p q A B ca cb w4 w4.heap.size rfl (below_lies HB.out HA.out) (below_lies HB.out HB0.out)) ?_; intro p3 c3 w5 M3 Sw5; clear tk t6; replace HB : Hid (Below w.heap.size w w5) := Below.then HB.out Sw5.out (Nat.le_refl _))
    | (go_at_call 15; have tk := t7; refine Calls_ansAt (max_two p3 r (vec (maxAt [A, B])) C c3 cc w5 w5.heap.size rfl M3.out (below_lies HB.out HC.out)) ?_; intro p4 c4 w6 M4 Sw6; clear tk t7; replace HB : Hid (Below w.heap.size w w6) := Below.then HB.out Sw6.out (Nat.le_refl _))
    | (go_at_call 15; have tk := t8; refine Calls_ansAt (max_three p q r A B C ca cb cc w6 w6.heap.size rfl (below_lies HB.out HA.out) (below_lies HB.out HB0.out) (below_lies HB.out HC.out)) ?_; intro p5 c5 w7 M5 Sw7; clear tk t8; replace HB : Hid (Below w.heap.size w w7) := Below.then HB.out Sw7.out (Nat.le_refl _))
    | (go_at_call 21; have tk := t9; refine Calls_newB (eq_any p4 p5 (vec (maxAt [vec (maxAt [A, B]), C])) (vec (maxAt [A, B, C])) c4 c5 w7 (below_lies Sw7.out M4.out) M5.out) (show _ = true from max_assoc_eqB A B C) ?_; intro w8 Sw8; clear tk t9; replace HB : Hid (Below w.heap.size w w8) := Below.then HB.out Sw8.out (Nat.le_refl _))
    | (go_at_call 15; have tk := t10; refine Calls_ansAt (max_two p p A A ca ca w8 w8.heap.size rfl (below_lies HB.out HA.out) (below_lies HB.out HA.out)) ?_; intro p6 c6 w9 M6 Sw9; clear tk t10; replace HB : Hid (Below w.heap.size w w9) := Below.then HB.out Sw9.out (Nat.le_refl _))
    | (go_at_call 21; have tk := t11; refine Calls_newB (eq_any p6 p (vec (maxAt [A, A])) A c6 ca w9 M6.out (below_lies HB.out HA.out)) (show _ = true from max_idem_eqB A) ?_; intro w10 Sw10; clear tk t11; replace HB : Hid (Below w.heap.size w w10) := Below.then HB.out Sw10.out (Nat.le_refl _))
    | (go_at_call 15; have tk := t12; refine Calls_ansAt (max_two p q A B ca cb w10 w10.heap.size rfl (below_lies HB.out HA.out) (below_lies HB.out HB0.out)) ?_; intro p7 c7 w11 M7 Sw11; clear tk t12; replace HB : Hid (Below w.heap.size w w11) := Below.then HB.out Sw11.out (Nat.le_refl _))
    | (go_at_call 19; have tk := t13; refine Calls_onB (leq_any p p7 A (vec (maxAt [A, B])) ca c7 w11 (below_lies HB.out HA.out) M7.out) (show _ = true from leq_max A B) ?_; clear tk t13)
    | (go_at_call 17; have tk := t14; refine Calls_ans (min_any p q A B ca cb w11 (below_lies HB.out HA.out) (below_lies HB.out HB0.out)) ?_; intro p8 c8 w12 M8 Sw12; clear tk t14; replace HB : Hid (Below w.heap.size w w12) := Below.then HB.out Sw12.out (Nat.le_refl _))
    | (go_at_call 19; have tk := t15; refine Calls_onB (leq_any p8 p (vec (minAt A B)) A c8 ca w12 M8.out (below_lies HB.out HA.out)) (show _ = true from min_leq A B) ?_; clear tk t15)
    | (go_at_call 19; have tk := t16; refine Calls_onB (leq_any p r A C ca cc w12 (below_lies HB.out HA.out) (below_lies HB.out HC.out)) (HR1) ?_; clear tk t16)
    | (go_at_call 19; have tk := t17; refine Calls_onB (leq_any q r B C cb cc w12 (below_lies HB.out HB0.out) (below_lies HB.out HC.out)) (HR2) ?_; clear tk t17)
    | (go_at_call 15; have tk := t18; refine Calls_ansAt (max_two p q A B ca cb w12 w12.heap.size rfl (below_lies HB.out HA.out) (below_lies HB.out HB0.out)) ?_; intro p9 c9 w13 M9 Sw13; clear tk t18; replace HB : Hid (Below w.heap.size w w13) := Below.then HB.out Sw13.out (Nat.le_refl _))
    | (go_at_call 19; have tk := t19; refine Calls_onB (leq_any p9 r (vec (maxAt [A, B])) C c9 cc w13 M9.out (below_lies HB.out HC.out)) (show _ = true from max_least HR1.out HR2.out) ?_; clear tk t19)
    | (go_at_call 19; have tk := t20; refine Calls_onB (leq_any r p C A cc ca w13 (below_lies HB.out HC.out) (below_lies HB.out HA.out)) (HR3) ?_; clear tk t20)
    | (go_at_call 19; have tk := t21; refine Calls_onB (leq_any r q C B cc cb w13 (below_lies HB.out HC.out) (below_lies HB.out HB0.out)) (HR4) ?_; clear tk t21)
    | (go_at_call 15; have tk := t22; refine Calls_ans (max_zero 0 w13) ?_; intro pz cz w14 Mz Sw14; clear tk t22; replace HB : Hid (Below w.heap.size w w14) := Below.then HB.out Sw14.out (Nat.le_refl _)))
  go_ret
  exact ⟨rfl, HB.out⟩

set_option maxRecDepth 8000 in
set_option maxHeartbeats 4000000 in
theorem lattice_tttt (p q r : Option Addr) (a b c A B C : List Int) (ca cb cc : Nat) (w : World) (HA : Hid (Lies w p (A.map iv))) (HB0 : Hid (Lies w q (B.map iv))) (HC : Hid (Lies w r (C.map iv)))
    (KA : Hid (∀ w', Calls Try.prog 6 #[.slice p a.length ca] w' fun e w'' => e = .returned (.slice p A.length ca) ∧ w'' = w')) (KB : Hid (∀ w', Calls Try.prog 6 #[.slice q b.length cb] w' fun e w'' => e = .returned (.slice q B.length cb) ∧ w'' = w')) (KC : Hid (∀ w', Calls Try.prog 6 #[.slice r c.length cc] w' fun e w'' => e = .returned (.slice r C.length cc) ∧ w'' = w'))
    (h1 : leqB A C = true) (h2 : leqB B C = true) (h3 : leqB C A = true) (h4 : leqB C B = true) :
    Calls Try.prog 4 #[.slice p a.length ca, .slice q b.length cb, .slice r c.length cc] w fun e w' => e = .returned (.bool true) ∧ Below w.heap.size w w' := by
  have HR1 : Hid (leqB A C = true) := h1
  have HR2 : Hid (leqB B C = true) := h2
  have HR3 : Hid (leqB C A = true) := h3
  have HR4 : Hid (leqB C B = true) := h4
  clear h1 h2 h3 h4
  have t0 : True := trivial
  have t1 : True := trivial
  have t2 : True := trivial
  have t3 : True := trivial
  have t4 : True := trivial
  have t5 : True := trivial
  have t6 : True := trivial
  have t7 : True := trivial
  have t8 : True := trivial
  have t9 : True := trivial
  have t10 : True := trivial
  have t11 : True := trivial
  have t12 : True := trivial
  have t13 : True := trivial
  have t14 : True := trivial
  have t15 : True := trivial
  have t16 : True := trivial
  have t17 : True := trivial
  have t18 : True := trivial
  have t19 : True := trivial
  have t20 : True := trivial
  have t21 : True := trivial
  have t22 : True := trivial
  have t23 : True := trivial
  have t24 : True := trivial
  generalize a.length = la at *
  generalize b.length = lb at *
  generalize c.length = lc at *
  go_enter Try.func4, Try.ntmps4
  go_wp2_with (first
    | (go_at_call 5; refine Calls_new (begun_any w) ?_; intro w1 HB)
    | (go_at_call 6; have tk := t0; refine Calls_on (KA.out w1) ?_; clear tk t0)
    | (go_at_call 6; have tk := t1; refine Calls_on (KB.out w1) ?_; clear tk t1)
    | (go_at_call 6; have tk := t2; refine Calls_on (KC.out w1) ?_; clear tk t2)
    | (go_at_call 15; have tk := t3; refine Calls_ansAt (max_two p q A B ca cb w1 w1.heap.size rfl (below_lies HB.out HA.out) (below_lies HB.out HB0.out)) ?_; intro p1 c1 w2 M1 Sw2; clear tk t3; replace HB : Hid (Below w.heap.size w w2) := Below.then HB.out Sw2.out (Nat.le_refl _))
    | (go_at_call 15; have tk := t4; refine Calls_ansAt (max_two q p B A cb ca w2 w2.heap.size rfl (below_lies HB.out HB0.out) (below_lies HB.out HA.out)) ?_; intro p2 c2 w3 M2 Sw3; clear tk t4; replace HB : Hid (Below w.heap.size w w3) := Below.then HB.out Sw3.out (Nat.le_refl _))
    | (go_at_call 21; have tk := t5; refine Calls_newB (eq_any p1 p2 (vec (maxAt [A, B])) (vec (maxAt [B, A])) c1 c2 w3 (below_lies Sw3.out M1.out) M2.out) (show _ = true from max_comm_eqB A B) ?_; intro w4 Sw4; clear tk t5; replace HB : Hid (Below w.heap.size w w4) := Below.then HB.out Sw4.out (Nat.le_refl _))
    | (go_at_call 15; have tk := t6; refine Calls_ansAt (max_two p q A B ca cb w4 w4.heap.size rfl (below_lies HB.out HA.out) (below_lies HB.out HB0.out)) ?_; intro p3 c3 w5 M3 Sw5; clear tk t6; replace HB : Hid (Below w.heap.size w w5) := Below.then HB.out Sw5.out (Nat.le_refl _))
    | (go_at_call 15; have tk := t7; refine Calls_ansAt (max_two p3 r (vec (maxAt [A, B])) C c3 cc w5 w5.heap.size rfl M3.out (below_lies HB.out HC.out)) ?_; intro p4 c4 w6 M4 Sw6; clear tk t7; replace HB : Hid (Below w.heap.size w w6) := Below.then HB.out Sw6.out (Nat.le_refl _))
    | (go_at_call 15; have tk := t8; refine Calls_ansAt (max_three p q r A B C ca cb cc w6 w6.heap.size rfl (below_lies HB.out HA.out) (below_lies HB.out HB0.out) (below_lies HB.out HC.out)) ?_; intro p5 c5 w7 M5 Sw7; clear tk t8; replace HB : Hid (Below w.heap.size w w7) := Below.then HB.out Sw7.out (Nat.le_refl _))
    | (go_at_call 21; have tk := t9; refine Calls_newB (eq_any p4 p5 (vec (maxAt [vec (maxAt [A, B]), C])) (vec (maxAt [A, B, C])) c4 c5 w7 (below_lies Sw7.out M4.out) M5.out) (show _ = true from max_assoc_eqB A B C) ?_; intro w8 Sw8; clear tk t9; replace HB : Hid (Below w.heap.size w w8) := Below.then HB.out Sw8.out (Nat.le_refl _))
    | (go_at_call 15; have tk := t10; refine Calls_ansAt (max_two p p A A ca ca w8 w8.heap.size rfl (below_lies HB.out HA.out) (below_lies HB.out HA.out)) ?_; intro p6 c6 w9 M6 Sw9; clear tk t10; replace HB : Hid (Below w.heap.size w w9) := Below.then HB.out Sw9.out (Nat.le_refl _))
    | (go_at_call 21; have tk := t11; refine Calls_newB (eq_any p6 p (vec (maxAt [A, A])) A c6 ca w9 M6.out (below_lies HB.out HA.out)) (show _ = true from max_idem_eqB A) ?_; intro w10 Sw10; clear tk t11; replace HB : Hid (Below w.heap.size w w10) := Below.then HB.out Sw10.out (Nat.le_refl _))
    | (go_at_call 15; have tk := t12; refine Calls_ansAt (max_two p q A B ca cb w10 w10.heap.size rfl (below_lies HB.out HA.out) (below_lies HB.out HB0.out)) ?_; intro p7 c7 w11 M7 Sw11; clear tk t12; replace HB : Hid (Below w.heap.size w w11) := Below.then HB.out Sw11.out (Nat.le_refl _))
    | (go_at_call 19; have tk := t13; refine Calls_onB (leq_any p p7 A (vec (maxAt [A, B])) ca c7 w11 (below_lies HB.out HA.out) M7.out) (show _ = true from leq_max A B) ?_; clear tk t13)
    | (go_at_call 17; have tk := t14; refine Calls_ans (min_any p q A B ca cb w11 (below_lies HB.out HA.out) (below_lies HB.out HB0.out)) ?_; intro p8 c8 w12 M8 Sw12; clear tk t14; replace HB : Hid (Below w.heap.size w w12) := Below.then HB.out Sw12.out (Nat.le_refl _))
    | (go_at_call 19; have tk := t15; refine Calls_onB (leq_any p8 p (vec (minAt A B)) A c8 ca w12 M8.out (below_lies HB.out HA.out)) (show _ = true from min_leq A B) ?_; clear tk t15)
    | (go_at_call 19; have tk := t16; refine Calls_onB (leq_any p r A C ca cc w12 (below_lies HB.out HA.out) (below_lies HB.out HC.out)) (HR1) ?_; clear tk t16)
    | (go_at_call 19; have tk := t17; refine Calls_onB (leq_any q r B C cb cc w12 (below_lies HB.out HB0.out) (below_lies HB.out HC.out)) (HR2) ?_; clear tk t17)
    | (go_at_call 15; have tk := t18; refine Calls_ansAt (max_two p q A B ca cb w12 w12.heap.size rfl (below_lies HB.out HA.out) (below_lies HB.out HB0.out)) ?_; intro p9 c9 w13 M9 Sw13; clear tk t18; replace HB : Hid (Below w.heap.size w w13) := Below.then HB.out Sw13.out (Nat.le_refl _))
    | (go_at_call 19; have tk := t19; refine Calls_onB (leq_any p9 r (vec (maxAt [A, B])) C c9 cc w13 M9.out (below_lies HB.out HC.out)) (show _ = true from max_least HR1.out HR2.out) ?_; clear tk t19)
    | (go_at_call 19; have tk := t20; refine Calls_onB (leq_any r p C A cc ca w13 (below_lies HB.out HC.out) (below_lies HB.out HA.out)) (HR3) ?_; clear tk t20)
    | (go_at_call 19; have tk := t21; refine Calls_onB (leq_any r q C B cc cb w13 (below_lies HB.out HC.out) (below_lies HB.out HB0.out)) (HR4) ?_; clear tk t21)
    | (go_at_call 17; have tk := t22; refine Calls_ans (min_any p q A B ca cb w13 (below_lies HB.out HA.out) (below_lies HB.out HB0.out)) ?_; intro p10 c10 w14 M10 Sw14; clear tk t22; replace HB : Hid (Below w.heap.size w w14) := Below.then HB.out Sw14.out (Nat.le_refl _))
    | (go_at_call 19; have tk := t23; refine Calls_onB (leq_any r p10 C (vec (minAt A B)) cc c10 w14 (below_lies HB.out HC.out) M10.out) (show _ = true from min_greatest HR3.out HR4.out) ?_; clear tk t23)
    | (go_at_call 15; have tk := t24; refine Calls_ans (max_zero 0 w14) ?_; intro pz cz w15 Mz Sw15; clear tk t24; replace HB : Hid (Below w.heap.size w w15) := Below.then HB.out Sw15.out (Nat.le_refl _)))
  go_ret
  exact ⟨rfl, HB.out⟩

theorem lattice_any (p q r : Option Addr) (a b c : List Int) (ca cb cc : Nat) (w : World) (la : a.length ≤ ca) (lb : b.length ≤ cb) (lc : c.length ≤ cc) (ma : a.length ≤ maxLen) (mb : b.length ≤ maxLen) (mc : c.length ≤ maxLen)
    (ha : Lies w p (a.map iv)) (hb : Lies w q (b.map iv)) (hc : Lies w r (c.map iv)) :
    Calls Try.prog 4 #[.slice p a.length ca, .slice q b.length cb, .slice r c.length cc] w fun e w' => e = .returned (.bool true) ∧ Below w.heap.size w w' := by
  have HA : Hid (Lies w p ((cut a).map iv)) := lies_take ha 80
  have HB0 : Hid (Lies w q ((cut b).map iv)) := lies_take hb 80
  have HC : Hid (Lies w r ((cut c).map iv)) := lies_take hc 80
  have KA : Hid (∀ w', Calls Try.prog 6 #[.slice p a.length ca] w' fun e w'' => e = .returned (.slice p (cut a).length ca) ∧ w'' = w') := fun w' => cut_any p a ca w' la ma
  have KB : Hid (∀ w', Calls Try.prog 6 #[.slice q b.length cb] w' fun e w'' => e = .returned (.slice q (cut b).length cb) ∧ w'' = w') := fun w' => cut_any q b cb w' lb mb
  have KC : Hid (∀ w', Calls Try.prog 6 #[.slice r c.length cc] w' fun e w'' => e = .returned (.slice r (cut c).length cc) ∧ w'' = w') := fun w' => cut_any r c cc w' lc mc
  cases h1 : leqB (cut a) (cut c) with
  | false =>
    cases h3 : leqB (cut c) (cut a) with
    | false => exact lattice_fxfx p q r a b c (cut a) (cut b) (cut c) ca cb cc w HA HB0 HC KA KB KC h1 h3
    | true =>
      cases h4 : leqB (cut c) (cut b) with
      | false => exact lattice_fxtf p q r a b c (cut a) (cut b) (cut c) ca cb cc w HA HB0 HC KA KB KC h1 h3 h4
      | true => exact lattice_fxtt p q r a b c (cut a) (cut b) (cut c) ca cb cc w HA HB0 HC KA KB KC h1 h3 h4
  | true =>
    cases h2 : leqB (cut b) (cut c) with
    | false =>
      cases h3 : leqB (cut c) (cut a) with
      | false => exact lattice_tffx p q r a b c (cut a) (cut b) (cut c) ca cb cc w HA HB0 HC KA KB KC h1 h2 h3
      | true =>
        cases h4 : leqB (cut c) (cut b) with
        | false => exact lattice_tftf p q r a b c (cut a) (cut b) (cut c) ca cb cc w HA HB0 HC KA KB KC h1 h2 h3 h4
        | true => exact lattice_tftt p q r a b c (cut a) (cut b) (cut c) ca cb cc w HA HB0 HC KA KB KC h1 h2 h3 h4
    | true =>
      cases h3 : leqB (cut c) (cut a) with
      | false => exact lattice_ttfx p q r a b c (cut a) (cut b) (cut c) ca cb cc w HA HB0 HC KA KB KC h1 h2 h3
      | true =>
        cases h4 : leqB (cut c) (cut b) with
        | false => exact lattice_tttf p q r a b c (cut a) (cut b) (cut c) ca cb cc w HA HB0 HC KA KB KC h1 h2 h3 h4
        | true => exact lattice_tttt p q r a b c (cut a) (cut b) (cut c) ca cb cc w HA HB0 HC KA KB KC h1 h2 h3 h4

end Go.Proofs.Ytflmlojdjegnkaa
