/-
  VectorPairs: two loops, then each answer held against the document's own.
-/
import Derived.Test.YtflmlojdjegnkaaLat
namespace Go.Proofs.Ytflmlojdjegnkaa
open Go.RowKit

theorem is_again (p q : Option Addr) (f : Nat → Int) (hf : ∀ k, 0 ≤ f k ∧ f k ≤ 1152921504606846976) (cp cq : Nat) (w : World) (hp : Lies w p ((vec f).map iv)) (hq : Lies w q ((vec f).map iv)) :
    Calls Try.prog 10 #[.slice p (vec f).length cp, .slice q (vec f).length cq] w fun e w' => e = .returned (.bool true) ∧ Below w.heap.size w w' :=
  is_true p q (vec f) (vec f) cp cq w (vec_again hf) (by have := vec_le f; omega) hp hq
theorem max_range (a b : List Int) (k : Nat) : 0 ≤ maxAt [a, b] k ∧ maxAt [a, b] k ≤ 1152921504606846976 := maxAt_range _ k

set_option maxRecDepth 8000 in
set_option maxHeartbeats 4000000 in
theorem pairs_t (p q : Option Addr) (a b A B : List Int) (ca cb : Nat) (z n : Int) (w : World) (HA : Hid (Lies w p (A.map iv))) (HB0 : Hid (Lies w q (B.map iv)))
    (KA : Hid (∀ w', Calls Try.prog 6 #[.slice p a.length ca] w' fun e w'' => e = .returned (.slice p A.length ca) ∧ w'' = w')) (KB : Hid (∀ w', Calls Try.prog 6 #[.slice q b.length cb] w' fun e w'' => e = .returned (.slice q B.length cb) ∧ w'' = w'))
    (h1 : leqB A B = true) :
    Calls Try.prog 3 #[.slice p a.length ca, .slice q b.length cb, .int .i64 z, .int .i64 n] w fun e w' => e = .returned (.bool true) ∧ Below w.heap.size w w' := by
  have HR1 : Hid (leqB A B = true) := h1
  have HP : Hid ((!leqB A B && !leqB B A) = false) := by show _ = _; rw [h1]; rfl
  clear h1
  obtain ⟨x, hx⟩ : ∃ x, atZ A z = x := ⟨_, rfl⟩
  have HZ : Hid (atZ A z = x) := hx
  obtain ⟨ee, he⟩ : ∃ ee, eqB A B = ee := ⟨_, rfl⟩
  have HE : Hid (eqB A B = ee) := he
  obtain ⟨s, hs⟩ : ∃ s, sumTo A 64 = s := ⟨_, rfl⟩
  have HS : Hid (sumTo A 64 = s) := hs
  have hxx : (x == x) = true := by simp
  have hss : (s == s) = true := by simp
  have hee : (ee == ee) = true := by simp
  clear hx he hs
  have t0 : True := trivial
  have t1 : True := trivial
  have t2 : True := trivial
  have t3 : True := trivial
  have t4 : True := trivial
  have t5 : True := trivial
  have t6 : True := trivial
  have t7 : True := trivial
  have t8 : True := trivial
  have t9 : True := trivial
  have t10 : True := trivial
  have t11 : True := trivial
  have t12 : True := trivial
  have t13 : True := trivial
  have t14 : True := trivial
  have t15 : True := trivial
  have t16 : True := trivial
  have t17 : True := trivial
  have t18 : True := trivial
  have t19 : True := trivial
  have k6 : True := trivial
  have k6' : True := trivial
  generalize a.length = la at *
  generalize b.length = lb at *
  go_enter Try.func3, Try.ntmps3
  go_wp2_with (first
    | (go_at_call 5; refine Calls_new (begun_any w) ?_; intro w1 HB)
    | (go_at_call 6; have tk := k6; refine Calls_on (KA.out w1) ?_; clear tk k6)
    | (go_at_call 6; have tk := k6'; refine Calls_on (KB.out w1) ?_; clear tk k6'))
  go_loop [10, 11] (fun ss kk => ∃ k : Nat, kk = .int .i64 k ∧ k ≤ 64 ∧ ss = .int .i64 (sumTo A k)) (fun _ kk => 64 - (intOf kk).toNat)
  case atStart => exact ⟨0, rfl, by omega, rfl⟩
  case round =>
    obtain ⟨k, rfl, hk, rfl⟩ := hrel
    by_cases hlt : k < 64
    · have hltI : (k : Int) < 64 := by omega
      have c7 := rat_nat p A ca k w1 (below_lies HB.out HA.out) hlt
      have r1 := sumTo_range A k
      have r2 := atOf_range A k
      have HN : Hid (sumTo A (k + 1) = min (sumTo A k + atOf A k) 4611686018427387904) := rfl
      generalize sumTo A k = u at *
      generalize atOf A k = y at *
      obtain ⟨r11, r12⟩ := r1
      obtain ⟨r21, r22⟩ := r2
      by_cases hov : 4611686018427387904 - y < u
      · go_wp2_with (go_at_call 7; refine Calls_on c7 ?_)
        go_round
        case rel => exact ⟨k + 1, by go_num, by omega, by rw [HN.out]; congr 1; omega⟩
        case measure => simp [intOf]; omega
      · go_wp2_with (go_at_call 7; refine Calls_on c7 ?_)
        go_round
        case rel => exact ⟨k + 1, by go_num, by omega, by rw [HN.out]; congr 1; omega⟩
        case measure => simp [intOf]; omega
    · obtain rfl : k = 64 := by omega
      rw [HS.out]
      obtain ⟨L, hL⟩ : ∃ L, aheadTo A B 64 = L := ⟨_, rfl⟩
      have c8 := ahead_any p q A B ca cb w1 (below_lies HB.out HA.out) (below_lies HB.out HB0.out)
      have C9 : Hid (∀ w', Below w.heap.size w w' → Calls Try.prog 9 #[.slice p A.length ca, .slice q B.length cb] w' (Ans w' L)) := fun w' h => by
        rw [← hL]; exact rahead_any p q A B ca cb w' (below_lies h HA.out) (below_lies h HB0.out)
      have HLL : Hid (L.length ≤ 64) := by show _ ≤ _; rw [← hL]; exact aheadTo_le A B 64
      have hne : ((L.length : Int) != L.length) = false := by simp
      rw [hL] at c8
      clear hL hlt
      go_wp2_with (first
        | (go_at_call 8; refine Calls_ans c8 ?_; intro px cx w2 MX S2; clear c8; replace HB : Hid (Below w.heap.size w w2) := Below.then HB.out S2.out (Nat.le_refl _))
        | (go_at_call 9; refine Calls_ans (C9.out w2 HB.out) ?_; intro py cy w3 MY S3; clear C9; replace HB : Hid (Below w.heap.size w w3) := Below.then HB.out S3.out (Nat.le_refl _)))
      have MX3 : Hid (Lies w3 px (L.map iv)) := below_lies S3.out MX.out
      clear S2 S3 MX
      go_loopw [14] (fun ii wr => ∃ i : Nat, ii = .int .i64 i ∧ i ≤ L.length ∧ Hid (Below w3.heap.size w3 wr)) (fun ii _ => L.length - (intOf ii).toNat)
      case atStart => exact ⟨0, rfl, by omega, Below.refl _ _⟩
      case round =>
        obtain ⟨i, rfl, hi, HBW⟩ := hrel
        by_cases hlt : i < L.length
        · have hltI : (i : Int) < L.length := by omega
          have hL1 := HLL.out
          obtain ⟨y, hy⟩ : ∃ y, L[i]? = some y := ⟨_, List.getElem?_eq_getElem hlt⟩
          obtain ⟨pb, po, rfl, d1⟩ := lies_at (below_lies HBW.out MX3.out) hy
          obtain ⟨gb, go, rfl, d2⟩ := lies_at (below_lies HBW.out MY.out) hy
          have hyy : (y != y) = false := by simp
          clear hy
          go_wp2
          go_region
          go_wp2
          go_roundw
          case rel => exact ⟨i + 1, by go_num, by omega, HBW.out.drew⟩
          case measure => simp [intOf]; omega
        · obtain rfl : i = L.length := by omega
          replace HB : Hid (Below w.heap.size w wr) := Below.then HB.out HBW.out (Nat.le_refl _)
          clear hlt HBW MX3 MY
          go_wp2_with (first
            | (go_at_call 11; have tk := t0; refine Calls_ans (norm_any p A ca wr (below_lies HB.out HA.out)) ?_; intro p1 c1 w4 M1 Sw4; clear tk t0; replace HB : Hid (Below w.heap.size w w4) := Below.then HB.out Sw4.out (Nat.le_refl _))
            | (go_at_call 10; have tk := t1; refine Calls_new (is_true p1 p (vec (atOf A)) A c1 ca w4 rfl (by have := vec_le (atOf A); omega) M1.out (below_lies HB.out HA.out)) ?_; intro w5 Sw5; clear tk t1; replace HB : Hid (Below w.heap.size w w5) := Below.then HB.out Sw5.out (Nat.le_refl _))
            | (go_at_call 12; have tk := t2; refine Calls_on (v := .returned (.int .i64 x)) (by have c := at_any p A ca z w5 (below_lies HB.out HA.out); rw [HZ.out] at c; exact c) ?_; clear tk t2)
            | (go_at_call 7; have tk := t3; refine Calls_on (v := .returned (.int .i64 x)) (by have c := rat_any p A ca z w5 (below_lies HB.out HA.out); rw [HZ.out] at c; exact c) ?_; clear tk t3)
            | (go_at_call 13; have tk := t4; refine Calls_ans (with_any p A ca z n w5 (below_lies HB.out HA.out)) ?_; intro p2 c2 w6 M2 Sw6; clear tk t4; replace HB : Hid (Below w.heap.size w w6) := Below.then HB.out Sw6.out (Nat.le_refl _))
            | (go_at_call 14; have tk := t5; refine Calls_ans (rwith_any p A ca z n w6 (below_lies HB.out HA.out)) ?_; intro p3 c3 w7 M3 Sw7; clear tk t5; replace HB : Hid (Below w.heap.size w w7) := Below.then HB.out Sw7.out (Nat.le_refl _))
            | (go_at_call 10; have tk := t6; refine Calls_new (is_again p2 p3 (withAt A z n) (withAt_range A z n) c2 c3 w7 (below_lies Sw7.out M2.out) M3.out) ?_; intro w8 Sw8; clear tk t6; replace HB : Hid (Below w.heap.size w w8) := Below.then HB.out Sw8.out (Nat.le_refl _))
            | (go_at_call 15; have tk := t7; refine Calls_ansAt (max_two p q A B ca cb w8 w8.heap.size rfl (below_lies HB.out HA.out) (below_lies HB.out HB0.out)) ?_; intro p4 c4 w9 M4 Sw9; clear tk t7; replace HB : Hid (Below w.heap.size w w9) := Below.then HB.out Sw9.out (Nat.le_refl _))
            | (go_at_call 16; have tk := t8; refine Calls_ans (rmax_any p q A B ca cb w9 (below_lies HB.out HA.out) (below_lies HB.out HB0.out)) ?_; intro p5 c5 w10 M5 Sw10; clear tk t8; replace HB : Hid (Below w.heap.size w w10) := Below.then HB.out Sw10.out (Nat.le_refl _))
            | (go_at_call 10; have tk := t9; refine Calls_new (is_again p4 p5 (maxAt [A, B]) (max_range A B) c4 c5 w10 (below_lies Sw10.out M4.out) M5.out) ?_; intro w11 Sw11; clear tk t9; replace HB : Hid (Below w.heap.size w w11) := Below.then HB.out Sw11.out (Nat.le_refl _))
            | (go_at_call 17; have tk := t10; refine Calls_ans (min_any p q A B ca cb w11 (below_lies HB.out HA.out) (below_lies HB.out HB0.out)) ?_; intro p6 c6 w12 M6 Sw12; clear tk t10; replace HB : Hid (Below w.heap.size w w12) := Below.then HB.out Sw12.out (Nat.le_refl _))
            | (go_at_call 18; have tk := t11; refine Calls_ans (rmin_any p q A B ca cb w12 (below_lies HB.out HA.out) (below_lies HB.out HB0.out)) ?_; intro p7 c7 w13 M7 Sw13; clear tk t11; replace HB : Hid (Below w.heap.size w w13) := Below.then HB.out Sw13.out (Nat.le_refl _))
            | (go_at_call 10; have tk := t12; refine Calls_new (is_again p6 p7 (minAt A B) (minAt_range A B) c6 c7 w13 (below_lies Sw13.out M6.out) M7.out) ?_; intro w14 Sw14; clear tk t12; replace HB : Hid (Below w.heap.size w w14) := Below.then HB.out Sw14.out (Nat.le_refl _))
            | (go_at_call 19; have tk := t13; refine Calls_onB (leq_any p q A B ca cb w14 (below_lies HB.out HA.out) (below_lies HB.out HB0.out)) (HR1) ?_; clear tk t13)
            | (go_at_call 20; have tk := t14; refine Calls_onB (rleq_any p q A B ca cb w14 (below_lies HB.out HA.out) (below_lies HB.out HB0.out)) (HR1) ?_; clear tk t14)
            | (go_at_call 21; have tk := t15; refine Calls_newB (eq_any p q A B ca cb w14 (below_lies HB.out HA.out) (below_lies HB.out HB0.out)) HE ?_; intro w15 Sw15; clear tk t15; replace HB : Hid (Below w.heap.size w w15) := Below.then HB.out Sw15.out (Nat.le_refl _))
            | (go_at_call 22; have tk := t16; refine Calls_onB (req_any p q A B ca cb w15 (below_lies HB.out HA.out) (below_lies HB.out HB0.out)) (HE) ?_; clear tk t16)
            | (go_at_call 23; have tk := t17; refine Calls_onB (apart_any p q A B ca cb w15 (below_lies HB.out HA.out) (below_lies HB.out HB0.out)) (HP) ?_; clear tk t17)
            | (go_at_call 20; have tk := t18; refine Calls_onB (rleq_any p q A B ca cb w15 (below_lies HB.out HA.out) (below_lies HB.out HB0.out)) (HR1) ?_; clear tk t18)
            | (go_at_call 24; have tk := t19; refine Calls_new (v := .returned (.int .i64 s)) (by have c := sum_any p A ca w15 (below_lies HB.out HA.out); rw [HS.out] at c; exact c) ?_; intro w16 Sw16; clear tk t19; replace HB : Hid (Below w.heap.size w w16) := Below.then HB.out Sw16.out (Nat.le_refl _)))
          go_ret
          exact ⟨rfl, HB.out⟩

set_option maxRecDepth 8000 in
set_option maxHeartbeats 4000000 in
theorem pairs_ft (p q : Option Addr) (a b A B : List Int) (ca cb : Nat) (z n : Int) (w : World) (HA : Hid (Lies w p (A.map iv))) (HB0 : Hid (Lies w q (B.map iv)))
    (KA : Hid (∀ w', Calls Try.prog 6 #[.slice p a.length ca] w' fun e w'' => e = .returned (.slice p A.length ca) ∧ w'' = w')) (KB : Hid (∀ w', Calls Try.prog 6 #[.slice q b.length cb] w' fun e w'' => e = .returned (.slice q B.length cb) ∧ w'' = w'))
    (h1 : leqB A B = false) (h2 : leqB B A = true) :
    Calls Try.prog 3 #[.slice p a.length ca, .slice q b.length cb, .int .i64 z, .int .i64 n] w fun e w' => e = .returned (.bool true) ∧ Below w.heap.size w w' := by
  have HR1 : Hid (leqB A B = false) := h1
  have HR2 : Hid (leqB B A = true) := h2
  have HP : Hid ((!leqB A B && !leqB B A) = false) := by show _ = _; rw [h1, h2]; rfl
  clear h1 h2
  obtain ⟨x, hx⟩ : ∃ x, atZ A z = x := ⟨_, rfl⟩
  have HZ : Hid (atZ A z = x) := hx
  obtain ⟨ee, he⟩ : ∃ ee, eqB A B = ee := ⟨_, rfl⟩
  have HE : Hid (eqB A B = ee) := he
  obtain ⟨s, hs⟩ : ∃ s, sumTo A 64 = s := ⟨_, rfl⟩
  have HS : Hid (sumTo A 64 = s) := hs
  have hxx : (x == x) = true := by simp
  have hss : (s == s) = true := by simp
  have hee : (ee == ee) = true := by simp
  clear hx he hs
  have t0 : True := trivial
  have t1 : True := trivial
  have t2 : True := trivial
  have t3 : True := trivial
  have t4 : True := trivial
  have t5 : True := trivial
  have t6 : True := trivial
  have t7 : True := trivial
  have t8 : True := trivial
  have t9 : True := trivial
  have t10 : True := trivial
  have t11 : True := trivial
  have t12 : True := trivial
  have t13 : True := trivial
  have t14 : True := trivial
  have t15 : True := trivial
  have t16 : True := trivial
  have t17 : True := trivial
  have t18 : True := trivial
  have t19 : True := trivial
  have t20 : True := trivial
  have k6 : True := trivial
  have k6' : True := trivial
  generalize a.length = la at *
  generalize b.length = lb at *
  go_enter Try.func3, Try.ntmps3
  go_wp2_with (first
    | (go_at_call 5; refine Calls_new (begun_any w) ?_; intro w1 HB)
    | (go_at_call 6; have tk := k6; refine Calls_on (KA.out w1) ?_; clear tk k6)
    | (go_at_call 6; have tk := k6'; refine Calls_on (KB.out w1) ?_; clear tk k6'))
  go_loop [10, 11] (fun ss kk => ∃ k : Nat, kk = .int .i64 k ∧ k ≤ 64 ∧ ss = .int .i64 (sumTo A k)) (fun _ kk => 64 - (intOf kk).toNat)
  case atStart => exact ⟨0, rfl, by omega, rfl⟩
  case round =>
    obtain ⟨k, rfl, hk, rfl⟩ := hrel
    by_cases hlt : k < 64
    · have hltI : (k : Int) < 64 := by omega
      have c7 := rat_nat p A ca k w1 (below_lies HB.out HA.out) hlt
      have r1 := sumTo_range A k
      have r2 := atOf_range A k
      have HN : Hid (sumTo A (k + 1) = min (sumTo A k + atOf A k) 4611686018427387904) := rfl
      generalize sumTo A k = u at *
      generalize atOf A k = y at *
      obtain ⟨r11, r12⟩ := r1
      obtain ⟨r21, r22⟩ := r2
      by_cases hov : 4611686018427387904 - y < u
      · go_wp2_with (go_at_call 7; refine Calls_on c7 ?_)
        go_round
        case rel => exact ⟨k + 1, by go_num, by omega, by rw [HN.out]; congr 1; omega⟩
        case measure => simp [intOf]; omega
      · go_wp2_with (go_at_call 7; refine Calls_on c7 ?_)
        go_round
        case rel => exact ⟨k + 1, by go_num, by omega, by rw [HN.out]; congr 1; omega⟩
        case measure => simp [intOf]; omega
    · obtain rfl : k = 64 := by omega
      rw [HS.out]
      obtain ⟨L, hL⟩ : ∃ L, aheadTo A B 64 = L := ⟨_, rfl⟩
      have c8 := ahead_any p q A B ca cb w1 (below_lies HB.out HA.out) (below_lies HB.out HB0.out)
      have C9 : Hid (∀ w', Below w.heap.size w w' → Calls Try.prog 9 #[.slice p A.length ca, .slice q B.length cb] w' (Ans w' L)) := fun w' h => by
        rw [← hL]; exact rahead_any p q A B ca cb w' (below_lies h HA.out) (below_lies h HB0.out)
      have HLL : Hid (L.length ≤ 64) := by show _ ≤ _; rw [← hL]; exact aheadTo_le A B 64
      have hne : ((L.length : Int) != L.length) = false := by simp
      rw [hL] at c8
      clear hL hlt
      go_wp2_with (first
        | (go_at_call 8; refine Calls_ans c8 ?_; intro px cx w2 MX S2; clear c8; replace HB : Hid (Below w.heap.size w w2) := Below.then HB.out S2.out (Nat.le_refl _))
        | (go_at_call 9; refine Calls_ans (C9.out w2 HB.out) ?_; intro py cy w3 MY S3; clear C9; replace HB : Hid (Below w.heap.size w w3) := Below.then HB.out S3.out (Nat.le_refl _)))
      have MX3 : Hid (Lies w3 px (L.map iv)) := below_lies S3.out MX.out
      clear S2 S3 MX
      go_loopw [14] (fun ii wr => ∃ i : Nat, ii = .int .i64 i ∧ i ≤ L.length ∧ Hid (Below w3.heap.size w3 wr)) (fun ii _ => L.length - (intOf ii).toNat)
      case atStart => exact ⟨0, rfl, by omega, Below.refl _ _⟩
      case round =>
        obtain ⟨i, rfl, hi, HBW⟩ := hrel
        by_cases hlt : i < L.length
        · have hltI : (i : Int) < L.length := by omega
          have hL1 := HLL.out
          obtain ⟨y, hy⟩ : ∃ y, L[i]? = some y := ⟨_, List.getElem?_eq_getElem hlt⟩
          obtain ⟨pb, po, rfl, d1⟩ := lies_at (below_lies HBW.out MX3.out) hy
          obtain ⟨gb, go, rfl, d2⟩ := lies_at (below_lies HBW.out MY.out) hy
          have hyy : (y != y) = false := by simp
          clear hy
          go_wp2
          go_region
          go_wp2
          go_roundw
          case rel => exact ⟨i + 1, by go_num, by omega, HBW.out.drew⟩
          case measure => simp [intOf]; omega
        · obtain rfl : i = L.length := by omega
          replace HB : Hid (Below w.heap.size w wr) := Below.then HB.out HBW.out (Nat.le_refl _)
          clear hlt HBW MX3 MY
          go_wp2_with (first
            | (go_at_call 11; have tk := t0; refine Calls_ans (norm_any p A ca wr (below_lies HB.out HA.out)) ?_; intro p1 c1 w4 M1 Sw4; clear tk t0; replace HB : Hid (Below w.heap.size w w4) := Below.then HB.out Sw4.out (Nat.le_refl _))
            | (go_at_call 10; have tk := t1; refine Calls_new (is_true p1 p (vec (atOf A)) A c1 ca w4 rfl (by have := vec_le (atOf A); omega) M1.out (below_lies HB.out HA.out)) ?_; intro w5 Sw5; clear tk t1; replace HB : Hid (Below w.heap.size w w5) := Below.then HB.out Sw5.out (Nat.le_refl _))
            | (go_at_call 12; have tk := t2; refine Calls_on (v := .returned (.int .i64 x)) (by have c := at_any p A ca z w5 (below_lies HB.out HA.out); rw [HZ.out] at c; exact c) ?_; clear tk t2)
            | (go_at_call 7; have tk := t3; refine Calls_on (v := .returned (.int .i64 x)) (by have c := rat_any p A ca z w5 (below_lies HB.out HA.out); rw [HZ.out] at c; exact c) ?_; clear tk t3)
            | (go_at_call 13; have tk := t4; refine Calls_ans (with_any p A ca z n w5 (below_lies HB.out HA.out)) ?_; intro p2 c2 w6 M2 Sw6; clear tk t4; replace HB : Hid (Below w.heap.size w w6) := Below.then HB.out Sw6.out (Nat.le_refl _))
            | (go_at_call 14; have tk := t5; refine Calls_ans (rwith_any p A ca z n w6 (below_lies HB.out HA.out)) ?_; intro p3 c3 w7 M3 Sw7; clear tk t5; replace HB : Hid (Below w.heap.size w w7) := Below.then HB.out Sw7.out (Nat.le_refl _))
            | (go_at_call 10; have tk := t6; refine Calls_new (is_again p2 p3 (withAt A z n) (withAt_range A z n) c2 c3 w7 (below_lies Sw7.out M2.out) M3.out) ?_; intro w8 Sw8; clear tk t6; replace HB : Hid (Below w.heap.size w w8) := Below.then HB.out Sw8.out (Nat.le_refl _))
            | (go_at_call 15; have tk := t7; refine Calls_ansAt (max_two p q A B ca cb w8 w8.heap.size rfl (below_lies HB.out HA.out) (below_lies HB.out HB0.out)) ?_; intro p4 c4 w9 M4 Sw9; clear tk t7; replace HB : Hid (Below w.heap.size w w9) := Below.then HB.out Sw9.out (Nat.le_refl _))
            | (go_at_call 16; have tk := t8; refine Calls_ans (rmax_any p q A B ca cb w9 (below_lies HB.out HA.out) (below_lies HB.out HB0.out)) ?_; intro p5 c5 w10 M5 Sw10; clear tk t8; replace HB : Hid (Below w.heap.size w w10) := Below.then HB.out Sw10.out (Nat.le_refl _))
            | (go_at_call 10; have tk := t9; refine Calls_new (is_again p4 p5 (maxAt [A, B]) (max_range A B) c4 c5 w10 (below_lies Sw10.out M4.out) M5.out) ?_; intro w11 Sw11; clear tk t9; replace HB : Hid (Below w.heap.size w w11) := Below.then HB.out Sw11.out (Nat.le_refl _))
            | (go_at_call 17; have tk := t10; refine Calls_ans (min_any p q A B ca cb w11 (below_lies HB.out HA.out) (below_lies HB.out HB0.out)) ?_; intro p6 c6 w12 M6 Sw12; clear tk t10; replace HB : Hid (Below w.heap.size w w12) := Below.then HB.out Sw12.out (Nat.le_refl _))
            | (go_at_call 18; have tk := t11; refine Calls_ans (rmin_any p q A B ca cb w12 (below_lies HB.out HA.out) (below_lies HB.out HB0.out)) ?_; intro p7 c7 w13 M7 Sw13; clear tk t11; replace HB : Hid (Below w.heap.size w w13) := Below.then HB.out Sw13.out (Nat.le_refl _))
            | (go_at_call 10; have tk := t12; refine Calls_new (is_again p6 p7 (minAt A B) (minAt_range A B) c6 c7 w13 (below_lies Sw13.out M6.out) M7.out) ?_; intro w14 Sw14; clear tk t12; replace HB : Hid (Below w.heap.size w w14) := Below.then HB.out Sw14.out (Nat.le_refl _))
            | (go_at_call 19; have tk := t13; refine Calls_onB (leq_any p q A B ca cb w14 (below_lies HB.out HA.out) (below_lies HB.out HB0.out)) (HR1) ?_; clear tk t13)
            | (go_at_call 20; have tk := t14; refine Calls_onB (rleq_any p q A B ca cb w14 (below_lies HB.out HA.out) (below_lies HB.out HB0.out)) (HR1) ?_; clear tk t14)
            | (go_at_call 21; have tk := t15; refine Calls_newB (eq_any p q A B ca cb w14 (below_lies HB.out HA.out) (below_lies HB.out HB0.out)) HE ?_; intro w15 Sw15; clear tk t15; replace HB : Hid (Below w.heap.size w w15) := Below.then HB.out Sw15.out (Nat.le_refl _))
            | (go_at_call 22; have tk := t16; refine Calls_onB (req_any p q A B ca cb w15 (below_lies HB.out HA.out) (below_lies HB.out HB0.out)) (HE) ?_; clear tk t16)
            | (go_at_call 23; have tk := t17; refine Calls_onB (apart_any p q A B ca cb w15 (below_lies HB.out HA.out) (below_lies HB.out HB0.out)) (HP) ?_; clear tk t17)
            | (go_at_call 20; have tk := t18; refine Calls_onB (rleq_any p q A B ca cb w15 (below_lies HB.out HA.out) (below_lies HB.out HB0.out)) (HR1) ?_; clear tk t18)
            | (go_at_call 20; have tk := t19; refine Calls_onB (rleq_any q p B A cb ca w15 (below_lies HB.out HB0.out) (below_lies HB.out HA.out)) (HR2) ?_; clear tk t19)
            | (go_at_call 24; have tk := t20; refine Calls_new (v := .returned (.int .i64 s)) (by have c := sum_any p A ca w15 (below_lies HB.out HA.out); rw [HS.out] at c; exact c) ?_; intro w16 Sw16; clear tk t20; replace HB : Hid (Below w.heap.size w w16) := Below.then HB.out Sw16.out (Nat.le_refl _)))
          go_ret
          exact ⟨rfl, HB.out⟩

set_option maxRecDepth 8000 in
set_option maxHeartbeats 4000000 in
theorem pairs_ff (p q : Option Addr) (a b A B : List Int) (ca cb : Nat) (z n : Int) (w : World) (HA : Hid (Lies w p (A.map iv))) (HB0 : Hid (Lies w q (B.map iv)))
    (KA : Hid (∀ w', Calls Try.prog 6 #[.slice p a.length ca] w' fun e w'' => e = .returned (.slice p A.length ca) ∧ w'' = w')) (KB : Hid (∀ w', Calls Try.prog 6 #[.slice q b.length cb] w' fun e w'' => e = .returned (.slice q B.length cb) ∧ w'' = w'))
    (h1 : leqB A B = false) (h2 : leqB B A = false) :
    Calls Try.prog 3 #[.slice p a.length ca, .slice q b.length cb, .int .i64 z, .int .i64 n] w fun e w' => e = .returned (.bool true) ∧ Below w.heap.size w w' := by
  have HR1 : Hid (leqB A B = false) := h1
  have HR2 : Hid (leqB B A = false) := h2
  have HP : Hid ((!leqB A B && !leqB B A) = true) := by show _ = _; rw [h1, h2]; rfl
  clear h1 h2
  obtain ⟨x, hx⟩ : ∃ x, atZ A z = x := ⟨_, rfl⟩
  have HZ : Hid (atZ A z = x) := hx
  obtain ⟨ee, he⟩ : ∃ ee, eqB A B = ee := ⟨_, rfl⟩
  have HE : Hid (eqB A B = ee) := he
  obtain ⟨s, hs⟩ : ∃ s, sumTo A 64 = s := ⟨_, rfl⟩
  have HS : Hid (sumTo A 64 = s) := hs
  have hxx : (x == x) = true := by simp
  have hss : (s == s) = true := by simp
  have hee : (ee == ee) = true := by simp
  clear hx he hs
  have t0 : True := trivial
  have t1 : True := trivial
  have t2 : True := trivial
  have t3 : True := trivial
  have t4 : True := trivial
  have t5 : True := trivial
  have t6 : True := trivial
  have t7 : True := trivial
  have t8 : True := trivial
  have t9 : True := trivial
  have t10 : True := trivial
  have t11 : True := trivial
  have t12 : True := trivial
  have t13 : True := trivial
  have t14 : True := trivial
  have t15 : True := trivial
  have t16 : True := trivial
  have t17 : True := trivial
  have t18 : True := trivial
  have t19 : True := trivial
  have t20 : True := trivial
  have k6 : True := trivial
  have k6' : True := trivial
  generalize a.length = la at *
  generalize b.length = lb at *
  go_enter Try.func3, Try.ntmps3
  go_wp2_with (first
    | (go_at_call 5; refine Calls_new (begun_any w) ?_; intro w1 HB)
    | (go_at_call 6; have tk := k6; refine Calls_on (KA.out w1) ?_; clear tk k6)
    | (go_at_call 6; have tk := k6'; refine Calls_on (KB.out w1) ?_; clear tk k6'))
  go_loop [10, 11] (fun ss kk => ∃ k : Nat, kk = .int .i64 k ∧ k ≤ 64 ∧ ss = .int .i64 (sumTo A k)) (fun _ kk => 64 - (intOf kk).toNat)
  case atStart => exact ⟨0, rfl, by omega, rfl⟩
  case round =>
    obtain ⟨k, rfl, hk, rfl⟩ := hrel
    by_cases hlt : k < 64
    · have hltI : (k : Int) < 64 := by omega
      have c7 := rat_nat p A ca k w1 (below_lies HB.out HA.out) hlt
      have r1 := sumTo_range A k
      have r2 := atOf_range A k
      have HN : Hid (sumTo A (k + 1) = min (sumTo A k + atOf A k) 4611686018427387904) := rfl
      generalize sumTo A k = u at *
      generalize atOf A k = y at *
      obtain ⟨r11, r12⟩ := r1
      obtain ⟨r21, r22⟩ := r2
      by_cases hov : 4611686018427387904 - y < u
      · go_wp2_with (go_at_call 7; refine Calls_on c7 ?_)
        go_round
        case rel => exact ⟨k + 1, by go_num, by omega, by rw [HN.out]; congr 1; omega⟩
        case measure => simp [intOf]; omega
      · go_wp2_with (go_at_call 7; refine Calls_on c7 ?_)
        go_round
        case rel => exact ⟨k + 1, by go_num, by omega, by rw [HN.out]; congr 1; omega⟩
        case measure => simp [intOf]; omega
    · obtain rfl : k = 64 := by omega
      rw [HS.out]
      obtain ⟨L, hL⟩ : ∃ L, aheadTo A B 64 = L := ⟨_, rfl⟩
      have c8 := ahead_any p q A B ca cb w1 (below_lies HB.out HA.out) (below_lies HB.out HB0.out)
      have C9 : Hid (∀ w', Below w.heap.size w w' → Calls Try.prog 9 #[.slice p A.length ca, .slice q B.length cb] w' (Ans w' L)) := fun w' h => by
        rw [← hL]; exact rahead_any p q A B ca cb w' (below_lies h HA.out) (below_lies h HB0.out)
      have HLL : Hid (L.length ≤ 64) := by show _ ≤ _; rw [← hL]; exact aheadTo_le A B 64
      have hne : ((L.length : Int) != L.length) = false := by simp
      rw [hL] at c8
      clear hL hlt
      go_wp2_with (first
        | (go_at_call 8; refine Calls_ans c8 ?_; intro px cx w2 MX S2; clear c8; replace HB : Hid (Below w.heap.size w w2) := Below.then HB.out S2.out (Nat.le_refl _))
        | (go_at_call 9; refine Calls_ans (C9.out w2 HB.out) ?_; intro py cy w3 MY S3; clear C9; replace HB : Hid (Below w.heap.size w w3) := Below.then HB.out S3.out (Nat.le_refl _)))
      have MX3 : Hid (Lies w3 px (L.map iv)) := below_lies S3.out MX.out
      clear S2 S3 MX
      go_loopw [14] (fun ii wr => ∃ i : Nat, ii = .int .i64 i ∧ i ≤ L.length ∧ Hid (Below w3.heap.size w3 wr)) (fun ii _ => L.length - (intOf ii).toNat)
      case atStart => exact ⟨0, rfl, by omega, Below.refl _ _⟩
      case round =>
        obtain ⟨i, rfl, hi, HBW⟩ := hrel
        by_cases hlt : i < L.length
        · have hltI : (i : Int) < L.length := by omega
          have hL1 := HLL.out
          obtain ⟨y, hy⟩ : ∃ y, L[i]? = some y := ⟨_, List.getElem?_eq_getElem hlt⟩
          obtain ⟨pb, po, rfl, d1⟩ := lies_at (below_lies HBW.out MX3.out) hy
          obtain ⟨gb, go, rfl, d2⟩ := lies_at (below_lies HBW.out MY.out) hy
          have hyy : (y != y) = false := by simp
          clear hy
          go_wp2
          go_region
          go_wp2
          go_roundw
          case rel => exact ⟨i + 1, by go_num, by omega, HBW.out.drew⟩
          case measure => simp [intOf]; omega
        · obtain rfl : i = L.length := by omega
          replace HB : Hid (Below w.heap.size w wr) := Below.then HB.out HBW.out (Nat.le_refl _)
          clear hlt HBW MX3 MY
          go_wp2_with (first
            | (go_at_call 11; have tk := t0; refine Calls_ans (norm_any p A ca wr (below_lies HB.out HA.out)) ?_; intro p1 c1 w4 M1 Sw4; clear tk t0; replace HB : Hid (Below w.heap.size w w4) := Below.then HB.out Sw4.out (Nat.le_refl _))
            | (go_at_call 10; have tk := t1; refine Calls_new (is_true p1 p (vec (atOf A)) A c1 ca w4 rfl (by have := vec_le (atOf A); omega) M1.out (below_lies HB.out HA.out)) ?_; intro w5 Sw5; clear tk t1; replace HB : Hid (Below w.heap.size w w5) := Below.then HB.out Sw5.out (Nat.le_refl _))
            | (go_at_call 12; have tk := t2; refine Calls_on (v := .returned (.int .i64 x)) (by have c := at_any p A ca z w5 (below_lies HB.out HA.out); rw [HZ.out] at c; exact c) ?_; clear tk t2)
            | (go_at_call 7; have tk := t3; refine Calls_on (v := .returned (.int .i64 x)) (by have c := rat_any p A ca z w5 (below_lies HB.out HA.out); rw [HZ.out] at c; exact c) ?_; clear tk t3)
            | (go_at_call 13; have tk := t4; refine Calls_ans (with_any p A ca z n w5 (below_lies HB.out HA.out)) ?_; intro p2 c2 w6 M2 Sw6; clear tk t4; replace HB : Hid (Below w.heap.size w w6) := Below.then HB.out Sw6.out (Nat.le_refl _))
            | (go_at_call 14; have tk := t5; refine Calls_ans (rwith_any p A ca z n w6 (below_lies HB.out HA.out)) ?_; intro p3 c3 w7 M3 Sw7; clear tk t5; replace HB : Hid (Below w.heap.size w w7) := Below.then HB.out Sw7.out (Nat.le_refl _))
            | (go_at_call 10; have tk := t6; refine Calls_new (is_again p2 p3 (withAt A z n) (withAt_range A z n) c2 c3 w7 (below_lies Sw7.out M2.out) M3.out) ?_; intro w8 Sw8; clear tk t6; replace HB : Hid (Below w.heap.size w w8) := Below.then HB.out Sw8.out (Nat.le_refl _))
            | (go_at_call 15; have tk := t7; refine Calls_ansAt (max_two p q A B ca cb w8 w8.heap.size rfl (below_lies HB.out HA.out) (below_lies HB.out HB0.out)) ?_; intro p4 c4 w9 M4 Sw9; clear tk t7; replace HB : Hid (Below w.heap.size w w9) := Below.then HB.out Sw9.out (Nat.le_refl _))
            | (go_at_call 16; have tk := t8; refine Calls_ans (rmax_any p q A B ca cb w9 (below_lies HB.out HA.out) (below_lies HB.out HB0.out)) ?_; intro p5 c5 w10 M5 Sw10; clear tk t8; replace HB : Hid (Below w.heap.size w w10) := Below.then HB.out Sw10.out (Nat.le_refl _))
            | (go_at_call 10; have tk := t9; refine Calls_new (is_again p4 p5 (maxAt [A, B]) (max_range A B) c4 c5 w10 (below_lies Sw10.out M4.out) M5.out) ?_; intro w11 Sw11; clear tk t9; replace HB : Hid (Below w.heap.size w w11) := Below.then HB.out Sw11.out (Nat.le_refl _))
            | (go_at_call 17; have tk := t10; refine Calls_ans (min_any p q A B ca cb w11 (below_lies HB.out HA.out) (below_lies HB.out HB0.out)) ?_; intro p6 c6 w12 M6 Sw12; clear tk t10; replace HB : Hid (Below w.heap.size w w12) := Below.then HB.out Sw12.out (Nat.le_refl _))
            | (go_at_call 18; have tk := t11; refine Calls_ans (rmin_any p q A B ca cb w12 (below_lies HB.out HA.out) (below_lies HB.out HB0.out)) ?_; intro p7 c7 w13 M7 Sw13; clear tk t11; replace HB : Hid (Below w.heap.size w w13) := Below.then HB.out Sw13.out (Nat.le_refl _))
            | (go_at_call 10; have tk := t12; refine Calls_new (is_again p6 p7 (minAt A B) (minAt_range A B) c6 c7 w13 (below_lies Sw13.out M6.out) M7.out) ?_; intro w14 Sw14; clear tk t12; replace HB : Hid (Below w.heap.size w w14) := Below.then HB.out Sw14.out (Nat.le_refl _))
            | (go_at_call 19; have tk := t13; refine Calls_onB (leq_any p q A B ca cb w14 (below_lies HB.out HA.out) (below_lies HB.out HB0.out)) (HR1) ?_; clear tk t13)
            | (go_at_call 20; have tk := t14; refine Calls_onB (rleq_any p q A B ca cb w14 (below_lies HB.out HA.out) (below_lies HB.out HB0.out)) (HR1) ?_; clear tk t14)
            | (go_at_call 21; have tk := t15; refine Calls_newB (eq_any p q A B ca cb w14 (below_lies HB.out HA.out) (below_lies HB.out HB0.out)) HE ?_; intro w15 Sw15; clear tk t15; replace HB : Hid (Below w.heap.size w w15) := Below.then HB.out Sw15.out (Nat.le_refl _))
            | (go_at_call 22; have tk := t16; refine Calls_onB (req_any p q A B ca cb w15 (below_lies HB.out HA.out) (below_lies HB.out HB0.out)) (HE) ?_; clear tk t16)
            | (go_at_call 23; have tk := t17; refine Calls_onB (apart_any p q A B ca cb w15 (below_lies HB.out HA.out) (below_lies HB.out HB0.out)) (HP) ?_; clear tk t17)
            | (go_at_call 20; have tk := t18; refine Calls_onB (rleq_any p q A B ca cb w15 (below_lies HB.out HA.out) (below_lies HB.out HB0.out)) (HR1) ?_; clear tk t18)
            | (go_at_call 20; have tk := t19; refine Calls_onB (rleq_any q p B A cb ca w15 (below_lies HB.out HB0.out) (below_lies HB.out HA.out)) (HR2) ?_; clear tk t19)
            | (go_at_call 24; have tk := t20; refine Calls_new (v := .returned (.int .i64 s)) (by have c := sum_any p A ca w15 (below_lies HB.out HA.out); rw [HS.out] at c; exact c) ?_; intro w16 Sw16; clear tk t20; replace HB : Hid (Below w.heap.size w w16) := Below.then HB.out Sw16.out (Nat.le_refl _)))
          go_ret
          exact ⟨rfl, HB.out⟩

theorem pairs_any (p q : Option Addr) (a b : List Int) (ca cb : Nat) (z n : Int) (w : World) (la : a.length ≤ ca) (lb : b.length ≤ cb) (ma : a.length ≤ maxLen) (mb : b.length ≤ maxLen) (ha : Lies w p (a.map iv)) (hb : Lies w q (b.map iv)) :
    Calls Try.prog 3 #[.slice p a.length ca, .slice q b.length cb, .int .i64 z, .int .i64 n] w fun e w' => e = .returned (.bool true) ∧ Below w.heap.size w w' := by
  have HA : Hid (Lies w p ((cut a).map iv)) := lies_take ha 80
  have HB0 : Hid (Lies w q ((cut b).map iv)) := lies_take hb 80
  have KA : Hid (∀ w', Calls Try.prog 6 #[.slice p a.length ca] w' fun e w'' => e = .returned (.slice p (cut a).length ca) ∧ w'' = w') := fun w' => cut_any p a ca w' la ma
  have KB : Hid (∀ w', Calls Try.prog 6 #[.slice q b.length cb] w' fun e w'' => e = .returned (.slice q (cut b).length cb) ∧ w'' = w') := fun w' => cut_any q b cb w' lb mb
  cases h1 : leqB (cut a) (cut b) with
  | true => exact pairs_t p q a b (cut a) (cut b) ca cb z n w HA HB0 KA KB h1
  | false =>
    cases h2 : leqB (cut b) (cut a) with
    | true => exact pairs_ft p q a b (cut a) (cut b) ca cb z n w HA HB0 KA KB h1 h2
    | false => exact pairs_ff p q a b (cut a) (cut b) ca cb z n w HA HB0 KA KB h1 h2

end Go.Proofs.Ytflmlojdjegnkaa
