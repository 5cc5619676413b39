/-
  What a list says of a node: isNode, isCount, At of package vector, At of the document's own text, isAhead.
-/
import Derived.Test.YteimjkicinjcgaaKVbase

namespace Go.Proofs.Yteimjkicinjcgaa.Vc
open Go.RowKit

def nodeB (z : Int) : Bool := decide (0 ≤ z) && decide (z < 64)
theorem nodeB_nat {k : Nat} (h : k < 64) : nodeB k = true := by simp [nodeB]; omega
theorem nodeB_no {z : Int} (h : ¬ (0 ≤ z ∧ z < 64)) : nodeB z = false := by simp [nodeB]; omega

set_option maxRecDepth 8000 in
set_option maxHeartbeats 400000 in
theorem isNode_any (z : Int) (w : World) : Calls Try.prog 75 #[.int .i64 z] w fun e w' => e = .returned (.bool (nodeB z)) ∧ w' = w := by
  by_cases h0 : 0 ≤ z
  · have HE : Hid (nodeB z = decide (z < 64)) := by show _ = _; simp [nodeB, h0]
    go_enter Try.func75, Try.ntmps75
    go_wp2
    go_ret
    rw [HE.out]
    exact ⟨rfl, rfl⟩
  · have HE : Hid (nodeB z = false) := by show _ = _; simp [nodeB]; omega
    go_enter Try.func75, Try.ntmps75
    go_wp2
    go_ret
    rw [HE.out]
    exact ⟨rfl, rfl⟩

set_option maxRecDepth 8000 in
set_option maxHeartbeats 400000 in
theorem isCount_any (x : Int) (w : World) : Calls Try.prog 76 #[.int .i64 x] w fun e w' => e = .returned (.bool (okN x)) ∧ w' = w := by
  by_cases h0 : 0 ≤ x
  · have HE : Hid (okN x = decide (x ≤ 1152921504606846976)) := by show _ = _; simp [okN, h0]
    go_enter Try.func76, Try.ntmps76
    go_wp2
    go_ret
    rw [HE.out]
    exact ⟨rfl, rfl⟩
  · have HE : Hid (okN x = false) := by show _ = _; simp [okN]; omega
    go_enter Try.func76, Try.ntmps76
    go_wp2
    go_ret
    rw [HE.out]
    exact ⟨rfl, rfl⟩

set_option maxRecDepth 8000 in
set_option maxRecDepth 8000 in
set_option maxHeartbeats 400000 in
theorem at_nat (p : Option Addr) (ns : List Int) (cp k : Nat) (w : World) (hp : Lies w p (ns.map iv)) (hk : k < 64) :
    Calls Try.prog 59 #[.slice p ns.length cp, .int .i64 k] w fun e w' => e = .returned (.int .i64 (atOf ns k)) ∧ w' = w := by
  have c29 := isNode_any k w
  rw [nodeB_nat hk] at c29
  by_cases hl : k < ns.length
  · obtain ⟨x, hxx⟩ : ∃ x, ns[k]? = some x := ⟨_, List.getElem?_eq_getElem hl⟩
    obtain ⟨b, o, rfl, c1⟩ := lies_at hp hxx
    have HE : Hid (atOf ns k = if okN x then x else 0) := by show atOf ns k = _; unfold atOf; rw [hxx]
    have hl' : ¬ (ns.length : Int) ≤ k := by omega
    have c30 := isCount_any x w
    clear hxx hp
    cases hn : okN x with
    | true =>
      rw [hn] at c30
      have HO : Hid (okN x = true) := hn
      clear hn
      go_enter Try.func59, Try.ntmps59
      go_wp2_with (first | (go_at_call 75; refine Calls_on c29 ?_) | (go_at_call 76; refine Calls_on c30 ?_))
      go_ret
      rw [HE.out, HO.out]
      exact ⟨rfl, rfl⟩
    | false =>
      rw [hn] at c30
      have HO : Hid (okN x = false) := hn
      clear hn
      go_enter Try.func59, Try.ntmps59
      go_wp2_with (first | (go_at_call 75; refine Calls_on c29 ?_) | (go_at_call 76; refine Calls_on c30 ?_))
      go_ret
      rw [HE.out, HO.out]
      exact ⟨rfl, rfl⟩
  · have HE : Hid (atOf ns k = 0) := by show atOf ns k = _; unfold atOf; rw [List.getElem?_eq_none (by omega)]
    have hl' : (ns.length : Int) ≤ k := by omega
    clear hp
    go_enter Try.func59, Try.ntmps59
    go_wp2_with (go_at_call 75; refine Calls_on c29 ?_)
    go_ret
    rw [HE.out]
    exact ⟨rfl, rfl⟩

theorem atZ_nat (ns : List Int) {k : Nat} (hk : k < 64) : atZ ns k = atOf ns k := by
  unfold atZ
  rw [if_pos (by omega)]
  rfl
theorem atZ_out (ns : List Int) {z : Int} (h : ¬ (0 ≤ z ∧ z < 64)) : atZ ns z = 0 := by unfold atZ; rw [if_neg h]

set_option maxRecDepth 8000 in
set_option maxRecDepth 8000 in
set_option maxHeartbeats 400000 in
theorem at_any (p : Option Addr) (ns : List Int) (cp : Nat) (z : Int) (w : World) (hp : Lies w p (ns.map iv)) :
    Calls Try.prog 59 #[.slice p ns.length cp, .int .i64 z] w fun e w' => e = .returned (.int .i64 (atZ ns z)) ∧ w' = w := by
  by_cases hz : 0 ≤ z ∧ z < 64
  · obtain ⟨k, rfl⟩ := Int.eq_ofNat_of_zero_le hz.1
    have hk : k < 64 := by omega
    rw [atZ_nat ns hk]
    exact at_nat p ns cp k w hp hk
  · have c29 := isNode_any z w
    rw [nodeB_no hz] at c29
    rw [atZ_out ns hz]
    clear hp hz
    go_enter Try.func59, Try.ntmps59
    go_wp2_with (go_at_call 75; refine Calls_on c29 ?_)
    go_ret
    exact ⟨rfl, rfl⟩

set_option maxRecDepth 8000 in
set_option maxHeartbeats 400000 in
theorem isAhead_any (p q : Option Addr) (a b : List Int) (cp cq k : Nat) (w : World) (hp : Lies w p (a.map iv)) (hq : Lies w q (b.map iv)) (hk : k < 64) :
    Calls Try.prog 68 #[.slice p a.length cp, .slice q b.length cq, .int .i64 k] w fun e w' => e = .returned (.bool (decide (atOf b k < atOf a k))) ∧ w' = w := by
  have ca := at_nat p a cp k w hp hk
  have cb := at_nat q b cq k w hq hk
  generalize atOf a k = x at ca
  generalize atOf b k = y at cb
  generalize a.length = la at ca
  generalize b.length = lb at cb
  clear hp hq hk
  go_enter Try.func68, Try.ntmps68
  go_wp2_with (first | (go_at_call 59; refine Calls_on ca ?_; clear ca) | (go_at_call 59; refine Calls_on cb ?_))
  go_ret
  exact ⟨rfl, rfl⟩

end Go.Proofs.Yteimjkicinjcgaa.Vc
