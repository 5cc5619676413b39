/-
  What a list says of a node: isNode, isCount, At of package vector, At of the document's own text, isAhead.
-/
import Derived.Test.YtegjageenofbjaaGreatVbase
namespace Go.Proofs.YtegjageenofbjaaGreat.Vc
open Go.RowKit

def nodeB (z : Int) : Bool := decide (0 ≤ z) && decide (z < 64)
theorem nodeB_nat {k : Nat} (h : k < 64) : nodeB k = true := by simp [nodeB]; omega
theorem nodeB_no {z : Int} (h : ¬ (0 ≤ z ∧ z < 64)) : nodeB z = false := by simp [nodeB]; omega

set_option maxRecDepth 8000 in
set_option maxHeartbeats 400000 in
theorem isNode_any (z : Int) (w : World) : Calls Tryz.prog 100 #[.int .i64 z] w fun e w' => e = .returned (.bool (nodeB z)) ∧ w' = w := by
  by_cases h0 : 0 ≤ z
  · have HE : Hid (nodeB z = decide (z < 64)) := by show _ = _; simp [nodeB, h0]
    go_enter Tryz.func100, Tryz.ntmps100
    go_wp2
    go_ret
    rw [HE.out]
    exact ⟨rfl, rfl⟩
  · have HE : Hid (nodeB z = false) := by show _ = _; simp [nodeB]; omega
    go_enter Tryz.func100, Tryz.ntmps100
    go_wp2
    go_ret
    rw [HE.out]
    exact ⟨rfl, rfl⟩

set_option maxRecDepth 8000 in
set_option maxHeartbeats 400000 in
theorem isCount_any (x : Int) (w : World) : Calls Tryz.prog 101 #[.int .i64 x] w fun e w' => e = .returned (.bool (okN x)) ∧ w' = w := by
  by_cases h0 : 0 ≤ x
  · have HE : Hid (okN x = decide (x ≤ 1152921504606846976)) := by show _ = _; simp [okN, h0]
    go_enter Tryz.func101, Tryz.ntmps101
    go_wp2
    go_ret
    rw [HE.out]
    exact ⟨rfl, rfl⟩
  · have HE : Hid (okN x = false) := by show _ = _; simp [okN]; omega
    go_enter Tryz.func101, Tryz.ntmps101
    go_wp2
    go_ret
    rw [HE.out]
    exact ⟨rfl, rfl⟩

set_option maxRecDepth 8000 in
set_option maxRecDepth 8000 in
set_option maxHeartbeats 400000 in
theorem at_nat (p : Option Addr) (ns : List Int) (cp k : Nat) (w : World) (hp : Lies w p (ns.map iv)) (hk : k < 64) :
    Calls Tryz.prog 76 #[.slice p ns.length cp, .int .i64 k] w fun e w' => e = .returned (.int .i64 (atOf ns k)) ∧ w' = w := by
  have c29 := isNode_any k w
  rw [nodeB_nat hk] at c29
  by_cases hl : k < ns.length
  · obtain ⟨x, hxx⟩ : ∃ x, ns[k]? = some x := ⟨_, List.getElem?_eq_getElem hl⟩
    obtain ⟨b, o, rfl, c1⟩ := lies_at hp hxx
    have HE : Hid (atOf ns k = if okN x then x else 0) := by show atOf ns k = _; unfold atOf; rw [hxx]
    have hl' : ¬ (ns.length : Int) ≤ k := by omega
    have c30 := isCount_any x w
    clear hxx hp
    cases hn : okN x with
    | true =>
      rw [hn] at c30
      have HO : Hid (okN x = true) := hn
      clear hn
      go_enter Tryz.func76, Tryz.ntmps76
      go_wp2_with (first | (go_at_call 100; refine Calls_on c29 ?_) | (go_at_call 101; refine Calls_on c30 ?_))
      go_ret
      rw [HE.out, HO.out]
      exact ⟨rfl, rfl⟩
    | false =>
      rw [hn] at c30
      have HO : Hid (okN x = false) := hn
      clear hn
      go_enter Tryz.func76, Tryz.ntmps76
      go_wp2_with (first | (go_at_call 100; refine Calls_on c29 ?_) | (go_at_call 101; refine Calls_on c30 ?_))
      go_ret
      rw [HE.out, HO.out]
      exact ⟨rfl, rfl⟩
  · have HE : Hid (atOf ns k = 0) := by show atOf ns k = _; unfold atOf; rw [List.getElem?_eq_none (by omega)]
    have hl' : (ns.length : Int) ≤ k := by omega
    clear hp
    go_enter Tryz.func76, Tryz.ntmps76
    go_wp2_with (go_at_call 100; refine Calls_on c29 ?_)
    go_ret
    rw [HE.out]
    exact ⟨rfl, rfl⟩

theorem atZ_nat (ns : List Int) {k : Nat} (hk : k < 64) : atZ ns k = atOf ns k := by
  unfold atZ
  rw [if_pos (by omega)]
  rfl
theorem atZ_out (ns : List Int) {z : Int} (h : ¬ (0 ≤ z ∧ z < 64)) : atZ ns z = 0 := by unfold atZ; rw [if_neg h]

set_option maxRecDepth 8000 in
set_option maxRecDepth 8000 in
set_option maxHeartbeats 400000 in
theorem at_any (p : Option Addr) (ns : List Int) (cp : Nat) (z : Int) (w : World) (hp : Lies w p (ns.map iv)) :
    Calls Tryz.prog 76 #[.slice p ns.length cp, .int .i64 z] w fun e w' => e = .returned (.int .i64 (atZ ns z)) ∧ w' = w := by
  by_cases hz : 0 ≤ z ∧ z < 64
  · obtain ⟨k, rfl⟩ := Int.eq_ofNat_of_zero_le hz.1
    have hk : k < 64 := by omega
    rw [atZ_nat ns hk]
    exact at_nat p ns cp k w hp hk
  · have c29 := isNode_any z w
    rw [nodeB_no hz] at c29
    rw [atZ_out ns hz]
    clear hp hz
    go_enter Tryz.func76, Tryz.ntmps76
    go_wp2_with (go_at_call 100; refine Calls_on c29 ?_)
    go_ret
    exact ⟨rfl, rfl⟩

set_option maxRecDepth 8000 in
set_option maxRecDepth 8000 in
set_option maxHeartbeats 400000 in
theorem rat_nat (p : Option Addr) (ns : List Int) (cp k : Nat) (w : World) (hp : Lies w p (ns.map iv)) (hk : k < 64) :
    Calls Tryz.prog 24 #[.slice p ns.length cp, .int .i64 k] w fun e w' => e = .returned (.int .i64 (atOf ns k)) ∧ w' = w := by
  have h0 : ¬ (k : Int) < 0 := by omega
  have h1 : ¬ (64 : Int) ≤ k := by omega
  by_cases hl : k < ns.length
  · obtain ⟨x, hxx⟩ : ∃ x, ns[k]? = some x := ⟨_, List.getElem?_eq_getElem hl⟩
    obtain ⟨b, o, rfl, c1⟩ := lies_at hp hxx
    have HE : Hid (atOf ns k = if okN x then x else 0) := by show atOf ns k = _; unfold atOf; rw [hxx]
    have hl' : ¬ (ns.length : Int) ≤ k := by omega
    clear hxx hp
    by_cases hn : x < 0
    · have HO : Hid (okN x = false) := by simp [Hid, okN]; omega
      go_enter Tryz.func24, Tryz.ntmps24
      go_wp2
      go_ret
      rw [HE.out, HO.out]
      exact ⟨rfl, rfl⟩
    · by_cases hm : (1152921504606846976 : Int) < x
      · have HO : Hid (okN x = false) := by simp [Hid, okN]; omega
        go_enter Tryz.func24, Tryz.ntmps24
        go_wp2
        go_ret
        rw [HE.out, HO.out]
        exact ⟨rfl, rfl⟩
      · have HO : Hid (okN x = true) := by simp [Hid, okN]; omega
        go_enter Tryz.func24, Tryz.ntmps24
        go_wp2
        go_ret
        rw [HE.out, HO.out]
        exact ⟨rfl, rfl⟩
  · have HE : Hid (atOf ns k = 0) := by show atOf ns k = _; unfold atOf; rw [List.getElem?_eq_none (by omega)]
    have hl' : (ns.length : Int) ≤ k := by omega
    clear hp
    go_enter Tryz.func24, Tryz.ntmps24
    go_wp2
    go_ret
    rw [HE.out]
    exact ⟨rfl, rfl⟩

set_option maxRecDepth 8000 in
set_option maxRecDepth 8000 in
set_option maxHeartbeats 400000 in
theorem rat_any (p : Option Addr) (ns : List Int) (cp : Nat) (z : Int) (w : World) (hp : Lies w p (ns.map iv)) :
    Calls Tryz.prog 24 #[.slice p ns.length cp, .int .i64 z] w fun e w' => e = .returned (.int .i64 (atZ ns z)) ∧ w' = w := by
  by_cases hz : 0 ≤ z ∧ z < 64
  · obtain ⟨k, rfl⟩ := Int.eq_ofNat_of_zero_le hz.1
    have hk : k < 64 := by omega
    rw [atZ_nat ns hk]
    exact rat_nat p ns cp k w hp hk
  · rw [atZ_out ns hz]
    clear hp
    by_cases h0 : z < 0
    · clear hz
      go_enter Tryz.func24, Tryz.ntmps24
      go_wp2
      go_ret
      exact ⟨rfl, rfl⟩
    · have h1 : (64 : Int) ≤ z := by omega
      clear hz
      go_enter Tryz.func24, Tryz.ntmps24
      go_wp2
      go_ret
      exact ⟨rfl, rfl⟩

end Go.Proofs.YtegjageenofbjaaGreat.Vc
