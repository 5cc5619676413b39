/-
  Keeper of the law: which loose blocks are kept.
-/
import Derived.Test.YtcchhalmlkdepaaGreatDoorWcrh
namespace Go.Proofs.YtcchhalmlkdepaaGreatDoor
open Go.RowKit Go.Maps Go.Sort Go.Shelf

/-- A slice of truths. -/
def Bools (W : World) (p : Option Addr) (ks : List Bool) : Prop := 0 < ks.length → ∃ kb ko, p = some ⟨kb, ko, none⟩ ∧ ∀ j x, ks[j]? = some x → W.cell? ⟨kb, ko + j, none⟩ = some (.bool x)
theorem Bools.below {W W' : World} {p : Option Addr} {ks : List Bool} {N : Nat} (h : Bools W p ks) (hb : Below N W W') (hN : W.heap.size ≤ N) : Bools W' p ks := by
  intro hp
  obtain ⟨kb, ko, e, hc⟩ := h hp
  exact ⟨kb, ko, e, fun j x hj => (hb.cell (p := ⟨kb, ko + j, none⟩) (Nat.lt_of_lt_of_le (World.block_lt_of_cell? W _ (hc j x hj)) hN)).trans (hc j x hj)⟩

set_option maxRecDepth 8000 in
set_option maxHeartbeats 400000 in
theorem keeper_any (p : Option Addr) (n c : Nat) (W : World) :
    Calls Tryz.prog 19 #[.slice p n c] W fun e w' => e = .returned (.func (.func 42) #[] #[.pointer (some ⟨W.heap.size, 0, none⟩)]) ∧ w' = W.alloc (.cells #[.slice p n c] 47) := by
  have hmf := mkf
  go_enter Tryz.func19, Tryz.ntmps19
  go_wp2
  go_ret
  exact ⟨rfl, rfl⟩

set_option maxRecDepth 8000 in
set_option maxHeartbeats 1000000 in
theorem keeper1_zero (g : Nat) (p : Option Addr) (c : Nat) (ks : List Bool) (W : World) (hg : W.heap[g]? = some (.cells #[.slice p ks.length c] 47 (0, 0))) (hl : ks.length < 9223372036854775808) (hks : Bools W p ks) :
    Calls Tryz.prog 42 #[.int .i64 0, .pointer (some ⟨g, 0, none⟩)] W fun e w' => e = .returned (.bool (ks.headD false)) ∧ ∃ k, w' = W.drewN k := by
  have hc := cellOf hg 0
  simp at hc
  clear hg
  by_cases hpos : 0 < ks.length
  · obtain ⟨kb, ko, rfl, hx⟩ := hks hpos
    obtain ⟨x, hy⟩ : ∃ x, ks[0]? = some x := ⟨_, List.getElem?_eq_getElem hpos⟩
    have hh : ks.headD false = x := by cases ks with | nil => simp at hpos | cons a l => simpa using hy
    have HH : Hid (ks.headD false = x) := hh
    have h0 := hx 0 x hy
    rw [Nat.add_zero] at h0
    have hposI : (0 : Int) < ks.length := by omega
    have e3 : Int.tmod 0 (ks.length : Int) = 0 := by simp
    clear hks hx hh hy
    go_enter Tryz.func42, Tryz.ntmps42
    go_wp2_with fail
    go_quiet (fail)
    go_wp2
    go_ret
    rw [HH.out]
    exact ⟨by simp, _, rfl⟩
  · have hh : ks.headD false = false := by cases ks with | nil => rfl | cons a l => simp at hpos
    have HH : Hid (ks.headD false = false) := hh
    have hpd : decide ((0 : Int) < (ks.length : Int)) = false := decide_eq_false (by omega)
    clear hks hh
    go_enter Tryz.func42, Tryz.ntmps42
    go_wp2_with fail
    go_quiet (fail)
    go_wp2
    go_ret
    rw [HH.out]
    exact ⟨by simp, _, rfl⟩

/-- kept, asked of block 0 by a Keeper. -/
theorem kept_keeper (g : Nat) (p : Option Addr) (c : Nat) (ks : List Bool) (W : World) (hg : W.heap[g]? = some (.cells #[.slice p ks.length c] 47 (0, 0))) (hl : ks.length < 9223372036854775808) (hks : Bools W p ks) :
    Calls Tryz.prog 37 #[.func (.func 42) #[] #[.pointer (some ⟨g, 0, none⟩)], .int .i64 0] W fun e w' => e = .returned (.bool (ks.headD false)) ∧ Below W.heap.size W w' := by
  refine (kept_fn 0 42 _ W (fun b W' => b = ks.headD false ∧ Below W.heap.size W W') (enters_of Tryz.func42 (by kernel_rfl) rfl) ?_).mono ?_
  · show Calls Tryz.prog 42 #[.int .i64 0, .pointer (some ⟨g, 0, none⟩)] W _
    refine (keeper1_zero g p c ks W hg hl hks).mono ?_
    rintro e W' ⟨rfl, k, rfl⟩
    exact ⟨_, rfl, rfl, below_drewN (Below.refl _ W) k⟩
  · rintro e W' ⟨b, rfl, rfl, hB⟩
    exact ⟨rfl, hB⟩

end Go.Proofs.YtcchhalmlkdepaaGreatDoor
