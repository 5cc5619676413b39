/-
  The function that DeviceAll hands to Crash: it notes whether it is asked rightly, and answers by what is to be kept.
-/
import Derived.Test.YtnobebgnbofdpaaBoth
import Derived.Deep.QuietTactic
import Derived.BigQuiet
namespace Go.Proofs.Ytnobebgnbofdpaa
open Go.RowKit Go.Maps Go.Sort Go.Shelf

set_option maxHeartbeats 1000000 in
theorem ask_any (i : Nat) (fB lB rB oB r sL n cL : Nat) (la : Int) (kp : Option Addr) (kc : Nat) (ks : List Bool) (W : World)
    (hf : W.heap[fB]? = some (.cells #[.bool true] 4 (0, 0))) (hl : W.heap[lB]? = some (.cells #[.int .i64 la] 3 (0, 0))) (hrB : W.cell? ⟨rB, 0, none⟩ = some (.pointer (some ⟨r, 0, none⟩)))
    (hr2 : W.cell? ⟨r, 2, none⟩ = some (.slice (some ⟨sL, 0, none⟩) n cL)) (hL : W.cell? ⟨sL, i, none⟩ = some (.bool true)) (hi : i < n) (hla : la < i)
    (ho : W.cell? ⟨oB, 4, none⟩ = some (.slice kp ks.length kc)) (hkl : ks.length < 9223372036854775808)
    (hne1 : oB ≠ fB) (hne2 : oB ≠ lB) (hfl : fB ≠ lB) (hks : 0 < ks.length → ∃ kb ko, kp = some ⟨kb, ko, none⟩ ∧ kb ≠ fB ∧ kb ≠ lB ∧ ∀ j x, ks[j]? = some x → W.cell? ⟨kb, ko + j, none⟩ = some (.bool x)) :
    Calls Try.prog 17 (#[.int .i64 i] ++ #[.pointer (some ⟨fB, 0, none⟩), .pointer (some ⟨lB, 0, none⟩), .pointer (some ⟨rB, 0, none⟩), .pointer (some ⟨oB, 0, none⟩)]) W fun e W' =>
      e = .returned (.bool (keepsB ks i)) ∧ W'.heap[fB]? = some (.cells #[.bool true] 4 (0, 0)) ∧ W'.heap[lB]? = some (.cells #[.int .i64 i] 3 (0, 0)) ∧ But (fun b => b = fB ∨ b = lB) W W' := by
  show Calls Try.prog 17 #[.int .i64 i, .pointer (some ⟨fB, 0, none⟩), .pointer (some ⟨lB, 0, none⟩), .pointer (some ⟨rB, 0, none⟩), .pointer (some ⟨oB, 0, none⟩)] W _
  have c1 : W.cell? ⟨fB, 0, none⟩ = some (.bool true) := cellOf hf 0
  have f1 := frozenOf hf 0
  have c2 : W.cell? ⟨lB, 0, none⟩ = some (.int .i64 la) := cellOf hl 0
  have f2 := frozenOf hl 0
  obtain ⟨W2, hW2⟩ : ∃ W2, W2 = (W.setCell ⟨fB, 0, none⟩ (.bool true)).setCell ⟨lB, 0, none⟩ (.int .i64 i) := ⟨_, rfl⟩
  have o2 : W2.cell? ⟨oB, 4, none⟩ = some (.slice kp ks.length kc) := by rw [hW2]; exact cell_set_other (cell_set_other ho hne1) hne2
  have done : W2.heap[fB]? = some (.cells #[.bool true] 4 (0, 0)) ∧ W2.heap[lB]? = some (.cells #[.int .i64 i] 3 (0, 0)) ∧ But (fun b => b = fB ∨ b = lB) W W2 := by
    rw [hW2]
    refine ⟨?_, ?_, ((But.refl _ W).setCell ⟨fB, 0, none⟩ (.inl rfl) _).setCell ⟨lB, 0, none⟩ (.inr rfl) _⟩
    · rw [Below.heap_setCell _ ⟨lB, 0, none⟩ _ fB hfl]
      simp [World.setCell, Array.getElem?_modify, hf]
    · have h1 : (W.setCell ⟨fB, 0, none⟩ (.bool true)).heap[lB]? = some (.cells #[.int .i64 la] 3 (0, 0)) := (Below.heap_setCell W ⟨fB, 0, none⟩ _ lB (Ne.symm hfl)).trans hl
      generalize W.setCell ⟨fB, 0, none⟩ (.bool true) = V at h1
      simp [World.setCell, Array.getElem?_modify, h1]
  have HD : Hid (W2.heap[fB]? = some (.cells #[.bool true] 4 (0, 0)) ∧ W2.heap[lB]? = some (.cells #[.int .i64 i] 3 (0, 0)) ∧ But (fun b => b = fB ∨ b = lB) W W2) := done
  have hiI : (i : Int) < n := by omega
  have hi0 : (0 : Int) ≤ i := by omega
  have c3 : (W.setCell ⟨fB, 0, none⟩ (.bool true)).cell? ⟨lB, 0, none⟩ = some (.int .i64 la) := cell_set_other c2 (Ne.symm hfl)
  have f3 : (W.setCell ⟨fB, 0, none⟩ (.bool true)).frozen? ⟨lB, 0, none⟩ = false := frozen_set f2
  have HW2 : Hid (W2 = (W.setCell ⟨fB, 0, none⟩ (.bool true)).setCell ⟨lB, 0, none⟩ (.int .i64 i)) := hW2
  clear hf hl done ho hW2
  by_cases hpos : 0 < ks.length
  · obtain ⟨kb, ko, rfl, hk1, hk2, hkc⟩ := hks hpos
    have hmod : i % ks.length < ks.length := Nat.mod_lt _ hpos
    obtain ⟨y, hy⟩ : ∃ y, ks[i % ks.length]? = some y := ⟨_, List.getElem?_eq_getElem hmod⟩
    have hkb : keepsB ks i = y := by simp [keepsB, hy, hpos]
    have HKB : Hid (keepsB ks i = y) := hkb
    have c4 : W2.cell? ⟨kb, ko + i % ks.length, none⟩ = some (.bool y) := by rw [HW2.out]; exact cell_set_other (cell_set_other (hkc _ _ hy) hk1) hk2
    have hposI : (0 : Int) < ks.length := by omega
    clear hks hkc hy hkb
    go_enter Try.func17, Try.ntmps17
    go_wp2_with fail
    rw [← HW2.out]
    go_quiet (fail)
    go_wp2
    go_ret
    rw [HKB.out]
    exact ⟨by simp, HD.out.1, HD.out.2.1, ⟨HD.out.2.2.os, HD.out.2.2.tape, HD.out.2.2.output, HD.out.2.2.size, HD.out.2.2.block⟩⟩
  · have hz : ks.length = 0 := by omega
    have hkb : keepsB ks i = false := by simp [keepsB]; intro h; exact absurd h hpos
    have HKB : Hid (keepsB ks i = false) := hkb
    have hpd : decide ((0 : Int) < (ks.length : Int)) = false := decide_eq_false (by omega)
    clear hks hkb
    go_enter Try.func17, Try.ntmps17
    go_wp2_with fail
    rw [← HW2.out]
    go_quiet (fail)
    go_wp2
    go_ret
    rw [HKB.out]
    exact ⟨by simp, HD.out.1, HD.out.2.1, ⟨HD.out.2.2.os, HD.out.2.2.tape, HD.out.2.2.output, HD.out.2.2.size, HD.out.2.2.block⟩⟩

end Go.Proofs.Ytnobebgnbofdpaa
