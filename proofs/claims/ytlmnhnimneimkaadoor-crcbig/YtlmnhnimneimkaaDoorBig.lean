/-
  The law CrcBig returns true.
-/
import Derived.Test.YtlmnhnimneimkaaDoorBegun
namespace Go.Proofs.YtlmnhnimneimkaaDoor
open Go.RowKit

theorem make_run (w : World) (n : Nat) (hn : n ≤ 2000000) : ∃ w', (Instr.makeSlice 26 (.int .i64 n) (.int .i64 n)).run Tryd.prog w = .ok (.slice (some ⟨w.heap.size, 0, none⟩) n n) w' ∧
    Bytes w' (some ⟨w.heap.size, 0, none⟩) (List.replicate n 0#8) ∧ Below w.heap.size w w' := by
  obtain ⟨i0, hi0, hz0, hz1, hz2⟩ := info_parts Tryd.info5
  obtain ⟨w', h1, h2, h3⟩ := run_make_full (P := Tryd.prog) w 0 26 5 i0 (.int .u8 0) 1 Tryd.underlying26 hi0 hz0 hz1 .i64 .i64 n (by rw [hz2]; omega) (by unfold maxLen; omega) (Nat.zero_le _)
  refine ⟨w', h1, bytes_block (f := (0, 0)) ?_, (Below.refl _ w).grown h3 (Nat.le_refl _) (by simp)⟩
  rw [made_rep h2, List.map_replicate]
  rfl

theorem frame_n (n : Nat) (p : Option Addr) (cp : Nat) (w : World) (ht : Tab w) (hl : n ≤ 1048576) (hb : Bytes w p (List.replicate n 0#8)) :
    Calls Tryd.prog 14 #[.slice p n cp] w fun e w' => e = .returned (.tuple #[.slice (some ⟨w.heap.size, 0, none⟩) (8 + n) (8 + n), .int .i64 0]) ∧ Below w.heap.size w w' := by
  have := frame_yes p (List.replicate n 0#8) cp w ht (by rw [List.length_replicate]; exact hl) hb
  rw [List.length_replicate] at this
  exact this.mono (by rintro e w' ⟨rfl, _, h⟩; exact ⟨rfl, h⟩)

theorem sum_nil : crcSum [] = 0#32 := by decide +kernel

theorem of_nil (w : World) (ht : Tab w) : Calls Tryd.prog 13 #[.slice none 0 0] w fun e w' => e = .returned (.int .u32 0) ∧ Below w.heap.size w w' := by
  refine (of_any none [] 0 w ht (by decide) ⟨fun h => by simp at h, fun j x hj => by simp at hj⟩).mono ?_
  rintro e w' ⟨rfl, hB⟩
  refine ⟨?_, hB⟩
  rw [show allBytes [] = [] from rfl, sum_nil]
  rfl

set_option maxHeartbeats 1000000 in
theorem big_any (w : World) (ht : Tab w) : Calls Tryd.prog 6 #[] w fun e w' => e = .returned (.bool true) ∧ Below w.heap.size w w' := by
  have kc := fun (w : World) (C : Array Value) (n c : Nat) => Lib.run_convert_bytes_const (P := Tryd.prog) w 26 5 C n c Tryd.underlying26 Tryd.underlying5
  have HT : Hid (Tab w) := ht
  obtain ⟨w1, hmk1, hx1, hB1⟩ := make_run w 1048577 (by omega)
  obtain ⟨w2, hmk2, hb2, hB2⟩ := make_run w1 1048576 (by omega)
  have hB2' : Below w.heap.size w w2 := hB1.trans (hB2.mono hB1.size)
  have c14a := frame_no (some ⟨w.heap.size, 0, none⟩) 1048577 1048577 w1 (by omega)
  have c14b := frame_n 1048576 (some ⟨w1.heap.size, 0, none⟩) 1048576 w2 (below_tab hB2' ht.lt ht) (by omega) hb2
  have HB2 : Hid (Below w.heap.size w w2) := hB2'
  rw [show ((1048577 : Nat) : Int) = 1048577 from rfl] at hmk1
  rw [show ((1048576 : Nat) : Int) = 1048576 from rfl] at hmk2
  clear hx1 ht hb2 hB1 hB2 hB2'
  go_enter Tryd.func6, Tryd.ntmps6
  go_wp2_with fail
  refine Calls_on c14a ?_
  clear c14a
  go_wp2_with fail
  refine c14b.mono ?_
  rintro e w3 ⟨rfl, hB3⟩
  clear c14b hmk1 hmk2
  have hB3' : Below w.heap.size w w3 := HB2.out.trans (hB3.mono HB2.out.size)
  clear hB3
  go_wp2_with fail
  refine Calls_on (add_nil _ _ _ _) ?_
  have hB4 : Below w.heap.size w (w3.alloc (.cells #[.int .u8 97] 5 (1, 2))) := hB3'.alloc hB3'.size _
  generalize w3.alloc (.cells #[.int .u8 97] 5 (1, 2)) = w4 at hB4 ⊢
  clear hB3' kc
  go_wp2_with fail
  refine (begun_any w4 (below_tab hB4 HT.out.lt HT.out)).mono ?_
  rintro e w5 ⟨rfl, hB5'⟩
  have hB5 : Below w.heap.size w w5 := hB4.trans (hB5'.mono hB4.size)
  have c13 := of_nil w5 (below_tab hB5 HT.out.lt HT.out)
  clear hB4 hB5'
  go_wp2_with (first
    | (go_at_call 11; refine Calls_on (value_nil _) ?_)
    | (go_at_call 13; refine c13.mono ?_; rintro e w6 ⟨rfl, hB6⟩))
  go_ret
  exact ⟨rfl, hB5.trans (hB6.mono hB5.size)⟩

end Go.Proofs.YtlmnhnimneimkaaDoor
