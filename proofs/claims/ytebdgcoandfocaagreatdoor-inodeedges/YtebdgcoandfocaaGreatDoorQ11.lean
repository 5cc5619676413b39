/-
  What the proof leans on, part 12.
-/
import Derived.Test.YtebdgcoandfocaaGreatDoorQ10
import Derived.Test.YtebdgcoandfocaaGreatDoorQ02
import Derived.Test.YtebdgcoandfocaaGreatDoorQ07

/-
  Package inode: Bytes and Load.
-/
namespace Go.Proofs.YtebdgcoandfocaaGreatDoor
open Go.RowKit

theorem imadeCells (z : Value) (n : Nat) : madeCells #[z] n = (List.replicate n z).toArray := by
  rw [← toList_madeCells_one]
theorem imake (w : World) (n : Nat) (hn : n ≤ 2000000) :
    (Instr.makeSlice 30 (.int .i64 n) (.int .i64 n)).run Tryz.prog w = .ok (.slice (some ⟨w.heap.size, 0, none⟩) n n) (w.alloc (.cells (List.replicate n (.int .u8 0)).toArray 5)) := by
  obtain ⟨i0, hi0, hz0, hz1, hz2⟩ := info_parts Tryz.info5
  have := run_make (P := Tryz.prog) w 30 5 i0 (.int .u8 0) Tryz.underlying30 hi0 hz0 .i64 .i64 n n (by omega) (Int.le_refl _) (by rw [hz2]; omega) (by omega)
  rw [this, hz1, show (Value.int .u8 0).cells = #[Value.int .u8 0] from rfl, Int.toNat_natCast, Nat.mul_one, imadeCells]

theorem list10 {α : Type} {l : List α} (h : l.length = 10) : ∃ a b c d e f g i j k, l = [a, b, c, d, e, f, g, i, j, k] := by
  match l, h with
  | [a, b, c, d, e, f, g, i, j, k], _ => exact ⟨a, b, c, d, e, f, g, i, j, k, rfl⟩

/-- An inode's bytes. -/
def inoBytes (s : BitVec 32) (ns : List (BitVec 32)) : By := le4 s ++ ns.flatMap le4
/-- .. of which i numbers are laid. -/
def inoPart (s : BitVec 32) (ns : List (BitVec 32)) (i : Nat) : By := le4 s ++ ((ns.take i).flatMap le4 ++ List.replicate (40 - 4 * i) 0#8)
theorem flat4_length (l : List (BitVec 32)) : (l.flatMap le4).length = 4 * l.length := by
  induction l with
  | nil => rfl
  | cons x l ih => rw [List.flatMap_cons, List.length_append, ih, le4_length, List.length_cons]; omega
theorem inoPart_length (s : BitVec 32) (ns : List (BitVec 32)) (hn : ns.length = 10) (i : Nat) (hi : i ≤ 10) : (inoPart s ns i).length = 44 := by
  unfold inoPart
  rw [List.length_append, List.length_append, flat4_length, le4_length, List.length_replicate, List.length_take]
  omega
theorem inoPart_step (s : BitVec 32) (ns : List (BitVec 32)) (i : Nat) (n : BitVec 32) (h : ns[i]? = some n) (hn : ns.length = 10) : splice ((inoPart s ns i).map u8v) (4 * (i + 1)) ((le4 n).map u8v) = (inoPart s ns (i + 1)).map u8v := by
  have hi : i < ns.length := (List.getElem?_eq_some_iff.1 h).1
  have hl : (le4 s ++ (ns.take i).flatMap le4).length = 4 * (i + 1) := by rw [List.length_append, flat4_length, le4_length, List.length_take]; omega
  have e1 : inoPart s ns i = (le4 s ++ (ns.take i).flatMap le4) ++ (List.replicate 4 0#8 ++ List.replicate (40 - 4 * (i + 1)) 0#8) := by
    unfold inoPart
    rw [List.append_assoc, List.replicate_append_replicate, show 4 + (40 - 4 * (i + 1)) = 40 - 4 * i by omega]
  have e2 : inoPart s ns (i + 1) = (le4 s ++ (ns.take i).flatMap le4) ++ (le4 n ++ List.replicate (40 - 4 * (i + 1)) 0#8) := by
    unfold inoPart
    rw [List.take_add_one, h]
    simp
  rw [e1, e2]
  unfold splice
  simp only [List.map_append, List.length_map]
  have hl' : (List.map u8v (le4 s) ++ List.map u8v (List.flatMap le4 (List.take i ns))).length = 4 * (i + 1) := by rw [← List.map_append, List.length_map]; exact hl
  rw [List.take_left' hl', ← List.append_assoc, le4_length, List.append_assoc]
  congr 2
  rw [← List.append_assoc, List.drop_left' (by rw [List.length_append, hl']; simp)]

set_option maxRecDepth 8000 in
set_option maxHeartbeats 1000000 in
theorem ibytes_any (a : Nat) (s : BitVec 32) (ns : List (BitVec 32)) (hn : ns.length = 10) (w : World) (h : InoAt w a s.toNat ns) :
    Calls Tryz.prog 16 #[.pointer (some ⟨a, 0, none⟩)] w fun e w' => e = .returned (.slice (some ⟨w.heap.size, 0, none⟩) 44 44) ∧ w'.heap[w.heap.size]? = some (.cells ((inoBytes s ns).map u8v).toArray 5 (0, 0)) ∧ Below w.heap.size w w' := by
  have hmk : (Instr.makeSlice 30 (.int .i64 44) (.int .i64 44)).run Tryz.prog w = .ok (.slice (some ⟨w.heap.size, 0, none⟩) 44 44) (w.alloc (.cells (List.replicate 44 (.int .u8 0)).toArray 5)) := imake w 44 (by omega)
  obtain ⟨w1, hw1⟩ : ∃ w1, w1 = w.alloc (.cells (List.replicate 44 (.int .u8 0)).toArray 5) := ⟨_, rfl⟩
  rw [← hw1] at hmk
  have hB1 : Below w.heap.size w w1 := by rw [hw1]; exact (Below.refl _ w).alloc (Nat.le_refl _) _
  have hx1 : w1.heap[w.heap.size]? = some (.cells (List.replicate 44 (Value.int .u8 0)).toArray 5 (0, 0)) := by rw [hw1]; exact heap_alloc_new w _
  have h1 : InoAt w1 a s.toNat ns := h.below hB1 h.lt
  have c0 := h1.size
  have hlp : ∀ i, i ≤ 10 → ((inoPart s ns i).map u8v).length = 44 := fun i hi => by rw [List.length_map]; exact inoPart_length s ns hn i hi
  have hstep := fun (i : Nat) (n : BitVec 32) (hx : ns[i]? = some n) => inoPart_step s ns i n hx hn
  obtain ⟨n0, n1, n2, n3, n4, n5, n6, n7, n8, n9, hns⟩ := list10 hn
  have cc : ∀ (i : Nat) (x : BitVec 32), ns[i]? = some x → ∀ wr, Below w.heap.size w wr → wr.cell? ⟨a, 1 + i, none⟩ = some (u32v x) := fun i x hx wr hb => (h.below hb h.lt).num hx
  have cS := setNumber_any s w.heap.size 44 44 0 (List.replicate 44 (Value.int .u8 0)) w1 hx1 (by simp) (by simp) (by omega)
  have hcv : IntKind.u32.wrap (s.toNat : Int) = (s.toNat : Int) := by have := s.isLt; rw [IntKind.wrap_u32]; omega
  have e0 : splice (List.replicate 44 (Value.int .u8 0)) (4 * 0) ((le4 s).map u8v) = (inoPart s ns 0).map u8v := by
    unfold inoPart splice
    simp only [Nat.mul_zero, List.take_zero, List.nil_append, List.flatMap_nil, List.map_append, List.map_replicate, List.length_map, le4_length, List.drop_replicate]
    rfl
  rw [e0] at cS
  have H1 : Hid (Below w.heap.size w w1) := hB1
  unfold u32v at cS cc
  clear h h1 hB1 hx1 hw1
  go_enter Tryz.func16, Tryz.ntmps16
  go_wp2_with (go_at_call 33; refine cS.mono ?_; rintro e w2 ⟨rfl, hL2, hB2, hz2⟩; clear cS; refine Stop.out ?_)
  refine Stop.mk ?_
  have hB02 : Below w.heap.size w w2 := H1.out.trans hB2
  have d0 : w2.cell? ⟨a, 1, none⟩ = some (.int .u32 (n0.toNat : Int)) := cc 0 n0 (by rw [hns]; rfl) w2 hB02
  have d1 : w2.cell? ⟨a, 2, none⟩ = some (.int .u32 (n1.toNat : Int)) := cc 1 n1 (by rw [hns]; rfl) w2 hB02
  have d2 : w2.cell? ⟨a, 3, none⟩ = some (.int .u32 (n2.toNat : Int)) := cc 2 n2 (by rw [hns]; rfl) w2 hB02
  have d3 : w2.cell? ⟨a, 4, none⟩ = some (.int .u32 (n3.toNat : Int)) := cc 3 n3 (by rw [hns]; rfl) w2 hB02
  have d4 : w2.cell? ⟨a, 5, none⟩ = some (.int .u32 (n4.toNat : Int)) := cc 4 n4 (by rw [hns]; rfl) w2 hB02
  have d5 : w2.cell? ⟨a, 6, none⟩ = some (.int .u32 (n5.toNat : Int)) := cc 5 n5 (by rw [hns]; rfl) w2 hB02
  have d6 : w2.cell? ⟨a, 7, none⟩ = some (.int .u32 (n6.toNat : Int)) := cc 6 n6 (by rw [hns]; rfl) w2 hB02
  have d7 : w2.cell? ⟨a, 8, none⟩ = some (.int .u32 (n7.toNat : Int)) := cc 7 n7 (by rw [hns]; rfl) w2 hB02
  have d8 : w2.cell? ⟨a, 9, none⟩ = some (.int .u32 (n8.toNat : Int)) := cc 8 n8 (by rw [hns]; rfl) w2 hB02
  have d9 : w2.cell? ⟨a, 10, none⟩ = some (.int .u32 (n9.toNat : Int)) := cc 9 n9 (by rw [hns]; rfl) w2 hB02
  have H2 : Hid (w2.heap[w.heap.size]? = some (.cells ((inoPart s ns 0).map u8v).toArray 5 (0, 0)) ∧ Below w.heap.size w w2) := ⟨hL2, hB02⟩
  clear hL2 hB2 hz2 hB02 cc c0
  go_wp2_with fail
  clear d0 d1 d2 d3 d4 d5 d6 d7 d8 d9
  go_loopw [20] (fun ii wr => ∃ i : Nat, i ≤ 10 ∧ ii = .int .i64 i ∧ Hid (wr.heap[w.heap.size]? = some (.cells ((inoPart s ns i).map u8v).toArray 5 (0, 0))) ∧ Hid (Below w.heap.size w wr)) (fun ii _ => 10 - (intOf ii).toNat)
  case atStart => exact ⟨0, by omega, rfl, H2.out.1, H2.out.2⟩
  case round =>
    clear H2
    obtain ⟨i, hi, rfl, HB, HZ⟩ := hrel
    match i, hi with
    | 0, _ =>
      have hix : ∀ W, (Instr.index 55 (.agg #[.int .u32 (n0.toNat : Int), .int .u32 (n1.toNat : Int), .int .u32 (n2.toNat : Int), .int .u32 (n3.toNat : Int), .int .u32 (n4.toNat : Int), .int .u32 (n5.toNat : Int), .int .u32 (n6.toNat : Int), .int .u32 (n7.toNat : Int), .int .u32 (n8.toNat : Int), .int .u32 (n9.toNat : Int)]) (.int .i64 0)).run Tryz.prog W = .ok (.int .u32 (n0.toNat : Int)) W := fun W => idx10 _ 0 _ rfl (by omega) W
      have cS := setNumber_any n0 w.heap.size 44 44 1 ((inoPart s ns 0).map u8v) wr HB.out (by rw [hlp _ (by omega)]; decide) (hlp _ (by omega)) (by omega)
      unfold u32v at cS
      go_wp2_with (go_at_call 33; refine cS.mono ?_; rintro e w3 ⟨rfl, hL3, hB3, hz3⟩; clear cS; have H3 : Hid (w3.heap[w.heap.size]? = some (.cells ((inoPart s ns 1).map u8v).toArray 5 (0, 0)) ∧ Below w.heap.size w w3) := ⟨by rw [hstep 0 n0 (by rw [hns]; rfl)] at hL3; exact hL3, HZ.out.trans hB3⟩; clear hL3 hB3 hz3)
      exact ⟨⟨1, by omega, rfl, H3.out.1, H3.out.2⟩, by simp [intOf]⟩
    | 1, _ =>
      have hix : ∀ W, (Instr.index 55 (.agg #[.int .u32 (n0.toNat : Int), .int .u32 (n1.toNat : Int), .int .u32 (n2.toNat : Int), .int .u32 (n3.toNat : Int), .int .u32 (n4.toNat : Int), .int .u32 (n5.toNat : Int), .int .u32 (n6.toNat : Int), .int .u32 (n7.toNat : Int), .int .u32 (n8.toNat : Int), .int .u32 (n9.toNat : Int)]) (.int .i64 1)).run Tryz.prog W = .ok (.int .u32 (n1.toNat : Int)) W := fun W => idx10 _ 1 _ rfl (by omega) W
      have cS := setNumber_any n1 w.heap.size 44 44 2 ((inoPart s ns 1).map u8v) wr HB.out (by rw [hlp _ (by omega)]; decide) (hlp _ (by omega)) (by omega)
      unfold u32v at cS
      go_wp2_with (go_at_call 33; refine cS.mono ?_; rintro e w3 ⟨rfl, hL3, hB3, hz3⟩; clear cS; have H3 : Hid (w3.heap[w.heap.size]? = some (.cells ((inoPart s ns 2).map u8v).toArray 5 (0, 0)) ∧ Below w.heap.size w w3) := ⟨by rw [hstep 1 n1 (by rw [hns]; rfl)] at hL3; exact hL3, HZ.out.trans hB3⟩; clear hL3 hB3 hz3)
      exact ⟨⟨2, by omega, rfl, H3.out.1, H3.out.2⟩, by simp [intOf]⟩
    | 2, _ =>
      have hix : ∀ W, (Instr.index 55 (.agg #[.int .u32 (n0.toNat : Int), .int .u32 (n1.toNat : Int), .int .u32 (n2.toNat : Int), .int .u32 (n3.toNat : Int), .int .u32 (n4.toNat : Int), .int .u32 (n5.toNat : Int), .int .u32 (n6.toNat : Int), .int .u32 (n7.toNat : Int), .int .u32 (n8.toNat : Int), .int .u32 (n9.toNat : Int)]) (.int .i64 2)).run Tryz.prog W = .ok (.int .u32 (n2.toNat : Int)) W := fun W => idx10 _ 2 _ rfl (by omega) W
      have cS := setNumber_any n2 w.heap.size 44 44 3 ((inoPart s ns 2).map u8v) wr HB.out (by rw [hlp _ (by omega)]; decide) (hlp _ (by omega)) (by omega)
      unfold u32v at cS
      go_wp2_with (go_at_call 33; refine cS.mono ?_; rintro e w3 ⟨rfl, hL3, hB3, hz3⟩; clear cS; have H3 : Hid (w3.heap[w.heap.size]? = some (.cells ((inoPart s ns 3).map u8v).toArray 5 (0, 0)) ∧ Below w.heap.size w w3) := ⟨by rw [hstep 2 n2 (by rw [hns]; rfl)] at hL3; exact hL3, HZ.out.trans hB3⟩; clear hL3 hB3 hz3)
      exact ⟨⟨3, by omega, rfl, H3.out.1, H3.out.2⟩, by simp [intOf]⟩
    | 3, _ =>
      have hix : ∀ W, (Instr.index 55 (.agg #[.int .u32 (n0.toNat : Int), .int .u32 (n1.toNat : Int), .int .u32 (n2.toNat : Int), .int .u32 (n3.toNat : Int), .int .u32 (n4.toNat : Int), .int .u32 (n5.toNat : Int), .int .u32 (n6.toNat : Int), .int .u32 (n7.toNat : Int), .int .u32 (n8.toNat : Int), .int .u32 (n9.toNat : Int)]) (.int .i64 3)).run Tryz.prog W = .ok (.int .u32 (n3.toNat : Int)) W := fun W => idx10 _ 3 _ rfl (by omega) W
      have cS := setNumber_any n3 w.heap.size 44 44 4 ((inoPart s ns 3).map u8v) wr HB.out (by rw [hlp _ (by omega)]; decide) (hlp _ (by omega)) (by omega)
      unfold u32v at cS
      go_wp2_with (go_at_call 33; refine cS.mono ?_; rintro e w3 ⟨rfl, hL3, hB3, hz3⟩; clear cS; have H3 : Hid (w3.heap[w.heap.size]? = some (.cells ((inoPart s ns 4).map u8v).toArray 5 (0, 0)) ∧ Below w.heap.size w w3) := ⟨by rw [hstep 3 n3 (by rw [hns]; rfl)] at hL3; exact hL3, HZ.out.trans hB3⟩; clear hL3 hB3 hz3)
      exact ⟨⟨4, by omega, rfl, H3.out.1, H3.out.2⟩, by simp [intOf]⟩
    | 4, _ =>
      have hix : ∀ W, (Instr.index 55 (.agg #[.int .u32 (n0.toNat : Int), .int .u32 (n1.toNat : Int), .int .u32 (n2.toNat : Int), .int .u32 (n3.toNat : Int), .int .u32 (n4.toNat : Int), .int .u32 (n5.toNat : Int), .int .u32 (n6.toNat : Int), .int .u32 (n7.toNat : Int), .int .u32 (n8.toNat : Int), .int .u32 (n9.toNat : Int)]) (.int .i64 4)).run Tryz.prog W = .ok (.int .u32 (n4.toNat : Int)) W := fun W => idx10 _ 4 _ rfl (by omega) W
      have cS := setNumber_any n4 w.heap.size 44 44 5 ((inoPart s ns 4).map u8v) wr HB.out (by rw [hlp _ (by omega)]; decide) (hlp _ (by omega)) (by omega)
      unfold u32v at cS
      go_wp2_with (go_at_call 33; refine cS.mono ?_; rintro e w3 ⟨rfl, hL3, hB3, hz3⟩; clear cS; have H3 : Hid (w3.heap[w.heap.size]? = some (.cells ((inoPart s ns 5).map u8v).toArray 5 (0, 0)) ∧ Below w.heap.size w w3) := ⟨by rw [hstep 4 n4 (by rw [hns]; rfl)] at hL3; exact hL3, HZ.out.trans hB3⟩; clear hL3 hB3 hz3)
      exact ⟨⟨5, by omega, rfl, H3.out.1, H3.out.2⟩, by simp [intOf]⟩
    | 5, _ =>
      have hix : ∀ W, (Instr.index 55 (.agg #[.int .u32 (n0.toNat : Int), .int .u32 (n1.toNat : Int), .int .u32 (n2.toNat : Int), .int .u32 (n3.toNat : Int), .int .u32 (n4.toNat : Int), .int .u32 (n5.toNat : Int), .int .u32 (n6.toNat : Int), .int .u32 (n7.toNat : Int), .int .u32 (n8.toNat : Int), .int .u32 (n9.toNat : Int)]) (.int .i64 5)).run Tryz.prog W = .ok (.int .u32 (n5.toNat : Int)) W := fun W => idx10 _ 5 _ rfl (by omega) W
      have cS := setNumber_any n5 w.heap.size 44 44 6 ((inoPart s ns 5).map u8v) wr HB.out (by rw [hlp _ (by omega)]; decide) (hlp _ (by omega)) (by omega)
      unfold u32v at cS
      go_wp2_with (go_at_call 33; refine cS.mono ?_; rintro e w3 ⟨rfl, hL3, hB3, hz3⟩; clear cS; have H3 : Hid (w3.heap[w.heap.size]? = some (.cells ((inoPart s ns 6).map u8v).toArray 5 (0, 0)) ∧ Below w.heap.size w w3) := ⟨by rw [hstep 5 n5 (by rw [hns]; rfl)] at hL3; exact hL3, HZ.out.trans hB3⟩; clear hL3 hB3 hz3)
      exact ⟨⟨6, by omega, rfl, H3.out.1, H3.out.2⟩, by simp [intOf]⟩
    | 6, _ =>
      have hix : ∀ W, (Instr.index 55 (.agg #[.int .u32 (n0.toNat : Int), .int .u32 (n1.toNat : Int), .int .u32 (n2.toNat : Int), .int .u32 (n3.toNat : Int), .int .u32 (n4.toNat : Int), .int .u32 (n5.toNat : Int), .int .u32 (n6.toNat : Int), .int .u32 (n7.toNat : Int), .int .u32 (n8.toNat : Int), .int .u32 (n9.toNat : Int)]) (.int .i64 6)).run Tryz.prog W = .ok (.int .u32 (n6.toNat : Int)) W := fun W => idx10 _ 6 _ rfl (by omega) W
      have cS := setNumber_any n6 w.heap.size 44 44 7 ((inoPart s ns 6).map u8v) wr HB.out (by rw [hlp _ (by omega)]; decide) (hlp _ (by omega)) (by omega)
      unfold u32v at cS
      go_wp2_with (go_at_call 33; refine cS.mono ?_; rintro e w3 ⟨rfl, hL3, hB3, hz3⟩; clear cS; have H3 : Hid (w3.heap[w.heap.size]? = some (.cells ((inoPart s ns 7).map u8v).toArray 5 (0, 0)) ∧ Below w.heap.size w w3) := ⟨by rw [hstep 6 n6 (by rw [hns]; rfl)] at hL3; exact hL3, HZ.out.trans hB3⟩; clear hL3 hB3 hz3)
      exact ⟨⟨7, by omega, rfl, H3.out.1, H3.out.2⟩, by simp [intOf]⟩
    | 7, _ =>
      have hix : ∀ W, (Instr.index 55 (.agg #[.int .u32 (n0.toNat : Int), .int .u32 (n1.toNat : Int), .int .u32 (n2.toNat : Int), .int .u32 (n3.toNat : Int), .int .u32 (n4.toNat : Int), .int .u32 (n5.toNat : Int), .int .u32 (n6.toNat : Int), .int .u32 (n7.toNat : Int), .int .u32 (n8.toNat : Int), .int .u32 (n9.toNat : Int)]) (.int .i64 7)).run Tryz.prog W = .ok (.int .u32 (n7.toNat : Int)) W := fun W => idx10 _ 7 _ rfl (by omega) W
      have cS := setNumber_any n7 w.heap.size 44 44 8 ((inoPart s ns 7).map u8v) wr HB.out (by rw [hlp _ (by omega)]; decide) (hlp _ (by omega)) (by omega)
      unfold u32v at cS
      go_wp2_with (go_at_call 33; refine cS.mono ?_; rintro e w3 ⟨rfl, hL3, hB3, hz3⟩; clear cS; have H3 : Hid (w3.heap[w.heap.size]? = some (.cells ((inoPart s ns 8).map u8v).toArray 5 (0, 0)) ∧ Below w.heap.size w w3) := ⟨by rw [hstep 7 n7 (by rw [hns]; rfl)] at hL3; exact hL3, HZ.out.trans hB3⟩; clear hL3 hB3 hz3)
      exact ⟨⟨8, by omega, rfl, H3.out.1, H3.out.2⟩, by simp [intOf]⟩
    | 8, _ =>
      have hix : ∀ W, (Instr.index 55 (.agg #[.int .u32 (n0.toNat : Int), .int .u32 (n1.toNat : Int), .int .u32 (n2.toNat : Int), .int .u32 (n3.toNat : Int), .int .u32 (n4.toNat : Int), .int .u32 (n5.toNat : Int), .int .u32 (n6.toNat : Int), .int .u32 (n7.toNat : Int), .int .u32 (n8.toNat : Int), .int .u32 (n9.toNat : Int)]) (.int .i64 8)).run Tryz.prog W = .ok (.int .u32 (n8.toNat : Int)) W := fun W => idx10 _ 8 _ rfl (by omega) W
      have cS := setNumber_any n8 w.heap.size 44 44 9 ((inoPart s ns 8).map u8v) wr HB.out (by rw [hlp _ (by omega)]; decide) (hlp _ (by omega)) (by omega)
      unfold u32v at cS
      go_wp2_with (go_at_call 33; refine cS.mono ?_; rintro e w3 ⟨rfl, hL3, hB3, hz3⟩; clear cS; have H3 : Hid (w3.heap[w.heap.size]? = some (.cells ((inoPart s ns 9).map u8v).toArray 5 (0, 0)) ∧ Below w.heap.size w w3) := ⟨by rw [hstep 8 n8 (by rw [hns]; rfl)] at hL3; exact hL3, HZ.out.trans hB3⟩; clear hL3 hB3 hz3)
      exact ⟨⟨9, by omega, rfl, H3.out.1, H3.out.2⟩, by simp [intOf]⟩
    | 9, _ =>
      have hix : ∀ W, (Instr.index 55 (.agg #[.int .u32 (n0.toNat : Int), .int .u32 (n1.toNat : Int), .int .u32 (n2.toNat : Int), .int .u32 (n3.toNat : Int), .int .u32 (n4.toNat : Int), .int .u32 (n5.toNat : Int), .int .u32 (n6.toNat : Int), .int .u32 (n7.toNat : Int), .int .u32 (n8.toNat : Int), .int .u32 (n9.toNat : Int)]) (.int .i64 9)).run Tryz.prog W = .ok (.int .u32 (n9.toNat : Int)) W := fun W => idx10 _ 9 _ rfl (by omega) W
      have cS := setNumber_any n9 w.heap.size 44 44 10 ((inoPart s ns 9).map u8v) wr HB.out (by rw [hlp _ (by omega)]; decide) (hlp _ (by omega)) (by omega)
      unfold u32v at cS
      go_wp2_with (go_at_call 33; refine cS.mono ?_; rintro e w3 ⟨rfl, hL3, hB3, hz3⟩; clear cS; have H3 : Hid (w3.heap[w.heap.size]? = some (.cells ((inoPart s ns 10).map u8v).toArray 5 (0, 0)) ∧ Below w.heap.size w w3) := ⟨by rw [hstep 9 n9 (by rw [hns]; rfl)] at hL3; exact hL3, HZ.out.trans hB3⟩; clear hL3 hB3 hz3)
      exact ⟨⟨10, by omega, rfl, H3.out.1, H3.out.2⟩, by simp [intOf]⟩
    | 10, _ =>
      go_wp2
      go_ret
      refine ⟨rfl, ?_, HZ.out⟩
      have := HB.out
      rw [show inoPart s ns 10 = inoBytes s ns by unfold inoPart inoBytes; rw [List.take_of_length_le (by omega)]; simp] at this
      exact this

end Go.Proofs.YtebdgcoandfocaaGreatDoor

/-
  Package inode: Load.
-/
namespace Go.Proofs.YtebdgcoandfocaaGreatDoor
open Go.RowKit

/-- The number in its place among bytes. -/
def numOf (bs : By) (i : Nat) : BitVec 32 := BitVec.ofNat 32 (leN ((bs.drop (4 * i)).take 4))
theorem four_at (bs : By) (i : Nat) (h : 4 * i + 4 ≤ bs.length) : ∃ b0 b1 b2 b3, (bs.drop (4 * i)).take 4 = [b0, b1, b2, b3] ∧ bs[4 * i]? = some b0 ∧ bs[4 * i + 1]? = some b1 ∧ bs[4 * i + 2]? = some b2 ∧ bs[4 * i + 3]? = some b3 := by
  have h0 := List.drop_eq_getElem_cons (show 4 * i < bs.length by omega)
  have h1 := List.drop_eq_getElem_cons (show 4 * i + 1 < bs.length by omega)
  have h2 := List.drop_eq_getElem_cons (show 4 * i + 1 + 1 < bs.length by omega)
  have h3 := List.drop_eq_getElem_cons (show 4 * i + 1 + 1 + 1 < bs.length by omega)
  refine ⟨_, _, _, _, ?_, List.getElem?_eq_getElem (by omega), List.getElem?_eq_getElem (by omega), List.getElem?_eq_getElem (by omega), List.getElem?_eq_getElem (by omega)⟩
  rw [h0, h1, h2, h3]
  rfl
theorem leN4_lt (b0 b1 b2 b3 : BitVec 8) : leN [b0, b1, b2, b3] < 4294967296 := by
  have l0 := b0.isLt
  have l1 := b1.isLt
  have l2 := b2.isLt
  have l3 := b3.isLt
  simp only [leN]
  omega

theorem number_bytes (p : Option Addr) (bs : By) (cp i : Nat) (w : World) (hb : Bytes w p bs) (hc : bs.length ≤ cp) (hl : 4 * i + 4 ≤ bs.length) (hi : i ≤ 1000) :
    Calls Tryz.prog 32 #[.slice p bs.length cp, .int .i64 (i : Nat)] w fun e w' => e = .returned (u32v (numOf bs i)) ∧ w' = w := by
  obtain ⟨g, o, rfl, hx⟩ := hb (by omega)
  obtain ⟨b0, b1, b2, b3, h4, x0, x1, x2, x3⟩ := four_at bs i hl
  have := number_at g o bs.length cp i b0 b1 b2 b3 w hl hc hi (hx _ _ x0) (hx _ _ x1) (hx _ _ x2) (hx _ _ x3)
  have e : u32v (numOf bs i) = .int .u32 (leN [b0, b1, b2, b3] : Nat) := by
    unfold u32v numOf
    rw [h4, BitVec.toNat_ofNat, Nat.mod_eq_of_lt (leN4_lt _ _ _ _)]
  rw [e]
  exact this

set_option maxRecDepth 8000 in
set_option maxHeartbeats 400000 in
theorem load_big (p : Option Addr) (bs : By) (cp : Nat) (w : World) (hb : Bytes w p bs) (hc : bs.length ≤ cp) (hl : bs.length = 44) (hs : 65536 < (numOf bs 0).toNat) : Calls Tryz.prog 15 #[.slice p bs.length cp] w fun e w' => e = .returned (.tuple #[.pointer none, .int .i64 74]) ∧ w' = w := by
  have cN := number_bytes p bs cp 0 w hb hc (by omega) (by omega)
  have hs' : 65536 < ((numOf bs 0).toNat : Int) := by omega
  rw [hl] at cN ⊢
  unfold u32v at cN
  clear hb hc hl hs
  go_enter Tryz.func15, Tryz.ntmps15
  go_wp2_with (go_at_call 32; refine Calls_on cN ?_; clear cN)
  go_ret2
  exact ⟨rfl, rfl⟩

/-- The numbers that an inode's bytes tell. -/
def numsOf (bs : By) : List (BitVec 32) := (List.range 10).map fun k => numOf bs (1 + k)
theorem nums_done (bs : By) (ns : List (BitVec 32)) (hl : ns.length = 10) (h : ∀ k, k < 10 → ns[k]? = some (numOf bs (1 + k))) : ns = numsOf bs := by
  apply List.ext_getElem?
  intro k
  by_cases hk : k < 10
  · rw [h k hk]; simp [numsOf, hk]
  · rw [List.getElem?_eq_none (by omega), List.getElem?_eq_none (by simp [numsOf]; omega)]

set_option maxRecDepth 8000 in
set_option maxHeartbeats 1000000 in
theorem load_ok (p : Option Addr) (bs : By) (cp : Nat) (w : World) (hb : Bytes w p bs) (hc : bs.length ≤ cp) (hl : bs.length = 44) (hs : (numOf bs 0).toNat ≤ 65536) :
    Calls Tryz.prog 15 #[.slice p bs.length cp] w fun e w' => e = .returned (.tuple #[.pointer (some ⟨w.heap.size, 0, none⟩), .int .i64 0]) ∧ InoAt w' w.heap.size (numOf bs 0).toNat (numsOf bs) ∧ Below w.heap.size w w' := by
  have cN := number_bytes p bs cp 0 w hb hc (by omega) (by omega)
  have cM : ∀ i : Nat, i < 10 → ∀ W, Below w.heap.size w W → Calls Tryz.prog 32 #[.slice p bs.length cp, .int .i64 ((1 + i : Nat) : Int)] W fun e w' => e = .returned (u32v (numOf bs (1 + i))) ∧ w' = W := fun i hi W hW => number_bytes p bs cp (1 + i) W (below_bytes hW hb) hc (by omega) (by omega)
  obtain ⟨z, hz⟩ : ∃ z, (numOf bs 0).toNat = z := ⟨_, rfl⟩
  unfold u32v at cN
  rw [hz] at cN hs ⊢
  have hs' : ¬ 65536 < (z : Int) := by omega
  rw [hl] at cN cM ⊢
  have H0 : Hid (InoAt (w.alloc (.cells (inoCells z noNums).toArray 57)) w.heap.size z noNums ∧ Below w.heap.size w (w.alloc (.cells (inoCells z noNums).toArray 57))) := ⟨heap_alloc_new w _, (Below.refl _ w).alloc (Nat.le_refl _) _⟩
  clear hb hc hl hz
  go_enter Tryz.func15, Tryz.ntmps15
  go_wp2_with (go_at_call 32; refine Calls_on cN ?_; clear cN)
  go_loopw [18] (fun ii wr => ∃ (i : Nat) (ns : List (BitVec 32)), i ≤ 10 ∧ ii = .int .i64 i ∧ Hid (InoAt wr w.heap.size z ns ∧ ns.length = 10 ∧ ∀ k, k < i → ns[k]? = some (numOf bs (1 + k))) ∧ Hid (Below w.heap.size w wr)) (fun ii _ => 10 - (intOf ii).toNat)
  case atStart => exact ⟨0, noNums, by omega, rfl, ⟨H0.out.1, rfl, fun k hk => absurd hk (by omega)⟩, H0.out.2⟩
  case round =>
    clear H0
    obtain ⟨i, ns, hi, rfl, HB, HZ⟩ := hrel
    by_cases hlt : i < 10
    · have hlti : (i : Int) < 10 := by omega
      obtain ⟨x, hx⟩ : ∃ x, ns[i]? = some x := ⟨_, List.getElem?_eq_getElem (by have := HB.out.2.1; omega)⟩
      have d0 := HB.out.1.num hx
      have f0 : wr.frozen? ⟨w.heap.size, 1 + i, none⟩ = false := frozenOf HB.out.1 _
      have cM' := cM i hlt wr.drew HZ.out.drew
      rw [show ((1 + i : Nat) : Int) = 1 + (i : Int) by omega] at cM'
      unfold u32v at cM' d0
      have hw1 : IntKind.i64.wrap (1 + (i : Int)) = 1 + (i : Int) := by rw [IntKind.wrap_i64]; omega
      clear cM hx
      go_wp2_with fail
      go_region_with (go_at_call 32; refine Calls_on cM' ?_)
      all_goals
        have HS : Hid (InoAt (wr.drew.setCell ⟨w.heap.size, 1 + i, none⟩ (.int .u32 ((numOf bs (1 + i)).toNat : Int))) w.heap.size z (ns.set i (numOf bs (1 + i))) ∧ Below w.heap.size w (wr.drew.setCell ⟨w.heap.size, 1 + i, none⟩ (.int .u32 ((numOf bs (1 + i)).toNat : Int)))) := ⟨HB.out.1.set i (numOf bs (1 + i)), HZ.out.drew.setCell (Nat.le_refl _) _⟩
        clear cM' d0 f0
        go_wp2
        refine ⟨⟨i + 1, ns.set i (numOf bs (1 + i)), by omega, by go_num, ⟨HS.out.1, by rw [List.length_set]; exact HB.out.2.1, fun k hk => ?_⟩, HS.out.2⟩, by simp [intOf]; omega⟩
        rw [List.getElem?_set]
        by_cases e : i = k
        · subst e
          rw [if_pos rfl, if_pos (by have := HB.out.2.1; omega)]
        · rw [if_neg e]
          exact HB.out.2.2 k (by omega)
    · obtain rfl : i = 10 := by omega
      go_wp2
      go_ret2
      exact ⟨rfl, by rw [← nums_done bs ns HB.out.2.1 HB.out.2.2]; exact HB.out.1, HZ.out⟩

end Go.Proofs.YtebdgcoandfocaaGreatDoor

/-
  Package inode: a walk's levels where one place is visited, or none.
-/
namespace Go.Proofs.YtebdgcoandfocaaGreatDoor
open Go.RowKit

/-- Numbers that lie in a variable of their own. -/
def NumsAt (w : World) (g : Nat) (ns : List (BitVec 32)) : Prop := w.heap[g]? = some (.cells (ns.map u32v).toArray 55 (0, 0))
theorem NumsAt.num {w : World} {g : Nat} {ns : List (BitVec 32)} (h : NumsAt w g ns) {i : Nat} {n : BitVec 32} (hn : ns[i]? = some n) : w.cell? ⟨g, i, none⟩ = some (u32v n) := by
  rw [cellOf h i, List.getElem?_toArray, List.getElem?_map, hn]; rfl
theorem NumsAt.lt {w : World} {g : Nat} {ns : List (BitVec 32)} (h : NumsAt w g ns) : g < w.heap.size := (Array.getElem?_eq_some_iff.1 h).1
theorem NumsAt.but {w w' : World} {g : Nat} {ns : List (BitVec 32)} {S : Nat → Prop} (h : NumsAt w g ns) (hb : But S w w') (hS : ¬ S g) : NumsAt w' g ns := (hb.block g h.lt hS).trans h
theorem NumsAt.below {w w' : World} {g B : Nat} {ns : List (BitVec 32)} (h : NumsAt w g ns) (hb : Below B w w') (hB : g < B) : NumsAt w' g ns := (hb.block g hB).trans h
theorem NumsAt.set {w : World} {g : Nat} {ns : List (BitVec 32)} (h : NumsAt w g ns) (i : Nat) (n : BitVec 32) : NumsAt (w.setCell ⟨g, i, none⟩ (u32v n)) g (ns.set i n) := by
  unfold NumsAt at *
  simp [World.setCell, Array.getElem?_modify, h, List.map_set]

/-- A walk. -/
def WalkAt (w : World) (k : Nat) (ch : Value) (from_ to_ : Nat) (holes : Bool) (vis : Value) : Prop := w.heap[k]? = some (.cells #[ch, .int .i64 (from_ : Nat), .int .i64 (to_ : Nat), .bool holes, vis] 81 (0, 0))
theorem WalkAt.lt {w : World} {k : Nat} {ch : Value} {f t : Nat} {h : Bool} {v : Value} (x : WalkAt w k ch f t h v) : k < w.heap.size := (Array.getElem?_eq_some_iff.1 x).1
theorem WalkAt.but {w w' : World} {k : Nat} {ch : Value} {f t : Nat} {h : Bool} {v : Value} {S : Nat → Prop} (x : WalkAt w k ch f t h v) (hb : But S w w') (hS : ¬ S k) : WalkAt w' k ch f t h v := (hb.block k x.lt hS).trans x

set_option maxRecDepth 8000 in
set_option maxHeartbeats 1000000 in
theorem level_none (k g o len cp first span f t : Nat) (ch vis : Value) (holes : Bool) (ns : List (BitVec 32)) (w : World) (hk : WalkAt w k ch f t holes vis) (hg : NumsAt w g ns) (ho : o + len ≤ ns.length) (hl : len ≤ 64) (hf : first ≤ 100000) (hs : span ≤ 4096)
    (hout : ∀ j, j < len → first + j * span + span ≤ f ∨ t ≤ first + j * span) :
    Calls Tryz.prog 46 #[.pointer (some ⟨k, 0, none⟩), .slice (some ⟨g, o, none⟩) len cp, .int .i64 (first : Nat), .int .i64 (span : Nat)] w fun e w' => e = .returned (.int .i64 0) ∧ w' = w := by
  have k1 : w.cell? ⟨k, 1, none⟩ = some (.int .i64 (f : Nat)) := by rw [cellOf hk 1]; rfl
  have k2 : w.cell? ⟨k, 2, none⟩ = some (.int .i64 (t : Nat)) := by rw [cellOf hk 2]; rfl
  clear hk
  go_enter Tryz.func46, Tryz.ntmps46
  go_wp2_with fail
  go_loop [15] (fun ii => ∃ i : Nat, i ≤ len ∧ ii = .int .i64 i) (fun ii => len - (intOf ii).toNat)
  case atStart => exact ⟨0, Nat.zero_le _, rfl⟩
  case round =>
    obtain ⟨i, hi, rfl⟩ := hrel
    by_cases hlt : i < len
    · have hlti : (i : Int) < len := by omega
      obtain ⟨n, hn⟩ : ∃ n, ns[o + i]? = some n := ⟨_, List.getElem?_eq_getElem (by omega)⟩
      have d0 := hg.num hn
      unfold u32v at d0
      obtain ⟨q, hq⟩ : ∃ q, i * span = q := ⟨_, rfl⟩
      have hq2 : q ≤ 64 * 4096 := by rw [← hq]; exact Nat.mul_le_mul (by omega) hs
      have e1 : (i : Int) * (span : Int) = (q : Nat) := by rw [← hq]; simp
      have h1 := hout i hlt
      rw [hq] at h1
      clear hn hg hq hout
      by_cases h2 : first + q + span ≤ f
      · have h2' : (first : Int) + (q : Int) + (span : Int) ≤ (f : Int) := by omega
        go_wp2_with (simp only [e1])
        exact ⟨⟨i + 1, by omega, by go_num⟩, by simp [intOf]; omega⟩
      · have h2' : ¬ (first : Int) + (q : Int) + (span : Int) ≤ (f : Int) := by omega
        have h3' : (t : Int) ≤ (first : Int) + (q : Int) := by omega
        go_wp2_with (simp only [e1])
        exact ⟨⟨i + 1, by omega, by go_num⟩, by simp [intOf]; omega⟩
    · have hlti : ¬ (i : Int) < len := by omega
      go_wp2
      go_ret
      exact ⟨rfl, rfl⟩

/-- What a level leaves behind its one visit. -/
structure Vis1 (w wr : World) (S : Nat → Prop) (R : World → Prop) (g j : Nat) (n : BitVec 32) : Prop where
  out : ∃ w1, But S w w1 ∧ R w1 ∧ wr = w1.setCell ⟨g, j, none⟩ (u32v n)

set_option maxRecDepth 8000 in
set_option maxHeartbeats 1000000 in
theorem level_one (k g cp f t V i0 : Nat) (ch : Value) (holes : Bool) (rec : Value) (ns : List (BitVec 32)) (n0 n1 : BitVec 32) (w : World) (S : Nat → Prop) (R : World → Prop) (hk : WalkAt w k ch f t holes (.func (.func V) #[rec] #[])) (hg : NumsAt w g ns) (hn : ns.length = 10) (hi0 : i0 < 8)
    (hin : f ≤ i0 ∧ i0 < t) (hout : ∀ j, j < 8 → j ≠ i0 → j + 1 ≤ f ∨ t ≤ j) (hx0 : ns[i0]? = some n0) (hSk : ¬ S k) (hSg : ¬ S g)
    (hE : ∀ args w, (callFunc V args).run Tryz.prog w = .ok (.enter V args) w)
    (hV : Calls Tryz.prog V #[rec, .int .i64 (i0 : Nat), u32v n0] w fun e w' => e = .returned (.tuple #[u32v n1, .int .i64 0]) ∧ But S w w' ∧ R w') :
    Calls Tryz.prog 46 #[.pointer (some ⟨k, 0, none⟩), .slice (some ⟨g, 0, none⟩) 8 cp, .int .i64 0, .int .i64 1] w fun e w' => e = .returned (.int .i64 0) ∧ Vis1 w w' S R g i0 n1 := by
  obtain ⟨Lv, hLv⟩ : ∃ Lv : Nat → World → Prop, Lv = fun i wr => (i ≤ i0 ∧ wr = w) ∨ (i0 < i ∧ Vis1 w wr S R g i0 n1) := ⟨_, rfl⟩
  have hst : ∀ i wr, Lv i wr → WalkAt wr k ch f t holes (.func (.func V) #[rec] #[]) ∧ ∃ ns', NumsAt wr g ns' ∧ ns'.length = 10 := by
    intro i wr h
    rw [hLv] at h
    rcases h with ⟨_, rfl⟩ | ⟨_, ⟨w1, hb, _, rfl⟩⟩
    · exact ⟨hk, ns, hg, hn⟩
    · have hkg : g ≠ k := fun e => by
        subst e
        have h1 : w.heap[g]? = _ := hg
        rw [show w.heap[g]? = _ from hk] at h1
        simp only [Option.some.injEq, Obj.cells.injEq] at h1
        exact absurd h1.2.1 (by decide)
      refine ⟨?_, _, (hg.but hb hSg).set i0 n1, by rw [List.length_set]; exact hn⟩
      exact (Below.heap_setCell _ _ _ _ (fun e => hkg e.symm)).trans (hk.but hb hSk)
  have HV : Hid (Calls Tryz.prog V #[rec, .int .i64 (i0 : Nat), u32v n0] w fun e w' => e = .returned (.tuple #[u32v n1, .int .i64 0]) ∧ But S w w' ∧ R w') := hV
  have H0 : Hid (Lv 0 w ∧ (∀ w1, But S w w1 → R w1 → Lv (i0 + 1) (w1.setCell ⟨g, i0, none⟩ (u32v n1))) ∧ (∀ wr, Lv 8 wr → Vis1 w wr S R g i0 n1) ∧ (∀ i wr, Lv i wr → i ≠ i0 → Lv (i + 1) wr) ∧ (∀ wr, Lv i0 wr → wr = w) ∧ ns[i0]? = some n0) := by
    subst hLv
    refine ⟨.inl ⟨Nat.zero_le _, rfl⟩, fun w1 h1 h2 => .inr ⟨Nat.lt_succ_self _, ⟨w1, h1, h2, rfl⟩⟩, fun wr h => ?_, fun i wr h hne => ?_, fun wr h => ?_, hx0⟩
    · rcases h with ⟨h, _⟩ | ⟨_, h⟩
      · omega
      · exact h
    · rcases h with ⟨h, e⟩ | ⟨h, h2⟩
      · exact .inl ⟨by omega, e⟩
      · exact .inr ⟨by omega, h2⟩
    · rcases h with ⟨_, e⟩ | ⟨h, _⟩
      · exact e
      · omega
  clear hLv hV hk hx0
  go_enter Tryz.func46, Tryz.ntmps46
  go_wp2_with fail
  go_loopw [15] (fun ii wr => ∃ i : Nat, i ≤ 8 ∧ ii = .int .i64 i ∧ Hid (Lv i wr)) (fun ii _ => 8 - (intOf ii).toNat)
  case atStart => exact ⟨0, Nat.zero_le _, rfl, H0.out.1⟩
  case round =>
    obtain ⟨i, hi, rfl, HL⟩ := hrel
    by_cases hlt : i < 8
    · have hlti : (i : Int) < 8 := by omega
      obtain ⟨hkr, ns', hgr, hnr⟩ := hst i wr HL.out
      have k1 : wr.cell? ⟨k, 1, none⟩ = some (.int .i64 (f : Nat)) := by rw [cellOf hkr 1]; rfl
      have k2 : wr.cell? ⟨k, 2, none⟩ = some (.int .i64 (t : Nat)) := by rw [cellOf hkr 2]; rfl
      have k4 : wr.cell? ⟨k, 4, none⟩ = some (.func (.func V) #[rec] #[]) := by rw [cellOf hkr 4]; rfl
      by_cases he : i = i0
      · subst he
        obtain rfl := H0.out.2.2.2.2.1 _ HL.out
        have d0 := hg.num H0.out.2.2.2.2.2
        have h1 : ¬ (i : Int) + 1 ≤ (f : Int) := by omega
        have h2 : ¬ (t : Int) ≤ (i : Int) := by omega
        have hV := HV.out
        unfold u32v at d0 hV
        have HG : Hid (NumsAt wr g ns ∧ ns.length = 10) := ⟨hg, hn⟩
        clear hkr hgr hnr hg hn hout hin hst
        go_wp2_with fail
        refine hV.mono ?_
        rintro e w1 ⟨rfl, hb1, hR1⟩
        have hg1 : NumsAt w1 g ns := HG.out.1.but hb1 hSg
        obtain ⟨x, hx⟩ : ∃ x, ns[i]? = some x := ⟨_, List.getElem?_eq_getElem (by have := HG.out.2; omega)⟩
        have d1 := hg1.num hx
        have f1 : w1.frozen? ⟨g, i, none⟩ = false := frozenOf hg1 _
        have H1 : Hid (Lv (i + 1) (w1.setCell ⟨g, i, none⟩ (u32v n1))) := H0.out.2.1 w1 hb1 hR1
        unfold u32v at d1 H1
        clear hV hb1 hR1 hg1 hx d0 k1 k2 k4
        go_wp2
        go_roundw
        case rel => exact ⟨i + 1, by omega, by go_num, H1.out⟩
        case measure => simp [intOf]; omega
      · obtain ⟨x, hx⟩ : ∃ x, ns'[i]? = some x := ⟨_, List.getElem?_eq_getElem (by omega)⟩
        have d0 := hgr.num hx
        unfold u32v at d0
        have ho := hout i hlt he
        have HL1 : Hid (Lv (i + 1) wr) := H0.out.2.2.2.1 i wr HL.out he
        clear hx hgr hkr hst hg
        by_cases h1 : i + 1 ≤ f
        · have h1' : (i : Int) + 1 ≤ (f : Int) := by omega
          go_wp2
          exact ⟨⟨i + 1, by omega, by go_num, HL1.out⟩, by simp [intOf]; omega⟩
        · have h1' : ¬ (i : Int) + 1 ≤ (f : Int) := by omega
          have h2' : (t : Int) ≤ (i : Int) := by omega
          go_wp2
          exact ⟨⟨i + 1, by omega, by go_num, HL1.out⟩, by simp [intOf]; omega⟩
    · obtain rfl : i = 8 := by omega
      have HE : Hid (Vis1 w wr S R g i0 n1) := H0.out.2.2.1 wr HL.out
      clear hst hg
      go_wp2
      go_ret
      exact ⟨rfl, HE.out⟩

end Go.Proofs.YtebdgcoandfocaaGreatDoor

/-
  Package inode: a walk over numbers of which one direct place is visited.
-/
namespace Go.Proofs.YtebdgcoandfocaaGreatDoor
open Go.RowKit

theorem slice10a (g : Nat) (w : World) : (Instr.sliceAt 55 (.pointer (some ⟨g, 0, none⟩)) none (some (.int .i64 8)) none).run Tryz.prog w = .ok (.slice (some ⟨g, 0, none⟩) 8 10) w := by
  simp [Instr.sliceAt, run_underlying Tryz.underlying55, Instr.sureAddr, Instr.sliceBounds, Instr.sliceBound, asIntOf, Addr.add_lit]
theorem slice10b (g : Nat) (w : World) : (Instr.sliceAt 55 (.pointer (some ⟨g, 0, none⟩)) (some (.int .i64 8)) (some (.int .i64 9)) none).run Tryz.prog w = .ok (.slice (some ⟨g, 8, none⟩) 1 2) w := by
  simp [Instr.sliceAt, run_underlying Tryz.underlying55, Instr.sureAddr, Instr.sliceBounds, Instr.sliceBound, asIntOf, Addr.add_lit]
theorem slice10c (g : Nat) (w : World) : (Instr.sliceAt 55 (.pointer (some ⟨g, 0, none⟩)) (some (.int .i64 9)) none none).run Tryz.prog w = .ok (.slice (some ⟨g, 9, none⟩) 1 1) w := by
  simp [Instr.sliceAt, run_underlying Tryz.underlying55, Instr.sureAddr, Instr.sliceBounds, Instr.sliceBound, asIntOf, Addr.add_lit]

set_option maxRecDepth 8000 in
set_option maxHeartbeats 1000000 in
theorem over_one (k g f t V i0 : Nat) (ch : Value) (holes : Bool) (rec : Value) (ns : List (BitVec 32)) (n0 n1 : BitVec 32) (w : World) (S : Nat → Prop) (R : World → Prop) (hk : WalkAt w k ch f t holes (.func (.func V) #[rec] #[])) (hg : NumsAt w g ns) (hn : ns.length = 10) (hi0 : i0 < 8)
    (hf : f = i0) (ht : t = i0 + 1) (hx0 : ns[i0]? = some n0) (hSk : ¬ S k) (hSg : ¬ S g)
    (hE : ∀ args w, (callFunc V args).run Tryz.prog w = .ok (.enter V args) w)
    (hV : Calls Tryz.prog V #[rec, .int .i64 (i0 : Nat), u32v n0] w fun e w' => e = .returned (.tuple #[u32v n1, .int .i64 0]) ∧ But S w w' ∧ R w') :
    Calls Tryz.prog 29 #[.pointer (some ⟨k, 0, none⟩), .pointer (some ⟨g, 0, none⟩)] w fun e w' => e = .returned (.int .i64 0) ∧ Vis1 w w' S R g i0 n1 := by
  have c1 := level_one k g 10 f t V i0 ch holes rec ns n0 n1 w S R hk hg hn hi0 (by omega) (fun j _ hj => by omega) hx0 hSk hSg hE hV
  have hkg : g ≠ k := fun e => by
    subst e
    have h1 : w.heap[g]? = _ := hg
    rw [show w.heap[g]? = _ from hk] at h1
    simp only [Option.some.injEq, Obj.cells.injEq] at h1
    exact absurd h1.2.1 (by decide)
  have hk' : ∀ wr, Vis1 w wr S R g i0 n1 → WalkAt wr k ch f t holes (.func (.func V) #[rec] #[]) ∧ NumsAt wr g (ns.set i0 n1) := by
    rintro wr ⟨w1, hb, _, rfl⟩
    exact ⟨(Below.heap_setCell _ _ _ _ (fun e => hkg e.symm)).trans (hk.but hb hSk), (hg.but hb hSg).set i0 n1⟩
  have c2 : ∀ wr, Vis1 w wr S R g i0 n1 → Calls Tryz.prog 46 #[.pointer (some ⟨k, 0, none⟩), .slice (some ⟨g, 8, none⟩) 1 2, .int .i64 8, .int .i64 64] wr fun e w' => e = .returned (.int .i64 0) ∧ w' = wr := fun wr h =>
    level_none k g 8 1 2 8 64 f t ch _ holes (ns.set i0 n1) wr (hk' wr h).1 (hk' wr h).2 (by rw [List.length_set]; omega) (by omega) (by omega) (by omega) (fun j hj => by omega)
  have c3 : ∀ wr, Vis1 w wr S R g i0 n1 → Calls Tryz.prog 46 #[.pointer (some ⟨k, 0, none⟩), .slice (some ⟨g, 9, none⟩) 1 1, .int .i64 72, .int .i64 4096] wr fun e w' => e = .returned (.int .i64 0) ∧ w' = wr := fun wr h =>
    level_none k g 9 1 1 72 4096 f t ch _ holes (ns.set i0 n1) wr (hk' wr h).1 (hk' wr h).2 (by rw [List.length_set]; omega) (by omega) (by omega) (by omega) (fun j hj => by omega)
  have s1 := slice10a g
  have s2 := slice10b g
  have s3 := slice10c g
  clear hk hg hk' hV
  go_enter Tryz.func29, Tryz.ntmps29
  go_wp2_with (go_at_call 46; refine c1.mono ?_; rintro e w1 ⟨rfl, h1⟩; clear c1; refine Stop.out ?_)
  refine Stop.mk ?_
  have c2' := c2 w1 h1
  have H1 : Hid (Vis1 w w1 S R g i0 n1) := h1
  clear c2 h1
  go_wp2_with (go_at_call 46; refine Calls_on c2' ?_; clear c2'; refine Stop.out ?_)
  refine Stop.mk ?_
  have c3' := c3 w1 H1.out
  clear c3
  go_wp2_with (go_at_call 46; refine Calls_on c3' ?_; clear c3')
  go_ret
  exact ⟨rfl, H1.out⟩

end Go.Proofs.YtebdgcoandfocaaGreatDoor

/-
  Of no program: how many bits of a number of 64 bits are 1, as package math/bits counts them.
-/
namespace Go.Proofs.YtebdgcoandfocaaGreatDoor.Bm

/-- How many of the first k bits of x are 1. -/
def popN (x : Nat) : Nat → Nat
  | 0 => 0
  | k + 1 => popN x k + (x.testBit k).toNat

theorem popN_le (x k : Nat) : popN x k ≤ k := by
  induction k with
  | zero => exact Nat.le_refl _
  | succ k ih => unfold popN; have : (x.testBit k).toNat ≤ 1 := by cases x.testBit k <;> decide
                 omega

theorem testBit_low (c r i : Nat) (hc : c < 256) (hi : i < 8) : (c + 256 * r).testBit i = c.testBit i := by
  have := Nat.testBit_two_pow_mul_add r (b := c) (i := 8) hc i
  rw [if_pos hi] at this
  rw [← this, Nat.add_comm]
theorem testBit_high (c r i : Nat) (hc : c < 256) : (c + 256 * r).testBit (8 + i) = r.testBit i := by
  have := Nat.testBit_two_pow_mul_add r (b := c) (i := 8) hc (8 + i)
  rw [if_neg (by omega), show 8 + i - 8 = i by omega] at this
  rw [← this, Nat.add_comm]

theorem popN_low (c r : Nat) (hc : c < 256) (k : Nat) (hk : k ≤ 8) : popN (c + 256 * r) k = popN c k := by
  induction k with
  | zero => rfl
  | succ k ih => unfold popN; rw [ih (by omega), testBit_low c r k hc (by omega)]
theorem popN_split (c r : Nat) (hc : c < 256) (k : Nat) : popN (c + 256 * r) (8 + k) = popN c 8 + popN r k := by
  induction k with
  | zero => exact popN_low c r hc 8 (Nat.le_refl _)
  | succ k ih => show popN (c + 256 * r) (8 + k) + ((c + 256 * r).testBit (8 + k)).toNat = popN c 8 + (popN r k + (r.testBit k).toNat); rw [ih, testBit_high c r k hc]; omega

/-- The bits of two numbers, byte by byte. -/
theorem and_split (a m r s : Nat) (ha : a < 256) (hm : m < 256) : (a + 256 * r) &&& (m + 256 * s) = (a &&& m) + 256 * (r &&& s) := by
  have hx : a &&& m < 256 := Nat.and_lt_two_pow (n := 8) _ hm
  apply Nat.eq_of_testBit_eq
  intro i
  by_cases hi : i < 8
  · rw [Nat.testBit_and, testBit_low _ _ _ ha hi, testBit_low _ _ _ hm hi, testBit_low _ _ _ hx hi, Nat.testBit_and]
  · obtain ⟨j, rfl⟩ : ∃ j, i = 8 + j := ⟨i - 8, by omega⟩
    rw [Nat.testBit_and, testBit_high _ _ _ ha, testBit_high _ _ _ hm, testBit_high _ _ _ hx, Nat.testBit_and]

/-- Eight bytes. -/
def eight (a b c d e f g h : Nat) : Nat := a + 256 * (b + 256 * (c + 256 * (d + 256 * (e + 256 * (f + 256 * (g + 256 * h))))))

theorem and_eight (a b c d e f g h m : Nat) (hm : m < 256) (h0 : a < 256) (h1 : b < 256) (h2 : c < 256) (h3 : d < 256) (h4 : e < 256) (h5 : f < 256) (h6 : g < 256) :
    eight a b c d e f g h &&& eight m m m m m m m m = eight (a &&& m) (b &&& m) (c &&& m) (d &&& m) (e &&& m) (f &&& m) (g &&& m) (h &&& m) := by
  unfold eight
  rw [and_split _ _ _ _ h0 hm, and_split _ _ _ _ h1 hm, and_split _ _ _ _ h2 hm, and_split _ _ _ _ h3 hm, and_split _ _ _ _ h4 hm, and_split _ _ _ _ h5 hm, and_split _ _ _ _ h6 hm]

theorem eight_of (x : Nat) (hx : x < 18446744073709551616) : ∃ a b c d e f g h, x = eight a b c d e f g h ∧ a < 256 ∧ b < 256 ∧ c < 256 ∧ d < 256 ∧ e < 256 ∧ f < 256 ∧ g < 256 ∧ h < 256 := by
  refine ⟨x % 256, x / 256 % 256, x / 256 / 256 % 256, x / 256 / 256 / 256 % 256, x / 256 / 256 / 256 / 256 % 256, x / 256 / 256 / 256 / 256 / 256 % 256, x / 256 / 256 / 256 / 256 / 256 / 256 % 256, x / 256 / 256 / 256 / 256 / 256 / 256 / 256, ?_, ?_, ?_, ?_, ?_, ?_, ?_, ?_, ?_⟩
  · unfold eight; omega
  all_goals omega

theorem pop_eight (a b c d e f g h : Nat) (h0 : a < 256) (h1 : b < 256) (h2 : c < 256) (h3 : d < 256) (h4 : e < 256) (h5 : f < 256) (h6 : g < 256) :
    popN (eight a b c d e f g h) 64 = popN a 8 + popN b 8 + popN c 8 + popN d 8 + popN e 8 + popN f 8 + popN g 8 + popN h 8 := by
  unfold eight
  rw [popN_split a _ h0 56, popN_split b _ h1 48, popN_split c _ h2 40, popN_split d _ h3 32, popN_split e _ h4 24, popN_split f _ h5 16, popN_split g _ h6 8]
  omega

/- The first three steps, of one byte. -/
def pf1 (c : Nat) : Nat := (c / 2 &&& 85) + (c &&& 85)
def pf2 (c : Nat) : Nat := (c / 4 &&& 51) + (c &&& 51)
def pf3 (c : Nat) : Nat := (c / 16 + c) % 16
theorem pf1_lt : ∀ c, c < 256 → pf1 c < 256 := by decide +kernel
theorem pf2_lt : ∀ c, c < 256 → pf2 c < 256 := by decide +kernel
theorem pf2_low : ∀ c, c < 256 → pf2 (pf1 c) / 16 ≤ 4 ∧ pf2 (pf1 c) % 16 ≤ 4 := by decide +kernel
theorem pf_pop : ∀ c, c < 256 → pf3 (pf2 (pf1 c)) = popN c 8 := by decide +kernel
theorem pf1_mask : ∀ c, c < 256 → ∀ b, b < 2 → (c / 2 + 128 * b) &&& 85 = (c / 2) &&& 85 := by decide +kernel
theorem pf2_mask : ∀ c, c < 256 → ∀ b, b < 4 → (c / 4 + 64 * b) &&& 51 = (c / 4) &&& 51 := by decide +kernel

theorem half_eight (a b c d e f g h : Nat) : eight a b c d e f g h / 2 = eight (a / 2 + 128 * (b % 2)) (b / 2 + 128 * (c % 2)) (c / 2 + 128 * (d % 2)) (d / 2 + 128 * (e % 2)) (e / 2 + 128 * (f % 2)) (f / 2 + 128 * (g % 2)) (g / 2 + 128 * (h % 2)) (h / 2) := by
  unfold eight; omega
theorem fourth_eight (a b c d e f g h : Nat) : eight a b c d e f g h / 4 = eight (a / 4 + 64 * (b % 4)) (b / 4 + 64 * (c % 4)) (c / 4 + 64 * (d % 4)) (d / 4 + 64 * (e % 4)) (e / 4 + 64 * (f % 4)) (f / 4 + 64 * (g % 4)) (g / 4 + 64 * (h % 4)) (h / 4) := by
  unfold eight; omega
theorem part_eight (a b c d e f g h : Nat) : eight a b c d e f g h / 16 = eight (a / 16 + 16 * (b % 16)) (b / 16 + 16 * (c % 16)) (c / 16 + 16 * (d % 16)) (d / 16 + 16 * (e % 16)) (e / 16 + 16 * (f % 16)) (f / 16 + 16 * (g % 16)) (g / 16 + 16 * (h % 16)) (h / 16) := by
  unfold eight; omega
theorem add_eight (a b c d e f g h a' b' c' d' e' f' g' h' : Nat) : eight a b c d e f g h + eight a' b' c' d' e' f' g' h' = eight (a + a') (b + b') (c + c') (d + d') (e + e') (f + f') (g + g') (h + h') := by
  unfold eight; omega

theorem pop_step1 (a b c d e f g h : Nat) (h0 : a < 256) (h1 : b < 256) (h2 : c < 256) (h3 : d < 256) (h4 : e < 256) (h5 : f < 256) (h6 : g < 256) :
    (eight a b c d e f g h / 2 &&& 6148914691236517205) + (eight a b c d e f g h &&& 6148914691236517205) = eight (pf1 a) (pf1 b) (pf1 c) (pf1 d) (pf1 e) (pf1 f) (pf1 g) (pf1 h) := by
  have hm : 6148914691236517205 = eight 85 85 85 85 85 85 85 85 := by decide
  rw [hm, half_eight, and_eight _ _ _ _ _ _ _ _ 85 (by decide) (by omega) (by omega) (by omega) (by omega) (by omega) (by omega) (by omega), and_eight _ _ _ _ _ _ _ _ 85 (by decide) h0 h1 h2 h3 h4 h5 h6, add_eight,
    pf1_mask a h0 _ (by omega), pf1_mask b h1 _ (by omega), pf1_mask c h2 _ (by omega), pf1_mask d h3 _ (by omega), pf1_mask e h4 _ (by omega), pf1_mask f h5 _ (by omega), pf1_mask g h6 _ (by omega)]
  rfl
theorem pop_step2 (a b c d e f g h : Nat) (h0 : a < 256) (h1 : b < 256) (h2 : c < 256) (h3 : d < 256) (h4 : e < 256) (h5 : f < 256) (h6 : g < 256) :
    (eight a b c d e f g h / 4 &&& 3689348814741910323) + (eight a b c d e f g h &&& 3689348814741910323) = eight (pf2 a) (pf2 b) (pf2 c) (pf2 d) (pf2 e) (pf2 f) (pf2 g) (pf2 h) := by
  have hm : 3689348814741910323 = eight 51 51 51 51 51 51 51 51 := by decide
  rw [hm, fourth_eight, and_eight _ _ _ _ _ _ _ _ 51 (by decide) (by omega) (by omega) (by omega) (by omega) (by omega) (by omega) (by omega), and_eight _ _ _ _ _ _ _ _ 51 (by decide) h0 h1 h2 h3 h4 h5 h6, add_eight,
    pf2_mask a h0 _ (by omega), pf2_mask b h1 _ (by omega), pf2_mask c h2 _ (by omega), pf2_mask d h3 _ (by omega), pf2_mask e h4 _ (by omega), pf2_mask f h5 _ (by omega), pf2_mask g h6 _ (by omega)]
  rfl
theorem and15 (x : Nat) : x &&& 15 = x % 16 := Nat.and_two_pow_sub_one_eq_mod x 4
theorem pf3_of (x t : Nat) : (x / 16 + 16 * t + x) % 16 = pf3 x := by unfold pf3; omega
theorem pop_step3 (a b c d e f g h : Nat) (h0 : a / 16 ≤ 4 ∧ a % 16 ≤ 4) (h1 : b / 16 ≤ 4 ∧ b % 16 ≤ 4) (h2 : c / 16 ≤ 4 ∧ c % 16 ≤ 4) (h3 : d / 16 ≤ 4 ∧ d % 16 ≤ 4) (h4 : e / 16 ≤ 4 ∧ e % 16 ≤ 4) (h5 : f / 16 ≤ 4 ∧ f % 16 ≤ 4) (h6 : g / 16 ≤ 4 ∧ g % 16 ≤ 4) (h7 : h / 16 ≤ 4 ∧ h % 16 ≤ 4) :
    (eight a b c d e f g h / 16 + eight a b c d e f g h) &&& 1085102592571150095 = eight (pf3 a) (pf3 b) (pf3 c) (pf3 d) (pf3 e) (pf3 f) (pf3 g) (pf3 h) := by
  have hm : 1085102592571150095 = eight 15 15 15 15 15 15 15 15 := by decide
  rw [hm, part_eight, add_eight, and_eight _ _ _ _ _ _ _ _ 15 (by decide) (by omega) (by omega) (by omega) (by omega) (by omega) (by omega) (by omega)]
  simp only [and15, pf3_of]
  rfl

theorem pop_end (a b c d e f g h : Nat) (h0 : a ≤ 8) (h1 : b ≤ 8) (h2 : c ≤ 8) (h3 : d ≤ 8) (h4 : e ≤ 8) (h5 : f ≤ 8) (h6 : g ≤ 8) (h7 : h ≤ 8) (x4 x5 x6 : Nat)
    (e4 : x4 = eight a b c d e f g h + eight a b c d e f g h / 256) (e5 : x5 = x4 + x4 / 65536) (e6 : x6 = x5 + x5 / 4294967296) : x6 < 18446744073709551616 ∧ x5 < 18446744073709551616 ∧ x4 < 18446744073709551616 ∧ x6 % 128 = a + b + c + d + e + f + g + h := by
  have d4 : eight a b c d e f g h / 256 = eight b c d e f g h 0 := by unfold eight; omega
  rw [d4, add_eight] at e4
  have d5 : x4 / 65536 = eight (c + d) (d + e) (e + f) (f + g) (g + h) (h + 0) 0 0 := by rw [e4]; unfold eight; omega
  rw [d5, e4, add_eight] at e5
  have d6 : x5 / 4294967296 = eight (e + f + (g + h)) (f + g + (h + 0)) (g + h + 0) (h + 0 + 0) 0 0 0 0 := by rw [e5]; unfold eight; omega
  rw [d6, e5, add_eight] at e6
  subst e6 e5 e4
  unfold eight
  refine ⟨?_, ?_, ?_, ?_⟩ <;> omega

theorem eight_lt (a b c d e f g h : Nat) (h0 : a < 256) (h1 : b < 256) (h2 : c < 256) (h3 : d < 256) (h4 : e < 256) (h5 : f < 256) (h6 : g < 256) (h7 : h < 256) : eight a b c d e f g h < 18446744073709551616 := by
  unfold eight; omega
theorem part_lt (a b c d e f g h : Nat) (h0 : a / 16 ≤ 4 ∧ a % 16 ≤ 4) (h1 : b / 16 ≤ 4 ∧ b % 16 ≤ 4) (h2 : c / 16 ≤ 4 ∧ c % 16 ≤ 4) (h3 : d / 16 ≤ 4 ∧ d % 16 ≤ 4) (h4 : e / 16 ≤ 4 ∧ e % 16 ≤ 4) (h5 : f / 16 ≤ 4 ∧ f % 16 ≤ 4) (h6 : g / 16 ≤ 4 ∧ g % 16 ≤ 4) (h7 : h / 16 ≤ 4 ∧ h % 16 ≤ 4) :
    eight a b c d e f g h / 16 + eight a b c d e f g h < 18446744073709551616 := by
  rw [part_eight, add_eight]
  exact eight_lt _ _ _ _ _ _ _ _ (by omega) (by omega) (by omega) (by omega) (by omega) (by omega) (by omega) (by omega)

/-- The steps of the count. -/
structure Pops (x x1 x2 s x3 x4 x5 x6 : Nat) : Prop where
  e1 : x1 = (x / 2 &&& 6148914691236517205) + (x &&& 6148914691236517205)
  l1 : x1 < 18446744073709551616
  e2 : x2 = (x1 / 4 &&& 3689348814741910323) + (x1 &&& 3689348814741910323)
  l2 : x2 < 18446744073709551616
  es : s = x2 / 16 + x2
  ls : s < 18446744073709551616
  e3 : x3 = s &&& 1085102592571150095
  e4 : x4 = x3 + x3 / 256
  l4 : x4 < 18446744073709551616
  e5 : x5 = x4 + x4 / 65536
  l5 : x5 < 18446744073709551616
  e6 : x6 = x5 + x5 / 4294967296
  l6 : x6 < 18446744073709551616
  e7 : x6 % 128 = popN x 64

/-- All steps of the count. -/
theorem pop_all (x : Nat) (hx : x < 18446744073709551616) : ∃ x1 x2 s x3 x4 x5 x6 : Nat, Pops x x1 x2 s x3 x4 x5 x6 := by
  obtain ⟨a, b, c, d, e, f, g, h, rfl, h0, h1, h2, h3, h4, h5, h6, h7⟩ := eight_of x hx
  have s1 := pop_step1 a b c d e f g h h0 h1 h2 h3 h4 h5 h6
  have s2 := pop_step2 _ _ _ _ _ _ _ (pf1 h) (pf1_lt a h0) (pf1_lt b h1) (pf1_lt c h2) (pf1_lt d h3) (pf1_lt e h4) (pf1_lt f h5) (pf1_lt g h6)
  have s3 := pop_step3 _ _ _ _ _ _ _ _ (pf2_low a h0) (pf2_low b h1) (pf2_low c h2) (pf2_low d h3) (pf2_low e h4) (pf2_low f h5) (pf2_low g h6) (pf2_low h h7)
  have ls := part_lt _ _ _ _ _ _ _ _ (pf2_low a h0) (pf2_low b h1) (pf2_low c h2) (pf2_low d h3) (pf2_low e h4) (pf2_low f h5) (pf2_low g h6) (pf2_low h h7)
  have l1 := eight_lt _ _ _ _ _ _ _ _ (pf1_lt a h0) (pf1_lt b h1) (pf1_lt c h2) (pf1_lt d h3) (pf1_lt e h4) (pf1_lt f h5) (pf1_lt g h6) (pf1_lt h h7)
  have l2 := eight_lt _ _ _ _ _ _ _ _ (pf2_lt _ (pf1_lt a h0)) (pf2_lt _ (pf1_lt b h1)) (pf2_lt _ (pf1_lt c h2)) (pf2_lt _ (pf1_lt d h3)) (pf2_lt _ (pf1_lt e h4)) (pf2_lt _ (pf1_lt f h5)) (pf2_lt _ (pf1_lt g h6)) (pf2_lt _ (pf1_lt h h7))
  rw [pf_pop a h0, pf_pop b h1, pf_pop c h2, pf_pop d h3, pf_pop e h4, pf_pop f h5, pf_pop g h6, pf_pop h h7] at s3
  obtain ⟨q6, q5, q4, q⟩ := pop_end _ _ _ _ _ _ _ _ (popN_le a 8) (popN_le b 8) (popN_le c 8) (popN_le d 8) (popN_le e 8) (popN_le f 8) (popN_le g 8) (popN_le h 8) _ _ _ rfl rfl rfl
  have p := pop_eight a b c d e f g h h0 h1 h2 h3 h4 h5 h6
  exact ⟨_, _, _, _, _, _, _, s1.symm, l1, s2.symm, l2, rfl, ls, s3.symm, rfl, q4, rfl, q5, rfl, q6, q.trans p.symm⟩

end Go.Proofs.YtebdgcoandfocaaGreatDoor.Bm
