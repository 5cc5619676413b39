/-
  InodeEdges, for all its numbers, whatever the memory and the order that Go leaves open, returns true and leaves its arguments and all memory that was there as it was. The tables of packages crc and math/bits start as the program's text lays them (the card ties them).
-/
import Derived.Test.YtebdgcoandfocaaGreatDoorQIn
import Derived.Lib.SlBytesConst
import Derived.Test.YtebdgcoandfocaaGreatDoorKCtable
import Derived.Test.YtebdgcoandfocaaGreatDoorQXj
import Derived.Test.YtebdgcoandfocaaGreatDoorQUt
import Derived.Test.YtebdgcoandfocaaGreatDoorKCsum
import Derived.ChangeOld
import Derived.Deep.Slices
import Derived.Deep.Matrix
import Derived.Deep.Grids

/-
  Package inode: Read of four bytes at 699.
-/
namespace Go.Proofs.YtebdgcoandfocaaGreatDoor
open Go.RowKit Go.Maps Go.Sort Go.Shelf

/-- What the making of a walk leaves. -/
def readL (rb s : Nat) : List (Option Tmp × Value) := [(some 41, .pointer (some ⟨rb, 0, none⟩)), (some 42, .pointer (some ⟨rb, 0, none⟩)), (some 43, .pointer (some ⟨rb, 0, none⟩)), (some 44, .int .i64 699), (some 45, .int .i64 1), (some 46, .int .i64 699), (some 47, .int .i64 4), (some 48, .int .i64 703), (some 49, .int .i64 2), (some 50, .pointer (some ⟨rb, 0, none⟩)), (some 51, .func (.func 31) #[.pointer (some ⟨rb, 0, none⟩)] #[]), (some 52, .agg #[.pointer (some ⟨rb, 0, none⟩), .int .i64 1, .int .i64 2, .bool false, .func (.func 31) #[.pointer (some ⟨rb, 0, none⟩)] #[]]), (some 11, .pointer (some ⟨s, 0, none⟩)), (none, undef)]
set_option maxRecDepth 8000 in
set_option maxHeartbeats 1500000 in
theorem read_first (w0 w : World) (a c b : Nat) (y0 y1 y2 y3 : BitVec 8) (vs : VS) (A : AC) (hn : InoAt w a 703 (noNums.set 1 1#32)) (hC : CW w0 w c vs A b) (hb : b < 800000) (hx : 1 < nbOf vs.d.n) (hok : A.held 1 = true ∨ A.full = false)
    (hD0 : ((A.meet 1 (vs.cont 1) id).dataOf 1)[187]? = some y0) (hD1 : ((A.meet 1 (vs.cont 1) id).dataOf 1)[188]? = some y1) (hD2 : ((A.meet 1 (vs.cont 1) id).dataOf 1)[189]? = some y2) (hD3 : ((A.meet 1 (vs.cont 1) id).dataOf 1)[190]? = some y3) :
    Calls Tryz.prog 14 #[.pointer (some ⟨a, 0, none⟩), ep c, .int .i64 699, .int .i64 10] w fun e w' => ∃ og, e = .returned (.tuple #[.slice (some ⟨og, 0, none⟩) 4 4, .int .i64 0]) ∧ w'.heap[og]? = some (.cells #[u8v y0, u8v y1, u8v y2, u8v y3] 5 (0, 0)) ∧ w.heap.size ≤ og ∧ But (Cmn w0 w) w w' := by
  have hmix : Tryz.prog.follows .mixedOrders = true := by kernel_rfl
  have cU : ∀ W, Calls Tryz.prog 30 #[.int .i64 703] W fun e w' => e = .returned (.int .i64 2) ∧ w' = W := fun W => upTo_any 703 (by omega) W
  have hmn : (min 10 4 : Int) = 4 := by decide
  have c0 := hn.size
  have hmk : ∀ W : World, (Instr.makeSlice 30 (.int .i64 4) (.int .i64 4)).run Tryz.prog W = .ok (.slice (some ⟨W.heap.size, 0, none⟩) 4 4) (W.alloc (.cells (List.replicate 4 (.int .u8 0)).toArray 5)) := fun W => imake W 4 (by omega)
  have HW : Hid (InoAt w a 703 (noNums.set 1 1#32) ∧ CW w0 w c vs A b) := ⟨hn, hC⟩
  clear hn hC
  go_enter Tryz.func14, Tryz.ntmps14
  go_wp2_with fail
  obtain ⟨w2, hw2⟩ : ∃ w2, w2 = (w.alloc (.cells #[.int .u8 0, .int .u8 0, .int .u8 0, .int .u8 0] 5)).alloc (.cells #[ep c, .pointer none, .slice none 0 0, .slice none 0 0, .slice none 0 0, .int .i64 699, .slice (some ⟨w.heap.size, 0, none⟩) 4 4] 84) := ⟨_, rfl⟩
  have hB2 : Below w.heap.size w w2 := by rw [hw2]; exact ((Below.refl _ w).alloc (Nat.le_refl _) _).alloc (by simp) _
  have hs2 : w2.heap.size = w.heap.size + 2 := by rw [hw2]; simp
  have hr2 : BlkAt w2 (w.heap.size + 1) [ep c, .pointer none, .slice none 0 0, .slice none 0 0, .slice none 0 0, .int .i64 699, .slice (some ⟨w.heap.size, 0, none⟩) 4 4] 84 := by
    rw [hw2]
    have := heap_alloc_new (w.alloc (.cells #[.int .u8 0, .int .u8 0, .int .u8 0, .int .u8 0] 5)) (.cells #[ep c, .pointer none, .slice none 0 0, .slice none 0 0, .slice none 0 0, .int .i64 699, .slice (some ⟨w.heap.size, 0, none⟩) 4 4] 84)
    rw [World.size_alloc] at this
    exact this
  have ho2 : w2.heap[w.heap.size]? = some (.cells #[.int .u8 0, .int .u8 0, .int .u8 0, .int .u8 0] 5 (0, 0)) := by
    rw [hw2]
    exact (Below.heap_alloc _ _ _ (by simp)).trans (heap_alloc_new w _)
  rw [← hw2]
  have H2 : Hid (Below w.heap.size w w2 ∧ BlkAt w2 (w.heap.size + 1) [ep c, .pointer none, .slice none 0 0, .slice none 0 0, .slice none 0 0, .int .i64 699, .slice (some ⟨w.heap.size, 0, none⟩) 4 4] 84 ∧ w2.heap[w.heap.size]? = some (.cells #[.int .u8 0, .int .u8 0, .int .u8 0, .int .u8 0] 5 (0, 0))) := ⟨hB2, hr2, ho2⟩
  clear hw2 hB2 hr2 ho2 c0 hmk
  have vv0 : ∀ g, vals ((fun _ : Unit => readL (w.heap.size + 1) w2.heap.size) g) 0 = .pointer (some ⟨w.heap.size + 1, 0, none⟩) := fun g => rfl
  have vv1 : ∀ g, vals ((fun _ : Unit => readL (w.heap.size + 1) w2.heap.size) g) 1 = .pointer (some ⟨w.heap.size + 1, 0, none⟩) := fun g => rfl
  have vv2 : ∀ g, vals ((fun _ : Unit => readL (w.heap.size + 1) w2.heap.size) g) 2 = .pointer (some ⟨w.heap.size + 1, 0, none⟩) := fun g => rfl
  have vv3 : ∀ g, vals ((fun _ : Unit => readL (w.heap.size + 1) w2.heap.size) g) 3 = .int .i64 699 := fun g => rfl
  have vv4 : ∀ g, vals ((fun _ : Unit => readL (w.heap.size + 1) w2.heap.size) g) 4 = .int .i64 1 := fun g => rfl
  have vv5 : ∀ g, vals ((fun _ : Unit => readL (w.heap.size + 1) w2.heap.size) g) 5 = .int .i64 699 := fun g => rfl
  have vv6 : ∀ g, vals ((fun _ : Unit => readL (w.heap.size + 1) w2.heap.size) g) 6 = .int .i64 4 := fun g => rfl
  have vv7 : ∀ g, vals ((fun _ : Unit => readL (w.heap.size + 1) w2.heap.size) g) 7 = .int .i64 703 := fun g => rfl
  have vv8 : ∀ g, vals ((fun _ : Unit => readL (w.heap.size + 1) w2.heap.size) g) 8 = .int .i64 2 := fun g => rfl
  have vv9 : ∀ g, vals ((fun _ : Unit => readL (w.heap.size + 1) w2.heap.size) g) 9 = .pointer (some ⟨w.heap.size + 1, 0, none⟩) := fun g => rfl
  have vv10 : ∀ g, vals ((fun _ : Unit => readL (w.heap.size + 1) w2.heap.size) g) 10 = .func (.func 31) #[.pointer (some ⟨w.heap.size + 1, 0, none⟩)] #[] := fun g => rfl
  have vv11 : ∀ g, vals ((fun _ : Unit => readL (w.heap.size + 1) w2.heap.size) g) 11 = .agg #[.pointer (some ⟨w.heap.size + 1, 0, none⟩), .int .i64 1, .int .i64 2, .bool false, .func (.func 31) #[.pointer (some ⟨w.heap.size + 1, 0, none⟩)] #[]] := fun g => rfl
  have vv12 : ∀ g, vals ((fun _ : Unit => readL (w.heap.size + 1) w2.heap.size) g) 12 = .pointer (some ⟨w2.heap.size, 0, none⟩) := fun g => rfl
  have vv13 : ∀ g, vals ((fun _ : Unit => readL (w.heap.size + 1) w2.heap.size) g) 13 = undef := fun g => rfl
  refine region_laidg hmix (by kernel_rfl) 65 rfl (by kernel_rfl) () ((fun _ : Unit => readL (w.heap.size + 1) w2.heap.size)) (fun g => rfl) (fun (_ : Unit) b W => W = if b 13 = true then w2.drew.alloc (.cells #[.pointer (some ⟨w.heap.size + 1, 0, none⟩), .int .i64 1, .int .i64 2, .bool false, .func (.func 31) #[.pointer (some ⟨w.heap.size + 1, 0, none⟩)] #[]] 81) else if b 12 = true then w2.drew.alloc (.cells #[.pointer none, .int .i64 0, .int .i64 0, .bool false, .nilFunc] 81) else w2.drew) rfl ?_ ?_
  · intro g b W io o a hS hcl ho hb hd ev kp yl
    match io with
    | 0 =>
      simp only [List.getElem?_toArray, List.getElem?_cons_zero, Option.some.injEq] at ho
      subst ho
      have e10 : a.tmps[10]?.getD undef = .pointer (some ⟨w.heap.size + 1, 0, none⟩) := kp 10 (none_till (by kernel_rfl))
      refine doesg_value rfl (by intro c h; cases h) (v := .pointer (some ⟨w.heap.size + 1, 0, none⟩)) (w' := W) ?_ ⟨g, fun _ _ => rfl, (vv0 g).symm, ?_⟩
      · simp [execOp, go_sem, e10]
      · simpa [did] using hS
    | 1 =>
      simp only [List.getElem?_toArray, List.getElem?_cons_zero, List.getElem?_cons_succ, Option.some.injEq] at ho
      subst ho
      have p0 : b 0 = true := hd ⟨0, .data⟩ (by simp) rfl
      have e41 := (ev 0 41 rfl p0).trans (vv0 g)
      refine doesg_value rfl (by intro c h; cases h) (v := .pointer (some ⟨w.heap.size + 1, 0, none⟩)) (w' := W) ?_ ⟨g, fun _ _ => rfl, (vv1 g).symm, ?_⟩
      · simp [execOp, go_sem, e41]
      · simpa [did] using hS
    | 2 =>
      simp only [List.getElem?_toArray, List.getElem?_cons_zero, List.getElem?_cons_succ, Option.some.injEq] at ho
      subst ho
      have p1 : b 1 = true := hd ⟨1, .data⟩ (by simp) rfl
      have e42 := (ev 1 42 rfl p1).trans (vv1 g)
      refine doesg_value rfl (by intro c h; cases h) (v := .pointer (some ⟨w.heap.size + 1, 0, none⟩)) (w' := W) ?_ ⟨g, fun _ _ => rfl, (vv2 g).symm, ?_⟩
      · simp [execOp, go_sem, e42]
      · simpa [did] using hS
    | 3 =>
      simp only [List.getElem?_toArray, List.getElem?_cons_zero, List.getElem?_cons_succ, Option.some.injEq] at ho
      subst ho
      have e2 : a.tmps[2]?.getD undef = .int .i64 699 := kp 2 (none_till (by kernel_rfl))
      refine doesg_value rfl (by intro c h; cases h) (v := .int .i64 699) (w' := W) ?_ ⟨g, fun _ _ => rfl, (vv3 g).symm, ?_⟩
      · simp [execOp, go_sem, e2]
      · simpa [did] using hS
    | 4 =>
      simp only [List.getElem?_toArray, List.getElem?_cons_zero, List.getElem?_cons_succ, Option.some.injEq] at ho
      subst ho
      have p3 : b 3 = true := hd ⟨3, .data⟩ (by simp) rfl
      have e44 := (ev 3 44 rfl p3).trans (vv3 g)
      refine doesg_value rfl (by intro c h; cases h) (v := .int .i64 1) (w' := W) ?_ ⟨g, fun _ _ => rfl, (vv4 g).symm, ?_⟩
      · simp [execOp, go_sem, e44]; rfl
      · simpa [did] using hS
    | 5 =>
      simp only [List.getElem?_toArray, List.getElem?_cons_zero, List.getElem?_cons_succ, Option.some.injEq] at ho
      subst ho
      have e2 : a.tmps[2]?.getD undef = .int .i64 699 := kp 2 (none_till (by kernel_rfl))
      refine doesg_value rfl (by intro c h; cases h) (v := .int .i64 699) (w' := W) ?_ ⟨g, fun _ _ => rfl, (vv5 g).symm, ?_⟩
      · simp [execOp, go_sem, e2]
      · simpa [did] using hS
    | 6 =>
      simp only [List.getElem?_toArray, List.getElem?_cons_zero, List.getElem?_cons_succ, Option.some.injEq] at ho
      subst ho
      have e3 : a.tmps[3]?.getD undef = .int .i64 4 := kp 3 (none_till (by kernel_rfl))
      refine doesg_value rfl (by intro c h; cases h) (v := .int .i64 4) (w' := W) ?_ ⟨g, fun _ _ => rfl, (vv6 g).symm, ?_⟩
      · simp [execOp, go_sem, e3]
      · simpa [did] using hS
    | 7 =>
      simp only [List.getElem?_toArray, List.getElem?_cons_zero, List.getElem?_cons_succ, Option.some.injEq] at ho
      subst ho
      have p5 : b 5 = true := hd ⟨5, .data⟩ (by simp) rfl
      have p6 : b 6 = true := hd ⟨6, .data⟩ (by simp) rfl
      have e46 := (ev 5 46 rfl p5).trans (vv5 g)
      have e47 := (ev 6 47 rfl p6).trans (vv6 g)
      refine doesg_value rfl (by intro c h; cases h) (v := .int .i64 703) (w' := W) ?_ ⟨g, fun _ _ => rfl, (vv7 g).symm, ?_⟩
      · simp [execOp, go_sem, e46, e47]; rfl
      · simpa [did] using hS
    | 8 =>
      simp only [List.getElem?_toArray, List.getElem?_cons_zero, List.getElem?_cons_succ, Option.some.injEq] at ho
      subst ho
      have p7 : b 7 = true := hd ⟨7, .data⟩ (by simp) rfl
      have e48 := (ev 7 48 rfl p7).trans (vv7 g)
      refine doesg_call rfl (by intro c h; cases h) (f := 30) (args := #[.int .i64 703]) ?_ ?_
      · simp [go_sem, e48]
      · (refine (cU W).mono ?_; rintro e w' ⟨rfl, rfl⟩; exact ⟨_, rfl, g, fun _ _ => rfl, (vv8 g).symm, by simpa [did] using hS⟩)
    | 9 =>
      simp only [List.getElem?_toArray, List.getElem?_cons_zero, List.getElem?_cons_succ, Option.some.injEq] at ho
      subst ho
      have e10 : a.tmps[10]?.getD undef = .pointer (some ⟨w.heap.size + 1, 0, none⟩) := kp 10 (none_till (by kernel_rfl))
      refine doesg_value rfl (by intro c h; cases h) (v := .pointer (some ⟨w.heap.size + 1, 0, none⟩)) (w' := W) ?_ ⟨g, fun _ _ => rfl, (vv9 g).symm, ?_⟩
      · simp [execOp, go_sem, e10]
      · simpa [did] using hS
    | 10 =>
      simp only [List.getElem?_toArray, List.getElem?_cons_zero, List.getElem?_cons_succ, Option.some.injEq] at ho
      subst ho
      have p9 : b 9 = true := hd ⟨9, .data⟩ (by simp) rfl
      have e50 := (ev 9 50 rfl p9).trans (vv9 g)
      refine doesg_value rfl (by intro c h; cases h) (v := .func (.func 31) #[.pointer (some ⟨w.heap.size + 1, 0, none⟩)] #[]) (w' := W) ?_ ⟨g, fun _ _ => rfl, (vv10 g).symm, ?_⟩
      · simp [execOp, go_sem, e50]
      · simpa [did] using hS
    | 11 =>
      simp only [List.getElem?_toArray, List.getElem?_cons_zero, List.getElem?_cons_succ, Option.some.injEq] at ho
      subst ho
      have p2 : b 2 = true := hd ⟨2, .data⟩ (by simp) rfl
      have p4 : b 4 = true := hd ⟨4, .data⟩ (by simp) rfl
      have p8 : b 8 = true := hd ⟨8, .data⟩ (by simp) rfl
      have p10 : b 10 = true := hd ⟨10, .data⟩ (by simp) rfl
      have e43 := (ev 2 43 rfl p2).trans (vv2 g)
      have e45 := (ev 4 45 rfl p4).trans (vv4 g)
      have e49 := (ev 8 49 rfl p8).trans (vv8 g)
      have e51 := (ev 10 51 rfl p10).trans (vv10 g)
      refine doesg_value rfl (by intro c h; cases h) (v := .agg #[.pointer (some ⟨w.heap.size + 1, 0, none⟩), .int .i64 1, .int .i64 2, .bool false, .func (.func 31) #[.pointer (some ⟨w.heap.size + 1, 0, none⟩)] #[]]) (w' := W) ?_ ⟨g, fun _ _ => rfl, (vv11 g).symm, ?_⟩
      · simp [execOp, go_sem, e43, e45, e49, e51]
      · simpa [did] using hS
    | 12 =>
      simp only [List.getElem?_toArray, List.getElem?_cons_zero, List.getElem?_cons_succ, Option.some.injEq] at ho
      subst ho
      have h13 : b 13 = false := by cases h : b 13; rfl; rw [hcl 13 _ rfl h ⟨12, .data⟩ (by simp) rfl] at hb; cases hb
      have hW : W = w2.drew := by rw [hS, h13, hb]; rfl
      subst hW
      refine doesg_value rfl (by intro c h; cases h) (v := .pointer (some ⟨w2.heap.size, 0, none⟩)) (w' := w2.drew.alloc (.cells #[.pointer none, .int .i64 0, .int .i64 0, .bool false, .nilFunc] 81)) ?_ ⟨g, fun _ _ => rfl, (vv12 g).symm, ?_⟩
      · simp [execOp, go_sem]
      · simp [did, h13]
    | 13 =>
      simp only [List.getElem?_toArray, List.getElem?_cons_zero, List.getElem?_cons_succ, Option.some.injEq] at ho
      subst ho
      have p12 : b 12 = true := hd ⟨12, .data⟩ (by simp) rfl
      have p11 : b 11 = true := hd ⟨11, .data⟩ (by simp) rfl
      have e11 := (ev 12 11 rfl p12).trans (vv12 g)
      have e52 := (ev 11 52 rfl p11).trans (vv11 g)
      have hW : W = w2.drew.alloc (.cells #[.pointer none, .int .i64 0, .int .i64 0, .bool false, .nilFunc] 81) := by rw [hS, hb, p12]; rfl
      subst hW
      refine doesg_skip rfl (by intro c h; cases h) (w' := w2.drew.alloc (.cells #[.pointer (some ⟨w.heap.size + 1, 0, none⟩), .int .i64 1, .int .i64 2, .bool false, .func (.func 31) #[.pointer (some ⟨w.heap.size + 1, 0, none⟩)] #[]] 81)) ?_ ⟨g, fun _ _ => rfl, (vv13 g).symm, ?_⟩
      · simp [execOp, go_sem, e11, e52]
      · exact by simp [did]
    | k + 14 => simp at ho
  · intro g b' W hS hall
    have hW : W = w2.drew.alloc (.cells #[.pointer (some ⟨w.heap.size + 1, 0, none⟩), .int .i64 1, .int .i64 2, .bool false, .func (.func 31) #[.pointer (some ⟨w.heap.size + 1, 0, none⟩)] #[]] 81) := by rw [hS, hall 13 (by simp)]; rfl
    have hBW : Below w2.heap.size w2 W := walk_bel hS
    have hWs : W.heap.size = w.heap.size + 3 := by rw [hW]; simp [hs2]
    have hWk : WalkAt W w2.heap.size (.pointer (some ⟨w.heap.size + 1, 0, none⟩)) 1 2 false (.func (.func 31) #[.pointer (some ⟨w.heap.size + 1, 0, none⟩)] #[]) := by rw [hW]; exact heap_alloc_new w2.drew _
    obtain ⟨w3, rfl⟩ : ∃ w3, w3 = W := ⟨_, rfl⟩
    clear hS hall hW
    obtain ⟨hB2, hr2, ho2⟩ := H2.out
    have hB03 : Below w.heap.size w w3 := hB2.trans (hBW.mono hB2.size)
    have hi3 : InoAt w3 a 703 (noNums.set 1 1#32) := HW.out.1.below hB03 HW.out.1.lt
    have d0 : w3.cell? ⟨a, 1, none⟩ = some (.int .u32 0) := hi3.num (i := 0) (n := 0#32) rfl
    have d1 : w3.cell? ⟨a, 2, none⟩ = some (.int .u32 1) := hi3.num (i := 1) (n := 1#32) rfl
    have d2 : w3.cell? ⟨a, 3, none⟩ = some (.int .u32 0) := hi3.num (i := 2) (n := 0#32) rfl
    have d3 : w3.cell? ⟨a, 4, none⟩ = some (.int .u32 0) := hi3.num (i := 3) (n := 0#32) rfl
    have d4 : w3.cell? ⟨a, 5, none⟩ = some (.int .u32 0) := hi3.num (i := 4) (n := 0#32) rfl
    have d5 : w3.cell? ⟨a, 6, none⟩ = some (.int .u32 0) := hi3.num (i := 5) (n := 0#32) rfl
    have d6 : w3.cell? ⟨a, 7, none⟩ = some (.int .u32 0) := hi3.num (i := 6) (n := 0#32) rfl
    have d7 : w3.cell? ⟨a, 8, none⟩ = some (.int .u32 0) := hi3.num (i := 7) (n := 0#32) rfl
    have d8 : w3.cell? ⟨a, 9, none⟩ = some (.int .u32 0) := hi3.num (i := 8) (n := 0#32) rfl
    have d9 : w3.cell? ⟨a, 10, none⟩ = some (.int .u32 0) := hi3.num (i := 9) (n := 0#32) rfl
    have hal := HW.out.1.lt
    have han : ¬ a = w3.heap.size := by omega
    have han' : ¬ w3.heap.size = a := by omega
    obtain ⟨w4, hw4⟩ : ∃ w4, w4 = w3.alloc (.cells #[.int .u32 0, .int .u32 1, .int .u32 0, .int .u32 0, .int .u32 0, .int .u32 0, .int .u32 0, .int .u32 0, .int .u32 0, .int .u32 0] 55) := ⟨_, rfl⟩
    have hB4 : Below w3.heap.size w3 w4 := by rw [hw4]; exact (Below.refl _ w3).alloc (Nat.le_refl _) _
    have hx4 : NumsAt w4 w3.heap.size (noNums.set 1 1#32) := by rw [hw4]; exact heap_alloc_new w3 _
    have hB24 : Below w2.heap.size w2 w4 := hBW.trans (hB4.mono hBW.size)
    have hB04 : Below w.heap.size w w4 := hB03.trans (hB4.mono hB03.size)
    have hr4 := hr2.below hB24
    have ho4 : w4.heap[w.heap.size]? = some (.cells #[.int .u8 0, .int .u8 0, .int .u8 0, .int .u8 0] 5 (0, 0)) := (hB24.block _ (by omega)).trans ho2
    have hk4 : WalkAt w4 w2.heap.size (.pointer (some ⟨w.heap.size + 1, 0, none⟩)) 1 2 false (.func (.func 31) #[.pointer (some ⟨w.heap.size + 1, 0, none⟩)] #[]) := (hB4.block _ (by omega)).trans hWk
    have hV := copyOut_one w0 w4 (w.heap.size + 1) c w.heap.size b [ep c, .pointer none, .slice none 0 0, .slice none 0 0, .slice none 0 0, .int .i64 699, .slice (some ⟨w.heap.size, 0, none⟩) 4 4] y0 y1 y2 y3 [.int .u8 0, .int .u8 0, .int .u8 0, .int .u8 0] vs A hr4 rfl rfl rfl ho4 rfl (HW.out.2.below hB04) hb hx hok hD0 hD1 hD2 hD3
    have cO := over_one w2.heap.size w3.heap.size 1 2 31 1 (.pointer (some ⟨w.heap.size + 1, 0, none⟩)) false (.pointer (some ⟨w.heap.size + 1, 0, none⟩)) (noNums.set 1 1#32) 1#32 1#32 w4 (fun k => Cmn w0 w4 k ∨ k = w.heap.size)
      (fun w' => w'.heap[w.heap.size]? = some (.cells #[u8v y0, u8v y1, u8v y2, u8v y3] 5 (0, 0)) ∧ BlkAt w' (w.heap.size + 1) [ep c, .pointer none, .slice none 0 0, .slice none 0 0, .slice none 0 0, .int .i64 699, .slice (some ⟨w.heap.size, 0, none⟩) 4 4] 84)
      hk4 hx4 rfl (by omega) rfl rfl rfl (fun e => by
        rcases e with e | e
        · exact cmn_not hk4 (cTag_not (by decide) (by decide) (by decide)) e
        · omega) (fun e => by
        rcases e with e | e
        · exact cmn_not hx4 (cTag_not (by decide) (by decide) (by decide)) e
        · omega) (enters_of Tryz.func31 (by kernel_rfl) rfl)
      (hV.mono (by
        rintro e w' ⟨rfl, v1, v2, v3⟩
        exact ⟨rfl, v3, v1, v2⟩))
    rw [hs2, hWs] at cO
    have H4 : Hid (Below w.heap.size w w4) := hB04
    clear hV hB2 hr2 ho2 hB03 hi3 hB4 hx4 hB24 hB04 hr4 ho4 hk4 hBW hWk hal
    simp only [readL, putAll, List.setIfInBounds_toArray, List.set_cons_zero, List.set_cons_succ]
    go_wp2_with (go_at_call 29; rw [← hw4]; refine cO.mono ?_; rintro e w5 ⟨rfl, hv⟩; clear cO hw4 d0 d1 d2 d3 d4 d5 d6 d7 d8 d9; refine Stop.out ?_)
    refine Stop.mk ?_
    obtain ⟨w1, hb1, ⟨v1, v2⟩, hw5⟩ := hv
    have z2 : BlkAt w5 (w.heap.size + 1) [ep c, .pointer none, .slice none 0 0, .slice none 0 0, .slice none 0 0, .int .i64 699, .slice (some ⟨w.heap.size, 0, none⟩) 4 4] 84 := by rw [hw5]; exact (Below.heap_setCell _ _ _ _ (fun e => absurd (show w.heap.size + 1 = w.heap.size + 3 from e) (by omega))).trans v2
    have z1 : w5.heap[w.heap.size]? = some (.cells #[u8v y0, u8v y1, u8v y2, u8v y3] 5 (0, 0)) := by rw [hw5]; exact (Below.heap_setCell _ _ _ _ (fun e => absurd (show w.heap.size = w.heap.size + 3 from e) (by omega))).trans v1
    have z3 : But (Cmn w0 w) w w5 := by
      rw [hw5]
      refine ((But.of_below (S := Cmn w0 w) H4.out).after hb1 (fun i hi hc => ?_)).after (((But.refl (fun k => k = w.heap.size + 3) w1)).setCell _ rfl _) (fun i hi e => by
        have e' : i = w.heap.size + 3 := e
        omega)
      rcases hc with hc | hc
      · exact ⟨hc.1, fun cs t fr hk => hc.2 cs t fr ((H4.out.block i hi).trans hk)⟩
      · omega
    have d6 := z2.cell (i := 6) rfl
    have HZ : Hid (w5.heap[w.heap.size]? = some (.cells #[u8v y0, u8v y1, u8v y2, u8v y3] 5 (0, 0)) ∧ But (Cmn w0 w) w w5) := ⟨z1, z3⟩
    clear hb1 v1 v2 hw5 z1 z2 z3
    go_wp2
    go_ret2
    exact ⟨w.heap.size, rfl, HZ.out.1, Nat.le_refl _, HZ.out.2⟩

end Go.Proofs.YtebdgcoandfocaaGreatDoor

/-
  disk and begun of the law of package inode.
-/
namespace Go.Proofs.YtebdgcoandfocaaGreatDoor
open Go.RowKit Go.Maps Go.Sort Go.Shelf

def newA : AC := ⟨1000, [], 0, 0, 0, 0⟩

set_option maxRecDepth 8000 in
set_option maxHeartbeats 2000000 in
theorem disk_any (blocks : Nat) (w : World) (ht : Tab w) (ht6 : Bm.Tab64 w) (h2 : 2 ≤ blocks) (h48 : blocks ≤ 200) :
    Calls Tryz.prog 7 #[.int .i64 (blocks : Nat)] w fun e w' => ∃ (c s : Nat) (vs : VS), e = .returned (.tuple #[ep c, .pointer (some ⟨s + 1, 0, none⟩)]) ∧ CW w w' c vs newA 0 ∧ nbOf vs.d.n = blocks ∧ (∀ i, i < blocks → vs.cont i = zeroB) ∧ Bm.MapAt w' ((Bm.newMS s blocks).turn 0) ∧ w.heap.size ≤ s ∧ Below w.heap.size w w' := by
  have cV := volume_any blocks w ht (by omega) (by omega)
  have HT : Hid (Tab w ∧ Bm.Tab64 w) := ⟨ht, ht6⟩
  clear ht ht6
  go_enter Tryz.func7, Tryz.ntmps7
  go_wp2_with (go_at_call 21; refine cV.mono ?_; rintro e w1 ⟨vs, rfl, hI1, hz1, hnb1, hc1, hB1, hlo1⟩; clear cV; refine Stop.out ?_)
  refine Stop.mk ?_
  have cN : Calls Tryz.prog 20 #[dp vs.v, .int .i64 1000] w1 _ := new_ok 1000 vs w1 hI1 (by omega) (by omega)
  have H1 : Hid (nbOf vs.d.n = blocks ∧ (∀ i, i < blocks → vs.cont i = zeroB) ∧ Below w.heap.size w w1) := ⟨hnb1, hc1, hB1⟩
  clear hI1 hz1 hnb1 hc1 hB1 hlo1
  go_wp2_with (go_at_call 20; refine cN.mono ?_; rintro e w2 ⟨c, hh, rfl, hI2, hB2, hhl, hcl⟩; clear cN; refine Stop.out ?_)
  refine Stop.mk ?_
  have hB02 : Below w.heap.size w w2 := H1.out.2.2.trans (hB2.mono H1.out.2.2.size)
  have cM := Bm.new_in blocks w2 (by omega) (HT.out.2.below hB02).lt
  have hs12 := H1.out.2.2.size
  have hs02 := hB02.size
  have H2 : Hid (CW w w2 c vs newA 0 ∧ Below w.heap.size w w2 ∧ w.heap.size ≤ w2.heap.size) := ⟨⟨newS c vs.v 1000 hh, fun _ => [], hI2, ⟨Nat.zero_le _, Nat.zero_le _, Nat.zero_le _, Nat.zero_le _, Nat.zero_le _⟩, rfl, rfl, by show w.heap.size ≤ hh; omega⟩, hB02, hs02⟩
  clear hI2 hB2 hhl hcl hB02 hs12 hs02
  go_wp2_with (go_at_call 22; refine cM.mono ?_; rintro e w3 ⟨rfl, hm3, hB3⟩; clear cM; refine Stop.out ?_)
  refine Stop.mk ?_
  have cS := set_free 0 _ w3 hm3 (show 0 < blocks by omega) (Bm.used_zero _ _)
  have H3 : Hid (CW w w3 c vs newA 0 ∧ Below w.heap.size w w3 ∧ Bm.MapAt w3 (Bm.newMS w2.heap.size blocks)) := ⟨H2.out.1.below hB3, H2.out.2.1.trans (hB3.mono H2.out.2.2), hm3⟩
  clear hm3 hB3
  have cS' : Calls Tryz.prog 23 #[.pointer (some ⟨w2.heap.size + 1, 0, none⟩), .int .i64 0] w3 _ := cS
  clear cS
  go_wp2_with (go_at_call 23; refine cS'.mono ?_; rintro e w4 ⟨rfl, hm4, hb4⟩; clear cS')
  go_ret2
  refine ⟨c, w2.heap.size, vs, rfl, H3.out.1.foreign hb4 (fun k hk => ?_), H1.out.1, H1.out.2.1, hm4, H2.out.2.2, H3.out.2.1.trans (hb4.below H3.out.2.1.size (fun k hk => ?_))⟩
  · obtain ⟨_, h, _⟩ := H3.out.2.2.row
    rw [show k = _ from hk]
    exact ⟨_, _, _, h, by unfold foreignT; decide⟩
  · have e : k = w2.heap.size := hk
    have := H2.out.2.2
    omega

theorem abc_at0 (x0 x1 x2 : BitVec 8) : (abcB x0 x1 x2)[187]? = some 0#8 := by
  unfold abcB
  rw [List.getElem?_append_left (by rw [List.length_replicate]; omega), List.getElem?_replicate, if_pos (by omega)]
theorem abc_at (x0 x1 x2 : BitVec 8) (j : Nat) (x : BitVec 8) (hj : [x0, x1, x2][j]? = some x) (h3 : j < 3) : (abcB x0 x1 x2)[188 + j]? = some x := by
  unfold abcB
  rw [List.getElem?_append_right (by rw [List.length_replicate]; omega), List.length_replicate, List.getElem?_append_left (by simp only [List.length_cons, List.length_nil]; omega), show 188 + j - 188 = j by omega]
  exact hj
theorem wrote_data (d d' D : By) : ((wroteA newA d D).meet 1 d' id).dataOf 1 = D := rfl
theorem num703 : (numOf (inoBytes 703#32 (noNums.set 1 1#32)) 0).toNat = 703 := by decide
theorem used_t0 (s j : Nat) : Bm.used ((Bm.newMS s 20).turn 0).ws j = decide (j = 0) := by
  show Bm.used (Bm.turned (List.replicate ((20 + 63) / 64) 0) 0) j = _
  rw [Bm.turned_used (by rw [List.length_replicate]; decide), Bm.used_zero, Bm.used_zero]
  by_cases h : j = 0
  · rw [if_pos h]; simp [h]
  · rw [if_neg h]; simp [h]
theorem used_t1 (s j : Nat) : Bm.used (((Bm.newMS s 20).turn 0).turn 1).ws j = decide (j ≤ 1) := by
  show Bm.used (Bm.turned ((Bm.newMS s 20).turn 0).ws 1) j = _
  rw [Bm.turned_used (by show 1 / 64 < (Bm.turned (List.replicate ((20 + 63) / 64) 0) 0).length; rw [Bm.turned_length, List.length_replicate]; decide), used_t0, used_t0]
  by_cases h : j = 1
  · rw [if_pos h]; simp [h]
  · rw [if_neg h, Bool.eq_iff_iff]; simp; omega
theorem free18 (s : Nat) : (20 - Bm.cnt (Bm.used (((Bm.newMS s 20).turn 0).turn 1).ws) 20 : Nat) = 18 := by
  rw [Bm.cnt_congr 20 (V := fun j => decide (j ≤ 1)) (fun i _ => used_t1 s i)]
  decide
theorem str4 : strOf [0#8, 97#8, 98#8, 99#8] = ⟨#[0, 97, 98, 99]⟩ := rfl

set_option maxRecDepth 8000 in
set_option maxHeartbeats 4000000 in
theorem begun9_true (w : World) (ht : Tab w) (ht6 : Bm.Tab64 w) : Calls Tryz.prog 6 #[] w fun e w' => e = .returned (.bool true) ∧ Below w.heap.size w w' := by
  have cD : Calls Tryz.prog 7 #[.int .i64 20] w _ := disk_any 20 w ht ht6 (by omega) (by omega)
  have HT : Hid (Tab w ∧ Bm.Tab64 w) := ⟨ht, ht6⟩
  clear ht ht6
  go_enter Tryz.func6, Tryz.ntmps6
  go_wp2_with (go_at_call 7; refine cD.mono ?_; rintro e w1 ⟨c, s, vs, rfl, hC1, hnb, hcont, hm1, hsl, hB1⟩; clear cD; refine Stop.out ?_)
  refine Stop.mk ?_
  have cN := inew_any w1
  have H1 : Hid (CW w w1 c vs newA 0 ∧ nbOf vs.d.n = 20 ∧ Bm.MapAt w1 ((Bm.newMS s 20).turn 0) ∧ w.heap.size ≤ s ∧ Below w.heap.size w w1) := ⟨hC1, hnb, hm1, hsl, hB1⟩
  clear hC1 hnb hcont hm1 hsl hB1
  go_wp2_with (go_at_call 8; refine cN.mono ?_; rintro e w2 ⟨rfl, hi2, hB2⟩; clear cN; refine Stop.out ?_)
  refine Stop.mk ?_
  obtain ⟨hC1, hnb, hm1, hsl, hB1⟩ := H1.out
  have cv : (convert 30 30 (.slice (some ⟨w2.heap.size, 0, none⟩) 3 3)).run Tryz.prog (w2.alloc (.cells #[.int .u8 97, .int .u8 98, .int .u8 99] 5)) = .ok (.slice (some ⟨w2.heap.size, 0, none⟩) 3 3) (w2.alloc (.cells #[.int .u8 97, .int .u8 98, .int .u8 99] 5 (3, 4))) := Lib.run_convert_bytes_const w2 30 5 #[.int .u8 97, .int .u8 98, .int .u8 99] 3 3 Tryz.underlying30 Tryz.underlying5
  obtain ⟨w3, hw3⟩ : ∃ w3, w3 = w2.alloc (.cells #[.int .u8 97, .int .u8 98, .int .u8 99] 5 (3, 4)) := ⟨_, rfl⟩
  have hB3 : Below w2.heap.size w2 w3 := by rw [hw3]; exact (Below.refl _ w2).alloc (Nat.le_refl _) _
  have hx3 : w3.heap[w2.heap.size]? = some (.cells #[u8v 97#8, u8v 98#8, u8v 99#8] 5 (3, 4)) := by rw [hw3]; exact heap_alloc_new w2 _
  have hB13 : Below w1.heap.size w1 w3 := hB2.trans (hB3.mono hB2.size)
  have hB03 : Below w.heap.size w w3 := hB1.trans (hB13.mono hB1.size)
  have cW := write_first w w3 w1.heap.size c w2.heap.size 0 97#8 98#8 99#8 vs newA ((Bm.newMS s 20).turn 0) (hi2.below hB3 hi2.lt) (hC1.below hB13) (by omega) (by omega) (.inr rfl) (fun e he => by cases he) ⟨⟨1, 1, 1, false, vs.cont 1⟩, List.mem_singleton.2 rfl, rfl, rfl⟩ ⟨⟨1, 1, 2, true, abcB 97#8 98#8 99#8⟩, List.mem_singleton.2 rfl, rfl, Nat.one_pos, by decide⟩ (hm1.below hB13) (HT.out.2.below hB03) (by show 1 < 20; omega) (by rw [used_t0]; rfl) (by rw [used_t0]; rfl) hx3
  have hs1 := hB1.size
  have H3 : Hid (Below w.heap.size w w3) := hB03
  clear hC1 hm1 hsl hB1 hi2 hB2 hB3 hx3 hB13 hB03
  go_wp2_with (go_at_call 11; rw [← hw3]; refine cW.mono ?_; rintro e w4 ⟨rfl, hi4, hC4, hm4, hb4⟩; clear cW cv hw3; refine Stop.out ?_)
  refine Stop.mk ?_
  have cR := read_first w w4 w1.heap.size c 3 0#8 97#8 98#8 99#8 vs _ hi4 hC4 (by omega) (by omega) (.inl rfl) (by rw [wrote_data]; exact abc_at0 _ _ _) (by rw [wrote_data]; exact abc_at _ _ _ 0 _ rfl (by omega)) (by rw [wrote_data]; exact abc_at _ _ _ 1 _ rfl (by omega)) (by rw [wrote_data]; exact abc_at _ _ _ 2 _ rfl (by omega))
  have hB04 : Below w.heap.size w w4 := H3.out.trans (hb4.below H3.out.size (fun k hk => by
    rcases hk with hk | hk | hk
    · exact hk.1
    · have e : k = s := hk
      have := H1.out.2.2.2.1
      omega
    · omega))
  have H4 : Hid (InoAt w4 w1.heap.size 703 (noNums.set 1 1#32) ∧ Bm.MapAt w4 (((Bm.newMS s 20).turn 0).turn 1) ∧ Below w.heap.size w w4) := ⟨hi4, hm4, hB04⟩
  clear hi4 hC4 hm4 hb4 hB04
  go_wp2_with (go_at_call 14; refine cR.mono ?_; rintro e w5 ⟨og, rfl, ho5, hog, hb5⟩; clear cR; refine Stop.out ?_)
  refine Stop.mk ?_
  obtain ⟨hi4, hm4, hB04⟩ := H4.out
  have hi5 : InoAt w5 w1.heap.size 703 (noNums.set 1 1#32) := hi4.but hb5 (cmn_not hi4 (cTag_not (by decide) (by decide) (by decide)))
  obtain ⟨c6, hrow4, _⟩ := hm4.row
  have hm5 : Bm.MapAt w5 (((Bm.newMS s 20).turn 0).turn 1) := hm4.keep (but_only hb5) (cmn_not hm4.st (cTag_not (by decide) (by decide) (by decide))) (cmn_not hrow4 (cTag_not (by decide) (by decide) (by decide)))
  have hB05 : Below w.heap.size w w5 := hB04.trans (hb5.below hB04.size (fun k hk => hk.1))
  have cB := ibytes_any w1.heap.size 703#32 (noNums.set 1 1#32) rfl w5 hi5
  have H5 : Hid (InoAt w5 w1.heap.size 703 (noNums.set 1 1#32) ∧ Bm.MapAt w5 (((Bm.newMS s 20).turn 0).turn 1) ∧ Below w.heap.size w w5 ∧ w5.heap[og]? = some (.cells #[u8v 0#8, u8v 97#8, u8v 98#8, u8v 99#8] 5 (0, 0))) := ⟨hi5, hm5, hB05, ho5⟩
  clear hi4 hm4 hB04 hi5 hrow4 hm5 hB05 ho5 hb5
  go_wp2_with (go_at_call 16; refine cB.mono ?_; rintro e w6 ⟨rfl, hx6, hB6⟩; clear cB; refine Stop.out ?_)
  refine Stop.mk ?_
  obtain ⟨bs, hbs⟩ : ∃ bs, bs = inoBytes 703#32 (noNums.set 1 1#32) := ⟨_, rfl⟩
  have hbl : bs.length = 44 := by rw [hbs]; rfl
  have hn7 : (numOf bs 0).toNat = 703 := by rw [hbs]; exact num703
  rw [← hbs] at hx6
  have cL := load_ok (some ⟨w5.heap.size, 0, none⟩) bs 44 w6 (bytes_block hx6) (by omega) hbl (by omega)
  rw [hbl, hn7] at cL
  have H6 : Hid (Below w5.heap.size w5 w6) := hB6
  clear hbs hx6 hB6 hbl
  go_wp2_with (go_at_call 15; refine cL.mono ?_; rintro e w7 ⟨rfl, hi7, hB7⟩; clear cL; refine Stop.out ?_)
  refine Stop.mk ?_
  obtain ⟨hi5, hm5, hB05, ho5⟩ := H5.out
  have hB57 : Below w5.heap.size w5 w7 := H6.out.trans (hB7.mono H6.out.size)
  have hm7 := hm5.below hB57
  have ho7 : w7.heap[og]? = some (.cells #[u8v 0#8, u8v 97#8, u8v 98#8, u8v 99#8] 5 (0, 0)) := (hB57.block og (Array.getElem?_eq_some_iff.1 ho5).1).trans ho5
  have hstr : (convert 30 9 (.slice (some ⟨og, 0, none⟩) 4 4)).run Tryz.prog w7 = .ok (.string ⟨#[0, 97, 98, 99]⟩) w7 := by
    have := run_str w7 (some ⟨og, 0, none⟩) [0#8, 97#8, 98#8, 99#8] 4 (bytes_block ho7)
    rw [str4] at this
    exact this
  have cS := isize_any w6.heap.size 703 _ w7 hi7
  have tight : Bm.Tight 20 (((Bm.newMS s 20).turn 0).turn 1).ws := by
    have f0 : Bm.Tight 20 (Bm.newMS s 20).ws := fun i _ => Bm.used_zero _ _
    exact (f0.turned (H1.out.2.2.1.fit.turned 0 |> fun _ => (show Bm.Fit 20 (Bm.newMS s 20).ws from ⟨rfl, by omega, fun j x hj => by
      have : x ∈ (Bm.newMS s 20).ws := List.mem_of_getElem? hj
      have : x = 0 := List.eq_of_mem_replicate this
      omega⟩)) (by omega)).turned H1.out.2.2.1.fit (by omega)
  have cF := Bm.free_any _ w7 hm7 tight
  rw [show (((Bm.newMS s 20).turn 0).turn 1).n = 20 from rfl, free18 s] at cF
  have cC := cost_any 513 w7
  rw [show costI 513 = 2 by decide] at cC
  have H7 : Hid (Below w.heap.size w w7) := hB05.trans (hB57.mono hB05.size)
  clear hi5 hm5 hB05 ho5 hB57 hm7 ho7 tight hi7 hB7
  go_wp2_with (first
    | (go_at_call 18; refine Calls_on cS ?_; clear cS)
    | (go_at_call 9; refine Calls_on cF ?_; clear cF)
    | (go_at_call 19; refine Calls_on cC ?_; clear cC))
  go_ret
  exact ⟨rfl, H7.out⟩

end Go.Proofs.YtebdgcoandfocaaGreatDoor

/-
  What every proof of package inode's law begins with: the two tables.
-/
namespace Go.Proofs.YtebdgcoandfocaaGreatDoor
open Go.ChangeShapes Go.WideShapes Go.ChangeAt Go.RowKit

theorem laid_tail {P : Program} {x : String × DataW Unit} {rest : List (String × DataW Unit)} {W : World} (h : laidMet P (x :: rest) W) : laidMet P rest W := by
  obtain ⟨ps, ⟨g', t', cs, fuel, p, q, hg', ht', hvar, hd, hrest, hps⟩, hnd, hall⟩ := h
  subst hps
  exact ⟨q, hrest, (List.nodup_append.1 hnd).2.1, fun b off hm => hall b off (List.mem_append_right _ hm)⟩

theorem gTab64 : Tryz.prog.globalNamed "math/bits.deBruijn64tab" = some 1 := by kernel_rfl
theorem gTab64Type : (Tryz.prog.globals[1]?).map (·.type) = some 216 := by kernel_rfl
theorem cellsTab64 : Tryz.prog.cellsOf 216 = 64 := by kernel_rfl
theorem cellsU8 : Tryz.prog.cellsOf 5 = 1 := by kernel_rfl
def deB : List Int := Lib.deBruijn64tab.map fun (n : Nat) => (n : Int)

theorem tabs_of_laid {W : World} (h : laidMetH Tryz.prog [("lagoon/crc.steps", Rows.laid_lagoon_crc_steps), ("math/bits.deBruijn64tab", Rows.laid_math_bits_deBruijn64tab)] W) : Tab W ∧ Bm.Tab64 W := by
  have h' : laidMet Tryz.prog [("lagoon/crc.steps", Rows.laid_lagoon_crc_steps), ("math/bits.deBruijn64tab", Rows.laid_math_bits_deBruijn64tab)] W := h
  have ht : Lib.TabIs Tryz.prog W "lagoon/crc.steps" .u32 [0, 498536548, 997073096, 651767980, 1994146192, 1802195444, 1303535960, 1342533948, 3988292384, 4027552580, 3604390888, 3412177804, 2607071920, 2262029012, 2685067896, 3183342108] :=
    Lib.tabIs_of_head gTab gTabType Tryz.underlying205 Tryz.underlying53 cellsU32 cellsTab h'
  have ht2 : Lib.TabIs Tryz.prog W "math/bits.deBruijn64tab" .u8 deB :=
    Lib.tabIs_of_head (rest := []) gTab64 gTab64Type Tryz.underlying216 Tryz.underlying5 cellsU8 cellsTab64 (laid_tail h')
  constructor
  · intro k z hk
    have hlt : k < 16 := (List.getElem?_eq_some_iff.1 hk).1
    have hc := ht.cell gTab k (by simpa using hlt)
    rw [hc]
    match k, hlt with
    | 0, _ | 1, _ | 2, _ | 3, _ | 4, _ | 5, _ | 6, _ | 7, _ | 8, _ | 9, _ | 10, _ | 11, _ | 12, _ | 13, _ | 14, _ | 15, _ => cases hk; rfl
  · intro k hk
    have hc := ht2.cell gTab64 k (show k < deB.length from hk)
    rw [hc]
    have : deB.getD k 0 = ((Lib.deBruijn64tab.getD k 0 : Nat) : Int) := by
      unfold deB
      rw [List.getD, List.getElem?_map, List.getD]
      have hl : k < Lib.deBruijn64tab.length := hk
      rw [List.getElem?_eq_getElem hl]
      rfl
    rw [← this]

/- The laws. -/

end Go.Proofs.YtebdgcoandfocaaGreatDoor

/-
  A file in memory, through the laws of package inode: how it begins, what Free answers, what else is kept.
-/
namespace Go.Proofs.YtebdgcoandfocaaGreatDoor
open Go.RowKit Go.Maps Go.Sort Go.Shelf

theorem frees_cnt (U : Nat → Bool) : ∀ n, (Ino.frees n U).length + Bm.cnt U n = n
  | 0 => rfl
  | n + 1 => by
    have ih := frees_cnt U n
    have e : Ino.frees (n + 1) U = Ino.frees n U ++ (if U n = true then [] else [n]) := by
      unfold Ino.frees
      rw [List.range_succ, List.filter_append]
      cases h : U n <;> simp [h]
    rw [e, List.length_append]
    show _ + (Bm.cnt U n + (U n).toNat) = _
    cases h : U n
    · simp; omega
    · simp; omega

theorem used_first (s n j : Nat) (hn : 0 < n) : Bm.used ((Bm.newMS s n).turn 0).ws j = decide (j = 0) := by
  show Bm.used (Bm.turned (List.replicate ((n + 63) / 64) 0) 0) j = _
  rw [Bm.turned_used (by rw [List.length_replicate]; omega), Bm.used_zero, Bm.used_zero]
  by_cases h : j = 0
  · rw [if_pos h]; simp [h]
  · rw [if_neg h]; simp [h]
theorem tight_first (s n : Nat) (hn : 0 < n) : Bm.Tight n ((Bm.newMS s n).turn 0).ws := fun i hi => by
  rw [used_first s n i hn]; simp; omega

/-- A new file on a new disk. -/
theorem Fil.start {w0 w w' : World} {a c s blocks : Nat} {vs : VS} (h2 : 2 ≤ blocks) (hC : CW w0 w c vs newA 0) (hnb : nbOf vs.d.n = blocks) (hm : Bm.MapAt w ((Bm.newMS s blocks).turn 0)) (hB : Below w.heap.size w w') (hi : InoAt w' a 0 noNums) :
    Fil w0 w' a c vs ((Bm.newMS s blocks).turn 0) (fun _ => 0) vs.cont 0 (fun _ => 0) 0 where
  ino := hi
  lc := ⟨newA, hC.below hB, ⟨rfl, List.nodup_nil, (fun e he => by cases he), fun x _ => ⟨rfl, rfl⟩⟩⟩
  map := hm.below hB
  file := Ino.File.new _ _ _ (fun x hx => by rw [used_first s blocks x (by omega)]; simp)
  nn := hnb.symm
  pos := by show 0 < blocks; omega
  tight := tight_first s blocks (by omega)

section
variable {w0 w w' : World} {a c : Nat} {vs : VS} {m : Bm.MS} {G : Ino.Gs} {V : Nat → By} {sz : Nat} {W : Nat → BitVec 8} {b : Nat}

/-- How many blocks are free. -/
theorem free_F (h : Fil w0 w a c vs m G V sz W b) : Calls Tryz.prog 9 #[.pointer (some ⟨m.a, 0, none⟩)] w fun e w' => e = .returned (.int .i64 ((m.n - 1 - Ino.cnt G : Nat) : Int)) ∧ w' = w := by
  have h1 := Bm.free_any m w h.map h.tight
  have h2 := frees_cnt (Bm.used m.ws) m.n
  have h3 := h.file.count h.pos
  rw [show m.n - Bm.cnt (Bm.used m.ws) m.n = m.n - 1 - Ino.cnt G by omega] at h1
  exact h1
theorem Fil.frees (h : Fil w0 w a c vs m G V sz W b) : (Ino.frees m.n (Bm.used m.ws)).length = m.n - 1 - Ino.cnt G := by
  have h3 := h.file.count h.pos
  omega
theorem Fil.cntLe (h : Fil w0 w a c vs m G V sz W b) : Ino.cnt G + 1 ≤ m.n := by
  have h3 := h.file.count h.pos
  omega

theorem Fil.below (h : Fil w0 w a c vs m G V sz W b) (hB : Below w.heap.size w w') : Fil w0 w' a c vs m G V sz W b :=
  ⟨h.ino.below hB h.ino.lt, h.lc.below hB, h.map.below hB, h.file, h.nn, h.pos, h.tight⟩

/-- A row of bytes is kept by what turns a file. -/
theorem Fil.row (h : Fil w0 w a c vs m G V sz W b) (hb : But (fun k => Cmn w0 w k ∨ k = m.b ∨ k = a) w w') {g : Nat} {cs : Array Value} {fr : Nat × Nat} (hg : w.heap[g]? = some (.cells cs 5 fr)) : w'.heap[g]? = some (.cells cs 5 fr) := by
  refine (hb.block g (Array.getElem?_eq_some_iff.1 hg).1 ?_).trans hg
  rintro (e | rfl | rfl)
  · exact cmn_not hg (cTag_not (by decide) (by decide) (by decide)) e
  · obtain ⟨mcs, hmc⟩ := map_mbE h.map
    rw [hmc] at hg
    simp only [Option.some.injEq, Obj.cells.injEq] at hg
    exact absurd hg.2.1 (by decide)
  · have hi : w.heap[g]? = _ := h.ino
    rw [hi] at hg
    simp only [Option.some.injEq, Obj.cells.injEq] at hg
    exact absurd hg.2.1 (by decide)
theorem Fil.rowC (_h : Fil w0 w a c vs m G V sz W b) (hb : But (Cmn w0 w) w w') {g : Nat} {cs : Array Value} {fr : Nat × Nat} (hg : w.heap[g]? = some (.cells cs 5 fr)) : w'.heap[g]? = some (.cells cs 5 fr) :=
  (hb.block g (Array.getElem?_eq_some_iff.1 hg).1 (cmn_not hg (cTag_not (by decide) (by decide) (by decide)))).trans hg

theorem row_out {w0 w : World} {g : Nat} {cs : Array Value} {fr : Nat × Nat} (hg : w.heap[g]? = some (.cells cs 5 fr)) : g < w.heap.size ∧ ¬ Cmn w0 w g := ⟨(Array.getElem?_eq_some_iff.1 hg).1, cmn_not hg (cTag_not (by decide) (by decide) (by decide))⟩
/-- Nothing that lay there ahead of the disk is turned. -/
theorem Fil.lowB (hb : But (fun k => Cmn w0 w k ∨ k = m.b ∨ k = a) w w') (hs : w0.heap.size ≤ w.heap.size) (hm : w0.heap.size ≤ m.b) (ha : w0.heap.size ≤ a) : Below w0.heap.size w w' :=
  hb.below hs (fun k hk => by
    rcases hk with hk | hk | hk
    · exact hk.1
    · omega
    · omega)
theorem Fil.lowC (hb : But (Cmn w0 w) w w') (hs : w0.heap.size ≤ w.heap.size) : Below w0.heap.size w w' := hb.below hs (fun _ hk => hk.1)
end

theorem costI_B (s : Nat) (h : s ≤ 65536) : costI (s : Nat) = ((Ino.costB ((s + 511) / 512) : Nat) : Int) := by
  by_cases h0 : s = 0
  · subst h0; rfl
  · rw [costI_in s _ (by omega) h rfl]
    unfold Ino.costB blocksOf
    congr 1
    split <;> split <;> omega

/-- Bytes in a row of their own. -/
structure RowB (w : World) (p : Option Addr) (bs : By) : Prop where
  is : Bytes w p bs
  tag : 0 < bs.length → ∃ g o cs fr, p = some ⟨g, o, none⟩ ∧ w.heap[g]? = some (.cells cs 5 fr)
theorem RowB.keep {w w' : World} {p : Option Addr} {bs : By} (h : RowB w p bs) (hk : ∀ (g : Nat) (cs : Array Value) (fr : Nat × Nat), w.heap[g]? = some (.cells cs 5 fr) → w'.heap[g]? = some (.cells cs 5 fr)) : RowB w' p bs := by
  refine ⟨fun h0 => ?_, fun h0 => ?_⟩
  · obtain ⟨g, o, e, hx⟩ := h.is h0
    obtain ⟨g2, o2, cs, fr, e2, hg⟩ := h.tag h0
    rw [e] at e2
    cases e2
    refine ⟨g, o, e, fun j y hj => ?_⟩
    have := hx j y hj
    rw [cellOf hg] at this
    rw [cellOf (hk g cs fr hg)]; exact this
  · obtain ⟨g, o, cs, fr, e, hg⟩ := h.tag h0
    exact ⟨g, o, cs, fr, e, hk g cs fr hg⟩
theorem RowB.nil (w : World) (p : Option Addr) : RowB w p [] := ⟨(fun h => by cases h), (fun h => by cases h)⟩
theorem RowB.block {w : World} {g : Nat} {bs : By} {fr : Nat × Nat} (h : w.heap[g]? = some (.cells (bs.map u8v).toArray 5 fr)) : RowB w (some ⟨g, 0, none⟩) bs := ⟨bytes_block h, fun _ => ⟨g, 0, _, _, rfl, h⟩⟩
theorem RowB.below {w w' : World} {p : Option Addr} {bs : By} (h : RowB w p bs) (hB : Below w.heap.size w w') : RowB w' p bs := h.keep fun g _ _ hg => (hB.block g (Array.getElem?_eq_some_iff.1 hg).1).trans hg
theorem RowB.take {w : World} {p : Option Addr} {bs : By} (h : RowB w p bs) (k : Nat) : RowB w p (bs.take k) := by
  refine ⟨fun h0 => ?_, fun h0 => h.tag (by rw [List.length_take] at h0; omega)⟩
  obtain ⟨g, o, e, hx⟩ := h.is (by rw [List.length_take] at h0; omega)
  refine ⟨g, o, e, fun j y hj => hx j y ?_⟩
  rw [List.getElem?_take] at hj
  split at hj
  · exact hj
  · cases hj

section
variable {w0 w w' : World} {a c : Nat} {vs : VS} {m : Bm.MS} {G : Ino.Gs} {V : Nat → By} {sz : Nat} {W : Nat → BitVec 8} {b : Nat}

/-- Read, wherever. -/
theorem read_B (h : Fil w0 w a c vs m G V sz W b) (hb : b + 30000 ≤ 700000) (at_ count ln : Nat) (hln : min count (sz - at_) = ln) (hco : count < 9223372036854775808) (hat : at_ < 9223372036854775808) :
    Calls Tryz.prog 14 #[.pointer (some ⟨a, 0, none⟩), ep c, .int .i64 (at_ : Nat), .int .i64 (count : Nat)] w fun e w' => ∃ p cp, e = .returned (.tuple #[.slice p ln cp, .int .i64 0]) ∧ Fil w0 w' a c vs m G V sz W (b + 20000) ∧ But (Cmn w0 w) w w' ∧ RowB w' p ((List.range ln).map fun i => W (at_ + i)) := by
  by_cases h0 : ln = 0
  · subst h0
    refine (iread_none h.ino h.file.le c at_ count (by omega) hco hat).mono ?_
    rintro e w' ⟨rfl, rfl⟩
    exact ⟨none, 0, rfl, ⟨h.ino, h.lc.more (by omega), h.map, h.file, h.nn, h.pos, h.tight⟩, But.refl _ _, RowB.nil _ _⟩
  · refine (read_F h hb at_ count ln (by omega) hln (by omega) hco).mono ?_
    rintro e w' ⟨h1, h2, rfl, h4⟩
    exact ⟨_, _, rfl, h1, h2, RowB.block h4⟩

set_option maxRecDepth 8000 in
set_option maxHeartbeats 1000000 in
/-- Write of nothing. -/
theorem write_zero (a c ma at_ cp : Nat) (p : Option Addr) (hat : at_ ≤ 65536) : Calls Tryz.prog 11 #[.pointer (some ⟨a, 0, none⟩), ep c, .pointer (some ⟨ma, 0, none⟩), .int .i64 (at_ : Nat), .slice p 0 cp] w fun e w' => e = .returned (.int .i64 0) ∧ w' = w := by
  have h1 : ¬ ((at_ : Int) < 0) := by omega
  have h2 : ¬ ((65536 : Int) < (at_ : Int)) := by omega
  go_enter Tryz.func11, Tryz.ntmps11
  go_wp2
  go_ret
  exact ⟨rfl, rfl⟩
end

end Go.Proofs.YtebdgcoandfocaaGreatDoor

/-
  InodeEdges.
-/
namespace Go.Proofs.YtebdgcoandfocaaGreatDoor
open Go.RowKit Go.Maps Go.Sort Go.Shelf

/-- The byte at a place. -/
def evB (x : BitVec 8) (i : Nat) : BitVec 8 := BitVec.ofNat 8 (i / 512 + i + x.toNat)
theorem evB_val (x : BitVec 8) (k : Nat) : u8v (evB x k) = .int .u8 (((k : Int) / 512 + (k : Int) + (x.toNat : Int)) % 256) := by
  unfold u8v evB
  rw [BitVec.toNat_ofNat]
  congr 1
def edgeB (x : BitVec 8) (n : Nat) : By := (List.range n).map (evB x)
def partB (x : BitVec 8) (n k : Nat) : By := (List.range n).map fun i => if i < k then evB x i else 0#8
theorem partB_zero (x : BitVec 8) (n : Nat) : partB x n 0 = List.replicate n 0#8 := by
  unfold partB
  rw [show (fun i => if i < 0 then evB x i else 0#8) = fun _ => 0#8 from funext fun i => if_neg (Nat.not_lt_zero i), List.map_const', List.length_range]
theorem partB_all (x : BitVec 8) (n : Nat) : partB x n n = edgeB x n := by
  unfold partB edgeB
  refine List.map_congr_left fun i hi => if_pos (List.mem_range.1 hi)
theorem partB_step (x : BitVec 8) (n k : Nat) (hk : k < n) : ((partB x n k).map u8v).toArray.setIfInBounds k (u8v (evB x k)) = ((partB x n (k + 1)).map u8v).toArray := by
  apply Array.ext_getElem?
  intro i
  rw [Array.getElem?_setIfInBounds]
  unfold partB
  simp only [List.getElem?_toArray, List.getElem?_map, List.size_toArray, List.length_map, List.length_range]
  by_cases hi : i < n
  · rw [List.getElem?_range hi]
    by_cases hki : k = i
    · subst hki
      rw [if_pos rfl, if_pos hk]
      simp
    · rw [if_neg hki]
      simp only [Option.map_some]
      by_cases h1 : i < k
      · rw [if_pos h1, if_pos (by omega)]
      · rw [if_neg h1, if_neg (by omega)]
  · rw [List.getElem?_eq_none (by simp; omega), if_neg (by omega)]; rfl
theorem edgeB_length (x : BitVec 8) (n : Nat) : (edgeB x n).length = n := by simp [edgeB]

set_option maxRecDepth 8000 in
set_option maxHeartbeats 2000000 in
theorem edges_bad (blocks by_ x : Int) (w : World) (ht : Tab w) (ht6 : Bm.Tab64 w) (hbad : blocks < 0 ∨ 128 < blocks ∨ by_ < -2 ∨ 2 < by_ ∨ blocks * 512 + by_ < 0 ∨ 65536 < blocks * 512 + by_) :
    Calls Tryz.prog 5 #[.int .i64 blocks, .int .i64 by_, .int .u8 x] w fun e w' => e = .returned (.bool true) ∧ Below w.heap.size w w' := by
  have cb := begun9_true w ht ht6
  have cD : ∀ W, Below w.heap.size w W → Calls Tryz.prog 7 #[.int .i64 200] W fun e w' => ∃ c s : Nat, e = .returned (.tuple #[ep c, .pointer (some ⟨s + 1, 0, none⟩)]) ∧ Below w.heap.size w w' := fun W hW => by
    refine (show Calls Tryz.prog 7 #[.int .i64 200] W _ from disk_any 200 W (below_tab hW ht.lt ht) (ht6.below hW) (by omega) (by omega)).mono ?_
    rintro e w' ⟨c, s, vs, rfl, _, _, _, _, _, hB⟩
    exact ⟨c, s, rfl, hW.trans (hB.mono hW.size)⟩
  have HD := hide cD
  clear ht ht6 cD
  have key : Hid (blocks < 0 ∨ (0 ≤ blocks ∧ 128 < blocks) ∨ (0 ≤ blocks ∧ blocks ≤ 128 ∧ by_ < -2) ∨ (0 ≤ blocks ∧ blocks ≤ 128 ∧ -2 ≤ by_ ∧ 2 < by_) ∨ (0 ≤ blocks ∧ blocks ≤ 128 ∧ -2 ≤ by_ ∧ by_ ≤ 2 ∧ blocks * 512 + by_ < 0) ∨ (0 ≤ blocks ∧ blocks ≤ 128 ∧ -2 ≤ by_ ∧ by_ ≤ 2 ∧ 0 ≤ blocks * 512 + by_ ∧ 65536 < blocks * 512 + by_)) := by
    show _ ∨ _
    omega
  clear hbad
  go_enter Tryz.func5, Tryz.ntmps5
  go_wp2_with (go_at_call 6; refine cb.mono ?_; rintro e w1 ⟨rfl, hB⟩; clear cb; refine Stop.out ?_)
  refine Stop.mk ?_
  have cD := HD.out w1 hB
  clear hB HD
  go_wp2_with (go_at_call 7; refine cD.mono ?_; rintro e w2 ⟨c, s, rfl, hB⟩; clear cD; refine Stop.out ?_)
  refine Stop.mk ?_
  have cN := inew_any w2
  have HB := hide hB
  clear hB
  go_wp2_with (go_at_call 8; refine cN.mono ?_; rintro e w3 ⟨rfl, hi, hB3⟩; clear cN; refine Stop.out ?_)
  refine Stop.mk ?_
  have HF := hide (HB.out.trans (hB3.mono HB.out.size))
  clear hi hB3 HB
  rcases key.out with k1 | ⟨k1, k2⟩ | ⟨k1, k2, k3⟩ | ⟨k1, k2, k3, k4⟩ | ⟨k1, k2, k3, k4, k5⟩ | ⟨k1, k2, k3, k4, k5, k6⟩
  · clear key
    go_wp2
    go_ret
    exact ⟨rfl, HF.out⟩
  · clear key
    have n1 : ¬ blocks < 0 := by omega
    go_wp2
    go_ret
    exact ⟨rfl, HF.out⟩
  · clear key
    have n1 : ¬ blocks < 0 := by omega
    have n2 : ¬ 128 < blocks := by omega
    go_wp2
    go_ret
    exact ⟨rfl, HF.out⟩
  · clear key
    have n1 : ¬ blocks < 0 := by omega
    have n2 : ¬ 128 < blocks := by omega
    have n3 : ¬ by_ < -2 := by omega
    go_wp2
    go_ret
    exact ⟨rfl, HF.out⟩
  · clear key
    have n1 : ¬ blocks < 0 := by omega
    have n2 : ¬ 128 < blocks := by omega
    have n3 : ¬ by_ < -2 := by omega
    have n4 : ¬ 2 < by_ := by omega
    go_wp2
    go_ret
    exact ⟨rfl, HF.out⟩
  · clear key
    have n1 : ¬ blocks < 0 := by omega
    have n2 : ¬ 128 < blocks := by omega
    have n3 : ¬ by_ < -2 := by omega
    have n4 : ¬ 2 < by_ := by omega
    have n5 : ¬ blocks * 512 + by_ < 0 := by omega
    go_wp2
    go_ret
    exact ⟨rfl, HF.out⟩

/-- Write of all bytes of a new file. -/
theorem write_all {w0 w : World} {a c : Nat} {vs : VS} {m : Bm.MS} {V : Nat → By} {b : Nat} (h : Fil w0 w a c vs m (fun _ => 0) V 0 (fun _ => 0) b) (hb : b + 30000 ≤ 700000) (hn : m.n = 200) (ht : Bm.Tab64 w) (h6 : 1 < w0.heap.size) (g cp : Nat) (bs : By) (hbs : w.heap[g]? = some (.cells (bs.map u8v).toArray 5 (0, 0))) (hbc : bs.length ≤ cp) (hl : bs.length ≤ 65536) :
    Calls Tryz.prog 11 #[.pointer (some ⟨a, 0, none⟩), ep c, .pointer (some ⟨m.a, 0, none⟩), .int .i64 0, .slice (some ⟨g, 0, none⟩) bs.length cp] w fun e w' => e = .returned (.int .i64 0) ∧ But (fun k => Cmn w0 w k ∨ k = m.b ∨ k = a) w w' ∧ ∃ m' G' V', m'.a = m.a ∧ m'.b = m.b ∧ m'.n = m.n ∧ Fil w0 w' a c vs m' G' V' bs.length (fun i => bs.getD i 0) (b + 20000) ∧ Ino.cnt G' = Ino.costB ((bs.length + 511) / 512) := by
  have hW : Ino.wrote (fun _ => 0) 0 bs = fun i => bs.getD i 0 := funext fun i => by
    unfold Ino.wrote
    by_cases hi : i < bs.length
    · rw [if_pos ⟨Nat.zero_le _, by omega⟩]; rfl
    · rw [if_neg (by omega), List.getD_eq_getElem?_getD, List.getElem?_eq_none (by omega)]; rfl
  by_cases h0 : bs.length = 0
  · have := write_zero (w := w) a c m.a 0 cp (some ⟨g, 0, none⟩) (by omega)
    rw [h0]
    refine (show Calls Tryz.prog 11 #[.pointer (some ⟨a, 0, none⟩), ep c, .pointer (some ⟨m.a, 0, none⟩), .int .i64 0, .slice (some ⟨g, 0, none⟩) 0 cp] w _ from this).mono ?_
    rintro e w' ⟨rfl, rfl⟩
    obtain rfl : bs = [] := List.eq_nil_of_length_eq_zero h0
    exact ⟨rfl, But.refl _ _, m, fun _ => 0, V, rfl, rfl, rfl, ⟨h.ino, h.lc.more (by omega), h.map, h.file, h.nn, h.pos, h.tight⟩, by decide⟩
  · refine (show Calls Tryz.prog 11 #[.pointer (some ⟨a, 0, none⟩), ep c, .pointer (some ⟨m.a, 0, none⟩), .int .i64 0, .slice (some ⟨g, 0, none⟩) bs.length cp] w _ from write_F h hb ht h6 g 0 cp 0 bs (bytes_block hbs) (row_out hbs) (by omega) hbc (by omega)).mono ?_
    rintro e w' ⟨hb5, ⟨rfl, m', G', V', ea, eb, en, F5, g1, g2⟩ | ⟨_, hlt, _⟩⟩
    · rw [hW, show max 0 (0 + bs.length) = bs.length by omega] at F5
      refine ⟨rfl, hb5, m', G', V', ea, eb, en, F5, F5.file.cost_full fun p hp => g1 p ?_⟩
      exact (Ino.mem_idx (by unfold blocksOf; omega) (by unfold blocksOf; omega)).2 (.inl ⟨by omega, by unfold blocksOf; omega⟩)
    · exfalso
      have hfr := h.frees
      rw [show Ino.cnt (fun _ => 0) = 0 by decide, hn] at hfr
      rw [hn] at hlt
      rw [hfr] at hlt
      have h1 : Ino.costB (blocksOf (0 + bs.length)) ≤ Ino.costB 128 := Ino.costB_mono (by unfold blocksOf; omega)
      have h2 : Ino.costB 128 = 131 := by decide
      omega

end Go.Proofs.YtebdgcoandfocaaGreatDoor

/-
  InodeEdges: its last line (printed by mkedges13.py).
-/
namespace Go.Proofs.YtebdgcoandfocaaGreatDoor
open Go.RowKit Go.Maps Go.Sort Go.Shelf

def edgesL (g s size hf q v d r cp6 cp8 : Nat) (p6 p8 : Option Addr) (S1 S2 : ByteArray) : List (Option Tmp × Value) := [(some 114, .bool true), (some 115, .bool true), (some 116, .int .i64 0), (some 117, .bool true), (some 118, .bool true), (some 119, .bool true), (some 120, .int .i64 0), (some 121, .bool true), (some 122, .bool true), (some 123, .bool true), (some 124, .slice p6 size cp6), (some 125, .string S1), (some 126, .slice (some ⟨g, 0, none⟩) size size), (some 127, .string S1), (some 128, .bool true), (some 129, .bool true), (some 130, .bool true), (some 131, .int .i64 (q : Nat)), (some 132, .int .i64 (size : Nat)), (some 133, .int .i64 (q : Nat)), (some 134, .bool true), (some 135, .bool true), (some 136, .bool true), (some 137, .int .i64 0), (some 138, .bool true), (some 139, .bool true), (some 140, .bool true), (some 141, .int .i64 0), (some 142, .bool true), (some 143, .bool true), (some 144, .bool true), (some 145, .slice p8 hf cp8), (some 146, .string S2), (some 147, .slice (some ⟨g, 0, none⟩) size size), (some 148, .int .i64 (size : Nat)), (some 149, .int .i64 (hf : Nat)), (some 150, .slice (some ⟨g, 0, none⟩) hf size), (some 151, .string S2), (some 152, .bool true), (some 153, .bool true), (some 154, .bool true), (some 155, .int .i64 199), (some 156, .pointer (some ⟨s + 1, 0, none⟩)), (some 157, .int .i64 (v : Nat)), (some 158, .int .i64 (d : Nat)), (some 159, .int .i64 (size : Nat)), (some 160, .int .i64 (hf : Nat)), (some 161, .int .i64 (r : Nat)), (some 162, .bool true), (some 163, .bool true), (some 6, .bool true)]

set_option maxRecDepth 8000 in
set_option maxHeartbeats 4000000 in
theorem edges_reg {Q : Exit → Act → World → Prop} {base : Array Value} {dd : List Deferred} {ops : Array Oper} (hops : Tryz.f5.body.bind (regI 18) = some ops) (g s size hf q v d r cp6 cp8 : Nat) (p6 p8 : Option Addr) (S1 S2 : ByteArray) (w9 : World) (hsz : base.size = 164)
    (b7 : base.getD 7 undef = .bool true)
    (b15 : base.getD 15 undef = .int .i64 0)
    (b17 : base.getD 17 undef = .int .i64 0)
    (b16 : base.getD 16 undef = .slice p6 size cp6)
    (b12 : base.getD 12 undef = .slice (some ⟨g, 0, none⟩) size size)
    (b18 : base.getD 18 undef = .int .i64 (q : Nat))
    (b11 : base.getD 11 undef = .int .i64 (size : Nat))
    (b19 : base.getD 19 undef = .int .i64 0)
    (b21 : base.getD 21 undef = .int .i64 0)
    (b20 : base.getD 20 undef = .slice p8 hf cp8)
    (b14 : base.getD 14 undef = .int .i64 199)
    (b9 : base.getD 9 undef = .pointer (some ⟨s + 1, 0, none⟩))
    (s1 : ∀ W, Below w9.heap.size w9 W → (convert 30 9 (.slice p6 size cp6)).run Tryz.prog W = .ok (.string S1) W)
    (s2 : ∀ W, Below w9.heap.size w9 W → (convert 30 9 (.slice (some ⟨g, 0, none⟩) size size)).run Tryz.prog W = .ok (.string S1) W)
    (s3 : ∀ W, Below w9.heap.size w9 W → (convert 30 9 (.slice p8 hf cp8)).run Tryz.prog W = .ok (.string S2) W)
    (s4 : ∀ W, Below w9.heap.size w9 W → (convert 30 9 (.slice (some ⟨g, 0, none⟩) hf size)).run Tryz.prog W = .ok (.string S2) W)
    (c1 : ∀ W, Below w9.heap.size w9 W → Calls Tryz.prog 17 #[.int .i64 (size : Nat)] W fun e w' => e = .returned (.int .i64 (q : Nat)) ∧ w' = W)
    (c2 : ∀ W, Below w9.heap.size w9 W → Calls Tryz.prog 17 #[.int .i64 (hf : Nat)] W fun e w' => e = .returned (.int .i64 (r : Nat)) ∧ w' = W)
    (c3 : ∀ W, Below w9.heap.size w9 W → Calls Tryz.prog 9 #[.pointer (some ⟨s + 1, 0, none⟩)] W fun e w' => e = .returned (.int .i64 (v : Nat)) ∧ w' = W)
    (hdv : Int.tdiv (size : Int) 2 = (hf : Nat)) (hwf : IntKind.i64.wrap (hf : Int) = (hf : Int)) (hsub : (199 : Int) - (v : Int) = (d : Nat)) (hwd : IntKind.i64.wrap (d : Int) = (d : Int)) (hle : d ≤ r) (hfs : hf ≤ size)
    (hQ : ∀ W, Below w9.heap.size w9 W → Q .normal ⟨putAll base (edgesL g s size hf q v d r cp6 cp8 p6 p8 S1 S2), dd⟩ W) :
    (Code.region 18 ops true).wp Tryz.prog Q ⟨base, dd⟩ w9 := by
  have hmix : Tryz.prog.follows .mixedOrders = true := by kernel_rfl
  have h2 := (show Tryz.f5.body.bind (regI 18) = some _ from rfl).symm.trans hops
  obtain rfl := Option.some.inj h2
  clear h2 hops
  have below9 : Below w9.heap.size w9 w9.drew := (Below.refl _ _).drew
  obtain ⟨LL, hLe⟩ : ∃ LL : List (Option Tmp × Value), LL = [(some 114, .bool true), (some 115, .bool true), (some 116, .int .i64 0), (some 117, .bool true), (some 118, .bool true), (some 119, .bool true), (some 120, .int .i64 0), (some 121, .bool true), (some 122, .bool true), (some 123, .bool true), (some 124, .slice p6 size cp6), (some 125, .string S1), (some 126, .slice (some ⟨g, 0, none⟩) size size), (some 127, .string S1), (some 128, .bool true), (some 129, .bool true), (some 130, .bool true), (some 131, .int .i64 (q : Nat)), (some 132, .int .i64 (size : Nat)), (some 133, .int .i64 (q : Nat)), (some 134, .bool true), (some 135, .bool true), (some 136, .bool true), (some 137, .int .i64 0), (some 138, .bool true), (some 139, .bool true), (some 140, .bool true), (some 141, .int .i64 0), (some 142, .bool true), (some 143, .bool true), (some 144, .bool true), (some 145, .slice p8 hf cp8), (some 146, .string S2), (some 147, .slice (some ⟨g, 0, none⟩) size size), (some 148, .int .i64 (size : Nat)), (some 149, .int .i64 (hf : Nat)), (some 150, .slice (some ⟨g, 0, none⟩) hf size), (some 151, .string S2), (some 152, .bool true), (some 153, .bool true), (some 154, .bool true), (some 155, .int .i64 199), (some 156, .pointer (some ⟨s + 1, 0, none⟩)), (some 157, .int .i64 (v : Nat)), (some 158, .int .i64 (d : Nat)), (some 159, .int .i64 (size : Nat)), (some 160, .int .i64 (hf : Nat)), (some 161, .int .i64 (r : Nat)), (some 162, .bool true), (some 163, .bool true), (some 6, .bool true)] := ⟨_, rfl⟩
  have vv0 : vals LL 0 = .bool true := by rw [hLe]; rfl
  have vv1 : vals LL 1 = .bool true := by rw [hLe]; rfl
  have vv2 : vals LL 2 = .int .i64 0 := by rw [hLe]; rfl
  have vv3 : vals LL 3 = .bool true := by rw [hLe]; rfl
  have vv4 : vals LL 4 = .bool true := by rw [hLe]; rfl
  have vv5 : vals LL 5 = .bool true := by rw [hLe]; rfl
  have vv6 : vals LL 6 = .int .i64 0 := by rw [hLe]; rfl
  have vv7 : vals LL 7 = .bool true := by rw [hLe]; rfl
  have vv8 : vals LL 8 = .bool true := by rw [hLe]; rfl
  have vv9 : vals LL 9 = .bool true := by rw [hLe]; rfl
  have vv10 : vals LL 10 = .slice p6 size cp6 := by rw [hLe]; rfl
  have vv11 : vals LL 11 = .string S1 := by rw [hLe]; rfl
  have vv12 : vals LL 12 = .slice (some ⟨g, 0, none⟩) size size := by rw [hLe]; rfl
  have vv13 : vals LL 13 = .string S1 := by rw [hLe]; rfl
  have vv14 : vals LL 14 = .bool true := by rw [hLe]; rfl
  have vv15 : vals LL 15 = .bool true := by rw [hLe]; rfl
  have vv16 : vals LL 16 = .bool true := by rw [hLe]; rfl
  have vv17 : vals LL 17 = .int .i64 (q : Nat) := by rw [hLe]; rfl
  have vv18 : vals LL 18 = .int .i64 (size : Nat) := by rw [hLe]; rfl
  have vv19 : vals LL 19 = .int .i64 (q : Nat) := by rw [hLe]; rfl
  have vv20 : vals LL 20 = .bool true := by rw [hLe]; rfl
  have vv21 : vals LL 21 = .bool true := by rw [hLe]; rfl
  have vv22 : vals LL 22 = .bool true := by rw [hLe]; rfl
  have vv23 : vals LL 23 = .int .i64 0 := by rw [hLe]; rfl
  have vv24 : vals LL 24 = .bool true := by rw [hLe]; rfl
  have vv25 : vals LL 25 = .bool true := by rw [hLe]; rfl
  have vv26 : vals LL 26 = .bool true := by rw [hLe]; rfl
  have vv27 : vals LL 27 = .int .i64 0 := by rw [hLe]; rfl
  have vv28 : vals LL 28 = .bool true := by rw [hLe]; rfl
  have vv29 : vals LL 29 = .bool true := by rw [hLe]; rfl
  have vv30 : vals LL 30 = .bool true := by rw [hLe]; rfl
  have vv31 : vals LL 31 = .slice p8 hf cp8 := by rw [hLe]; rfl
  have vv32 : vals LL 32 = .string S2 := by rw [hLe]; rfl
  have vv33 : vals LL 33 = .slice (some ⟨g, 0, none⟩) size size := by rw [hLe]; rfl
  have vv34 : vals LL 34 = .int .i64 (size : Nat) := by rw [hLe]; rfl
  have vv35 : vals LL 35 = .int .i64 (hf : Nat) := by rw [hLe]; rfl
  have vv36 : vals LL 36 = .slice (some ⟨g, 0, none⟩) hf size := by rw [hLe]; rfl
  have vv37 : vals LL 37 = .string S2 := by rw [hLe]; rfl
  have vv38 : vals LL 38 = .bool true := by rw [hLe]; rfl
  have vv39 : vals LL 39 = .bool true := by rw [hLe]; rfl
  have vv40 : vals LL 40 = .bool true := by rw [hLe]; rfl
  have vv41 : vals LL 41 = .int .i64 199 := by rw [hLe]; rfl
  have vv42 : vals LL 42 = .pointer (some ⟨s + 1, 0, none⟩) := by rw [hLe]; rfl
  have vv43 : vals LL 43 = .int .i64 (v : Nat) := by rw [hLe]; rfl
  have vv44 : vals LL 44 = .int .i64 (d : Nat) := by rw [hLe]; rfl
  have vv45 : vals LL 45 = .int .i64 (size : Nat) := by rw [hLe]; rfl
  have vv46 : vals LL 46 = .int .i64 (hf : Nat) := by rw [hLe]; rfl
  have vv47 : vals LL 47 = .int .i64 (r : Nat) := by rw [hLe]; rfl
  have vv48 : vals LL 48 = .bool true := by rw [hLe]; rfl
  have vv49 : vals LL 49 = .bool true := by rw [hLe]; rfl
  have vv50 : vals LL 50 = .bool true := by rw [hLe]; rfl
  refine region_laid hmix (by kernel_rfl) 164 hsz (by kernel_rfl) LL (by rw [hLe]; rfl) (fun _ W => Below w9.heap.size w9 W) below9 ?_ ?_
  · intro b W i o a hS hcl ho hb hd ev kp yl
    match i with
    | 0 =>
      simp only [List.getElem?_toArray, List.getElem?_cons_zero, Option.some.injEq] at ho
      subst ho
      have e7 : a.tmps[7]?.getD undef = .bool true := (kp 7 (by kernel_rfl)).trans b7
      rw [vv0]
      refine does_value rfl (by intro c h; cases h) (w' := W) ?_ (hS)
      · simp [execOp, go_sem, e7]
    | 1 =>
      simp only [List.getElem?_toArray, List.getElem?_cons_zero, List.getElem?_cons_succ, Option.some.injEq] at ho
      subst ho
      have p0 : b 0 = true := hd ⟨0, .data⟩ (by simp) rfl
      have e114 := (ev 0 114 rfl p0).trans vv0
      rw [vv1]
      refine does_value rfl (by intro c h; cases h) (w' := W) ?_ (hS)
      · simp [execOp, go_sem, e114]
    | 2 =>
      simp only [List.getElem?_toArray, List.getElem?_cons_zero, List.getElem?_cons_succ, Option.some.injEq] at ho
      subst ho
      have p1 : b 1 = true := hd ⟨1, .guard⟩ (by simp) rfl
      have e15 : a.tmps[15]?.getD undef = .int .i64 0 := (kp 15 (by kernel_rfl)).trans b15
      rw [vv2]
      refine does_value_g rfl (yl 1 115 true rfl p1 vv1) (by intro c h; cases h) (w' := W) ?_ (hS)
      · simp [execOp, go_sem, e15]
    | 3 =>
      simp only [List.getElem?_toArray, List.getElem?_cons_zero, List.getElem?_cons_succ, Option.some.injEq] at ho
      subst ho
      have p2 : b 2 = true := hd ⟨2, .data⟩ (by simp) rfl
      have p1 : b 1 = true := hd ⟨1, .guard⟩ (by simp) rfl
      have e116 := (ev 2 116 rfl p2).trans vv2
      rw [vv3]
      refine does_value_g rfl (yl 1 115 true rfl p1 vv1) (by intro c h; cases h) (w' := W) ?_ (hS)
      · simp [execOp, go_sem, e116]
    | 4 =>
      simp only [List.getElem?_toArray, List.getElem?_cons_zero, List.getElem?_cons_succ, Option.some.injEq] at ho
      subst ho
      have p1 : b 1 = true := hd ⟨1, .data⟩ (by simp) rfl
      have p3 : b 3 = true := hd ⟨3, .data⟩ (by simp) rfl
      have e115 := (ev 1 115 rfl p1).trans vv1
      have e117 := (ev 3 117 rfl p3).trans vv3
      rw [vv4]
      refine does_value rfl (by intro c h; cases h) (w' := W) ?_ (hS)
      · simp [execOp, go_sem, e115, e117]
    | 5 =>
      simp only [List.getElem?_toArray, List.getElem?_cons_zero, List.getElem?_cons_succ, Option.some.injEq] at ho
      subst ho
      have p4 : b 4 = true := hd ⟨4, .data⟩ (by simp) rfl
      have e118 := (ev 4 118 rfl p4).trans vv4
      rw [vv5]
      refine does_value rfl (by intro c h; cases h) (w' := W) ?_ (hS)
      · simp [execOp, go_sem, e118]
    | 6 =>
      simp only [List.getElem?_toArray, List.getElem?_cons_zero, List.getElem?_cons_succ, Option.some.injEq] at ho
      subst ho
      have p5 : b 5 = true := hd ⟨5, .guard⟩ (by simp) rfl
      have e17 : a.tmps[17]?.getD undef = .int .i64 0 := (kp 17 (by kernel_rfl)).trans b17
      rw [vv6]
      refine does_value_g rfl (yl 5 119 true rfl p5 vv5) (by intro c h; cases h) (w' := W) ?_ (hS)
      · simp [execOp, go_sem, e17]
    | 7 =>
      simp only [List.getElem?_toArray, List.getElem?_cons_zero, List.getElem?_cons_succ, Option.some.injEq] at ho
      subst ho
      have p6 : b 6 = true := hd ⟨6, .data⟩ (by simp) rfl
      have p5 : b 5 = true := hd ⟨5, .guard⟩ (by simp) rfl
      have e120 := (ev 6 120 rfl p6).trans vv6
      rw [vv7]
      refine does_value_g rfl (yl 5 119 true rfl p5 vv5) (by intro c h; cases h) (w' := W) ?_ (hS)
      · simp [execOp, go_sem, e120]
    | 8 =>
      simp only [List.getElem?_toArray, List.getElem?_cons_zero, List.getElem?_cons_succ, Option.some.injEq] at ho
      subst ho
      have p5 : b 5 = true := hd ⟨5, .data⟩ (by simp) rfl
      have p7 : b 7 = true := hd ⟨7, .data⟩ (by simp) rfl
      have e119 := (ev 5 119 rfl p5).trans vv5
      have e121 := (ev 7 121 rfl p7).trans vv7
      rw [vv8]
      refine does_value rfl (by intro c h; cases h) (w' := W) ?_ (hS)
      · simp [execOp, go_sem, e119, e121]
    | 9 =>
      simp only [List.getElem?_toArray, List.getElem?_cons_zero, List.getElem?_cons_succ, Option.some.injEq] at ho
      subst ho
      have p8 : b 8 = true := hd ⟨8, .data⟩ (by simp) rfl
      have e122 := (ev 8 122 rfl p8).trans vv8
      rw [vv9]
      refine does_value rfl (by intro c h; cases h) (w' := W) ?_ (hS)
      · simp [execOp, go_sem, e122]
    | 10 =>
      simp only [List.getElem?_toArray, List.getElem?_cons_zero, List.getElem?_cons_succ, Option.some.injEq] at ho
      subst ho
      have p9 : b 9 = true := hd ⟨9, .guard⟩ (by simp) rfl
      have e16 : a.tmps[16]?.getD undef = .slice p6 size cp6 := (kp 16 (by kernel_rfl)).trans b16
      rw [vv10]
      refine does_value_g rfl (yl 9 123 true rfl p9 vv9) (by intro c h; cases h) (w' := W) ?_ (hS)
      · simp [execOp, go_sem, e16]
    | 11 =>
      simp only [List.getElem?_toArray, List.getElem?_cons_zero, List.getElem?_cons_succ, Option.some.injEq] at ho
      subst ho
      have p10 : b 10 = true := hd ⟨10, .data⟩ (by simp) rfl
      have p9 : b 9 = true := hd ⟨9, .guard⟩ (by simp) rfl
      have e124 := (ev 10 124 rfl p10).trans vv10
      have hcv := s1 W hS
      rw [vv11]
      refine does_value_g rfl (yl 9 123 true rfl p9 vv9) (by intro c h; cases h) (w' := W) ?_ (hS)
      · simp [execOp, go_sem, e124, hcv]
    | 12 =>
      simp only [List.getElem?_toArray, List.getElem?_cons_zero, List.getElem?_cons_succ, Option.some.injEq] at ho
      subst ho
      have p9 : b 9 = true := hd ⟨9, .guard⟩ (by simp) rfl
      have e12 : a.tmps[12]?.getD undef = .slice (some ⟨g, 0, none⟩) size size := (kp 12 (by kernel_rfl)).trans b12
      rw [vv12]
      refine does_value_g rfl (yl 9 123 true rfl p9 vv9) (by intro c h; cases h) (w' := W) ?_ (hS)
      · simp [execOp, go_sem, e12]
    | 13 =>
      simp only [List.getElem?_toArray, List.getElem?_cons_zero, List.getElem?_cons_succ, Option.some.injEq] at ho
      subst ho
      have p12 : b 12 = true := hd ⟨12, .data⟩ (by simp) rfl
      have p9 : b 9 = true := hd ⟨9, .guard⟩ (by simp) rfl
      have e126 := (ev 12 126 rfl p12).trans vv12
      have hcv := s2 W hS
      rw [vv13]
      refine does_value_g rfl (yl 9 123 true rfl p9 vv9) (by intro c h; cases h) (w' := W) ?_ (hS)
      · simp [execOp, go_sem, e126, hcv]
    | 14 =>
      simp only [List.getElem?_toArray, List.getElem?_cons_zero, List.getElem?_cons_succ, Option.some.injEq] at ho
      subst ho
      have p11 : b 11 = true := hd ⟨11, .data⟩ (by simp) rfl
      have p13 : b 13 = true := hd ⟨13, .data⟩ (by simp) rfl
      have p9 : b 9 = true := hd ⟨9, .guard⟩ (by simp) rfl
      have e125 := (ev 11 125 rfl p11).trans vv11
      have e127 := (ev 13 127 rfl p13).trans vv13
      rw [vv14]
      refine does_value_g rfl (yl 9 123 true rfl p9 vv9) (by intro c h; cases h) (w' := W) ?_ (hS)
      · simp [execOp, go_sem, e125, e127]
    | 15 =>
      simp only [List.getElem?_toArray, List.getElem?_cons_zero, List.getElem?_cons_succ, Option.some.injEq] at ho
      subst ho
      have p9 : b 9 = true := hd ⟨9, .data⟩ (by simp) rfl
      have p14 : b 14 = true := hd ⟨14, .data⟩ (by simp) rfl
      have e123 := (ev 9 123 rfl p9).trans vv9
      have e128 := (ev 14 128 rfl p14).trans vv14
      rw [vv15]
      refine does_value rfl (by intro c h; cases h) (w' := W) ?_ (hS)
      · simp [execOp, go_sem, e123, e128]
    | 16 =>
      simp only [List.getElem?_toArray, List.getElem?_cons_zero, List.getElem?_cons_succ, Option.some.injEq] at ho
      subst ho
      have p15 : b 15 = true := hd ⟨15, .data⟩ (by simp) rfl
      have e129 := (ev 15 129 rfl p15).trans vv15
      rw [vv16]
      refine does_value rfl (by intro c h; cases h) (w' := W) ?_ (hS)
      · simp [execOp, go_sem, e129]
    | 17 =>
      simp only [List.getElem?_toArray, List.getElem?_cons_zero, List.getElem?_cons_succ, Option.some.injEq] at ho
      subst ho
      have p16 : b 16 = true := hd ⟨16, .guard⟩ (by simp) rfl
      have e18 : a.tmps[18]?.getD undef = .int .i64 (q : Nat) := (kp 18 (by kernel_rfl)).trans b18
      rw [vv17]
      refine does_value_g rfl (yl 16 130 true rfl p16 vv16) (by intro c h; cases h) (w' := W) ?_ (hS)
      · simp [execOp, go_sem, e18]
    | 18 =>
      simp only [List.getElem?_toArray, List.getElem?_cons_zero, List.getElem?_cons_succ, Option.some.injEq] at ho
      subst ho
      have p16 : b 16 = true := hd ⟨16, .guard⟩ (by simp) rfl
      have e11 : a.tmps[11]?.getD undef = .int .i64 (size : Nat) := (kp 11 (by kernel_rfl)).trans b11
      rw [vv18]
      refine does_value_g rfl (yl 16 130 true rfl p16 vv16) (by intro c h; cases h) (w' := W) ?_ (hS)
      · simp [execOp, go_sem, e11]
    | 19 =>
      simp only [List.getElem?_toArray, List.getElem?_cons_zero, List.getElem?_cons_succ, Option.some.injEq] at ho
      subst ho
      have p18 : b 18 = true := hd ⟨18, .data⟩ (by simp) rfl
      have p16 : b 16 = true := hd ⟨16, .guard⟩ (by simp) rfl
      have e132 := (ev 18 132 rfl p18).trans vv18
      rw [vv19]
      refine does_call_g rfl (yl 16 130 true rfl p16 vv16) (by intro c h; cases h) (f := 17) (args := #[.int .i64 (size : Nat)]) ?_ ?_
      · simp [go_sem, e132]
      · exact (c1 W hS).mono (fun e w' h => ⟨h.1, by rw [h.2]; exact hS⟩)
    | 20 =>
      simp only [List.getElem?_toArray, List.getElem?_cons_zero, List.getElem?_cons_succ, Option.some.injEq] at ho
      subst ho
      have p17 : b 17 = true := hd ⟨17, .data⟩ (by simp) rfl
      have p19 : b 19 = true := hd ⟨19, .data⟩ (by simp) rfl
      have p16 : b 16 = true := hd ⟨16, .guard⟩ (by simp) rfl
      have e131 := (ev 17 131 rfl p17).trans vv17
      have e133 := (ev 19 133 rfl p19).trans vv19
      rw [vv20]
      refine does_value_g rfl (yl 16 130 true rfl p16 vv16) (by intro c h; cases h) (w' := W) ?_ (hS)
      · simp [execOp, go_sem, e131, e133]
    | 21 =>
      simp only [List.getElem?_toArray, List.getElem?_cons_zero, List.getElem?_cons_succ, Option.some.injEq] at ho
      subst ho
      have p16 : b 16 = true := hd ⟨16, .data⟩ (by simp) rfl
      have p20 : b 20 = true := hd ⟨20, .data⟩ (by simp) rfl
      have e130 := (ev 16 130 rfl p16).trans vv16
      have e134 := (ev 20 134 rfl p20).trans vv20
      rw [vv21]
      refine does_value rfl (by intro c h; cases h) (w' := W) ?_ (hS)
      · simp [execOp, go_sem, e130, e134]
    | 22 =>
      simp only [List.getElem?_toArray, List.getElem?_cons_zero, List.getElem?_cons_succ, Option.some.injEq] at ho
      subst ho
      have p21 : b 21 = true := hd ⟨21, .data⟩ (by simp) rfl
      have e135 := (ev 21 135 rfl p21).trans vv21
      rw [vv22]
      refine does_value rfl (by intro c h; cases h) (w' := W) ?_ (hS)
      · simp [execOp, go_sem, e135]
    | 23 =>
      simp only [List.getElem?_toArray, List.getElem?_cons_zero, List.getElem?_cons_succ, Option.some.injEq] at ho
      subst ho
      have p22 : b 22 = true := hd ⟨22, .guard⟩ (by simp) rfl
      have e19 : a.tmps[19]?.getD undef = .int .i64 0 := (kp 19 (by kernel_rfl)).trans b19
      rw [vv23]
      refine does_value_g rfl (yl 22 136 true rfl p22 vv22) (by intro c h; cases h) (w' := W) ?_ (hS)
      · simp [execOp, go_sem, e19]
    | 24 =>
      simp only [List.getElem?_toArray, List.getElem?_cons_zero, List.getElem?_cons_succ, Option.some.injEq] at ho
      subst ho
      have p23 : b 23 = true := hd ⟨23, .data⟩ (by simp) rfl
      have p22 : b 22 = true := hd ⟨22, .guard⟩ (by simp) rfl
      have e137 := (ev 23 137 rfl p23).trans vv23
      rw [vv24]
      refine does_value_g rfl (yl 22 136 true rfl p22 vv22) (by intro c h; cases h) (w' := W) ?_ (hS)
      · simp [execOp, go_sem, e137]
    | 25 =>
      simp only [List.getElem?_toArray, List.getElem?_cons_zero, List.getElem?_cons_succ, Option.some.injEq] at ho
      subst ho
      have p22 : b 22 = true := hd ⟨22, .data⟩ (by simp) rfl
      have p24 : b 24 = true := hd ⟨24, .data⟩ (by simp) rfl
      have e136 := (ev 22 136 rfl p22).trans vv22
      have e138 := (ev 24 138 rfl p24).trans vv24
      rw [vv25]
      refine does_value rfl (by intro c h; cases h) (w' := W) ?_ (hS)
      · simp [execOp, go_sem, e136, e138]
    | 26 =>
      simp only [List.getElem?_toArray, List.getElem?_cons_zero, List.getElem?_cons_succ, Option.some.injEq] at ho
      subst ho
      have p25 : b 25 = true := hd ⟨25, .data⟩ (by simp) rfl
      have e139 := (ev 25 139 rfl p25).trans vv25
      rw [vv26]
      refine does_value rfl (by intro c h; cases h) (w' := W) ?_ (hS)
      · simp [execOp, go_sem, e139]
    | 27 =>
      simp only [List.getElem?_toArray, List.getElem?_cons_zero, List.getElem?_cons_succ, Option.some.injEq] at ho
      subst ho
      have p26 : b 26 = true := hd ⟨26, .guard⟩ (by simp) rfl
      have e21 : a.tmps[21]?.getD undef = .int .i64 0 := (kp 21 (by kernel_rfl)).trans b21
      rw [vv27]
      refine does_value_g rfl (yl 26 140 true rfl p26 vv26) (by intro c h; cases h) (w' := W) ?_ (hS)
      · simp [execOp, go_sem, e21]
    | 28 =>
      simp only [List.getElem?_toArray, List.getElem?_cons_zero, List.getElem?_cons_succ, Option.some.injEq] at ho
      subst ho
      have p27 : b 27 = true := hd ⟨27, .data⟩ (by simp) rfl
      have p26 : b 26 = true := hd ⟨26, .guard⟩ (by simp) rfl
      have e141 := (ev 27 141 rfl p27).trans vv27
      rw [vv28]
      refine does_value_g rfl (yl 26 140 true rfl p26 vv26) (by intro c h; cases h) (w' := W) ?_ (hS)
      · simp [execOp, go_sem, e141]
    | 29 =>
      simp only [List.getElem?_toArray, List.getElem?_cons_zero, List.getElem?_cons_succ, Option.some.injEq] at ho
      subst ho
      have p26 : b 26 = true := hd ⟨26, .data⟩ (by simp) rfl
      have p28 : b 28 = true := hd ⟨28, .data⟩ (by simp) rfl
      have e140 := (ev 26 140 rfl p26).trans vv26
      have e142 := (ev 28 142 rfl p28).trans vv28
      rw [vv29]
      refine does_value rfl (by intro c h; cases h) (w' := W) ?_ (hS)
      · simp [execOp, go_sem, e140, e142]
    | 30 =>
      simp only [List.getElem?_toArray, List.getElem?_cons_zero, List.getElem?_cons_succ, Option.some.injEq] at ho
      subst ho
      have p29 : b 29 = true := hd ⟨29, .data⟩ (by simp) rfl
      have e143 := (ev 29 143 rfl p29).trans vv29
      rw [vv30]
      refine does_value rfl (by intro c h; cases h) (w' := W) ?_ (hS)
      · simp [execOp, go_sem, e143]
    | 31 =>
      simp only [List.getElem?_toArray, List.getElem?_cons_zero, List.getElem?_cons_succ, Option.some.injEq] at ho
      subst ho
      have p30 : b 30 = true := hd ⟨30, .guard⟩ (by simp) rfl
      have e20 : a.tmps[20]?.getD undef = .slice p8 hf cp8 := (kp 20 (by kernel_rfl)).trans b20
      rw [vv31]
      refine does_value_g rfl (yl 30 144 true rfl p30 vv30) (by intro c h; cases h) (w' := W) ?_ (hS)
      · simp [execOp, go_sem, e20]
    | 32 =>
      simp only [List.getElem?_toArray, List.getElem?_cons_zero, List.getElem?_cons_succ, Option.some.injEq] at ho
      subst ho
      have p31 : b 31 = true := hd ⟨31, .data⟩ (by simp) rfl
      have p30 : b 30 = true := hd ⟨30, .guard⟩ (by simp) rfl
      have e145 := (ev 31 145 rfl p31).trans vv31
      have hcv := s3 W hS
      rw [vv32]
      refine does_value_g rfl (yl 30 144 true rfl p30 vv30) (by intro c h; cases h) (w' := W) ?_ (hS)
      · simp [execOp, go_sem, e145, hcv]
    | 33 =>
      simp only [List.getElem?_toArray, List.getElem?_cons_zero, List.getElem?_cons_succ, Option.some.injEq] at ho
      subst ho
      have p30 : b 30 = true := hd ⟨30, .guard⟩ (by simp) rfl
      have e12 : a.tmps[12]?.getD undef = .slice (some ⟨g, 0, none⟩) size size := (kp 12 (by kernel_rfl)).trans b12
      rw [vv33]
      refine does_value_g rfl (yl 30 144 true rfl p30 vv30) (by intro c h; cases h) (w' := W) ?_ (hS)
      · simp [execOp, go_sem, e12]
    | 34 =>
      simp only [List.getElem?_toArray, List.getElem?_cons_zero, List.getElem?_cons_succ, Option.some.injEq] at ho
      subst ho
      have p30 : b 30 = true := hd ⟨30, .guard⟩ (by simp) rfl
      have e11 : a.tmps[11]?.getD undef = .int .i64 (size : Nat) := (kp 11 (by kernel_rfl)).trans b11
      rw [vv34]
      refine does_value_g rfl (yl 30 144 true rfl p30 vv30) (by intro c h; cases h) (w' := W) ?_ (hS)
      · simp [execOp, go_sem, e11]
    | 35 =>
      simp only [List.getElem?_toArray, List.getElem?_cons_zero, List.getElem?_cons_succ, Option.some.injEq] at ho
      subst ho
      have p34 : b 34 = true := hd ⟨34, .data⟩ (by simp) rfl
      have p30 : b 30 = true := hd ⟨30, .guard⟩ (by simp) rfl
      have e148 := (ev 34 148 rfl p34).trans vv34
      rw [vv35]
      refine does_value_g rfl (yl 30 144 true rfl p30 vv30) (by intro c h; cases h) (w' := W) ?_ (hS)
      · simp [execOp, go_sem, e148, hdv, hwf]
    | 36 =>
      simp only [List.getElem?_toArray, List.getElem?_cons_zero, List.getElem?_cons_succ, Option.some.injEq] at ho
      subst ho
      have p33 : b 33 = true := hd ⟨33, .data⟩ (by simp) rfl
      have p35 : b 35 = true := hd ⟨35, .data⟩ (by simp) rfl
      have p30 : b 30 = true := hd ⟨30, .guard⟩ (by simp) rfl
      have e147 := (ev 33 147 rfl p33).trans vv33
      have e149 := (ev 35 149 rfl p35).trans vv35
      rw [vv36]
      refine does_value_g rfl (yl 30 144 true rfl p30 vv30) (by intro c h; cases h) (w' := W) ?_ (hS)
      · simp [execOp, go_sem, e147, e149, hfs]
    | 37 =>
      simp only [List.getElem?_toArray, List.getElem?_cons_zero, List.getElem?_cons_succ, Option.some.injEq] at ho
      subst ho
      have p36 : b 36 = true := hd ⟨36, .data⟩ (by simp) rfl
      have p30 : b 30 = true := hd ⟨30, .guard⟩ (by simp) rfl
      have e150 := (ev 36 150 rfl p36).trans vv36
      have hcv := s4 W hS
      rw [vv37]
      refine does_value_g rfl (yl 30 144 true rfl p30 vv30) (by intro c h; cases h) (w' := W) ?_ (hS)
      · simp [execOp, go_sem, e150, hcv]
    | 38 =>
      simp only [List.getElem?_toArray, List.getElem?_cons_zero, List.getElem?_cons_succ, Option.some.injEq] at ho
      subst ho
      have p32 : b 32 = true := hd ⟨32, .data⟩ (by simp) rfl
      have p37 : b 37 = true := hd ⟨37, .data⟩ (by simp) rfl
      have p30 : b 30 = true := hd ⟨30, .guard⟩ (by simp) rfl
      have e146 := (ev 32 146 rfl p32).trans vv32
      have e151 := (ev 37 151 rfl p37).trans vv37
      rw [vv38]
      refine does_value_g rfl (yl 30 144 true rfl p30 vv30) (by intro c h; cases h) (w' := W) ?_ (hS)
      · simp [execOp, go_sem, e146, e151]
    | 39 =>
      simp only [List.getElem?_toArray, List.getElem?_cons_zero, List.getElem?_cons_succ, Option.some.injEq] at ho
      subst ho
      have p30 : b 30 = true := hd ⟨30, .data⟩ (by simp) rfl
      have p38 : b 38 = true := hd ⟨38, .data⟩ (by simp) rfl
      have e144 := (ev 30 144 rfl p30).trans vv30
      have e152 := (ev 38 152 rfl p38).trans vv38
      rw [vv39]
      refine does_value rfl (by intro c h; cases h) (w' := W) ?_ (hS)
      · simp [execOp, go_sem, e144, e152]
    | 40 =>
      simp only [List.getElem?_toArray, List.getElem?_cons_zero, List.getElem?_cons_succ, Option.some.injEq] at ho
      subst ho
      have p39 : b 39 = true := hd ⟨39, .data⟩ (by simp) rfl
      have e153 := (ev 39 153 rfl p39).trans vv39
      rw [vv40]
      refine does_value rfl (by intro c h; cases h) (w' := W) ?_ (hS)
      · simp [execOp, go_sem, e153]
    | 41 =>
      simp only [List.getElem?_toArray, List.getElem?_cons_zero, List.getElem?_cons_succ, Option.some.injEq] at ho
      subst ho
      have p40 : b 40 = true := hd ⟨40, .guard⟩ (by simp) rfl
      have e14 : a.tmps[14]?.getD undef = .int .i64 199 := (kp 14 (by kernel_rfl)).trans b14
      rw [vv41]
      refine does_value_g rfl (yl 40 154 true rfl p40 vv40) (by intro c h; cases h) (w' := W) ?_ (hS)
      · simp [execOp, go_sem, e14]
    | 42 =>
      simp only [List.getElem?_toArray, List.getElem?_cons_zero, List.getElem?_cons_succ, Option.some.injEq] at ho
      subst ho
      have p40 : b 40 = true := hd ⟨40, .guard⟩ (by simp) rfl
      have e9 : a.tmps[9]?.getD undef = .pointer (some ⟨s + 1, 0, none⟩) := (kp 9 (by kernel_rfl)).trans b9
      rw [vv42]
      refine does_value_g rfl (yl 40 154 true rfl p40 vv40) (by intro c h; cases h) (w' := W) ?_ (hS)
      · simp [execOp, go_sem, e9]
    | 43 =>
      simp only [List.getElem?_toArray, List.getElem?_cons_zero, List.getElem?_cons_succ, Option.some.injEq] at ho
      subst ho
      have p42 : b 42 = true := hd ⟨42, .data⟩ (by simp) rfl
      have p40 : b 40 = true := hd ⟨40, .guard⟩ (by simp) rfl
      have e156 := (ev 42 156 rfl p42).trans vv42
      rw [vv43]
      refine does_call_g rfl (yl 40 154 true rfl p40 vv40) (by intro c h; cases h) (f := 9) (args := #[.pointer (some ⟨s + 1, 0, none⟩)]) ?_ ?_
      · simp [go_sem, e156]
      · exact (c3 W hS).mono (fun e w' h => ⟨h.1, by rw [h.2]; exact hS⟩)
    | 44 =>
      simp only [List.getElem?_toArray, List.getElem?_cons_zero, List.getElem?_cons_succ, Option.some.injEq] at ho
      subst ho
      have p41 : b 41 = true := hd ⟨41, .data⟩ (by simp) rfl
      have p43 : b 43 = true := hd ⟨43, .data⟩ (by simp) rfl
      have p40 : b 40 = true := hd ⟨40, .guard⟩ (by simp) rfl
      have e155 := (ev 41 155 rfl p41).trans vv41
      have e157 := (ev 43 157 rfl p43).trans vv43
      rw [vv44]
      refine does_value_g rfl (yl 40 154 true rfl p40 vv40) (by intro c h; cases h) (w' := W) ?_ (hS)
      · simp [execOp, go_sem, e155, e157, hsub, hwd]
    | 45 =>
      simp only [List.getElem?_toArray, List.getElem?_cons_zero, List.getElem?_cons_succ, Option.some.injEq] at ho
      subst ho
      have p40 : b 40 = true := hd ⟨40, .guard⟩ (by simp) rfl
      have e11 : a.tmps[11]?.getD undef = .int .i64 (size : Nat) := (kp 11 (by kernel_rfl)).trans b11
      rw [vv45]
      refine does_value_g rfl (yl 40 154 true rfl p40 vv40) (by intro c h; cases h) (w' := W) ?_ (hS)
      · simp [execOp, go_sem, e11]
    | 46 =>
      simp only [List.getElem?_toArray, List.getElem?_cons_zero, List.getElem?_cons_succ, Option.some.injEq] at ho
      subst ho
      have p45 : b 45 = true := hd ⟨45, .data⟩ (by simp) rfl
      have p40 : b 40 = true := hd ⟨40, .guard⟩ (by simp) rfl
      have e159 := (ev 45 159 rfl p45).trans vv45
      rw [vv46]
      refine does_value_g rfl (yl 40 154 true rfl p40 vv40) (by intro c h; cases h) (w' := W) ?_ (hS)
      · simp [execOp, go_sem, e159, hdv, hwf]
    | 47 =>
      simp only [List.getElem?_toArray, List.getElem?_cons_zero, List.getElem?_cons_succ, Option.some.injEq] at ho
      subst ho
      have p46 : b 46 = true := hd ⟨46, .data⟩ (by simp) rfl
      have p40 : b 40 = true := hd ⟨40, .guard⟩ (by simp) rfl
      have e160 := (ev 46 160 rfl p46).trans vv46
      rw [vv47]
      refine does_call_g rfl (yl 40 154 true rfl p40 vv40) (by intro c h; cases h) (f := 17) (args := #[.int .i64 (hf : Nat)]) ?_ ?_
      · simp [go_sem, e160]
      · exact (c2 W hS).mono (fun e w' h => ⟨h.1, by rw [h.2]; exact hS⟩)
    | 48 =>
      simp only [List.getElem?_toArray, List.getElem?_cons_zero, List.getElem?_cons_succ, Option.some.injEq] at ho
      subst ho
      have p44 : b 44 = true := hd ⟨44, .data⟩ (by simp) rfl
      have p47 : b 47 = true := hd ⟨47, .data⟩ (by simp) rfl
      have p40 : b 40 = true := hd ⟨40, .guard⟩ (by simp) rfl
      have e158 := (ev 44 158 rfl p44).trans vv44
      have e161 := (ev 47 161 rfl p47).trans vv47
      rw [vv48]
      refine does_value_g rfl (yl 40 154 true rfl p40 vv40) (by intro c h; cases h) (w' := W) ?_ (hS)
      · simp [execOp, go_sem, e158, e161, hle]
    | 49 =>
      simp only [List.getElem?_toArray, List.getElem?_cons_zero, List.getElem?_cons_succ, Option.some.injEq] at ho
      subst ho
      have p40 : b 40 = true := hd ⟨40, .data⟩ (by simp) rfl
      have p48 : b 48 = true := hd ⟨48, .data⟩ (by simp) rfl
      have e154 := (ev 40 154 rfl p40).trans vv40
      have e162 := (ev 48 162 rfl p48).trans vv48
      rw [vv49]
      refine does_value rfl (by intro c h; cases h) (w' := W) ?_ (hS)
      · simp [execOp, go_sem, e154, e162]
    | 50 =>
      simp only [List.getElem?_toArray, List.getElem?_cons_zero, List.getElem?_cons_succ, Option.some.injEq] at ho
      subst ho
      have p49 : b 49 = true := hd ⟨49, .data⟩ (by simp) rfl
      have e163 := (ev 49 163 rfl p49).trans vv49
      rw [vv50]
      refine does_value rfl (by intro c h; cases h) (w' := W) ?_ (hS)
      · simp [execOp, go_sem, e163]
    | k + 51 => simp at ho
  · intro b' W hS _
    subst hLe
    exact hQ W hS

end Go.Proofs.YtebdgcoandfocaaGreatDoor

/-
  InodeEdges: the law.
-/
namespace Go.Proofs.YtebdgcoandfocaaGreatDoor
open Go.RowKit Go.Maps Go.Sort Go.Shelf

theorem range_getD (bs : By) (n : Nat) (hn : n ≤ bs.length) : (List.range n).map (fun i => bs.getD (0 + i) 0) = bs.take n := by
  apply List.ext_getElem?
  intro i
  rw [List.getElem?_map, List.getElem?_take]
  by_cases hi : i < n
  · rw [List.getElem?_range hi, if_pos hi]
    simp only [Option.map_some, Nat.zero_add]
    rw [List.getD_eq_getElem?_getD, List.getElem?_eq_getElem (by omega)]; rfl
  · rw [List.getElem?_eq_none (by simp; omega), if_neg hi]; rfl
theorem range_cut (bs : By) (n : Nat) (hn : n ≤ bs.length) : (List.range n).map (fun i => cutW (fun i => bs.getD i 0) n (0 + i)) = bs.take n := by
  rw [← range_getD bs n hn]
  refine List.map_congr_left fun i hi => ?_
  have := List.mem_range.1 hi
  unfold cutW
  rw [if_pos (by omega)]

set_option maxRecDepth 8000 in
set_option maxHeartbeats 16000000 in
theorem edges_ok (bl size : Nat) (by_ : Int) (x : BitVec 8) (w : World) (ht : Tab w) (ht6 : Bm.Tab64 w) (hbl : bl ≤ 128) (hb1 : -2 ≤ by_) (hb2 : by_ ≤ 2) (hsz : (bl : Int) * 512 + by_ = (size : Nat)) (hmax : size ≤ 65536) :
    Calls Tryz.prog 5 #[.int .i64 (bl : Nat), .int .i64 by_, .int .u8 (x.toNat : Int)] w fun e w' => e = .returned (.bool true) ∧ Below w.heap.size w w' := by
  have cb := begun9_true w ht ht6
  have HT := hide (⟨ht, ht6⟩ : _ ∧ _)
  have h6 := ht6.lt
  clear ht ht6
  have k1 : ¬ ((bl : Int) < 0) := by omega
  have k2 : ¬ ((128 : Int) < (bl : Int)) := by omega
  have k3 : ¬ (by_ < -2) := by omega
  have k4 : ¬ (2 < by_) := by omega
  have k5 : ¬ ((size : Int) < 0) := by omega
  have k6 : ¬ ((65536 : Int) < (size : Int)) := by omega
  go_enter Tryz.func5, Tryz.ntmps5
  go_wp2_with (go_at_call 6; refine cb.mono ?_; rintro e w1 ⟨rfl, hB1⟩; clear cb; refine Stop.out ?_)
  refine Stop.mk ?_
  have cD : Calls Tryz.prog 7 #[.int .i64 200] w1 _ := disk_any 200 w1 (below_tab hB1 HT.out.1.lt HT.out.1) (HT.out.2.below hB1) (by omega) (by omega)
  have hs1 := hB1.size
  have H1 := hide hB1
  clear hB1
  go_wp2_with (go_at_call 7; refine cD.mono ?_; rintro e w2 ⟨c, s, vs, rfl, hC2, hnb, hcont, hm2, hsl, hB2⟩; clear cD; refine Stop.out ?_)
  refine Stop.mk ?_
  have cN := inew_any w2
  have H2 := hide (⟨hC2, hnb, hm2, hsl, hB2⟩ : _ ∧ _ ∧ _ ∧ _ ∧ _)
  clear hC2 hnb hcont hm2 hsl hB2
  go_wp2_with (go_at_call 8; refine cN.mono ?_; rintro e w3 ⟨rfl, hi3, hB3⟩; clear cN; refine Stop.out ?_)
  refine Stop.mk ?_
  obtain ⟨hC2, hnb, hm2, hsl, hB2⟩ := H2.out
  obtain ⟨a, ha⟩ : ∃ a, w2.heap.size = a := ⟨_, rfl⟩
  rw [ha] at hi3 ⊢
  have F3 := Fil.start (by omega) hC2 hnb hm2 hB3 hi3
  have hal : w1.heap.size ≤ a := by rw [← ha]; exact hB2.size
  have hB13 : Below w1.heap.size w1 w3 := hB2.trans (hB3.mono hB2.size)
  have H3 := hide (⟨F3, hB13, hal, hsl⟩ : _ ∧ _ ∧ _ ∧ _)
  clear hC2 hnb hm2 hsl hB2 hi3 hB3 F3 hal hB13 H2 ha
  obtain ⟨g, hg⟩ : ∃ g, w3.heap.size = g := ⟨_, rfl⟩
  obtain ⟨w4, hw4⟩ : ∃ w4, w4 = w3.alloc (.cells (List.replicate size (Value.int .u8 0)).toArray 5) := ⟨_, rfl⟩
  have hmk : (Instr.makeSlice 30 (.int .i64 (size : Nat)) (.int .i64 (size : Nat))).run Tryz.prog w3 = .ok (.slice (some ⟨g, 0, none⟩) size size) w4 := by rw [hw4, ← hg]; exact imake w3 size (by omega)
  have hr4 : w4.heap[g]? = some (.cells ((partB x size 0).map u8v).toArray 5 (0, 0)) := by
    rw [partB_zero, List.map_replicate, hw4, ← hg]; exact heap_alloc_new w3 _
  have hB4 : Below w3.heap.size w3 w4 := by rw [hw4]; exact (Below.refl _ w3).alloc (Nat.le_refl _) _
  have HW := hide (⟨hr4, hB4, hg⟩ : _ ∧ _ ∧ _)
  clear hw4 hr4 hB4 hg
  go_wp2_with fail
  clear hmk
  go_loopw [13] (fun ix wr => ∃ k : Nat, k ≤ size ∧ ix = .int .i64 k ∧ Hid (wr.heap[g]? = some (.cells ((partB x size k).map u8v).toArray 5 (0, 0)) ∧ Below w3.heap.size w3 wr)) (fun ix _ => size - (intOf ix).toNat)
  case atStart => exact ⟨0, Nat.zero_le _, rfl, HW.out.1, HW.out.2.1⟩
  case round =>
    obtain ⟨k, hk, rfl, HK⟩ := hrel
    by_cases hlt : k < size
    · have hltI : (k : Int) < size := by omega
      have c2 : wr.cell? ⟨g, k, none⟩ = some (.int .u8 0) := by
        rw [cellOf HK.out.1 k]
        unfold partB
        simp [hlt, u8v]
      have f2 : wr.frozen? ⟨g, k, none⟩ = false := frozenOf HK.out.1 k
      go_wp2_with fail
      refine ⟨⟨k + 1, by omega, by go_num, ⟨?_, HK.out.2.setCell (p := ⟨g, k, none⟩) (by rw [HW.out.2.2]; exact Nat.le_refl _) _⟩⟩, by simp [intOf]; omega⟩
      have hbo := HK.out.1
      rw [← partB_step x size k hlt, evB_val]
      simp [World.setCell, Array.getElem?_modify, hbo]
    · have hnl : ¬ ((k : Int) < (size : Int)) := by omega
      have hke : k = size := by omega
      obtain ⟨hrow, hBr⟩ := HK.out
      rw [hke, partB_all] at hrow
      obtain ⟨F3, hB13, hal, hsl⟩ := H3.out
      have Fr := F3.below hBr
      have hB1r : Below w1.heap.size w1 wr := hB13.trans (hBr.mono hB13.size)
      have cF := free_F Fr
      rw [show Ino.cnt (fun _ => 0) = 0 by decide] at cF
      have cF' : Calls Tryz.prog 9 #[.pointer (some ⟨s + 1, 0, none⟩)] wr fun e w' => e = .returned (.int .i64 199) ∧ w' = wr := cF
      have cW : Calls Tryz.prog 11 #[.pointer (some ⟨a, 0, none⟩), ep c, .pointer (some ⟨s + 1, 0, none⟩), .int .i64 0, .slice (some ⟨g, 0, none⟩) (edgeB x size).length size] wr _ := write_all Fr (by omega) rfl ((HT.out.2.below H1.out).below hB1r) (Nat.lt_of_lt_of_le h6 hs1) g size (edgeB x size) hrow (by rw [edgeB_length]; exact Nat.le_refl _) (by rw [edgeB_length]; exact hmax)
      rw [edgeB_length] at cW
      have HR := hide (⟨hrow, Fr, hB1r, hal, hsl, hmax, hke⟩ : _ ∧ _ ∧ _ ∧ _ ∧ _ ∧ _ ∧ _)
      clear hrow hBr F3 hB13 hal hsl Fr hB1r cF HK H3 HW hke hmax hk
      go_wp2_with (first
        | (go_at_call 9; refine Calls_on cF' ?_; clear cF')
        | (go_at_call 11; refine cW.mono ?_; rintro e w5 ⟨rfl, hb5, m5, G5, V5, ea, eb, en, F5, q5⟩; clear cW; refine Stop.out ?_))
      refine Stop.mk ?_
      obtain ⟨hrow, Fr, hB1r, hal, hsl, hmax, hke⟩ := HR.out
      have ea' : m5.a = s + 1 := ea
      have eb' : m5.b = s := eb
      have en' : m5.n = 200 := en
      have hrow5 := Fr.row hb5 hrow
      have hB15 : Below w1.heap.size w1 w5 := hB1r.trans (Fil.lowB hb5 hB1r.size hsl hal)
      have cR : Calls Tryz.prog 14 #[.pointer (some ⟨a, 0, none⟩), ep c, .int .i64 0, .int .i64 65536] w5 _ := read_B F5 (by omega) 0 65536 size (by omega) (by omega) (by omega)
      have HR5 := hide (⟨hrow5, F5, hB15, hal, hsl, ea', eb', en', q5, hmax⟩ : _ ∧ _ ∧ _ ∧ _ ∧ _ ∧ _ ∧ _ ∧ _ ∧ _ ∧ _)
      clear HR hrow Fr hB1r hal hsl hmax hke ea eb en ea' eb' en' hrow5 hB15 F5 q5 hb5
      go_wp2_with (go_at_call 14; refine cR.mono ?_; rintro e w6 ⟨p6, cp6, rfl, F6, hb6, hr6⟩; clear cR; refine Stop.out ?_)
      refine Stop.mk ?_
      obtain ⟨hrow5, F5, hB15, hal, hsl, ea', eb', en', q5, hmax⟩ := HR5.out
      rw [range_getD (edgeB x size) size (by rw [edgeB_length]; exact Nat.le_refl _), List.take_of_length_le (by rw [edgeB_length]; exact Nat.le_refl _)] at hr6
      have hrow6 := F5.rowC hb6 hrow5
      have hB16 : Below w1.heap.size w1 w6 := hB15.trans (Fil.lowC hb6 hB15.size)
      have cF6 := free_F F6
      rw [ea', en', q5] at cF6
      obtain ⟨q, hq⟩ : ∃ q, Ino.costB ((size + 511) / 512) = q := ⟨_, rfl⟩
      rw [hq] at cF6
      have hq131 : q ≤ 131 := by
        have h1 : Ino.costB ((size + 511) / 512) ≤ Ino.costB 128 := Ino.costB_mono (by omega)
        rw [hq, show Ino.costB 128 = 131 by decide] at h1; exact h1
      obtain ⟨u, hu⟩ : ∃ u, 200 - 1 - q = u := ⟨_, rfl⟩
      rw [hu] at cF6
      have e1 : (199 : Int) - (u : Int) = (q : Nat) := by omega
      have hu2 : u < 200 := by omega
      obtain ⟨hf, hhf⟩ : ∃ hf, size / 2 = hf := ⟨_, rfl⟩
      have ehf : (size : Int) / 2 = (hf : Nat) := by omega
      have cT := trunc_F F6 (by omega) hf (by omega)
      rw [ea'] at cT
      have HR6 := hide (⟨hrow6, hr6, F6, hB16, hal, hsl, eb', en', hq, hmax, hhf, hq131⟩ : _ ∧ _ ∧ _ ∧ _ ∧ _ ∧ _ ∧ _ ∧ _ ∧ _ ∧ _ ∧ _ ∧ _)
      clear HR5 hrow5 F5 hB15 hal hsl ea' eb' en' q5 hmax hr6 hrow6 hB16 F6 hq hu hhf hb6 hq131
      go_wp2_with (first
        | (go_at_call 9; refine Calls_on cF6 ?_; clear cF6)
        | (go_at_call 13; refine cT.mono ?_; rintro e w7 ⟨hb7, rfl, m7, G7, V7, a7, b7, n7, F7⟩; clear cT; refine Stop.out ?_))
      refine Stop.mk ?_
      obtain ⟨hrow6, hr6, F6, hB16, hal, hsl, eb', en', hq, hmax, hhf, hq131⟩ := HR6.out
      have hrow7 := F6.row hb7 hrow6
      have hr7 : RowB w7 p6 (edgeB x size) := hr6.keep fun g cs fr hg => F6.row hb7 hg
      have hB17 : Below w1.heap.size w1 w7 := hB16.trans (Fil.lowB hb7 hB16.size (by rw [eb']; exact hsl) hal)
      have cR2 : Calls Tryz.prog 14 #[.pointer (some ⟨a, 0, none⟩), ep c, .int .i64 0, .int .i64 65536] w7 _ := read_B F7 (by omega) 0 65536 hf (by omega) (by omega) (by omega)
      have HR7 := hide (⟨hrow7, hr7, F7, hB17, a7, n7, en', hq, hmax, hhf, hq131⟩ : _ ∧ _ ∧ _ ∧ _ ∧ _ ∧ _ ∧ _ ∧ _ ∧ _ ∧ _ ∧ _)
      clear HR6 hrow6 hr6 F6 hB16 hal hsl eb' en' hq hmax hhf hq131 hrow7 hr7 hB17 F7 a7 n7 b7 hb7
      go_wp2_with (go_at_call 14; refine cR2.mono ?_; rintro e w8 ⟨p8, cp8, rfl, F8, hb8, hr8⟩; clear cR2; refine Stop.out ?_)
      refine Stop.mk ?_
      obtain ⟨hrow7, hr7, F7, hB17, a7, n7, en', hq, hmax, hhf, hq131⟩ := HR7.out
      rw [range_cut (edgeB x size) hf (by rw [edgeB_length]; omega)] at hr8
      have hrow8 := F7.rowC hb8 hrow7
      have hr78 : RowB w8 p6 (edgeB x size) := hr7.keep fun g cs fr hg => F7.rowC hb8 hg
      have hB18 : Below w1.heap.size w1 w8 := hB17.trans (Fil.lowC hb8 hB17.size)
      have hlh : ((edgeB x size).take hf).length = hf := by rw [List.length_take, edgeB_length]; omega
      have s1 : ∀ W, Below w8.heap.size w8 W → (convert 30 9 (.slice p6 size cp6)).run Tryz.prog W = .ok (.string (strOf (edgeB x size))) W := fun W hW => by
        have := run_str W p6 (edgeB x size) cp6 (hr78.below hW).is
        rw [edgeB_length] at this
        exact this
      have s2 : ∀ W, Below w8.heap.size w8 W → (convert 30 9 (.slice (some ⟨g, 0, none⟩) size size)).run Tryz.prog W = .ok (.string (strOf (edgeB x size))) W := fun W hW => by
        have := run_str W (some ⟨g, 0, none⟩) (edgeB x size) size ((RowB.block hrow8).below hW).is
        rw [edgeB_length] at this
        exact this
      have s3 : ∀ W, Below w8.heap.size w8 W → (convert 30 9 (.slice p8 hf cp8)).run Tryz.prog W = .ok (.string (strOf ((edgeB x size).take hf))) W := fun W hW => by
        have := run_str W p8 ((edgeB x size).take hf) cp8 (hr8.below hW).is
        rw [hlh] at this
        exact this
      have s4 : ∀ W, Below w8.heap.size w8 W → (convert 30 9 (.slice (some ⟨g, 0, none⟩) hf size)).run Tryz.prog W = .ok (.string (strOf ((edgeB x size).take hf))) W := fun W hW => by
        have := run_str W (some ⟨g, 0, none⟩) ((edgeB x size).take hf) size (((RowB.block hrow8).below hW).take hf).is
        rw [hlh] at this
        exact this
      have cC1 : ∀ W, Below w8.heap.size w8 W → Calls Tryz.prog 17 #[.int .i64 (size : Nat)] W fun e w' => e = .returned (.int .i64 (q : Nat)) ∧ w' = W := fun W _ => by
        have := rcost_any (size : Nat) W
        rw [costI_B size hmax, hq] at this
        exact this
      obtain ⟨r, hr⟩ : ∃ r, Ino.costB ((hf + 511) / 512) = r := ⟨_, rfl⟩
      have cC2 : ∀ W, Below w8.heap.size w8 W → Calls Tryz.prog 17 #[.int .i64 (hf : Nat)] W fun e w' => e = .returned (.int .i64 (r : Nat)) ∧ w' = W := fun W _ => by
        have := rcost_any (hf : Nat) W
        rw [costI_B hf (by omega), hr] at this
        exact this
      have hcl := F8.file.cost
      rw [hr] at hcl
      have hcn := F8.cntLe
      obtain ⟨v, hv⟩ : ∃ v, 200 - 1 - Ino.cnt G7 = v := ⟨_, rfl⟩
      have n7' : m7.n = 200 := n7.trans en'
      have cF8 : ∀ W, Below w8.heap.size w8 W → Calls Tryz.prog 9 #[.pointer (some ⟨s + 1, 0, none⟩)] W fun e w' => e = .returned (.int .i64 (v : Nat)) ∧ w' = W := fun W hW => by
        have := free_F (F8.below hW)
        rw [a7, n7', hv] at this
        exact this
      rw [n7'] at hcn
      obtain ⟨d, hd⟩ : ∃ d, 199 - v = d := ⟨_, rfl⟩
      have hdr : d ≤ r := by omega
      have hsub : (199 : Int) - (v : Int) = (d : Nat) := by omega
      have hwd : IntKind.i64.wrap (d : Int) = (d : Int) := by rw [IntKind.wrap_i64]; omega
      have hwf : IntKind.i64.wrap (hf : Int) = (hf : Int) := by rw [IntKind.wrap_i64]; omega
      have hdv : Int.tdiv (size : Int) 2 = (hf : Nat) := by rw [Int.tdiv_eq_ediv_of_nonneg (by omega)]; omega
      have hfs : hf ≤ size := by omega
      have H8 := hide hB18
      generalize strOf (edgeB x size) = S1 at s1 s2
      generalize strOf ((edgeB x size).take hf) = S2 at s3 s4
      clear HR7 hrow7 hr7 F7 hB17 a7 n7 en' hq hmax hhf hr8 hrow8 hr78 hB18 F8 hb8 hcl hcn hv hr n7' hlh hq131 hd
      go_wp2_with fail
      refine edges_reg (by kernel_rfl) g s size hf q v d r cp6 cp8 p6 p8 S1 S2 w8 rfl rfl rfl rfl rfl rfl rfl rfl rfl rfl rfl rfl rfl s1 s2 s3 s4 cC1 cC2 cF8 hdv hwf hsub hwd hdr hfs ?_
      intro W hW
      have HF := hide (H1.out.trans ((H8.out.trans (hW.mono H8.out.size)).mono H1.out.size))
      clear hW s1 s2 s3 s4 cC1 cC2 cF8 H8
      unfold edgesL
      simp only [putAll, List.setIfInBounds_toArray, List.set_cons_zero, List.set_cons_succ]
      go_wp2
      go_ret
      exact ⟨rfl, HF.out⟩

theorem edges_law (blocks by_ : Int) (x : BitVec 8) (w : World) (ht : Tab w) (ht6 : Bm.Tab64 w) :
    Calls Tryz.prog 5 #[.int .i64 blocks, .int .i64 by_, .int .u8 (x.toNat : Int)] w fun e w' => e = .returned (.bool true) ∧ Below w.heap.size w w' := by
  by_cases h : blocks < 0 ∨ 128 < blocks ∨ by_ < -2 ∨ 2 < by_ ∨ blocks * 512 + by_ < 0 ∨ 65536 < blocks * 512 + by_
  · exact edges_bad blocks by_ _ w ht ht6 h
  · obtain ⟨n, rfl⟩ : ∃ n : Nat, blocks = n := ⟨blocks.toNat, by omega⟩
    exact edges_ok n ((n : Int) * 512 + by_).toNat by_ x w ht ht6 (by omega) (by omega) (by omega) (by omega) (by omega)

end Go.Proofs.YtebdgcoandfocaaGreatDoor

namespace Go.Proofs.YtebdgcoandfocaaGreatDoor
open Go.ChangeShapes Go.WideShapes Go.ChangeAt Go.RowKit Go.Deep

set_option maxRecDepth 100000 in
theorem iedges_contract (H : Type) (enc : TypeId × Value → H) (W : World) (base : Nat) (args : Array Value) (ds gs : List (DataW H)) (before : List MemPlace)
    (hval : ∀ (j : Nat) t v, Tryz.f5.params[j]? = some t → args[j]? = some v → Value.okWide Tryz.prog W .any base t v)
    (hW : DataW.Whole enc Tryz.prog Tryz.f5.params.toList Rows.inodeEdgesSpec.vars false W args.toList ds gs before)
    (hL : laidMetH Tryz.prog Rows.inodeEdgesRow.laid W) :
    Calls Tryz.prog 5 args W fun e W' => ∃ v, e = .returned v ∧ Rows.inodeEdgesSpec.post enc Tryz.prog Tryz.f5 false true false false W args v W' := by
  have hW' := hW
  obtain ⟨p, q, hA0, hV, rfl, hfz, hnd⟩ := hW
  have hA : DataW.TrodAll enc Tryz.prog W 0 (fun _ => true) true Tryz.f5.params.toList args.toList ds p := hA0
  rw [Tryz.params5] at hA hval
  obtain ⟨v0, vs0, d0, ds0, p0, q0, hargs, rfl, rfl, h0, r0⟩ := trodAll_cons hA
  obtain ⟨v1, vs1, d1, ds1, p1, q1, rfl, rfl, rfl, h1, r1⟩ := trodAll_cons r0
  obtain ⟨v2, vs2, d2, ds2, p2, q2, rfl, rfl, rfl, h2, r2⟩ := trodAll_cons r1
  obtain ⟨rfl, rfl, rfl⟩ := trodAll_nil r2
  obtain rfl : args = #[v0, v1, v2] := by cases args; simp_all
  obtain ⟨rfl, rfl⟩ := trodVars_none hV
  obtain ⟨a0, rfl, rfl, rfl, w0⟩ := open_int Tryz.underlying3 (hval 0 3 v0 rfl rfl) h0
  obtain ⟨a1, rfl, rfl, rfl, w1⟩ := open_int Tryz.underlying3 (hval 1 3 v1 rfl rfl) h1
  obtain ⟨a2, rfl, rfl, rfl, w2⟩ := open_int Tryz.underlying5 (hval 2 5 v2 rfl rfl) h2
  clear hA0
  have hx := w2
  simp [Lit.wf] at hx
  have hx0 : 0 ≤ a2 := hx.1
  have hx1 : a2 ≤ 255 := hx.2
  obtain ⟨x, hxe⟩ : ∃ x : BitVec 8, a2 = (x.toNat : Int) := ⟨BitVec.ofNat 8 a2.toNat, by rw [BitVec.toNat_ofNat, Nat.mod_eq_of_lt (by omega)]; omega⟩
  subst hxe
  refine (edges_law a0 a1 x W (tabs_of_laid hL).1 (tabs_of_laid hL).2).mono fun e W' ⟨he, bel⟩ => ?_
  subst he
  exact ⟨_, rfl, _, _, _, [], _, [], hW', trodAll_mk1 (shut_bool Tryz.underlying4 _), (trodAll_cons_mk (shut_int Tryz.underlying3 w0) (trodAll_cons_mk (shut_int Tryz.underlying3 w1) (trodAll_cons_mk (shut_int Tryz.underlying5 w2) trodAll_mk0))), rfl, bel.frame _, fun h => by cases h⟩

theorem iedges_laid_met (os : Os) : laidMet Tryz.prog Rows.inodeEdgesRow.laid ((World.doorLaid Tryz.prog 400 os).forCall (fun _ _ => 0) ⟨#[], #[.int .i64 0, .int .i64 0, .int .u8 0], []⟩).memory :=
  laidMet_of_run' 20 (by kernel_rfl) (by kernel_rfl)
theorem iedges_reads (os : Os) {H : Type} (enc : TypeId × Value → H) : ∃ places, DataW.whole enc Tryz.prog ((World.doorLaid Tryz.prog 400 os).forCall (fun _ _ => 0) ⟨#[], #[.int .i64 0, .int .i64 0, .int .u8 0], []⟩).memory Tryz.f5.params.toList Rows.inodeEdgesSpec.vars false (#[.int .i64 0, .int .i64 0, .int .u8 0] : Array Value).toList 8 = some ([.lit (.int .i64 0), .lit (.int .i64 0), .lit (.int .u8 0)], [], places) :=
  ⟨[], by kernel_rfl⟩

set_option maxRecDepth 100000 in
theorem iedges_lifted (os : Os) (started : os.Started) (H : Type) (enc : TypeId × Value → H) (F : Stop.Interp) :
    ReturnsInHanded {} Tryz.checked os 5 .any ((OpenSpec.ofChange Rows.inodeEdgesSpec).preRow enc Tryz.prog Tryz.f5 Rows.inodeEdgesRow.domain false Rows.inodeEdgesRow.laid) (((OpenSpec.ofChange Rows.inodeEdgesSpec).at F).post enc Tryz.prog Tryz.f5 false true false false) := by
  obtain ⟨places, hx⟩ := iedges_reads os enc
  refine returnsInHanded_of_row (C := Tryz.checked) (s := OpenSpec.ofChange Rows.inodeEdgesSpec) own started (by kernel_rfl) Tryz.func5
    (witness_row_at (enc := enc) (C := Tryz.checked) false (World.doorLaid Tryz.prog 400 os) #[.int .i64 0, .int .i64 0, .int .u8 0] rfl (by kernel_rfl) (by kernel_rfl) (by kernel_rfl)
      (OpenSpec.preRow_of_cond 8 hx (by kernel_rfl) (fun k hk => by cases hk) (by kernel_rfl) (iedges_laid_met os))) ?_
  intro W base args ds gs before hval hW _ _ _ hL _ _
  exact iedges_contract H enc W base args ds gs before hval hW hL

theorem iedges_said : Rows.InodeEdgesSaid :=
  OpenClaim.holds_of_cond 5 Tryz.f5 rfl rfl rfl rfl rfl rfl rfl ⟨rfl, rfl, rfl, rfl, rfl⟩ rfl rfl rfl rfl rfl (by kernel_rfl) Tryz.func5 (by kernel_rfl)
    (of_decide_eq_true (by kernel_rfl)) (by unfold Func.isWrapper; first | (rw [if_pos (by decide +kernel)]; kernel_rfl) | (rw [if_neg (by decide +kernel)]; exact ⟨rfl, rfl⟩))
    (fun os started H enc _ F => by rw [OpenClaim.pre_eq_preRow]; exact iedges_lifted os started H enc F)

theorem iedges_plain (f : FuncId) (fn : Func) (hf : Tryz.pinned.checked.prog.funcNamed "lagoon/lagoonlaw9.InodeEdges" = some f) (hfn : Tryz.pinned.checked.prog.funcs[f]? = some fn) :
    true = Tryz.pinned.checked.prog.looks [] ∧ ∀ (j : Nat) t, fn.params[j]? = some t → Tryz.pinned.checked.prog.wantsStandIn t = false := by
  obtain rfl : f = 5 := Option.some.inj ((show Tryz.prog.funcNamed "lagoon/lagoonlaw9.InodeEdges" = some 5 by kernel_rfl).symm.trans hf) |>.symm
  obtain rfl : fn = Tryz.f5 := (Option.some.inj (Tryz.func5.symm.trans hfn)).symm
  refine ⟨by kernel_rfl, fun j t ht => ?_⟩
  rw [Tryz.params5] at ht
  have hm : t ∈ [3, 3, 5] := by simpa using Array.mem_of_getElem? ht
  have hall : ([3, 3, 5].all fun u => !Tryz.prog.wantsStandIn u) = true := by kernel_rfl
  exact (show Tryz.prog.wantsStandIn t = false by simpa using List.all_eq_true.1 hall t hm)

theorem inodeEdges_holds : Rows.InodeEdgesCardSaid :=
  Claim7.holds_tied_plain_at .later [] _ _ _ _ iedges_said (fun _ h => by cases h) (by kernel_rfl) (fun _ h => by cases h) inodeEdges_row_tie rfl ⟨rfl, rfl⟩ (by kernel_rfl) rfl iedges_plain (by kernel_rfl)

#print axioms inodeEdges_holds
end Go.Proofs.YtebdgcoandfocaaGreatDoor
