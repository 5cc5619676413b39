/-
  InodeHoles, for every place, byte and size, whatever the memory and the order that Go leaves open, returns true and leaves its arguments and all memory that was there as it was. The tables of packages crc and math/bits start as the program's text lays them (the card ties them).
-/
import Derived.Test.YtebdgcoandfocaaGreatDoorQIn
import Derived.Lib.SlBytesConst
import Derived.Test.YtebdgcoandfocaaGreatDoorKCtable
import Derived.Test.YtebdgcoandfocaaGreatDoorQXj
import Derived.Test.YtebdgcoandfocaaGreatDoorKCsum
import Derived.ChangeOld
import Derived.Deep.Slices
import Derived.Deep.Matrix
import Derived.Deep.Grids

/-
  Package inode: Read of four bytes at 699.
-/
namespace Go.Proofs.YtebdgcoandfocaaGreatDoor
open Go.RowKit Go.Maps Go.Sort Go.Shelf

/-- What the making of a walk leaves. -/
def readL (rb s : Nat) : List (Option Tmp × Value) := [(some 41, .pointer (some ⟨rb, 0, none⟩)), (some 42, .pointer (some ⟨rb, 0, none⟩)), (some 43, .pointer (some ⟨rb, 0, none⟩)), (some 44, .int .i64 699), (some 45, .int .i64 1), (some 46, .int .i64 699), (some 47, .int .i64 4), (some 48, .int .i64 703), (some 49, .int .i64 2), (some 50, .pointer (some ⟨rb, 0, none⟩)), (some 51, .func (.func 31) #[.pointer (some ⟨rb, 0, none⟩)] #[]), (some 52, .agg #[.pointer (some ⟨rb, 0, none⟩), .int .i64 1, .int .i64 2, .bool false, .func (.func 31) #[.pointer (some ⟨rb, 0, none⟩)] #[]]), (some 11, .pointer (some ⟨s, 0, none⟩)), (none, undef)]
set_option maxRecDepth 8000 in
set_option maxHeartbeats 1500000 in
theorem read_first (w0 w : World) (a c b : Nat) (y0 y1 y2 y3 : BitVec 8) (vs : VS) (A : AC) (hn : InoAt w a 703 (noNums.set 1 1#32)) (hC : CW w0 w c vs A b) (hb : b < 800000) (hx : 1 < nbOf vs.d.n) (hok : A.held 1 = true ∨ A.full = false)
    (hD0 : ((A.meet 1 (vs.cont 1) id).dataOf 1)[187]? = some y0) (hD1 : ((A.meet 1 (vs.cont 1) id).dataOf 1)[188]? = some y1) (hD2 : ((A.meet 1 (vs.cont 1) id).dataOf 1)[189]? = some y2) (hD3 : ((A.meet 1 (vs.cont 1) id).dataOf 1)[190]? = some y3) :
    Calls Tryz.prog 14 #[.pointer (some ⟨a, 0, none⟩), ep c, .int .i64 699, .int .i64 10] w fun e w' => ∃ og, e = .returned (.tuple #[.slice (some ⟨og, 0, none⟩) 4 4, .int .i64 0]) ∧ w'.heap[og]? = some (.cells #[u8v y0, u8v y1, u8v y2, u8v y3] 5 (0, 0)) ∧ w.heap.size ≤ og ∧ But (Cmn w0 w) w w' := by
  have hmix : Tryz.prog.follows .mixedOrders = true := by kernel_rfl
  have cU : ∀ W, Calls Tryz.prog 30 #[.int .i64 703] W fun e w' => e = .returned (.int .i64 2) ∧ w' = W := fun W => upTo_any 703 (by omega) W
  have hmn : (min 10 4 : Int) = 4 := by decide
  have c0 := hn.size
  have hmk : ∀ W : World, (Instr.makeSlice 30 (.int .i64 4) (.int .i64 4)).run Tryz.prog W = .ok (.slice (some ⟨W.heap.size, 0, none⟩) 4 4) (W.alloc (.cells (List.replicate 4 (.int .u8 0)).toArray 5)) := fun W => imake W 4 (by omega)
  have HW : Hid (InoAt w a 703 (noNums.set 1 1#32) ∧ CW w0 w c vs A b) := ⟨hn, hC⟩
  clear hn hC
  go_enter Tryz.func14, Tryz.ntmps14
  go_wp2_with fail
  obtain ⟨w2, hw2⟩ : ∃ w2, w2 = (w.alloc (.cells #[.int .u8 0, .int .u8 0, .int .u8 0, .int .u8 0] 5)).alloc (.cells #[ep c, .pointer none, .slice none 0 0, .slice none 0 0, .slice none 0 0, .int .i64 699, .slice (some ⟨w.heap.size, 0, none⟩) 4 4] 84) := ⟨_, rfl⟩
  have hB2 : Below w.heap.size w w2 := by rw [hw2]; exact ((Below.refl _ w).alloc (Nat.le_refl _) _).alloc (by simp) _
  have hs2 : w2.heap.size = w.heap.size + 2 := by rw [hw2]; simp
  have hr2 : BlkAt w2 (w.heap.size + 1) [ep c, .pointer none, .slice none 0 0, .slice none 0 0, .slice none 0 0, .int .i64 699, .slice (some ⟨w.heap.size, 0, none⟩) 4 4] 84 := by
    rw [hw2]
    have := heap_alloc_new (w.alloc (.cells #[.int .u8 0, .int .u8 0, .int .u8 0, .int .u8 0] 5)) (.cells #[ep c, .pointer none, .slice none 0 0, .slice none 0 0, .slice none 0 0, .int .i64 699, .slice (some ⟨w.heap.size, 0, none⟩) 4 4] 84)
    rw [World.size_alloc] at this
    exact this
  have ho2 : w2.heap[w.heap.size]? = some (.cells #[.int .u8 0, .int .u8 0, .int .u8 0, .int .u8 0] 5 (0, 0)) := by
    rw [hw2]
    exact (Below.heap_alloc _ _ _ (by simp)).trans (heap_alloc_new w _)
  rw [← hw2]
  have H2 : Hid (Below w.heap.size w w2 ∧ BlkAt w2 (w.heap.size + 1) [ep c, .pointer none, .slice none 0 0, .slice none 0 0, .slice none 0 0, .int .i64 699, .slice (some ⟨w.heap.size, 0, none⟩) 4 4] 84 ∧ w2.heap[w.heap.size]? = some (.cells #[.int .u8 0, .int .u8 0, .int .u8 0, .int .u8 0] 5 (0, 0))) := ⟨hB2, hr2, ho2⟩
  clear hw2 hB2 hr2 ho2 c0 hmk
  have vv0 : ∀ g, vals ((fun _ : Unit => readL (w.heap.size + 1) w2.heap.size) g) 0 = .pointer (some ⟨w.heap.size + 1, 0, none⟩) := fun g => rfl
  have vv1 : ∀ g, vals ((fun _ : Unit => readL (w.heap.size + 1) w2.heap.size) g) 1 = .pointer (some ⟨w.heap.size + 1, 0, none⟩) := fun g => rfl
  have vv2 : ∀ g, vals ((fun _ : Unit => readL (w.heap.size + 1) w2.heap.size) g) 2 = .pointer (some ⟨w.heap.size + 1, 0, none⟩) := fun g => rfl
  have vv3 : ∀ g, vals ((fun _ : Unit => readL (w.heap.size + 1) w2.heap.size) g) 3 = .int .i64 699 := fun g => rfl
  have vv4 : ∀ g, vals ((fun _ : Unit => readL (w.heap.size + 1) w2.heap.size) g) 4 = .int .i64 1 := fun g => rfl
  have vv5 : ∀ g, vals ((fun _ : Unit => readL (w.heap.size + 1) w2.heap.size) g) 5 = .int .i64 699 := fun g => rfl
  have vv6 : ∀ g, vals ((fun _ : Unit => readL (w.heap.size + 1) w2.heap.size) g) 6 = .int .i64 4 := fun g => rfl
  have vv7 : ∀ g, vals ((fun _ : Unit => readL (w.heap.size + 1) w2.heap.size) g) 7 = .int .i64 703 := fun g => rfl
  have vv8 : ∀ g, vals ((fun _ : Unit => readL (w.heap.size + 1) w2.heap.size) g) 8 = .int .i64 2 := fun g => rfl
  have vv9 : ∀ g, vals ((fun _ : Unit => readL (w.heap.size + 1) w2.heap.size) g) 9 = .pointer (some ⟨w.heap.size + 1, 0, none⟩) := fun g => rfl
  have vv10 : ∀ g, vals ((fun _ : Unit => readL (w.heap.size + 1) w2.heap.size) g) 10 = .func (.func 31) #[.pointer (some ⟨w.heap.size + 1, 0, none⟩)] #[] := fun g => rfl
  have vv11 : ∀ g, vals ((fun _ : Unit => readL (w.heap.size + 1) w2.heap.size) g) 11 = .agg #[.pointer (some ⟨w.heap.size + 1, 0, none⟩), .int .i64 1, .int .i64 2, .bool false, .func (.func 31) #[.pointer (some ⟨w.heap.size + 1, 0, none⟩)] #[]] := fun g => rfl
  have vv12 : ∀ g, vals ((fun _ : Unit => readL (w.heap.size + 1) w2.heap.size) g) 12 = .pointer (some ⟨w2.heap.size, 0, none⟩) := fun g => rfl
  have vv13 : ∀ g, vals ((fun _ : Unit => readL (w.heap.size + 1) w2.heap.size) g) 13 = undef := fun g => rfl
  refine region_laidg hmix (by kernel_rfl) 65 rfl (by kernel_rfl) () ((fun _ : Unit => readL (w.heap.size + 1) w2.heap.size)) (fun g => rfl) (fun (_ : Unit) b W => W = if b 13 = true then w2.drew.alloc (.cells #[.pointer (some ⟨w.heap.size + 1, 0, none⟩), .int .i64 1, .int .i64 2, .bool false, .func (.func 31) #[.pointer (some ⟨w.heap.size + 1, 0, none⟩)] #[]] 81) else if b 12 = true then w2.drew.alloc (.cells #[.pointer none, .int .i64 0, .int .i64 0, .bool false, .nilFunc] 81) else w2.drew) rfl ?_ ?_
  · intro g b W io o a hS hcl ho hb hd ev kp yl
    match io with
    | 0 =>
      simp only [List.getElem?_toArray, List.getElem?_cons_zero, Option.some.injEq] at ho
      subst ho
      have e10 : a.tmps[10]?.getD undef = .pointer (some ⟨w.heap.size + 1, 0, none⟩) := kp 10 (none_till (by kernel_rfl))
      refine doesg_value rfl (by intro c h; cases h) (v := .pointer (some ⟨w.heap.size + 1, 0, none⟩)) (w' := W) ?_ ⟨g, fun _ _ => rfl, (vv0 g).symm, ?_⟩
      · simp [execOp, go_sem, e10]
      · simpa [did] using hS
    | 1 =>
      simp only [List.getElem?_toArray, List.getElem?_cons_zero, List.getElem?_cons_succ, Option.some.injEq] at ho
      subst ho
      have p0 : b 0 = true := hd ⟨0, .data⟩ (by simp) rfl
      have e41 := (ev 0 41 rfl p0).trans (vv0 g)
      refine doesg_value rfl (by intro c h; cases h) (v := .pointer (some ⟨w.heap.size + 1, 0, none⟩)) (w' := W) ?_ ⟨g, fun _ _ => rfl, (vv1 g).symm, ?_⟩
      · simp [execOp, go_sem, e41]
      · simpa [did] using hS
    | 2 =>
      simp only [List.getElem?_toArray, List.getElem?_cons_zero, List.getElem?_cons_succ, Option.some.injEq] at ho
      subst ho
      have p1 : b 1 = true := hd ⟨1, .data⟩ (by simp) rfl
      have e42 := (ev 1 42 rfl p1).trans (vv1 g)
      refine doesg_value rfl (by intro c h; cases h) (v := .pointer (some ⟨w.heap.size + 1, 0, none⟩)) (w' := W) ?_ ⟨g, fun _ _ => rfl, (vv2 g).symm, ?_⟩
      · simp [execOp, go_sem, e42]
      · simpa [did] using hS
    | 3 =>
      simp only [List.getElem?_toArray, List.getElem?_cons_zero, List.getElem?_cons_succ, Option.some.injEq] at ho
      subst ho
      have e2 : a.tmps[2]?.getD undef = .int .i64 699 := kp 2 (none_till (by kernel_rfl))
      refine doesg_value rfl (by intro c h; cases h) (v := .int .i64 699) (w' := W) ?_ ⟨g, fun _ _ => rfl, (vv3 g).symm, ?_⟩
      · simp [execOp, go_sem, e2]
      · simpa [did] using hS
    | 4 =>
      simp only [List.getElem?_toArray, List.getElem?_cons_zero, List.getElem?_cons_succ, Option.some.injEq] at ho
      subst ho
      have p3 : b 3 = true := hd ⟨3, .data⟩ (by simp) rfl
      have e44 := (ev 3 44 rfl p3).trans (vv3 g)
      refine doesg_value rfl (by intro c h; cases h) (v := .int .i64 1) (w' := W) ?_ ⟨g, fun _ _ => rfl, (vv4 g).symm, ?_⟩
      · simp [execOp, go_sem, e44]; rfl
      · simpa [did] using hS
    | 5 =>
      simp only [List.getElem?_toArray, List.getElem?_cons_zero, List.getElem?_cons_succ, Option.some.injEq] at ho
      subst ho
      have e2 : a.tmps[2]?.getD undef = .int .i64 699 := kp 2 (none_till (by kernel_rfl))
      refine doesg_value rfl (by intro c h; cases h) (v := .int .i64 699) (w' := W) ?_ ⟨g, fun _ _ => rfl, (vv5 g).symm, ?_⟩
      · simp [execOp, go_sem, e2]
      · simpa [did] using hS
    | 6 =>
      simp only [List.getElem?_toArray, List.getElem?_cons_zero, List.getElem?_cons_succ, Option.some.injEq] at ho
      subst ho
      have e3 : a.tmps[3]?.getD undef = .int .i64 4 := kp 3 (none_till (by kernel_rfl))
      refine doesg_value rfl (by intro c h; cases h) (v := .int .i64 4) (w' := W) ?_ ⟨g, fun _ _ => rfl, (vv6 g).symm, ?_⟩
      · simp [execOp, go_sem, e3]
      · simpa [did] using hS
    | 7 =>
      simp only [List.getElem?_toArray, List.getElem?_cons_zero, List.getElem?_cons_succ, Option.some.injEq] at ho
      subst ho
      have p5 : b 5 = true := hd ⟨5, .data⟩ (by simp) rfl
      have p6 : b 6 = true := hd ⟨6, .data⟩ (by simp) rfl
      have e46 := (ev 5 46 rfl p5).trans (vv5 g)
      have e47 := (ev 6 47 rfl p6).trans (vv6 g)
      refine doesg_value rfl (by intro c h; cases h) (v := .int .i64 703) (w' := W) ?_ ⟨g, fun _ _ => rfl, (vv7 g).symm, ?_⟩
      · simp [execOp, go_sem, e46, e47]; rfl
      · simpa [did] using hS
    | 8 =>
      simp only [List.getElem?_toArray, List.getElem?_cons_zero, List.getElem?_cons_succ, Option.some.injEq] at ho
      subst ho
      have p7 : b 7 = true := hd ⟨7, .data⟩ (by simp) rfl
      have e48 := (ev 7 48 rfl p7).trans (vv7 g)
      refine doesg_call rfl (by intro c h; cases h) (f := 30) (args := #[.int .i64 703]) ?_ ?_
      · simp [go_sem, e48]
      · (refine (cU W).mono ?_; rintro e w' ⟨rfl, rfl⟩; exact ⟨_, rfl, g, fun _ _ => rfl, (vv8 g).symm, by simpa [did] using hS⟩)
    | 9 =>
      simp only [List.getElem?_toArray, List.getElem?_cons_zero, List.getElem?_cons_succ, Option.some.injEq] at ho
      subst ho
      have e10 : a.tmps[10]?.getD undef = .pointer (some ⟨w.heap.size + 1, 0, none⟩) := kp 10 (none_till (by kernel_rfl))
      refine doesg_value rfl (by intro c h; cases h) (v := .pointer (some ⟨w.heap.size + 1, 0, none⟩)) (w' := W) ?_ ⟨g, fun _ _ => rfl, (vv9 g).symm, ?_⟩
      · simp [execOp, go_sem, e10]
      · simpa [did] using hS
    | 10 =>
      simp only [List.getElem?_toArray, List.getElem?_cons_zero, List.getElem?_cons_succ, Option.some.injEq] at ho
      subst ho
      have p9 : b 9 = true := hd ⟨9, .data⟩ (by simp) rfl
      have e50 := (ev 9 50 rfl p9).trans (vv9 g)
      refine doesg_value rfl (by intro c h; cases h) (v := .func (.func 31) #[.pointer (some ⟨w.heap.size + 1, 0, none⟩)] #[]) (w' := W) ?_ ⟨g, fun _ _ => rfl, (vv10 g).symm, ?_⟩
      · simp [execOp, go_sem, e50]
      · simpa [did] using hS
    | 11 =>
      simp only [List.getElem?_toArray, List.getElem?_cons_zero, List.getElem?_cons_succ, Option.some.injEq] at ho
      subst ho
      have p2 : b 2 = true := hd ⟨2, .data⟩ (by simp) rfl
      have p4 : b 4 = true := hd ⟨4, .data⟩ (by simp) rfl
      have p8 : b 8 = true := hd ⟨8, .data⟩ (by simp) rfl
      have p10 : b 10 = true := hd ⟨10, .data⟩ (by simp) rfl
      have e43 := (ev 2 43 rfl p2).trans (vv2 g)
      have e45 := (ev 4 45 rfl p4).trans (vv4 g)
      have e49 := (ev 8 49 rfl p8).trans (vv8 g)
      have e51 := (ev 10 51 rfl p10).trans (vv10 g)
      refine doesg_value rfl (by intro c h; cases h) (v := .agg #[.pointer (some ⟨w.heap.size + 1, 0, none⟩), .int .i64 1, .int .i64 2, .bool false, .func (.func 31) #[.pointer (some ⟨w.heap.size + 1, 0, none⟩)] #[]]) (w' := W) ?_ ⟨g, fun _ _ => rfl, (vv11 g).symm, ?_⟩
      · simp [execOp, go_sem, e43, e45, e49, e51]
      · simpa [did] using hS
    | 12 =>
      simp only [List.getElem?_toArray, List.getElem?_cons_zero, List.getElem?_cons_succ, Option.some.injEq] at ho
      subst ho
      have h13 : b 13 = false := by cases h : b 13; rfl; rw [hcl 13 _ rfl h ⟨12, .data⟩ (by simp) rfl] at hb; cases hb
      have hW : W = w2.drew := by rw [hS, h13, hb]; rfl
      subst hW
      refine doesg_value rfl (by intro c h; cases h) (v := .pointer (some ⟨w2.heap.size, 0, none⟩)) (w' := w2.drew.alloc (.cells #[.pointer none, .int .i64 0, .int .i64 0, .bool false, .nilFunc] 81)) ?_ ⟨g, fun _ _ => rfl, (vv12 g).symm, ?_⟩
      · simp [execOp, go_sem]
      · simp [did, h13]
    | 13 =>
      simp only [List.getElem?_toArray, List.getElem?_cons_zero, List.getElem?_cons_succ, Option.some.injEq] at ho
      subst ho
      have p12 : b 12 = true := hd ⟨12, .data⟩ (by simp) rfl
      have p11 : b 11 = true := hd ⟨11, .data⟩ (by simp) rfl
      have e11 := (ev 12 11 rfl p12).trans (vv12 g)
      have e52 := (ev 11 52 rfl p11).trans (vv11 g)
      have hW : W = w2.drew.alloc (.cells #[.pointer none, .int .i64 0, .int .i64 0, .bool false, .nilFunc] 81) := by rw [hS, hb, p12]; rfl
      subst hW
      refine doesg_skip rfl (by intro c h; cases h) (w' := w2.drew.alloc (.cells #[.pointer (some ⟨w.heap.size + 1, 0, none⟩), .int .i64 1, .int .i64 2, .bool false, .func (.func 31) #[.pointer (some ⟨w.heap.size + 1, 0, none⟩)] #[]] 81)) ?_ ⟨g, fun _ _ => rfl, (vv13 g).symm, ?_⟩
      · simp [execOp, go_sem, e11, e52]
      · exact by simp [did]
    | k + 14 => simp at ho
  · intro g b' W hS hall
    have hW : W = w2.drew.alloc (.cells #[.pointer (some ⟨w.heap.size + 1, 0, none⟩), .int .i64 1, .int .i64 2, .bool false, .func (.func 31) #[.pointer (some ⟨w.heap.size + 1, 0, none⟩)] #[]] 81) := by rw [hS, hall 13 (by simp)]; rfl
    have hBW : Below w2.heap.size w2 W := walk_bel hS
    have hWs : W.heap.size = w.heap.size + 3 := by rw [hW]; simp [hs2]
    have hWk : WalkAt W w2.heap.size (.pointer (some ⟨w.heap.size + 1, 0, none⟩)) 1 2 false (.func (.func 31) #[.pointer (some ⟨w.heap.size + 1, 0, none⟩)] #[]) := by rw [hW]; exact heap_alloc_new w2.drew _
    obtain ⟨w3, rfl⟩ : ∃ w3, w3 = W := ⟨_, rfl⟩
    clear hS hall hW
    obtain ⟨hB2, hr2, ho2⟩ := H2.out
    have hB03 : Below w.heap.size w w3 := hB2.trans (hBW.mono hB2.size)
    have hi3 : InoAt w3 a 703 (noNums.set 1 1#32) := HW.out.1.below hB03 HW.out.1.lt
    have d0 : w3.cell? ⟨a, 1, none⟩ = some (.int .u32 0) := hi3.num (i := 0) (n := 0#32) rfl
    have d1 : w3.cell? ⟨a, 2, none⟩ = some (.int .u32 1) := hi3.num (i := 1) (n := 1#32) rfl
    have d2 : w3.cell? ⟨a, 3, none⟩ = some (.int .u32 0) := hi3.num (i := 2) (n := 0#32) rfl
    have d3 : w3.cell? ⟨a, 4, none⟩ = some (.int .u32 0) := hi3.num (i := 3) (n := 0#32) rfl
    have d4 : w3.cell? ⟨a, 5, none⟩ = some (.int .u32 0) := hi3.num (i := 4) (n := 0#32) rfl
    have d5 : w3.cell? ⟨a, 6, none⟩ = some (.int .u32 0) := hi3.num (i := 5) (n := 0#32) rfl
    have d6 : w3.cell? ⟨a, 7, none⟩ = some (.int .u32 0) := hi3.num (i := 6) (n := 0#32) rfl
    have d7 : w3.cell? ⟨a, 8, none⟩ = some (.int .u32 0) := hi3.num (i := 7) (n := 0#32) rfl
    have d8 : w3.cell? ⟨a, 9, none⟩ = some (.int .u32 0) := hi3.num (i := 8) (n := 0#32) rfl
    have d9 : w3.cell? ⟨a, 10, none⟩ = some (.int .u32 0) := hi3.num (i := 9) (n := 0#32) rfl
    have hal := HW.out.1.lt
    have han : ¬ a = w3.heap.size := by omega
    have han' : ¬ w3.heap.size = a := by omega
    obtain ⟨w4, hw4⟩ : ∃ w4, w4 = w3.alloc (.cells #[.int .u32 0, .int .u32 1, .int .u32 0, .int .u32 0, .int .u32 0, .int .u32 0, .int .u32 0, .int .u32 0, .int .u32 0, .int .u32 0] 55) := ⟨_, rfl⟩
    have hB4 : Below w3.heap.size w3 w4 := by rw [hw4]; exact (Below.refl _ w3).alloc (Nat.le_refl _) _
    have hx4 : NumsAt w4 w3.heap.size (noNums.set 1 1#32) := by rw [hw4]; exact heap_alloc_new w3 _
    have hB24 : Below w2.heap.size w2 w4 := hBW.trans (hB4.mono hBW.size)
    have hB04 : Below w.heap.size w w4 := hB03.trans (hB4.mono hB03.size)
    have hr4 := hr2.below hB24
    have ho4 : w4.heap[w.heap.size]? = some (.cells #[.int .u8 0, .int .u8 0, .int .u8 0, .int .u8 0] 5 (0, 0)) := (hB24.block _ (by omega)).trans ho2
    have hk4 : WalkAt w4 w2.heap.size (.pointer (some ⟨w.heap.size + 1, 0, none⟩)) 1 2 false (.func (.func 31) #[.pointer (some ⟨w.heap.size + 1, 0, none⟩)] #[]) := (hB4.block _ (by omega)).trans hWk
    have hV := copyOut_one w0 w4 (w.heap.size + 1) c w.heap.size b [ep c, .pointer none, .slice none 0 0, .slice none 0 0, .slice none 0 0, .int .i64 699, .slice (some ⟨w.heap.size, 0, none⟩) 4 4] y0 y1 y2 y3 [.int .u8 0, .int .u8 0, .int .u8 0, .int .u8 0] vs A hr4 rfl rfl rfl ho4 rfl (HW.out.2.below hB04) hb hx hok hD0 hD1 hD2 hD3
    have cO := over_one w2.heap.size w3.heap.size 1 2 31 1 (.pointer (some ⟨w.heap.size + 1, 0, none⟩)) false (.pointer (some ⟨w.heap.size + 1, 0, none⟩)) (noNums.set 1 1#32) 1#32 1#32 w4 (fun k => Cmn w0 w4 k ∨ k = w.heap.size)
      (fun w' => w'.heap[w.heap.size]? = some (.cells #[u8v y0, u8v y1, u8v y2, u8v y3] 5 (0, 0)) ∧ BlkAt w' (w.heap.size + 1) [ep c, .pointer none, .slice none 0 0, .slice none 0 0, .slice none 0 0, .int .i64 699, .slice (some ⟨w.heap.size, 0, none⟩) 4 4] 84)
      hk4 hx4 rfl (by omega) rfl rfl rfl (fun e => by
        rcases e with e | e
        · exact cmn_not hk4 (cTag_not (by decide) (by decide) (by decide)) e
        · omega) (fun e => by
        rcases e with e | e
        · exact cmn_not hx4 (cTag_not (by decide) (by decide) (by decide)) e
        · omega) (enters_of Tryz.func31 (by kernel_rfl) rfl)
      (hV.mono (by
        rintro e w' ⟨rfl, v1, v2, v3⟩
        exact ⟨rfl, v3, v1, v2⟩))
    rw [hs2, hWs] at cO
    have H4 : Hid (Below w.heap.size w w4) := hB04
    clear hV hB2 hr2 ho2 hB03 hi3 hB4 hx4 hB24 hB04 hr4 ho4 hk4 hBW hWk hal
    simp only [readL, putAll, List.setIfInBounds_toArray, List.set_cons_zero, List.set_cons_succ]
    go_wp2_with (go_at_call 29; rw [← hw4]; refine cO.mono ?_; rintro e w5 ⟨rfl, hv⟩; clear cO hw4 d0 d1 d2 d3 d4 d5 d6 d7 d8 d9; refine Stop.out ?_)
    refine Stop.mk ?_
    obtain ⟨w1, hb1, ⟨v1, v2⟩, hw5⟩ := hv
    have z2 : BlkAt w5 (w.heap.size + 1) [ep c, .pointer none, .slice none 0 0, .slice none 0 0, .slice none 0 0, .int .i64 699, .slice (some ⟨w.heap.size, 0, none⟩) 4 4] 84 := by rw [hw5]; exact (Below.heap_setCell _ _ _ _ (fun e => absurd (show w.heap.size + 1 = w.heap.size + 3 from e) (by omega))).trans v2
    have z1 : w5.heap[w.heap.size]? = some (.cells #[u8v y0, u8v y1, u8v y2, u8v y3] 5 (0, 0)) := by rw [hw5]; exact (Below.heap_setCell _ _ _ _ (fun e => absurd (show w.heap.size = w.heap.size + 3 from e) (by omega))).trans v1
    have z3 : But (Cmn w0 w) w w5 := by
      rw [hw5]
      refine ((But.of_below (S := Cmn w0 w) H4.out).after hb1 (fun i hi hc => ?_)).after (((But.refl (fun k => k = w.heap.size + 3) w1)).setCell _ rfl _) (fun i hi e => by
        have e' : i = w.heap.size + 3 := e
        omega)
      rcases hc with hc | hc
      · exact ⟨hc.1, fun cs t fr hk => hc.2 cs t fr ((H4.out.block i hi).trans hk)⟩
      · omega
    have d6 := z2.cell (i := 6) rfl
    have HZ : Hid (w5.heap[w.heap.size]? = some (.cells #[u8v y0, u8v y1, u8v y2, u8v y3] 5 (0, 0)) ∧ But (Cmn w0 w) w w5) := ⟨z1, z3⟩
    clear hb1 v1 v2 hw5 z1 z2 z3
    go_wp2
    go_ret2
    exact ⟨w.heap.size, rfl, HZ.out.1, Nat.le_refl _, HZ.out.2⟩

end Go.Proofs.YtebdgcoandfocaaGreatDoor

/-
  disk and begun of the law of package inode.
-/
namespace Go.Proofs.YtebdgcoandfocaaGreatDoor
open Go.RowKit Go.Maps Go.Sort Go.Shelf

def newA : AC := ⟨1000, [], 0, 0, 0, 0⟩

set_option maxRecDepth 8000 in
set_option maxHeartbeats 2000000 in
theorem disk_any (blocks : Nat) (w : World) (ht : Tab w) (ht6 : Bm.Tab64 w) (h2 : 2 ≤ blocks) (h48 : blocks ≤ 200) :
    Calls Tryz.prog 7 #[.int .i64 (blocks : Nat)] w fun e w' => ∃ (c s : Nat) (vs : VS), e = .returned (.tuple #[ep c, .pointer (some ⟨s + 1, 0, none⟩)]) ∧ CW w w' c vs newA 0 ∧ nbOf vs.d.n = blocks ∧ (∀ i, i < blocks → vs.cont i = zeroB) ∧ Bm.MapAt w' ((Bm.newMS s blocks).turn 0) ∧ w.heap.size ≤ s ∧ Below w.heap.size w w' := by
  have cV := volume_any blocks w ht (by omega) (by omega)
  have HT : Hid (Tab w ∧ Bm.Tab64 w) := ⟨ht, ht6⟩
  clear ht ht6
  go_enter Tryz.func7, Tryz.ntmps7
  go_wp2_with (go_at_call 21; refine cV.mono ?_; rintro e w1 ⟨vs, rfl, hI1, hz1, hnb1, hc1, hB1, hlo1⟩; clear cV; refine Stop.out ?_)
  refine Stop.mk ?_
  have cN : Calls Tryz.prog 20 #[dp vs.v, .int .i64 1000] w1 _ := new_ok 1000 vs w1 hI1 (by omega) (by omega)
  have H1 : Hid (nbOf vs.d.n = blocks ∧ (∀ i, i < blocks → vs.cont i = zeroB) ∧ Below w.heap.size w w1) := ⟨hnb1, hc1, hB1⟩
  clear hI1 hz1 hnb1 hc1 hB1 hlo1
  go_wp2_with (go_at_call 20; refine cN.mono ?_; rintro e w2 ⟨c, hh, rfl, hI2, hB2, hhl, hcl⟩; clear cN; refine Stop.out ?_)
  refine Stop.mk ?_
  have hB02 : Below w.heap.size w w2 := H1.out.2.2.trans (hB2.mono H1.out.2.2.size)
  have cM := Bm.new_in blocks w2 (by omega) (HT.out.2.below hB02).lt
  have hs12 := H1.out.2.2.size
  have hs02 := hB02.size
  have H2 : Hid (CW w w2 c vs newA 0 ∧ Below w.heap.size w w2 ∧ w.heap.size ≤ w2.heap.size) := ⟨⟨newS c vs.v 1000 hh, fun _ => [], hI2, ⟨Nat.zero_le _, Nat.zero_le _, Nat.zero_le _, Nat.zero_le _, Nat.zero_le _⟩, rfl, rfl, by show w.heap.size ≤ hh; omega⟩, hB02, hs02⟩
  clear hI2 hB2 hhl hcl hB02 hs12 hs02
  go_wp2_with (go_at_call 22; refine cM.mono ?_; rintro e w3 ⟨rfl, hm3, hB3⟩; clear cM; refine Stop.out ?_)
  refine Stop.mk ?_
  have cS := set_free 0 _ w3 hm3 (show 0 < blocks by omega) (Bm.used_zero _ _)
  have H3 : Hid (CW w w3 c vs newA 0 ∧ Below w.heap.size w w3 ∧ Bm.MapAt w3 (Bm.newMS w2.heap.size blocks)) := ⟨H2.out.1.below hB3, H2.out.2.1.trans (hB3.mono H2.out.2.2), hm3⟩
  clear hm3 hB3
  have cS' : Calls Tryz.prog 23 #[.pointer (some ⟨w2.heap.size + 1, 0, none⟩), .int .i64 0] w3 _ := cS
  clear cS
  go_wp2_with (go_at_call 23; refine cS'.mono ?_; rintro e w4 ⟨rfl, hm4, hb4⟩; clear cS')
  go_ret2
  refine ⟨c, w2.heap.size, vs, rfl, H3.out.1.foreign hb4 (fun k hk => ?_), H1.out.1, H1.out.2.1, hm4, H2.out.2.2, H3.out.2.1.trans (hb4.below H3.out.2.1.size (fun k hk => ?_))⟩
  · obtain ⟨_, h, _⟩ := H3.out.2.2.row
    rw [show k = _ from hk]
    exact ⟨_, _, _, h, by unfold foreignT; decide⟩
  · have e : k = w2.heap.size := hk
    have := H2.out.2.2
    omega

theorem abc_at0 (x0 x1 x2 : BitVec 8) : (abcB x0 x1 x2)[187]? = some 0#8 := by
  unfold abcB
  rw [List.getElem?_append_left (by rw [List.length_replicate]; omega), List.getElem?_replicate, if_pos (by omega)]
theorem abc_at (x0 x1 x2 : BitVec 8) (j : Nat) (x : BitVec 8) (hj : [x0, x1, x2][j]? = some x) (h3 : j < 3) : (abcB x0 x1 x2)[188 + j]? = some x := by
  unfold abcB
  rw [List.getElem?_append_right (by rw [List.length_replicate]; omega), List.length_replicate, List.getElem?_append_left (by simp only [List.length_cons, List.length_nil]; omega), show 188 + j - 188 = j by omega]
  exact hj
theorem wrote_data (d d' D : By) : ((wroteA newA d D).meet 1 d' id).dataOf 1 = D := rfl
theorem num703 : (numOf (inoBytes 703#32 (noNums.set 1 1#32)) 0).toNat = 703 := by decide
theorem used_t0 (s j : Nat) : Bm.used ((Bm.newMS s 20).turn 0).ws j = decide (j = 0) := by
  show Bm.used (Bm.turned (List.replicate ((20 + 63) / 64) 0) 0) j = _
  rw [Bm.turned_used (by rw [List.length_replicate]; decide), Bm.used_zero, Bm.used_zero]
  by_cases h : j = 0
  · rw [if_pos h]; simp [h]
  · rw [if_neg h]; simp [h]
theorem used_t1 (s j : Nat) : Bm.used (((Bm.newMS s 20).turn 0).turn 1).ws j = decide (j ≤ 1) := by
  show Bm.used (Bm.turned ((Bm.newMS s 20).turn 0).ws 1) j = _
  rw [Bm.turned_used (by show 1 / 64 < (Bm.turned (List.replicate ((20 + 63) / 64) 0) 0).length; rw [Bm.turned_length, List.length_replicate]; decide), used_t0, used_t0]
  by_cases h : j = 1
  · rw [if_pos h]; simp [h]
  · rw [if_neg h, Bool.eq_iff_iff]; simp; omega
theorem free18 (s : Nat) : (20 - Bm.cnt (Bm.used (((Bm.newMS s 20).turn 0).turn 1).ws) 20 : Nat) = 18 := by
  rw [Bm.cnt_congr 20 (V := fun j => decide (j ≤ 1)) (fun i _ => used_t1 s i)]
  decide
theorem str4 : strOf [0#8, 97#8, 98#8, 99#8] = ⟨#[0, 97, 98, 99]⟩ := rfl

set_option maxRecDepth 8000 in
set_option maxHeartbeats 4000000 in
theorem begun9_true (w : World) (ht : Tab w) (ht6 : Bm.Tab64 w) : Calls Tryz.prog 6 #[] w fun e w' => e = .returned (.bool true) ∧ Below w.heap.size w w' := by
  have cD : Calls Tryz.prog 7 #[.int .i64 20] w _ := disk_any 20 w ht ht6 (by omega) (by omega)
  have HT : Hid (Tab w ∧ Bm.Tab64 w) := ⟨ht, ht6⟩
  clear ht ht6
  go_enter Tryz.func6, Tryz.ntmps6
  go_wp2_with (go_at_call 7; refine cD.mono ?_; rintro e w1 ⟨c, s, vs, rfl, hC1, hnb, hcont, hm1, hsl, hB1⟩; clear cD; refine Stop.out ?_)
  refine Stop.mk ?_
  have cN := inew_any w1
  have H1 : Hid (CW w w1 c vs newA 0 ∧ nbOf vs.d.n = 20 ∧ Bm.MapAt w1 ((Bm.newMS s 20).turn 0) ∧ w.heap.size ≤ s ∧ Below w.heap.size w w1) := ⟨hC1, hnb, hm1, hsl, hB1⟩
  clear hC1 hnb hcont hm1 hsl hB1
  go_wp2_with (go_at_call 8; refine cN.mono ?_; rintro e w2 ⟨rfl, hi2, hB2⟩; clear cN; refine Stop.out ?_)
  refine Stop.mk ?_
  obtain ⟨hC1, hnb, hm1, hsl, hB1⟩ := H1.out
  have cv : (convert 30 30 (.slice (some ⟨w2.heap.size, 0, none⟩) 3 3)).run Tryz.prog (w2.alloc (.cells #[.int .u8 97, .int .u8 98, .int .u8 99] 5)) = .ok (.slice (some ⟨w2.heap.size, 0, none⟩) 3 3) (w2.alloc (.cells #[.int .u8 97, .int .u8 98, .int .u8 99] 5 (3, 4))) := Lib.run_convert_bytes_const w2 30 5 #[.int .u8 97, .int .u8 98, .int .u8 99] 3 3 Tryz.underlying30 Tryz.underlying5
  obtain ⟨w3, hw3⟩ : ∃ w3, w3 = w2.alloc (.cells #[.int .u8 97, .int .u8 98, .int .u8 99] 5 (3, 4)) := ⟨_, rfl⟩
  have hB3 : Below w2.heap.size w2 w3 := by rw [hw3]; exact (Below.refl _ w2).alloc (Nat.le_refl _) _
  have hx3 : w3.heap[w2.heap.size]? = some (.cells #[u8v 97#8, u8v 98#8, u8v 99#8] 5 (3, 4)) := by rw [hw3]; exact heap_alloc_new w2 _
  have hB13 : Below w1.heap.size w1 w3 := hB2.trans (hB3.mono hB2.size)
  have hB03 : Below w.heap.size w w3 := hB1.trans (hB13.mono hB1.size)
  have cW := write_first w w3 w1.heap.size c w2.heap.size 0 97#8 98#8 99#8 vs newA ((Bm.newMS s 20).turn 0) (hi2.below hB3 hi2.lt) (hC1.below hB13) (by omega) (by omega) (.inr rfl) (fun e he => by cases he) ⟨⟨1, 1, 1, false, vs.cont 1⟩, List.mem_singleton.2 rfl, rfl, rfl⟩ ⟨⟨1, 1, 2, true, abcB 97#8 98#8 99#8⟩, List.mem_singleton.2 rfl, rfl, Nat.one_pos, by decide⟩ (hm1.below hB13) (HT.out.2.below hB03) (by show 1 < 20; omega) (by rw [used_t0]; rfl) (by rw [used_t0]; rfl) hx3
  have hs1 := hB1.size
  have H3 : Hid (Below w.heap.size w w3) := hB03
  clear hC1 hm1 hsl hB1 hi2 hB2 hB3 hx3 hB13 hB03
  go_wp2_with (go_at_call 11; rw [← hw3]; refine cW.mono ?_; rintro e w4 ⟨rfl, hi4, hC4, hm4, hb4⟩; clear cW cv hw3; refine Stop.out ?_)
  refine Stop.mk ?_
  have cR := read_first w w4 w1.heap.size c 3 0#8 97#8 98#8 99#8 vs _ hi4 hC4 (by omega) (by omega) (.inl rfl) (by rw [wrote_data]; exact abc_at0 _ _ _) (by rw [wrote_data]; exact abc_at _ _ _ 0 _ rfl (by omega)) (by rw [wrote_data]; exact abc_at _ _ _ 1 _ rfl (by omega)) (by rw [wrote_data]; exact abc_at _ _ _ 2 _ rfl (by omega))
  have hB04 : Below w.heap.size w w4 := H3.out.trans (hb4.below H3.out.size (fun k hk => by
    rcases hk with hk | hk | hk
    · exact hk.1
    · have e : k = s := hk
      have := H1.out.2.2.2.1
      omega
    · omega))
  have H4 : Hid (InoAt w4 w1.heap.size 703 (noNums.set 1 1#32) ∧ Bm.MapAt w4 (((Bm.newMS s 20).turn 0).turn 1) ∧ Below w.heap.size w w4) := ⟨hi4, hm4, hB04⟩
  clear hi4 hC4 hm4 hb4 hB04
  go_wp2_with (go_at_call 14; refine cR.mono ?_; rintro e w5 ⟨og, rfl, ho5, hog, hb5⟩; clear cR; refine Stop.out ?_)
  refine Stop.mk ?_
  obtain ⟨hi4, hm4, hB04⟩ := H4.out
  have hi5 : InoAt w5 w1.heap.size 703 (noNums.set 1 1#32) := hi4.but hb5 (cmn_not hi4 (cTag_not (by decide) (by decide) (by decide)))
  obtain ⟨c6, hrow4, _⟩ := hm4.row
  have hm5 : Bm.MapAt w5 (((Bm.newMS s 20).turn 0).turn 1) := hm4.keep (but_only hb5) (cmn_not hm4.st (cTag_not (by decide) (by decide) (by decide))) (cmn_not hrow4 (cTag_not (by decide) (by decide) (by decide)))
  have hB05 : Below w.heap.size w w5 := hB04.trans (hb5.below hB04.size (fun k hk => hk.1))
  have cB := ibytes_any w1.heap.size 703#32 (noNums.set 1 1#32) rfl w5 hi5
  have H5 : Hid (InoAt w5 w1.heap.size 703 (noNums.set 1 1#32) ∧ Bm.MapAt w5 (((Bm.newMS s 20).turn 0).turn 1) ∧ Below w.heap.size w w5 ∧ w5.heap[og]? = some (.cells #[u8v 0#8, u8v 97#8, u8v 98#8, u8v 99#8] 5 (0, 0))) := ⟨hi5, hm5, hB05, ho5⟩
  clear hi4 hm4 hB04 hi5 hrow4 hm5 hB05 ho5 hb5
  go_wp2_with (go_at_call 16; refine cB.mono ?_; rintro e w6 ⟨rfl, hx6, hB6⟩; clear cB; refine Stop.out ?_)
  refine Stop.mk ?_
  obtain ⟨bs, hbs⟩ : ∃ bs, bs = inoBytes 703#32 (noNums.set 1 1#32) := ⟨_, rfl⟩
  have hbl : bs.length = 44 := by rw [hbs]; rfl
  have hn7 : (numOf bs 0).toNat = 703 := by rw [hbs]; exact num703
  rw [← hbs] at hx6
  have cL := load_ok (some ⟨w5.heap.size, 0, none⟩) bs 44 w6 (bytes_block hx6) (by omega) hbl (by omega)
  rw [hbl, hn7] at cL
  have H6 : Hid (Below w5.heap.size w5 w6) := hB6
  clear hbs hx6 hB6 hbl
  go_wp2_with (go_at_call 15; refine cL.mono ?_; rintro e w7 ⟨rfl, hi7, hB7⟩; clear cL; refine Stop.out ?_)
  refine Stop.mk ?_
  obtain ⟨hi5, hm5, hB05, ho5⟩ := H5.out
  have hB57 : Below w5.heap.size w5 w7 := H6.out.trans (hB7.mono H6.out.size)
  have hm7 := hm5.below hB57
  have ho7 : w7.heap[og]? = some (.cells #[u8v 0#8, u8v 97#8, u8v 98#8, u8v 99#8] 5 (0, 0)) := (hB57.block og (Array.getElem?_eq_some_iff.1 ho5).1).trans ho5
  have hstr : (convert 30 9 (.slice (some ⟨og, 0, none⟩) 4 4)).run Tryz.prog w7 = .ok (.string ⟨#[0, 97, 98, 99]⟩) w7 := by
    have := run_str w7 (some ⟨og, 0, none⟩) [0#8, 97#8, 98#8, 99#8] 4 (bytes_block ho7)
    rw [str4] at this
    exact this
  have cS := isize_any w6.heap.size 703 _ w7 hi7
  have tight : Bm.Tight 20 (((Bm.newMS s 20).turn 0).turn 1).ws := by
    have f0 : Bm.Tight 20 (Bm.newMS s 20).ws := fun i _ => Bm.used_zero _ _
    exact (f0.turned (H1.out.2.2.1.fit.turned 0 |> fun _ => (show Bm.Fit 20 (Bm.newMS s 20).ws from ⟨rfl, by omega, fun j x hj => by
      have : x ∈ (Bm.newMS s 20).ws := List.mem_of_getElem? hj
      have : x = 0 := List.eq_of_mem_replicate this
      omega⟩)) (by omega)).turned H1.out.2.2.1.fit (by omega)
  have cF := Bm.free_any _ w7 hm7 tight
  rw [show (((Bm.newMS s 20).turn 0).turn 1).n = 20 from rfl, free18 s] at cF
  have cC := cost_any 513 w7
  rw [show costI 513 = 2 by decide] at cC
  have H7 : Hid (Below w.heap.size w w7) := hB05.trans (hB57.mono hB05.size)
  clear hi5 hm5 hB05 ho5 hB57 hm7 ho7 tight hi7 hB7
  go_wp2_with (first
    | (go_at_call 18; refine Calls_on cS ?_; clear cS)
    | (go_at_call 9; refine Calls_on cF ?_; clear cF)
    | (go_at_call 19; refine Calls_on cC ?_; clear cC))
  go_ret
  exact ⟨rfl, H7.out⟩

end Go.Proofs.YtebdgcoandfocaaGreatDoor

/-
  What every proof of package inode's law begins with: the two tables.
-/
namespace Go.Proofs.YtebdgcoandfocaaGreatDoor
open Go.ChangeShapes Go.WideShapes Go.ChangeAt Go.RowKit

theorem laid_tail {P : Program} {x : String × DataW Unit} {rest : List (String × DataW Unit)} {W : World} (h : laidMet P (x :: rest) W) : laidMet P rest W := by
  obtain ⟨ps, ⟨g', t', cs, fuel, p, q, hg', ht', hvar, hd, hrest, hps⟩, hnd, hall⟩ := h
  subst hps
  exact ⟨q, hrest, (List.nodup_append.1 hnd).2.1, fun b off hm => hall b off (List.mem_append_right _ hm)⟩

theorem gTab64 : Tryz.prog.globalNamed "math/bits.deBruijn64tab" = some 1 := by kernel_rfl
theorem gTab64Type : (Tryz.prog.globals[1]?).map (·.type) = some 216 := by kernel_rfl
theorem cellsTab64 : Tryz.prog.cellsOf 216 = 64 := by kernel_rfl
theorem cellsU8 : Tryz.prog.cellsOf 5 = 1 := by kernel_rfl
def deB : List Int := Lib.deBruijn64tab.map fun (n : Nat) => (n : Int)

theorem tabs_of_laid {W : World} (h : laidMetH Tryz.prog [("lagoon/crc.steps", Rows.laid_lagoon_crc_steps), ("math/bits.deBruijn64tab", Rows.laid_math_bits_deBruijn64tab)] W) : Tab W ∧ Bm.Tab64 W := by
  have h' : laidMet Tryz.prog [("lagoon/crc.steps", Rows.laid_lagoon_crc_steps), ("math/bits.deBruijn64tab", Rows.laid_math_bits_deBruijn64tab)] W := h
  have ht : Lib.TabIs Tryz.prog W "lagoon/crc.steps" .u32 [0, 498536548, 997073096, 651767980, 1994146192, 1802195444, 1303535960, 1342533948, 3988292384, 4027552580, 3604390888, 3412177804, 2607071920, 2262029012, 2685067896, 3183342108] :=
    Lib.tabIs_of_head gTab gTabType Tryz.underlying205 Tryz.underlying53 cellsU32 cellsTab h'
  have ht2 : Lib.TabIs Tryz.prog W "math/bits.deBruijn64tab" .u8 deB :=
    Lib.tabIs_of_head (rest := []) gTab64 gTab64Type Tryz.underlying216 Tryz.underlying5 cellsU8 cellsTab64 (laid_tail h')
  constructor
  · intro k z hk
    have hlt : k < 16 := (List.getElem?_eq_some_iff.1 hk).1
    have hc := ht.cell gTab k (by simpa using hlt)
    rw [hc]
    match k, hlt with
    | 0, _ | 1, _ | 2, _ | 3, _ | 4, _ | 5, _ | 6, _ | 7, _ | 8, _ | 9, _ | 10, _ | 11, _ | 12, _ | 13, _ | 14, _ | 15, _ => cases hk; rfl
  · intro k hk
    have hc := ht2.cell gTab64 k (show k < deB.length from hk)
    rw [hc]
    have : deB.getD k 0 = ((Lib.deBruijn64tab.getD k 0 : Nat) : Int) := by
      unfold deB
      rw [List.getD, List.getElem?_map, List.getD]
      have hl : k < Lib.deBruijn64tab.length := hk
      rw [List.getElem?_eq_getElem hl]
      rfl
    rw [← this]

/- The laws. -/

end Go.Proofs.YtebdgcoandfocaaGreatDoor

/-
  A file in memory, through the laws of package inode: how it begins, what Free answers, what else is kept.
-/
namespace Go.Proofs.YtebdgcoandfocaaGreatDoor
open Go.RowKit Go.Maps Go.Sort Go.Shelf

theorem frees_cnt (U : Nat → Bool) : ∀ n, (Ino.frees n U).length + Bm.cnt U n = n
  | 0 => rfl
  | n + 1 => by
    have ih := frees_cnt U n
    have e : Ino.frees (n + 1) U = Ino.frees n U ++ (if U n = true then [] else [n]) := by
      unfold Ino.frees
      rw [List.range_succ, List.filter_append]
      cases h : U n <;> simp [h]
    rw [e, List.length_append]
    show _ + (Bm.cnt U n + (U n).toNat) = _
    cases h : U n
    · simp; omega
    · simp; omega

theorem used_first (s n j : Nat) (hn : 0 < n) : Bm.used ((Bm.newMS s n).turn 0).ws j = decide (j = 0) := by
  show Bm.used (Bm.turned (List.replicate ((n + 63) / 64) 0) 0) j = _
  rw [Bm.turned_used (by rw [List.length_replicate]; omega), Bm.used_zero, Bm.used_zero]
  by_cases h : j = 0
  · rw [if_pos h]; simp [h]
  · rw [if_neg h]; simp [h]
theorem tight_first (s n : Nat) (hn : 0 < n) : Bm.Tight n ((Bm.newMS s n).turn 0).ws := fun i hi => by
  rw [used_first s n i hn]; simp; omega

/-- A new file on a new disk. -/
theorem Fil.start {w0 w w' : World} {a c s blocks : Nat} {vs : VS} (h2 : 2 ≤ blocks) (hC : CW w0 w c vs newA 0) (hnb : nbOf vs.d.n = blocks) (hm : Bm.MapAt w ((Bm.newMS s blocks).turn 0)) (hB : Below w.heap.size w w') (hi : InoAt w' a 0 noNums) :
    Fil w0 w' a c vs ((Bm.newMS s blocks).turn 0) (fun _ => 0) vs.cont 0 (fun _ => 0) 0 where
  ino := hi
  lc := ⟨newA, hC.below hB, ⟨rfl, List.nodup_nil, (fun e he => by cases he), fun x _ => ⟨rfl, rfl⟩⟩⟩
  map := hm.below hB
  file := Ino.File.new _ _ _ (fun x hx => by rw [used_first s blocks x (by omega)]; simp)
  nn := hnb.symm
  pos := by show 0 < blocks; omega
  tight := tight_first s blocks (by omega)

section
variable {w0 w w' : World} {a c : Nat} {vs : VS} {m : Bm.MS} {G : Ino.Gs} {V : Nat → By} {sz : Nat} {W : Nat → BitVec 8} {b : Nat}

/-- How many blocks are free. -/
theorem free_F (h : Fil w0 w a c vs m G V sz W b) : Calls Tryz.prog 9 #[.pointer (some ⟨m.a, 0, none⟩)] w fun e w' => e = .returned (.int .i64 ((m.n - 1 - Ino.cnt G : Nat) : Int)) ∧ w' = w := by
  have h1 := Bm.free_any m w h.map h.tight
  have h2 := frees_cnt (Bm.used m.ws) m.n
  have h3 := h.file.count h.pos
  rw [show m.n - Bm.cnt (Bm.used m.ws) m.n = m.n - 1 - Ino.cnt G by omega] at h1
  exact h1
theorem Fil.frees (h : Fil w0 w a c vs m G V sz W b) : (Ino.frees m.n (Bm.used m.ws)).length = m.n - 1 - Ino.cnt G := by
  have h3 := h.file.count h.pos
  omega
theorem Fil.below (h : Fil w0 w a c vs m G V sz W b) (hB : Below w.heap.size w w') : Fil w0 w' a c vs m G V sz W b :=
  ⟨h.ino.below hB h.ino.lt, h.lc.below hB, h.map.below hB, h.file, h.nn, h.pos, h.tight⟩

theorem row_out {w0 w : World} {g : Nat} {cs : Array Value} {fr : Nat × Nat} (hg : w.heap[g]? = some (.cells cs 5 fr)) : g < w.heap.size ∧ ¬ Cmn w0 w g := ⟨(Array.getElem?_eq_some_iff.1 hg).1, cmn_not hg (cTag_not (by decide) (by decide) (by decide))⟩
/-- Nothing that lay there ahead of the disk is turned. -/
theorem Fil.lowB (hb : But (fun k => Cmn w0 w k ∨ k = m.b ∨ k = a) w w') (hs : w0.heap.size ≤ w.heap.size) (hm : w0.heap.size ≤ m.b) (ha : w0.heap.size ≤ a) : Below w0.heap.size w w' :=
  hb.below hs (fun k hk => by
    rcases hk with hk | hk | hk
    · exact hk.1
    · omega
    · omega)
theorem Fil.lowC (hb : But (Cmn w0 w) w w') (hs : w0.heap.size ≤ w.heap.size) : Below w0.heap.size w w' := hb.below hs (fun _ hk => hk.1)
end

section
variable {w0 w w' : World} {a c : Nat} {vs : VS} {m : Bm.MS} {G : Ino.Gs} {V : Nat → By} {sz : Nat} {W : Nat → BitVec 8} {b : Nat}

end

end Go.Proofs.YtebdgcoandfocaaGreatDoor

/-
  InodeHoles.
-/
namespace Go.Proofs.YtebdgcoandfocaaGreatDoor
open Go.RowKit Go.Maps Go.Sort Go.Shelf

theorem idx_one {f : Nat} (hf : f < 128) : (Ino.idx f (f + 1)).length ≤ 3 := by
  unfold Ino.idx
  by_cases h1 : f < 72 ∧ 8 < f + 1 <;> by_cases h2 : 72 < f + 1
  all_goals simp only [h1, h2, if_true, if_false, List.length_append, List.length_cons, Ino.span_length, List.length_nil, and_self]
  all_goals omega

theorem cnt_one {G G' : Ino.Gs} {f : Nat} (hf : f < 128) (h0 : ∀ i, G i = 0) (h1 : ∀ i, i ∈ Ino.idx f (f + 1) → G' i ≠ 0) (h2 : ∀ i, i ∉ Ino.idx f (f + 1) → G' i = G i) : 1 ≤ Ino.cnt G' ∧ Ino.cnt G' ≤ 3 := by
  have hm : f ∈ Ino.hasL G' := Ino.mem_hasL.2 ⟨by omega, h1 f ((Ino.mem_idx (by omega) (by omega)).2 (.inl ⟨by omega, by omega⟩))⟩
  refine ⟨List.length_pos_of_mem hm, Nat.le_trans (len_sub (A := Ino.idx f (f + 1)) (List.nodup_range.filter _) fun a ha => ?_) (idx_one hf)⟩
  apply Classical.byContradiction
  intro hn
  exact (Ino.mem_hasL.1 ha).2 ((h2 a hn).trans (h0 a))

set_option maxRecDepth 8000 in
set_option maxHeartbeats 2000000 in
theorem holes_bad (at_ cut x : Int) (w : World) (ht : Tab w) (ht6 : Bm.Tab64 w) (hbad : at_ < 0 ∨ 65536 ≤ at_ ∨ cut < 0 ∨ at_ < cut) :
    Calls Tryz.prog 4 #[.int .i64 at_, .int .u8 x, .int .i64 cut] w fun e w' => e = .returned (.bool true) ∧ Below w.heap.size w w' := by
  have cb := begun9_true w ht ht6
  have cD : ∀ W, Below w.heap.size w W → Calls Tryz.prog 7 #[.int .i64 200] W fun e w' => ∃ c s : Nat, e = .returned (.tuple #[ep c, .pointer (some ⟨s + 1, 0, none⟩)]) ∧ Below w.heap.size w w' := fun W hW => by
    refine (show Calls Tryz.prog 7 #[.int .i64 200] W _ from disk_any 200 W (below_tab hW ht.lt ht) (ht6.below hW) (by omega) (by omega)).mono ?_
    rintro e w' ⟨c, s, vs, rfl, _, _, _, _, _, hB⟩
    exact ⟨c, s, rfl, hW.trans (hB.mono hW.size)⟩
  have HD := hide cD
  clear ht ht6 cD
  have key : Hid (decide (at_ < 0) = true ∨ (decide (at_ < 0) = false ∧ decide (65536 ≤ at_) = true) ∨ (decide (at_ < 0) = false ∧ decide (65536 ≤ at_) = false ∧ decide (cut < 0) = true) ∨ (decide (at_ < 0) = false ∧ decide (65536 ≤ at_) = false ∧ decide (cut < 0) = false ∧ decide (at_ < cut) = true)) := by
    show _ ∨ _
    simp only [decide_eq_true_eq, decide_eq_false_iff_not]
    omega
  clear hbad
  go_enter Tryz.func4, Tryz.ntmps4
  go_wp2_with (go_at_call 6; refine cb.mono ?_; rintro e w1 ⟨rfl, hB⟩; clear cb; refine Stop.out ?_)
  refine Stop.mk ?_
  have cD := HD.out w1 hB
  clear hB HD
  go_wp2_with (go_at_call 7; refine cD.mono ?_; rintro e w2 ⟨c, s, rfl, hB⟩; clear cD; refine Stop.out ?_)
  refine Stop.mk ?_
  have cN := inew_any w2
  have HB := hide hB
  clear hB
  go_wp2_with (go_at_call 8; refine cN.mono ?_; rintro e w3 ⟨rfl, hi, hB3⟩; clear cN; refine Stop.out ?_)
  refine Stop.mk ?_
  have HF := hide (HB.out.trans (hB3.mono HB.out.size))
  clear hi hB3 HB
  rcases key.out with k1 | ⟨k1, k2⟩ | ⟨k1, k2, k3⟩ | ⟨k1, k2, k3, k4⟩
  all_goals
    clear key
    simp only [decide_eq_true_eq, decide_eq_false_iff_not] at *
    go_wp2
    go_ret
    exact ⟨rfl, HF.out⟩

/-- Write of one byte to a new file. -/
theorem write_one {w0 w : World} {a c : Nat} {vs : VS} {m : Bm.MS} {V : Nat → By} {b : Nat} (h : Fil w0 w a c vs m (fun _ => 0) V 0 (fun _ => 0) b) (hb : b + 30000 ≤ 700000) (hn : m.n = 200) (ht : Bm.Tab64 w) (h6 : 1 < w0.heap.size) (g at_ : Nat) (x : BitVec 8) (hx : w.heap[g]? = some (.cells #[u8v x] 5 (0, 0))) (hat : at_ < 65536) :
    Calls Tryz.prog 11 #[.pointer (some ⟨a, 0, none⟩), ep c, .pointer (some ⟨m.a, 0, none⟩), .int .i64 (at_ : Nat), .slice (some ⟨g, 0, none⟩) 1 1] w fun e w' => e = .returned (.int .i64 0) ∧ But (fun k => Cmn w0 w k ∨ k = m.b ∨ k = a) w w' ∧ ∃ m' G' V', m'.a = m.a ∧ m'.b = m.b ∧ m'.n = m.n ∧ Fil w0 w' a c vs m' G' V' (at_ + 1) (Ino.wrote (fun _ => 0) at_ [x]) (b + 20000) ∧ 1 ≤ Ino.cnt G' ∧ Ino.cnt G' ≤ 3 := by
  have hbl : blocksOf (at_ + [x].length) = at_ / 512 + 1 := by simp [blocksOf]; omega
  refine (show Calls Tryz.prog 11 #[.pointer (some ⟨a, 0, none⟩), ep c, .pointer (some ⟨m.a, 0, none⟩), .int .i64 (at_ : Nat), .slice (some ⟨g, 0, none⟩) 1 1] w _ from write_F h hb ht h6 g 0 1 at_ [x] (bytes_block (bs := [x]) hx) (row_out hx) (by simp) (by simp) (by simp; omega)).mono ?_
  rintro e w' ⟨hb5, ⟨rfl, m', G', V', ea, eb, en, F5, g1, g2⟩ | ⟨_, hlt, _⟩⟩
  · rw [show max 0 (at_ + [x].length) = at_ + 1 by simp] at F5
    rw [hbl] at g1 g2
    obtain ⟨q1, q2⟩ := cnt_one (by omega) (fun _ => rfl) g1 g2
    exact ⟨rfl, hb5, m', G', V', ea, eb, en, F5, q1, q2⟩
  · exfalso
    have hfr := h.frees
    rw [show Ino.cnt (fun _ => 0) = 0 by decide, hn] at hfr
    rw [hn] at hlt
    rw [hfr, hbl] at hlt
    have h1 : Ino.costB (at_ / 512 + 1) ≤ Ino.costB 128 := Ino.costB_mono (by omega)
    have h2 : Ino.costB 128 = 131 := by decide
    omega

set_option maxRecDepth 8000 in
set_option maxHeartbeats 8000000 in
theorem holes_ok (at_ cut : Nat) (x : BitVec 8) (w : World) (ht : Tab w) (ht6 : Bm.Tab64 w) (hat : at_ < 65536) (hcut : cut ≤ at_) :
    Calls Tryz.prog 4 #[.int .i64 (at_ : Nat), .int .u8 (x.toNat : Int), .int .i64 (cut : Nat)] w fun e w' => e = .returned (.bool true) ∧ Below w.heap.size w w' := by
  have cb := begun9_true w ht ht6
  have HT := hide (⟨ht, ht6⟩ : _ ∧ _)
  have h6 := ht6.lt
  clear ht ht6
  obtain ⟨A, hA⟩ : ∃ A : Int, (at_ : Int) = A := ⟨_, rfl⟩
  obtain ⟨C, hC⟩ : ∃ C : Int, (cut : Int) = C := ⟨_, rfl⟩
  have k1 : ¬ (A < 0) := by omega
  have k2 : ¬ (65536 ≤ A) := by omega
  have k3 : ¬ (C < 0) := by omega
  have k4 : ¬ (A < C) := by omega
  rw [hA, hC]
  have HA := hide (⟨hA, hC, hat, hcut⟩ : _ ∧ _ ∧ _ ∧ _)
  clear hA hC hat hcut
  go_enter Tryz.func4, Tryz.ntmps4
  go_wp2_with (go_at_call 6; refine cb.mono ?_; rintro e w1 ⟨rfl, hB1⟩; clear cb; refine Stop.out ?_)
  refine Stop.mk ?_
  have cD : Calls Tryz.prog 7 #[.int .i64 200] w1 _ := disk_any 200 w1 (below_tab hB1 HT.out.1.lt HT.out.1) (HT.out.2.below hB1) (by omega) (by omega)
  have hs1 := hB1.size
  have H1 := hide hB1
  clear hB1
  go_wp2_with (go_at_call 7; refine cD.mono ?_; rintro e w2 ⟨c, s, vs, rfl, hC2, hnb, hcont, hm2, hsl, hB2⟩; clear cD; refine Stop.out ?_)
  refine Stop.mk ?_
  have cN := inew_any w2
  have H2 := hide (⟨hC2, hnb, hm2, hsl, hB2⟩ : _ ∧ _ ∧ _ ∧ _ ∧ _)
  clear hC2 hnb hcont hm2 hsl hB2
  go_wp2_with (go_at_call 8; refine cN.mono ?_; rintro e w3 ⟨rfl, hi3, hB3⟩; clear cN; refine Stop.out ?_)
  refine Stop.mk ?_
  obtain ⟨hC2, hnb, hm2, hsl, hB2⟩ := H2.out
  obtain ⟨a, ha⟩ : ∃ a, w2.heap.size = a := ⟨_, rfl⟩
  rw [ha] at hi3 ⊢
  have F3 := Fil.start (by omega) hC2 hnb hm2 hB3 hi3
  have hal : w1.heap.size ≤ a := by rw [← ha]; exact hB2.size
  have hB13 : Below w1.heap.size w1 w3 := hB2.trans (hB3.mono hB2.size)
  have cF := free_F F3
  have hz : Ino.cnt (fun _ => 0) = 0 := by decide
  rw [hz] at cF
  have cF' : Calls Tryz.prog 9 #[.pointer (some ⟨s + 1, 0, none⟩)] w3 fun e w' => e = .returned (.int .i64 199) ∧ w' = w3 := cF
  have H3 := hide (⟨F3, hB13, hal, hsl⟩ : _ ∧ _ ∧ _ ∧ _)
  clear hC2 hnb hm2 hsl hB2 hi3 hB3 F3 hal hB13 H2 cF hz ha
  go_wp2_with (go_at_call 9; refine Calls_on cF' ?_; clear cF'; refine Stop.out ?_)
  refine Stop.mk ?_
  clear k1 k2 k3 k4
  generalize decide (A < 0) = d1
  generalize decide (65536 ≤ A) = d2
  generalize decide (C < 0) = d3
  generalize decide (A < C) = d4
  obtain ⟨rfl, rfl, hat, hcut⟩ := HA.out
  clear HA
  obtain ⟨w4, hw4⟩ : ∃ w4, w4 = w3.alloc (.cells #[.int .u8 (x.toNat : Int)] 5) := ⟨_, rfl⟩
  have hB4 : Below w3.heap.size w3 w4 := by rw [hw4]; exact (Below.refl _ w3).alloc (Nat.le_refl _) _
  have hx4 : w4.heap[w3.heap.size]? = some (.cells #[u8v x] 5 (0, 0)) := by rw [hw4]; exact heap_alloc_new w3 _
  obtain ⟨F3, hB13, hal, hsl⟩ := H3.out
  have hB14 : Below w1.heap.size w1 w4 := hB13.trans (hB4.mono hB13.size)
  have cW : Calls Tryz.prog 11 #[.pointer (some ⟨a, 0, none⟩), ep c, .pointer (some ⟨s + 1, 0, none⟩), .int .i64 (at_ : Nat), .slice (some ⟨w3.heap.size, 0, none⟩) 1 1] w4 _ := write_one (F3.below hB4) (by omega) rfl ((HT.out.2.below H1.out).below hB14) (Nat.lt_of_lt_of_le h6 hs1) w3.heap.size at_ x hx4 hat
  have F4 := F3.below hB4
  have hx256 := x.isLt
  have HX := hide (⟨hB14, hal, hsl, F4⟩ : _ ∧ _ ∧ _ ∧ _)
  clear hB4 hx4 F3 hB13 hal hsl hB14 H3 F4
  go_wp2_with (first
    | (go_at_call 11; rw [← hw4]; refine cW.mono ?_; rintro e w5 ⟨rfl, hb5, m', G', V', ea, eb, en, F5, q1, q2⟩; clear cW hw4; refine Stop.out ?_))
  refine Stop.mk ?_
  obtain ⟨hB14, hal, hsl, F4⟩ := HX.out
  have ea' : m'.a = s + 1 := ea
  have eb' : m'.b = s := eb
  have en' : m'.n = 200 := en
  have cF5 := free_F F5
  rw [ea', en'] at cF5
  obtain ⟨q, hq⟩ : ∃ q, Ino.cnt G' = q := ⟨_, rfl⟩
  rw [hq] at cF5 q1 q2
  obtain ⟨u, hu⟩ : ∃ u, 200 - 1 - q = u := ⟨_, rfl⟩
  rw [hu] at cF5
  have e1 : (199 : Int) - (u : Int) = (q : Nat) := by omega
  have e2 : ¬ ((3 : Int) < (q : Int)) := by omega
  have e3 : ¬ ((q : Int) < 1) := by omega
  have hu2 : u < 200 := by omega
  have hB15 : Below w1.heap.size w1 w5 := hB14.trans (Fil.lowB hb5 hB14.size hsl hal)
  have cR : Calls Tryz.prog 14 #[.pointer (some ⟨a, 0, none⟩), ep c, .int .i64 0, .int .i64 65536] w5 _ := read_F F5 (by omega) 0 65536 (at_ + 1) (by omega) (by omega) (by omega) (by omega)
  have HM := hide (⟨ea', eb', en', hal, hsl, hB15⟩ : _ ∧ _ ∧ _ ∧ _ ∧ _ ∧ _)
  clear HX hB14 hal hsl F4 F5 q1 q2 ea eb en ea' eb' en' hq hu hB15 hb5
  go_wp2_with (first
    | (go_at_call 9; refine Calls_on cF5 ?_; clear cF5)
    | (go_at_call 14; refine cR.mono ?_; rintro e w6 ⟨F6, hb6, rfl, hr6⟩; clear cR; refine Stop.out ?_))
  refine Stop.mk ?_
  obtain ⟨og, hog⟩ : ∃ og, w5.heap.size = og := ⟨_, rfl⟩
  rw [hog] at hr6 ⊢
  have hcell : ∀ i, i ≤ at_ → w6.cell? ⟨og, i, none⟩ = some (u8v (Ino.wrote (fun _ => 0) at_ [x] i)) := fun i hi => by
    rw [cellOf hr6 i, List.getElem?_toArray, List.getElem?_map, List.getElem?_map, List.getElem?_range (by omega)]
    simp
  have hc1 : w6.cell? ⟨og, at_, none⟩ = some (.int .u8 (x.toNat : Int)) := by
    rw [hcell at_ (Nat.le_refl _)]
    unfold Ino.wrote
    rw [if_pos ⟨Nat.le_refl _, by simp⟩, Nat.sub_self]; rfl
  have HC : Hid (∀ i, i < at_ → w6.cell? ⟨og, i, none⟩ = some (.int .u8 0)) := fun i hi => by
    rw [hcell i (by omega)]
    unfold Ino.wrote
    rw [if_neg (by omega)]; rfl
  have hB16 : Below w1.heap.size w1 w6 := HM.out.2.2.2.2.2.trans (Fil.lowC hb6 HM.out.2.2.2.2.2.size)
  have H6 := hide (⟨F6, hB16⟩ : _ ∧ _)
  clear hog hr6 hcell F6 hb6 hB16
  go_wp2_with fail
  go_loop [16] (fun ii => ∃ i : Nat, i ≤ at_ ∧ ii = .int .i64 i) (fun ii => at_ - (intOf ii).toNat)
  case atStart => exact ⟨0, Nat.zero_le _, rfl⟩
  case round =>
    obtain ⟨i, hi, rfl⟩ := hrel
    by_cases hlt : i < at_
    · have hltI : (i : Int) < at_ := by omega
      have hci := HC.out i hlt
      have hi1 : i < at_ + 1 := by omega
      go_wp2
      all_goals go_round
      all_goals first | exact ⟨i + 1, by omega, by go_num⟩ | (simp [intOf]; omega)
    · have hnl : ¬ ((i : Int) < (at_ : Int)) := by omega
      obtain ⟨F6, hB16⟩ := H6.out
      obtain ⟨ea', eb', en', hal, hsl, hB15⟩ := HM.out
      have cT := trunc_F F6 (by omega) cut (by omega)
      rw [ea'] at cT
      clear F6 hB16 ea' eb' en' hal hsl hB15 HC hc1
      go_wp2_with (go_at_call 13; refine cT.mono ?_; rintro e w7 ⟨hb7, rfl, m7, G7, V7, a7, b7, n7, F7⟩; clear cT; refine Stop.out ?_)
      refine Stop.mk ?_
      obtain ⟨F6, hB16⟩ := H6.out
      obtain ⟨ea', eb', en', hal, hsl, hB15⟩ := HM.out
      have hB17 : Below w1.heap.size w1 w7 := hB16.trans (Fil.lowB hb7 hB16.size (by rw [eb']; exact hsl) hal)
      have cT2 := trunc_F F7 (by omega) (at_ + 1) (by omega)
      rw [a7, show ((at_ + 1 : Nat) : Int) = (at_ : Int) + 1 by omega] at cT2
      have H7 := hide (⟨hB17, b7, eb', hal, hsl⟩ : _ ∧ _ ∧ _ ∧ _ ∧ _)
      clear F6 hB16 ea' eb' en' hal hsl hB15 hB17 hb7 a7 b7 n7 F7 H6 HM
      go_wp2_with (go_at_call 13; refine cT2.mono ?_; rintro e w8 ⟨hb8, rfl, m8, G8, V8, a8, b8, n8, F8⟩; clear cT2; refine Stop.out ?_)
      refine Stop.mk ?_
      obtain ⟨hB17, b7, eb', hal, hsl⟩ := H7.out
      have hB18 : Below w1.heap.size w1 w8 := hB17.trans (Fil.lowB hb8 hB17.size (by rw [b7, eb']; exact hsl) hal)
      have cR2 : Calls Tryz.prog 14 #[.pointer (some ⟨a, 0, none⟩), ep c, .int .i64 (at_ : Nat), .int .i64 5] w8 _ := read_F F8 (by omega) at_ 5 1 (by omega) (by omega) (by omega) (by omega)
      have H8 := hide hB18
      clear hB17 b7 eb' hal hsl hB18 hb8 a8 b8 n8 F8 H7
      go_wp2_with (go_at_call 14; refine cR2.mono ?_; rintro e w9 ⟨F9, hb9, rfl, hr9⟩; clear cR2; refine Stop.out ?_)
      refine Stop.mk ?_
      obtain ⟨og2, hog2⟩ : ∃ og2, w8.heap.size = og2 := ⟨_, rfl⟩
      rw [hog2] at hr9 ⊢
      have hc2 : w9.cell? ⟨og2, 0, none⟩ = some (.int .u8 0) := by
        rw [cellOf hr9 0, List.getElem?_toArray, List.getElem?_map, List.getElem?_map, List.getElem?_range (by omega)]
        show some (u8v (cutW (cutW _ cut) (at_ + 1) (at_ + 0))) = _
        unfold cutW
        rw [if_pos (by omega), if_neg (by omega)]; rfl
      have H9 := hide (H8.out.trans (Fil.lowC hb9 H8.out.size))
      clear F9 hb9 hr9 H8 hog2
      go_wp2
      go_ret
      exact ⟨rfl, H1.out.trans (H9.out.mono H1.out.size)⟩

theorem holes_law (at_ cut : Int) (x : BitVec 8) (w : World) (ht : Tab w) (ht6 : Bm.Tab64 w) :
    Calls Tryz.prog 4 #[.int .i64 at_, .int .u8 (x.toNat : Int), .int .i64 cut] w fun e w' => e = .returned (.bool true) ∧ Below w.heap.size w w' := by
  by_cases h : at_ < 0 ∨ 65536 ≤ at_ ∨ cut < 0 ∨ at_ < cut
  · exact holes_bad at_ cut _ w ht ht6 h
  · obtain ⟨n, rfl⟩ : ∃ n : Nat, at_ = n := ⟨at_.toNat, by omega⟩
    obtain ⟨k, rfl⟩ : ∃ k : Nat, cut = k := ⟨cut.toNat, by omega⟩
    exact holes_ok n k x w ht ht6 (by omega) (by omega)

end Go.Proofs.YtebdgcoandfocaaGreatDoor

namespace Go.Proofs.YtebdgcoandfocaaGreatDoor
open Go.ChangeShapes Go.WideShapes Go.ChangeAt Go.RowKit Go.Deep

set_option maxRecDepth 100000 in
theorem iholes_contract (H : Type) (enc : TypeId × Value → H) (W : World) (base : Nat) (args : Array Value) (ds gs : List (DataW H)) (before : List MemPlace)
    (hval : ∀ (j : Nat) t v, Tryz.f4.params[j]? = some t → args[j]? = some v → Value.okWide Tryz.prog W .any base t v)
    (hW : DataW.Whole enc Tryz.prog Tryz.f4.params.toList Rows.inodeHolesSpec.vars false W args.toList ds gs before)
    (hL : laidMetH Tryz.prog Rows.inodeHolesRow.laid W) :
    Calls Tryz.prog 4 args W fun e W' => ∃ v, e = .returned v ∧ Rows.inodeHolesSpec.post enc Tryz.prog Tryz.f4 false true false false W args v W' := by
  have hW' := hW
  obtain ⟨p, q, hA0, hV, rfl, hfz, hnd⟩ := hW
  have hA : DataW.TrodAll enc Tryz.prog W 0 (fun _ => true) true Tryz.f4.params.toList args.toList ds p := hA0
  rw [Tryz.params4] at hA hval
  obtain ⟨v0, vs0, d0, ds0, p0, q0, hargs, rfl, rfl, h0, r0⟩ := trodAll_cons hA
  obtain ⟨v1, vs1, d1, ds1, p1, q1, rfl, rfl, rfl, h1, r1⟩ := trodAll_cons r0
  obtain ⟨v2, vs2, d2, ds2, p2, q2, rfl, rfl, rfl, h2, r2⟩ := trodAll_cons r1
  obtain ⟨rfl, rfl, rfl⟩ := trodAll_nil r2
  obtain rfl : args = #[v0, v1, v2] := by cases args; simp_all
  obtain ⟨rfl, rfl⟩ := trodVars_none hV
  obtain ⟨a0, rfl, rfl, rfl, w0⟩ := open_int Tryz.underlying3 (hval 0 3 v0 rfl rfl) h0
  obtain ⟨a1, rfl, rfl, rfl, w1⟩ := open_int Tryz.underlying5 (hval 1 5 v1 rfl rfl) h1
  obtain ⟨a2, rfl, rfl, rfl, w2⟩ := open_int Tryz.underlying3 (hval 2 3 v2 rfl rfl) h2
  clear hA0
  have hx := w1
  simp [Lit.wf] at hx
  have hx0 : 0 ≤ a1 := hx.1
  have hx1 : a1 ≤ 255 := hx.2
  obtain ⟨x, hxe⟩ : ∃ x : BitVec 8, a1 = (x.toNat : Int) := ⟨BitVec.ofNat 8 a1.toNat, by rw [BitVec.toNat_ofNat, Nat.mod_eq_of_lt (by omega)]; omega⟩
  subst hxe
  refine (holes_law a0 a2 x W (tabs_of_laid hL).1 (tabs_of_laid hL).2).mono fun e W' ⟨he, bel⟩ => ?_
  subst he
  exact ⟨_, rfl, _, _, _, [], _, [], hW', trodAll_mk1 (shut_bool Tryz.underlying4 _), (trodAll_cons_mk (shut_int Tryz.underlying3 w0) (trodAll_cons_mk (shut_int Tryz.underlying5 w1) (trodAll_cons_mk (shut_int Tryz.underlying3 w2) trodAll_mk0))), rfl, bel.frame _, fun h => by cases h⟩

theorem iholes_laid_met (os : Os) : laidMet Tryz.prog Rows.inodeHolesRow.laid ((World.doorLaid Tryz.prog 400 os).forCall (fun _ _ => 0) ⟨#[], #[.int .i64 0, .int .u8 0, .int .i64 0], []⟩).memory :=
  laidMet_of_run' 20 (by kernel_rfl) (by kernel_rfl)
theorem iholes_reads (os : Os) {H : Type} (enc : TypeId × Value → H) : ∃ places, DataW.whole enc Tryz.prog ((World.doorLaid Tryz.prog 400 os).forCall (fun _ _ => 0) ⟨#[], #[.int .i64 0, .int .u8 0, .int .i64 0], []⟩).memory Tryz.f4.params.toList Rows.inodeHolesSpec.vars false (#[.int .i64 0, .int .u8 0, .int .i64 0] : Array Value).toList 8 = some ([.lit (.int .i64 0), .lit (.int .u8 0), .lit (.int .i64 0)], [], places) :=
  ⟨[], by kernel_rfl⟩

set_option maxRecDepth 100000 in
theorem iholes_lifted (os : Os) (started : os.Started) (H : Type) (enc : TypeId × Value → H) (F : Stop.Interp) :
    ReturnsInHanded {} Tryz.checked os 4 .any ((OpenSpec.ofChange Rows.inodeHolesSpec).preRow enc Tryz.prog Tryz.f4 Rows.inodeHolesRow.domain false Rows.inodeHolesRow.laid) (((OpenSpec.ofChange Rows.inodeHolesSpec).at F).post enc Tryz.prog Tryz.f4 false true false false) := by
  obtain ⟨places, hx⟩ := iholes_reads os enc
  refine returnsInHanded_of_row (C := Tryz.checked) (s := OpenSpec.ofChange Rows.inodeHolesSpec) own started (by kernel_rfl) Tryz.func4
    (witness_row_at (enc := enc) (C := Tryz.checked) false (World.doorLaid Tryz.prog 400 os) #[.int .i64 0, .int .u8 0, .int .i64 0] rfl (by kernel_rfl) (by kernel_rfl) (by kernel_rfl)
      (OpenSpec.preRow_of_cond 8 hx (by kernel_rfl) (fun k hk => by cases hk) (by kernel_rfl) (iholes_laid_met os))) ?_
  intro W base args ds gs before hval hW _ _ _ hL _ _
  exact iholes_contract H enc W base args ds gs before hval hW hL

theorem iholes_said : Rows.InodeHolesSaid :=
  OpenClaim.holds_of_cond 4 Tryz.f4 rfl rfl rfl rfl rfl rfl rfl ⟨rfl, rfl, rfl, rfl, rfl⟩ rfl rfl rfl rfl rfl (by kernel_rfl) Tryz.func4 (by kernel_rfl)
    (of_decide_eq_true (by kernel_rfl)) (by unfold Func.isWrapper; first | (rw [if_pos (by decide +kernel)]; kernel_rfl) | (rw [if_neg (by decide +kernel)]; exact ⟨rfl, rfl⟩))
    (fun os started H enc _ F => by rw [OpenClaim.pre_eq_preRow]; exact iholes_lifted os started H enc F)

theorem iholes_plain (f : FuncId) (fn : Func) (hf : Tryz.pinned.checked.prog.funcNamed "lagoon/lagoonlaw9.InodeHoles" = some f) (hfn : Tryz.pinned.checked.prog.funcs[f]? = some fn) :
    true = Tryz.pinned.checked.prog.looks [] ∧ ∀ (j : Nat) t, fn.params[j]? = some t → Tryz.pinned.checked.prog.wantsStandIn t = false := by
  obtain rfl : f = 4 := Option.some.inj ((show Tryz.prog.funcNamed "lagoon/lagoonlaw9.InodeHoles" = some 4 by kernel_rfl).symm.trans hf) |>.symm
  obtain rfl : fn = Tryz.f4 := (Option.some.inj (Tryz.func4.symm.trans hfn)).symm
  refine ⟨by kernel_rfl, fun j t ht => ?_⟩
  rw [Tryz.params4] at ht
  have hm : t ∈ [3, 5, 3] := by simpa using Array.mem_of_getElem? ht
  have hall : ([3, 5, 3].all fun u => !Tryz.prog.wantsStandIn u) = true := by kernel_rfl
  exact (show Tryz.prog.wantsStandIn t = false by simpa using List.all_eq_true.1 hall t hm)

theorem inodeHoles_holds : Rows.InodeHolesCardSaid :=
  Claim7.holds_tied_plain_at .later [] _ _ _ _ iholes_said (fun _ h => by cases h) (by kernel_rfl) (fun _ h => by cases h) inodeHoles_row_tie rfl ⟨rfl, rfl⟩ (by kernel_rfl) rfl iholes_plain (by kernel_rfl)

#print axioms inodeHoles_holds
end Go.Proofs.YtebdgcoandfocaaGreatDoor
