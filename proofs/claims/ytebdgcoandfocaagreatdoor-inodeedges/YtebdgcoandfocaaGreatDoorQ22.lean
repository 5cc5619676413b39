/-
  What the proof leans on, part 23.
-/
import Derived.Test.YtebdgcoandfocaaGreatDoorQ21
import Derived.Test.YtebdgcoandfocaaGreatDoorQ15
import Derived.Test.YtebdgcoandfocaaGreatDoorQ18

/-
  Package inode: the making of a walk, for a write and for a read (printed by mkplang.py).
-/
namespace Go.Proofs.YtebdgcoandfocaaGreatDoor
open Go.RowKit Go.Maps Go.Sort Go.Shelf

def planG (wb bg bo bl bc at_ f e t s : Nat) : List (Option Tmp × Value) := [(some 10, .pointer (some ⟨wb, 0, none⟩)), (some 11, .pointer (some ⟨wb, 0, none⟩)), (some 12, .pointer (some ⟨wb, 0, none⟩)), (some 13, .pointer (some ⟨wb, 0, none⟩)), (some 14, .pointer (some ⟨wb, 0, none⟩)), (some 15, .pointer (some ⟨wb, 5, none⟩)), (some 16, .int .i64 (at_ : Nat)), (some 17, .int .i64 (f : Nat)), (some 18, .pointer (some ⟨wb, 0, none⟩)), (some 19, .pointer (some ⟨wb, 0, none⟩)), (some 20, .pointer (some ⟨wb, 5, none⟩)), (some 21, .int .i64 (at_ : Nat)), (some 22, .pointer (some ⟨wb, 0, none⟩)), (some 23, .pointer (some ⟨wb, 0, none⟩)), (some 24, .pointer (some ⟨wb, 6, none⟩)), (some 25, .slice (some ⟨bg, bo, none⟩) bl bc), (some 26, .int .i64 (bl : Nat)), (some 27, .int .i64 (e : Nat)), (some 28, .int .i64 (t : Nat)), (some 29, .pointer (some ⟨wb, 0, none⟩)), (some 30, .func (.func 41) #[.pointer (some ⟨wb, 0, none⟩)] #[]), (some 31, .agg #[.pointer (some ⟨wb, 0, none⟩), .int .i64 (f : Nat), .int .i64 (t : Nat), .bool true, .func (.func 41) #[.pointer (some ⟨wb, 0, none⟩)] #[]]), (some 5, .pointer (some ⟨s, 0, none⟩)), (none, undef)]
set_option maxRecDepth 8000 in
set_option maxHeartbeats 4000000 in
theorem plan_reg {Q : Exit → Act → World → Prop} {base : Array Value} {dd : List Deferred} {ops : Array Oper} (hops : Tryz.f26.body.bind (regI 1) = some ops) (hsz : base.size = 53) (wb bg bo bl bc at_ f e t : Nat) (w : World) (b0 : base.getD 0 undef = .pointer (some ⟨wb, 0, none⟩)) (b5 : w.cell? ⟨wb, 5, none⟩ = some (.int .i64 (at_ : Nat))) (b6 : w.cell? ⟨wb, 6, none⟩ = some (.slice (some ⟨bg, bo, none⟩) bl bc)) (hdv : Int.tdiv (at_ : Int) 512 = (f : Nat)) (hsm : (at_ : Int) + (bl : Int) = (e : Nat)) (hwr : IntKind.i64.wrap (e : Int) = (e : Int)) (hwf : IntKind.i64.wrap (f : Int) = (f : Int)) (cU : ∀ W, Calls Tryz.prog 30 #[.int .i64 (e : Nat)] W fun e w' => e = .returned (.int .i64 (t : Nat)) ∧ w' = W)
    (hQ : Q .normal ⟨putAll base (planG wb bg bo bl bc at_ f e t w.heap.size), dd⟩ (w.drew.alloc (.cells #[.pointer (some ⟨wb, 0, none⟩), .int .i64 (f : Nat), .int .i64 (t : Nat), .bool true, .func (.func 41) #[.pointer (some ⟨wb, 0, none⟩)] #[]] 81))) :
    (Code.region 1 ops true).wp Tryz.prog Q ⟨base, dd⟩ w := by
  have hmix : Tryz.prog.follows .mixedOrders = true := by kernel_rfl
  have hmf : ∀ (fn : Fn) (first cap : Array Value) (w : World), (Instr.makeFunc fn first cap).run Tryz.prog w = .ok (.func fn first cap) w := fun _ _ _ _ => rfl
  have h2 := (show Tryz.f26.body.bind (regI 1) = some _ from rfl).symm.trans hops
  obtain rfl := Option.some.inj h2
  clear h2 hops
  have vv0 : ∀ g, vals ((fun _ : Unit => planG wb bg bo bl bc at_ f e t w.heap.size) g) 0 = .pointer (some ⟨wb, 0, none⟩) := fun g => rfl
  have vv1 : ∀ g, vals ((fun _ : Unit => planG wb bg bo bl bc at_ f e t w.heap.size) g) 1 = .pointer (some ⟨wb, 0, none⟩) := fun g => rfl
  have vv2 : ∀ g, vals ((fun _ : Unit => planG wb bg bo bl bc at_ f e t w.heap.size) g) 2 = .pointer (some ⟨wb, 0, none⟩) := fun g => rfl
  have vv3 : ∀ g, vals ((fun _ : Unit => planG wb bg bo bl bc at_ f e t w.heap.size) g) 3 = .pointer (some ⟨wb, 0, none⟩) := fun g => rfl
  have vv4 : ∀ g, vals ((fun _ : Unit => planG wb bg bo bl bc at_ f e t w.heap.size) g) 4 = .pointer (some ⟨wb, 0, none⟩) := fun g => rfl
  have vv5 : ∀ g, vals ((fun _ : Unit => planG wb bg bo bl bc at_ f e t w.heap.size) g) 5 = .pointer (some ⟨wb, 5, none⟩) := fun g => rfl
  have vv6 : ∀ g, vals ((fun _ : Unit => planG wb bg bo bl bc at_ f e t w.heap.size) g) 6 = .int .i64 (at_ : Nat) := fun g => rfl
  have vv7 : ∀ g, vals ((fun _ : Unit => planG wb bg bo bl bc at_ f e t w.heap.size) g) 7 = .int .i64 (f : Nat) := fun g => rfl
  have vv8 : ∀ g, vals ((fun _ : Unit => planG wb bg bo bl bc at_ f e t w.heap.size) g) 8 = .pointer (some ⟨wb, 0, none⟩) := fun g => rfl
  have vv9 : ∀ g, vals ((fun _ : Unit => planG wb bg bo bl bc at_ f e t w.heap.size) g) 9 = .pointer (some ⟨wb, 0, none⟩) := fun g => rfl
  have vv10 : ∀ g, vals ((fun _ : Unit => planG wb bg bo bl bc at_ f e t w.heap.size) g) 10 = .pointer (some ⟨wb, 5, none⟩) := fun g => rfl
  have vv11 : ∀ g, vals ((fun _ : Unit => planG wb bg bo bl bc at_ f e t w.heap.size) g) 11 = .int .i64 (at_ : Nat) := fun g => rfl
  have vv12 : ∀ g, vals ((fun _ : Unit => planG wb bg bo bl bc at_ f e t w.heap.size) g) 12 = .pointer (some ⟨wb, 0, none⟩) := fun g => rfl
  have vv13 : ∀ g, vals ((fun _ : Unit => planG wb bg bo bl bc at_ f e t w.heap.size) g) 13 = .pointer (some ⟨wb, 0, none⟩) := fun g => rfl
  have vv14 : ∀ g, vals ((fun _ : Unit => planG wb bg bo bl bc at_ f e t w.heap.size) g) 14 = .pointer (some ⟨wb, 6, none⟩) := fun g => rfl
  have vv15 : ∀ g, vals ((fun _ : Unit => planG wb bg bo bl bc at_ f e t w.heap.size) g) 15 = .slice (some ⟨bg, bo, none⟩) bl bc := fun g => rfl
  have vv16 : ∀ g, vals ((fun _ : Unit => planG wb bg bo bl bc at_ f e t w.heap.size) g) 16 = .int .i64 (bl : Nat) := fun g => rfl
  have vv17 : ∀ g, vals ((fun _ : Unit => planG wb bg bo bl bc at_ f e t w.heap.size) g) 17 = .int .i64 (e : Nat) := fun g => rfl
  have vv18 : ∀ g, vals ((fun _ : Unit => planG wb bg bo bl bc at_ f e t w.heap.size) g) 18 = .int .i64 (t : Nat) := fun g => rfl
  have vv19 : ∀ g, vals ((fun _ : Unit => planG wb bg bo bl bc at_ f e t w.heap.size) g) 19 = .pointer (some ⟨wb, 0, none⟩) := fun g => rfl
  have vv20 : ∀ g, vals ((fun _ : Unit => planG wb bg bo bl bc at_ f e t w.heap.size) g) 20 = .func (.func 41) #[.pointer (some ⟨wb, 0, none⟩)] #[] := fun g => rfl
  have vv21 : ∀ g, vals ((fun _ : Unit => planG wb bg bo bl bc at_ f e t w.heap.size) g) 21 = .agg #[.pointer (some ⟨wb, 0, none⟩), .int .i64 (f : Nat), .int .i64 (t : Nat), .bool true, .func (.func 41) #[.pointer (some ⟨wb, 0, none⟩)] #[]] := fun g => rfl
  have vv22 : ∀ g, vals ((fun _ : Unit => planG wb bg bo bl bc at_ f e t w.heap.size) g) 22 = .pointer (some ⟨w.heap.size, 0, none⟩) := fun g => rfl
  have vv23 : ∀ g, vals ((fun _ : Unit => planG wb bg bo bl bc at_ f e t w.heap.size) g) 23 = undef := fun g => rfl
  refine region_laidg hmix (by kernel_rfl) 53 hsz (by kernel_rfl) () ((fun _ : Unit => planG wb bg bo bl bc at_ f e t w.heap.size)) (fun g => rfl) (fun (_ : Unit) b W => W = if b 23 = true then w.drew.alloc (.cells #[.pointer (some ⟨wb, 0, none⟩), .int .i64 (f : Nat), .int .i64 (t : Nat), .bool true, .func (.func 41) #[.pointer (some ⟨wb, 0, none⟩)] #[]] 81) else if b 22 = true then w.drew.alloc (.cells #[.pointer none, .int .i64 0, .int .i64 0, .bool false, .nilFunc] 81) else w.drew) rfl ?_ ?_
  · intro g b W io o a hS hcl ho hb hd ev kp yl
    match io with
    | 0 =>
      simp only [List.getElem?_toArray, List.getElem?_cons_zero, Option.some.injEq] at ho
      subst ho
      have e0 : a.tmps[0]?.getD undef = .pointer (some ⟨wb, 0, none⟩) := (kp 0 (none_till (by kernel_rfl))).trans b0
      refine doesg_value rfl (by intro c h; cases h) (v := .pointer (some ⟨wb, 0, none⟩)) (w' := W) ?_ ⟨g, fun _ _ => rfl, (vv0 g).symm, ?_⟩
      · simp [execOp, go_sem, e0]
      · simpa [did] using hS
    | 1 =>
      simp only [List.getElem?_toArray, List.getElem?_cons_zero, List.getElem?_cons_succ, Option.some.injEq] at ho
      subst ho
      have p0 : b 0 = true := hd ⟨0, .data⟩ (by simp) rfl
      have e10 := (ev 0 10 rfl p0).trans (vv0 g)
      refine doesg_value rfl (by intro c h; cases h) (v := .pointer (some ⟨wb, 0, none⟩)) (w' := W) ?_ ⟨g, fun _ _ => rfl, (vv1 g).symm, ?_⟩
      · simp [execOp, go_sem, e10]
      · simpa [did] using hS
    | 2 =>
      simp only [List.getElem?_toArray, List.getElem?_cons_zero, List.getElem?_cons_succ, Option.some.injEq] at ho
      subst ho
      have p1 : b 1 = true := hd ⟨1, .data⟩ (by simp) rfl
      have e11 := (ev 1 11 rfl p1).trans (vv1 g)
      refine doesg_value rfl (by intro c h; cases h) (v := .pointer (some ⟨wb, 0, none⟩)) (w' := W) ?_ ⟨g, fun _ _ => rfl, (vv2 g).symm, ?_⟩
      · simp [execOp, go_sem, e11]
      · simpa [did] using hS
    | 3 =>
      simp only [List.getElem?_toArray, List.getElem?_cons_zero, List.getElem?_cons_succ, Option.some.injEq] at ho
      subst ho
      have e0 : a.tmps[0]?.getD undef = .pointer (some ⟨wb, 0, none⟩) := (kp 0 (none_till (by kernel_rfl))).trans b0
      refine doesg_value rfl (by intro c h; cases h) (v := .pointer (some ⟨wb, 0, none⟩)) (w' := W) ?_ ⟨g, fun _ _ => rfl, (vv3 g).symm, ?_⟩
      · simp [execOp, go_sem, e0]
      · simpa [did] using hS
    | 4 =>
      simp only [List.getElem?_toArray, List.getElem?_cons_zero, List.getElem?_cons_succ, Option.some.injEq] at ho
      subst ho
      have p3 : b 3 = true := hd ⟨3, .data⟩ (by simp) rfl
      have e13 := (ev 3 13 rfl p3).trans (vv3 g)
      refine doesg_value rfl (by intro c h; cases h) (v := .pointer (some ⟨wb, 0, none⟩)) (w' := W) ?_ ⟨g, fun _ _ => rfl, (vv4 g).symm, ?_⟩
      · simp [execOp, go_sem, e13]
      · simpa [did] using hS
    | 5 =>
      simp only [List.getElem?_toArray, List.getElem?_cons_zero, List.getElem?_cons_succ, Option.some.injEq] at ho
      subst ho
      have p4 : b 4 = true := hd ⟨4, .data⟩ (by simp) rfl
      have e14 := (ev 4 14 rfl p4).trans (vv4 g)
      refine doesg_value rfl (by intro c h; cases h) (v := .pointer (some ⟨wb, 5, none⟩)) (w' := W) ?_ ⟨g, fun _ _ => rfl, (vv5 g).symm, ?_⟩
      · simp [execOp, go_sem, e14]
      · simpa [did] using hS
    | 6 =>
      simp only [List.getElem?_toArray, List.getElem?_cons_zero, List.getElem?_cons_succ, Option.some.injEq] at ho
      subst ho
      have p5 : b 5 = true := hd ⟨5, .data⟩ (by simp) rfl
      have e15 := (ev 5 15 rfl p5).trans (vv5 g)
      have hbel : Below w.heap.size w W := walk_bel hS
      have hl := (hbel.cell (p := ⟨wb, 5, none⟩) (cell_lt b5)).trans b5
      refine doesg_value rfl (by intro c h; cases h) (v := .int .i64 (at_ : Nat)) (w' := W) ?_ ⟨g, fun _ _ => rfl, (vv6 g).symm, ?_⟩
      · simp [execOp, go_sem, e15, hl]
      · simpa [did] using hS
    | 7 =>
      simp only [List.getElem?_toArray, List.getElem?_cons_zero, List.getElem?_cons_succ, Option.some.injEq] at ho
      subst ho
      have p6 : b 6 = true := hd ⟨6, .data⟩ (by simp) rfl
      have e16 := (ev 6 16 rfl p6).trans (vv6 g)
      refine doesg_value rfl (by intro c h; cases h) (v := .int .i64 (f : Nat)) (w' := W) ?_ ⟨g, fun _ _ => rfl, (vv7 g).symm, ?_⟩
      · simp [execOp, go_sem, e16, hdv, hwf]
      · simpa [did] using hS
    | 8 =>
      simp only [List.getElem?_toArray, List.getElem?_cons_zero, List.getElem?_cons_succ, Option.some.injEq] at ho
      subst ho
      have e0 : a.tmps[0]?.getD undef = .pointer (some ⟨wb, 0, none⟩) := (kp 0 (none_till (by kernel_rfl))).trans b0
      refine doesg_value rfl (by intro c h; cases h) (v := .pointer (some ⟨wb, 0, none⟩)) (w' := W) ?_ ⟨g, fun _ _ => rfl, (vv8 g).symm, ?_⟩
      · simp [execOp, go_sem, e0]
      · simpa [did] using hS
    | 9 =>
      simp only [List.getElem?_toArray, List.getElem?_cons_zero, List.getElem?_cons_succ, Option.some.injEq] at ho
      subst ho
      have p8 : b 8 = true := hd ⟨8, .data⟩ (by simp) rfl
      have e18 := (ev 8 18 rfl p8).trans (vv8 g)
      refine doesg_value rfl (by intro c h; cases h) (v := .pointer (some ⟨wb, 0, none⟩)) (w' := W) ?_ ⟨g, fun _ _ => rfl, (vv9 g).symm, ?_⟩
      · simp [execOp, go_sem, e18]
      · simpa [did] using hS
    | 10 =>
      simp only [List.getElem?_toArray, List.getElem?_cons_zero, List.getElem?_cons_succ, Option.some.injEq] at ho
      subst ho
      have p9 : b 9 = true := hd ⟨9, .data⟩ (by simp) rfl
      have e19 := (ev 9 19 rfl p9).trans (vv9 g)
      refine doesg_value rfl (by intro c h; cases h) (v := .pointer (some ⟨wb, 5, none⟩)) (w' := W) ?_ ⟨g, fun _ _ => rfl, (vv10 g).symm, ?_⟩
      · simp [execOp, go_sem, e19]
      · simpa [did] using hS
    | 11 =>
      simp only [List.getElem?_toArray, List.getElem?_cons_zero, List.getElem?_cons_succ, Option.some.injEq] at ho
      subst ho
      have p10 : b 10 = true := hd ⟨10, .data⟩ (by simp) rfl
      have e20 := (ev 10 20 rfl p10).trans (vv10 g)
      have hbel : Below w.heap.size w W := walk_bel hS
      have hl := (hbel.cell (p := ⟨wb, 5, none⟩) (cell_lt b5)).trans b5
      refine doesg_value rfl (by intro c h; cases h) (v := .int .i64 (at_ : Nat)) (w' := W) ?_ ⟨g, fun _ _ => rfl, (vv11 g).symm, ?_⟩
      · simp [execOp, go_sem, e20, hl]
      · simpa [did] using hS
    | 12 =>
      simp only [List.getElem?_toArray, List.getElem?_cons_zero, List.getElem?_cons_succ, Option.some.injEq] at ho
      subst ho
      have e0 : a.tmps[0]?.getD undef = .pointer (some ⟨wb, 0, none⟩) := (kp 0 (none_till (by kernel_rfl))).trans b0
      refine doesg_value rfl (by intro c h; cases h) (v := .pointer (some ⟨wb, 0, none⟩)) (w' := W) ?_ ⟨g, fun _ _ => rfl, (vv12 g).symm, ?_⟩
      · simp [execOp, go_sem, e0]
      · simpa [did] using hS
    | 13 =>
      simp only [List.getElem?_toArray, List.getElem?_cons_zero, List.getElem?_cons_succ, Option.some.injEq] at ho
      subst ho
      have p12 : b 12 = true := hd ⟨12, .data⟩ (by simp) rfl
      have e22 := (ev 12 22 rfl p12).trans (vv12 g)
      refine doesg_value rfl (by intro c h; cases h) (v := .pointer (some ⟨wb, 0, none⟩)) (w' := W) ?_ ⟨g, fun _ _ => rfl, (vv13 g).symm, ?_⟩
      · simp [execOp, go_sem, e22]
      · simpa [did] using hS
    | 14 =>
      simp only [List.getElem?_toArray, List.getElem?_cons_zero, List.getElem?_cons_succ, Option.some.injEq] at ho
      subst ho
      have p13 : b 13 = true := hd ⟨13, .data⟩ (by simp) rfl
      have e23 := (ev 13 23 rfl p13).trans (vv13 g)
      refine doesg_value rfl (by intro c h; cases h) (v := .pointer (some ⟨wb, 6, none⟩)) (w' := W) ?_ ⟨g, fun _ _ => rfl, (vv14 g).symm, ?_⟩
      · simp [execOp, go_sem, e23]
      · simpa [did] using hS
    | 15 =>
      simp only [List.getElem?_toArray, List.getElem?_cons_zero, List.getElem?_cons_succ, Option.some.injEq] at ho
      subst ho
      have p14 : b 14 = true := hd ⟨14, .data⟩ (by simp) rfl
      have e24 := (ev 14 24 rfl p14).trans (vv14 g)
      have hbel : Below w.heap.size w W := walk_bel hS
      have hl := (hbel.cell (p := ⟨wb, 6, none⟩) (cell_lt b6)).trans b6
      refine doesg_value rfl (by intro c h; cases h) (v := .slice (some ⟨bg, bo, none⟩) bl bc) (w' := W) ?_ ⟨g, fun _ _ => rfl, (vv15 g).symm, ?_⟩
      · simp [execOp, go_sem, e24, hl]
      · simpa [did] using hS
    | 16 =>
      simp only [List.getElem?_toArray, List.getElem?_cons_zero, List.getElem?_cons_succ, Option.some.injEq] at ho
      subst ho
      have p15 : b 15 = true := hd ⟨15, .data⟩ (by simp) rfl
      have e25 := (ev 15 25 rfl p15).trans (vv15 g)
      refine doesg_value rfl (by intro c h; cases h) (v := .int .i64 (bl : Nat)) (w' := W) ?_ ⟨g, fun _ _ => rfl, (vv16 g).symm, ?_⟩
      · simp [go_sem, e25]
      · simpa [did] using hS
    | 17 =>
      simp only [List.getElem?_toArray, List.getElem?_cons_zero, List.getElem?_cons_succ, Option.some.injEq] at ho
      subst ho
      have p11 : b 11 = true := hd ⟨11, .data⟩ (by simp) rfl
      have p16 : b 16 = true := hd ⟨16, .data⟩ (by simp) rfl
      have e21 := (ev 11 21 rfl p11).trans (vv11 g)
      have e26 := (ev 16 26 rfl p16).trans (vv16 g)
      refine doesg_value rfl (by intro c h; cases h) (v := .int .i64 (e : Nat)) (w' := W) ?_ ⟨g, fun _ _ => rfl, (vv17 g).symm, ?_⟩
      · simp [execOp, go_sem, e21, e26, hsm, hwr]
      · simpa [did] using hS
    | 18 =>
      simp only [List.getElem?_toArray, List.getElem?_cons_zero, List.getElem?_cons_succ, Option.some.injEq] at ho
      subst ho
      have p17 : b 17 = true := hd ⟨17, .data⟩ (by simp) rfl
      have e27 := (ev 17 27 rfl p17).trans (vv17 g)
      refine doesg_call rfl (by intro c h; cases h) (f := 30) (args := #[.int .i64 (e : Nat)]) ?_ ?_
      · simp [go_sem, e27]
      · (refine (cU W).mono ?_; rintro e w' ⟨rfl, rfl⟩; exact ⟨_, rfl, g, fun _ _ => rfl, (vv18 g).symm, by simpa [did] using hS⟩)
    | 19 =>
      simp only [List.getElem?_toArray, List.getElem?_cons_zero, List.getElem?_cons_succ, Option.some.injEq] at ho
      subst ho
      have e0 : a.tmps[0]?.getD undef = .pointer (some ⟨wb, 0, none⟩) := (kp 0 (none_till (by kernel_rfl))).trans b0
      refine doesg_value rfl (by intro c h; cases h) (v := .pointer (some ⟨wb, 0, none⟩)) (w' := W) ?_ ⟨g, fun _ _ => rfl, (vv19 g).symm, ?_⟩
      · simp [execOp, go_sem, e0]
      · simpa [did] using hS
    | 20 =>
      simp only [List.getElem?_toArray, List.getElem?_cons_zero, List.getElem?_cons_succ, Option.some.injEq] at ho
      subst ho
      have p19 : b 19 = true := hd ⟨19, .data⟩ (by simp) rfl
      have e29 := (ev 19 29 rfl p19).trans (vv19 g)
      refine doesg_value rfl (by intro c h; cases h) (v := .func (.func 41) #[.pointer (some ⟨wb, 0, none⟩)] #[]) (w' := W) ?_ ⟨g, fun _ _ => rfl, (vv20 g).symm, ?_⟩
      · simp [execOp, go_sem, e29]
      · simpa [did] using hS
    | 21 =>
      simp only [List.getElem?_toArray, List.getElem?_cons_zero, List.getElem?_cons_succ, Option.some.injEq] at ho
      subst ho
      have p2 : b 2 = true := hd ⟨2, .data⟩ (by simp) rfl
      have p7 : b 7 = true := hd ⟨7, .data⟩ (by simp) rfl
      have p18 : b 18 = true := hd ⟨18, .data⟩ (by simp) rfl
      have p20 : b 20 = true := hd ⟨20, .data⟩ (by simp) rfl
      have e12 := (ev 2 12 rfl p2).trans (vv2 g)
      have e17 := (ev 7 17 rfl p7).trans (vv7 g)
      have e28 := (ev 18 28 rfl p18).trans (vv18 g)
      have e30 := (ev 20 30 rfl p20).trans (vv20 g)
      refine doesg_value rfl (by intro c h; cases h) (v := .agg #[.pointer (some ⟨wb, 0, none⟩), .int .i64 (f : Nat), .int .i64 (t : Nat), .bool true, .func (.func 41) #[.pointer (some ⟨wb, 0, none⟩)] #[]]) (w' := W) ?_ ⟨g, fun _ _ => rfl, (vv21 g).symm, ?_⟩
      · simp [execOp, go_sem, e12, e17, e28, e30]
      · simpa [did] using hS
    | 22 =>
      simp only [List.getElem?_toArray, List.getElem?_cons_zero, List.getElem?_cons_succ, Option.some.injEq] at ho
      subst ho
      have h23 : b 23 = false := by cases h : b 23; rfl; rw [hcl 23 _ rfl h ⟨22, .data⟩ (by simp) rfl] at hb; cases hb
      have hW : W = w.drew := by rw [hS, h23, hb]; rfl
      subst hW
      refine doesg_value rfl (by intro c h; cases h) (v := .pointer (some ⟨w.heap.size, 0, none⟩)) (w' := w.drew.alloc (.cells #[.pointer none, .int .i64 0, .int .i64 0, .bool false, .nilFunc] 81)) ?_ ⟨g, fun _ _ => rfl, (vv22 g).symm, ?_⟩
      · simp [execOp, go_sem]
      · simp [did, h23]
    | 23 =>
      simp only [List.getElem?_toArray, List.getElem?_cons_zero, List.getElem?_cons_succ, Option.some.injEq] at ho
      subst ho
      have p22 : b 22 = true := hd ⟨22, .data⟩ (by simp) rfl
      have p21 : b 21 = true := hd ⟨21, .data⟩ (by simp) rfl
      have e5 := (ev 22 5 rfl p22).trans (vv22 g)
      have e31 := (ev 21 31 rfl p21).trans (vv21 g)
      have hW : W = w.drew.alloc (.cells #[.pointer none, .int .i64 0, .int .i64 0, .bool false, .nilFunc] 81) := by rw [hS, hb, p22]; rfl
      subst hW
      refine doesg_skip rfl (by intro c h; cases h) (w' := w.drew.alloc (.cells #[.pointer (some ⟨wb, 0, none⟩), .int .i64 (f : Nat), .int .i64 (t : Nat), .bool true, .func (.func 41) #[.pointer (some ⟨wb, 0, none⟩)] #[]] 81)) ?_ ⟨g, fun _ _ => rfl, (vv23 g).symm, ?_⟩
      · simp [execOp, go_sem, e5, e31]
      · exact by simp [did]
    | k + 24 => simp at ho
  · intro g b W hS hall
    rw [hall 23 (by decide), if_pos rfl] at hS
    rw [hS]
    exact hQ

def readG (wb bl at_ f e t s : Nat) : List (Option Tmp × Value) := [(some 41, .pointer (some ⟨wb, 0, none⟩)), (some 42, .pointer (some ⟨wb, 0, none⟩)), (some 43, .pointer (some ⟨wb, 0, none⟩)), (some 44, .int .i64 (at_ : Nat)), (some 45, .int .i64 (f : Nat)), (some 46, .int .i64 (at_ : Nat)), (some 47, .int .i64 (bl : Nat)), (some 48, .int .i64 (e : Nat)), (some 49, .int .i64 (t : Nat)), (some 50, .pointer (some ⟨wb, 0, none⟩)), (some 51, .func (.func 31) #[.pointer (some ⟨wb, 0, none⟩)] #[]), (some 52, .agg #[.pointer (some ⟨wb, 0, none⟩), .int .i64 (f : Nat), .int .i64 (t : Nat), .bool false, .func (.func 31) #[.pointer (some ⟨wb, 0, none⟩)] #[]]), (some 11, .pointer (some ⟨s, 0, none⟩)), (none, undef)]
set_option maxRecDepth 8000 in
set_option maxHeartbeats 4000000 in
theorem read_reg {Q : Exit → Act → World → Prop} {base : Array Value} {dd : List Deferred} {ops : Array Oper} (hops : Tryz.f14.body.bind (regI 7) = some ops) (hsz : base.size = 65) (wb bl at_ f e t : Nat) (w : World) (b10 : base.getD 10 undef = .pointer (some ⟨wb, 0, none⟩)) (b2 : base.getD 2 undef = .int .i64 (at_ : Nat)) (b3 : base.getD 3 undef = .int .i64 (bl : Nat)) (hdv : Int.tdiv (at_ : Int) 512 = (f : Nat)) (hsm : (at_ : Int) + (bl : Int) = (e : Nat)) (hwr : IntKind.i64.wrap (e : Int) = (e : Int)) (hwf : IntKind.i64.wrap (f : Int) = (f : Int)) (cU : ∀ W, Calls Tryz.prog 30 #[.int .i64 (e : Nat)] W fun e w' => e = .returned (.int .i64 (t : Nat)) ∧ w' = W)
    (hQ : Q .normal ⟨putAll base (readG wb bl at_ f e t w.heap.size), dd⟩ (w.drew.alloc (.cells #[.pointer (some ⟨wb, 0, none⟩), .int .i64 (f : Nat), .int .i64 (t : Nat), .bool false, .func (.func 31) #[.pointer (some ⟨wb, 0, none⟩)] #[]] 81))) :
    (Code.region 7 ops true).wp Tryz.prog Q ⟨base, dd⟩ w := by
  have hmix : Tryz.prog.follows .mixedOrders = true := by kernel_rfl
  have hmf : ∀ (fn : Fn) (first cap : Array Value) (w : World), (Instr.makeFunc fn first cap).run Tryz.prog w = .ok (.func fn first cap) w := fun _ _ _ _ => rfl
  have h2 := (show Tryz.f14.body.bind (regI 7) = some _ from rfl).symm.trans hops
  obtain rfl := Option.some.inj h2
  clear h2 hops
  have vv0 : ∀ g, vals ((fun _ : Unit => readG wb bl at_ f e t w.heap.size) g) 0 = .pointer (some ⟨wb, 0, none⟩) := fun g => rfl
  have vv1 : ∀ g, vals ((fun _ : Unit => readG wb bl at_ f e t w.heap.size) g) 1 = .pointer (some ⟨wb, 0, none⟩) := fun g => rfl
  have vv2 : ∀ g, vals ((fun _ : Unit => readG wb bl at_ f e t w.heap.size) g) 2 = .pointer (some ⟨wb, 0, none⟩) := fun g => rfl
  have vv3 : ∀ g, vals ((fun _ : Unit => readG wb bl at_ f e t w.heap.size) g) 3 = .int .i64 (at_ : Nat) := fun g => rfl
  have vv4 : ∀ g, vals ((fun _ : Unit => readG wb bl at_ f e t w.heap.size) g) 4 = .int .i64 (f : Nat) := fun g => rfl
  have vv5 : ∀ g, vals ((fun _ : Unit => readG wb bl at_ f e t w.heap.size) g) 5 = .int .i64 (at_ : Nat) := fun g => rfl
  have vv6 : ∀ g, vals ((fun _ : Unit => readG wb bl at_ f e t w.heap.size) g) 6 = .int .i64 (bl : Nat) := fun g => rfl
  have vv7 : ∀ g, vals ((fun _ : Unit => readG wb bl at_ f e t w.heap.size) g) 7 = .int .i64 (e : Nat) := fun g => rfl
  have vv8 : ∀ g, vals ((fun _ : Unit => readG wb bl at_ f e t w.heap.size) g) 8 = .int .i64 (t : Nat) := fun g => rfl
  have vv9 : ∀ g, vals ((fun _ : Unit => readG wb bl at_ f e t w.heap.size) g) 9 = .pointer (some ⟨wb, 0, none⟩) := fun g => rfl
  have vv10 : ∀ g, vals ((fun _ : Unit => readG wb bl at_ f e t w.heap.size) g) 10 = .func (.func 31) #[.pointer (some ⟨wb, 0, none⟩)] #[] := fun g => rfl
  have vv11 : ∀ g, vals ((fun _ : Unit => readG wb bl at_ f e t w.heap.size) g) 11 = .agg #[.pointer (some ⟨wb, 0, none⟩), .int .i64 (f : Nat), .int .i64 (t : Nat), .bool false, .func (.func 31) #[.pointer (some ⟨wb, 0, none⟩)] #[]] := fun g => rfl
  have vv12 : ∀ g, vals ((fun _ : Unit => readG wb bl at_ f e t w.heap.size) g) 12 = .pointer (some ⟨w.heap.size, 0, none⟩) := fun g => rfl
  have vv13 : ∀ g, vals ((fun _ : Unit => readG wb bl at_ f e t w.heap.size) g) 13 = undef := fun g => rfl
  refine region_laidg hmix (by kernel_rfl) 65 hsz (by kernel_rfl) () ((fun _ : Unit => readG wb bl at_ f e t w.heap.size)) (fun g => rfl) (fun (_ : Unit) b W => W = if b 13 = true then w.drew.alloc (.cells #[.pointer (some ⟨wb, 0, none⟩), .int .i64 (f : Nat), .int .i64 (t : Nat), .bool false, .func (.func 31) #[.pointer (some ⟨wb, 0, none⟩)] #[]] 81) else if b 12 = true then w.drew.alloc (.cells #[.pointer none, .int .i64 0, .int .i64 0, .bool false, .nilFunc] 81) else w.drew) rfl ?_ ?_
  · intro g b W io o a hS hcl ho hb hd ev kp yl
    match io with
    | 0 =>
      simp only [List.getElem?_toArray, List.getElem?_cons_zero, Option.some.injEq] at ho
      subst ho
      have e10 : a.tmps[10]?.getD undef = .pointer (some ⟨wb, 0, none⟩) := (kp 10 (none_till (by kernel_rfl))).trans b10
      refine doesg_value rfl (by intro c h; cases h) (v := .pointer (some ⟨wb, 0, none⟩)) (w' := W) ?_ ⟨g, fun _ _ => rfl, (vv0 g).symm, ?_⟩
      · simp [execOp, go_sem, e10]
      · simpa [did] using hS
    | 1 =>
      simp only [List.getElem?_toArray, List.getElem?_cons_zero, List.getElem?_cons_succ, Option.some.injEq] at ho
      subst ho
      have p0 : b 0 = true := hd ⟨0, .data⟩ (by simp) rfl
      have e41 := (ev 0 41 rfl p0).trans (vv0 g)
      refine doesg_value rfl (by intro c h; cases h) (v := .pointer (some ⟨wb, 0, none⟩)) (w' := W) ?_ ⟨g, fun _ _ => rfl, (vv1 g).symm, ?_⟩
      · simp [execOp, go_sem, e41]
      · simpa [did] using hS
    | 2 =>
      simp only [List.getElem?_toArray, List.getElem?_cons_zero, List.getElem?_cons_succ, Option.some.injEq] at ho
      subst ho
      have p1 : b 1 = true := hd ⟨1, .data⟩ (by simp) rfl
      have e42 := (ev 1 42 rfl p1).trans (vv1 g)
      refine doesg_value rfl (by intro c h; cases h) (v := .pointer (some ⟨wb, 0, none⟩)) (w' := W) ?_ ⟨g, fun _ _ => rfl, (vv2 g).symm, ?_⟩
      · simp [execOp, go_sem, e42]
      · simpa [did] using hS
    | 3 =>
      simp only [List.getElem?_toArray, List.getElem?_cons_zero, List.getElem?_cons_succ, Option.some.injEq] at ho
      subst ho
      have e2 : a.tmps[2]?.getD undef = .int .i64 (at_ : Nat) := (kp 2 (none_till (by kernel_rfl))).trans b2
      refine doesg_value rfl (by intro c h; cases h) (v := .int .i64 (at_ : Nat)) (w' := W) ?_ ⟨g, fun _ _ => rfl, (vv3 g).symm, ?_⟩
      · simp [execOp, go_sem, e2]
      · simpa [did] using hS
    | 4 =>
      simp only [List.getElem?_toArray, List.getElem?_cons_zero, List.getElem?_cons_succ, Option.some.injEq] at ho
      subst ho
      have p3 : b 3 = true := hd ⟨3, .data⟩ (by simp) rfl
      have e44 := (ev 3 44 rfl p3).trans (vv3 g)
      refine doesg_value rfl (by intro c h; cases h) (v := .int .i64 (f : Nat)) (w' := W) ?_ ⟨g, fun _ _ => rfl, (vv4 g).symm, ?_⟩
      · simp [execOp, go_sem, e44, hdv, hwf]
      · simpa [did] using hS
    | 5 =>
      simp only [List.getElem?_toArray, List.getElem?_cons_zero, List.getElem?_cons_succ, Option.some.injEq] at ho
      subst ho
      have e2 : a.tmps[2]?.getD undef = .int .i64 (at_ : Nat) := (kp 2 (none_till (by kernel_rfl))).trans b2
      refine doesg_value rfl (by intro c h; cases h) (v := .int .i64 (at_ : Nat)) (w' := W) ?_ ⟨g, fun _ _ => rfl, (vv5 g).symm, ?_⟩
      · simp [execOp, go_sem, e2]
      · simpa [did] using hS
    | 6 =>
      simp only [List.getElem?_toArray, List.getElem?_cons_zero, List.getElem?_cons_succ, Option.some.injEq] at ho
      subst ho
      have e3 : a.tmps[3]?.getD undef = .int .i64 (bl : Nat) := (kp 3 (none_till (by kernel_rfl))).trans b3
      refine doesg_value rfl (by intro c h; cases h) (v := .int .i64 (bl : Nat)) (w' := W) ?_ ⟨g, fun _ _ => rfl, (vv6 g).symm, ?_⟩
      · simp [execOp, go_sem, e3]
      · simpa [did] using hS
    | 7 =>
      simp only [List.getElem?_toArray, List.getElem?_cons_zero, List.getElem?_cons_succ, Option.some.injEq] at ho
      subst ho
      have p5 : b 5 = true := hd ⟨5, .data⟩ (by simp) rfl
      have p6 : b 6 = true := hd ⟨6, .data⟩ (by simp) rfl
      have e46 := (ev 5 46 rfl p5).trans (vv5 g)
      have e47 := (ev 6 47 rfl p6).trans (vv6 g)
      refine doesg_value rfl (by intro c h; cases h) (v := .int .i64 (e : Nat)) (w' := W) ?_ ⟨g, fun _ _ => rfl, (vv7 g).symm, ?_⟩
      · simp [execOp, go_sem, e46, e47, hsm, hwr]
      · simpa [did] using hS
    | 8 =>
      simp only [List.getElem?_toArray, List.getElem?_cons_zero, List.getElem?_cons_succ, Option.some.injEq] at ho
      subst ho
      have p7 : b 7 = true := hd ⟨7, .data⟩ (by simp) rfl
      have e48 := (ev 7 48 rfl p7).trans (vv7 g)
      refine doesg_call rfl (by intro c h; cases h) (f := 30) (args := #[.int .i64 (e : Nat)]) ?_ ?_
      · simp [go_sem, e48]
      · (refine (cU W).mono ?_; rintro e w' ⟨rfl, rfl⟩; exact ⟨_, rfl, g, fun _ _ => rfl, (vv8 g).symm, by simpa [did] using hS⟩)
    | 9 =>
      simp only [List.getElem?_toArray, List.getElem?_cons_zero, List.getElem?_cons_succ, Option.some.injEq] at ho
      subst ho
      have e10 : a.tmps[10]?.getD undef = .pointer (some ⟨wb, 0, none⟩) := (kp 10 (none_till (by kernel_rfl))).trans b10
      refine doesg_value rfl (by intro c h; cases h) (v := .pointer (some ⟨wb, 0, none⟩)) (w' := W) ?_ ⟨g, fun _ _ => rfl, (vv9 g).symm, ?_⟩
      · simp [execOp, go_sem, e10]
      · simpa [did] using hS
    | 10 =>
      simp only [List.getElem?_toArray, List.getElem?_cons_zero, List.getElem?_cons_succ, Option.some.injEq] at ho
      subst ho
      have p9 : b 9 = true := hd ⟨9, .data⟩ (by simp) rfl
      have e50 := (ev 9 50 rfl p9).trans (vv9 g)
      refine doesg_value rfl (by intro c h; cases h) (v := .func (.func 31) #[.pointer (some ⟨wb, 0, none⟩)] #[]) (w' := W) ?_ ⟨g, fun _ _ => rfl, (vv10 g).symm, ?_⟩
      · simp [execOp, go_sem, e50]
      · simpa [did] using hS
    | 11 =>
      simp only [List.getElem?_toArray, List.getElem?_cons_zero, List.getElem?_cons_succ, Option.some.injEq] at ho
      subst ho
      have p2 : b 2 = true := hd ⟨2, .data⟩ (by simp) rfl
      have p4 : b 4 = true := hd ⟨4, .data⟩ (by simp) rfl
      have p8 : b 8 = true := hd ⟨8, .data⟩ (by simp) rfl
      have p10 : b 10 = true := hd ⟨10, .data⟩ (by simp) rfl
      have e43 := (ev 2 43 rfl p2).trans (vv2 g)
      have e45 := (ev 4 45 rfl p4).trans (vv4 g)
      have e49 := (ev 8 49 rfl p8).trans (vv8 g)
      have e51 := (ev 10 51 rfl p10).trans (vv10 g)
      refine doesg_value rfl (by intro c h; cases h) (v := .agg #[.pointer (some ⟨wb, 0, none⟩), .int .i64 (f : Nat), .int .i64 (t : Nat), .bool false, .func (.func 31) #[.pointer (some ⟨wb, 0, none⟩)] #[]]) (w' := W) ?_ ⟨g, fun _ _ => rfl, (vv11 g).symm, ?_⟩
      · simp [execOp, go_sem, e43, e45, e49, e51]
      · simpa [did] using hS
    | 12 =>
      simp only [List.getElem?_toArray, List.getElem?_cons_zero, List.getElem?_cons_succ, Option.some.injEq] at ho
      subst ho
      have h13 : b 13 = false := by cases h : b 13; rfl; rw [hcl 13 _ rfl h ⟨12, .data⟩ (by simp) rfl] at hb; cases hb
      have hW : W = w.drew := by rw [hS, h13, hb]; rfl
      subst hW
      refine doesg_value rfl (by intro c h; cases h) (v := .pointer (some ⟨w.heap.size, 0, none⟩)) (w' := w.drew.alloc (.cells #[.pointer none, .int .i64 0, .int .i64 0, .bool false, .nilFunc] 81)) ?_ ⟨g, fun _ _ => rfl, (vv12 g).symm, ?_⟩
      · simp [execOp, go_sem]
      · simp [did, h13]
    | 13 =>
      simp only [List.getElem?_toArray, List.getElem?_cons_zero, List.getElem?_cons_succ, Option.some.injEq] at ho
      subst ho
      have p12 : b 12 = true := hd ⟨12, .data⟩ (by simp) rfl
      have p11 : b 11 = true := hd ⟨11, .data⟩ (by simp) rfl
      have e11 := (ev 12 11 rfl p12).trans (vv12 g)
      have e52 := (ev 11 52 rfl p11).trans (vv11 g)
      have hW : W = w.drew.alloc (.cells #[.pointer none, .int .i64 0, .int .i64 0, .bool false, .nilFunc] 81) := by rw [hS, hb, p12]; rfl
      subst hW
      refine doesg_skip rfl (by intro c h; cases h) (w' := w.drew.alloc (.cells #[.pointer (some ⟨wb, 0, none⟩), .int .i64 (f : Nat), .int .i64 (t : Nat), .bool false, .func (.func 31) #[.pointer (some ⟨wb, 0, none⟩)] #[]] 81)) ?_ ⟨g, fun _ _ => rfl, (vv13 g).symm, ?_⟩
      · simp [execOp, go_sem, e11, e52]
      · exact by simp [did]
    | k + 14 => simp at ho
  · intro g b W hS hall
    rw [hall 13 (by decide), if_pos rfl] at hS
    rw [hS]
    exact hQ

end Go.Proofs.YtebdgcoandfocaaGreatDoor

/-
  Package inode: a write is planned.
-/
namespace Go.Proofs.YtebdgcoandfocaaGreatDoor
open Go.RowKit Go.Maps Go.Sort Go.Shelf

theorem spotC_get {X : List (Nat × BitVec 32 × Bool)} {i : Nat} {q : Nat × BitVec 32 × Bool} (h : X[i]? = some q) : (spotC X)[i * 3]? = some (.int .i64 (q.1 : Nat)) ∧ (spotC X)[i * 3 + 1]? = some (u32v q.2.1) ∧ (spotC X)[i * 3 + 2]? = some (.bool q.2.2) := by
  induction X generalizing i with
  | nil => simp at h
  | cons x X ih =>
    have e : spotC (x :: X) = .int .i64 (x.1 : Nat) :: u32v x.2.1 :: .bool x.2.2 :: spotC X := rfl
    rw [e]
    rcases i with _ | i
    · simp only [List.getElem?_cons_zero, Option.some.injEq] at h
      subst h
      simp
    · have := ih (i := i) (by simpa using h)
      rw [show (i + 1) * 3 = i * 3 + 1 + 1 + 1 by omega]
      simpa using this

section
variable {LP : Nat → World → Prop} {w0 ws : World} {wb c nb : Nat} {V : Nat → By} {U0 : Nat → Bool} {n at_ : Nat} {bl bc bg bo : Nat}

theorem fils_b (V : Nat → By) (at_ : Nat) (bs : By) : ∀ (X : List (Nat × BitVec 32 × Bool)) (s : WS), (X.foldl (filS V at_ bs) s).b ≤ s.b + 2 * X.length
  | [], s => by simp
  | q :: X, s => by
    have h1 := filS_b V at_ bs s q
    have h2 := fils_b V at_ bs X (filS V at_ bs s q)
    rw [List.foldl_cons, List.length_cons]
    omega

set_option maxRecDepth 8000 in
set_option maxHeartbeats 4000000 in
theorem plan_J (hL : LPok LP w0 c nb V) (ht : Bm.Tab64 ws) (h6 : 1 < w0.heap.size) (s0 : WS) (w : World) (h : WJ LP w0 ws wb c U0 n at_ (some ⟨bg, bo, none⟩) bl bc s0 w) (hb : s0.b + 18000 ≤ 700000) (bs : By) (hbs : Bytes ws (some ⟨bg, bo, none⟩) bs) (htg : bg < ws.heap.size ∧ ¬ Cmn w0 ws bg) (hbl : bs.length = bl) (hb1 : 1 ≤ bl) (hbc : bl ≤ bc) (hmx : at_ + bl ≤ 65536)
    (g : Nat) (ns : List (BitVec 32)) (hn : ns.length = 10) (hr : NumsAt w g ns) (hlo : ws.heap.size ≤ g) (f t : Nat) (hf : at_ / 512 = f) (htt : blocksOf (at_ + bl) = t) (R : List (BitVec 32) × Int × WS) (hR : Ino.ovr (wOps (Ino.frees n U0) nb V) true f t (fnd (Ino.frees n U0)) ns s0 = R)
    (hX : R.2.1 = 0 → R.2.2.X.length ≤ 200 ∧ ∀ q ∈ R.2.2.X, SpotOk nb at_ bl q) :
    Calls Tryz.prog 26 #[.pointer (some ⟨wb, 0, none⟩), .pointer (some ⟨g, 0, none⟩)] w fun e w' => e = .returned (.int .i64 R.2.1) ∧ (R.2.1 ≠ 0 → WJ LP w0 ws wb c U0 n at_ (some ⟨bg, bo, none⟩) bl bc R.2.2 w') ∧ (R.2.1 = 0 → WJ LP w0 ws wb c U0 n at_ (some ⟨bg, bo, none⟩) bl bc (R.2.2.X.foldl (filS V at_ bs) R.2.2) w' ∧ NumsAt w' g R.1 ∧ R.1.length = 10) := by
  have H := handsW (U0 := U0) (n := n) (wb := wb) (at_ := at_) (pb := some ⟨bg, bo, none⟩) (bl := bl) (bc := bc) hL ht h6 f t
  have hcost := ovr_cost H ns hn s0
  rw [hR] at hcost
  have cU : ∀ W, Calls Tryz.prog 30 #[.int .i64 ((at_ + bl : Nat) : Int)] W fun e w' => e = .returned (.int .i64 (t : Nat)) ∧ w' = W := fun W => by rw [← htt]; exact upTo_any (at_ + bl) (by omega) W
  have hft : f ≤ 128 := by omega
  have ht2 : t ≤ 128 := by unfold blocksOf at htt; omega
  obtain ⟨mf, sX, hc, h2, h3, h4, h5, h7⟩ := h.ex
  obtain ⟨sT, sG, sP, D, hw, hr0⟩ := hc.blk
  have b5 := hw.cell (i := 5) rfl
  have b6 := hw.cell (i := 6) rfl
  have hW : ∀ W, WJ LP w0 ws wb c U0 n at_ (some ⟨bg, bo, none⟩) bl bc R.2.2 W → True := fun _ _ => trivial
  obtain ⟨w1, hw1⟩ : ∃ w1, w1 = w.drew.alloc (.cells #[.pointer (some ⟨wb, 0, none⟩), .int .i64 (f : Nat), .int .i64 (t : Nat), .bool true, .func (.func 41) #[.pointer (some ⟨wb, 0, none⟩)] #[]] 81) := ⟨_, rfl⟩
  have hB1 : Below w.heap.size w w1 := by rw [hw1]; exact ((Below.refl _ w).drew).alloc (Nat.le_refl _) _
  have hk1 : WalkAt w1 w.heap.size (.pointer (some ⟨wb, 0, none⟩)) f t true (.func (.func 41) #[.pointer (some ⟨wb, 0, none⟩)] #[]) := by rw [hw1]; exact heap_alloc_new w.drew _
  have cO := over_J H w.heap.size g ns s0 w1 hn hk1 (hr.below hB1 (Array.getElem?_eq_some_iff.1 hr).1) (h.below hL hB1) hlo (by show s0.b + 16804 ≤ _; omega)
  rw [hR] at cO
  have hcost' : R.2.2.b ≤ s0.b + 16804 := hcost
  have HS := hide (⟨hbs, htg, hr⟩ : _ ∧ _ ∧ _)
  have HX := hide hX
  obtain ⟨ns', er, s1⟩ := R
  dsimp only at cO HX hcost' ⊢
  clear H hcost hR hX hc h2 h3 h4 h5 h7 hw hr0 hbs htg hr hB1 hk1 h hW
  refine (show Calls Tryz.prog 26 #[.pointer (some ⟨wb, 0, none⟩), .pointer (some ⟨g, 0, none⟩)] w (fun e w' => Hid (e = .returned (.int .i64 er) ∧ (er ≠ 0 → WJ LP w0 ws wb c U0 n at_ (some ⟨bg, bo, none⟩) bl bc s1 w') ∧ (er = 0 → WJ LP w0 ws wb c U0 n at_ (some ⟨bg, bo, none⟩) bl bc (s1.X.foldl (filS V at_ bs) s1) w' ∧ NumsAt w' g ns' ∧ ns'.length = 10))) from ?_).mono (fun e w' h => h.out)
  go_enter Tryz.func26, Tryz.ntmps26
  go_wp2_with fail
  refine plan_reg (by kernel_rfl) rfl wb bg bo bl bc at_ f (at_ + bl) t w rfl b5 b6 (by rw [Int.tdiv_eq_ediv_of_nonneg (by omega)]; omega) (by omega) (by rw [IntKind.wrap_i64]; omega) (by rw [IntKind.wrap_i64]; omega) cU ?_
  rw [← hw1]
  clear hw1 cU b5 b6
  unfold planG
  simp only [putAll]
  go_wp2_with (go_at_call 29; refine cO.mono ?_; rintro e w2 ⟨ns2, er2, s2, heq, rfl, h21, h22, h23⟩; clear cO; refine Stop.out ?_)
  refine Stop.mk ?_
  cases heq
  by_cases her : er = 0
  · obtain ⟨hXl, hXo⟩ := HX.out her
    obtain ⟨hn2, hn10⟩ := h23 her
    have HE := hide her
    have q1 : (er != 0) = false := by simp [her]
    have q2 : (er == 0) = true := by simp [her]
    clear her
    obtain ⟨mf2, sX2, hc2, h2b, h2c, h2d, h2e, h2f⟩ := h21.ex
    obtain ⟨sT2, sG2, sP2, D2, hw2, _⟩ := hc2.blk
    have b7 : w2.cell? ⟨wb, 7, none⟩ = some sX2 := hw2.cell (i := 7) rfl
    obtain ⟨L, hLn⟩ : ∃ L, s1.X.length = L := ⟨_, rfl⟩
    have hform : (sX2 = .slice none 0 0 ∧ s1.X.length = 0) ∨ ∃ g cap, sX2 = .slice (some ⟨g, 0, none⟩) s1.X.length cap := by
      rcases h2f.2 with ⟨e, e2⟩ | ⟨g, cap, _, e, _⟩
      · exact .inl ⟨e, e2⟩
      · exact .inr ⟨g, cap, e⟩
    rw [hLn] at hform hXl
    have H2 := hide (⟨h21, h2f, hn2, hn10, hXo, hLn⟩ : _ ∧ _ ∧ _ ∧ _ ∧ _ ∧ _)
    clear hc2 h2b h2c h2d h2e hw2 h21 h2f hn2 hn10 hXo hLn h22 h23
    rcases hform with ⟨hs, hL0⟩ | ⟨gX, cX, hs⟩
    · subst hs
      subst hL0
      have HFX : Hid (s1.X = []) := List.eq_nil_of_length_eq_zero H2.out.2.2.2.2.2
      go_wp2_with fail
      go_loop [42] (fun ii => ii = .int .i64 0) (fun _ => 0)
      case atStart => rfl
      case round =>
        subst hrel
        go_wp2
        go_ret
        have h1 : WJ LP w0 ws wb c U0 n at_ (some ⟨bg, bo, none⟩) bl bc (s1.X.foldl (filS V at_ bs) s1) w2 := by
          have h1 := H2.out.1
          rw [HFX.out]
          exact h1
        exact hide ⟨by rw [HE.out]; rfl, fun h => absurd HE.out h, fun _ => ⟨h1, H2.out.2.2.1, H2.out.2.2.2.1⟩⟩
    · subst hs
      go_wp2_with fail
      go_loopw [42] (fun ii wr => ∃ i : Nat, i ≤ L ∧ ii = .int .i64 i ∧ Hid (WJ LP w0 ws wb c U0 n at_ (some ⟨bg, bo, none⟩) bl bc ((s1.X.take i).foldl (filS V at_ bs) s1) wr ∧ But (CT 71 w2) w2 wr)) (fun ii _ => L - (intOf ii).toNat)
      case atStart => exact ⟨0, Nat.zero_le _, rfl, H2.out.1, But.refl _ _⟩
      case round =>
        obtain ⟨i, hi, rfl, HI⟩ := hrel
        by_cases hlt : i < L
        · have hlti : (i : Int) < L := by omega
          obtain ⟨q, hq⟩ : ∃ q, s1.X[i]? = some q := ⟨_, List.getElem?_eq_getElem (by have := H2.out.2.2.2.2.2; omega)⟩
          have hsp := spot_ct okW H2.out.2.1 HI.out.2
          obtain ⟨c0, c1, c2⟩ := spotC_get hq
          have d0 := hsp.cells (g := gX) rfl _ _ c0
          have d1 := hsp.cells (g := gX) rfl _ _ c1
          have d2 := hsp.cells (g := gX) rfl _ _ c2
          rw [Addr.add_lit, Nat.zero_add] at d0 d1 d2
          have hfr := HI.out.1.ex
          have cF : ∀ W, Below wr.heap.size wr W → Calls Tryz.prog 42 #[.pointer (some ⟨wb, 0, none⟩), .agg #[.int .i64 (q.1 : Nat), u32v q.2.1, .bool q.2.2]] W fun e w' => e = .returned (.int .i64 0) ∧ WJ LP w0 ws wb c U0 n at_ (some ⟨bg, bo, none⟩) bl bc ((s1.X.take (i + 1)).foldl (filS V at_ bs) s1) w' ∧ But (CT 71 w2) w2 w' := by
            intro W hW
            have hbi := fils_b V at_ bs (s1.X.take i) s1
            rw [List.length_take] at hbi
            have h1 := HI.out.1.below hL hW
            obtain ⟨mf3, sX3, hc3, _⟩ := h1.ex
            obtain ⟨htg, hnc⟩ := HS.out.2.1
            have hkb := hc3.fr.block bg htg hnc
            refine (fill_J hL h1 (by omega) bs ?_ hbl hb1 hbc ⟨Nat.lt_of_lt_of_le htg hc3.fr.size, fun hc => hnc ⟨hc.1, fun cs t fr hk => hc.2 cs t fr (hkb.trans hk)⟩⟩ hmx q (H2.out.2.2.2.2.1 q (List.mem_of_getElem? hq))).mono ?_
            · intro h0
              obtain ⟨s', o', e', hx⟩ := HS.out.1 h0
              cases e'
              exact ⟨bg, bo, rfl, fun j x hj => (World.cell?_of_block (w := ws) hkb).trans (hx j x hj)⟩
            · rintro e w' ⟨rfl, h2, h3⟩
              refine ⟨rfl, ?_, ct_trans (ct_trans HI.out.2 (ct_below hW)) h3⟩
              rw [List.take_add_one, hq, List.foldl_append]
              exact h2
          unfold u32v at d1 cF
          have HcF := hide cF
          clear cF hsp c0 c1 c2 hfr hq
          have cF' := HcF.out _ ((Below.refl _ wr).alloc (Nat.le_refl _) (.cells #[.int .i64 (q.1 : Int), .int .u32 (q.2.1.toNat : Int), .bool q.2.2] 102))
          clear HcF
          go_wp2_with (go_at_call 42; refine cF'.mono ?_; rintro e w3 ⟨rfl, h31, h32⟩; clear cF'; have H31 := hide (And.intro h31 h32); clear h31 h32)
          exact ⟨⟨i + 1, by omega, by go_num, H31.out⟩, by simp [intOf]; omega⟩
        · obtain rfl : i = L := by omega
          have HF := hide (⟨HI.out.1, HI.out.2⟩ : _ ∧ _)
          clear HI
          go_wp2
          go_ret
          have h1 := HF.out.1
          rw [List.take_of_length_le (by rw [H2.out.2.2.2.2.2]; exact Nat.le_refl _)] at h1
          exact hide ⟨by rw [HE.out]; rfl, fun h => absurd HE.out h, fun _ => ⟨h1, (ct_kp okW HF.out.2).2 _ _ _ _ H2.out.2.2.1 (.inr (.inl rfl)) (by simp), H2.out.2.2.2.1⟩⟩
  · have H3 := hide h21
    have q1 : (er != 0) = true := by simp [her]
    have q2 : (er == 0) = false := by simp [her]
    clear h21 h22 h23
    go_wp2
    go_ret
    exact hide ⟨rfl, fun _ => H3.out, fun h => absurd h her⟩

end
end Go.Proofs.YtebdgcoandfocaaGreatDoor

/-
  Package inode: a change of one block, taken, is done; the inode becomes what it is to be.
-/
namespace Go.Proofs.YtebdgcoandfocaaGreatDoor
open Go.RowKit Go.Maps Go.Sort Go.Shelf

theorem set_free (r : Nat) (m : Bm.MS) (w : World) (hm : Bm.MapAt w m) (hr : r < m.n) (hu : Bm.used m.ws r = false) : Calls Tryz.prog 23 #[.pointer (some ⟨m.a, 0, none⟩), .int .i64 r] w fun e w' => e = .returned (.int .i64 0) ∧ Bm.MapAt w' (m.turn r) ∧ But (fun k => k = m.b) w w' := by
  refine (Bm.set_in r m w hm hr).mono ?_
  rintro e w' ⟨m2, ho, hm2, hb2⟩
  rcases ho with ⟨h, _, _⟩ | ⟨_, h, rfl⟩
  · rw [hu] at h; cases h
  · exact ⟨h, hm2, only_but hb2⟩

set_option maxRecDepth 8000 in
set_option maxHeartbeats 4000000 in
theorem do_one (w0 w : World) (wb c g cap gt capt r dg b : Nat) (cs : List Value) (t : TypeId) (D : By) (vs : VS) (A : AC) (m : Bm.MS) (hw : BlkAt w wb cs t) (htf : foreignT t) (htu : t ≠ 61) (h0 : cs[0]? = some (ep c)) (h2 : cs[2]? = some (.slice (some ⟨gt, 0, none⟩) 1 capt)) (h3 : cs[3]? = some (.slice none 0 0)) (h4 : cs[4]? = some (.slice (some ⟨g, 0, none⟩) 1 cap)) (hT : w.ownsRow 0 3 1 (.slice (some ⟨gt, 0, none⟩) 1 capt) 1 [.int .i64 (r : Nat)]) (hP : Put1 w g cap r dg D) (hDl : D.length = 512) (hC : CW w0 w c vs A b) (hb : b < 700000) (hr : r < nbOf vs.d.n) (hok : A.held r = true ∨ A.full = false) (hp : ∀ e ∈ A.L, e.pins < 1000000)
    (he1 : ∃ e ∈ (pinned1 A r (vs.cont r)).L, e.block = r ∧ e.dirty = false) (he2 : ∃ e ∈ ((pinned1 A r (vs.cont r)).put r D).L, e.block = r ∧ 0 < e.pins ∧ e.pins < 1000000)
    (hm : Bm.MapAt w m) (hmr : r < m.n) (hmu : Bm.used m.ws r = false) :
    Calls Tryz.prog 43 #[.pointer (some ⟨wb, 0, none⟩), .pointer (some ⟨m.a, 0, none⟩)] w fun e w' => e = .returned (.int .i64 0) ∧ CW w0 w' c vs (((pinned1 A r (vs.cont r)).put r D).unpin r) (b + 3) ∧ Bm.MapAt w' (m.turn r) ∧ But (fun k => Cmn w0 w k ∨ k = m.b) w w' := by
  have ht : ¬ cTag t := cTag_not htf.1 htf.2.1 htf.2.2.1
  have cP := putAll_one w0 w wb c g cap r dg b cs t D vs A hw ht h0 h4 hP hDl hC hb hr hok hp he1 he2
  obtain ⟨c3, hmrow, _⟩ := hm.row
  have hmb : ¬ Cmn w0 w m.b := cmn_not hmrow (cTag_not (by decide) (by decide) (by decide))
  have hma : ¬ Cmn w0 w m.a := cmn_not hm.st (cTag_not (by decide) (by decide) (by decide))
  have HW : Hid (BlkAt w wb cs t ∧ Bm.MapAt w m ∧ w.ownsRow 0 3 1 (.slice (some ⟨gt, 0, none⟩) 1 capt) 1 [.int .i64 (r : Nat)] ∧ ¬ Cmn w0 w m.b ∧ ¬ Cmn w0 w m.a) := ⟨hw, hm, hT, hmb, hma⟩
  clear hw hm hT hP hC hmb hma hmrow
  go_enter Tryz.func43, Tryz.ntmps43
  go_wp2_with (go_at_call 65; refine cP.mono ?_; rintro e w1 ⟨rfl, hC1, hb1⟩; clear cP; refine Stop.out ?_)
  refine Stop.mk ?_
  have hw1 := HW.out.1.cache hb1 ht
  have d2 := hw1.cell h2
  have hT1 := own_butI HW.out.2.2.1 hb1 (fun k c4 _ hk => cmn_not hk (cTag_not (by decide) (by decide) (by decide)))
  have p0 := own_cell1 hT1 (j := 0) rfl
  have hm1 : Bm.MapAt w1 m := HW.out.2.1.keep (but_only hb1) HW.out.2.2.2.2 HW.out.2.2.2.1
  have cS := set_free r m w1 hm1 hmr hmu
  have H1 : Hid (CW w0 w1 c vs (((pinned1 A r (vs.cont r)).put r D).unpin r) (b + 3) ∧ But (Cmn w0 w) w w1 ∧ BlkAt w1 wb cs t ∧ Bm.MapAt w1 m) := ⟨hC1, hb1, hw1, hm1⟩
  clear hC1 hb1 hw1 hT1 hm1
  go_wp2_with fail
  go_loopw [20] (fun ii wr => ∃ i : Nat, i ≤ 1 ∧ ii = .int .i64 i ∧ Hid ((i = 0 ∧ wr = w1) ∨ (i = 1 ∧ Bm.MapAt wr (m.turn r) ∧ But (fun k => k = m.b) w1 wr))) (fun ii _ => 1 - (intOf ii).toNat)
  case atStart => exact ⟨0, by omega, rfl, .inl ⟨rfl, rfl⟩⟩
  case round =>
    obtain ⟨i, hi, hii, HI⟩ := hrel
    by_cases hi0 : i = 0
    · subst hi0
      subst hii
      obtain rfl : wr = w1 := by
        rcases HI.out with ⟨_, e⟩ | ⟨e, _⟩
        · exact e
        · cases e
      clear HI d2
      go_wp2_with (go_at_call 23; refine cS.mono ?_; rintro e w2 ⟨rfl, hm2, hb2⟩; clear cS; have H2 : Hid (Bm.MapAt w2 (m.turn r) ∧ But (fun k => k = m.b) wr w2) := ⟨hm2, hb2⟩; clear hm2 hb2)
      exact ⟨⟨1, by omega, rfl, .inr ⟨rfl, H2.out⟩⟩, by simp [intOf]⟩
    · have hi1 : i = 1 := by omega
      have H2 : Hid (Bm.MapAt wr (m.turn r) ∧ But (fun k => k = m.b) w1 wr) := by
        rcases HI.out with ⟨e, _⟩ | ⟨_, h⟩
        · exact absurd e hi0
        · exact h
      rw [hi1] at hii
      have hii' : _ = Value.int .i64 1 := hii
      clear hii HI hi hi0 hi1 d2 p0 cS
      subst hii'
      have hw2 : BlkAt wr wb cs t := H1.out.2.2.1.but H2.out.2 (map_b_ne H1.out.2.2.2 H1.out.2.2.1 htu)
      have d3 := hw2.cell h3
      clear hw2
      go_wp2_with fail
      go_loop [33] (fun ii => ii = .int .i64 0) (fun _ => 0)
      case atStart => rfl
      case round =>
        subst hrel
        go_wp2
        go_ret
        refine ⟨rfl, H1.out.1.foreign H2.out.2 (fun k hk => ?_), H2.out.1, (H1.out.2.1.mono (fun k _ h => .inl h)).trans (H2.out.2.mono (fun k _ h => .inr h))⟩
        obtain ⟨c5, hx, _⟩ := H1.out.2.2.2.row
        rw [show k = m.b from hk]
        exact ⟨_, _, _, hx, by unfold foreignT; decide⟩

end Go.Proofs.YtebdgcoandfocaaGreatDoor

/-
  Package inode: an inode becomes what it is to be.
-/
namespace Go.Proofs.YtebdgcoandfocaaGreatDoor
open Go.RowKit Go.Maps Go.Sort Go.Shelf

theorem InoAt.but {w w' : World} {a sz : Nat} {ns : List (BitVec 32)} {S : Nat → Prop} (h : InoAt w a sz ns) (hb : But S w w') (hS : ¬ S a) : InoAt w' a sz ns := (hb.block a h.lt hS).trans h

theorem InoAt.setSize {w : World} {a sz : Nat} {ns : List (BitVec 32)} (h : InoAt w a sz ns) (size : Nat) : InoAt (w.setCell ⟨a, 0, none⟩ (.int .i64 (size : Nat))) a size ns := by
  unfold InoAt at *
  simp [World.setCell, Array.getElem?_modify, h, inoCells]

theorem InoAt.put {w : World} {a sz : Nat} {ns : List (BitVec 32)} (h : InoAt w a sz ns) (i j : Nat) (n : BitVec 32) (hj : 1 + i = j) : InoAt (w.setCell ⟨a, j, none⟩ (.int .u32 (n.toNat : Int))) a sz (ns.set i n) := by
  subst hj
  exact h.set i n
theorem ino_all {w : World} {a sz : Nat} (size : Nat) (n0 n1 n2 n3 n4 n5 n6 n7 n8 n9 o0 o1 o2 o3 o4 o5 o6 o7 o8 o9 : BitVec 32) (h : InoAt w a sz [o0, o1, o2, o3, o4, o5, o6, o7, o8, o9]) :
    InoAt (((((((((((w.setCell ⟨a, 0, none⟩ (.int .i64 (size : Nat))).setCell ⟨a, 1, none⟩ (.int .u32 (n0.toNat : Int))).setCell ⟨a, 2, none⟩ (.int .u32 (n1.toNat : Int))).setCell ⟨a, 3, none⟩ (.int .u32 (n2.toNat : Int))).setCell ⟨a, 4, none⟩ (.int .u32 (n3.toNat : Int))).setCell ⟨a, 5, none⟩ (.int .u32 (n4.toNat : Int))).setCell ⟨a, 6, none⟩ (.int .u32 (n5.toNat : Int))).setCell ⟨a, 7, none⟩ (.int .u32 (n6.toNat : Int))).setCell ⟨a, 8, none⟩ (.int .u32 (n7.toNat : Int))).setCell ⟨a, 9, none⟩ (.int .u32 (n8.toNat : Int))).setCell ⟨a, 10, none⟩ (.int .u32 (n9.toNat : Int))) a size [n0, n1, n2, n3, n4, n5, n6, n7, n8, n9] ∧ But (fun k => k = a) w (((((((((((w.setCell ⟨a, 0, none⟩ (.int .i64 (size : Nat))).setCell ⟨a, 1, none⟩ (.int .u32 (n0.toNat : Int))).setCell ⟨a, 2, none⟩ (.int .u32 (n1.toNat : Int))).setCell ⟨a, 3, none⟩ (.int .u32 (n2.toNat : Int))).setCell ⟨a, 4, none⟩ (.int .u32 (n3.toNat : Int))).setCell ⟨a, 5, none⟩ (.int .u32 (n4.toNat : Int))).setCell ⟨a, 6, none⟩ (.int .u32 (n5.toNat : Int))).setCell ⟨a, 7, none⟩ (.int .u32 (n6.toNat : Int))).setCell ⟨a, 8, none⟩ (.int .u32 (n7.toNat : Int))).setCell ⟨a, 9, none⟩ (.int .u32 (n8.toNat : Int))).setCell ⟨a, 10, none⟩ (.int .u32 (n9.toNat : Int))) := by
  have hh := (((((((((((h.setSize size).put 0 1 n0 rfl).put 1 2 n1 rfl).put 2 3 n2 rfl).put 3 4 n3 rfl).put 4 5 n4 rfl).put 5 6 n5 rfl).put 6 7 n6 rfl).put 7 8 n7 rfl).put 8 9 n8 rfl).put 9 10 n9 rfl)
  simp only [List.set_cons_zero, List.set_cons_succ] at hh
  refine ⟨hh, ?_⟩
  iterate 11 (refine But.setCell (S := fun k => k = a) ?_ _ rfl _)
  exact But.refl _ _

set_option maxRecDepth 8000 in
set_option maxHeartbeats 4000000 in
/-- do leaves the inode; then it is set. -/
theorem become_any (w : World) (a sz size wb ma : Nat) (ns ns' : List (BitVec 32)) (R : World → Prop) (S : Nat → Prop) (hn : InoAt w a sz ns) (hnl : ns.length = 10) (hnl' : ns'.length = 10)
    (W : World) (hW : W = w.alloc (.cells (ns'.map u32v).toArray 55)) (hD : Calls Tryz.prog 43 #[.pointer (some ⟨wb, 0, none⟩), .pointer (some ⟨ma, 0, none⟩)] W fun e w' => e = .returned (.int .i64 0) ∧ R w' ∧ But S W w') (hSa : ¬ S a) (hSn : ¬ S w.heap.size) :
    Calls Tryz.prog 27 #[.pointer (some ⟨a, 0, none⟩), .int .i64 (size : Nat), .agg (ns'.map u32v).toArray, .pointer (some ⟨wb, 0, none⟩), .pointer (some ⟨ma, 0, none⟩)] w fun e w' => e = .returned (.int .i64 0) ∧ ∃ w1, R w1 ∧ But S w w1 ∧ InoAt w' a size ns' ∧ But (fun k => k = a) w1 w' := by
  obtain ⟨n0, n1, n2, n3, n4, n5, n6, n7, n8, n9, rfl⟩ := list10 hnl'
  obtain ⟨o0, o1, o2, o3, o4, o5, o6, o7, o8, o9, rfl⟩ := list10 hnl
  obtain ⟨w1, hw1⟩ : ∃ w1, w1 = w.alloc (.cells #[u32v n0, u32v n1, u32v n2, u32v n3, u32v n4, u32v n5, u32v n6, u32v n7, u32v n8, u32v n9] 55) := ⟨_, rfl⟩
  have hB1 : Below w.heap.size w w1 := by rw [hw1]; exact (Below.refl _ w).alloc (Nat.le_refl _) _
  have hx1 : NumsAt w1 w.heap.size [n0, n1, n2, n3, n4, n5, n6, n7, n8, n9] := by rw [hw1]; exact heap_alloc_new w _
  obtain rfl : w1 = W := by rw [hw1, hW]; rfl
  have cD := hD
  have HW : Hid (InoAt w a sz [o0, o1, o2, o3, o4, o5, o6, o7, o8, o9] ∧ Below w.heap.size w w1 ∧ NumsAt w1 w.heap.size [n0, n1, n2, n3, n4, n5, n6, n7, n8, n9]) := ⟨hn, hB1, hx1⟩
  clear hD hn hB1 hx1 hW
  go_enter Tryz.func27, Tryz.ntmps27
  go_wp2_with (go_at_call 43; rw [← hw1]; refine cD.mono ?_; rintro e w2 ⟨rfl, hR2, hb2⟩; clear cD hw1; refine Stop.out ?_)
  refine Stop.mk ?_
  have hi2 : InoAt w2 a sz [o0, o1, o2, o3, o4, o5, o6, o7, o8, o9] := (HW.out.1.below HW.out.2.1 HW.out.1.lt).but hb2 hSa
  have hx2 : NumsAt w2 w.heap.size [n0, n1, n2, n3, n4, n5, n6, n7, n8, n9] := HW.out.2.2.but hb2 hSn
  have c0 := hi2.size
  have f0 : w2.frozen? ⟨a, 0, none⟩ = false := frozenOf hi2 _
  have c1 : w2.cell? ⟨a, 1, none⟩ = some (u32v o0) := hi2.num (i := 0) rfl
  have f1 : w2.frozen? ⟨a, 1, none⟩ = false := frozenOf hi2 _
  have q0 : w2.cell? ⟨w.heap.size, 0, none⟩ = some (u32v n0) := hx2.num (i := 0) rfl
  have c2 : w2.cell? ⟨a, 2, none⟩ = some (u32v o1) := hi2.num (i := 1) rfl
  have f2 : w2.frozen? ⟨a, 2, none⟩ = false := frozenOf hi2 _
  have q1 : w2.cell? ⟨w.heap.size, 1, none⟩ = some (u32v n1) := hx2.num (i := 1) rfl
  have c3 : w2.cell? ⟨a, 3, none⟩ = some (u32v o2) := hi2.num (i := 2) rfl
  have f3 : w2.frozen? ⟨a, 3, none⟩ = false := frozenOf hi2 _
  have q2 : w2.cell? ⟨w.heap.size, 2, none⟩ = some (u32v n2) := hx2.num (i := 2) rfl
  have c4 : w2.cell? ⟨a, 4, none⟩ = some (u32v o3) := hi2.num (i := 3) rfl
  have f4 : w2.frozen? ⟨a, 4, none⟩ = false := frozenOf hi2 _
  have q3 : w2.cell? ⟨w.heap.size, 3, none⟩ = some (u32v n3) := hx2.num (i := 3) rfl
  have c5 : w2.cell? ⟨a, 5, none⟩ = some (u32v o4) := hi2.num (i := 4) rfl
  have f5 : w2.frozen? ⟨a, 5, none⟩ = false := frozenOf hi2 _
  have q4 : w2.cell? ⟨w.heap.size, 4, none⟩ = some (u32v n4) := hx2.num (i := 4) rfl
  have c6 : w2.cell? ⟨a, 6, none⟩ = some (u32v o5) := hi2.num (i := 5) rfl
  have f6 : w2.frozen? ⟨a, 6, none⟩ = false := frozenOf hi2 _
  have q5 : w2.cell? ⟨w.heap.size, 5, none⟩ = some (u32v n5) := hx2.num (i := 5) rfl
  have c7 : w2.cell? ⟨a, 7, none⟩ = some (u32v o6) := hi2.num (i := 6) rfl
  have f7 : w2.frozen? ⟨a, 7, none⟩ = false := frozenOf hi2 _
  have q6 : w2.cell? ⟨w.heap.size, 6, none⟩ = some (u32v n6) := hx2.num (i := 6) rfl
  have c8 : w2.cell? ⟨a, 8, none⟩ = some (u32v o7) := hi2.num (i := 7) rfl
  have f8 : w2.frozen? ⟨a, 8, none⟩ = false := frozenOf hi2 _
  have q7 : w2.cell? ⟨w.heap.size, 7, none⟩ = some (u32v n7) := hx2.num (i := 7) rfl
  have c9 : w2.cell? ⟨a, 9, none⟩ = some (u32v o8) := hi2.num (i := 8) rfl
  have f9 : w2.frozen? ⟨a, 9, none⟩ = false := frozenOf hi2 _
  have q8 : w2.cell? ⟨w.heap.size, 8, none⟩ = some (u32v n8) := hx2.num (i := 8) rfl
  have c10 : w2.cell? ⟨a, 10, none⟩ = some (u32v o9) := hi2.num (i := 9) rfl
  have f10 : w2.frozen? ⟨a, 10, none⟩ = false := frozenOf hi2 _
  have q9 : w2.cell? ⟨w.heap.size, 9, none⟩ = some (u32v n9) := hx2.num (i := 9) rfl
  have H2 : Hid (R w2 ∧ But S w w2 ∧ InoAt w2 a sz [o0, o1, o2, o3, o4, o5, o6, o7, o8, o9]) := ⟨hR2, (But.of_below HW.out.2.1).trans hb2, hi2⟩
  have hal := HW.out.1.lt
  have han : ¬ a = w.heap.size := by omega
  have han' : ¬ w.heap.size = a := by omega
  unfold u32v at *
  clear hi2 hx2 hR2 hb2 hal
  go_wp2_with fail
  go_region
  have HF : Hid _ := ino_all size n0 n1 n2 n3 n4 n5 n6 n7 n8 n9 _ _ _ _ _ _ _ _ _ _ H2.out.2.2
  generalize hw3 : ((((((((((w2.setCell ⟨a, 0, none⟩ (.int .i64 (size : Nat))).setCell ⟨a, 1, none⟩ (.int .u32 (n0.toNat : Int))).setCell ⟨a, 2, none⟩ (.int .u32 (n1.toNat : Int))).setCell ⟨a, 3, none⟩ (.int .u32 (n2.toNat : Int))).setCell ⟨a, 4, none⟩ (.int .u32 (n3.toNat : Int))).setCell ⟨a, 5, none⟩ (.int .u32 (n4.toNat : Int))).setCell ⟨a, 6, none⟩ (.int .u32 (n5.toNat : Int))).setCell ⟨a, 7, none⟩ (.int .u32 (n6.toNat : Int))).setCell ⟨a, 8, none⟩ (.int .u32 (n7.toNat : Int))).setCell ⟨a, 9, none⟩ (.int .u32 (n8.toNat : Int))).setCell ⟨a, 10, none⟩ (.int .u32 (n9.toNat : Int)) = w3 at HF ⊢
  clear hw3
  go_wp2
  go_ret
  exact ⟨rfl, w2, H2.out.1, H2.out.2.1, HF.out.1, HF.out.2.drew⟩

end Go.Proofs.YtebdgcoandfocaaGreatDoor
