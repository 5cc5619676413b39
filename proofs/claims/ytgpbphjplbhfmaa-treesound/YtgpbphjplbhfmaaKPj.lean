/-
  The drawn regions of the steps, of catchUp, undoTo, look and Apply.
-/
import Derived.Test.YtgpbphjplbhfmaaKPi

namespace Go.Proofs.Ytgpbphjplbhfmaa.Ck.Y
open Go.RowKit Go.Maps Go.Lib

set_option maxRecDepth 8000 in
set_option maxHeartbeats 4000000 in
theorem mkdo_r1 {Q : Exit → Act → World → Prop} {base : Array Value} {dd : List Deferred} {ops : Array Oper} (hops : Try.f54.body.bind (regs 1) = some ops) (mk gt mb : Nat) (t n : Int) (v : Value) (w9 : World) (hsz : base.size = 54)
    (b0 : base.getD 0 undef = .pointer (some ⟨mk, 0, none⟩))
    (m0 : w9.cell? ⟨mk, 0, none⟩ = some (.pointer (some ⟨gt, 0, none⟩))) (m2 : w9.cell? ⟨mk, 2, none⟩ = some (.int .i64 t)) (m3 : w9.cell? ⟨mk, 3, none⟩ = some (.int .i64 n)) (g0 : w9.cell? ⟨gt, 0, none⟩ = some (.map (some mb)))
    (hl : ∀ W, Below w9.heap.size w9 W → (Instr.lookup 49 (.map (some mb)) (idv t n) false).run Try.prog W = .ok (v) W)
    (hQ : ∀ W, Below w9.heap.size w9 W → Q .normal ⟨putAll base [(some 4, .pointer (some ⟨mk, 0, none⟩)), (some 5, .pointer (some ⟨mk, 0, none⟩)), (some 6, .pointer (some ⟨mk, 0, none⟩)), (some 7, .pointer (some ⟨gt, 0, none⟩)), (some 8, .pointer (some ⟨gt, 0, none⟩)), (some 9, .pointer (some ⟨gt, 0, none⟩)), (some 10, .map (some mb)), (some 11, .pointer (some ⟨mk, 0, none⟩)), (some 12, .pointer (some ⟨mk, 0, none⟩)), (some 13, .pointer (some ⟨mk, 2, none⟩)), (some 14, .agg #[.int .i64 t, .int .i64 n]), (some 15, v), (some 3, v)], dd⟩ W) :
    (Code.region 1 ops true).wp Try.prog Q ⟨base, dd⟩ w9 := by
  have hmix : Try.prog.follows .mixedOrders = true := by kernel_rfl
  have h2 := (show Try.f54.body.bind (regs 1) = some _ from rfl).symm.trans hops
  obtain rfl := Option.some.inj h2
  clear h2 hops
  have below9 : Below w9.heap.size w9 w9.drew := (Below.refl _ _).drew
  obtain ⟨LL, hLe⟩ : ∃ LL : List (Option Tmp × Value), LL = [(some 4, .pointer (some ⟨mk, 0, none⟩)), (some 5, .pointer (some ⟨mk, 0, none⟩)), (some 6, .pointer (some ⟨mk, 0, none⟩)), (some 7, .pointer (some ⟨gt, 0, none⟩)), (some 8, .pointer (some ⟨gt, 0, none⟩)), (some 9, .pointer (some ⟨gt, 0, none⟩)), (some 10, .map (some mb)), (some 11, .pointer (some ⟨mk, 0, none⟩)), (some 12, .pointer (some ⟨mk, 0, none⟩)), (some 13, .pointer (some ⟨mk, 2, none⟩)), (some 14, .agg #[.int .i64 t, .int .i64 n]), (some 15, v), (some 3, v)] := ⟨_, rfl⟩
  have vv0 : vals LL 0 = .pointer (some ⟨mk, 0, none⟩) := by rw [hLe]; rfl
  have vv1 : vals LL 1 = .pointer (some ⟨mk, 0, none⟩) := by rw [hLe]; rfl
  have vv2 : vals LL 2 = .pointer (some ⟨mk, 0, none⟩) := by rw [hLe]; rfl
  have vv3 : vals LL 3 = .pointer (some ⟨gt, 0, none⟩) := by rw [hLe]; rfl
  have vv4 : vals LL 4 = .pointer (some ⟨gt, 0, none⟩) := by rw [hLe]; rfl
  have vv5 : vals LL 5 = .pointer (some ⟨gt, 0, none⟩) := by rw [hLe]; rfl
  have vv6 : vals LL 6 = .map (some mb) := by rw [hLe]; rfl
  have vv7 : vals LL 7 = .pointer (some ⟨mk, 0, none⟩) := by rw [hLe]; rfl
  have vv8 : vals LL 8 = .pointer (some ⟨mk, 0, none⟩) := by rw [hLe]; rfl
  have vv9 : vals LL 9 = .pointer (some ⟨mk, 2, none⟩) := by rw [hLe]; rfl
  have vv10 : vals LL 10 = .agg #[.int .i64 t, .int .i64 n] := by rw [hLe]; rfl
  have vv11 : vals LL 11 = v := by rw [hLe]; rfl
  have vv12 : vals LL 12 = v := by rw [hLe]; rfl
  refine region_laid hmix (by kernel_rfl) 54 hsz (by kernel_rfl) LL (by rw [hLe]; rfl) (fun _ W => Below w9.heap.size w9 W) below9 ?_ ?_
  · intro b W i o a hS hcl ho hb hd ev kp yl
    match i with
    | 0 =>
      simp only [List.getElem?_toArray, List.getElem?_cons_zero, Option.some.injEq] at ho
      subst ho
      have e0 : a.tmps[0]?.getD undef = .pointer (some ⟨mk, 0, none⟩) := (kp 0 (by kernel_rfl)).trans b0
      rw [vv0]
      refine does_value rfl (by intro c h; cases h) (w' := W) ?_ (hS)
      · simp [execOp, go_sem, e0]
    | 1 =>
      simp only [List.getElem?_toArray, List.getElem?_cons_zero, List.getElem?_cons_succ, Option.some.injEq] at ho
      subst ho
      have p0 : b 0 = true := hd ⟨0, .data⟩ (by simp) rfl
      have e4 := (ev 0 4 rfl p0).trans vv0
      rw [vv1]
      refine does_value rfl (by intro c h; cases h) (w' := W) ?_ (hS)
      · simp [execOp, go_sem, e4]
    | 2 =>
      simp only [List.getElem?_toArray, List.getElem?_cons_zero, List.getElem?_cons_succ, Option.some.injEq] at ho
      subst ho
      have p1 : b 1 = true := hd ⟨1, .data⟩ (by simp) rfl
      have e5 := (ev 1 5 rfl p1).trans vv1
      rw [vv2]
      refine does_value rfl (by intro c h; cases h) (w' := W) ?_ (hS)
      · simp [execOp, go_sem, e5]
    | 3 =>
      simp only [List.getElem?_toArray, List.getElem?_cons_zero, List.getElem?_cons_succ, Option.some.injEq] at ho
      subst ho
      have p2 : b 2 = true := hd ⟨2, .data⟩ (by simp) rfl
      have e6 := (ev 2 6 rfl p2).trans vv2
      have d0 := (hS.cell (p := ⟨mk, 0, none⟩) (cell_lt m0)).trans m0
      rw [vv3]
      refine does_value rfl (by intro c h; cases h) (w' := W) ?_ (hS)
      · simp [execOp, go_sem, e6, d0]
    | 4 =>
      simp only [List.getElem?_toArray, List.getElem?_cons_zero, List.getElem?_cons_succ, Option.some.injEq] at ho
      subst ho
      have p3 : b 3 = true := hd ⟨3, .data⟩ (by simp) rfl
      have e7 := (ev 3 7 rfl p3).trans vv3
      rw [vv4]
      refine does_value rfl (by intro c h; cases h) (w' := W) ?_ (hS)
      · simp [execOp, go_sem, e7]
    | 5 =>
      simp only [List.getElem?_toArray, List.getElem?_cons_zero, List.getElem?_cons_succ, Option.some.injEq] at ho
      subst ho
      have p4 : b 4 = true := hd ⟨4, .data⟩ (by simp) rfl
      have e8 := (ev 4 8 rfl p4).trans vv4
      rw [vv5]
      refine does_value rfl (by intro c h; cases h) (w' := W) ?_ (hS)
      · simp [execOp, go_sem, e8]
    | 6 =>
      simp only [List.getElem?_toArray, List.getElem?_cons_zero, List.getElem?_cons_succ, Option.some.injEq] at ho
      subst ho
      have p5 : b 5 = true := hd ⟨5, .data⟩ (by simp) rfl
      have e9 := (ev 5 9 rfl p5).trans vv5
      have d0 := (hS.cell (p := ⟨gt, 0, none⟩) (cell_lt g0)).trans g0
      rw [vv6]
      refine does_value rfl (by intro c h; cases h) (w' := W) ?_ (hS)
      · simp [execOp, go_sem, e9, d0]
    | 7 =>
      simp only [List.getElem?_toArray, List.getElem?_cons_zero, List.getElem?_cons_succ, Option.some.injEq] at ho
      subst ho
      have e0 : a.tmps[0]?.getD undef = .pointer (some ⟨mk, 0, none⟩) := (kp 0 (by kernel_rfl)).trans b0
      rw [vv7]
      refine does_value rfl (by intro c h; cases h) (w' := W) ?_ (hS)
      · simp [execOp, go_sem, e0]
    | 8 =>
      simp only [List.getElem?_toArray, List.getElem?_cons_zero, List.getElem?_cons_succ, Option.some.injEq] at ho
      subst ho
      have p7 : b 7 = true := hd ⟨7, .data⟩ (by simp) rfl
      have e11 := (ev 7 11 rfl p7).trans vv7
      rw [vv8]
      refine does_value rfl (by intro c h; cases h) (w' := W) ?_ (hS)
      · simp [execOp, go_sem, e11]
    | 9 =>
      simp only [List.getElem?_toArray, List.getElem?_cons_zero, List.getElem?_cons_succ, Option.some.injEq] at ho
      subst ho
      have p8 : b 8 = true := hd ⟨8, .data⟩ (by simp) rfl
      have e12 := (ev 8 12 rfl p8).trans vv8
      rw [vv9]
      refine does_value rfl (by intro c h; cases h) (w' := W) ?_ (hS)
      · simp [execOp, go_sem, e12]
    | 10 =>
      simp only [List.getElem?_toArray, List.getElem?_cons_zero, List.getElem?_cons_succ, Option.some.injEq] at ho
      subst ho
      have p9 : b 9 = true := hd ⟨9, .data⟩ (by simp) rfl
      have e13 := (ev 9 13 rfl p9).trans vv9
      have d2 := (hS.cell (p := ⟨mk, 2, none⟩) (cell_lt m2)).trans m2
      have d3 := (hS.cell (p := ⟨mk, 3, none⟩) (cell_lt m3)).trans m3
      rw [vv10]
      refine does_value rfl (by intro c h; cases h) (w' := W) ?_ (hS)
      · simp [execOp, go_sem, e13, d2, d3]
    | 11 =>
      simp only [List.getElem?_toArray, List.getElem?_cons_zero, List.getElem?_cons_succ, Option.some.injEq] at ho
      subst ho
      have p6 : b 6 = true := hd ⟨6, .data⟩ (by simp) rfl
      have p10 : b 10 = true := hd ⟨10, .data⟩ (by simp) rfl
      have e10 := (ev 6 10 rfl p6).trans vv6
      have e14 := (ev 10 14 rfl p10).trans vv10
      rw [vv11]
      refine does_value rfl (by intro c h; cases h) (w' := W) ?_ (hS)
      · simp [execOp, go_sem, e10, e14, hl W hS]
    | 12 =>
      simp only [List.getElem?_toArray, List.getElem?_cons_zero, List.getElem?_cons_succ, Option.some.injEq] at ho
      subst ho
      have p11 : b 11 = true := hd ⟨11, .data⟩ (by simp) rfl
      have e15 := (ev 11 15 rfl p11).trans vv11
      rw [vv12]
      refine does_value rfl (by intro c h; cases h) (w' := W) ?_ (hS)
      · simp [execOp, go_sem, e15]
    | k + 13 => simp at ho
  · intro b' W hS _
    subst hLe
    exact hQ W hS

set_option maxRecDepth 8000 in
set_option maxHeartbeats 4000000 in
theorem mkdo_r4 {Q : Exit → Act → World → Prop} {base : Array Value} {dd : List Deferred} {ops : Array Oper} (hops : Try.f54.body.bind (regs 4) = some ops) (mk gt mb ob : Nat) (t n : Int) (WE : World) (w9 : World) (hsz : base.size = 54)
    (b0 : base.getD 0 undef = .pointer (some ⟨mk, 0, none⟩))
    (m0 : w9.cell? ⟨mk, 0, none⟩ = some (.pointer (some ⟨gt, 0, none⟩))) (m1 : w9.cell? ⟨mk, 1, none⟩ = some (.pointer (some ⟨ob, 0, none⟩))) (g0 : w9.cell? ⟨gt, 0, none⟩ = some (.map (some mb))) (o2 : w9.cell? ⟨ob, 2, none⟩ = some (.int .i64 t)) (o3 : w9.cell? ⟨ob, 3, none⟩ = some (.int .i64 n))
    (hp : (Instr.mapUpdate 49 (.map (some mb)) (idv t n) (.pointer (some ⟨ob, 0, none⟩))).run Try.prog w9.drew = .ok () WE)
    (hQ : ∀ (g : Unit) (W : World), (W = WE) → Q .normal ⟨putAll base ((fun _g : Unit => ([(some 25, .pointer (some ⟨mk, 0, none⟩)), (some 26, .pointer (some ⟨mk, 0, none⟩)), (some 27, .pointer (some ⟨mk, 0, none⟩)), (some 28, .pointer (some ⟨gt, 0, none⟩)), (some 29, .pointer (some ⟨gt, 0, none⟩)), (some 30, .pointer (some ⟨gt, 0, none⟩)), (some 31, .map (some mb)), (some 32, .pointer (some ⟨mk, 0, none⟩)), (some 33, .pointer (some ⟨mk, 0, none⟩)), (some 34, .pointer (some ⟨mk, 1, none⟩)), (some 35, .pointer (some ⟨ob, 0, none⟩)), (some 36, .pointer (some ⟨ob, 0, none⟩)), (some 37, .pointer (some ⟨ob, 2, none⟩)), (some 38, .agg #[.int .i64 t, .int .i64 n]), (some 39, .pointer (some ⟨mk, 0, none⟩)), (some 40, .pointer (some ⟨mk, 0, none⟩)), (some 41, .pointer (some ⟨mk, 1, none⟩)), (some 42, .pointer (some ⟨ob, 0, none⟩)), (none, undef)] : List (Option Tmp × Value))) g), dd⟩ W) :
    (Code.region 4 ops true).wp Try.prog Q ⟨base, dd⟩ w9 := by
  have hmix : Try.prog.follows .mixedOrders = true := by kernel_rfl
  have h2 := (show Try.f54.body.bind (regs 4) = some _ from rfl).symm.trans hops
  obtain rfl := Option.some.inj h2
  clear h2 hops
  obtain ⟨LL, hLe⟩ : ∃ LL : Unit → List (Option Tmp × Value), LL = (fun _g : Unit => ([(some 25, .pointer (some ⟨mk, 0, none⟩)), (some 26, .pointer (some ⟨mk, 0, none⟩)), (some 27, .pointer (some ⟨mk, 0, none⟩)), (some 28, .pointer (some ⟨gt, 0, none⟩)), (some 29, .pointer (some ⟨gt, 0, none⟩)), (some 30, .pointer (some ⟨gt, 0, none⟩)), (some 31, .map (some mb)), (some 32, .pointer (some ⟨mk, 0, none⟩)), (some 33, .pointer (some ⟨mk, 0, none⟩)), (some 34, .pointer (some ⟨mk, 1, none⟩)), (some 35, .pointer (some ⟨ob, 0, none⟩)), (some 36, .pointer (some ⟨ob, 0, none⟩)), (some 37, .pointer (some ⟨ob, 2, none⟩)), (some 38, .agg #[.int .i64 t, .int .i64 n]), (some 39, .pointer (some ⟨mk, 0, none⟩)), (some 40, .pointer (some ⟨mk, 0, none⟩)), (some 41, .pointer (some ⟨mk, 1, none⟩)), (some 42, .pointer (some ⟨ob, 0, none⟩)), (none, undef)] : List (Option Tmp × Value))) := ⟨_, rfl⟩
  have vv0 : ∀ g, vals (LL g) 0 = .pointer (some ⟨mk, 0, none⟩) := fun g => by rw [hLe]; rfl
  have vv1 : ∀ g, vals (LL g) 1 = .pointer (some ⟨mk, 0, none⟩) := fun g => by rw [hLe]; rfl
  have vv2 : ∀ g, vals (LL g) 2 = .pointer (some ⟨mk, 0, none⟩) := fun g => by rw [hLe]; rfl
  have vv3 : ∀ g, vals (LL g) 3 = .pointer (some ⟨gt, 0, none⟩) := fun g => by rw [hLe]; rfl
  have vv4 : ∀ g, vals (LL g) 4 = .pointer (some ⟨gt, 0, none⟩) := fun g => by rw [hLe]; rfl
  have vv5 : ∀ g, vals (LL g) 5 = .pointer (some ⟨gt, 0, none⟩) := fun g => by rw [hLe]; rfl
  have vv6 : ∀ g, vals (LL g) 6 = .map (some mb) := fun g => by rw [hLe]; rfl
  have vv7 : ∀ g, vals (LL g) 7 = .pointer (some ⟨mk, 0, none⟩) := fun g => by rw [hLe]; rfl
  have vv8 : ∀ g, vals (LL g) 8 = .pointer (some ⟨mk, 0, none⟩) := fun g => by rw [hLe]; rfl
  have vv9 : ∀ g, vals (LL g) 9 = .pointer (some ⟨mk, 1, none⟩) := fun g => by rw [hLe]; rfl
  have vv10 : ∀ g, vals (LL g) 10 = .pointer (some ⟨ob, 0, none⟩) := fun g => by rw [hLe]; rfl
  have vv11 : ∀ g, vals (LL g) 11 = .pointer (some ⟨ob, 0, none⟩) := fun g => by rw [hLe]; rfl
  have vv12 : ∀ g, vals (LL g) 12 = .pointer (some ⟨ob, 2, none⟩) := fun g => by rw [hLe]; rfl
  have vv13 : ∀ g, vals (LL g) 13 = .agg #[.int .i64 t, .int .i64 n] := fun g => by rw [hLe]; rfl
  have vv14 : ∀ g, vals (LL g) 14 = .pointer (some ⟨mk, 0, none⟩) := fun g => by rw [hLe]; rfl
  have vv15 : ∀ g, vals (LL g) 15 = .pointer (some ⟨mk, 0, none⟩) := fun g => by rw [hLe]; rfl
  have vv16 : ∀ g, vals (LL g) 16 = .pointer (some ⟨mk, 1, none⟩) := fun g => by rw [hLe]; rfl
  have vv17 : ∀ g, vals (LL g) 17 = .pointer (some ⟨ob, 0, none⟩) := fun g => by rw [hLe]; rfl
  have vv18 : ∀ g, vals (LL g) 18 = undef := fun g => by rw [hLe]; rfl
  refine region_laidg hmix (by kernel_rfl) 54 hsz (by kernel_rfl) () LL (fun g => by rw [hLe]; rfl) (fun (_g : Unit) (b : Nat → Bool) (W : World) => if b 18 = true then (W = WE) else (W = w9.drew)) ?_ ?_ ?_
  · simp only [Bool.false_eq_true, if_false]
  · intro g b W io o a hS hcl ho hb hd ev kp yl
    match io with
    | 0 =>
      simp only [List.getElem?_toArray, List.getElem?_cons_zero, Option.some.injEq] at ho
      subst ho
      have e0 : a.tmps[0]?.getD undef = .pointer (some ⟨mk, 0, none⟩) := (kp 0 (none_till (by kernel_rfl))).trans b0
      have n18 : b 18 = false := by
        cases h : b 18
        · rfl
        · rw [hcl 1 _ rfl (hcl 2 _ rfl (hcl 3 _ rfl (hcl 4 _ rfl (hcl 5 _ rfl (hcl 6 _ rfl (hcl 18 _ rfl (h) ⟨6, .data⟩ (by simp) rfl) ⟨5, .data⟩ (by simp) rfl) ⟨4, .data⟩ (by simp) rfl) ⟨3, .data⟩ (by simp) rfl) ⟨2, .data⟩ (by simp) rfl) ⟨1, .data⟩ (by simp) rfl) ⟨0, .data⟩ (by simp) rfl] at hb; cases hb
      refine doesg_value rfl (by intro c h; cases h) (v := .pointer (some ⟨mk, 0, none⟩)) (w' := W) ?_ ⟨g, fun _ _ => rfl, (vv0 g).symm, by simpa [did] using hS⟩
      · simp [execOp, go_sem, e0]
    | 1 =>
      simp only [List.getElem?_toArray, List.getElem?_cons_zero, List.getElem?_cons_succ, Option.some.injEq] at ho
      subst ho
      have p0 : b 0 = true := hd ⟨0, .data⟩ (by simp) rfl
      have e25 := (ev 0 25 rfl p0).trans (vv0 g)
      have n18 : b 18 = false := by
        cases h : b 18
        · rfl
        · rw [hcl 2 _ rfl (hcl 3 _ rfl (hcl 4 _ rfl (hcl 5 _ rfl (hcl 6 _ rfl (hcl 18 _ rfl (h) ⟨6, .data⟩ (by simp) rfl) ⟨5, .data⟩ (by simp) rfl) ⟨4, .data⟩ (by simp) rfl) ⟨3, .data⟩ (by simp) rfl) ⟨2, .data⟩ (by simp) rfl) ⟨1, .data⟩ (by simp) rfl] at hb; cases hb
      refine doesg_value rfl (by intro c h; cases h) (v := .pointer (some ⟨mk, 0, none⟩)) (w' := W) ?_ ⟨g, fun _ _ => rfl, (vv1 g).symm, by simpa [did] using hS⟩
      · simp [execOp, go_sem, e25]
    | 2 =>
      simp only [List.getElem?_toArray, List.getElem?_cons_zero, List.getElem?_cons_succ, Option.some.injEq] at ho
      subst ho
      have p1 : b 1 = true := hd ⟨1, .data⟩ (by simp) rfl
      have e26 := (ev 1 26 rfl p1).trans (vv1 g)
      have n18 : b 18 = false := by
        cases h : b 18
        · rfl
        · rw [hcl 3 _ rfl (hcl 4 _ rfl (hcl 5 _ rfl (hcl 6 _ rfl (hcl 18 _ rfl (h) ⟨6, .data⟩ (by simp) rfl) ⟨5, .data⟩ (by simp) rfl) ⟨4, .data⟩ (by simp) rfl) ⟨3, .data⟩ (by simp) rfl) ⟨2, .data⟩ (by simp) rfl] at hb; cases hb
      refine doesg_value rfl (by intro c h; cases h) (v := .pointer (some ⟨mk, 0, none⟩)) (w' := W) ?_ ⟨g, fun _ _ => rfl, (vv2 g).symm, by simpa [did] using hS⟩
      · simp [execOp, go_sem, e26]
    | 3 =>
      simp only [List.getElem?_toArray, List.getElem?_cons_zero, List.getElem?_cons_succ, Option.some.injEq] at ho
      subst ho
      have p2 : b 2 = true := hd ⟨2, .data⟩ (by simp) rfl
      have e27 := (ev 2 27 rfl p2).trans (vv2 g)
      have n18 : b 18 = false := by
        cases h : b 18
        · rfl
        · rw [hcl 4 _ rfl (hcl 5 _ rfl (hcl 6 _ rfl (hcl 18 _ rfl (h) ⟨6, .data⟩ (by simp) rfl) ⟨5, .data⟩ (by simp) rfl) ⟨4, .data⟩ (by simp) rfl) ⟨3, .data⟩ (by simp) rfl] at hb; cases hb
      have hW : W = w9.drew := by simpa [n18] using hS
      have hl : W.cell? ⟨mk, 0, none⟩ = some (.pointer (some ⟨gt, 0, none⟩)) := by rw [hW]; exact m0
      refine doesg_value rfl (by intro c h; cases h) (v := .pointer (some ⟨gt, 0, none⟩)) (w' := W) ?_ ⟨g, fun _ _ => rfl, (vv3 g).symm, by simpa [did] using hS⟩
      · simp [execOp, go_sem, e27, hl]
    | 4 =>
      simp only [List.getElem?_toArray, List.getElem?_cons_zero, List.getElem?_cons_succ, Option.some.injEq] at ho
      subst ho
      have p3 : b 3 = true := hd ⟨3, .data⟩ (by simp) rfl
      have e28 := (ev 3 28 rfl p3).trans (vv3 g)
      have n18 : b 18 = false := by
        cases h : b 18
        · rfl
        · rw [hcl 5 _ rfl (hcl 6 _ rfl (hcl 18 _ rfl (h) ⟨6, .data⟩ (by simp) rfl) ⟨5, .data⟩ (by simp) rfl) ⟨4, .data⟩ (by simp) rfl] at hb; cases hb
      refine doesg_value rfl (by intro c h; cases h) (v := .pointer (some ⟨gt, 0, none⟩)) (w' := W) ?_ ⟨g, fun _ _ => rfl, (vv4 g).symm, by simpa [did] using hS⟩
      · simp [execOp, go_sem, e28]
    | 5 =>
      simp only [List.getElem?_toArray, List.getElem?_cons_zero, List.getElem?_cons_succ, Option.some.injEq] at ho
      subst ho
      have p4 : b 4 = true := hd ⟨4, .data⟩ (by simp) rfl
      have e29 := (ev 4 29 rfl p4).trans (vv4 g)
      have n18 : b 18 = false := by
        cases h : b 18
        · rfl
        · rw [hcl 6 _ rfl (hcl 18 _ rfl (h) ⟨6, .data⟩ (by simp) rfl) ⟨5, .data⟩ (by simp) rfl] at hb; cases hb
      refine doesg_value rfl (by intro c h; cases h) (v := .pointer (some ⟨gt, 0, none⟩)) (w' := W) ?_ ⟨g, fun _ _ => rfl, (vv5 g).symm, by simpa [did] using hS⟩
      · simp [execOp, go_sem, e29]
    | 6 =>
      simp only [List.getElem?_toArray, List.getElem?_cons_zero, List.getElem?_cons_succ, Option.some.injEq] at ho
      subst ho
      have p5 : b 5 = true := hd ⟨5, .data⟩ (by simp) rfl
      have e30 := (ev 5 30 rfl p5).trans (vv5 g)
      have n18 : b 18 = false := by
        cases h : b 18
        · rfl
        · rw [hcl 18 _ rfl (h) ⟨6, .data⟩ (by simp) rfl] at hb; cases hb
      have hW : W = w9.drew := by simpa [n18] using hS
      have hl : W.cell? ⟨gt, 0, none⟩ = some (.map (some mb)) := by rw [hW]; exact g0
      refine doesg_value rfl (by intro c h; cases h) (v := .map (some mb)) (w' := W) ?_ ⟨g, fun _ _ => rfl, (vv6 g).symm, by simpa [did] using hS⟩
      · simp [execOp, go_sem, e30, hl]
    | 7 =>
      simp only [List.getElem?_toArray, List.getElem?_cons_zero, List.getElem?_cons_succ, Option.some.injEq] at ho
      subst ho
      have e0 : a.tmps[0]?.getD undef = .pointer (some ⟨mk, 0, none⟩) := (kp 0 (none_till (by kernel_rfl))).trans b0
      have n18 : b 18 = false := by
        cases h : b 18
        · rfl
        · rw [hcl 8 _ rfl (hcl 9 _ rfl (hcl 10 _ rfl (hcl 11 _ rfl (hcl 12 _ rfl (hcl 13 _ rfl (hcl 18 _ rfl (h) ⟨13, .data⟩ (by simp) rfl) ⟨12, .data⟩ (by simp) rfl) ⟨11, .data⟩ (by simp) rfl) ⟨10, .data⟩ (by simp) rfl) ⟨9, .data⟩ (by simp) rfl) ⟨8, .data⟩ (by simp) rfl) ⟨7, .data⟩ (by simp) rfl] at hb; cases hb
      refine doesg_value rfl (by intro c h; cases h) (v := .pointer (some ⟨mk, 0, none⟩)) (w' := W) ?_ ⟨g, fun _ _ => rfl, (vv7 g).symm, by simpa [did] using hS⟩
      · simp [execOp, go_sem, e0]
    | 8 =>
      simp only [List.getElem?_toArray, List.getElem?_cons_zero, List.getElem?_cons_succ, Option.some.injEq] at ho
      subst ho
      have p7 : b 7 = true := hd ⟨7, .data⟩ (by simp) rfl
      have e32 := (ev 7 32 rfl p7).trans (vv7 g)
      have n18 : b 18 = false := by
        cases h : b 18
        · rfl
        · rw [hcl 9 _ rfl (hcl 10 _ rfl (hcl 11 _ rfl (hcl 12 _ rfl (hcl 13 _ rfl (hcl 18 _ rfl (h) ⟨13, .data⟩ (by simp) rfl) ⟨12, .data⟩ (by simp) rfl) ⟨11, .data⟩ (by simp) rfl) ⟨10, .data⟩ (by simp) rfl) ⟨9, .data⟩ (by simp) rfl) ⟨8, .data⟩ (by simp) rfl] at hb; cases hb
      refine doesg_value rfl (by intro c h; cases h) (v := .pointer (some ⟨mk, 0, none⟩)) (w' := W) ?_ ⟨g, fun _ _ => rfl, (vv8 g).symm, by simpa [did] using hS⟩
      · simp [execOp, go_sem, e32]
    | 9 =>
      simp only [List.getElem?_toArray, List.getElem?_cons_zero, List.getElem?_cons_succ, Option.some.injEq] at ho
      subst ho
      have p8 : b 8 = true := hd ⟨8, .data⟩ (by simp) rfl
      have e33 := (ev 8 33 rfl p8).trans (vv8 g)
      have n18 : b 18 = false := by
        cases h : b 18
        · rfl
        · rw [hcl 10 _ rfl (hcl 11 _ rfl (hcl 12 _ rfl (hcl 13 _ rfl (hcl 18 _ rfl (h) ⟨13, .data⟩ (by simp) rfl) ⟨12, .data⟩ (by simp) rfl) ⟨11, .data⟩ (by simp) rfl) ⟨10, .data⟩ (by simp) rfl) ⟨9, .data⟩ (by simp) rfl] at hb; cases hb
      refine doesg_value rfl (by intro c h; cases h) (v := .pointer (some ⟨mk, 1, none⟩)) (w' := W) ?_ ⟨g, fun _ _ => rfl, (vv9 g).symm, by simpa [did] using hS⟩
      · simp [execOp, go_sem, e33]
    | 10 =>
      simp only [List.getElem?_toArray, List.getElem?_cons_zero, List.getElem?_cons_succ, Option.some.injEq] at ho
      subst ho
      have p9 : b 9 = true := hd ⟨9, .data⟩ (by simp) rfl
      have e34 := (ev 9 34 rfl p9).trans (vv9 g)
      have n18 : b 18 = false := by
        cases h : b 18
        · rfl
        · rw [hcl 11 _ rfl (hcl 12 _ rfl (hcl 13 _ rfl (hcl 18 _ rfl (h) ⟨13, .data⟩ (by simp) rfl) ⟨12, .data⟩ (by simp) rfl) ⟨11, .data⟩ (by simp) rfl) ⟨10, .data⟩ (by simp) rfl] at hb; cases hb
      have hW : W = w9.drew := by simpa [n18] using hS
      have hl : W.cell? ⟨mk, 1, none⟩ = some (.pointer (some ⟨ob, 0, none⟩)) := by rw [hW]; exact m1
      refine doesg_value rfl (by intro c h; cases h) (v := .pointer (some ⟨ob, 0, none⟩)) (w' := W) ?_ ⟨g, fun _ _ => rfl, (vv10 g).symm, by simpa [did] using hS⟩
      · simp [execOp, go_sem, e34, hl]
    | 11 =>
      simp only [List.getElem?_toArray, List.getElem?_cons_zero, List.getElem?_cons_succ, Option.some.injEq] at ho
      subst ho
      have p10 : b 10 = true := hd ⟨10, .data⟩ (by simp) rfl
      have e35 := (ev 10 35 rfl p10).trans (vv10 g)
      have n18 : b 18 = false := by
        cases h : b 18
        · rfl
        · rw [hcl 12 _ rfl (hcl 13 _ rfl (hcl 18 _ rfl (h) ⟨13, .data⟩ (by simp) rfl) ⟨12, .data⟩ (by simp) rfl) ⟨11, .data⟩ (by simp) rfl] at hb; cases hb
      refine doesg_value rfl (by intro c h; cases h) (v := .pointer (some ⟨ob, 0, none⟩)) (w' := W) ?_ ⟨g, fun _ _ => rfl, (vv11 g).symm, by simpa [did] using hS⟩
      · simp [execOp, go_sem, e35]
    | 12 =>
      simp only [List.getElem?_toArray, List.getElem?_cons_zero, List.getElem?_cons_succ, Option.some.injEq] at ho
      subst ho
      have p11 : b 11 = true := hd ⟨11, .data⟩ (by simp) rfl
      have e36 := (ev 11 36 rfl p11).trans (vv11 g)
      have n18 : b 18 = false := by
        cases h : b 18
        · rfl
        · rw [hcl 13 _ rfl (hcl 18 _ rfl (h) ⟨13, .data⟩ (by simp) rfl) ⟨12, .data⟩ (by simp) rfl] at hb; cases hb
      refine doesg_value rfl (by intro c h; cases h) (v := .pointer (some ⟨ob, 2, none⟩)) (w' := W) ?_ ⟨g, fun _ _ => rfl, (vv12 g).symm, by simpa [did] using hS⟩
      · simp [execOp, go_sem, e36]
    | 13 =>
      simp only [List.getElem?_toArray, List.getElem?_cons_zero, List.getElem?_cons_succ, Option.some.injEq] at ho
      subst ho
      have p12 : b 12 = true := hd ⟨12, .data⟩ (by simp) rfl
      have e37 := (ev 12 37 rfl p12).trans (vv12 g)
      have n18 : b 18 = false := by
        cases h : b 18
        · rfl
        · rw [hcl 18 _ rfl (h) ⟨13, .data⟩ (by simp) rfl] at hb; cases hb
      have hW : W = w9.drew := by simpa [n18] using hS
      have hl : W.cell? ⟨ob, 2, none⟩ = some (.int .i64 t) := by rw [hW]; exact o2
      have hl2 : W.cell? ⟨ob, 3, none⟩ = some (.int .i64 n) := by rw [hW]; exact o3
      refine doesg_value rfl (by intro c h; cases h) (v := .agg #[.int .i64 t, .int .i64 n]) (w' := W) ?_ ⟨g, fun _ _ => rfl, (vv13 g).symm, by simpa [did] using hS⟩
      · simp [execOp, go_sem, e37, hl, hl2]
    | 14 =>
      simp only [List.getElem?_toArray, List.getElem?_cons_zero, List.getElem?_cons_succ, Option.some.injEq] at ho
      subst ho
      have e0 : a.tmps[0]?.getD undef = .pointer (some ⟨mk, 0, none⟩) := (kp 0 (none_till (by kernel_rfl))).trans b0
      have n18 : b 18 = false := by
        cases h : b 18
        · rfl
        · rw [hcl 15 _ rfl (hcl 16 _ rfl (hcl 17 _ rfl (hcl 18 _ rfl (h) ⟨17, .data⟩ (by simp) rfl) ⟨16, .data⟩ (by simp) rfl) ⟨15, .data⟩ (by simp) rfl) ⟨14, .data⟩ (by simp) rfl] at hb; cases hb
      refine doesg_value rfl (by intro c h; cases h) (v := .pointer (some ⟨mk, 0, none⟩)) (w' := W) ?_ ⟨g, fun _ _ => rfl, (vv14 g).symm, by simpa [did] using hS⟩
      · simp [execOp, go_sem, e0]
    | 15 =>
      simp only [List.getElem?_toArray, List.getElem?_cons_zero, List.getElem?_cons_succ, Option.some.injEq] at ho
      subst ho
      have p14 : b 14 = true := hd ⟨14, .data⟩ (by simp) rfl
      have e39 := (ev 14 39 rfl p14).trans (vv14 g)
      have n18 : b 18 = false := by
        cases h : b 18
        · rfl
        · rw [hcl 16 _ rfl (hcl 17 _ rfl (hcl 18 _ rfl (h) ⟨17, .data⟩ (by simp) rfl) ⟨16, .data⟩ (by simp) rfl) ⟨15, .data⟩ (by simp) rfl] at hb; cases hb
      refine doesg_value rfl (by intro c h; cases h) (v := .pointer (some ⟨mk, 0, none⟩)) (w' := W) ?_ ⟨g, fun _ _ => rfl, (vv15 g).symm, by simpa [did] using hS⟩
      · simp [execOp, go_sem, e39]
    | 16 =>
      simp only [List.getElem?_toArray, List.getElem?_cons_zero, List.getElem?_cons_succ, Option.some.injEq] at ho
      subst ho
      have p15 : b 15 = true := hd ⟨15, .data⟩ (by simp) rfl
      have e40 := (ev 15 40 rfl p15).trans (vv15 g)
      have n18 : b 18 = false := by
        cases h : b 18
        · rfl
        · rw [hcl 17 _ rfl (hcl 18 _ rfl (h) ⟨17, .data⟩ (by simp) rfl) ⟨16, .data⟩ (by simp) rfl] at hb; cases hb
      refine doesg_value rfl (by intro c h; cases h) (v := .pointer (some ⟨mk, 1, none⟩)) (w' := W) ?_ ⟨g, fun _ _ => rfl, (vv16 g).symm, by simpa [did] using hS⟩
      · simp [execOp, go_sem, e40]
    | 17 =>
      simp only [List.getElem?_toArray, List.getElem?_cons_zero, List.getElem?_cons_succ, Option.some.injEq] at ho
      subst ho
      have p16 : b 16 = true := hd ⟨16, .data⟩ (by simp) rfl
      have e41 := (ev 16 41 rfl p16).trans (vv16 g)
      have n18 : b 18 = false := by
        cases h : b 18
        · rfl
        · rw [hcl 18 _ rfl (h) ⟨17, .data⟩ (by simp) rfl] at hb; cases hb
      have hW : W = w9.drew := by simpa [n18] using hS
      have hl : W.cell? ⟨mk, 1, none⟩ = some (.pointer (some ⟨ob, 0, none⟩)) := by rw [hW]; exact m1
      refine doesg_value rfl (by intro c h; cases h) (v := .pointer (some ⟨ob, 0, none⟩)) (w' := W) ?_ ⟨g, fun _ _ => rfl, (vv17 g).symm, by simpa [did] using hS⟩
      · simp [execOp, go_sem, e41, hl]
    | 18 =>
      simp only [List.getElem?_toArray, List.getElem?_cons_zero, List.getElem?_cons_succ, Option.some.injEq] at ho
      subst ho
      have p6 : b 6 = true := hd ⟨6, .data⟩ (by simp) rfl
      have p13 : b 13 = true := hd ⟨13, .data⟩ (by simp) rfl
      have p17 : b 17 = true := hd ⟨17, .data⟩ (by simp) rfl
      have e31 := (ev 6 31 rfl p6).trans (vv6 g)
      have e38 := (ev 13 38 rfl p13).trans (vv13 g)
      have e42 := (ev 17 42 rfl p17).trans (vv17 g)
      have hS9 : W = w9.drew := by simpa [hb] using hS
      obtain ⟨W', hr, hP⟩ := (⟨WE, hp, rfl⟩ : ∃ W', (Instr.mapUpdate 49 (.map (some mb)) (idv t n) (.pointer (some ⟨ob, 0, none⟩))).run Try.prog w9.drew = .ok () W' ∧ W' = WE)
      refine doesg_skip rfl (by intro c h; cases h) (w' := W') ?_ ⟨g, fun _ _ => rfl, (vv18 _).symm, ?_⟩
      · rw [hS9]; simp [execOp, go_sem, e31, e38, e42, hr]
      · simpa [did] using hP
    | k + 19 => simp at ho
  · intro g b W hS hall
    have hl9 : b 18 = true := hall 18 (by decide)
    subst hLe
    exact hQ g W (by simpa [hl9] using hS)

set_option maxRecDepth 8000 in
set_option maxHeartbeats 4000000 in
theorem mkdo_r5 {Q : Exit → Act → World → Prop} {base : Array Value} {dd : List Deferred} {ops : Array Oper} (hops : Try.f54.body.bind (regs 5) = some ops) (mk ob u : Nat) (nm : ByteArray) (Post : World → Prop) (w9 : World) (hsz : base.size = 54)
    (b0 : base.getD 0 undef = .pointer (some ⟨mk, 0, none⟩))
    (b3 : base.getD 3 undef = .pointer (some ⟨u, 0, none⟩))
    (m1 : w9.cell? ⟨mk, 1, none⟩ = some (.pointer (some ⟨ob, 0, none⟩))) (m4 : w9.cell? ⟨mk, 4, none⟩ = some (.string nm))
    (hc : Calls Try.prog 76 #[.pointer (some ⟨ob, 0, none⟩), .agg #[.pointer (some ⟨u, 0, none⟩), .string nm]] w9.drew fun e W' => e = .returned (.tuple #[]) ∧ Post W')
    (hQ : ∀ (g : Unit) (W : World), (Post W) → Q .normal ⟨putAll base ((fun _g : Unit => ([(some 43, .pointer (some ⟨mk, 0, none⟩)), (some 44, .pointer (some ⟨mk, 0, none⟩)), (some 45, .pointer (some ⟨mk, 1, none⟩)), (some 46, .pointer (some ⟨ob, 0, none⟩)), (some 47, .pointer (some ⟨u, 0, none⟩)), (some 48, .pointer (some ⟨mk, 0, none⟩)), (some 49, .pointer (some ⟨mk, 0, none⟩)), (some 50, .pointer (some ⟨mk, 4, none⟩)), (some 51, .string nm), (some 52, .agg #[.pointer (some ⟨u, 0, none⟩), .string nm]), (some 53, .tuple #[])] : List (Option Tmp × Value))) g), dd⟩ W) :
    (Code.region 5 ops true).wp Try.prog Q ⟨base, dd⟩ w9 := by
  have hmix : Try.prog.follows .mixedOrders = true := by kernel_rfl
  have h2 := (show Try.f54.body.bind (regs 5) = some _ from rfl).symm.trans hops
  obtain rfl := Option.some.inj h2
  clear h2 hops
  have cK : ∀ (g : Unit) (W : World), W = w9.drew → Calls Try.prog 76 #[.pointer (some ⟨ob, 0, none⟩), .agg #[.pointer (some ⟨u, 0, none⟩), .string nm]] W fun e W' => ∃ x : Unit, e = .returned (.tuple #[]) ∧ Post W' := fun g W hW => by
    rw [hW]
    exact hc.mono fun e W' h => ⟨(), h.1, h.2⟩
  obtain ⟨LL, hLe⟩ : ∃ LL : Unit → List (Option Tmp × Value), LL = (fun _g : Unit => ([(some 43, .pointer (some ⟨mk, 0, none⟩)), (some 44, .pointer (some ⟨mk, 0, none⟩)), (some 45, .pointer (some ⟨mk, 1, none⟩)), (some 46, .pointer (some ⟨ob, 0, none⟩)), (some 47, .pointer (some ⟨u, 0, none⟩)), (some 48, .pointer (some ⟨mk, 0, none⟩)), (some 49, .pointer (some ⟨mk, 0, none⟩)), (some 50, .pointer (some ⟨mk, 4, none⟩)), (some 51, .string nm), (some 52, .agg #[.pointer (some ⟨u, 0, none⟩), .string nm]), (some 53, .tuple #[])] : List (Option Tmp × Value))) := ⟨_, rfl⟩
  have vv0 : ∀ g, vals (LL g) 0 = .pointer (some ⟨mk, 0, none⟩) := fun g => by rw [hLe]; rfl
  have vv1 : ∀ g, vals (LL g) 1 = .pointer (some ⟨mk, 0, none⟩) := fun g => by rw [hLe]; rfl
  have vv2 : ∀ g, vals (LL g) 2 = .pointer (some ⟨mk, 1, none⟩) := fun g => by rw [hLe]; rfl
  have vv3 : ∀ g, vals (LL g) 3 = .pointer (some ⟨ob, 0, none⟩) := fun g => by rw [hLe]; rfl
  have vv4 : ∀ g, vals (LL g) 4 = .pointer (some ⟨u, 0, none⟩) := fun g => by rw [hLe]; rfl
  have vv5 : ∀ g, vals (LL g) 5 = .pointer (some ⟨mk, 0, none⟩) := fun g => by rw [hLe]; rfl
  have vv6 : ∀ g, vals (LL g) 6 = .pointer (some ⟨mk, 0, none⟩) := fun g => by rw [hLe]; rfl
  have vv7 : ∀ g, vals (LL g) 7 = .pointer (some ⟨mk, 4, none⟩) := fun g => by rw [hLe]; rfl
  have vv8 : ∀ g, vals (LL g) 8 = .string nm := fun g => by rw [hLe]; rfl
  have vv9 : ∀ g, vals (LL g) 9 = .agg #[.pointer (some ⟨u, 0, none⟩), .string nm] := fun g => by rw [hLe]; rfl
  have vv10 : ∀ g, vals (LL g) 10 = .tuple #[] := fun g => by rw [hLe]; rfl
  refine region_laidg hmix (by kernel_rfl) 54 hsz (by kernel_rfl) () LL (fun g => by rw [hLe]; rfl) (fun (_g : Unit) (b : Nat → Bool) (W : World) => if b 10 = true then (Post W) else (W = w9.drew)) ?_ ?_ ?_
  · simp only [Bool.false_eq_true, if_false]
  · intro g b W io o a hS hcl ho hb hd ev kp yl
    match io with
    | 0 =>
      simp only [List.getElem?_toArray, List.getElem?_cons_zero, Option.some.injEq] at ho
      subst ho
      have e0 : a.tmps[0]?.getD undef = .pointer (some ⟨mk, 0, none⟩) := (kp 0 (none_till (by kernel_rfl))).trans b0
      have n10 : b 10 = false := by
        cases h : b 10
        · rfl
        · rw [hcl 1 _ rfl (hcl 2 _ rfl (hcl 3 _ rfl (hcl 10 _ rfl (h) ⟨3, .data⟩ (by simp) rfl) ⟨2, .data⟩ (by simp) rfl) ⟨1, .data⟩ (by simp) rfl) ⟨0, .data⟩ (by simp) rfl] at hb; cases hb
      refine doesg_value rfl (by intro c h; cases h) (v := .pointer (some ⟨mk, 0, none⟩)) (w' := W) ?_ ⟨g, fun _ _ => rfl, (vv0 g).symm, by simpa [did] using hS⟩
      · simp [execOp, go_sem, e0]
    | 1 =>
      simp only [List.getElem?_toArray, List.getElem?_cons_zero, List.getElem?_cons_succ, Option.some.injEq] at ho
      subst ho
      have p0 : b 0 = true := hd ⟨0, .data⟩ (by simp) rfl
      have e43 := (ev 0 43 rfl p0).trans (vv0 g)
      have n10 : b 10 = false := by
        cases h : b 10
        · rfl
        · rw [hcl 2 _ rfl (hcl 3 _ rfl (hcl 10 _ rfl (h) ⟨3, .data⟩ (by simp) rfl) ⟨2, .data⟩ (by simp) rfl) ⟨1, .data⟩ (by simp) rfl] at hb; cases hb
      refine doesg_value rfl (by intro c h; cases h) (v := .pointer (some ⟨mk, 0, none⟩)) (w' := W) ?_ ⟨g, fun _ _ => rfl, (vv1 g).symm, by simpa [did] using hS⟩
      · simp [execOp, go_sem, e43]
    | 2 =>
      simp only [List.getElem?_toArray, List.getElem?_cons_zero, List.getElem?_cons_succ, Option.some.injEq] at ho
      subst ho
      have p1 : b 1 = true := hd ⟨1, .data⟩ (by simp) rfl
      have e44 := (ev 1 44 rfl p1).trans (vv1 g)
      have n10 : b 10 = false := by
        cases h : b 10
        · rfl
        · rw [hcl 3 _ rfl (hcl 10 _ rfl (h) ⟨3, .data⟩ (by simp) rfl) ⟨2, .data⟩ (by simp) rfl] at hb; cases hb
      refine doesg_value rfl (by intro c h; cases h) (v := .pointer (some ⟨mk, 1, none⟩)) (w' := W) ?_ ⟨g, fun _ _ => rfl, (vv2 g).symm, by simpa [did] using hS⟩
      · simp [execOp, go_sem, e44]
    | 3 =>
      simp only [List.getElem?_toArray, List.getElem?_cons_zero, List.getElem?_cons_succ, Option.some.injEq] at ho
      subst ho
      have p2 : b 2 = true := hd ⟨2, .data⟩ (by simp) rfl
      have e45 := (ev 2 45 rfl p2).trans (vv2 g)
      have n10 : b 10 = false := by
        cases h : b 10
        · rfl
        · rw [hcl 10 _ rfl (h) ⟨3, .data⟩ (by simp) rfl] at hb; cases hb
      have hW : W = w9.drew := by simpa [n10] using hS
      have hl : W.cell? ⟨mk, 1, none⟩ = some (.pointer (some ⟨ob, 0, none⟩)) := by rw [hW]; exact m1
      refine doesg_value rfl (by intro c h; cases h) (v := .pointer (some ⟨ob, 0, none⟩)) (w' := W) ?_ ⟨g, fun _ _ => rfl, (vv3 g).symm, by simpa [did] using hS⟩
      · simp [execOp, go_sem, e45, hl]
    | 4 =>
      simp only [List.getElem?_toArray, List.getElem?_cons_zero, List.getElem?_cons_succ, Option.some.injEq] at ho
      subst ho
      have e3 : a.tmps[3]?.getD undef = .pointer (some ⟨u, 0, none⟩) := (kp 3 (none_till (by kernel_rfl))).trans b3
      have n10 : b 10 = false := by
        cases h : b 10
        · rfl
        · rw [hcl 9 _ rfl (hcl 10 _ rfl (h) ⟨9, .data⟩ (by simp) rfl) ⟨4, .data⟩ (by simp) rfl] at hb; cases hb
      refine doesg_value rfl (by intro c h; cases h) (v := .pointer (some ⟨u, 0, none⟩)) (w' := W) ?_ ⟨g, fun _ _ => rfl, (vv4 g).symm, by simpa [did] using hS⟩
      · simp [execOp, go_sem, e3]
    | 5 =>
      simp only [List.getElem?_toArray, List.getElem?_cons_zero, List.getElem?_cons_succ, Option.some.injEq] at ho
      subst ho
      have e0 : a.tmps[0]?.getD undef = .pointer (some ⟨mk, 0, none⟩) := (kp 0 (none_till (by kernel_rfl))).trans b0
      have n10 : b 10 = false := by
        cases h : b 10
        · rfl
        · rw [hcl 6 _ rfl (hcl 7 _ rfl (hcl 8 _ rfl (hcl 9 _ rfl (hcl 10 _ rfl (h) ⟨9, .data⟩ (by simp) rfl) ⟨8, .data⟩ (by simp) rfl) ⟨7, .data⟩ (by simp) rfl) ⟨6, .data⟩ (by simp) rfl) ⟨5, .data⟩ (by simp) rfl] at hb; cases hb
      refine doesg_value rfl (by intro c h; cases h) (v := .pointer (some ⟨mk, 0, none⟩)) (w' := W) ?_ ⟨g, fun _ _ => rfl, (vv5 g).symm, by simpa [did] using hS⟩
      · simp [execOp, go_sem, e0]
    | 6 =>
      simp only [List.getElem?_toArray, List.getElem?_cons_zero, List.getElem?_cons_succ, Option.some.injEq] at ho
      subst ho
      have p5 : b 5 = true := hd ⟨5, .data⟩ (by simp) rfl
      have e48 := (ev 5 48 rfl p5).trans (vv5 g)
      have n10 : b 10 = false := by
        cases h : b 10
        · rfl
        · rw [hcl 7 _ rfl (hcl 8 _ rfl (hcl 9 _ rfl (hcl 10 _ rfl (h) ⟨9, .data⟩ (by simp) rfl) ⟨8, .data⟩ (by simp) rfl) ⟨7, .data⟩ (by simp) rfl) ⟨6, .data⟩ (by simp) rfl] at hb; cases hb
      refine doesg_value rfl (by intro c h; cases h) (v := .pointer (some ⟨mk, 0, none⟩)) (w' := W) ?_ ⟨g, fun _ _ => rfl, (vv6 g).symm, by simpa [did] using hS⟩
      · simp [execOp, go_sem, e48]
    | 7 =>
      simp only [List.getElem?_toArray, List.getElem?_cons_zero, List.getElem?_cons_succ, Option.some.injEq] at ho
      subst ho
      have p6 : b 6 = true := hd ⟨6, .data⟩ (by simp) rfl
      have e49 := (ev 6 49 rfl p6).trans (vv6 g)
      have n10 : b 10 = false := by
        cases h : b 10
        · rfl
        · rw [hcl 8 _ rfl (hcl 9 _ rfl (hcl 10 _ rfl (h) ⟨9, .data⟩ (by simp) rfl) ⟨8, .data⟩ (by simp) rfl) ⟨7, .data⟩ (by simp) rfl] at hb; cases hb
      refine doesg_value rfl (by intro c h; cases h) (v := .pointer (some ⟨mk, 4, none⟩)) (w' := W) ?_ ⟨g, fun _ _ => rfl, (vv7 g).symm, by simpa [did] using hS⟩
      · simp [execOp, go_sem, e49]
    | 8 =>
      simp only [List.getElem?_toArray, List.getElem?_cons_zero, List.getElem?_cons_succ, Option.some.injEq] at ho
      subst ho
      have p7 : b 7 = true := hd ⟨7, .data⟩ (by simp) rfl
      have e50 := (ev 7 50 rfl p7).trans (vv7 g)
      have n10 : b 10 = false := by
        cases h : b 10
        · rfl
        · rw [hcl 9 _ rfl (hcl 10 _ rfl (h) ⟨9, .data⟩ (by simp) rfl) ⟨8, .data⟩ (by simp) rfl] at hb; cases hb
      have hW : W = w9.drew := by simpa [n10] using hS
      have hl : W.cell? ⟨mk, 4, none⟩ = some (.string nm) := by rw [hW]; exact m4
      refine doesg_value rfl (by intro c h; cases h) (v := .string nm) (w' := W) ?_ ⟨g, fun _ _ => rfl, (vv8 g).symm, by simpa [did] using hS⟩
      · simp [execOp, go_sem, e50, hl]
    | 9 =>
      simp only [List.getElem?_toArray, List.getElem?_cons_zero, List.getElem?_cons_succ, Option.some.injEq] at ho
      subst ho
      have p4 : b 4 = true := hd ⟨4, .data⟩ (by simp) rfl
      have p8 : b 8 = true := hd ⟨8, .data⟩ (by simp) rfl
      have e47 := (ev 4 47 rfl p4).trans (vv4 g)
      have e51 := (ev 8 51 rfl p8).trans (vv8 g)
      have n10 : b 10 = false := by
        cases h : b 10
        · rfl
        · rw [hcl 10 _ rfl (h) ⟨9, .data⟩ (by simp) rfl] at hb; cases hb
      refine doesg_value rfl (by intro c h; cases h) (v := .agg #[.pointer (some ⟨u, 0, none⟩), .string nm]) (w' := W) ?_ ⟨g, fun _ _ => rfl, (vv9 g).symm, by simpa [did] using hS⟩
      · simp [execOp, go_sem, e47, e51]
    | 10 =>
      simp only [List.getElem?_toArray, List.getElem?_cons_zero, List.getElem?_cons_succ, Option.some.injEq] at ho
      subst ho
      have p3 : b 3 = true := hd ⟨3, .data⟩ (by simp) rfl
      have p9 : b 9 = true := hd ⟨9, .data⟩ (by simp) rfl
      have e46 := (ev 3 46 rfl p3).trans (vv3 g)
      have e52 := (ev 9 52 rfl p9).trans (vv9 g)
      have hS9 : W = w9.drew := by simpa [hb] using hS
      refine doesg_call rfl (by intro c h; cases h) (f := 76) (args := #[.pointer (some ⟨ob, 0, none⟩), .agg #[.pointer (some ⟨u, 0, none⟩), .string nm]]) ?_ ?_
      · simp [go_sem, e46, e52]
      · refine (cK g W hS9).mono ?_
        rintro e W' ⟨x, rfl, hP⟩
        refine ⟨_, rfl, g, ?_, (vv10 g).symm, ?_⟩
        · exact fun _ _ => rfl
        · simpa [did] using hP
    | k + 11 => simp at ho
  · intro g b W hS hall
    have hl9 : b 10 = true := hall 10 (by decide)
    subst hLe
    exact hQ g W (by simpa [hl9] using hS)

set_option maxRecDepth 8000 in
set_option maxHeartbeats 4000000 in
theorem mkun_r1 {Q : Exit → Act → World → Prop} {base : Array Value} {dd : List Deferred} {ops : Array Oper} (hops : Try.f55.body.bind (regs 1) = some ops) (mk gt mb ob : Nat) (t n : Int) (WE : World) (w9 : World) (hsz : base.size = 22)
    (b0 : base.getD 0 undef = .pointer (some ⟨mk, 0, none⟩))
    (m0 : w9.cell? ⟨mk, 0, none⟩ = some (.pointer (some ⟨gt, 0, none⟩))) (m1 : w9.cell? ⟨mk, 1, none⟩ = some (.pointer (some ⟨ob, 0, none⟩))) (g0 : w9.cell? ⟨gt, 0, none⟩ = some (.map (some mb))) (o2 : w9.cell? ⟨ob, 2, none⟩ = some (.int .i64 t)) (o3 : w9.cell? ⟨ob, 3, none⟩ = some (.int .i64 n))
    (hp : ∀ ty, (Builtin.delete_ #[49, 31] ty #[.map (some mb), idv t n]).run Try.prog w9.drew = .ok (.tuple #[]) WE)
    (hQ : ∀ (g : Unit) (W : World), (W = WE) → Q .normal ⟨putAll base ((fun _g : Unit => ([(some 8, .pointer (some ⟨mk, 0, none⟩)), (some 9, .pointer (some ⟨mk, 0, none⟩)), (some 10, .pointer (some ⟨mk, 0, none⟩)), (some 11, .pointer (some ⟨gt, 0, none⟩)), (some 12, .pointer (some ⟨gt, 0, none⟩)), (some 13, .pointer (some ⟨gt, 0, none⟩)), (some 14, .map (some mb)), (some 15, .pointer (some ⟨mk, 0, none⟩)), (some 16, .pointer (some ⟨mk, 0, none⟩)), (some 17, .pointer (some ⟨mk, 1, none⟩)), (some 18, .pointer (some ⟨ob, 0, none⟩)), (some 19, .pointer (some ⟨ob, 0, none⟩)), (some 20, .pointer (some ⟨ob, 2, none⟩)), (some 21, .agg #[.int .i64 t, .int .i64 n]), (none, .tuple #[])] : List (Option Tmp × Value))) g), dd⟩ W) :
    (Code.region 1 ops true).wp Try.prog Q ⟨base, dd⟩ w9 := by
  have hmix : Try.prog.follows .mixedOrders = true := by kernel_rfl
  have h2 := (show Try.f55.body.bind (regs 1) = some _ from rfl).symm.trans hops
  obtain rfl := Option.some.inj h2
  clear h2 hops
  obtain ⟨LL, hLe⟩ : ∃ LL : Unit → List (Option Tmp × Value), LL = (fun _g : Unit => ([(some 8, .pointer (some ⟨mk, 0, none⟩)), (some 9, .pointer (some ⟨mk, 0, none⟩)), (some 10, .pointer (some ⟨mk, 0, none⟩)), (some 11, .pointer (some ⟨gt, 0, none⟩)), (some 12, .pointer (some ⟨gt, 0, none⟩)), (some 13, .pointer (some ⟨gt, 0, none⟩)), (some 14, .map (some mb)), (some 15, .pointer (some ⟨mk, 0, none⟩)), (some 16, .pointer (some ⟨mk, 0, none⟩)), (some 17, .pointer (some ⟨mk, 1, none⟩)), (some 18, .pointer (some ⟨ob, 0, none⟩)), (some 19, .pointer (some ⟨ob, 0, none⟩)), (some 20, .pointer (some ⟨ob, 2, none⟩)), (some 21, .agg #[.int .i64 t, .int .i64 n]), (none, .tuple #[])] : List (Option Tmp × Value))) := ⟨_, rfl⟩
  have vv0 : ∀ g, vals (LL g) 0 = .pointer (some ⟨mk, 0, none⟩) := fun g => by rw [hLe]; rfl
  have vv1 : ∀ g, vals (LL g) 1 = .pointer (some ⟨mk, 0, none⟩) := fun g => by rw [hLe]; rfl
  have vv2 : ∀ g, vals (LL g) 2 = .pointer (some ⟨mk, 0, none⟩) := fun g => by rw [hLe]; rfl
  have vv3 : ∀ g, vals (LL g) 3 = .pointer (some ⟨gt, 0, none⟩) := fun g => by rw [hLe]; rfl
  have vv4 : ∀ g, vals (LL g) 4 = .pointer (some ⟨gt, 0, none⟩) := fun g => by rw [hLe]; rfl
  have vv5 : ∀ g, vals (LL g) 5 = .pointer (some ⟨gt, 0, none⟩) := fun g => by rw [hLe]; rfl
  have vv6 : ∀ g, vals (LL g) 6 = .map (some mb) := fun g => by rw [hLe]; rfl
  have vv7 : ∀ g, vals (LL g) 7 = .pointer (some ⟨mk, 0, none⟩) := fun g => by rw [hLe]; rfl
  have vv8 : ∀ g, vals (LL g) 8 = .pointer (some ⟨mk, 0, none⟩) := fun g => by rw [hLe]; rfl
  have vv9 : ∀ g, vals (LL g) 9 = .pointer (some ⟨mk, 1, none⟩) := fun g => by rw [hLe]; rfl
  have vv10 : ∀ g, vals (LL g) 10 = .pointer (some ⟨ob, 0, none⟩) := fun g => by rw [hLe]; rfl
  have vv11 : ∀ g, vals (LL g) 11 = .pointer (some ⟨ob, 0, none⟩) := fun g => by rw [hLe]; rfl
  have vv12 : ∀ g, vals (LL g) 12 = .pointer (some ⟨ob, 2, none⟩) := fun g => by rw [hLe]; rfl
  have vv13 : ∀ g, vals (LL g) 13 = .agg #[.int .i64 t, .int .i64 n] := fun g => by rw [hLe]; rfl
  have vv14 : ∀ g, vals (LL g) 14 = .tuple #[] := fun g => by rw [hLe]; rfl
  refine region_laidg hmix (by kernel_rfl) 22 hsz (by kernel_rfl) () LL (fun g => by rw [hLe]; rfl) (fun (_g : Unit) (b : Nat → Bool) (W : World) => if b 14 = true then (W = WE) else (W = w9.drew)) ?_ ?_ ?_
  · simp only [Bool.false_eq_true, if_false]
  · intro g b W io o a hS hcl ho hb hd ev kp yl
    match io with
    | 0 =>
      simp only [List.getElem?_toArray, List.getElem?_cons_zero, Option.some.injEq] at ho
      subst ho
      have e0 : a.tmps[0]?.getD undef = .pointer (some ⟨mk, 0, none⟩) := (kp 0 (none_till (by kernel_rfl))).trans b0
      have n14 : b 14 = false := by
        cases h : b 14
        · rfl
        · rw [hcl 1 _ rfl (hcl 2 _ rfl (hcl 3 _ rfl (hcl 4 _ rfl (hcl 5 _ rfl (hcl 6 _ rfl (hcl 14 _ rfl (h) ⟨6, .data⟩ (by simp) rfl) ⟨5, .data⟩ (by simp) rfl) ⟨4, .data⟩ (by simp) rfl) ⟨3, .data⟩ (by simp) rfl) ⟨2, .data⟩ (by simp) rfl) ⟨1, .data⟩ (by simp) rfl) ⟨0, .data⟩ (by simp) rfl] at hb; cases hb
      refine doesg_value rfl (by intro c h; cases h) (v := .pointer (some ⟨mk, 0, none⟩)) (w' := W) ?_ ⟨g, fun _ _ => rfl, (vv0 g).symm, by simpa [did] using hS⟩
      · simp [execOp, go_sem, e0]
    | 1 =>
      simp only [List.getElem?_toArray, List.getElem?_cons_zero, List.getElem?_cons_succ, Option.some.injEq] at ho
      subst ho
      have p0 : b 0 = true := hd ⟨0, .data⟩ (by simp) rfl
      have e8 := (ev 0 8 rfl p0).trans (vv0 g)
      have n14 : b 14 = false := by
        cases h : b 14
        · rfl
        · rw [hcl 2 _ rfl (hcl 3 _ rfl (hcl 4 _ rfl (hcl 5 _ rfl (hcl 6 _ rfl (hcl 14 _ rfl (h) ⟨6, .data⟩ (by simp) rfl) ⟨5, .data⟩ (by simp) rfl) ⟨4, .data⟩ (by simp) rfl) ⟨3, .data⟩ (by simp) rfl) ⟨2, .data⟩ (by simp) rfl) ⟨1, .data⟩ (by simp) rfl] at hb; cases hb
      refine doesg_value rfl (by intro c h; cases h) (v := .pointer (some ⟨mk, 0, none⟩)) (w' := W) ?_ ⟨g, fun _ _ => rfl, (vv1 g).symm, by simpa [did] using hS⟩
      · simp [execOp, go_sem, e8]
    | 2 =>
      simp only [List.getElem?_toArray, List.getElem?_cons_zero, List.getElem?_cons_succ, Option.some.injEq] at ho
      subst ho
      have p1 : b 1 = true := hd ⟨1, .data⟩ (by simp) rfl
      have e9 := (ev 1 9 rfl p1).trans (vv1 g)
      have n14 : b 14 = false := by
        cases h : b 14
        · rfl
        · rw [hcl 3 _ rfl (hcl 4 _ rfl (hcl 5 _ rfl (hcl 6 _ rfl (hcl 14 _ rfl (h) ⟨6, .data⟩ (by simp) rfl) ⟨5, .data⟩ (by simp) rfl) ⟨4, .data⟩ (by simp) rfl) ⟨3, .data⟩ (by simp) rfl) ⟨2, .data⟩ (by simp) rfl] at hb; cases hb
      refine doesg_value rfl (by intro c h; cases h) (v := .pointer (some ⟨mk, 0, none⟩)) (w' := W) ?_ ⟨g, fun _ _ => rfl, (vv2 g).symm, by simpa [did] using hS⟩
      · simp [execOp, go_sem, e9]
    | 3 =>
      simp only [List.getElem?_toArray, List.getElem?_cons_zero, List.getElem?_cons_succ, Option.some.injEq] at ho
      subst ho
      have p2 : b 2 = true := hd ⟨2, .data⟩ (by simp) rfl
      have e10 := (ev 2 10 rfl p2).trans (vv2 g)
      have n14 : b 14 = false := by
        cases h : b 14
        · rfl
        · rw [hcl 4 _ rfl (hcl 5 _ rfl (hcl 6 _ rfl (hcl 14 _ rfl (h) ⟨6, .data⟩ (by simp) rfl) ⟨5, .data⟩ (by simp) rfl) ⟨4, .data⟩ (by simp) rfl) ⟨3, .data⟩ (by simp) rfl] at hb; cases hb
      have hW : W = w9.drew := by simpa [n14] using hS
      have hl : W.cell? ⟨mk, 0, none⟩ = some (.pointer (some ⟨gt, 0, none⟩)) := by rw [hW]; exact m0
      refine doesg_value rfl (by intro c h; cases h) (v := .pointer (some ⟨gt, 0, none⟩)) (w' := W) ?_ ⟨g, fun _ _ => rfl, (vv3 g).symm, by simpa [did] using hS⟩
      · simp [execOp, go_sem, e10, hl]
    | 4 =>
      simp only [List.getElem?_toArray, List.getElem?_cons_zero, List.getElem?_cons_succ, Option.some.injEq] at ho
      subst ho
      have p3 : b 3 = true := hd ⟨3, .data⟩ (by simp) rfl
      have e11 := (ev 3 11 rfl p3).trans (vv3 g)
      have n14 : b 14 = false := by
        cases h : b 14
        · rfl
        · rw [hcl 5 _ rfl (hcl 6 _ rfl (hcl 14 _ rfl (h) ⟨6, .data⟩ (by simp) rfl) ⟨5, .data⟩ (by simp) rfl) ⟨4, .data⟩ (by simp) rfl] at hb; cases hb
      refine doesg_value rfl (by intro c h; cases h) (v := .pointer (some ⟨gt, 0, none⟩)) (w' := W) ?_ ⟨g, fun _ _ => rfl, (vv4 g).symm, by simpa [did] using hS⟩
      · simp [execOp, go_sem, e11]
    | 5 =>
      simp only [List.getElem?_toArray, List.getElem?_cons_zero, List.getElem?_cons_succ, Option.some.injEq] at ho
      subst ho
      have p4 : b 4 = true := hd ⟨4, .data⟩ (by simp) rfl
      have e12 := (ev 4 12 rfl p4).trans (vv4 g)
      have n14 : b 14 = false := by
        cases h : b 14
        · rfl
        · rw [hcl 6 _ rfl (hcl 14 _ rfl (h) ⟨6, .data⟩ (by simp) rfl) ⟨5, .data⟩ (by simp) rfl] at hb; cases hb
      refine doesg_value rfl (by intro c h; cases h) (v := .pointer (some ⟨gt, 0, none⟩)) (w' := W) ?_ ⟨g, fun _ _ => rfl, (vv5 g).symm, by simpa [did] using hS⟩
      · simp [execOp, go_sem, e12]
    | 6 =>
      simp only [List.getElem?_toArray, List.getElem?_cons_zero, List.getElem?_cons_succ, Option.some.injEq] at ho
      subst ho
      have p5 : b 5 = true := hd ⟨5, .data⟩ (by simp) rfl
      have e13 := (ev 5 13 rfl p5).trans (vv5 g)
      have n14 : b 14 = false := by
        cases h : b 14
        · rfl
        · rw [hcl 14 _ rfl (h) ⟨6, .data⟩ (by simp) rfl] at hb; cases hb
      have hW : W = w9.drew := by simpa [n14] using hS
      have hl : W.cell? ⟨gt, 0, none⟩ = some (.map (some mb)) := by rw [hW]; exact g0
      refine doesg_value rfl (by intro c h; cases h) (v := .map (some mb)) (w' := W) ?_ ⟨g, fun _ _ => rfl, (vv6 g).symm, by simpa [did] using hS⟩
      · simp [execOp, go_sem, e13, hl]
    | 7 =>
      simp only [List.getElem?_toArray, List.getElem?_cons_zero, List.getElem?_cons_succ, Option.some.injEq] at ho
      subst ho
      have e0 : a.tmps[0]?.getD undef = .pointer (some ⟨mk, 0, none⟩) := (kp 0 (none_till (by kernel_rfl))).trans b0
      have n14 : b 14 = false := by
        cases h : b 14
        · rfl
        · rw [hcl 8 _ rfl (hcl 9 _ rfl (hcl 10 _ rfl (hcl 11 _ rfl (hcl 12 _ rfl (hcl 13 _ rfl (hcl 14 _ rfl (h) ⟨13, .data⟩ (by simp) rfl) ⟨12, .data⟩ (by simp) rfl) ⟨11, .data⟩ (by simp) rfl) ⟨10, .data⟩ (by simp) rfl) ⟨9, .data⟩ (by simp) rfl) ⟨8, .data⟩ (by simp) rfl) ⟨7, .data⟩ (by simp) rfl] at hb; cases hb
      refine doesg_value rfl (by intro c h; cases h) (v := .pointer (some ⟨mk, 0, none⟩)) (w' := W) ?_ ⟨g, fun _ _ => rfl, (vv7 g).symm, by simpa [did] using hS⟩
      · simp [execOp, go_sem, e0]
    | 8 =>
      simp only [List.getElem?_toArray, List.getElem?_cons_zero, List.getElem?_cons_succ, Option.some.injEq] at ho
      subst ho
      have p7 : b 7 = true := hd ⟨7, .data⟩ (by simp) rfl
      have e15 := (ev 7 15 rfl p7).trans (vv7 g)
      have n14 : b 14 = false := by
        cases h : b 14
        · rfl
        · rw [hcl 9 _ rfl (hcl 10 _ rfl (hcl 11 _ rfl (hcl 12 _ rfl (hcl 13 _ rfl (hcl 14 _ rfl (h) ⟨13, .data⟩ (by simp) rfl) ⟨12, .data⟩ (by simp) rfl) ⟨11, .data⟩ (by simp) rfl) ⟨10, .data⟩ (by simp) rfl) ⟨9, .data⟩ (by simp) rfl) ⟨8, .data⟩ (by simp) rfl] at hb; cases hb
      refine doesg_value rfl (by intro c h; cases h) (v := .pointer (some ⟨mk, 0, none⟩)) (w' := W) ?_ ⟨g, fun _ _ => rfl, (vv8 g).symm, by simpa [did] using hS⟩
      · simp [execOp, go_sem, e15]
    | 9 =>
      simp only [List.getElem?_toArray, List.getElem?_cons_zero, List.getElem?_cons_succ, Option.some.injEq] at ho
      subst ho
      have p8 : b 8 = true := hd ⟨8, .data⟩ (by simp) rfl
      have e16 := (ev 8 16 rfl p8).trans (vv8 g)
      have n14 : b 14 = false := by
        cases h : b 14
        · rfl
        · rw [hcl 10 _ rfl (hcl 11 _ rfl (hcl 12 _ rfl (hcl 13 _ rfl (hcl 14 _ rfl (h) ⟨13, .data⟩ (by simp) rfl) ⟨12, .data⟩ (by simp) rfl) ⟨11, .data⟩ (by simp) rfl) ⟨10, .data⟩ (by simp) rfl) ⟨9, .data⟩ (by simp) rfl] at hb; cases hb
      refine doesg_value rfl (by intro c h; cases h) (v := .pointer (some ⟨mk, 1, none⟩)) (w' := W) ?_ ⟨g, fun _ _ => rfl, (vv9 g).symm, by simpa [did] using hS⟩
      · simp [execOp, go_sem, e16]
    | 10 =>
      simp only [List.getElem?_toArray, List.getElem?_cons_zero, List.getElem?_cons_succ, Option.some.injEq] at ho
      subst ho
      have p9 : b 9 = true := hd ⟨9, .data⟩ (by simp) rfl
      have e17 := (ev 9 17 rfl p9).trans (vv9 g)
      have n14 : b 14 = false := by
        cases h : b 14
        · rfl
        · rw [hcl 11 _ rfl (hcl 12 _ rfl (hcl 13 _ rfl (hcl 14 _ rfl (h) ⟨13, .data⟩ (by simp) rfl) ⟨12, .data⟩ (by simp) rfl) ⟨11, .data⟩ (by simp) rfl) ⟨10, .data⟩ (by simp) rfl] at hb; cases hb
      have hW : W = w9.drew := by simpa [n14] using hS
      have hl : W.cell? ⟨mk, 1, none⟩ = some (.pointer (some ⟨ob, 0, none⟩)) := by rw [hW]; exact m1
      refine doesg_value rfl (by intro c h; cases h) (v := .pointer (some ⟨ob, 0, none⟩)) (w' := W) ?_ ⟨g, fun _ _ => rfl, (vv10 g).symm, by simpa [did] using hS⟩
      · simp [execOp, go_sem, e17, hl]
    | 11 =>
      simp only [List.getElem?_toArray, List.getElem?_cons_zero, List.getElem?_cons_succ, Option.some.injEq] at ho
      subst ho
      have p10 : b 10 = true := hd ⟨10, .data⟩ (by simp) rfl
      have e18 := (ev 10 18 rfl p10).trans (vv10 g)
      have n14 : b 14 = false := by
        cases h : b 14
        · rfl
        · rw [hcl 12 _ rfl (hcl 13 _ rfl (hcl 14 _ rfl (h) ⟨13, .data⟩ (by simp) rfl) ⟨12, .data⟩ (by simp) rfl) ⟨11, .data⟩ (by simp) rfl] at hb; cases hb
      refine doesg_value rfl (by intro c h; cases h) (v := .pointer (some ⟨ob, 0, none⟩)) (w' := W) ?_ ⟨g, fun _ _ => rfl, (vv11 g).symm, by simpa [did] using hS⟩
      · simp [execOp, go_sem, e18]
    | 12 =>
      simp only [List.getElem?_toArray, List.getElem?_cons_zero, List.getElem?_cons_succ, Option.some.injEq] at ho
      subst ho
      have p11 : b 11 = true := hd ⟨11, .data⟩ (by simp) rfl
      have e19 := (ev 11 19 rfl p11).trans (vv11 g)
      have n14 : b 14 = false := by
        cases h : b 14
        · rfl
        · rw [hcl 13 _ rfl (hcl 14 _ rfl (h) ⟨13, .data⟩ (by simp) rfl) ⟨12, .data⟩ (by simp) rfl] at hb; cases hb
      refine doesg_value rfl (by intro c h; cases h) (v := .pointer (some ⟨ob, 2, none⟩)) (w' := W) ?_ ⟨g, fun _ _ => rfl, (vv12 g).symm, by simpa [did] using hS⟩
      · simp [execOp, go_sem, e19]
    | 13 =>
      simp only [List.getElem?_toArray, List.getElem?_cons_zero, List.getElem?_cons_succ, Option.some.injEq] at ho
      subst ho
      have p12 : b 12 = true := hd ⟨12, .data⟩ (by simp) rfl
      have e20 := (ev 12 20 rfl p12).trans (vv12 g)
      have n14 : b 14 = false := by
        cases h : b 14
        · rfl
        · rw [hcl 14 _ rfl (h) ⟨13, .data⟩ (by simp) rfl] at hb; cases hb
      have hW : W = w9.drew := by simpa [n14] using hS
      have hl : W.cell? ⟨ob, 2, none⟩ = some (.int .i64 t) := by rw [hW]; exact o2
      have hl2 : W.cell? ⟨ob, 3, none⟩ = some (.int .i64 n) := by rw [hW]; exact o3
      refine doesg_value rfl (by intro c h; cases h) (v := .agg #[.int .i64 t, .int .i64 n]) (w' := W) ?_ ⟨g, fun _ _ => rfl, (vv13 g).symm, by simpa [did] using hS⟩
      · simp [execOp, go_sem, e20, hl, hl2]
    | 14 =>
      simp only [List.getElem?_toArray, List.getElem?_cons_zero, List.getElem?_cons_succ, Option.some.injEq] at ho
      subst ho
      have p6 : b 6 = true := hd ⟨6, .data⟩ (by simp) rfl
      have p13 : b 13 = true := hd ⟨13, .data⟩ (by simp) rfl
      have e14 := (ev 6 14 rfl p6).trans (vv6 g)
      have e21 := (ev 13 21 rfl p13).trans (vv13 g)
      have hS9 : W = w9.drew := by simpa [hb] using hS
      obtain ⟨W', hr, hP⟩ := (⟨WE, hp, rfl⟩ : ∃ W', (∀ ty, (Builtin.delete_ #[49, 31] ty #[.map (some mb), idv t n]).run Try.prog w9.drew = .ok (.tuple #[]) W') ∧ W' = WE)
      refine doesg_value rfl (by intro c h; cases h) (v := .tuple #[]) (w' := W') ?_ ⟨g, ?_, (vv14 _).symm, ?_⟩
      · rw [hS9]; simp [go_sem, e14, e21, hr]
      · exact fun _ _ => rfl
      · simpa [did] using hP
    | k + 15 => simp at ho
  · intro g b W hS hall
    have hl9 : b 14 = true := hall 14 (by decide)
    subst hLe
    exact hQ g W (by simpa [hl9] using hS)

set_option maxRecDepth 8000 in
set_option maxHeartbeats 4000000 in
theorem mvdo_r1 {Q : Exit → Act → World → Prop} {base : Array Value} {dd : List Deferred} {ops : Array Oper} (hops : Try.f56.body.bind (regs 1) = some ops) (mv gt mb : Nat) (t n t2 n2 : Int) (v v2 : Value) (w9 : World) (hsz : base.size = 67)
    (b0 : base.getD 0 undef = .pointer (some ⟨mv, 0, none⟩))
    (m0 : w9.cell? ⟨mv, 0, none⟩ = some (.pointer (some ⟨gt, 0, none⟩))) (m1 : w9.cell? ⟨mv, 1, none⟩ = some (.int .i64 t)) (m2 : w9.cell? ⟨mv, 2, none⟩ = some (.int .i64 n)) (m3 : w9.cell? ⟨mv, 3, none⟩ = some (.int .i64 t2)) (m4 : w9.cell? ⟨mv, 4, none⟩ = some (.int .i64 n2)) (g0 : w9.cell? ⟨gt, 0, none⟩ = some (.map (some mb)))
    (hl : ∀ W, Below w9.heap.size w9 W → (Instr.lookup 49 (.map (some mb)) (idv t n) false).run Try.prog W = .ok (v) W)
    (hl2 : ∀ W, Below w9.heap.size w9 W → (Instr.lookup 49 (.map (some mb)) (idv t2 n2) false).run Try.prog W = .ok (v2) W)
    (hQ : ∀ W, Below w9.heap.size w9 W → Q .normal ⟨putAll base [(some 5, .pointer (some ⟨mv, 0, none⟩)), (some 6, .pointer (some ⟨mv, 0, none⟩)), (some 7, .pointer (some ⟨mv, 0, none⟩)), (some 8, .pointer (some ⟨gt, 0, none⟩)), (some 9, .pointer (some ⟨gt, 0, none⟩)), (some 10, .pointer (some ⟨gt, 0, none⟩)), (some 11, .map (some mb)), (some 12, .pointer (some ⟨mv, 0, none⟩)), (some 13, .pointer (some ⟨mv, 0, none⟩)), (some 14, .pointer (some ⟨mv, 1, none⟩)), (some 15, .agg #[.int .i64 t, .int .i64 n]), (some 16, v), (some 17, .pointer (some ⟨mv, 0, none⟩)), (some 18, .pointer (some ⟨mv, 0, none⟩)), (some 19, .pointer (some ⟨mv, 0, none⟩)), (some 20, .pointer (some ⟨gt, 0, none⟩)), (some 21, .pointer (some ⟨gt, 0, none⟩)), (some 22, .pointer (some ⟨gt, 0, none⟩)), (some 23, .map (some mb)), (some 24, .pointer (some ⟨mv, 0, none⟩)), (some 25, .pointer (some ⟨mv, 0, none⟩)), (some 26, .pointer (some ⟨mv, 3, none⟩)), (some 27, .agg #[.int .i64 t2, .int .i64 n2]), (some 28, v2), (some 3, v), (some 4, v2)], dd⟩ W) :
    (Code.region 1 ops true).wp Try.prog Q ⟨base, dd⟩ w9 := by
  have hmix : Try.prog.follows .mixedOrders = true := by kernel_rfl
  have h2 := (show Try.f56.body.bind (regs 1) = some _ from rfl).symm.trans hops
  obtain rfl := Option.some.inj h2
  clear h2 hops
  have below9 : Below w9.heap.size w9 w9.drew := (Below.refl _ _).drew
  obtain ⟨LL, hLe⟩ : ∃ LL : List (Option Tmp × Value), LL = [(some 5, .pointer (some ⟨mv, 0, none⟩)), (some 6, .pointer (some ⟨mv, 0, none⟩)), (some 7, .pointer (some ⟨mv, 0, none⟩)), (some 8, .pointer (some ⟨gt, 0, none⟩)), (some 9, .pointer (some ⟨gt, 0, none⟩)), (some 10, .pointer (some ⟨gt, 0, none⟩)), (some 11, .map (some mb)), (some 12, .pointer (some ⟨mv, 0, none⟩)), (some 13, .pointer (some ⟨mv, 0, none⟩)), (some 14, .pointer (some ⟨mv, 1, none⟩)), (some 15, .agg #[.int .i64 t, .int .i64 n]), (some 16, v), (some 17, .pointer (some ⟨mv, 0, none⟩)), (some 18, .pointer (some ⟨mv, 0, none⟩)), (some 19, .pointer (some ⟨mv, 0, none⟩)), (some 20, .pointer (some ⟨gt, 0, none⟩)), (some 21, .pointer (some ⟨gt, 0, none⟩)), (some 22, .pointer (some ⟨gt, 0, none⟩)), (some 23, .map (some mb)), (some 24, .pointer (some ⟨mv, 0, none⟩)), (some 25, .pointer (some ⟨mv, 0, none⟩)), (some 26, .pointer (some ⟨mv, 3, none⟩)), (some 27, .agg #[.int .i64 t2, .int .i64 n2]), (some 28, v2), (some 3, v), (some 4, v2)] := ⟨_, rfl⟩
  have vv0 : vals LL 0 = .pointer (some ⟨mv, 0, none⟩) := by rw [hLe]; rfl
  have vv1 : vals LL 1 = .pointer (some ⟨mv, 0, none⟩) := by rw [hLe]; rfl
  have vv2 : vals LL 2 = .pointer (some ⟨mv, 0, none⟩) := by rw [hLe]; rfl
  have vv3 : vals LL 3 = .pointer (some ⟨gt, 0, none⟩) := by rw [hLe]; rfl
  have vv4 : vals LL 4 = .pointer (some ⟨gt, 0, none⟩) := by rw [hLe]; rfl
  have vv5 : vals LL 5 = .pointer (some ⟨gt, 0, none⟩) := by rw [hLe]; rfl
  have vv6 : vals LL 6 = .map (some mb) := by rw [hLe]; rfl
  have vv7 : vals LL 7 = .pointer (some ⟨mv, 0, none⟩) := by rw [hLe]; rfl
  have vv8 : vals LL 8 = .pointer (some ⟨mv, 0, none⟩) := by rw [hLe]; rfl
  have vv9 : vals LL 9 = .pointer (some ⟨mv, 1, none⟩) := by rw [hLe]; rfl
  have vv10 : vals LL 10 = .agg #[.int .i64 t, .int .i64 n] := by rw [hLe]; rfl
  have vv11 : vals LL 11 = v := by rw [hLe]; rfl
  have vv12 : vals LL 12 = .pointer (some ⟨mv, 0, none⟩) := by rw [hLe]; rfl
  have vv13 : vals LL 13 = .pointer (some ⟨mv, 0, none⟩) := by rw [hLe]; rfl
  have vv14 : vals LL 14 = .pointer (some ⟨mv, 0, none⟩) := by rw [hLe]; rfl
  have vv15 : vals LL 15 = .pointer (some ⟨gt, 0, none⟩) := by rw [hLe]; rfl
  have vv16 : vals LL 16 = .pointer (some ⟨gt, 0, none⟩) := by rw [hLe]; rfl
  have vv17 : vals LL 17 = .pointer (some ⟨gt, 0, none⟩) := by rw [hLe]; rfl
  have vv18 : vals LL 18 = .map (some mb) := by rw [hLe]; rfl
  have vv19 : vals LL 19 = .pointer (some ⟨mv, 0, none⟩) := by rw [hLe]; rfl
  have vv20 : vals LL 20 = .pointer (some ⟨mv, 0, none⟩) := by rw [hLe]; rfl
  have vv21 : vals LL 21 = .pointer (some ⟨mv, 3, none⟩) := by rw [hLe]; rfl
  have vv22 : vals LL 22 = .agg #[.int .i64 t2, .int .i64 n2] := by rw [hLe]; rfl
  have vv23 : vals LL 23 = v2 := by rw [hLe]; rfl
  have vv24 : vals LL 24 = v := by rw [hLe]; rfl
  have vv25 : vals LL 25 = v2 := by rw [hLe]; rfl
  refine region_laid hmix (by kernel_rfl) 67 hsz (by kernel_rfl) LL (by rw [hLe]; rfl) (fun _ W => Below w9.heap.size w9 W) below9 ?_ ?_
  · intro b W i o a hS hcl ho hb hd ev kp yl
    match i with
    | 0 =>
      simp only [List.getElem?_toArray, List.getElem?_cons_zero, Option.some.injEq] at ho
      subst ho
      have e0 : a.tmps[0]?.getD undef = .pointer (some ⟨mv, 0, none⟩) := (kp 0 (by kernel_rfl)).trans b0
      rw [vv0]
      refine does_value rfl (by intro c h; cases h) (w' := W) ?_ (hS)
      · simp [execOp, go_sem, e0]
    | 1 =>
      simp only [List.getElem?_toArray, List.getElem?_cons_zero, List.getElem?_cons_succ, Option.some.injEq] at ho
      subst ho
      have p0 : b 0 = true := hd ⟨0, .data⟩ (by simp) rfl
      have e5 := (ev 0 5 rfl p0).trans vv0
      rw [vv1]
      refine does_value rfl (by intro c h; cases h) (w' := W) ?_ (hS)
      · simp [execOp, go_sem, e5]
    | 2 =>
      simp only [List.getElem?_toArray, List.getElem?_cons_zero, List.getElem?_cons_succ, Option.some.injEq] at ho
      subst ho
      have p1 : b 1 = true := hd ⟨1, .data⟩ (by simp) rfl
      have e6 := (ev 1 6 rfl p1).trans vv1
      rw [vv2]
      refine does_value rfl (by intro c h; cases h) (w' := W) ?_ (hS)
      · simp [execOp, go_sem, e6]
    | 3 =>
      simp only [List.getElem?_toArray, List.getElem?_cons_zero, List.getElem?_cons_succ, Option.some.injEq] at ho
      subst ho
      have p2 : b 2 = true := hd ⟨2, .data⟩ (by simp) rfl
      have e7 := (ev 2 7 rfl p2).trans vv2
      have d0 := (hS.cell (p := ⟨mv, 0, none⟩) (cell_lt m0)).trans m0
      rw [vv3]
      refine does_value rfl (by intro c h; cases h) (w' := W) ?_ (hS)
      · simp [execOp, go_sem, e7, d0]
    | 4 =>
      simp only [List.getElem?_toArray, List.getElem?_cons_zero, List.getElem?_cons_succ, Option.some.injEq] at ho
      subst ho
      have p3 : b 3 = true := hd ⟨3, .data⟩ (by simp) rfl
      have e8 := (ev 3 8 rfl p3).trans vv3
      rw [vv4]
      refine does_value rfl (by intro c h; cases h) (w' := W) ?_ (hS)
      · simp [execOp, go_sem, e8]
    | 5 =>
      simp only [List.getElem?_toArray, List.getElem?_cons_zero, List.getElem?_cons_succ, Option.some.injEq] at ho
      subst ho
      have p4 : b 4 = true := hd ⟨4, .data⟩ (by simp) rfl
      have e9 := (ev 4 9 rfl p4).trans vv4
      rw [vv5]
      refine does_value rfl (by intro c h; cases h) (w' := W) ?_ (hS)
      · simp [execOp, go_sem, e9]
    | 6 =>
      simp only [List.getElem?_toArray, List.getElem?_cons_zero, List.getElem?_cons_succ, Option.some.injEq] at ho
      subst ho
      have p5 : b 5 = true := hd ⟨5, .data⟩ (by simp) rfl
      have e10 := (ev 5 10 rfl p5).trans vv5
      have d0 := (hS.cell (p := ⟨gt, 0, none⟩) (cell_lt g0)).trans g0
      rw [vv6]
      refine does_value rfl (by intro c h; cases h) (w' := W) ?_ (hS)
      · simp [execOp, go_sem, e10, d0]
    | 7 =>
      simp only [List.getElem?_toArray, List.getElem?_cons_zero, List.getElem?_cons_succ, Option.some.injEq] at ho
      subst ho
      have e0 : a.tmps[0]?.getD undef = .pointer (some ⟨mv, 0, none⟩) := (kp 0 (by kernel_rfl)).trans b0
      rw [vv7]
      refine does_value rfl (by intro c h; cases h) (w' := W) ?_ (hS)
      · simp [execOp, go_sem, e0]
    | 8 =>
      simp only [List.getElem?_toArray, List.getElem?_cons_zero, List.getElem?_cons_succ, Option.some.injEq] at ho
      subst ho
      have p7 : b 7 = true := hd ⟨7, .data⟩ (by simp) rfl
      have e12 := (ev 7 12 rfl p7).trans vv7
      rw [vv8]
      refine does_value rfl (by intro c h; cases h) (w' := W) ?_ (hS)
      · simp [execOp, go_sem, e12]
    | 9 =>
      simp only [List.getElem?_toArray, List.getElem?_cons_zero, List.getElem?_cons_succ, Option.some.injEq] at ho
      subst ho
      have p8 : b 8 = true := hd ⟨8, .data⟩ (by simp) rfl
      have e13 := (ev 8 13 rfl p8).trans vv8
      rw [vv9]
      refine does_value rfl (by intro c h; cases h) (w' := W) ?_ (hS)
      · simp [execOp, go_sem, e13]
    | 10 =>
      simp only [List.getElem?_toArray, List.getElem?_cons_zero, List.getElem?_cons_succ, Option.some.injEq] at ho
      subst ho
      have p9 : b 9 = true := hd ⟨9, .data⟩ (by simp) rfl
      have e14 := (ev 9 14 rfl p9).trans vv9
      have d1 := (hS.cell (p := ⟨mv, 1, none⟩) (cell_lt m1)).trans m1
      have d2 := (hS.cell (p := ⟨mv, 2, none⟩) (cell_lt m2)).trans m2
      rw [vv10]
      refine does_value rfl (by intro c h; cases h) (w' := W) ?_ (hS)
      · simp [execOp, go_sem, e14, d1, d2]
    | 11 =>
      simp only [List.getElem?_toArray, List.getElem?_cons_zero, List.getElem?_cons_succ, Option.some.injEq] at ho
      subst ho
      have p6 : b 6 = true := hd ⟨6, .data⟩ (by simp) rfl
      have p10 : b 10 = true := hd ⟨10, .data⟩ (by simp) rfl
      have e11 := (ev 6 11 rfl p6).trans vv6
      have e15 := (ev 10 15 rfl p10).trans vv10
      rw [vv11]
      refine does_value rfl (by intro c h; cases h) (w' := W) ?_ (hS)
      · simp [execOp, go_sem, e11, e15, hl W hS]
    | 12 =>
      simp only [List.getElem?_toArray, List.getElem?_cons_zero, List.getElem?_cons_succ, Option.some.injEq] at ho
      subst ho
      have e0 : a.tmps[0]?.getD undef = .pointer (some ⟨mv, 0, none⟩) := (kp 0 (by kernel_rfl)).trans b0
      rw [vv12]
      refine does_value rfl (by intro c h; cases h) (w' := W) ?_ (hS)
      · simp [execOp, go_sem, e0]
    | 13 =>
      simp only [List.getElem?_toArray, List.getElem?_cons_zero, List.getElem?_cons_succ, Option.some.injEq] at ho
      subst ho
      have p12 : b 12 = true := hd ⟨12, .data⟩ (by simp) rfl
      have e17 := (ev 12 17 rfl p12).trans vv12
      rw [vv13]
      refine does_value rfl (by intro c h; cases h) (w' := W) ?_ (hS)
      · simp [execOp, go_sem, e17]
    | 14 =>
      simp only [List.getElem?_toArray, List.getElem?_cons_zero, List.getElem?_cons_succ, Option.some.injEq] at ho
      subst ho
      have p13 : b 13 = true := hd ⟨13, .data⟩ (by simp) rfl
      have e18 := (ev 13 18 rfl p13).trans vv13
      rw [vv14]
      refine does_value rfl (by intro c h; cases h) (w' := W) ?_ (hS)
      · simp [execOp, go_sem, e18]
    | 15 =>
      simp only [List.getElem?_toArray, List.getElem?_cons_zero, List.getElem?_cons_succ, Option.some.injEq] at ho
      subst ho
      have p14 : b 14 = true := hd ⟨14, .data⟩ (by simp) rfl
      have e19 := (ev 14 19 rfl p14).trans vv14
      have d0 := (hS.cell (p := ⟨mv, 0, none⟩) (cell_lt m0)).trans m0
      rw [vv15]
      refine does_value rfl (by intro c h; cases h) (w' := W) ?_ (hS)
      · simp [execOp, go_sem, e19, d0]
    | 16 =>
      simp only [List.getElem?_toArray, List.getElem?_cons_zero, List.getElem?_cons_succ, Option.some.injEq] at ho
      subst ho
      have p15 : b 15 = true := hd ⟨15, .data⟩ (by simp) rfl
      have e20 := (ev 15 20 rfl p15).trans vv15
      rw [vv16]
      refine does_value rfl (by intro c h; cases h) (w' := W) ?_ (hS)
      · simp [execOp, go_sem, e20]
    | 17 =>
      simp only [List.getElem?_toArray, List.getElem?_cons_zero, List.getElem?_cons_succ, Option.some.injEq] at ho
      subst ho
      have p16 : b 16 = true := hd ⟨16, .data⟩ (by simp) rfl
      have e21 := (ev 16 21 rfl p16).trans vv16
      rw [vv17]
      refine does_value rfl (by intro c h; cases h) (w' := W) ?_ (hS)
      · simp [execOp, go_sem, e21]
    | 18 =>
      simp only [List.getElem?_toArray, List.getElem?_cons_zero, List.getElem?_cons_succ, Option.some.injEq] at ho
      subst ho
      have p17 : b 17 = true := hd ⟨17, .data⟩ (by simp) rfl
      have e22 := (ev 17 22 rfl p17).trans vv17
      have d0 := (hS.cell (p := ⟨gt, 0, none⟩) (cell_lt g0)).trans g0
      rw [vv18]
      refine does_value rfl (by intro c h; cases h) (w' := W) ?_ (hS)
      · simp [execOp, go_sem, e22, d0]
    | 19 =>
      simp only [List.getElem?_toArray, List.getElem?_cons_zero, List.getElem?_cons_succ, Option.some.injEq] at ho
      subst ho
      have e0 : a.tmps[0]?.getD undef = .pointer (some ⟨mv, 0, none⟩) := (kp 0 (by kernel_rfl)).trans b0
      rw [vv19]
      refine does_value rfl (by intro c h; cases h) (w' := W) ?_ (hS)
      · simp [execOp, go_sem, e0]
    | 20 =>
      simp only [List.getElem?_toArray, List.getElem?_cons_zero, List.getElem?_cons_succ, Option.some.injEq] at ho
      subst ho
      have p19 : b 19 = true := hd ⟨19, .data⟩ (by simp) rfl
      have e24 := (ev 19 24 rfl p19).trans vv19
      rw [vv20]
      refine does_value rfl (by intro c h; cases h) (w' := W) ?_ (hS)
      · simp [execOp, go_sem, e24]
    | 21 =>
      simp only [List.getElem?_toArray, List.getElem?_cons_zero, List.getElem?_cons_succ, Option.some.injEq] at ho
      subst ho
      have p20 : b 20 = true := hd ⟨20, .data⟩ (by simp) rfl
      have e25 := (ev 20 25 rfl p20).trans vv20
      rw [vv21]
      refine does_value rfl (by intro c h; cases h) (w' := W) ?_ (hS)
      · simp [execOp, go_sem, e25]
    | 22 =>
      simp only [List.getElem?_toArray, List.getElem?_cons_zero, List.getElem?_cons_succ, Option.some.injEq] at ho
      subst ho
      have p21 : b 21 = true := hd ⟨21, .data⟩ (by simp) rfl
      have e26 := (ev 21 26 rfl p21).trans vv21
      have d3 := (hS.cell (p := ⟨mv, 3, none⟩) (cell_lt m3)).trans m3
      have d4 := (hS.cell (p := ⟨mv, 4, none⟩) (cell_lt m4)).trans m4
      rw [vv22]
      refine does_value rfl (by intro c h; cases h) (w' := W) ?_ (hS)
      · simp [execOp, go_sem, e26, d3, d4]
    | 23 =>
      simp only [List.getElem?_toArray, List.getElem?_cons_zero, List.getElem?_cons_succ, Option.some.injEq] at ho
      subst ho
      have p18 : b 18 = true := hd ⟨18, .data⟩ (by simp) rfl
      have p22 : b 22 = true := hd ⟨22, .data⟩ (by simp) rfl
      have e23 := (ev 18 23 rfl p18).trans vv18
      have e27 := (ev 22 27 rfl p22).trans vv22
      rw [vv23]
      refine does_value rfl (by intro c h; cases h) (w' := W) ?_ (hS)
      · simp [execOp, go_sem, e23, e27, hl2 W hS]
    | 24 =>
      simp only [List.getElem?_toArray, List.getElem?_cons_zero, List.getElem?_cons_succ, Option.some.injEq] at ho
      subst ho
      have p11 : b 11 = true := hd ⟨11, .data⟩ (by simp) rfl
      have e16 := (ev 11 16 rfl p11).trans vv11
      rw [vv24]
      refine does_value rfl (by intro c h; cases h) (w' := W) ?_ (hS)
      · simp [execOp, go_sem, e16]
    | 25 =>
      simp only [List.getElem?_toArray, List.getElem?_cons_zero, List.getElem?_cons_succ, Option.some.injEq] at ho
      subst ho
      have p23 : b 23 = true := hd ⟨23, .data⟩ (by simp) rfl
      have e28 := (ev 23 28 rfl p23).trans vv23
      rw [vv25]
      refine does_value rfl (by intro c h; cases h) (w' := W) ?_ (hS)
      · simp [execOp, go_sem, e28]
    | k + 26 => simp at ho
  · intro b' W hS _
    subst hLe
    exact hQ W hS

set_option maxRecDepth 8000 in
set_option maxHeartbeats 4000000 in
theorem mvun_r0 {Q : Exit → Act → World → Prop} {base : Array Value} {dd : List Deferred} {ops : Array Oper} (hops : Try.f57.body.bind (regs 0) = some ops) (mv gt mb ob : Nat) (t n : Int) (fu : Value) (fn : ByteArray) (Post : World → Prop) (w9 : World) (hsz : base.size = 23)
    (b0 : base.getD 0 undef = .pointer (some ⟨mv, 0, none⟩))
    (m0 : w9.cell? ⟨mv, 0, none⟩ = some (.pointer (some ⟨gt, 0, none⟩))) (m1 : w9.cell? ⟨mv, 1, none⟩ = some (.int .i64 t)) (m2 : w9.cell? ⟨mv, 2, none⟩ = some (.int .i64 n)) (m6 : w9.cell? ⟨mv, 6, none⟩ = some (fu)) (m7 : w9.cell? ⟨mv, 7, none⟩ = some (.string fn)) (g0 : w9.cell? ⟨gt, 0, none⟩ = some (.map (some mb)))
    (hlk : (Instr.lookup 49 (.map (some mb)) (idv t n) false).run Try.prog w9.drew = .ok (.pointer (some ⟨ob, 0, none⟩)) w9.drew)
    (hc : Calls Try.prog 76 #[.pointer (some ⟨ob, 0, none⟩), .agg #[fu, .string fn]] w9.drew fun e W' => e = .returned (.tuple #[]) ∧ Post W')
    (hQ : ∀ (g : Unit) (W : World), (Post W) → Q .normal ⟨putAll base ((fun _g : Unit => ([(some 2, .pointer (some ⟨mv, 0, none⟩)), (some 3, .pointer (some ⟨mv, 0, none⟩)), (some 4, .pointer (some ⟨mv, 0, none⟩)), (some 5, .pointer (some ⟨gt, 0, none⟩)), (some 6, .pointer (some ⟨gt, 0, none⟩)), (some 7, .pointer (some ⟨gt, 0, none⟩)), (some 8, .map (some mb)), (some 9, .pointer (some ⟨mv, 0, none⟩)), (some 10, .pointer (some ⟨mv, 0, none⟩)), (some 11, .pointer (some ⟨mv, 1, none⟩)), (some 12, .agg #[.int .i64 t, .int .i64 n]), (some 13, .pointer (some ⟨ob, 0, none⟩)), (some 14, .pointer (some ⟨mv, 0, none⟩)), (some 15, .pointer (some ⟨mv, 0, none⟩)), (some 16, .pointer (some ⟨mv, 6, none⟩)), (some 17, .agg #[fu, .string fn]), (some 18, .tuple #[])] : List (Option Tmp × Value))) g), dd⟩ W) :
    (Code.region 0 ops true).wp Try.prog Q ⟨base, dd⟩ w9 := by
  have hmix : Try.prog.follows .mixedOrders = true := by kernel_rfl
  have h2 := (show Try.f57.body.bind (regs 0) = some _ from rfl).symm.trans hops
  obtain rfl := Option.some.inj h2
  clear h2 hops
  have cK : ∀ (g : Unit) (W : World), W = w9.drew → Calls Try.prog 76 #[.pointer (some ⟨ob, 0, none⟩), .agg #[fu, .string fn]] W fun e W' => ∃ x : Unit, e = .returned (.tuple #[]) ∧ Post W' := fun g W hW => by
    rw [hW]
    exact hc.mono fun e W' h => ⟨(), h.1, h.2⟩
  obtain ⟨LL, hLe⟩ : ∃ LL : Unit → List (Option Tmp × Value), LL = (fun _g : Unit => ([(some 2, .pointer (some ⟨mv, 0, none⟩)), (some 3, .pointer (some ⟨mv, 0, none⟩)), (some 4, .pointer (some ⟨mv, 0, none⟩)), (some 5, .pointer (some ⟨gt, 0, none⟩)), (some 6, .pointer (some ⟨gt, 0, none⟩)), (some 7, .pointer (some ⟨gt, 0, none⟩)), (some 8, .map (some mb)), (some 9, .pointer (some ⟨mv, 0, none⟩)), (some 10, .pointer (some ⟨mv, 0, none⟩)), (some 11, .pointer (some ⟨mv, 1, none⟩)), (some 12, .agg #[.int .i64 t, .int .i64 n]), (some 13, .pointer (some ⟨ob, 0, none⟩)), (some 14, .pointer (some ⟨mv, 0, none⟩)), (some 15, .pointer (some ⟨mv, 0, none⟩)), (some 16, .pointer (some ⟨mv, 6, none⟩)), (some 17, .agg #[fu, .string fn]), (some 18, .tuple #[])] : List (Option Tmp × Value))) := ⟨_, rfl⟩
  have vv0 : ∀ g, vals (LL g) 0 = .pointer (some ⟨mv, 0, none⟩) := fun g => by rw [hLe]; rfl
  have vv1 : ∀ g, vals (LL g) 1 = .pointer (some ⟨mv, 0, none⟩) := fun g => by rw [hLe]; rfl
  have vv2 : ∀ g, vals (LL g) 2 = .pointer (some ⟨mv, 0, none⟩) := fun g => by rw [hLe]; rfl
  have vv3 : ∀ g, vals (LL g) 3 = .pointer (some ⟨gt, 0, none⟩) := fun g => by rw [hLe]; rfl
  have vv4 : ∀ g, vals (LL g) 4 = .pointer (some ⟨gt, 0, none⟩) := fun g => by rw [hLe]; rfl
  have vv5 : ∀ g, vals (LL g) 5 = .pointer (some ⟨gt, 0, none⟩) := fun g => by rw [hLe]; rfl
  have vv6 : ∀ g, vals (LL g) 6 = .map (some mb) := fun g => by rw [hLe]; rfl
  have vv7 : ∀ g, vals (LL g) 7 = .pointer (some ⟨mv, 0, none⟩) := fun g => by rw [hLe]; rfl
  have vv8 : ∀ g, vals (LL g) 8 = .pointer (some ⟨mv, 0, none⟩) := fun g => by rw [hLe]; rfl
  have vv9 : ∀ g, vals (LL g) 9 = .pointer (some ⟨mv, 1, none⟩) := fun g => by rw [hLe]; rfl
  have vv10 : ∀ g, vals (LL g) 10 = .agg #[.int .i64 t, .int .i64 n] := fun g => by rw [hLe]; rfl
  have vv11 : ∀ g, vals (LL g) 11 = .pointer (some ⟨ob, 0, none⟩) := fun g => by rw [hLe]; rfl
  have vv12 : ∀ g, vals (LL g) 12 = .pointer (some ⟨mv, 0, none⟩) := fun g => by rw [hLe]; rfl
  have vv13 : ∀ g, vals (LL g) 13 = .pointer (some ⟨mv, 0, none⟩) := fun g => by rw [hLe]; rfl
  have vv14 : ∀ g, vals (LL g) 14 = .pointer (some ⟨mv, 6, none⟩) := fun g => by rw [hLe]; rfl
  have vv15 : ∀ g, vals (LL g) 15 = .agg #[fu, .string fn] := fun g => by rw [hLe]; rfl
  have vv16 : ∀ g, vals (LL g) 16 = .tuple #[] := fun g => by rw [hLe]; rfl
  refine region_laidg hmix (by kernel_rfl) 23 hsz (by kernel_rfl) () LL (fun g => by rw [hLe]; rfl) (fun (_g : Unit) (b : Nat → Bool) (W : World) => if b 16 = true then (Post W) else (W = w9.drew)) ?_ ?_ ?_
  · simp only [Bool.false_eq_true, if_false]
  · intro g b W io o a hS hcl ho hb hd ev kp yl
    match io with
    | 0 =>
      simp only [List.getElem?_toArray, List.getElem?_cons_zero, Option.some.injEq] at ho
      subst ho
      have e0 : a.tmps[0]?.getD undef = .pointer (some ⟨mv, 0, none⟩) := (kp 0 (none_till (by kernel_rfl))).trans b0
      have n16 : b 16 = false := by
        cases h : b 16
        · rfl
        · rw [hcl 1 _ rfl (hcl 2 _ rfl (hcl 3 _ rfl (hcl 4 _ rfl (hcl 5 _ rfl (hcl 6 _ rfl (hcl 11 _ rfl (hcl 16 _ rfl (h) ⟨11, .data⟩ (by simp) rfl) ⟨6, .data⟩ (by simp) rfl) ⟨5, .data⟩ (by simp) rfl) ⟨4, .data⟩ (by simp) rfl) ⟨3, .data⟩ (by simp) rfl) ⟨2, .data⟩ (by simp) rfl) ⟨1, .data⟩ (by simp) rfl) ⟨0, .data⟩ (by simp) rfl] at hb; cases hb
      refine doesg_value rfl (by intro c h; cases h) (v := .pointer (some ⟨mv, 0, none⟩)) (w' := W) ?_ ⟨g, fun _ _ => rfl, (vv0 g).symm, by simpa [did] using hS⟩
      · simp [execOp, go_sem, e0]
    | 1 =>
      simp only [List.getElem?_toArray, List.getElem?_cons_zero, List.getElem?_cons_succ, Option.some.injEq] at ho
      subst ho
      have p0 : b 0 = true := hd ⟨0, .data⟩ (by simp) rfl
      have e2 := (ev 0 2 rfl p0).trans (vv0 g)
      have n16 : b 16 = false := by
        cases h : b 16
        · rfl
        · rw [hcl 2 _ rfl (hcl 3 _ rfl (hcl 4 _ rfl (hcl 5 _ rfl (hcl 6 _ rfl (hcl 11 _ rfl (hcl 16 _ rfl (h) ⟨11, .data⟩ (by simp) rfl) ⟨6, .data⟩ (by simp) rfl) ⟨5, .data⟩ (by simp) rfl) ⟨4, .data⟩ (by simp) rfl) ⟨3, .data⟩ (by simp) rfl) ⟨2, .data⟩ (by simp) rfl) ⟨1, .data⟩ (by simp) rfl] at hb; cases hb
      refine doesg_value rfl (by intro c h; cases h) (v := .pointer (some ⟨mv, 0, none⟩)) (w' := W) ?_ ⟨g, fun _ _ => rfl, (vv1 g).symm, by simpa [did] using hS⟩
      · simp [execOp, go_sem, e2]
    | 2 =>
      simp only [List.getElem?_toArray, List.getElem?_cons_zero, List.getElem?_cons_succ, Option.some.injEq] at ho
      subst ho
      have p1 : b 1 = true := hd ⟨1, .data⟩ (by simp) rfl
      have e3 := (ev 1 3 rfl p1).trans (vv1 g)
      have n16 : b 16 = false := by
        cases h : b 16
        · rfl
        · rw [hcl 3 _ rfl (hcl 4 _ rfl (hcl 5 _ rfl (hcl 6 _ rfl (hcl 11 _ rfl (hcl 16 _ rfl (h) ⟨11, .data⟩ (by simp) rfl) ⟨6, .data⟩ (by simp) rfl) ⟨5, .data⟩ (by simp) rfl) ⟨4, .data⟩ (by simp) rfl) ⟨3, .data⟩ (by simp) rfl) ⟨2, .data⟩ (by simp) rfl] at hb; cases hb
      refine doesg_value rfl (by intro c h; cases h) (v := .pointer (some ⟨mv, 0, none⟩)) (w' := W) ?_ ⟨g, fun _ _ => rfl, (vv2 g).symm, by simpa [did] using hS⟩
      · simp [execOp, go_sem, e3]
    | 3 =>
      simp only [List.getElem?_toArray, List.getElem?_cons_zero, List.getElem?_cons_succ, Option.some.injEq] at ho
      subst ho
      have p2 : b 2 = true := hd ⟨2, .data⟩ (by simp) rfl
      have e4 := (ev 2 4 rfl p2).trans (vv2 g)
      have n16 : b 16 = false := by
        cases h : b 16
        · rfl
        · rw [hcl 4 _ rfl (hcl 5 _ rfl (hcl 6 _ rfl (hcl 11 _ rfl (hcl 16 _ rfl (h) ⟨11, .data⟩ (by simp) rfl) ⟨6, .data⟩ (by simp) rfl) ⟨5, .data⟩ (by simp) rfl) ⟨4, .data⟩ (by simp) rfl) ⟨3, .data⟩ (by simp) rfl] at hb; cases hb
      have hW : W = w9.drew := by simpa [n16] using hS
      have hl : W.cell? ⟨mv, 0, none⟩ = some (.pointer (some ⟨gt, 0, none⟩)) := by rw [hW]; exact m0
      refine doesg_value rfl (by intro c h; cases h) (v := .pointer (some ⟨gt, 0, none⟩)) (w' := W) ?_ ⟨g, fun _ _ => rfl, (vv3 g).symm, by simpa [did] using hS⟩
      · simp [execOp, go_sem, e4, hl]
    | 4 =>
      simp only [List.getElem?_toArray, List.getElem?_cons_zero, List.getElem?_cons_succ, Option.some.injEq] at ho
      subst ho
      have p3 : b 3 = true := hd ⟨3, .data⟩ (by simp) rfl
      have e5 := (ev 3 5 rfl p3).trans (vv3 g)
      have n16 : b 16 = false := by
        cases h : b 16
        · rfl
        · rw [hcl 5 _ rfl (hcl 6 _ rfl (hcl 11 _ rfl (hcl 16 _ rfl (h) ⟨11, .data⟩ (by simp) rfl) ⟨6, .data⟩ (by simp) rfl) ⟨5, .data⟩ (by simp) rfl) ⟨4, .data⟩ (by simp) rfl] at hb; cases hb
      refine doesg_value rfl (by intro c h; cases h) (v := .pointer (some ⟨gt, 0, none⟩)) (w' := W) ?_ ⟨g, fun _ _ => rfl, (vv4 g).symm, by simpa [did] using hS⟩
      · simp [execOp, go_sem, e5]
    | 5 =>
      simp only [List.getElem?_toArray, List.getElem?_cons_zero, List.getElem?_cons_succ, Option.some.injEq] at ho
      subst ho
      have p4 : b 4 = true := hd ⟨4, .data⟩ (by simp) rfl
      have e6 := (ev 4 6 rfl p4).trans (vv4 g)
      have n16 : b 16 = false := by
        cases h : b 16
        · rfl
        · rw [hcl 6 _ rfl (hcl 11 _ rfl (hcl 16 _ rfl (h) ⟨11, .data⟩ (by simp) rfl) ⟨6, .data⟩ (by simp) rfl) ⟨5, .data⟩ (by simp) rfl] at hb; cases hb
      refine doesg_value rfl (by intro c h; cases h) (v := .pointer (some ⟨gt, 0, none⟩)) (w' := W) ?_ ⟨g, fun _ _ => rfl, (vv5 g).symm, by simpa [did] using hS⟩
      · simp [execOp, go_sem, e6]
    | 6 =>
      simp only [List.getElem?_toArray, List.getElem?_cons_zero, List.getElem?_cons_succ, Option.some.injEq] at ho
      subst ho
      have p5 : b 5 = true := hd ⟨5, .data⟩ (by simp) rfl
      have e7 := (ev 5 7 rfl p5).trans (vv5 g)
      have n16 : b 16 = false := by
        cases h : b 16
        · rfl
        · rw [hcl 11 _ rfl (hcl 16 _ rfl (h) ⟨11, .data⟩ (by simp) rfl) ⟨6, .data⟩ (by simp) rfl] at hb; cases hb
      have hW : W = w9.drew := by simpa [n16] using hS
      have hl : W.cell? ⟨gt, 0, none⟩ = some (.map (some mb)) := by rw [hW]; exact g0
      refine doesg_value rfl (by intro c h; cases h) (v := .map (some mb)) (w' := W) ?_ ⟨g, fun _ _ => rfl, (vv6 g).symm, by simpa [did] using hS⟩
      · simp [execOp, go_sem, e7, hl]
    | 7 =>
      simp only [List.getElem?_toArray, List.getElem?_cons_zero, List.getElem?_cons_succ, Option.some.injEq] at ho
      subst ho
      have e0 : a.tmps[0]?.getD undef = .pointer (some ⟨mv, 0, none⟩) := (kp 0 (none_till (by kernel_rfl))).trans b0
      have n16 : b 16 = false := by
        cases h : b 16
        · rfl
        · rw [hcl 8 _ rfl (hcl 9 _ rfl (hcl 10 _ rfl (hcl 11 _ rfl (hcl 16 _ rfl (h) ⟨11, .data⟩ (by simp) rfl) ⟨10, .data⟩ (by simp) rfl) ⟨9, .data⟩ (by simp) rfl) ⟨8, .data⟩ (by simp) rfl) ⟨7, .data⟩ (by simp) rfl] at hb; cases hb
      refine doesg_value rfl (by intro c h; cases h) (v := .pointer (some ⟨mv, 0, none⟩)) (w' := W) ?_ ⟨g, fun _ _ => rfl, (vv7 g).symm, by simpa [did] using hS⟩
      · simp [execOp, go_sem, e0]
    | 8 =>
      simp only [List.getElem?_toArray, List.getElem?_cons_zero, List.getElem?_cons_succ, Option.some.injEq] at ho
      subst ho
      have p7 : b 7 = true := hd ⟨7, .data⟩ (by simp) rfl
      have e9 := (ev 7 9 rfl p7).trans (vv7 g)
      have n16 : b 16 = false := by
        cases h : b 16
        · rfl
        · rw [hcl 9 _ rfl (hcl 10 _ rfl (hcl 11 _ rfl (hcl 16 _ rfl (h) ⟨11, .data⟩ (by simp) rfl) ⟨10, .data⟩ (by simp) rfl) ⟨9, .data⟩ (by simp) rfl) ⟨8, .data⟩ (by simp) rfl] at hb; cases hb
      refine doesg_value rfl (by intro c h; cases h) (v := .pointer (some ⟨mv, 0, none⟩)) (w' := W) ?_ ⟨g, fun _ _ => rfl, (vv8 g).symm, by simpa [did] using hS⟩
      · simp [execOp, go_sem, e9]
    | 9 =>
      simp only [List.getElem?_toArray, List.getElem?_cons_zero, List.getElem?_cons_succ, Option.some.injEq] at ho
      subst ho
      have p8 : b 8 = true := hd ⟨8, .data⟩ (by simp) rfl
      have e10 := (ev 8 10 rfl p8).trans (vv8 g)
      have n16 : b 16 = false := by
        cases h : b 16
        · rfl
        · rw [hcl 10 _ rfl (hcl 11 _ rfl (hcl 16 _ rfl (h) ⟨11, .data⟩ (by simp) rfl) ⟨10, .data⟩ (by simp) rfl) ⟨9, .data⟩ (by simp) rfl] at hb; cases hb
      refine doesg_value rfl (by intro c h; cases h) (v := .pointer (some ⟨mv, 1, none⟩)) (w' := W) ?_ ⟨g, fun _ _ => rfl, (vv9 g).symm, by simpa [did] using hS⟩
      · simp [execOp, go_sem, e10]
    | 10 =>
      simp only [List.getElem?_toArray, List.getElem?_cons_zero, List.getElem?_cons_succ, Option.some.injEq] at ho
      subst ho
      have p9 : b 9 = true := hd ⟨9, .data⟩ (by simp) rfl
      have e11 := (ev 9 11 rfl p9).trans (vv9 g)
      have n16 : b 16 = false := by
        cases h : b 16
        · rfl
        · rw [hcl 11 _ rfl (hcl 16 _ rfl (h) ⟨11, .data⟩ (by simp) rfl) ⟨10, .data⟩ (by simp) rfl] at hb; cases hb
      have hW : W = w9.drew := by simpa [n16] using hS
      have hl : W.cell? ⟨mv, 1, none⟩ = some (.int .i64 t) := by rw [hW]; exact m1
      have hl2 : W.cell? ⟨mv, 2, none⟩ = some (.int .i64 n) := by rw [hW]; exact m2
      refine doesg_value rfl (by intro c h; cases h) (v := .agg #[.int .i64 t, .int .i64 n]) (w' := W) ?_ ⟨g, fun _ _ => rfl, (vv10 g).symm, by simpa [did] using hS⟩
      · simp [execOp, go_sem, e11, hl, hl2]
    | 11 =>
      simp only [List.getElem?_toArray, List.getElem?_cons_zero, List.getElem?_cons_succ, Option.some.injEq] at ho
      subst ho
      have p6 : b 6 = true := hd ⟨6, .data⟩ (by simp) rfl
      have p10 : b 10 = true := hd ⟨10, .data⟩ (by simp) rfl
      have e8 := (ev 6 8 rfl p6).trans (vv6 g)
      have e12 := (ev 10 12 rfl p10).trans (vv10 g)
      have n16 : b 16 = false := by
        cases h : b 16
        · rfl
        · rw [hcl 16 _ rfl (h) ⟨11, .data⟩ (by simp) rfl] at hb; cases hb
      refine doesg_value rfl (by intro c h; cases h) (v := .pointer (some ⟨ob, 0, none⟩)) (w' := W) ?_ ⟨g, fun _ _ => rfl, (vv11 g).symm, by simpa [did] using hS⟩
      · (rw [show W = w9.drew from by simpa [n16] using hS]; simp [execOp, go_sem, e8, e12, hlk])
    | 12 =>
      simp only [List.getElem?_toArray, List.getElem?_cons_zero, List.getElem?_cons_succ, Option.some.injEq] at ho
      subst ho
      have e0 : a.tmps[0]?.getD undef = .pointer (some ⟨mv, 0, none⟩) := (kp 0 (none_till (by kernel_rfl))).trans b0
      have n16 : b 16 = false := by
        cases h : b 16
        · rfl
        · rw [hcl 13 _ rfl (hcl 14 _ rfl (hcl 15 _ rfl (hcl 16 _ rfl (h) ⟨15, .data⟩ (by simp) rfl) ⟨14, .data⟩ (by simp) rfl) ⟨13, .data⟩ (by simp) rfl) ⟨12, .data⟩ (by simp) rfl] at hb; cases hb
      refine doesg_value rfl (by intro c h; cases h) (v := .pointer (some ⟨mv, 0, none⟩)) (w' := W) ?_ ⟨g, fun _ _ => rfl, (vv12 g).symm, by simpa [did] using hS⟩
      · simp [execOp, go_sem, e0]
    | 13 =>
      simp only [List.getElem?_toArray, List.getElem?_cons_zero, List.getElem?_cons_succ, Option.some.injEq] at ho
      subst ho
      have p12 : b 12 = true := hd ⟨12, .data⟩ (by simp) rfl
      have e14 := (ev 12 14 rfl p12).trans (vv12 g)
      have n16 : b 16 = false := by
        cases h : b 16
        · rfl
        · rw [hcl 14 _ rfl (hcl 15 _ rfl (hcl 16 _ rfl (h) ⟨15, .data⟩ (by simp) rfl) ⟨14, .data⟩ (by simp) rfl) ⟨13, .data⟩ (by simp) rfl] at hb; cases hb
      refine doesg_value rfl (by intro c h; cases h) (v := .pointer (some ⟨mv, 0, none⟩)) (w' := W) ?_ ⟨g, fun _ _ => rfl, (vv13 g).symm, by simpa [did] using hS⟩
      · simp [execOp, go_sem, e14]
    | 14 =>
      simp only [List.getElem?_toArray, List.getElem?_cons_zero, List.getElem?_cons_succ, Option.some.injEq] at ho
      subst ho
      have p13 : b 13 = true := hd ⟨13, .data⟩ (by simp) rfl
      have e15 := (ev 13 15 rfl p13).trans (vv13 g)
      have n16 : b 16 = false := by
        cases h : b 16
        · rfl
        · rw [hcl 15 _ rfl (hcl 16 _ rfl (h) ⟨15, .data⟩ (by simp) rfl) ⟨14, .data⟩ (by simp) rfl] at hb; cases hb
      refine doesg_value rfl (by intro c h; cases h) (v := .pointer (some ⟨mv, 6, none⟩)) (w' := W) ?_ ⟨g, fun _ _ => rfl, (vv14 g).symm, by simpa [did] using hS⟩
      · simp [execOp, go_sem, e15]
    | 15 =>
      simp only [List.getElem?_toArray, List.getElem?_cons_zero, List.getElem?_cons_succ, Option.some.injEq] at ho
      subst ho
      have p14 : b 14 = true := hd ⟨14, .data⟩ (by simp) rfl
      have e16 := (ev 14 16 rfl p14).trans (vv14 g)
      have n16 : b 16 = false := by
        cases h : b 16
        · rfl
        · rw [hcl 16 _ rfl (h) ⟨15, .data⟩ (by simp) rfl] at hb; cases hb
      have hW : W = w9.drew := by simpa [n16] using hS
      have hl : W.cell? ⟨mv, 6, none⟩ = some (fu) := by rw [hW]; exact m6
      have hl2 : W.cell? ⟨mv, 7, none⟩ = some (.string fn) := by rw [hW]; exact m7
      refine doesg_value rfl (by intro c h; cases h) (v := .agg #[fu, .string fn]) (w' := W) ?_ ⟨g, fun _ _ => rfl, (vv15 g).symm, by simpa [did] using hS⟩
      · simp [execOp, go_sem, e16, hl, hl2]
    | 16 =>
      simp only [List.getElem?_toArray, List.getElem?_cons_zero, List.getElem?_cons_succ, Option.some.injEq] at ho
      subst ho
      have p11 : b 11 = true := hd ⟨11, .data⟩ (by simp) rfl
      have p15 : b 15 = true := hd ⟨15, .data⟩ (by simp) rfl
      have e13 := (ev 11 13 rfl p11).trans (vv11 g)
      have e17 := (ev 15 17 rfl p15).trans (vv15 g)
      have hS9 : W = w9.drew := by simpa [hb] using hS
      refine doesg_call rfl (by intro c h; cases h) (f := 76) (args := #[.pointer (some ⟨ob, 0, none⟩), .agg #[fu, .string fn]]) ?_ ?_
      · simp [go_sem, e13, e17]
      · refine (cK g W hS9).mono ?_
        rintro e W' ⟨x, rfl, hP⟩
        refine ⟨_, rfl, g, ?_, (vv16 g).symm, ?_⟩
        · exact fun _ _ => rfl
        · simpa [did] using hP
    | k + 17 => simp at ho
  · intro g b W hS hall
    have hl9 : b 16 = true := hall 16 (by decide)
    subst hLe
    exact hQ g W (by simpa [hl9] using hS)

set_option maxRecDepth 8000 in
set_option maxHeartbeats 4000000 in
theorem undo_r2 {Q : Exit → Act → World → Prop} {base : Array Value} {dd : List Deferred} {ops : Array Oper} (hops : Try.f28.body.bind (regs 2) = some ops) (gt g9 len cp k sb : Nat) (rb : Bool) (Post : World → Prop) (w9 : World) (hsz : base.size = 36)
    (b0 : base.getD 0 undef = .pointer (some ⟨gt, 0, none⟩))
    (hk : k < len)
    (g1 : w9.cell? ⟨gt, 1, none⟩ = some (.slice (some ⟨g9, 0, none⟩) len cp)) (g2 : w9.cell? ⟨gt, 2, none⟩ = some (.int .i64 (k : Nat))) (r0 : w9.cell? ⟨g9, k, none⟩ = some (.pointer (some ⟨sb, 0, none⟩)))
    (hc : Calls Try.prog 50 #[.pointer (some ⟨sb, 0, none⟩)] w9.drew fun e W' => e = .returned (.bool rb) ∧ Post W')
    (hQ : ∀ (g : Unit) (W : World), (Post W) → Q .normal ⟨putAll base ((fun _g : Unit => ([(some 17, .pointer (some ⟨gt, 0, none⟩)), (some 18, .pointer (some ⟨gt, 0, none⟩)), (some 19, .pointer (some ⟨gt, 1, none⟩)), (some 20, .slice (some ⟨g9, 0, none⟩) len cp), (some 21, .pointer (some ⟨gt, 0, none⟩)), (some 22, .pointer (some ⟨gt, 0, none⟩)), (some 23, .pointer (some ⟨gt, 2, none⟩)), (some 24, .int .i64 (k : Nat)), (some 25, .pointer (some ⟨g9, k, none⟩)), (some 26, .pointer (some ⟨sb, 0, none⟩)), (some 27, .bool rb), (some 28, .bool (!rb))] : List (Option Tmp × Value))) g), dd⟩ W) :
    (Code.region 2 ops true).wp Try.prog Q ⟨base, dd⟩ w9 := by
  have hmix : Try.prog.follows .mixedOrders = true := by kernel_rfl
  have h2 := (show Try.f28.body.bind (regs 2) = some _ from rfl).symm.trans hops
  obtain rfl := Option.some.inj h2
  clear h2 hops
  have cK : ∀ (g : Unit) (W : World), W = w9.drew → Calls Try.prog 50 #[.pointer (some ⟨sb, 0, none⟩)] W fun e W' => ∃ x : Unit, e = .returned (.bool rb) ∧ Post W' := fun g W hW => by
    rw [hW]
    exact hc.mono fun e W' h => ⟨(), h.1, h.2⟩
  obtain ⟨LL, hLe⟩ : ∃ LL : Unit → List (Option Tmp × Value), LL = (fun _g : Unit => ([(some 17, .pointer (some ⟨gt, 0, none⟩)), (some 18, .pointer (some ⟨gt, 0, none⟩)), (some 19, .pointer (some ⟨gt, 1, none⟩)), (some 20, .slice (some ⟨g9, 0, none⟩) len cp), (some 21, .pointer (some ⟨gt, 0, none⟩)), (some 22, .pointer (some ⟨gt, 0, none⟩)), (some 23, .pointer (some ⟨gt, 2, none⟩)), (some 24, .int .i64 (k : Nat)), (some 25, .pointer (some ⟨g9, k, none⟩)), (some 26, .pointer (some ⟨sb, 0, none⟩)), (some 27, .bool rb), (some 28, .bool (!rb))] : List (Option Tmp × Value))) := ⟨_, rfl⟩
  have vv0 : ∀ g, vals (LL g) 0 = .pointer (some ⟨gt, 0, none⟩) := fun g => by rw [hLe]; rfl
  have vv1 : ∀ g, vals (LL g) 1 = .pointer (some ⟨gt, 0, none⟩) := fun g => by rw [hLe]; rfl
  have vv2 : ∀ g, vals (LL g) 2 = .pointer (some ⟨gt, 1, none⟩) := fun g => by rw [hLe]; rfl
  have vv3 : ∀ g, vals (LL g) 3 = .slice (some ⟨g9, 0, none⟩) len cp := fun g => by rw [hLe]; rfl
  have vv4 : ∀ g, vals (LL g) 4 = .pointer (some ⟨gt, 0, none⟩) := fun g => by rw [hLe]; rfl
  have vv5 : ∀ g, vals (LL g) 5 = .pointer (some ⟨gt, 0, none⟩) := fun g => by rw [hLe]; rfl
  have vv6 : ∀ g, vals (LL g) 6 = .pointer (some ⟨gt, 2, none⟩) := fun g => by rw [hLe]; rfl
  have vv7 : ∀ g, vals (LL g) 7 = .int .i64 (k : Nat) := fun g => by rw [hLe]; rfl
  have vv8 : ∀ g, vals (LL g) 8 = .pointer (some ⟨g9, k, none⟩) := fun g => by rw [hLe]; rfl
  have vv9 : ∀ g, vals (LL g) 9 = .pointer (some ⟨sb, 0, none⟩) := fun g => by rw [hLe]; rfl
  have vv10 : ∀ g, vals (LL g) 10 = .bool rb := fun g => by rw [hLe]; rfl
  have vv11 : ∀ g, vals (LL g) 11 = .bool (!rb) := fun g => by rw [hLe]; rfl
  refine region_laidg hmix (by kernel_rfl) 36 hsz (by kernel_rfl) () LL (fun g => by rw [hLe]; rfl) (fun (_g : Unit) (b : Nat → Bool) (W : World) => if b 10 = true then (Post W) else (W = w9.drew)) ?_ ?_ ?_
  · simp only [Bool.false_eq_true, if_false]
  · intro g b W io o a hS hcl ho hb hd ev kp yl
    match io with
    | 0 =>
      simp only [List.getElem?_toArray, List.getElem?_cons_zero, Option.some.injEq] at ho
      subst ho
      have e0 : a.tmps[0]?.getD undef = .pointer (some ⟨gt, 0, none⟩) := (kp 0 (none_till (by kernel_rfl))).trans b0
      have n10 : b 10 = false := by
        cases h : b 10
        · rfl
        · rw [hcl 1 _ rfl (hcl 2 _ rfl (hcl 3 _ rfl (hcl 8 _ rfl (hcl 9 _ rfl (hcl 10 _ rfl (h) ⟨9, .data⟩ (by simp) rfl) ⟨8, .data⟩ (by simp) rfl) ⟨3, .data⟩ (by simp) rfl) ⟨2, .data⟩ (by simp) rfl) ⟨1, .data⟩ (by simp) rfl) ⟨0, .data⟩ (by simp) rfl] at hb; cases hb
      refine doesg_value rfl (by intro c h; cases h) (v := .pointer (some ⟨gt, 0, none⟩)) (w' := W) ?_ ⟨g, fun _ _ => rfl, (vv0 g).symm, by simpa [did] using hS⟩
      · simp [execOp, go_sem, e0]
    | 1 =>
      simp only [List.getElem?_toArray, List.getElem?_cons_zero, List.getElem?_cons_succ, Option.some.injEq] at ho
      subst ho
      have p0 : b 0 = true := hd ⟨0, .data⟩ (by simp) rfl
      have e17 := (ev 0 17 rfl p0).trans (vv0 g)
      have n10 : b 10 = false := by
        cases h : b 10
        · rfl
        · rw [hcl 2 _ rfl (hcl 3 _ rfl (hcl 8 _ rfl (hcl 9 _ rfl (hcl 10 _ rfl (h) ⟨9, .data⟩ (by simp) rfl) ⟨8, .data⟩ (by simp) rfl) ⟨3, .data⟩ (by simp) rfl) ⟨2, .data⟩ (by simp) rfl) ⟨1, .data⟩ (by simp) rfl] at hb; cases hb
      refine doesg_value rfl (by intro c h; cases h) (v := .pointer (some ⟨gt, 0, none⟩)) (w' := W) ?_ ⟨g, fun _ _ => rfl, (vv1 g).symm, by simpa [did] using hS⟩
      · simp [execOp, go_sem, e17]
    | 2 =>
      simp only [List.getElem?_toArray, List.getElem?_cons_zero, List.getElem?_cons_succ, Option.some.injEq] at ho
      subst ho
      have p1 : b 1 = true := hd ⟨1, .data⟩ (by simp) rfl
      have e18 := (ev 1 18 rfl p1).trans (vv1 g)
      have n10 : b 10 = false := by
        cases h : b 10
        · rfl
        · rw [hcl 3 _ rfl (hcl 8 _ rfl (hcl 9 _ rfl (hcl 10 _ rfl (h) ⟨9, .data⟩ (by simp) rfl) ⟨8, .data⟩ (by simp) rfl) ⟨3, .data⟩ (by simp) rfl) ⟨2, .data⟩ (by simp) rfl] at hb; cases hb
      refine doesg_value rfl (by intro c h; cases h) (v := .pointer (some ⟨gt, 1, none⟩)) (w' := W) ?_ ⟨g, fun _ _ => rfl, (vv2 g).symm, by simpa [did] using hS⟩
      · simp [execOp, go_sem, e18]
    | 3 =>
      simp only [List.getElem?_toArray, List.getElem?_cons_zero, List.getElem?_cons_succ, Option.some.injEq] at ho
      subst ho
      have p2 : b 2 = true := hd ⟨2, .data⟩ (by simp) rfl
      have e19 := (ev 2 19 rfl p2).trans (vv2 g)
      have n10 : b 10 = false := by
        cases h : b 10
        · rfl
        · rw [hcl 8 _ rfl (hcl 9 _ rfl (hcl 10 _ rfl (h) ⟨9, .data⟩ (by simp) rfl) ⟨8, .data⟩ (by simp) rfl) ⟨3, .data⟩ (by simp) rfl] at hb; cases hb
      have hW : W = w9.drew := by simpa [n10] using hS
      have hl : W.cell? ⟨gt, 1, none⟩ = some (.slice (some ⟨g9, 0, none⟩) len cp) := by rw [hW]; exact g1
      refine doesg_value rfl (by intro c h; cases h) (v := .slice (some ⟨g9, 0, none⟩) len cp) (w' := W) ?_ ⟨g, fun _ _ => rfl, (vv3 g).symm, by simpa [did] using hS⟩
      · simp [execOp, go_sem, e19, hl]
    | 4 =>
      simp only [List.getElem?_toArray, List.getElem?_cons_zero, List.getElem?_cons_succ, Option.some.injEq] at ho
      subst ho
      have e0 : a.tmps[0]?.getD undef = .pointer (some ⟨gt, 0, none⟩) := (kp 0 (none_till (by kernel_rfl))).trans b0
      have n10 : b 10 = false := by
        cases h : b 10
        · rfl
        · rw [hcl 5 _ rfl (hcl 6 _ rfl (hcl 7 _ rfl (hcl 8 _ rfl (hcl 9 _ rfl (hcl 10 _ rfl (h) ⟨9, .data⟩ (by simp) rfl) ⟨8, .data⟩ (by simp) rfl) ⟨7, .data⟩ (by simp) rfl) ⟨6, .data⟩ (by simp) rfl) ⟨5, .data⟩ (by simp) rfl) ⟨4, .data⟩ (by simp) rfl] at hb; cases hb
      refine doesg_value rfl (by intro c h; cases h) (v := .pointer (some ⟨gt, 0, none⟩)) (w' := W) ?_ ⟨g, fun _ _ => rfl, (vv4 g).symm, by simpa [did] using hS⟩
      · simp [execOp, go_sem, e0]
    | 5 =>
      simp only [List.getElem?_toArray, List.getElem?_cons_zero, List.getElem?_cons_succ, Option.some.injEq] at ho
      subst ho
      have p4 : b 4 = true := hd ⟨4, .data⟩ (by simp) rfl
      have e21 := (ev 4 21 rfl p4).trans (vv4 g)
      have n10 : b 10 = false := by
        cases h : b 10
        · rfl
        · rw [hcl 6 _ rfl (hcl 7 _ rfl (hcl 8 _ rfl (hcl 9 _ rfl (hcl 10 _ rfl (h) ⟨9, .data⟩ (by simp) rfl) ⟨8, .data⟩ (by simp) rfl) ⟨7, .data⟩ (by simp) rfl) ⟨6, .data⟩ (by simp) rfl) ⟨5, .data⟩ (by simp) rfl] at hb; cases hb
      refine doesg_value rfl (by intro c h; cases h) (v := .pointer (some ⟨gt, 0, none⟩)) (w' := W) ?_ ⟨g, fun _ _ => rfl, (vv5 g).symm, by simpa [did] using hS⟩
      · simp [execOp, go_sem, e21]
    | 6 =>
      simp only [List.getElem?_toArray, List.getElem?_cons_zero, List.getElem?_cons_succ, Option.some.injEq] at ho
      subst ho
      have p5 : b 5 = true := hd ⟨5, .data⟩ (by simp) rfl
      have e22 := (ev 5 22 rfl p5).trans (vv5 g)
      have n10 : b 10 = false := by
        cases h : b 10
        · rfl
        · rw [hcl 7 _ rfl (hcl 8 _ rfl (hcl 9 _ rfl (hcl 10 _ rfl (h) ⟨9, .data⟩ (by simp) rfl) ⟨8, .data⟩ (by simp) rfl) ⟨7, .data⟩ (by simp) rfl) ⟨6, .data⟩ (by simp) rfl] at hb; cases hb
      refine doesg_value rfl (by intro c h; cases h) (v := .pointer (some ⟨gt, 2, none⟩)) (w' := W) ?_ ⟨g, fun _ _ => rfl, (vv6 g).symm, by simpa [did] using hS⟩
      · simp [execOp, go_sem, e22]
    | 7 =>
      simp only [List.getElem?_toArray, List.getElem?_cons_zero, List.getElem?_cons_succ, Option.some.injEq] at ho
      subst ho
      have p6 : b 6 = true := hd ⟨6, .data⟩ (by simp) rfl
      have e23 := (ev 6 23 rfl p6).trans (vv6 g)
      have n10 : b 10 = false := by
        cases h : b 10
        · rfl
        · rw [hcl 8 _ rfl (hcl 9 _ rfl (hcl 10 _ rfl (h) ⟨9, .data⟩ (by simp) rfl) ⟨8, .data⟩ (by simp) rfl) ⟨7, .data⟩ (by simp) rfl] at hb; cases hb
      have hW : W = w9.drew := by simpa [n10] using hS
      have hl : W.cell? ⟨gt, 2, none⟩ = some (.int .i64 (k : Nat)) := by rw [hW]; exact g2
      refine doesg_value rfl (by intro c h; cases h) (v := .int .i64 (k : Nat)) (w' := W) ?_ ⟨g, fun _ _ => rfl, (vv7 g).symm, by simpa [did] using hS⟩
      · simp [execOp, go_sem, e23, hl]
    | 8 =>
      simp only [List.getElem?_toArray, List.getElem?_cons_zero, List.getElem?_cons_succ, Option.some.injEq] at ho
      subst ho
      have p3 : b 3 = true := hd ⟨3, .data⟩ (by simp) rfl
      have p7 : b 7 = true := hd ⟨7, .data⟩ (by simp) rfl
      have e20 := (ev 3 20 rfl p3).trans (vv3 g)
      have e24 := (ev 7 24 rfl p7).trans (vv7 g)
      have n10 : b 10 = false := by
        cases h : b 10
        · rfl
        · rw [hcl 9 _ rfl (hcl 10 _ rfl (h) ⟨9, .data⟩ (by simp) rfl) ⟨8, .data⟩ (by simp) rfl] at hb; cases hb
      refine doesg_value rfl (by intro c h; cases h) (v := .pointer (some ⟨g9, k, none⟩)) (w' := W) ?_ ⟨g, fun _ _ => rfl, (vv8 g).symm, by simpa [did] using hS⟩
      · simp [execOp, go_sem, e20, e24, hk]
    | 9 =>
      simp only [List.getElem?_toArray, List.getElem?_cons_zero, List.getElem?_cons_succ, Option.some.injEq] at ho
      subst ho
      have p8 : b 8 = true := hd ⟨8, .data⟩ (by simp) rfl
      have e25 := (ev 8 25 rfl p8).trans (vv8 g)
      have n10 : b 10 = false := by
        cases h : b 10
        · rfl
        · rw [hcl 10 _ rfl (h) ⟨9, .data⟩ (by simp) rfl] at hb; cases hb
      have hW : W = w9.drew := by simpa [n10] using hS
      have hl : W.cell? ⟨g9, k, none⟩ = some (.pointer (some ⟨sb, 0, none⟩)) := by rw [hW]; exact r0
      refine doesg_value rfl (by intro c h; cases h) (v := .pointer (some ⟨sb, 0, none⟩)) (w' := W) ?_ ⟨g, fun _ _ => rfl, (vv9 g).symm, by simpa [did] using hS⟩
      · simp [execOp, go_sem, e25, hl]
    | 10 =>
      simp only [List.getElem?_toArray, List.getElem?_cons_zero, List.getElem?_cons_succ, Option.some.injEq] at ho
      subst ho
      have p9 : b 9 = true := hd ⟨9, .data⟩ (by simp) rfl
      have e26 := (ev 9 26 rfl p9).trans (vv9 g)
      have hS9 : W = w9.drew := by simpa [hb] using hS
      refine doesg_call rfl (by intro c h; cases h) (f := 50) (args := #[.pointer (some ⟨sb, 0, none⟩)]) ?_ ?_
      · simp [go_sem, e26]
      · refine (cK g W hS9).mono ?_
        rintro e W' ⟨x, rfl, hP⟩
        refine ⟨_, rfl, g, ?_, (vv10 g).symm, ?_⟩
        · exact fun _ _ => rfl
        · simpa [did] using hP
    | 11 =>
      simp only [List.getElem?_toArray, List.getElem?_cons_zero, List.getElem?_cons_succ, Option.some.injEq] at ho
      subst ho
      have p10 : b 10 = true := hd ⟨10, .data⟩ (by simp) rfl
      have e27 := (ev 10 27 rfl p10).trans (vv10 g)
      refine doesg_value rfl (by intro c h; cases h) (v := .bool (!rb)) (w' := W) ?_ ⟨g, fun _ _ => rfl, (vv11 g).symm, by simpa [did] using hS⟩
      · simp [execOp, go_sem, e27]
    | k + 12 => simp at ho
  · intro g b W hS hall
    have hl9 : b 10 = true := hall 10 (by decide)
    subst hLe
    exact hQ g W (by simpa [hl9] using hS)

set_option maxRecDepth 8000 in
set_option maxHeartbeats 4000000 in
theorem catch_r3 {Q : Exit → Act → World → Prop} {base : Array Value} {dd : List Deferred} {ops : Array Oper} (hops : Try.f34.body.bind (regs 3) = some ops) (gt g9 len cp k sb : Nat) (rb : Bool) (Post : World → Prop) (w9 : World) (hsz : base.size = 47)
    (b0 : base.getD 0 undef = .pointer (some ⟨gt, 0, none⟩))
    (hk : k < len)
    (g1 : w9.cell? ⟨gt, 1, none⟩ = some (.slice (some ⟨g9, 0, none⟩) len cp)) (g2 : w9.cell? ⟨gt, 2, none⟩ = some (.int .i64 (k : Nat))) (r0 : w9.cell? ⟨g9, k, none⟩ = some (.pointer (some ⟨sb, 0, none⟩)))
    (hc : Calls Try.prog 61 #[.pointer (some ⟨sb, 0, none⟩)] w9.drew fun e W' => e = .returned (.bool rb) ∧ Post W')
    (hQ : ∀ (g : Unit) (W : World), (Post W) → Q .normal ⟨putAll base ((fun _g : Unit => ([(some 21, .pointer (some ⟨gt, 0, none⟩)), (some 22, .pointer (some ⟨gt, 0, none⟩)), (some 23, .pointer (some ⟨gt, 1, none⟩)), (some 24, .slice (some ⟨g9, 0, none⟩) len cp), (some 25, .pointer (some ⟨gt, 0, none⟩)), (some 26, .pointer (some ⟨gt, 0, none⟩)), (some 27, .pointer (some ⟨gt, 2, none⟩)), (some 28, .int .i64 (k : Nat)), (some 29, .pointer (some ⟨g9, k, none⟩)), (some 30, .pointer (some ⟨sb, 0, none⟩)), (some 31, .bool rb), (some 32, .bool (!rb))] : List (Option Tmp × Value))) g), dd⟩ W) :
    (Code.region 3 ops true).wp Try.prog Q ⟨base, dd⟩ w9 := by
  have hmix : Try.prog.follows .mixedOrders = true := by kernel_rfl
  have h2 := (show Try.f34.body.bind (regs 3) = some _ from rfl).symm.trans hops
  obtain rfl := Option.some.inj h2
  clear h2 hops
  have cK : ∀ (g : Unit) (W : World), W = w9.drew → Calls Try.prog 61 #[.pointer (some ⟨sb, 0, none⟩)] W fun e W' => ∃ x : Unit, e = .returned (.bool rb) ∧ Post W' := fun g W hW => by
    rw [hW]
    exact hc.mono fun e W' h => ⟨(), h.1, h.2⟩
  obtain ⟨LL, hLe⟩ : ∃ LL : Unit → List (Option Tmp × Value), LL = (fun _g : Unit => ([(some 21, .pointer (some ⟨gt, 0, none⟩)), (some 22, .pointer (some ⟨gt, 0, none⟩)), (some 23, .pointer (some ⟨gt, 1, none⟩)), (some 24, .slice (some ⟨g9, 0, none⟩) len cp), (some 25, .pointer (some ⟨gt, 0, none⟩)), (some 26, .pointer (some ⟨gt, 0, none⟩)), (some 27, .pointer (some ⟨gt, 2, none⟩)), (some 28, .int .i64 (k : Nat)), (some 29, .pointer (some ⟨g9, k, none⟩)), (some 30, .pointer (some ⟨sb, 0, none⟩)), (some 31, .bool rb), (some 32, .bool (!rb))] : List (Option Tmp × Value))) := ⟨_, rfl⟩
  have vv0 : ∀ g, vals (LL g) 0 = .pointer (some ⟨gt, 0, none⟩) := fun g => by rw [hLe]; rfl
  have vv1 : ∀ g, vals (LL g) 1 = .pointer (some ⟨gt, 0, none⟩) := fun g => by rw [hLe]; rfl
  have vv2 : ∀ g, vals (LL g) 2 = .pointer (some ⟨gt, 1, none⟩) := fun g => by rw [hLe]; rfl
  have vv3 : ∀ g, vals (LL g) 3 = .slice (some ⟨g9, 0, none⟩) len cp := fun g => by rw [hLe]; rfl
  have vv4 : ∀ g, vals (LL g) 4 = .pointer (some ⟨gt, 0, none⟩) := fun g => by rw [hLe]; rfl
  have vv5 : ∀ g, vals (LL g) 5 = .pointer (some ⟨gt, 0, none⟩) := fun g => by rw [hLe]; rfl
  have vv6 : ∀ g, vals (LL g) 6 = .pointer (some ⟨gt, 2, none⟩) := fun g => by rw [hLe]; rfl
  have vv7 : ∀ g, vals (LL g) 7 = .int .i64 (k : Nat) := fun g => by rw [hLe]; rfl
  have vv8 : ∀ g, vals (LL g) 8 = .pointer (some ⟨g9, k, none⟩) := fun g => by rw [hLe]; rfl
  have vv9 : ∀ g, vals (LL g) 9 = .pointer (some ⟨sb, 0, none⟩) := fun g => by rw [hLe]; rfl
  have vv10 : ∀ g, vals (LL g) 10 = .bool rb := fun g => by rw [hLe]; rfl
  have vv11 : ∀ g, vals (LL g) 11 = .bool (!rb) := fun g => by rw [hLe]; rfl
  refine region_laidg hmix (by kernel_rfl) 47 hsz (by kernel_rfl) () LL (fun g => by rw [hLe]; rfl) (fun (_g : Unit) (b : Nat → Bool) (W : World) => if b 10 = true then (Post W) else (W = w9.drew)) ?_ ?_ ?_
  · simp only [Bool.false_eq_true, if_false]
  · intro g b W io o a hS hcl ho hb hd ev kp yl
    match io with
    | 0 =>
      simp only [List.getElem?_toArray, List.getElem?_cons_zero, Option.some.injEq] at ho
      subst ho
      have e0 : a.tmps[0]?.getD undef = .pointer (some ⟨gt, 0, none⟩) := (kp 0 (none_till (by kernel_rfl))).trans b0
      have n10 : b 10 = false := by
        cases h : b 10
        · rfl
        · rw [hcl 1 _ rfl (hcl 2 _ rfl (hcl 3 _ rfl (hcl 8 _ rfl (hcl 9 _ rfl (hcl 10 _ rfl (h) ⟨9, .data⟩ (by simp) rfl) ⟨8, .data⟩ (by simp) rfl) ⟨3, .data⟩ (by simp) rfl) ⟨2, .data⟩ (by simp) rfl) ⟨1, .data⟩ (by simp) rfl) ⟨0, .data⟩ (by simp) rfl] at hb; cases hb
      refine doesg_value rfl (by intro c h; cases h) (v := .pointer (some ⟨gt, 0, none⟩)) (w' := W) ?_ ⟨g, fun _ _ => rfl, (vv0 g).symm, by simpa [did] using hS⟩
      · simp [execOp, go_sem, e0]
    | 1 =>
      simp only [List.getElem?_toArray, List.getElem?_cons_zero, List.getElem?_cons_succ, Option.some.injEq] at ho
      subst ho
      have p0 : b 0 = true := hd ⟨0, .data⟩ (by simp) rfl
      have e21 := (ev 0 21 rfl p0).trans (vv0 g)
      have n10 : b 10 = false := by
        cases h : b 10
        · rfl
        · rw [hcl 2 _ rfl (hcl 3 _ rfl (hcl 8 _ rfl (hcl 9 _ rfl (hcl 10 _ rfl (h) ⟨9, .data⟩ (by simp) rfl) ⟨8, .data⟩ (by simp) rfl) ⟨3, .data⟩ (by simp) rfl) ⟨2, .data⟩ (by simp) rfl) ⟨1, .data⟩ (by simp) rfl] at hb; cases hb
      refine doesg_value rfl (by intro c h; cases h) (v := .pointer (some ⟨gt, 0, none⟩)) (w' := W) ?_ ⟨g, fun _ _ => rfl, (vv1 g).symm, by simpa [did] using hS⟩
      · simp [execOp, go_sem, e21]
    | 2 =>
      simp only [List.getElem?_toArray, List.getElem?_cons_zero, List.getElem?_cons_succ, Option.some.injEq] at ho
      subst ho
      have p1 : b 1 = true := hd ⟨1, .data⟩ (by simp) rfl
      have e22 := (ev 1 22 rfl p1).trans (vv1 g)
      have n10 : b 10 = false := by
        cases h : b 10
        · rfl
        · rw [hcl 3 _ rfl (hcl 8 _ rfl (hcl 9 _ rfl (hcl 10 _ rfl (h) ⟨9, .data⟩ (by simp) rfl) ⟨8, .data⟩ (by simp) rfl) ⟨3, .data⟩ (by simp) rfl) ⟨2, .data⟩ (by simp) rfl] at hb; cases hb
      refine doesg_value rfl (by intro c h; cases h) (v := .pointer (some ⟨gt, 1, none⟩)) (w' := W) ?_ ⟨g, fun _ _ => rfl, (vv2 g).symm, by simpa [did] using hS⟩
      · simp [execOp, go_sem, e22]
    | 3 =>
      simp only [List.getElem?_toArray, List.getElem?_cons_zero, List.getElem?_cons_succ, Option.some.injEq] at ho
      subst ho
      have p2 : b 2 = true := hd ⟨2, .data⟩ (by simp) rfl
      have e23 := (ev 2 23 rfl p2).trans (vv2 g)
      have n10 : b 10 = false := by
        cases h : b 10
        · rfl
        · rw [hcl 8 _ rfl (hcl 9 _ rfl (hcl 10 _ rfl (h) ⟨9, .data⟩ (by simp) rfl) ⟨8, .data⟩ (by simp) rfl) ⟨3, .data⟩ (by simp) rfl] at hb; cases hb
      have hW : W = w9.drew := by simpa [n10] using hS
      have hl : W.cell? ⟨gt, 1, none⟩ = some (.slice (some ⟨g9, 0, none⟩) len cp) := by rw [hW]; exact g1
      refine doesg_value rfl (by intro c h; cases h) (v := .slice (some ⟨g9, 0, none⟩) len cp) (w' := W) ?_ ⟨g, fun _ _ => rfl, (vv3 g).symm, by simpa [did] using hS⟩
      · simp [execOp, go_sem, e23, hl]
    | 4 =>
      simp only [List.getElem?_toArray, List.getElem?_cons_zero, List.getElem?_cons_succ, Option.some.injEq] at ho
      subst ho
      have e0 : a.tmps[0]?.getD undef = .pointer (some ⟨gt, 0, none⟩) := (kp 0 (none_till (by kernel_rfl))).trans b0
      have n10 : b 10 = false := by
        cases h : b 10
        · rfl
        · rw [hcl 5 _ rfl (hcl 6 _ rfl (hcl 7 _ rfl (hcl 8 _ rfl (hcl 9 _ rfl (hcl 10 _ rfl (h) ⟨9, .data⟩ (by simp) rfl) ⟨8, .data⟩ (by simp) rfl) ⟨7, .data⟩ (by simp) rfl) ⟨6, .data⟩ (by simp) rfl) ⟨5, .data⟩ (by simp) rfl) ⟨4, .data⟩ (by simp) rfl] at hb; cases hb
      refine doesg_value rfl (by intro c h; cases h) (v := .pointer (some ⟨gt, 0, none⟩)) (w' := W) ?_ ⟨g, fun _ _ => rfl, (vv4 g).symm, by simpa [did] using hS⟩
      · simp [execOp, go_sem, e0]
    | 5 =>
      simp only [List.getElem?_toArray, List.getElem?_cons_zero, List.getElem?_cons_succ, Option.some.injEq] at ho
      subst ho
      have p4 : b 4 = true := hd ⟨4, .data⟩ (by simp) rfl
      have e25 := (ev 4 25 rfl p4).trans (vv4 g)
      have n10 : b 10 = false := by
        cases h : b 10
        · rfl
        · rw [hcl 6 _ rfl (hcl 7 _ rfl (hcl 8 _ rfl (hcl 9 _ rfl (hcl 10 _ rfl (h) ⟨9, .data⟩ (by simp) rfl) ⟨8, .data⟩ (by simp) rfl) ⟨7, .data⟩ (by simp) rfl) ⟨6, .data⟩ (by simp) rfl) ⟨5, .data⟩ (by simp) rfl] at hb; cases hb
      refine doesg_value rfl (by intro c h; cases h) (v := .pointer (some ⟨gt, 0, none⟩)) (w' := W) ?_ ⟨g, fun _ _ => rfl, (vv5 g).symm, by simpa [did] using hS⟩
      · simp [execOp, go_sem, e25]
    | 6 =>
      simp only [List.getElem?_toArray, List.getElem?_cons_zero, List.getElem?_cons_succ, Option.some.injEq] at ho
      subst ho
      have p5 : b 5 = true := hd ⟨5, .data⟩ (by simp) rfl
      have e26 := (ev 5 26 rfl p5).trans (vv5 g)
      have n10 : b 10 = false := by
        cases h : b 10
        · rfl
        · rw [hcl 7 _ rfl (hcl 8 _ rfl (hcl 9 _ rfl (hcl 10 _ rfl (h) ⟨9, .data⟩ (by simp) rfl) ⟨8, .data⟩ (by simp) rfl) ⟨7, .data⟩ (by simp) rfl) ⟨6, .data⟩ (by simp) rfl] at hb; cases hb
      refine doesg_value rfl (by intro c h; cases h) (v := .pointer (some ⟨gt, 2, none⟩)) (w' := W) ?_ ⟨g, fun _ _ => rfl, (vv6 g).symm, by simpa [did] using hS⟩
      · simp [execOp, go_sem, e26]
    | 7 =>
      simp only [List.getElem?_toArray, List.getElem?_cons_zero, List.getElem?_cons_succ, Option.some.injEq] at ho
      subst ho
      have p6 : b 6 = true := hd ⟨6, .data⟩ (by simp) rfl
      have e27 := (ev 6 27 rfl p6).trans (vv6 g)
      have n10 : b 10 = false := by
        cases h : b 10
        · rfl
        · rw [hcl 8 _ rfl (hcl 9 _ rfl (hcl 10 _ rfl (h) ⟨9, .data⟩ (by simp) rfl) ⟨8, .data⟩ (by simp) rfl) ⟨7, .data⟩ (by simp) rfl] at hb; cases hb
      have hW : W = w9.drew := by simpa [n10] using hS
      have hl : W.cell? ⟨gt, 2, none⟩ = some (.int .i64 (k : Nat)) := by rw [hW]; exact g2
      refine doesg_value rfl (by intro c h; cases h) (v := .int .i64 (k : Nat)) (w' := W) ?_ ⟨g, fun _ _ => rfl, (vv7 g).symm, by simpa [did] using hS⟩
      · simp [execOp, go_sem, e27, hl]
    | 8 =>
      simp only [List.getElem?_toArray, List.getElem?_cons_zero, List.getElem?_cons_succ, Option.some.injEq] at ho
      subst ho
      have p3 : b 3 = true := hd ⟨3, .data⟩ (by simp) rfl
      have p7 : b 7 = true := hd ⟨7, .data⟩ (by simp) rfl
      have e24 := (ev 3 24 rfl p3).trans (vv3 g)
      have e28 := (ev 7 28 rfl p7).trans (vv7 g)
      have n10 : b 10 = false := by
        cases h : b 10
        · rfl
        · rw [hcl 9 _ rfl (hcl 10 _ rfl (h) ⟨9, .data⟩ (by simp) rfl) ⟨8, .data⟩ (by simp) rfl] at hb; cases hb
      refine doesg_value rfl (by intro c h; cases h) (v := .pointer (some ⟨g9, k, none⟩)) (w' := W) ?_ ⟨g, fun _ _ => rfl, (vv8 g).symm, by simpa [did] using hS⟩
      · simp [execOp, go_sem, e24, e28, hk]
    | 9 =>
      simp only [List.getElem?_toArray, List.getElem?_cons_zero, List.getElem?_cons_succ, Option.some.injEq] at ho
      subst ho
      have p8 : b 8 = true := hd ⟨8, .data⟩ (by simp) rfl
      have e29 := (ev 8 29 rfl p8).trans (vv8 g)
      have n10 : b 10 = false := by
        cases h : b 10
        · rfl
        · rw [hcl 10 _ rfl (h) ⟨9, .data⟩ (by simp) rfl] at hb; cases hb
      have hW : W = w9.drew := by simpa [n10] using hS
      have hl : W.cell? ⟨g9, k, none⟩ = some (.pointer (some ⟨sb, 0, none⟩)) := by rw [hW]; exact r0
      refine doesg_value rfl (by intro c h; cases h) (v := .pointer (some ⟨sb, 0, none⟩)) (w' := W) ?_ ⟨g, fun _ _ => rfl, (vv9 g).symm, by simpa [did] using hS⟩
      · simp [execOp, go_sem, e29, hl]
    | 10 =>
      simp only [List.getElem?_toArray, List.getElem?_cons_zero, List.getElem?_cons_succ, Option.some.injEq] at ho
      subst ho
      have p9 : b 9 = true := hd ⟨9, .data⟩ (by simp) rfl
      have e30 := (ev 9 30 rfl p9).trans (vv9 g)
      have hS9 : W = w9.drew := by simpa [hb] using hS
      refine doesg_call rfl (by intro c h; cases h) (f := 61) (args := #[.pointer (some ⟨sb, 0, none⟩)]) ?_ ?_
      · simp [go_sem, e30]
      · refine (cK g W hS9).mono ?_
        rintro e W' ⟨x, rfl, hP⟩
        refine ⟨_, rfl, g, ?_, (vv10 g).symm, ?_⟩
        · exact fun _ _ => rfl
        · simpa [did] using hP
    | 11 =>
      simp only [List.getElem?_toArray, List.getElem?_cons_zero, List.getElem?_cons_succ, Option.some.injEq] at ho
      subst ho
      have p10 : b 10 = true := hd ⟨10, .data⟩ (by simp) rfl
      have e31 := (ev 10 31 rfl p10).trans (vv10 g)
      refine doesg_value rfl (by intro c h; cases h) (v := .bool (!rb)) (w' := W) ?_ ⟨g, fun _ _ => rfl, (vv11 g).symm, by simpa [did] using hS⟩
      · simp [execOp, go_sem, e31]
    | k + 12 => simp at ho
  · intro g b W hS hall
    have hl9 : b 10 = true := hall 10 (by decide)
    subst hLe
    exact hQ g W (by simpa [hl9] using hS)

set_option maxRecDepth 8000 in
set_option maxHeartbeats 4000000 in
theorem catch_r2 {Q : Exit → Act → World → Prop} {base : Array Value} {dd : List Deferred} {ops : Array Oper} (hops : Try.f34.body.bind (regs 2) = some ops) (gt len cp k : Nat) (p : Option Addr) (w9 : World) (hsz : base.size = 47)
    (b0 : base.getD 0 undef = .pointer (some ⟨gt, 0, none⟩))
    (g1 : w9.cell? ⟨gt, 1, none⟩ = some (.slice p len cp)) (g2 : w9.cell? ⟨gt, 2, none⟩ = some (.int .i64 (k : Nat)))
    (hQ : ∀ W, Below w9.heap.size w9 W → Q .normal ⟨putAll base [(some 11, .pointer (some ⟨gt, 0, none⟩)), (some 12, .pointer (some ⟨gt, 0, none⟩)), (some 13, .pointer (some ⟨gt, 2, none⟩)), (some 14, .int .i64 (k : Nat)), (some 15, .pointer (some ⟨gt, 0, none⟩)), (some 16, .pointer (some ⟨gt, 0, none⟩)), (some 17, .pointer (some ⟨gt, 1, none⟩)), (some 18, .slice p len cp), (some 19, .int .i64 (len : Nat)), (some 20, .bool (decide ((k : Int) < (len : Int))))], dd⟩ W) :
    (Code.region 2 ops true).wp Try.prog Q ⟨base, dd⟩ w9 := by
  have hmix : Try.prog.follows .mixedOrders = true := by kernel_rfl
  have h2 := (show Try.f34.body.bind (regs 2) = some _ from rfl).symm.trans hops
  obtain rfl := Option.some.inj h2
  clear h2 hops
  have below9 : Below w9.heap.size w9 w9.drew := (Below.refl _ _).drew
  obtain ⟨LL, hLe⟩ : ∃ LL : List (Option Tmp × Value), LL = [(some 11, .pointer (some ⟨gt, 0, none⟩)), (some 12, .pointer (some ⟨gt, 0, none⟩)), (some 13, .pointer (some ⟨gt, 2, none⟩)), (some 14, .int .i64 (k : Nat)), (some 15, .pointer (some ⟨gt, 0, none⟩)), (some 16, .pointer (some ⟨gt, 0, none⟩)), (some 17, .pointer (some ⟨gt, 1, none⟩)), (some 18, .slice p len cp), (some 19, .int .i64 (len : Nat)), (some 20, .bool (decide ((k : Int) < (len : Int))))] := ⟨_, rfl⟩
  have vv0 : vals LL 0 = .pointer (some ⟨gt, 0, none⟩) := by rw [hLe]; rfl
  have vv1 : vals LL 1 = .pointer (some ⟨gt, 0, none⟩) := by rw [hLe]; rfl
  have vv2 : vals LL 2 = .pointer (some ⟨gt, 2, none⟩) := by rw [hLe]; rfl
  have vv3 : vals LL 3 = .int .i64 (k : Nat) := by rw [hLe]; rfl
  have vv4 : vals LL 4 = .pointer (some ⟨gt, 0, none⟩) := by rw [hLe]; rfl
  have vv5 : vals LL 5 = .pointer (some ⟨gt, 0, none⟩) := by rw [hLe]; rfl
  have vv6 : vals LL 6 = .pointer (some ⟨gt, 1, none⟩) := by rw [hLe]; rfl
  have vv7 : vals LL 7 = .slice p len cp := by rw [hLe]; rfl
  have vv8 : vals LL 8 = .int .i64 (len : Nat) := by rw [hLe]; rfl
  have vv9 : vals LL 9 = .bool (decide ((k : Int) < (len : Int))) := by rw [hLe]; rfl
  refine region_laid hmix (by kernel_rfl) 47 hsz (by kernel_rfl) LL (by rw [hLe]; rfl) (fun _ W => Below w9.heap.size w9 W) below9 ?_ ?_
  · intro b W i o a hS hcl ho hb hd ev kp yl
    match i with
    | 0 =>
      simp only [List.getElem?_toArray, List.getElem?_cons_zero, Option.some.injEq] at ho
      subst ho
      have e0 : a.tmps[0]?.getD undef = .pointer (some ⟨gt, 0, none⟩) := (kp 0 (by kernel_rfl)).trans b0
      rw [vv0]
      refine does_value rfl (by intro c h; cases h) (w' := W) ?_ (hS)
      · simp [execOp, go_sem, e0]
    | 1 =>
      simp only [List.getElem?_toArray, List.getElem?_cons_zero, List.getElem?_cons_succ, Option.some.injEq] at ho
      subst ho
      have p0 : b 0 = true := hd ⟨0, .data⟩ (by simp) rfl
      have e11 := (ev 0 11 rfl p0).trans vv0
      rw [vv1]
      refine does_value rfl (by intro c h; cases h) (w' := W) ?_ (hS)
      · simp [execOp, go_sem, e11]
    | 2 =>
      simp only [List.getElem?_toArray, List.getElem?_cons_zero, List.getElem?_cons_succ, Option.some.injEq] at ho
      subst ho
      have p1 : b 1 = true := hd ⟨1, .data⟩ (by simp) rfl
      have e12 := (ev 1 12 rfl p1).trans vv1
      rw [vv2]
      refine does_value rfl (by intro c h; cases h) (w' := W) ?_ (hS)
      · simp [execOp, go_sem, e12]
    | 3 =>
      simp only [List.getElem?_toArray, List.getElem?_cons_zero, List.getElem?_cons_succ, Option.some.injEq] at ho
      subst ho
      have p2 : b 2 = true := hd ⟨2, .data⟩ (by simp) rfl
      have e13 := (ev 2 13 rfl p2).trans vv2
      have d2 := (hS.cell (p := ⟨gt, 2, none⟩) (cell_lt g2)).trans g2
      rw [vv3]
      refine does_value rfl (by intro c h; cases h) (w' := W) ?_ (hS)
      · simp [execOp, go_sem, e13, d2]
    | 4 =>
      simp only [List.getElem?_toArray, List.getElem?_cons_zero, List.getElem?_cons_succ, Option.some.injEq] at ho
      subst ho
      have e0 : a.tmps[0]?.getD undef = .pointer (some ⟨gt, 0, none⟩) := (kp 0 (by kernel_rfl)).trans b0
      rw [vv4]
      refine does_value rfl (by intro c h; cases h) (w' := W) ?_ (hS)
      · simp [execOp, go_sem, e0]
    | 5 =>
      simp only [List.getElem?_toArray, List.getElem?_cons_zero, List.getElem?_cons_succ, Option.some.injEq] at ho
      subst ho
      have p4 : b 4 = true := hd ⟨4, .data⟩ (by simp) rfl
      have e15 := (ev 4 15 rfl p4).trans vv4
      rw [vv5]
      refine does_value rfl (by intro c h; cases h) (w' := W) ?_ (hS)
      · simp [execOp, go_sem, e15]
    | 6 =>
      simp only [List.getElem?_toArray, List.getElem?_cons_zero, List.getElem?_cons_succ, Option.some.injEq] at ho
      subst ho
      have p5 : b 5 = true := hd ⟨5, .data⟩ (by simp) rfl
      have e16 := (ev 5 16 rfl p5).trans vv5
      rw [vv6]
      refine does_value rfl (by intro c h; cases h) (w' := W) ?_ (hS)
      · simp [execOp, go_sem, e16]
    | 7 =>
      simp only [List.getElem?_toArray, List.getElem?_cons_zero, List.getElem?_cons_succ, Option.some.injEq] at ho
      subst ho
      have p6 : b 6 = true := hd ⟨6, .data⟩ (by simp) rfl
      have e17 := (ev 6 17 rfl p6).trans vv6
      have d1 := (hS.cell (p := ⟨gt, 1, none⟩) (cell_lt g1)).trans g1
      rw [vv7]
      refine does_value rfl (by intro c h; cases h) (w' := W) ?_ (hS)
      · simp [execOp, go_sem, e17, d1]
    | 8 =>
      simp only [List.getElem?_toArray, List.getElem?_cons_zero, List.getElem?_cons_succ, Option.some.injEq] at ho
      subst ho
      have p7 : b 7 = true := hd ⟨7, .data⟩ (by simp) rfl
      have e18 := (ev 7 18 rfl p7).trans vv7
      rw [vv8]
      refine does_value rfl (by intro c h; cases h) (w' := W) ?_ (hS)
      · simp [go_sem, e18]
    | 9 =>
      simp only [List.getElem?_toArray, List.getElem?_cons_zero, List.getElem?_cons_succ, Option.some.injEq] at ho
      subst ho
      have p3 : b 3 = true := hd ⟨3, .data⟩ (by simp) rfl
      have p8 : b 8 = true := hd ⟨8, .data⟩ (by simp) rfl
      have e14 := (ev 3 14 rfl p3).trans vv3
      have e19 := (ev 8 19 rfl p8).trans vv8
      rw [vv9]
      refine does_value rfl (by intro c h; cases h) (w' := W) ?_ (hS)
      · simp [execOp, go_sem, e14, e19]
    | k + 10 => simp at ho
  · intro b' W hS _
    subst hLe
    exact hQ W hS

set_option maxRecDepth 8000 in
set_option maxHeartbeats 4000000 in
theorem look_r4 {Q : Exit → Act → World → Prop} {base : Array Value} {dd : List Deferred} {ops : Array Oper} (hops : Try.f31.body.bind (regs 4) = some ops) (gt bx mb : Nat) (t n : Int) (v : Value) (w9 : World) (hsz : base.size = 15)
    (b0 : base.getD 0 undef = .pointer (some ⟨gt, 0, none⟩))
    (b3 : base.getD 3 undef = .pointer (some ⟨bx, 0, none⟩))
    (g0 : w9.cell? ⟨gt, 0, none⟩ = some (.map (some mb))) (x0 : w9.cell? ⟨bx, 0, none⟩ = some (.int .i64 t)) (x1 : w9.cell? ⟨bx, 1, none⟩ = some (.int .i64 n))
    (hl : ∀ W, Below w9.heap.size w9 W → (Instr.lookup 49 (.map (some mb)) (idv t n) false).run Try.prog W = .ok (v) W)
    (hQ : ∀ W, Below w9.heap.size w9 W → Q .normal ⟨putAll base [(some 9, .pointer (some ⟨gt, 0, none⟩)), (some 10, .pointer (some ⟨gt, 0, none⟩)), (some 11, .pointer (some ⟨gt, 0, none⟩)), (some 12, .map (some mb)), (some 13, .agg #[.int .i64 t, .int .i64 n]), (some 14, v), (some 4, v)], dd⟩ W) :
    (Code.region 4 ops true).wp Try.prog Q ⟨base, dd⟩ w9 := by
  have hmix : Try.prog.follows .mixedOrders = true := by kernel_rfl
  have h2 := (show Try.f31.body.bind (regs 4) = some _ from rfl).symm.trans hops
  obtain rfl := Option.some.inj h2
  clear h2 hops
  have below9 : Below w9.heap.size w9 w9.drew := (Below.refl _ _).drew
  obtain ⟨LL, hLe⟩ : ∃ LL : List (Option Tmp × Value), LL = [(some 9, .pointer (some ⟨gt, 0, none⟩)), (some 10, .pointer (some ⟨gt, 0, none⟩)), (some 11, .pointer (some ⟨gt, 0, none⟩)), (some 12, .map (some mb)), (some 13, .agg #[.int .i64 t, .int .i64 n]), (some 14, v), (some 4, v)] := ⟨_, rfl⟩
  have vv0 : vals LL 0 = .pointer (some ⟨gt, 0, none⟩) := by rw [hLe]; rfl
  have vv1 : vals LL 1 = .pointer (some ⟨gt, 0, none⟩) := by rw [hLe]; rfl
  have vv2 : vals LL 2 = .pointer (some ⟨gt, 0, none⟩) := by rw [hLe]; rfl
  have vv3 : vals LL 3 = .map (some mb) := by rw [hLe]; rfl
  have vv4 : vals LL 4 = .agg #[.int .i64 t, .int .i64 n] := by rw [hLe]; rfl
  have vv5 : vals LL 5 = v := by rw [hLe]; rfl
  have vv6 : vals LL 6 = v := by rw [hLe]; rfl
  refine region_laid hmix (by kernel_rfl) 15 hsz (by kernel_rfl) LL (by rw [hLe]; rfl) (fun _ W => Below w9.heap.size w9 W) below9 ?_ ?_
  · intro b W i o a hS hcl ho hb hd ev kp yl
    match i with
    | 0 =>
      simp only [List.getElem?_toArray, List.getElem?_cons_zero, Option.some.injEq] at ho
      subst ho
      have e0 : a.tmps[0]?.getD undef = .pointer (some ⟨gt, 0, none⟩) := (kp 0 (by kernel_rfl)).trans b0
      rw [vv0]
      refine does_value rfl (by intro c h; cases h) (w' := W) ?_ (hS)
      · simp [execOp, go_sem, e0]
    | 1 =>
      simp only [List.getElem?_toArray, List.getElem?_cons_zero, List.getElem?_cons_succ, Option.some.injEq] at ho
      subst ho
      have p0 : b 0 = true := hd ⟨0, .data⟩ (by simp) rfl
      have e9 := (ev 0 9 rfl p0).trans vv0
      rw [vv1]
      refine does_value rfl (by intro c h; cases h) (w' := W) ?_ (hS)
      · simp [execOp, go_sem, e9]
    | 2 =>
      simp only [List.getElem?_toArray, List.getElem?_cons_zero, List.getElem?_cons_succ, Option.some.injEq] at ho
      subst ho
      have p1 : b 1 = true := hd ⟨1, .data⟩ (by simp) rfl
      have e10 := (ev 1 10 rfl p1).trans vv1
      rw [vv2]
      refine does_value rfl (by intro c h; cases h) (w' := W) ?_ (hS)
      · simp [execOp, go_sem, e10]
    | 3 =>
      simp only [List.getElem?_toArray, List.getElem?_cons_zero, List.getElem?_cons_succ, Option.some.injEq] at ho
      subst ho
      have p2 : b 2 = true := hd ⟨2, .data⟩ (by simp) rfl
      have e11 := (ev 2 11 rfl p2).trans vv2
      have d0 := (hS.cell (p := ⟨gt, 0, none⟩) (cell_lt g0)).trans g0
      rw [vv3]
      refine does_value rfl (by intro c h; cases h) (w' := W) ?_ (hS)
      · simp [execOp, go_sem, e11, d0]
    | 4 =>
      simp only [List.getElem?_toArray, List.getElem?_cons_zero, List.getElem?_cons_succ, Option.some.injEq] at ho
      subst ho
      have e3 : a.tmps[3]?.getD undef = .pointer (some ⟨bx, 0, none⟩) := (kp 3 (by kernel_rfl)).trans b3
      have d0 := (hS.cell (p := ⟨bx, 0, none⟩) (cell_lt x0)).trans x0
      have d1 := (hS.cell (p := ⟨bx, 1, none⟩) (cell_lt x1)).trans x1
      rw [vv4]
      refine does_value rfl (by intro c h; cases h) (w' := W) ?_ (hS)
      · simp [execOp, go_sem, e3, d0, d1]
    | 5 =>
      simp only [List.getElem?_toArray, List.getElem?_cons_zero, List.getElem?_cons_succ, Option.some.injEq] at ho
      subst ho
      have p3 : b 3 = true := hd ⟨3, .data⟩ (by simp) rfl
      have p4 : b 4 = true := hd ⟨4, .data⟩ (by simp) rfl
      have e12 := (ev 3 12 rfl p3).trans vv3
      have e13 := (ev 4 13 rfl p4).trans vv4
      rw [vv5]
      refine does_value rfl (by intro c h; cases h) (w' := W) ?_ (hS)
      · simp [execOp, go_sem, e12, e13, hl W hS]
    | 6 =>
      simp only [List.getElem?_toArray, List.getElem?_cons_zero, List.getElem?_cons_succ, Option.some.injEq] at ho
      subst ho
      have p5 : b 5 = true := hd ⟨5, .data⟩ (by simp) rfl
      have e14 := (ev 5 14 rfl p5).trans vv5
      rw [vv6]
      refine does_value rfl (by intro c h; cases h) (w' := W) ?_ (hS)
      · simp [execOp, go_sem, e14]
    | k + 7 => simp at ho
  · intro b' W hS _
    subst hLe
    exact hQ W hS

set_option maxRecDepth 8000 in
set_option maxHeartbeats 4000000 in
theorem apply_r3 {Q : Exit → Act → World → Prop} {base : Array Value} {dd : List Deferred} {ops : Array Oper} (hops : Try.f10.body.bind (regs 3) = some ops) (gt bx len cp i0 : Nat) (r0 : Bool) (p : Option Addr) (t n : Int) (w9 : World) (hsz : base.size = 51)
    (b0 : base.getD 0 undef = .pointer (some ⟨gt, 0, none⟩))
    (b3 : base.getD 3 undef = .pointer (some ⟨bx, 0, none⟩))
    (g1 : w9.cell? ⟨gt, 1, none⟩ = some (.slice p len cp)) (x0 : w9.cell? ⟨bx, 0, none⟩ = some (.int .i64 t)) (x1 : w9.cell? ⟨bx, 1, none⟩ = some (.int .i64 n))
    (cK : ∀ W, Below w9.heap.size w9 W → Calls Try.prog 26 #[.slice p len cp, idv t n, .func (.func 27) #[] #[]] W fun e w' => e = .returned (.tuple #[.int .i64 (i0 : Nat), .bool r0]) ∧ Below W.heap.size W w')
    (hQ : ∀ W, Below w9.heap.size w9 W → Q .normal ⟨putAll base [(some 17, .pointer (some ⟨gt, 0, none⟩)), (some 18, .pointer (some ⟨gt, 0, none⟩)), (some 19, .pointer (some ⟨gt, 1, none⟩)), (some 20, .slice p len cp), (some 21, .pointer (some ⟨bx, 0, none⟩)), (some 22, .agg #[.int .i64 t, .int .i64 n]), (some 23, .tuple #[.int .i64 (i0 : Nat), .bool r0]), (some 16, .tuple #[.int .i64 (i0 : Nat), .bool r0]), (some 24, .int .i64 (i0 : Nat)), (some 25, .bool r0), (some 6, .int .i64 (i0 : Nat)), (some 7, .bool r0)], dd⟩ W) :
    (Code.region 3 ops true).wp Try.prog Q ⟨base, dd⟩ w9 := by
  have hmix : Try.prog.follows .mixedOrders = true := by kernel_rfl
  have h2 := (show Try.f10.body.bind (regs 3) = some _ from rfl).symm.trans hops
  obtain rfl := Option.some.inj h2
  clear h2 hops
  have below9 : Below w9.heap.size w9 w9.drew := (Below.refl _ _).drew
  obtain ⟨LL, hLe⟩ : ∃ LL : List (Option Tmp × Value), LL = [(some 17, .pointer (some ⟨gt, 0, none⟩)), (some 18, .pointer (some ⟨gt, 0, none⟩)), (some 19, .pointer (some ⟨gt, 1, none⟩)), (some 20, .slice p len cp), (some 21, .pointer (some ⟨bx, 0, none⟩)), (some 22, .agg #[.int .i64 t, .int .i64 n]), (some 23, .tuple #[.int .i64 (i0 : Nat), .bool r0]), (some 16, .tuple #[.int .i64 (i0 : Nat), .bool r0]), (some 24, .int .i64 (i0 : Nat)), (some 25, .bool r0), (some 6, .int .i64 (i0 : Nat)), (some 7, .bool r0)] := ⟨_, rfl⟩
  have vv0 : vals LL 0 = .pointer (some ⟨gt, 0, none⟩) := by rw [hLe]; rfl
  have vv1 : vals LL 1 = .pointer (some ⟨gt, 0, none⟩) := by rw [hLe]; rfl
  have vv2 : vals LL 2 = .pointer (some ⟨gt, 1, none⟩) := by rw [hLe]; rfl
  have vv3 : vals LL 3 = .slice p len cp := by rw [hLe]; rfl
  have vv4 : vals LL 4 = .pointer (some ⟨bx, 0, none⟩) := by rw [hLe]; rfl
  have vv5 : vals LL 5 = .agg #[.int .i64 t, .int .i64 n] := by rw [hLe]; rfl
  have vv6 : vals LL 6 = .tuple #[.int .i64 (i0 : Nat), .bool r0] := by rw [hLe]; rfl
  have vv7 : vals LL 7 = .tuple #[.int .i64 (i0 : Nat), .bool r0] := by rw [hLe]; rfl
  have vv8 : vals LL 8 = .int .i64 (i0 : Nat) := by rw [hLe]; rfl
  have vv9 : vals LL 9 = .bool r0 := by rw [hLe]; rfl
  have vv10 : vals LL 10 = .int .i64 (i0 : Nat) := by rw [hLe]; rfl
  have vv11 : vals LL 11 = .bool r0 := by rw [hLe]; rfl
  refine region_laid hmix (by kernel_rfl) 51 hsz (by kernel_rfl) LL (by rw [hLe]; rfl) (fun _ W => Below w9.heap.size w9 W) below9 ?_ ?_
  · intro b W i o a hS hcl ho hb hd ev kp yl
    match i with
    | 0 =>
      simp only [List.getElem?_toArray, List.getElem?_cons_zero, Option.some.injEq] at ho
      subst ho
      have e0 : a.tmps[0]?.getD undef = .pointer (some ⟨gt, 0, none⟩) := (kp 0 (by kernel_rfl)).trans b0
      rw [vv0]
      refine does_value rfl (by intro c h; cases h) (w' := W) ?_ (hS)
      · simp [execOp, go_sem, e0]
    | 1 =>
      simp only [List.getElem?_toArray, List.getElem?_cons_zero, List.getElem?_cons_succ, Option.some.injEq] at ho
      subst ho
      have p0 : b 0 = true := hd ⟨0, .data⟩ (by simp) rfl
      have e17 := (ev 0 17 rfl p0).trans vv0
      rw [vv1]
      refine does_value rfl (by intro c h; cases h) (w' := W) ?_ (hS)
      · simp [execOp, go_sem, e17]
    | 2 =>
      simp only [List.getElem?_toArray, List.getElem?_cons_zero, List.getElem?_cons_succ, Option.some.injEq] at ho
      subst ho
      have p1 : b 1 = true := hd ⟨1, .data⟩ (by simp) rfl
      have e18 := (ev 1 18 rfl p1).trans vv1
      rw [vv2]
      refine does_value rfl (by intro c h; cases h) (w' := W) ?_ (hS)
      · simp [execOp, go_sem, e18]
    | 3 =>
      simp only [List.getElem?_toArray, List.getElem?_cons_zero, List.getElem?_cons_succ, Option.some.injEq] at ho
      subst ho
      have p2 : b 2 = true := hd ⟨2, .data⟩ (by simp) rfl
      have e19 := (ev 2 19 rfl p2).trans vv2
      have d1 := (hS.cell (p := ⟨gt, 1, none⟩) (cell_lt g1)).trans g1
      rw [vv3]
      refine does_value rfl (by intro c h; cases h) (w' := W) ?_ (hS)
      · simp [execOp, go_sem, e19, d1]
    | 4 =>
      simp only [List.getElem?_toArray, List.getElem?_cons_zero, List.getElem?_cons_succ, Option.some.injEq] at ho
      subst ho
      have e3 : a.tmps[3]?.getD undef = .pointer (some ⟨bx, 0, none⟩) := (kp 3 (by kernel_rfl)).trans b3
      rw [vv4]
      refine does_value rfl (by intro c h; cases h) (w' := W) ?_ (hS)
      · simp [execOp, go_sem, e3]
    | 5 =>
      simp only [List.getElem?_toArray, List.getElem?_cons_zero, List.getElem?_cons_succ, Option.some.injEq] at ho
      subst ho
      have p4 : b 4 = true := hd ⟨4, .data⟩ (by simp) rfl
      have e21 := (ev 4 21 rfl p4).trans vv4
      have d0 := (hS.cell (p := ⟨bx, 0, none⟩) (cell_lt x0)).trans x0
      have d1 := (hS.cell (p := ⟨bx, 1, none⟩) (cell_lt x1)).trans x1
      rw [vv5]
      refine does_value rfl (by intro c h; cases h) (w' := W) ?_ (hS)
      · simp [execOp, go_sem, e21, d0, d1]
    | 6 =>
      simp only [List.getElem?_toArray, List.getElem?_cons_zero, List.getElem?_cons_succ, Option.some.injEq] at ho
      subst ho
      have p3 : b 3 = true := hd ⟨3, .data⟩ (by simp) rfl
      have p5 : b 5 = true := hd ⟨5, .data⟩ (by simp) rfl
      have e20 := (ev 3 20 rfl p3).trans vv3
      have e22 := (ev 5 22 rfl p5).trans vv5
      rw [vv6]
      refine does_call rfl (by intro c h; cases h) (f := 26) (args := #[.slice p len cp, .agg #[.int .i64 t, .int .i64 n], .func (.func 27) #[] #[]]) ?_ ?_
      · simp [go_sem, e20, e22]
      · exact (cK W hS).mono (fun e w' h => ⟨h.1, hS.trans (h.2.mono hS.size)⟩)
    | 7 =>
      simp only [List.getElem?_toArray, List.getElem?_cons_zero, List.getElem?_cons_succ, Option.some.injEq] at ho
      subst ho
      have p6 : b 6 = true := hd ⟨6, .data⟩ (by simp) rfl
      have e23 := (ev 6 23 rfl p6).trans vv6
      rw [vv7]
      refine does_value rfl (by intro c h; cases h) (w' := W) ?_ (hS)
      · simp [execOp, go_sem, e23]
    | 8 =>
      simp only [List.getElem?_toArray, List.getElem?_cons_zero, List.getElem?_cons_succ, Option.some.injEq] at ho
      subst ho
      have p7 : b 7 = true := hd ⟨7, .data⟩ (by simp) rfl
      have e16 := (ev 7 16 rfl p7).trans vv7
      rw [vv8]
      refine does_value rfl (by intro c h; cases h) (w' := W) ?_ (hS)
      · simp [execOp, go_sem, e16]
    | 9 =>
      simp only [List.getElem?_toArray, List.getElem?_cons_zero, List.getElem?_cons_succ, Option.some.injEq] at ho
      subst ho
      have p7 : b 7 = true := hd ⟨7, .data⟩ (by simp) rfl
      have e16 := (ev 7 16 rfl p7).trans vv7
      rw [vv9]
      refine does_value rfl (by intro c h; cases h) (w' := W) ?_ (hS)
      · simp [execOp, go_sem, e16]
    | 10 =>
      simp only [List.getElem?_toArray, List.getElem?_cons_zero, List.getElem?_cons_succ, Option.some.injEq] at ho
      subst ho
      have p8 : b 8 = true := hd ⟨8, .data⟩ (by simp) rfl
      have e24 := (ev 8 24 rfl p8).trans vv8
      rw [vv10]
      refine does_value rfl (by intro c h; cases h) (w' := W) ?_ (hS)
      · simp [execOp, go_sem, e24]
    | 11 =>
      simp only [List.getElem?_toArray, List.getElem?_cons_zero, List.getElem?_cons_succ, Option.some.injEq] at ho
      subst ho
      have p9 : b 9 = true := hd ⟨9, .data⟩ (by simp) rfl
      have e25 := (ev 9 25 rfl p9).trans vv9
      rw [vv11]
      refine does_value rfl (by intro c h; cases h) (w' := W) ?_ (hS)
      · simp [execOp, go_sem, e25]
    | k + 12 => simp at ho
  · intro b' W hS _
    subst hLe
    exact hQ W hS

end Go.Proofs.Ytgpbphjplbhfmaa.Ck.Y
