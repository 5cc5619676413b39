/-
  The document's own cache: the drawn regions of hold and use.
-/
import Derived.Test.YtlcojcldbdikgaaGreatDoorSb
namespace Go.Proofs.YtlcojcldbdikgaaGreatDoor.Rc
open Go.RowKit

/-- A region of a body, by its number. -/
def regs (n : Nat) : Code → Option (Array Oper)
  | .region k ops _ => if k = n then some ops else none
  | .seq a b => match regs n a with | some x => some x | none => regs n b
  | .cond _ a b => match regs n a with | some x => some x | none => regs n b
  | .block _ b => regs n b
  | .loop b => regs n b
  | .scope b => regs n b
  | .rangeFunc _ _ a b => match regs n a with | some x => some x | none => regs n b
  | _ => none

set_option maxRecDepth 8000 in
set_option maxHeartbeats 4000000 in
theorem hold_reg4 {Q : Exit → Act → World → Prop} {base : Array Value} {d : List Deferred} {ops : Array Oper} (hops : Tryz.f58.body.bind (regs 4) = some ops) (r n cq rm : Nat) (q : Option Addr) (res : Bool) (w1 : World) (hsz : base.size = 130)
    (b0 : base.getD 0 undef = .pointer (some ⟨r, 0, none⟩)) (c2 : w1.cell? ⟨r, 2, none⟩ = some (.slice q n cq)) (c1 : w1.cell? ⟨r, 1, none⟩ = some (.int .i64 (rm : Nat))) (hres : decide (rm ≤ n) = res)
    (hQ : ∀ W, Below w1.heap.size w1 W → Q .normal ⟨putAll base [(some 15, .pointer (some ⟨r, 0, none⟩)), (some 16, .pointer (some ⟨r, 0, none⟩)), (some 17, .pointer (some ⟨r, 2, none⟩)), (some 18, .slice q n cq), (some 19, .int .i64 (n : Nat)), (some 20, .pointer (some ⟨r, 0, none⟩)), (some 21, .pointer (some ⟨r, 0, none⟩)), (some 22, .pointer (some ⟨r, 1, none⟩)), (some 23, .int .i64 (rm : Nat)), (some 24, .bool res)], d⟩ W) :
    (Code.region 4 ops true).wp Tryz.prog Q ⟨base, d⟩ w1 := by
  have hmix : Tryz.prog.follows .mixedOrders = true := by kernel_rfl
  have h2 := (show Tryz.f58.body.bind (regs 4) = some _ from rfl).symm.trans hops
  obtain rfl := Option.some.inj h2
  clear h2 hops
  have below1 : Below w1.heap.size w1 w1.drew := (Below.refl _ _).drew
  obtain ⟨LL, hLe⟩ : ∃ LL : List (Option Tmp × Value), LL = [(some 15, .pointer (some ⟨r, 0, none⟩)), (some 16, .pointer (some ⟨r, 0, none⟩)), (some 17, .pointer (some ⟨r, 2, none⟩)), (some 18, .slice q n cq), (some 19, .int .i64 (n : Nat)), (some 20, .pointer (some ⟨r, 0, none⟩)), (some 21, .pointer (some ⟨r, 0, none⟩)), (some 22, .pointer (some ⟨r, 1, none⟩)), (some 23, .int .i64 (rm : Nat)), (some 24, .bool res)] := ⟨_, rfl⟩
  have vv0 : vals LL 0 = .pointer (some ⟨r, 0, none⟩) := by rw [hLe]; rfl
  have vv1 : vals LL 1 = .pointer (some ⟨r, 0, none⟩) := by rw [hLe]; rfl
  have vv2 : vals LL 2 = .pointer (some ⟨r, 2, none⟩) := by rw [hLe]; rfl
  have vv3 : vals LL 3 = .slice q n cq := by rw [hLe]; rfl
  have vv4 : vals LL 4 = .int .i64 (n : Nat) := by rw [hLe]; rfl
  have vv5 : vals LL 5 = .pointer (some ⟨r, 0, none⟩) := by rw [hLe]; rfl
  have vv6 : vals LL 6 = .pointer (some ⟨r, 0, none⟩) := by rw [hLe]; rfl
  have vv7 : vals LL 7 = .pointer (some ⟨r, 1, none⟩) := by rw [hLe]; rfl
  have vv8 : vals LL 8 = .int .i64 (rm : Nat) := by rw [hLe]; rfl
  have vv9 : vals LL 9 = .bool res := by rw [hLe]; rfl
  refine region_laid hmix (by kernel_rfl) 130 hsz (by kernel_rfl) LL (by rw [hLe]; rfl) (fun _ W => Below w1.heap.size w1 W) below1 ?_ ?_
  · intro b W i o a hS hcl ho hb hd ev kp yl
    match i with
    | 0 =>
      simp only [List.getElem?_toArray, List.getElem?_cons_zero, Option.some.injEq] at ho
      subst ho
      have e0 : a.tmps[0]?.getD undef = .pointer (some ⟨r, 0, none⟩) := (kp 0 (by kernel_rfl)).trans b0
      rw [vv0]
      refine does_value rfl (by intro c h; cases h) (w' := W) ?_ (hS)
      · simp [execOp, go_sem, e0]
    | 1 =>
      simp only [List.getElem?_toArray, List.getElem?_cons_zero, List.getElem?_cons_succ, Option.some.injEq] at ho
      subst ho
      have p0 : b 0 = true := hd ⟨0, .data⟩ (by simp) rfl
      have e15 := (ev 0 15 rfl p0).trans vv0
      rw [vv1]
      refine does_value rfl (by intro c h; cases h) (w' := W) ?_ (hS)
      · simp [execOp, go_sem, e15]
    | 2 =>
      simp only [List.getElem?_toArray, List.getElem?_cons_zero, List.getElem?_cons_succ, Option.some.injEq] at ho
      subst ho
      have p1 : b 1 = true := hd ⟨1, .data⟩ (by simp) rfl
      have e16 := (ev 1 16 rfl p1).trans vv1
      rw [vv2]
      refine does_value rfl (by intro c h; cases h) (w' := W) ?_ (hS)
      · simp [execOp, go_sem, e16]
    | 3 =>
      simp only [List.getElem?_toArray, List.getElem?_cons_zero, List.getElem?_cons_succ, Option.some.injEq] at ho
      subst ho
      have p2 : b 2 = true := hd ⟨2, .data⟩ (by simp) rfl
      have e17 := (ev 2 17 rfl p2).trans vv2
      have hl := (hS.cell (p := ⟨r, 2, none⟩) (cell_lt c2)).trans c2
      rw [vv3]
      refine does_value rfl (by intro c h; cases h) (w' := W) ?_ (hS)
      · simp [execOp, go_sem, e17, hl]
    | 4 =>
      simp only [List.getElem?_toArray, List.getElem?_cons_zero, List.getElem?_cons_succ, Option.some.injEq] at ho
      subst ho
      have p3 : b 3 = true := hd ⟨3, .data⟩ (by simp) rfl
      have e18 := (ev 3 18 rfl p3).trans vv3
      rw [vv4]
      refine does_value rfl (by intro c h; cases h) (w' := W) ?_ (hS)
      · simp [go_sem, e18]
    | 5 =>
      simp only [List.getElem?_toArray, List.getElem?_cons_zero, List.getElem?_cons_succ, Option.some.injEq] at ho
      subst ho
      have e0 : a.tmps[0]?.getD undef = .pointer (some ⟨r, 0, none⟩) := (kp 0 (by kernel_rfl)).trans b0
      rw [vv5]
      refine does_value rfl (by intro c h; cases h) (w' := W) ?_ (hS)
      · simp [execOp, go_sem, e0]
    | 6 =>
      simp only [List.getElem?_toArray, List.getElem?_cons_zero, List.getElem?_cons_succ, Option.some.injEq] at ho
      subst ho
      have p5 : b 5 = true := hd ⟨5, .data⟩ (by simp) rfl
      have e20 := (ev 5 20 rfl p5).trans vv5
      rw [vv6]
      refine does_value rfl (by intro c h; cases h) (w' := W) ?_ (hS)
      · simp [execOp, go_sem, e20]
    | 7 =>
      simp only [List.getElem?_toArray, List.getElem?_cons_zero, List.getElem?_cons_succ, Option.some.injEq] at ho
      subst ho
      have p6 : b 6 = true := hd ⟨6, .data⟩ (by simp) rfl
      have e21 := (ev 6 21 rfl p6).trans vv6
      rw [vv7]
      refine does_value rfl (by intro c h; cases h) (w' := W) ?_ (hS)
      · simp [execOp, go_sem, e21]
    | 8 =>
      simp only [List.getElem?_toArray, List.getElem?_cons_zero, List.getElem?_cons_succ, Option.some.injEq] at ho
      subst ho
      have p7 : b 7 = true := hd ⟨7, .data⟩ (by simp) rfl
      have e22 := (ev 7 22 rfl p7).trans vv7
      have hl := (hS.cell (p := ⟨r, 1, none⟩) (cell_lt c1)).trans c1
      rw [vv8]
      refine does_value rfl (by intro c h; cases h) (w' := W) ?_ (hS)
      · simp [execOp, go_sem, e22, hl]
    | 9 =>
      simp only [List.getElem?_toArray, List.getElem?_cons_zero, List.getElem?_cons_succ, Option.some.injEq] at ho
      subst ho
      have p4 : b 4 = true := hd ⟨4, .data⟩ (by simp) rfl
      have p8 : b 8 = true := hd ⟨8, .data⟩ (by simp) rfl
      have e19 := (ev 4 19 rfl p4).trans vv4
      have e23 := (ev 8 23 rfl p8).trans vv8
      rw [vv9]
      refine does_value rfl (by intro c h; cases h) (w' := W) ?_ (hS)
      · simp [execOp, go_sem, e19, e23, hres]
    | k + 10 => simp at ho
  · intro b' W hS _
    subst hLe
    exact hQ W hS

set_option maxRecDepth 8000 in
set_option maxHeartbeats 4000000 in
theorem hold_reg9 {Q : Exit → Act → World → Prop} {base : Array Value} {d : List Deferred} {ops : Array Oper} (hops : Tryz.f58.body.bind (regs 9) = some ops) (r gr n cq ix pn ui : Nat) (dirty : Bool) (out : Int) (res : Bool) (w1 : World) (hsz : base.size = 130)
    (b0 : base.getD 0 undef = .pointer (some ⟨r, 0, none⟩)) (b6 : base.getD 6 undef = .int .i64 out) (b7 : base.getD 7 undef = .int .i64 (ix : Nat))
    (c2 : w1.cell? ⟨r, 2, none⟩ = some (.slice (some ⟨gr, 0, none⟩) n cq)) (hlt : ix < n) (d1 : w1.cell? ⟨gr, ix * 5 + 1, none⟩ = some (.int .i64 (pn : Nat))) (d3 : w1.cell? ⟨gr, ix * 5 + 3, none⟩ = some (.bool dirty)) (d2 : w1.cell? ⟨gr, ix * 5 + 2, none⟩ = some (.int .i64 (ui : Nat)))
    (hcase : (¬ pn = 0 ∧ res = false) ∨ (pn = 0 ∧ dirty = true ∧ res = false) ∨ (pn = 0 ∧ dirty = false ∧ out = -1 ∧ res = true) ∨ (pn = 0 ∧ dirty = false ∧ ∃ j uj : Nat, out = (j : Nat) ∧ j < n ∧ w1.cell? ⟨gr, j * 5 + 2, none⟩ = some (.int .i64 (uj : Nat)) ∧ decide (ui < uj) = res))
    (hQ : ∀ u34 u35 u36 u37 u38 u39 u40 u41 u42 u43 u44 u45 u46 u47 u48 u49 u50 u51 u52 u53 u54 u55 u56 u57 u58 u59 u60 u61 u62 u63 u64 u65 u66 u67 u68 u69 u70 u71 u72 u73 u74 u75 W, Below w1.heap.size w1 W → Q .normal ⟨putAll base [(some 34, u34), (some 35, u35), (some 36, u36), (some 37, u37), (some 38, u38), (some 39, u39), (some 40, u40), (some 41, u41), (some 42, u42), (some 43, u43), (some 44, u44), (some 45, u45), (some 46, u46), (some 47, u47), (some 48, u48), (some 49, u49), (some 50, u50), (some 51, u51), (some 52, u52), (some 53, u53), (some 54, u54), (some 55, u55), (some 56, u56), (some 57, u57), (some 58, u58), (some 59, u59), (some 60, u60), (some 61, u61), (some 62, u62), (some 63, u63), (some 64, u64), (some 65, u65), (some 66, u66), (some 67, u67), (some 68, u68), (some 69, u69), (some 70, u70), (some 71, u71), (some 72, u72), (some 73, u73), (some 74, u74), (some 75, u75), (some 76, .bool res)], d⟩ W) :
    (Code.region 9 ops true).wp Tryz.prog Q ⟨base, d⟩ w1 := by
  have hmix : Tryz.prog.follows .mixedOrders = true := by kernel_rfl
  have h2 := (show Tryz.f58.body.bind (regs 9) = some _ from rfl).symm.trans hops
  obtain rfl := Option.some.inj h2
  clear h2 hops
  have below1 : Below w1.heap.size w1 w1.drew := (Below.refl _ _).drew
  rcases hcase with ⟨hp, rfl⟩ | ⟨hp, hd, rfl⟩ | ⟨hp, hd, ho, rfl⟩ | ⟨hp, hd, j, uj, ho, hjn, dj, hless⟩
  · have hpn : ((pn : Int) == 0) = false := by simp; omega
    obtain ⟨LL, hLe⟩ : ∃ LL : List (Option Tmp × Value), LL = [(some 34, .pointer (some ⟨r, 0, none⟩)), (some 35, .pointer (some ⟨r, 0, none⟩)), (some 36, .pointer (some ⟨r, 2, none⟩)), (some 37, .slice (some ⟨gr, 0, none⟩) n cq), (some 38, .int .i64 (ix : Nat)), (some 39, .pointer (some ⟨gr, ix * 5, none⟩)), (some 40, .pointer (some ⟨gr, ix * 5 + 1, none⟩)), (some 41, .int .i64 (pn : Nat)), (some 42, .bool false), (some 43, .bool false), (some 44, undef), (some 45, undef), (some 46, undef), (some 47, undef), (some 48, undef), (some 49, undef), (some 50, undef), (some 51, undef), (some 52, undef), (some 53, .bool false), (some 54, .bool false), (some 55, undef), (some 56, undef), (some 57, undef), (some 58, undef), (some 59, undef), (some 60, undef), (some 61, undef), (some 62, undef), (some 63, undef), (some 64, undef), (some 65, undef), (some 66, undef), (some 67, undef), (some 68, undef), (some 69, undef), (some 70, undef), (some 71, undef), (some 72, undef), (some 73, undef), (some 74, undef), (some 75, undef), (some 76, .bool false)] := ⟨_, rfl⟩
    have vv0 : vals LL 0 = .pointer (some ⟨r, 0, none⟩) := by rw [hLe]; rfl
    have vv1 : vals LL 1 = .pointer (some ⟨r, 0, none⟩) := by rw [hLe]; rfl
    have vv2 : vals LL 2 = .pointer (some ⟨r, 2, none⟩) := by rw [hLe]; rfl
    have vv3 : vals LL 3 = .slice (some ⟨gr, 0, none⟩) n cq := by rw [hLe]; rfl
    have vv4 : vals LL 4 = .int .i64 (ix : Nat) := by rw [hLe]; rfl
    have vv5 : vals LL 5 = .pointer (some ⟨gr, ix * 5, none⟩) := by rw [hLe]; rfl
    have vv6 : vals LL 6 = .pointer (some ⟨gr, ix * 5 + 1, none⟩) := by rw [hLe]; rfl
    have vv7 : vals LL 7 = .int .i64 (pn : Nat) := by rw [hLe]; rfl
    have vv8 : vals LL 8 = .bool false := by rw [hLe]; rfl
    have vv9 : vals LL 9 = .bool false := by rw [hLe]; rfl
    have vv10 : vals LL 10 = undef := by rw [hLe]; rfl
    have vv11 : vals LL 11 = undef := by rw [hLe]; rfl
    have vv12 : vals LL 12 = undef := by rw [hLe]; rfl
    have vv13 : vals LL 13 = undef := by rw [hLe]; rfl
    have vv14 : vals LL 14 = undef := by rw [hLe]; rfl
    have vv15 : vals LL 15 = undef := by rw [hLe]; rfl
    have vv16 : vals LL 16 = undef := by rw [hLe]; rfl
    have vv17 : vals LL 17 = undef := by rw [hLe]; rfl
    have vv18 : vals LL 18 = undef := by rw [hLe]; rfl
    have vv19 : vals LL 19 = .bool false := by rw [hLe]; rfl
    have vv20 : vals LL 20 = .bool false := by rw [hLe]; rfl
    have vv21 : vals LL 21 = undef := by rw [hLe]; rfl
    have vv22 : vals LL 22 = undef := by rw [hLe]; rfl
    have vv23 : vals LL 23 = undef := by rw [hLe]; rfl
    have vv24 : vals LL 24 = undef := by rw [hLe]; rfl
    have vv25 : vals LL 25 = undef := by rw [hLe]; rfl
    have vv26 : vals LL 26 = undef := by rw [hLe]; rfl
    have vv27 : vals LL 27 = undef := by rw [hLe]; rfl
    have vv28 : vals LL 28 = undef := by rw [hLe]; rfl
    have vv29 : vals LL 29 = undef := by rw [hLe]; rfl
    have vv30 : vals LL 30 = undef := by rw [hLe]; rfl
    have vv31 : vals LL 31 = undef := by rw [hLe]; rfl
    have vv32 : vals LL 32 = undef := by rw [hLe]; rfl
    have vv33 : vals LL 33 = undef := by rw [hLe]; rfl
    have vv34 : vals LL 34 = undef := by rw [hLe]; rfl
    have vv35 : vals LL 35 = undef := by rw [hLe]; rfl
    have vv36 : vals LL 36 = undef := by rw [hLe]; rfl
    have vv37 : vals LL 37 = undef := by rw [hLe]; rfl
    have vv38 : vals LL 38 = undef := by rw [hLe]; rfl
    have vv39 : vals LL 39 = undef := by rw [hLe]; rfl
    have vv40 : vals LL 40 = undef := by rw [hLe]; rfl
    have vv41 : vals LL 41 = undef := by rw [hLe]; rfl
    have vv42 : vals LL 42 = .bool false := by rw [hLe]; rfl
    refine region_laid hmix (by kernel_rfl) 130 hsz (by kernel_rfl) LL (by rw [hLe]; rfl) (fun _ W => Below w1.heap.size w1 W) below1 ?_ ?_
    · intro b W i o a hS hcl ho hb hd ev kp yl
      match i with
      | 0 =>
        simp only [List.getElem?_toArray, List.getElem?_cons_zero, Option.some.injEq] at ho
        subst ho
        have e0 : a.tmps[0]?.getD undef = .pointer (some ⟨r, 0, none⟩) := (kp 0 (by kernel_rfl)).trans b0
        rw [vv0]
        refine does_value rfl (by intro c h; cases h) (w' := W) ?_ (hS)
        · simp [execOp, go_sem, e0]
      | 1 =>
        simp only [List.getElem?_toArray, List.getElem?_cons_zero, List.getElem?_cons_succ, Option.some.injEq] at ho
        subst ho
        have p0 : b 0 = true := hd ⟨0, .data⟩ (by simp) rfl
        have e34 := (ev 0 34 rfl p0).trans vv0
        rw [vv1]
        refine does_value rfl (by intro c h; cases h) (w' := W) ?_ (hS)
        · simp [execOp, go_sem, e34]
      | 2 =>
        simp only [List.getElem?_toArray, List.getElem?_cons_zero, List.getElem?_cons_succ, Option.some.injEq] at ho
        subst ho
        have p1 : b 1 = true := hd ⟨1, .data⟩ (by simp) rfl
        have e35 := (ev 1 35 rfl p1).trans vv1
        rw [vv2]
        refine does_value rfl (by intro c h; cases h) (w' := W) ?_ (hS)
        · simp [execOp, go_sem, e35]
      | 3 =>
        simp only [List.getElem?_toArray, List.getElem?_cons_zero, List.getElem?_cons_succ, Option.some.injEq] at ho
        subst ho
        have p2 : b 2 = true := hd ⟨2, .data⟩ (by simp) rfl
        have e36 := (ev 2 36 rfl p2).trans vv2
        have hl := (hS.cell (p := ⟨r, 2, none⟩) (cell_lt c2)).trans c2
        rw [vv3]
        refine does_value rfl (by intro c h; cases h) (w' := W) ?_ (hS)
        · simp [execOp, go_sem, e36, hl]
      | 4 =>
        simp only [List.getElem?_toArray, List.getElem?_cons_zero, List.getElem?_cons_succ, Option.some.injEq] at ho
        subst ho
        have e7 : a.tmps[7]?.getD undef = .int .i64 (ix : Nat) := (kp 7 (by kernel_rfl)).trans b7
        rw [vv4]
        refine does_value rfl (by intro c h; cases h) (w' := W) ?_ (hS)
        · simp [execOp, go_sem, e7]
      | 5 =>
        simp only [List.getElem?_toArray, List.getElem?_cons_zero, List.getElem?_cons_succ, Option.some.injEq] at ho
        subst ho
        have p3 : b 3 = true := hd ⟨3, .data⟩ (by simp) rfl
        have p4 : b 4 = true := hd ⟨4, .data⟩ (by simp) rfl
        have e37 := (ev 3 37 rfl p3).trans vv3
        have e38 := (ev 4 38 rfl p4).trans vv4
        rw [vv5]
        refine does_value rfl (by intro c h; cases h) (w' := W) ?_ (hS)
        · simp [execOp, go_sem, e37, e38, hlt]
      | 6 =>
        simp only [List.getElem?_toArray, List.getElem?_cons_zero, List.getElem?_cons_succ, Option.some.injEq] at ho
        subst ho
        have p5 : b 5 = true := hd ⟨5, .data⟩ (by simp) rfl
        have e39 := (ev 5 39 rfl p5).trans vv5
        rw [vv6]
        refine does_value rfl (by intro c h; cases h) (w' := W) ?_ (hS)
        · simp [execOp, go_sem, e39]
      | 7 =>
        simp only [List.getElem?_toArray, List.getElem?_cons_zero, List.getElem?_cons_succ, Option.some.injEq] at ho
        subst ho
        have p6 : b 6 = true := hd ⟨6, .data⟩ (by simp) rfl
        have e40 := (ev 6 40 rfl p6).trans vv6
        have hl := (hS.cell (p := ⟨gr, ix * 5 + 1, none⟩) (cell_lt d1)).trans d1
        rw [vv7]
        refine does_value rfl (by intro c h; cases h) (w' := W) ?_ (hS)
        · simp [execOp, go_sem, e40, hl]
      | 8 =>
        simp only [List.getElem?_toArray, List.getElem?_cons_zero, List.getElem?_cons_succ, Option.some.injEq] at ho
        subst ho
        have p7 : b 7 = true := hd ⟨7, .data⟩ (by simp) rfl
        have e41 := (ev 7 41 rfl p7).trans vv7
        rw [vv8]
        refine does_value rfl (by intro c h; cases h) (w' := W) ?_ (hS)
        · simp [execOp, go_sem, e41, hpn]
      | 9 =>
        simp only [List.getElem?_toArray, List.getElem?_cons_zero, List.getElem?_cons_succ, Option.some.injEq] at ho
        subst ho
        have p8 : b 8 = true := hd ⟨8, .data⟩ (by simp) rfl
        have e42 := (ev 8 42 rfl p8).trans vv8
        rw [vv9]
        refine does_value rfl (by intro c h; cases h) (w' := W) ?_ (hS)
        · simp [execOp, go_sem, e42]
      | 10 =>
        simp only [List.getElem?_toArray, List.getElem?_cons_zero, List.getElem?_cons_succ, Option.some.injEq] at ho
        subst ho
        have p9 : b 9 = true := hd ⟨9, .guard⟩ (by simp) rfl
        exact does_pass rfl (yl 9 43 false rfl p9 vv9) (by decide) vv10 (hS)
      | 11 =>
        simp only [List.getElem?_toArray, List.getElem?_cons_zero, List.getElem?_cons_succ, Option.some.injEq] at ho
        subst ho
        have p10 : b 10 = true := hd ⟨10, .data⟩ (by simp) rfl
        have p9 : b 9 = true := hd ⟨9, .guard⟩ (by simp) rfl
        exact does_pass rfl (yl 9 43 false rfl p9 vv9) (by decide) vv11 (hS)
      | 12 =>
        simp only [List.getElem?_toArray, List.getElem?_cons_zero, List.getElem?_cons_succ, Option.some.injEq] at ho
        subst ho
        have p11 : b 11 = true := hd ⟨11, .data⟩ (by simp) rfl
        have p9 : b 9 = true := hd ⟨9, .guard⟩ (by simp) rfl
        exact does_pass rfl (yl 9 43 false rfl p9 vv9) (by decide) vv12 (hS)
      | 13 =>
        simp only [List.getElem?_toArray, List.getElem?_cons_zero, List.getElem?_cons_succ, Option.some.injEq] at ho
        subst ho
        have p12 : b 12 = true := hd ⟨12, .data⟩ (by simp) rfl
        have p9 : b 9 = true := hd ⟨9, .guard⟩ (by simp) rfl
        exact does_pass rfl (yl 9 43 false rfl p9 vv9) (by decide) vv13 (hS)
      | 14 =>
        simp only [List.getElem?_toArray, List.getElem?_cons_zero, List.getElem?_cons_succ, Option.some.injEq] at ho
        subst ho
        have p9 : b 9 = true := hd ⟨9, .guard⟩ (by simp) rfl
        exact does_pass rfl (yl 9 43 false rfl p9 vv9) (by decide) vv14 (hS)
      | 15 =>
        simp only [List.getElem?_toArray, List.getElem?_cons_zero, List.getElem?_cons_succ, Option.some.injEq] at ho
        subst ho
        have p13 : b 13 = true := hd ⟨13, .data⟩ (by simp) rfl
        have p14 : b 14 = true := hd ⟨14, .data⟩ (by simp) rfl
        have p9 : b 9 = true := hd ⟨9, .guard⟩ (by simp) rfl
        exact does_pass rfl (yl 9 43 false rfl p9 vv9) (by decide) vv15 (hS)
      | 16 =>
        simp only [List.getElem?_toArray, List.getElem?_cons_zero, List.getElem?_cons_succ, Option.some.injEq] at ho
        subst ho
        have p15 : b 15 = true := hd ⟨15, .data⟩ (by simp) rfl
        have p9 : b 9 = true := hd ⟨9, .guard⟩ (by simp) rfl
        exact does_pass rfl (yl 9 43 false rfl p9 vv9) (by decide) vv16 (hS)
      | 17 =>
        simp only [List.getElem?_toArray, List.getElem?_cons_zero, List.getElem?_cons_succ, Option.some.injEq] at ho
        subst ho
        have p16 : b 16 = true := hd ⟨16, .data⟩ (by simp) rfl
        have p9 : b 9 = true := hd ⟨9, .guard⟩ (by simp) rfl
        exact does_pass rfl (yl 9 43 false rfl p9 vv9) (by decide) vv17 (hS)
      | 18 =>
        simp only [List.getElem?_toArray, List.getElem?_cons_zero, List.getElem?_cons_succ, Option.some.injEq] at ho
        subst ho
        have p17 : b 17 = true := hd ⟨17, .data⟩ (by simp) rfl
        have p9 : b 9 = true := hd ⟨9, .guard⟩ (by simp) rfl
        exact does_pass rfl (yl 9 43 false rfl p9 vv9) (by decide) vv18 (hS)
      | 19 =>
        simp only [List.getElem?_toArray, List.getElem?_cons_zero, List.getElem?_cons_succ, Option.some.injEq] at ho
        subst ho
        have p9 : b 9 = true := hd ⟨9, .data⟩ (by simp) rfl
        have p18 : b 18 = true := hd ⟨18, .data⟩ (by simp) rfl
        have e43 := (ev 9 43 rfl p9).trans vv9
        rw [vv19]
        refine does_value rfl (by intro c h; cases h) (w' := W) ?_ (hS)
        · simp [execOp, go_sem, e43]
      | 20 =>
        simp only [List.getElem?_toArray, List.getElem?_cons_zero, List.getElem?_cons_succ, Option.some.injEq] at ho
        subst ho
        have p19 : b 19 = true := hd ⟨19, .data⟩ (by simp) rfl
        have e53 := (ev 19 53 rfl p19).trans vv19
        rw [vv20]
        refine does_value rfl (by intro c h; cases h) (w' := W) ?_ (hS)
        · simp [execOp, go_sem, e53]
      | 21 =>
        simp only [List.getElem?_toArray, List.getElem?_cons_zero, List.getElem?_cons_succ, Option.some.injEq] at ho
        subst ho
        have p20 : b 20 = true := hd ⟨20, .guard⟩ (by simp) rfl
        exact does_pass rfl (yl 20 54 false rfl p20 vv20) (by decide) vv21 (hS)
      | 22 =>
        simp only [List.getElem?_toArray, List.getElem?_cons_zero, List.getElem?_cons_succ, Option.some.injEq] at ho
        subst ho
        have p21 : b 21 = true := hd ⟨21, .data⟩ (by simp) rfl
        have p20 : b 20 = true := hd ⟨20, .guard⟩ (by simp) rfl
        exact does_pass rfl (yl 20 54 false rfl p20 vv20) (by decide) vv22 (hS)
      | 23 =>
        simp only [List.getElem?_toArray, List.getElem?_cons_zero, List.getElem?_cons_succ, Option.some.injEq] at ho
        subst ho
        have p22 : b 22 = true := hd ⟨22, .data⟩ (by simp) rfl
        have p20 : b 20 = true := hd ⟨20, .guard⟩ (by simp) rfl
        exact does_pass rfl (yl 20 54 false rfl p20 vv20) (by decide) vv23 (hS)
      | 24 =>
        simp only [List.getElem?_toArray, List.getElem?_cons_zero, List.getElem?_cons_succ, Option.some.injEq] at ho
        subst ho
        have p23 : b 23 = true := hd ⟨23, .guard⟩ (by simp) rfl
        exact does_pass_none rfl (yielded_undef (j := 23) (s := 57) rfl ((ev 23 57 rfl p23).trans vv23)) vv24 (hS)
      | 25 =>
        simp only [List.getElem?_toArray, List.getElem?_cons_zero, List.getElem?_cons_succ, Option.some.injEq] at ho
        subst ho
        have p24 : b 24 = true := hd ⟨24, .data⟩ (by simp) rfl
        have p23 : b 23 = true := hd ⟨23, .guard⟩ (by simp) rfl
        exact does_pass_none rfl (yielded_undef (j := 23) (s := 57) rfl ((ev 23 57 rfl p23).trans vv23)) vv25 (hS)
      | 26 =>
        simp only [List.getElem?_toArray, List.getElem?_cons_zero, List.getElem?_cons_succ, Option.some.injEq] at ho
        subst ho
        have p25 : b 25 = true := hd ⟨25, .data⟩ (by simp) rfl
        have p23 : b 23 = true := hd ⟨23, .guard⟩ (by simp) rfl
        exact does_pass_none rfl (yielded_undef (j := 23) (s := 57) rfl ((ev 23 57 rfl p23).trans vv23)) vv26 (hS)
      | 27 =>
        simp only [List.getElem?_toArray, List.getElem?_cons_zero, List.getElem?_cons_succ, Option.some.injEq] at ho
        subst ho
        have p26 : b 26 = true := hd ⟨26, .data⟩ (by simp) rfl
        have p23 : b 23 = true := hd ⟨23, .guard⟩ (by simp) rfl
        exact does_pass_none rfl (yielded_undef (j := 23) (s := 57) rfl ((ev 23 57 rfl p23).trans vv23)) vv27 (hS)
      | 28 =>
        simp only [List.getElem?_toArray, List.getElem?_cons_zero, List.getElem?_cons_succ, Option.some.injEq] at ho
        subst ho
        have p23 : b 23 = true := hd ⟨23, .guard⟩ (by simp) rfl
        exact does_pass_none rfl (yielded_undef (j := 23) (s := 57) rfl ((ev 23 57 rfl p23).trans vv23)) vv28 (hS)
      | 29 =>
        simp only [List.getElem?_toArray, List.getElem?_cons_zero, List.getElem?_cons_succ, Option.some.injEq] at ho
        subst ho
        have p27 : b 27 = true := hd ⟨27, .data⟩ (by simp) rfl
        have p28 : b 28 = true := hd ⟨28, .data⟩ (by simp) rfl
        have p23 : b 23 = true := hd ⟨23, .guard⟩ (by simp) rfl
        exact does_pass_none rfl (yielded_undef (j := 23) (s := 57) rfl ((ev 23 57 rfl p23).trans vv23)) vv29 (hS)
      | 30 =>
        simp only [List.getElem?_toArray, List.getElem?_cons_zero, List.getElem?_cons_succ, Option.some.injEq] at ho
        subst ho
        have p29 : b 29 = true := hd ⟨29, .data⟩ (by simp) rfl
        have p23 : b 23 = true := hd ⟨23, .guard⟩ (by simp) rfl
        exact does_pass_none rfl (yielded_undef (j := 23) (s := 57) rfl ((ev 23 57 rfl p23).trans vv23)) vv30 (hS)
      | 31 =>
        simp only [List.getElem?_toArray, List.getElem?_cons_zero, List.getElem?_cons_succ, Option.some.injEq] at ho
        subst ho
        have p30 : b 30 = true := hd ⟨30, .data⟩ (by simp) rfl
        have p23 : b 23 = true := hd ⟨23, .guard⟩ (by simp) rfl
        exact does_pass_none rfl (yielded_undef (j := 23) (s := 57) rfl ((ev 23 57 rfl p23).trans vv23)) vv31 (hS)
      | 32 =>
        simp only [List.getElem?_toArray, List.getElem?_cons_zero, List.getElem?_cons_succ, Option.some.injEq] at ho
        subst ho
        have p23 : b 23 = true := hd ⟨23, .guard⟩ (by simp) rfl
        exact does_pass_none rfl (yielded_undef (j := 23) (s := 57) rfl ((ev 23 57 rfl p23).trans vv23)) vv32 (hS)
      | 33 =>
        simp only [List.getElem?_toArray, List.getElem?_cons_zero, List.getElem?_cons_succ, Option.some.injEq] at ho
        subst ho
        have p32 : b 32 = true := hd ⟨32, .data⟩ (by simp) rfl
        have p23 : b 23 = true := hd ⟨23, .guard⟩ (by simp) rfl
        exact does_pass_none rfl (yielded_undef (j := 23) (s := 57) rfl ((ev 23 57 rfl p23).trans vv23)) vv33 (hS)
      | 34 =>
        simp only [List.getElem?_toArray, List.getElem?_cons_zero, List.getElem?_cons_succ, Option.some.injEq] at ho
        subst ho
        have p33 : b 33 = true := hd ⟨33, .data⟩ (by simp) rfl
        have p23 : b 23 = true := hd ⟨23, .guard⟩ (by simp) rfl
        exact does_pass_none rfl (yielded_undef (j := 23) (s := 57) rfl ((ev 23 57 rfl p23).trans vv23)) vv34 (hS)
      | 35 =>
        simp only [List.getElem?_toArray, List.getElem?_cons_zero, List.getElem?_cons_succ, Option.some.injEq] at ho
        subst ho
        have p34 : b 34 = true := hd ⟨34, .data⟩ (by simp) rfl
        have p23 : b 23 = true := hd ⟨23, .guard⟩ (by simp) rfl
        exact does_pass_none rfl (yielded_undef (j := 23) (s := 57) rfl ((ev 23 57 rfl p23).trans vv23)) vv35 (hS)
      | 36 =>
        simp only [List.getElem?_toArray, List.getElem?_cons_zero, List.getElem?_cons_succ, Option.some.injEq] at ho
        subst ho
        have p23 : b 23 = true := hd ⟨23, .guard⟩ (by simp) rfl
        exact does_pass_none rfl (yielded_undef (j := 23) (s := 57) rfl ((ev 23 57 rfl p23).trans vv23)) vv36 (hS)
      | 37 =>
        simp only [List.getElem?_toArray, List.getElem?_cons_zero, List.getElem?_cons_succ, Option.some.injEq] at ho
        subst ho
        have p35 : b 35 = true := hd ⟨35, .data⟩ (by simp) rfl
        have p36 : b 36 = true := hd ⟨36, .data⟩ (by simp) rfl
        have p23 : b 23 = true := hd ⟨23, .guard⟩ (by simp) rfl
        exact does_pass_none rfl (yielded_undef (j := 23) (s := 57) rfl ((ev 23 57 rfl p23).trans vv23)) vv37 (hS)
      | 38 =>
        simp only [List.getElem?_toArray, List.getElem?_cons_zero, List.getElem?_cons_succ, Option.some.injEq] at ho
        subst ho
        have p37 : b 37 = true := hd ⟨37, .data⟩ (by simp) rfl
        have p23 : b 23 = true := hd ⟨23, .guard⟩ (by simp) rfl
        exact does_pass_none rfl (yielded_undef (j := 23) (s := 57) rfl ((ev 23 57 rfl p23).trans vv23)) vv38 (hS)
      | 39 =>
        simp only [List.getElem?_toArray, List.getElem?_cons_zero, List.getElem?_cons_succ, Option.some.injEq] at ho
        subst ho
        have p38 : b 38 = true := hd ⟨38, .data⟩ (by simp) rfl
        have p23 : b 23 = true := hd ⟨23, .guard⟩ (by simp) rfl
        exact does_pass_none rfl (yielded_undef (j := 23) (s := 57) rfl ((ev 23 57 rfl p23).trans vv23)) vv39 (hS)
      | 40 =>
        simp only [List.getElem?_toArray, List.getElem?_cons_zero, List.getElem?_cons_succ, Option.some.injEq] at ho
        subst ho
        have p31 : b 31 = true := hd ⟨31, .data⟩ (by simp) rfl
        have p39 : b 39 = true := hd ⟨39, .data⟩ (by simp) rfl
        have p23 : b 23 = true := hd ⟨23, .guard⟩ (by simp) rfl
        exact does_pass_none rfl (yielded_undef (j := 23) (s := 57) rfl ((ev 23 57 rfl p23).trans vv23)) vv40 (hS)
      | 41 =>
        simp only [List.getElem?_toArray, List.getElem?_cons_zero, List.getElem?_cons_succ, Option.some.injEq] at ho
        subst ho
        have p23 : b 23 = true := hd ⟨23, .data⟩ (by simp) rfl
        have p40 : b 40 = true := hd ⟨40, .data⟩ (by simp) rfl
        have p20 : b 20 = true := hd ⟨20, .guard⟩ (by simp) rfl
        exact does_pass rfl (yl 20 54 false rfl p20 vv20) (by decide) vv41 (hS)
      | 42 =>
        simp only [List.getElem?_toArray, List.getElem?_cons_zero, List.getElem?_cons_succ, Option.some.injEq] at ho
        subst ho
        have p20 : b 20 = true := hd ⟨20, .data⟩ (by simp) rfl
        have p41 : b 41 = true := hd ⟨41, .data⟩ (by simp) rfl
        have e54 := (ev 20 54 rfl p20).trans vv20
        rw [vv42]
        refine does_value rfl (by intro c h; cases h) (w' := W) ?_ (hS)
        · simp [execOp, go_sem, e54]
      | k + 43 => simp at ho
    · intro b' W hS _
      subst hLe
      exact hQ _ _ _ _ _ _ _ _ _ _ _ _ _ _ _ _ _ _ _ _ _ _ _ _ _ _ _ _ _ _ _ _ _ _ _ _ _ _ _ _ _ _ W hS
  · have hpn : ((pn : Int) == 0) = true := by simp; omega
    subst hd
    obtain ⟨LL, hLe⟩ : ∃ LL : List (Option Tmp × Value), LL = [(some 34, .pointer (some ⟨r, 0, none⟩)), (some 35, .pointer (some ⟨r, 0, none⟩)), (some 36, .pointer (some ⟨r, 2, none⟩)), (some 37, .slice (some ⟨gr, 0, none⟩) n cq), (some 38, .int .i64 (ix : Nat)), (some 39, .pointer (some ⟨gr, ix * 5, none⟩)), (some 40, .pointer (some ⟨gr, ix * 5 + 1, none⟩)), (some 41, .int .i64 (pn : Nat)), (some 42, .bool true), (some 43, .bool true), (some 44, .pointer (some ⟨r, 0, none⟩)), (some 45, .pointer (some ⟨r, 0, none⟩)), (some 46, .pointer (some ⟨r, 2, none⟩)), (some 47, .slice (some ⟨gr, 0, none⟩) n cq), (some 48, .int .i64 (ix : Nat)), (some 49, .pointer (some ⟨gr, ix * 5, none⟩)), (some 50, .pointer (some ⟨gr, ix * 5 + 3, none⟩)), (some 51, .bool true), (some 52, .bool false), (some 53, .bool false), (some 54, .bool false), (some 55, undef), (some 56, undef), (some 57, undef), (some 58, undef), (some 59, undef), (some 60, undef), (some 61, undef), (some 62, undef), (some 63, undef), (some 64, undef), (some 65, undef), (some 66, undef), (some 67, undef), (some 68, undef), (some 69, undef), (some 70, undef), (some 71, undef), (some 72, undef), (some 73, undef), (some 74, undef), (some 75, undef), (some 76, .bool false)] := ⟨_, rfl⟩
    have vv0 : vals LL 0 = .pointer (some ⟨r, 0, none⟩) := by rw [hLe]; rfl
    have vv1 : vals LL 1 = .pointer (some ⟨r, 0, none⟩) := by rw [hLe]; rfl
    have vv2 : vals LL 2 = .pointer (some ⟨r, 2, none⟩) := by rw [hLe]; rfl
    have vv3 : vals LL 3 = .slice (some ⟨gr, 0, none⟩) n cq := by rw [hLe]; rfl
    have vv4 : vals LL 4 = .int .i64 (ix : Nat) := by rw [hLe]; rfl
    have vv5 : vals LL 5 = .pointer (some ⟨gr, ix * 5, none⟩) := by rw [hLe]; rfl
    have vv6 : vals LL 6 = .pointer (some ⟨gr, ix * 5 + 1, none⟩) := by rw [hLe]; rfl
    have vv7 : vals LL 7 = .int .i64 (pn : Nat) := by rw [hLe]; rfl
    have vv8 : vals LL 8 = .bool true := by rw [hLe]; rfl
    have vv9 : vals LL 9 = .bool true := by rw [hLe]; rfl
    have vv10 : vals LL 10 = .pointer (some ⟨r, 0, none⟩) := by rw [hLe]; rfl
    have vv11 : vals LL 11 = .pointer (some ⟨r, 0, none⟩) := by rw [hLe]; rfl
    have vv12 : vals LL 12 = .pointer (some ⟨r, 2, none⟩) := by rw [hLe]; rfl
    have vv13 : vals LL 13 = .slice (some ⟨gr, 0, none⟩) n cq := by rw [hLe]; rfl
    have vv14 : vals LL 14 = .int .i64 (ix : Nat) := by rw [hLe]; rfl
    have vv15 : vals LL 15 = .pointer (some ⟨gr, ix * 5, none⟩) := by rw [hLe]; rfl
    have vv16 : vals LL 16 = .pointer (some ⟨gr, ix * 5 + 3, none⟩) := by rw [hLe]; rfl
    have vv17 : vals LL 17 = .bool true := by rw [hLe]; rfl
    have vv18 : vals LL 18 = .bool false := by rw [hLe]; rfl
    have vv19 : vals LL 19 = .bool false := by rw [hLe]; rfl
    have vv20 : vals LL 20 = .bool false := by rw [hLe]; rfl
    have vv21 : vals LL 21 = undef := by rw [hLe]; rfl
    have vv22 : vals LL 22 = undef := by rw [hLe]; rfl
    have vv23 : vals LL 23 = undef := by rw [hLe]; rfl
    have vv24 : vals LL 24 = undef := by rw [hLe]; rfl
    have vv25 : vals LL 25 = undef := by rw [hLe]; rfl
    have vv26 : vals LL 26 = undef := by rw [hLe]; rfl
    have vv27 : vals LL 27 = undef := by rw [hLe]; rfl
    have vv28 : vals LL 28 = undef := by rw [hLe]; rfl
    have vv29 : vals LL 29 = undef := by rw [hLe]; rfl
    have vv30 : vals LL 30 = undef := by rw [hLe]; rfl
    have vv31 : vals LL 31 = undef := by rw [hLe]; rfl
    have vv32 : vals LL 32 = undef := by rw [hLe]; rfl
    have vv33 : vals LL 33 = undef := by rw [hLe]; rfl
    have vv34 : vals LL 34 = undef := by rw [hLe]; rfl
    have vv35 : vals LL 35 = undef := by rw [hLe]; rfl
    have vv36 : vals LL 36 = undef := by rw [hLe]; rfl
    have vv37 : vals LL 37 = undef := by rw [hLe]; rfl
    have vv38 : vals LL 38 = undef := by rw [hLe]; rfl
    have vv39 : vals LL 39 = undef := by rw [hLe]; rfl
    have vv40 : vals LL 40 = undef := by rw [hLe]; rfl
    have vv41 : vals LL 41 = undef := by rw [hLe]; rfl
    have vv42 : vals LL 42 = .bool false := by rw [hLe]; rfl
    refine region_laid hmix (by kernel_rfl) 130 hsz (by kernel_rfl) LL (by rw [hLe]; rfl) (fun _ W => Below w1.heap.size w1 W) below1 ?_ ?_
    · intro b W i o a hS hcl ho hb hd ev kp yl
      match i with
      | 0 =>
        simp only [List.getElem?_toArray, List.getElem?_cons_zero, Option.some.injEq] at ho
        subst ho
        have e0 : a.tmps[0]?.getD undef = .pointer (some ⟨r, 0, none⟩) := (kp 0 (by kernel_rfl)).trans b0
        rw [vv0]
        refine does_value rfl (by intro c h; cases h) (w' := W) ?_ (hS)
        · simp [execOp, go_sem, e0]
      | 1 =>
        simp only [List.getElem?_toArray, List.getElem?_cons_zero, List.getElem?_cons_succ, Option.some.injEq] at ho
        subst ho
        have p0 : b 0 = true := hd ⟨0, .data⟩ (by simp) rfl
        have e34 := (ev 0 34 rfl p0).trans vv0
        rw [vv1]
        refine does_value rfl (by intro c h; cases h) (w' := W) ?_ (hS)
        · simp [execOp, go_sem, e34]
      | 2 =>
        simp only [List.getElem?_toArray, List.getElem?_cons_zero, List.getElem?_cons_succ, Option.some.injEq] at ho
        subst ho
        have p1 : b 1 = true := hd ⟨1, .data⟩ (by simp) rfl
        have e35 := (ev 1 35 rfl p1).trans vv1
        rw [vv2]
        refine does_value rfl (by intro c h; cases h) (w' := W) ?_ (hS)
        · simp [execOp, go_sem, e35]
      | 3 =>
        simp only [List.getElem?_toArray, List.getElem?_cons_zero, List.getElem?_cons_succ, Option.some.injEq] at ho
        subst ho
        have p2 : b 2 = true := hd ⟨2, .data⟩ (by simp) rfl
        have e36 := (ev 2 36 rfl p2).trans vv2
        have hl := (hS.cell (p := ⟨r, 2, none⟩) (cell_lt c2)).trans c2
        rw [vv3]
        refine does_value rfl (by intro c h; cases h) (w' := W) ?_ (hS)
        · simp [execOp, go_sem, e36, hl]
      | 4 =>
        simp only [List.getElem?_toArray, List.getElem?_cons_zero, List.getElem?_cons_succ, Option.some.injEq] at ho
        subst ho
        have e7 : a.tmps[7]?.getD undef = .int .i64 (ix : Nat) := (kp 7 (by kernel_rfl)).trans b7
        rw [vv4]
        refine does_value rfl (by intro c h; cases h) (w' := W) ?_ (hS)
        · simp [execOp, go_sem, e7]
      | 5 =>
        simp only [List.getElem?_toArray, List.getElem?_cons_zero, List.getElem?_cons_succ, Option.some.injEq] at ho
        subst ho
        have p3 : b 3 = true := hd ⟨3, .data⟩ (by simp) rfl
        have p4 : b 4 = true := hd ⟨4, .data⟩ (by simp) rfl
        have e37 := (ev 3 37 rfl p3).trans vv3
        have e38 := (ev 4 38 rfl p4).trans vv4
        rw [vv5]
        refine does_value rfl (by intro c h; cases h) (w' := W) ?_ (hS)
        · simp [execOp, go_sem, e37, e38, hlt]
      | 6 =>
        simp only [List.getElem?_toArray, List.getElem?_cons_zero, List.getElem?_cons_succ, Option.some.injEq] at ho
        subst ho
        have p5 : b 5 = true := hd ⟨5, .data⟩ (by simp) rfl
        have e39 := (ev 5 39 rfl p5).trans vv5
        rw [vv6]
        refine does_value rfl (by intro c h; cases h) (w' := W) ?_ (hS)
        · simp [execOp, go_sem, e39]
      | 7 =>
        simp only [List.getElem?_toArray, List.getElem?_cons_zero, List.getElem?_cons_succ, Option.some.injEq] at ho
        subst ho
        have p6 : b 6 = true := hd ⟨6, .data⟩ (by simp) rfl
        have e40 := (ev 6 40 rfl p6).trans vv6
        have hl := (hS.cell (p := ⟨gr, ix * 5 + 1, none⟩) (cell_lt d1)).trans d1
        rw [vv7]
        refine does_value rfl (by intro c h; cases h) (w' := W) ?_ (hS)
        · simp [execOp, go_sem, e40, hl]
      | 8 =>
        simp only [List.getElem?_toArray, List.getElem?_cons_zero, List.getElem?_cons_succ, Option.some.injEq] at ho
        subst ho
        have p7 : b 7 = true := hd ⟨7, .data⟩ (by simp) rfl
        have e41 := (ev 7 41 rfl p7).trans vv7
        rw [vv8]
        refine does_value rfl (by intro c h; cases h) (w' := W) ?_ (hS)
        · simp [execOp, go_sem, e41, hpn]
      | 9 =>
        simp only [List.getElem?_toArray, List.getElem?_cons_zero, List.getElem?_cons_succ, Option.some.injEq] at ho
        subst ho
        have p8 : b 8 = true := hd ⟨8, .data⟩ (by simp) rfl
        have e42 := (ev 8 42 rfl p8).trans vv8
        rw [vv9]
        refine does_value rfl (by intro c h; cases h) (w' := W) ?_ (hS)
        · simp [execOp, go_sem, e42]
      | 10 =>
        simp only [List.getElem?_toArray, List.getElem?_cons_zero, List.getElem?_cons_succ, Option.some.injEq] at ho
        subst ho
        have p9 : b 9 = true := hd ⟨9, .guard⟩ (by simp) rfl
        have e0 : a.tmps[0]?.getD undef = .pointer (some ⟨r, 0, none⟩) := (kp 0 (by kernel_rfl)).trans b0
        rw [vv10]
        refine does_value_g rfl (yl 9 43 true rfl p9 vv9) (by intro c h; cases h) (w' := W) ?_ (hS)
        · simp [execOp, go_sem, e0]
      | 11 =>
        simp only [List.getElem?_toArray, List.getElem?_cons_zero, List.getElem?_cons_succ, Option.some.injEq] at ho
        subst ho
        have p10 : b 10 = true := hd ⟨10, .data⟩ (by simp) rfl
        have p9 : b 9 = true := hd ⟨9, .guard⟩ (by simp) rfl
        have e44 := (ev 10 44 rfl p10).trans vv10
        rw [vv11]
        refine does_value_g rfl (yl 9 43 true rfl p9 vv9) (by intro c h; cases h) (w' := W) ?_ (hS)
        · simp [execOp, go_sem, e44]
      | 12 =>
        simp only [List.getElem?_toArray, List.getElem?_cons_zero, List.getElem?_cons_succ, Option.some.injEq] at ho
        subst ho
        have p11 : b 11 = true := hd ⟨11, .data⟩ (by simp) rfl
        have p9 : b 9 = true := hd ⟨9, .guard⟩ (by simp) rfl
        have e45 := (ev 11 45 rfl p11).trans vv11
        rw [vv12]
        refine does_value_g rfl (yl 9 43 true rfl p9 vv9) (by intro c h; cases h) (w' := W) ?_ (hS)
        · simp [execOp, go_sem, e45]
      | 13 =>
        simp only [List.getElem?_toArray, List.getElem?_cons_zero, List.getElem?_cons_succ, Option.some.injEq] at ho
        subst ho
        have p12 : b 12 = true := hd ⟨12, .data⟩ (by simp) rfl
        have p9 : b 9 = true := hd ⟨9, .guard⟩ (by simp) rfl
        have e46 := (ev 12 46 rfl p12).trans vv12
        have hl := (hS.cell (p := ⟨r, 2, none⟩) (cell_lt c2)).trans c2
        rw [vv13]
        refine does_value_g rfl (yl 9 43 true rfl p9 vv9) (by intro c h; cases h) (w' := W) ?_ (hS)
        · simp [execOp, go_sem, e46, hl]
      | 14 =>
        simp only [List.getElem?_toArray, List.getElem?_cons_zero, List.getElem?_cons_succ, Option.some.injEq] at ho
        subst ho
        have p9 : b 9 = true := hd ⟨9, .guard⟩ (by simp) rfl
        have e7 : a.tmps[7]?.getD undef = .int .i64 (ix : Nat) := (kp 7 (by kernel_rfl)).trans b7
        rw [vv14]
        refine does_value_g rfl (yl 9 43 true rfl p9 vv9) (by intro c h; cases h) (w' := W) ?_ (hS)
        · simp [execOp, go_sem, e7]
      | 15 =>
        simp only [List.getElem?_toArray, List.getElem?_cons_zero, List.getElem?_cons_succ, Option.some.injEq] at ho
        subst ho
        have p13 : b 13 = true := hd ⟨13, .data⟩ (by simp) rfl
        have p14 : b 14 = true := hd ⟨14, .data⟩ (by simp) rfl
        have p9 : b 9 = true := hd ⟨9, .guard⟩ (by simp) rfl
        have e47 := (ev 13 47 rfl p13).trans vv13
        have e48 := (ev 14 48 rfl p14).trans vv14
        rw [vv15]
        refine does_value_g rfl (yl 9 43 true rfl p9 vv9) (by intro c h; cases h) (w' := W) ?_ (hS)
        · simp [execOp, go_sem, e47, e48, hlt]
      | 16 =>
        simp only [List.getElem?_toArray, List.getElem?_cons_zero, List.getElem?_cons_succ, Option.some.injEq] at ho
        subst ho
        have p15 : b 15 = true := hd ⟨15, .data⟩ (by simp) rfl
        have p9 : b 9 = true := hd ⟨9, .guard⟩ (by simp) rfl
        have e49 := (ev 15 49 rfl p15).trans vv15
        rw [vv16]
        refine does_value_g rfl (yl 9 43 true rfl p9 vv9) (by intro c h; cases h) (w' := W) ?_ (hS)
        · simp [execOp, go_sem, e49]
      | 17 =>
        simp only [List.getElem?_toArray, List.getElem?_cons_zero, List.getElem?_cons_succ, Option.some.injEq] at ho
        subst ho
        have p16 : b 16 = true := hd ⟨16, .data⟩ (by simp) rfl
        have p9 : b 9 = true := hd ⟨9, .guard⟩ (by simp) rfl
        have e50 := (ev 16 50 rfl p16).trans vv16
        have hl := (hS.cell (p := ⟨gr, ix * 5 + 3, none⟩) (cell_lt d3)).trans d3
        rw [vv17]
        refine does_value_g rfl (yl 9 43 true rfl p9 vv9) (by intro c h; cases h) (w' := W) ?_ (hS)
        · simp [execOp, go_sem, e50, hl]
      | 18 =>
        simp only [List.getElem?_toArray, List.getElem?_cons_zero, List.getElem?_cons_succ, Option.some.injEq] at ho
        subst ho
        have p17 : b 17 = true := hd ⟨17, .data⟩ (by simp) rfl
        have p9 : b 9 = true := hd ⟨9, .guard⟩ (by simp) rfl
        have e51 := (ev 17 51 rfl p17).trans vv17
        rw [vv18]
        refine does_value_g rfl (yl 9 43 true rfl p9 vv9) (by intro c h; cases h) (w' := W) ?_ (hS)
        · simp [execOp, go_sem, e51]
      | 19 =>
        simp only [List.getElem?_toArray, List.getElem?_cons_zero, List.getElem?_cons_succ, Option.some.injEq] at ho
        subst ho
        have p9 : b 9 = true := hd ⟨9, .data⟩ (by simp) rfl
        have p18 : b 18 = true := hd ⟨18, .data⟩ (by simp) rfl
        have e43 := (ev 9 43 rfl p9).trans vv9
        have e52 := (ev 18 52 rfl p18).trans vv18
        rw [vv19]
        refine does_value rfl (by intro c h; cases h) (w' := W) ?_ (hS)
        · simp [execOp, go_sem, e43, e52]
      | 20 =>
        simp only [List.getElem?_toArray, List.getElem?_cons_zero, List.getElem?_cons_succ, Option.some.injEq] at ho
        subst ho
        have p19 : b 19 = true := hd ⟨19, .data⟩ (by simp) rfl
        have e53 := (ev 19 53 rfl p19).trans vv19
        rw [vv20]
        refine does_value rfl (by intro c h; cases h) (w' := W) ?_ (hS)
        · simp [execOp, go_sem, e53]
      | 21 =>
        simp only [List.getElem?_toArray, List.getElem?_cons_zero, List.getElem?_cons_succ, Option.some.injEq] at ho
        subst ho
        have p20 : b 20 = true := hd ⟨20, .guard⟩ (by simp) rfl
        exact does_pass rfl (yl 20 54 false rfl p20 vv20) (by decide) vv21 (hS)
      | 22 =>
        simp only [List.getElem?_toArray, List.getElem?_cons_zero, List.getElem?_cons_succ, Option.some.injEq] at ho
        subst ho
        have p21 : b 21 = true := hd ⟨21, .data⟩ (by simp) rfl
        have p20 : b 20 = true := hd ⟨20, .guard⟩ (by simp) rfl
        exact does_pass rfl (yl 20 54 false rfl p20 vv20) (by decide) vv22 (hS)
      | 23 =>
        simp only [List.getElem?_toArray, List.getElem?_cons_zero, List.getElem?_cons_succ, Option.some.injEq] at ho
        subst ho
        have p22 : b 22 = true := hd ⟨22, .data⟩ (by simp) rfl
        have p20 : b 20 = true := hd ⟨20, .guard⟩ (by simp) rfl
        exact does_pass rfl (yl 20 54 false rfl p20 vv20) (by decide) vv23 (hS)
      | 24 =>
        simp only [List.getElem?_toArray, List.getElem?_cons_zero, List.getElem?_cons_succ, Option.some.injEq] at ho
        subst ho
        have p23 : b 23 = true := hd ⟨23, .guard⟩ (by simp) rfl
        exact does_pass_none rfl (yielded_undef (j := 23) (s := 57) rfl ((ev 23 57 rfl p23).trans vv23)) vv24 (hS)
      | 25 =>
        simp only [List.getElem?_toArray, List.getElem?_cons_zero, List.getElem?_cons_succ, Option.some.injEq] at ho
        subst ho
        have p24 : b 24 = true := hd ⟨24, .data⟩ (by simp) rfl
        have p23 : b 23 = true := hd ⟨23, .guard⟩ (by simp) rfl
        exact does_pass_none rfl (yielded_undef (j := 23) (s := 57) rfl ((ev 23 57 rfl p23).trans vv23)) vv25 (hS)
      | 26 =>
        simp only [List.getElem?_toArray, List.getElem?_cons_zero, List.getElem?_cons_succ, Option.some.injEq] at ho
        subst ho
        have p25 : b 25 = true := hd ⟨25, .data⟩ (by simp) rfl
        have p23 : b 23 = true := hd ⟨23, .guard⟩ (by simp) rfl
        exact does_pass_none rfl (yielded_undef (j := 23) (s := 57) rfl ((ev 23 57 rfl p23).trans vv23)) vv26 (hS)
      | 27 =>
        simp only [List.getElem?_toArray, List.getElem?_cons_zero, List.getElem?_cons_succ, Option.some.injEq] at ho
        subst ho
        have p26 : b 26 = true := hd ⟨26, .data⟩ (by simp) rfl
        have p23 : b 23 = true := hd ⟨23, .guard⟩ (by simp) rfl
        exact does_pass_none rfl (yielded_undef (j := 23) (s := 57) rfl ((ev 23 57 rfl p23).trans vv23)) vv27 (hS)
      | 28 =>
        simp only [List.getElem?_toArray, List.getElem?_cons_zero, List.getElem?_cons_succ, Option.some.injEq] at ho
        subst ho
        have p23 : b 23 = true := hd ⟨23, .guard⟩ (by simp) rfl
        exact does_pass_none rfl (yielded_undef (j := 23) (s := 57) rfl ((ev 23 57 rfl p23).trans vv23)) vv28 (hS)
      | 29 =>
        simp only [List.getElem?_toArray, List.getElem?_cons_zero, List.getElem?_cons_succ, Option.some.injEq] at ho
        subst ho
        have p27 : b 27 = true := hd ⟨27, .data⟩ (by simp) rfl
        have p28 : b 28 = true := hd ⟨28, .data⟩ (by simp) rfl
        have p23 : b 23 = true := hd ⟨23, .guard⟩ (by simp) rfl
        exact does_pass_none rfl (yielded_undef (j := 23) (s := 57) rfl ((ev 23 57 rfl p23).trans vv23)) vv29 (hS)
      | 30 =>
        simp only [List.getElem?_toArray, List.getElem?_cons_zero, List.getElem?_cons_succ, Option.some.injEq] at ho
        subst ho
        have p29 : b 29 = true := hd ⟨29, .data⟩ (by simp) rfl
        have p23 : b 23 = true := hd ⟨23, .guard⟩ (by simp) rfl
        exact does_pass_none rfl (yielded_undef (j := 23) (s := 57) rfl ((ev 23 57 rfl p23).trans vv23)) vv30 (hS)
      | 31 =>
        simp only [List.getElem?_toArray, List.getElem?_cons_zero, List.getElem?_cons_succ, Option.some.injEq] at ho
        subst ho
        have p30 : b 30 = true := hd ⟨30, .data⟩ (by simp) rfl
        have p23 : b 23 = true := hd ⟨23, .guard⟩ (by simp) rfl
        exact does_pass_none rfl (yielded_undef (j := 23) (s := 57) rfl ((ev 23 57 rfl p23).trans vv23)) vv31 (hS)
      | 32 =>
        simp only [List.getElem?_toArray, List.getElem?_cons_zero, List.getElem?_cons_succ, Option.some.injEq] at ho
        subst ho
        have p23 : b 23 = true := hd ⟨23, .guard⟩ (by simp) rfl
        exact does_pass_none rfl (yielded_undef (j := 23) (s := 57) rfl ((ev 23 57 rfl p23).trans vv23)) vv32 (hS)
      | 33 =>
        simp only [List.getElem?_toArray, List.getElem?_cons_zero, List.getElem?_cons_succ, Option.some.injEq] at ho
        subst ho
        have p32 : b 32 = true := hd ⟨32, .data⟩ (by simp) rfl
        have p23 : b 23 = true := hd ⟨23, .guard⟩ (by simp) rfl
        exact does_pass_none rfl (yielded_undef (j := 23) (s := 57) rfl ((ev 23 57 rfl p23).trans vv23)) vv33 (hS)
      | 34 =>
        simp only [List.getElem?_toArray, List.getElem?_cons_zero, List.getElem?_cons_succ, Option.some.injEq] at ho
        subst ho
        have p33 : b 33 = true := hd ⟨33, .data⟩ (by simp) rfl
        have p23 : b 23 = true := hd ⟨23, .guard⟩ (by simp) rfl
        exact does_pass_none rfl (yielded_undef (j := 23) (s := 57) rfl ((ev 23 57 rfl p23).trans vv23)) vv34 (hS)
      | 35 =>
        simp only [List.getElem?_toArray, List.getElem?_cons_zero, List.getElem?_cons_succ, Option.some.injEq] at ho
        subst ho
        have p34 : b 34 = true := hd ⟨34, .data⟩ (by simp) rfl
        have p23 : b 23 = true := hd ⟨23, .guard⟩ (by simp) rfl
        exact does_pass_none rfl (yielded_undef (j := 23) (s := 57) rfl ((ev 23 57 rfl p23).trans vv23)) vv35 (hS)
      | 36 =>
        simp only [List.getElem?_toArray, List.getElem?_cons_zero, List.getElem?_cons_succ, Option.some.injEq] at ho
        subst ho
        have p23 : b 23 = true := hd ⟨23, .guard⟩ (by simp) rfl
        exact does_pass_none rfl (yielded_undef (j := 23) (s := 57) rfl ((ev 23 57 rfl p23).trans vv23)) vv36 (hS)
      | 37 =>
        simp only [List.getElem?_toArray, List.getElem?_cons_zero, List.getElem?_cons_succ, Option.some.injEq] at ho
        subst ho
        have p35 : b 35 = true := hd ⟨35, .data⟩ (by simp) rfl
        have p36 : b 36 = true := hd ⟨36, .data⟩ (by simp) rfl
        have p23 : b 23 = true := hd ⟨23, .guard⟩ (by simp) rfl
        exact does_pass_none rfl (yielded_undef (j := 23) (s := 57) rfl ((ev 23 57 rfl p23).trans vv23)) vv37 (hS)
      | 38 =>
        simp only [List.getElem?_toArray, List.getElem?_cons_zero, List.getElem?_cons_succ, Option.some.injEq] at ho
        subst ho
        have p37 : b 37 = true := hd ⟨37, .data⟩ (by simp) rfl
        have p23 : b 23 = true := hd ⟨23, .guard⟩ (by simp) rfl
        exact does_pass_none rfl (yielded_undef (j := 23) (s := 57) rfl ((ev 23 57 rfl p23).trans vv23)) vv38 (hS)
      | 39 =>
        simp only [List.getElem?_toArray, List.getElem?_cons_zero, List.getElem?_cons_succ, Option.some.injEq] at ho
        subst ho
        have p38 : b 38 = true := hd ⟨38, .data⟩ (by simp) rfl
        have p23 : b 23 = true := hd ⟨23, .guard⟩ (by simp) rfl
        exact does_pass_none rfl (yielded_undef (j := 23) (s := 57) rfl ((ev 23 57 rfl p23).trans vv23)) vv39 (hS)
      | 40 =>
        simp only [List.getElem?_toArray, List.getElem?_cons_zero, List.getElem?_cons_succ, Option.some.injEq] at ho
        subst ho
        have p31 : b 31 = true := hd ⟨31, .data⟩ (by simp) rfl
        have p39 : b 39 = true := hd ⟨39, .data⟩ (by simp) rfl
        have p23 : b 23 = true := hd ⟨23, .guard⟩ (by simp) rfl
        exact does_pass_none rfl (yielded_undef (j := 23) (s := 57) rfl ((ev 23 57 rfl p23).trans vv23)) vv40 (hS)
      | 41 =>
        simp only [List.getElem?_toArray, List.getElem?_cons_zero, List.getElem?_cons_succ, Option.some.injEq] at ho
        subst ho
        have p23 : b 23 = true := hd ⟨23, .data⟩ (by simp) rfl
        have p40 : b 40 = true := hd ⟨40, .data⟩ (by simp) rfl
        have p20 : b 20 = true := hd ⟨20, .guard⟩ (by simp) rfl
        exact does_pass rfl (yl 20 54 false rfl p20 vv20) (by decide) vv41 (hS)
      | 42 =>
        simp only [List.getElem?_toArray, List.getElem?_cons_zero, List.getElem?_cons_succ, Option.some.injEq] at ho
        subst ho
        have p20 : b 20 = true := hd ⟨20, .data⟩ (by simp) rfl
        have p41 : b 41 = true := hd ⟨41, .data⟩ (by simp) rfl
        have e54 := (ev 20 54 rfl p20).trans vv20
        rw [vv42]
        refine does_value rfl (by intro c h; cases h) (w' := W) ?_ (hS)
        · simp [execOp, go_sem, e54]
      | k + 43 => simp at ho
    · intro b' W hS _
      subst hLe
      exact hQ _ _ _ _ _ _ _ _ _ _ _ _ _ _ _ _ _ _ _ _ _ _ _ _ _ _ _ _ _ _ _ _ _ _ _ _ _ _ _ _ _ _ W hS
  · have hpn : ((pn : Int) == 0) = true := by simp; omega
    subst hd
    subst ho
    obtain ⟨LL, hLe⟩ : ∃ LL : List (Option Tmp × Value), LL = [(some 34, .pointer (some ⟨r, 0, none⟩)), (some 35, .pointer (some ⟨r, 0, none⟩)), (some 36, .pointer (some ⟨r, 2, none⟩)), (some 37, .slice (some ⟨gr, 0, none⟩) n cq), (some 38, .int .i64 (ix : Nat)), (some 39, .pointer (some ⟨gr, ix * 5, none⟩)), (some 40, .pointer (some ⟨gr, ix * 5 + 1, none⟩)), (some 41, .int .i64 (pn : Nat)), (some 42, .bool true), (some 43, .bool true), (some 44, .pointer (some ⟨r, 0, none⟩)), (some 45, .pointer (some ⟨r, 0, none⟩)), (some 46, .pointer (some ⟨r, 2, none⟩)), (some 47, .slice (some ⟨gr, 0, none⟩) n cq), (some 48, .int .i64 (ix : Nat)), (some 49, .pointer (some ⟨gr, ix * 5, none⟩)), (some 50, .pointer (some ⟨gr, ix * 5 + 3, none⟩)), (some 51, .bool false), (some 52, .bool true), (some 53, .bool true), (some 54, .bool true), (some 55, .int .i64 (-1)), (some 56, .bool true), (some 57, .bool true), (some 58, undef), (some 59, undef), (some 60, undef), (some 61, undef), (some 62, undef), (some 63, undef), (some 64, undef), (some 65, undef), (some 66, undef), (some 67, undef), (some 68, undef), (some 69, undef), (some 70, undef), (some 71, undef), (some 72, undef), (some 73, undef), (some 74, undef), (some 75, .bool true), (some 76, .bool true)] := ⟨_, rfl⟩
    have vv0 : vals LL 0 = .pointer (some ⟨r, 0, none⟩) := by rw [hLe]; rfl
    have vv1 : vals LL 1 = .pointer (some ⟨r, 0, none⟩) := by rw [hLe]; rfl
    have vv2 : vals LL 2 = .pointer (some ⟨r, 2, none⟩) := by rw [hLe]; rfl
    have vv3 : vals LL 3 = .slice (some ⟨gr, 0, none⟩) n cq := by rw [hLe]; rfl
    have vv4 : vals LL 4 = .int .i64 (ix : Nat) := by rw [hLe]; rfl
    have vv5 : vals LL 5 = .pointer (some ⟨gr, ix * 5, none⟩) := by rw [hLe]; rfl
    have vv6 : vals LL 6 = .pointer (some ⟨gr, ix * 5 + 1, none⟩) := by rw [hLe]; rfl
    have vv7 : vals LL 7 = .int .i64 (pn : Nat) := by rw [hLe]; rfl
    have vv8 : vals LL 8 = .bool true := by rw [hLe]; rfl
    have vv9 : vals LL 9 = .bool true := by rw [hLe]; rfl
    have vv10 : vals LL 10 = .pointer (some ⟨r, 0, none⟩) := by rw [hLe]; rfl
    have vv11 : vals LL 11 = .pointer (some ⟨r, 0, none⟩) := by rw [hLe]; rfl
    have vv12 : vals LL 12 = .pointer (some ⟨r, 2, none⟩) := by rw [hLe]; rfl
    have vv13 : vals LL 13 = .slice (some ⟨gr, 0, none⟩) n cq := by rw [hLe]; rfl
    have vv14 : vals LL 14 = .int .i64 (ix : Nat) := by rw [hLe]; rfl
    have vv15 : vals LL 15 = .pointer (some ⟨gr, ix * 5, none⟩) := by rw [hLe]; rfl
    have vv16 : vals LL 16 = .pointer (some ⟨gr, ix * 5 + 3, none⟩) := by rw [hLe]; rfl
    have vv17 : vals LL 17 = .bool false := by rw [hLe]; rfl
    have vv18 : vals LL 18 = .bool true := by rw [hLe]; rfl
    have vv19 : vals LL 19 = .bool true := by rw [hLe]; rfl
    have vv20 : vals LL 20 = .bool true := by rw [hLe]; rfl
    have vv21 : vals LL 21 = .int .i64 (-1) := by rw [hLe]; rfl
    have vv22 : vals LL 22 = .bool true := by rw [hLe]; rfl
    have vv23 : vals LL 23 = .bool true := by rw [hLe]; rfl
    have vv24 : vals LL 24 = undef := by rw [hLe]; rfl
    have vv25 : vals LL 25 = undef := by rw [hLe]; rfl
    have vv26 : vals LL 26 = undef := by rw [hLe]; rfl
    have vv27 : vals LL 27 = undef := by rw [hLe]; rfl
    have vv28 : vals LL 28 = undef := by rw [hLe]; rfl
    have vv29 : vals LL 29 = undef := by rw [hLe]; rfl
    have vv30 : vals LL 30 = undef := by rw [hLe]; rfl
    have vv31 : vals LL 31 = undef := by rw [hLe]; rfl
    have vv32 : vals LL 32 = undef := by rw [hLe]; rfl
    have vv33 : vals LL 33 = undef := by rw [hLe]; rfl
    have vv34 : vals LL 34 = undef := by rw [hLe]; rfl
    have vv35 : vals LL 35 = undef := by rw [hLe]; rfl
    have vv36 : vals LL 36 = undef := by rw [hLe]; rfl
    have vv37 : vals LL 37 = undef := by rw [hLe]; rfl
    have vv38 : vals LL 38 = undef := by rw [hLe]; rfl
    have vv39 : vals LL 39 = undef := by rw [hLe]; rfl
    have vv40 : vals LL 40 = undef := by rw [hLe]; rfl
    have vv41 : vals LL 41 = .bool true := by rw [hLe]; rfl
    have vv42 : vals LL 42 = .bool true := by rw [hLe]; rfl
    refine region_laid hmix (by kernel_rfl) 130 hsz (by kernel_rfl) LL (by rw [hLe]; rfl) (fun _ W => Below w1.heap.size w1 W) below1 ?_ ?_
    · intro b W i o a hS hcl ho hb hd ev kp yl
      match i with
      | 0 =>
        simp only [List.getElem?_toArray, List.getElem?_cons_zero, Option.some.injEq] at ho
        subst ho
        have e0 : a.tmps[0]?.getD undef = .pointer (some ⟨r, 0, none⟩) := (kp 0 (by kernel_rfl)).trans b0
        rw [vv0]
        refine does_value rfl (by intro c h; cases h) (w' := W) ?_ (hS)
        · simp [execOp, go_sem, e0]
      | 1 =>
        simp only [List.getElem?_toArray, List.getElem?_cons_zero, List.getElem?_cons_succ, Option.some.injEq] at ho
        subst ho
        have p0 : b 0 = true := hd ⟨0, .data⟩ (by simp) rfl
        have e34 := (ev 0 34 rfl p0).trans vv0
        rw [vv1]
        refine does_value rfl (by intro c h; cases h) (w' := W) ?_ (hS)
        · simp [execOp, go_sem, e34]
      | 2 =>
        simp only [List.getElem?_toArray, List.getElem?_cons_zero, List.getElem?_cons_succ, Option.some.injEq] at ho
        subst ho
        have p1 : b 1 = true := hd ⟨1, .data⟩ (by simp) rfl
        have e35 := (ev 1 35 rfl p1).trans vv1
        rw [vv2]
        refine does_value rfl (by intro c h; cases h) (w' := W) ?_ (hS)
        · simp [execOp, go_sem, e35]
      | 3 =>
        simp only [List.getElem?_toArray, List.getElem?_cons_zero, List.getElem?_cons_succ, Option.some.injEq] at ho
        subst ho
        have p2 : b 2 = true := hd ⟨2, .data⟩ (by simp) rfl
        have e36 := (ev 2 36 rfl p2).trans vv2
        have hl := (hS.cell (p := ⟨r, 2, none⟩) (cell_lt c2)).trans c2
        rw [vv3]
        refine does_value rfl (by intro c h; cases h) (w' := W) ?_ (hS)
        · simp [execOp, go_sem, e36, hl]
      | 4 =>
        simp only [List.getElem?_toArray, List.getElem?_cons_zero, List.getElem?_cons_succ, Option.some.injEq] at ho
        subst ho
        have e7 : a.tmps[7]?.getD undef = .int .i64 (ix : Nat) := (kp 7 (by kernel_rfl)).trans b7
        rw [vv4]
        refine does_value rfl (by intro c h; cases h) (w' := W) ?_ (hS)
        · simp [execOp, go_sem, e7]
      | 5 =>
        simp only [List.getElem?_toArray, List.getElem?_cons_zero, List.getElem?_cons_succ, Option.some.injEq] at ho
        subst ho
        have p3 : b 3 = true := hd ⟨3, .data⟩ (by simp) rfl
        have p4 : b 4 = true := hd ⟨4, .data⟩ (by simp) rfl
        have e37 := (ev 3 37 rfl p3).trans vv3
        have e38 := (ev 4 38 rfl p4).trans vv4
        rw [vv5]
        refine does_value rfl (by intro c h; cases h) (w' := W) ?_ (hS)
        · simp [execOp, go_sem, e37, e38, hlt]
      | 6 =>
        simp only [List.getElem?_toArray, List.getElem?_cons_zero, List.getElem?_cons_succ, Option.some.injEq] at ho
        subst ho
        have p5 : b 5 = true := hd ⟨5, .data⟩ (by simp) rfl
        have e39 := (ev 5 39 rfl p5).trans vv5
        rw [vv6]
        refine does_value rfl (by intro c h; cases h) (w' := W) ?_ (hS)
        · simp [execOp, go_sem, e39]
      | 7 =>
        simp only [List.getElem?_toArray, List.getElem?_cons_zero, List.getElem?_cons_succ, Option.some.injEq] at ho
        subst ho
        have p6 : b 6 = true := hd ⟨6, .data⟩ (by simp) rfl
        have e40 := (ev 6 40 rfl p6).trans vv6
        have hl := (hS.cell (p := ⟨gr, ix * 5 + 1, none⟩) (cell_lt d1)).trans d1
        rw [vv7]
        refine does_value rfl (by intro c h; cases h) (w' := W) ?_ (hS)
        · simp [execOp, go_sem, e40, hl]
      | 8 =>
        simp only [List.getElem?_toArray, List.getElem?_cons_zero, List.getElem?_cons_succ, Option.some.injEq] at ho
        subst ho
        have p7 : b 7 = true := hd ⟨7, .data⟩ (by simp) rfl
        have e41 := (ev 7 41 rfl p7).trans vv7
        rw [vv8]
        refine does_value rfl (by intro c h; cases h) (w' := W) ?_ (hS)
        · simp [execOp, go_sem, e41, hpn]
      | 9 =>
        simp only [List.getElem?_toArray, List.getElem?_cons_zero, List.getElem?_cons_succ, Option.some.injEq] at ho
        subst ho
        have p8 : b 8 = true := hd ⟨8, .data⟩ (by simp) rfl
        have e42 := (ev 8 42 rfl p8).trans vv8
        rw [vv9]
        refine does_value rfl (by intro c h; cases h) (w' := W) ?_ (hS)
        · simp [execOp, go_sem, e42]
      | 10 =>
        simp only [List.getElem?_toArray, List.getElem?_cons_zero, List.getElem?_cons_succ, Option.some.injEq] at ho
        subst ho
        have p9 : b 9 = true := hd ⟨9, .guard⟩ (by simp) rfl
        have e0 : a.tmps[0]?.getD undef = .pointer (some ⟨r, 0, none⟩) := (kp 0 (by kernel_rfl)).trans b0
        rw [vv10]
        refine does_value_g rfl (yl 9 43 true rfl p9 vv9) (by intro c h; cases h) (w' := W) ?_ (hS)
        · simp [execOp, go_sem, e0]
      | 11 =>
        simp only [List.getElem?_toArray, List.getElem?_cons_zero, List.getElem?_cons_succ, Option.some.injEq] at ho
        subst ho
        have p10 : b 10 = true := hd ⟨10, .data⟩ (by simp) rfl
        have p9 : b 9 = true := hd ⟨9, .guard⟩ (by simp) rfl
        have e44 := (ev 10 44 rfl p10).trans vv10
        rw [vv11]
        refine does_value_g rfl (yl 9 43 true rfl p9 vv9) (by intro c h; cases h) (w' := W) ?_ (hS)
        · simp [execOp, go_sem, e44]
      | 12 =>
        simp only [List.getElem?_toArray, List.getElem?_cons_zero, List.getElem?_cons_succ, Option.some.injEq] at ho
        subst ho
        have p11 : b 11 = true := hd ⟨11, .data⟩ (by simp) rfl
        have p9 : b 9 = true := hd ⟨9, .guard⟩ (by simp) rfl
        have e45 := (ev 11 45 rfl p11).trans vv11
        rw [vv12]
        refine does_value_g rfl (yl 9 43 true rfl p9 vv9) (by intro c h; cases h) (w' := W) ?_ (hS)
        · simp [execOp, go_sem, e45]
      | 13 =>
        simp only [List.getElem?_toArray, List.getElem?_cons_zero, List.getElem?_cons_succ, Option.some.injEq] at ho
        subst ho
        have p12 : b 12 = true := hd ⟨12, .data⟩ (by simp) rfl
        have p9 : b 9 = true := hd ⟨9, .guard⟩ (by simp) rfl
        have e46 := (ev 12 46 rfl p12).trans vv12
        have hl := (hS.cell (p := ⟨r, 2, none⟩) (cell_lt c2)).trans c2
        rw [vv13]
        refine does_value_g rfl (yl 9 43 true rfl p9 vv9) (by intro c h; cases h) (w' := W) ?_ (hS)
        · simp [execOp, go_sem, e46, hl]
      | 14 =>
        simp only [List.getElem?_toArray, List.getElem?_cons_zero, List.getElem?_cons_succ, Option.some.injEq] at ho
        subst ho
        have p9 : b 9 = true := hd ⟨9, .guard⟩ (by simp) rfl
        have e7 : a.tmps[7]?.getD undef = .int .i64 (ix : Nat) := (kp 7 (by kernel_rfl)).trans b7
        rw [vv14]
        refine does_value_g rfl (yl 9 43 true rfl p9 vv9) (by intro c h; cases h) (w' := W) ?_ (hS)
        · simp [execOp, go_sem, e7]
      | 15 =>
        simp only [List.getElem?_toArray, List.getElem?_cons_zero, List.getElem?_cons_succ, Option.some.injEq] at ho
        subst ho
        have p13 : b 13 = true := hd ⟨13, .data⟩ (by simp) rfl
        have p14 : b 14 = true := hd ⟨14, .data⟩ (by simp) rfl
        have p9 : b 9 = true := hd ⟨9, .guard⟩ (by simp) rfl
        have e47 := (ev 13 47 rfl p13).trans vv13
        have e48 := (ev 14 48 rfl p14).trans vv14
        rw [vv15]
        refine does_value_g rfl (yl 9 43 true rfl p9 vv9) (by intro c h; cases h) (w' := W) ?_ (hS)
        · simp [execOp, go_sem, e47, e48, hlt]
      | 16 =>
        simp only [List.getElem?_toArray, List.getElem?_cons_zero, List.getElem?_cons_succ, Option.some.injEq] at ho
        subst ho
        have p15 : b 15 = true := hd ⟨15, .data⟩ (by simp) rfl
        have p9 : b 9 = true := hd ⟨9, .guard⟩ (by simp) rfl
        have e49 := (ev 15 49 rfl p15).trans vv15
        rw [vv16]
        refine does_value_g rfl (yl 9 43 true rfl p9 vv9) (by intro c h; cases h) (w' := W) ?_ (hS)
        · simp [execOp, go_sem, e49]
      | 17 =>
        simp only [List.getElem?_toArray, List.getElem?_cons_zero, List.getElem?_cons_succ, Option.some.injEq] at ho
        subst ho
        have p16 : b 16 = true := hd ⟨16, .data⟩ (by simp) rfl
        have p9 : b 9 = true := hd ⟨9, .guard⟩ (by simp) rfl
        have e50 := (ev 16 50 rfl p16).trans vv16
        have hl := (hS.cell (p := ⟨gr, ix * 5 + 3, none⟩) (cell_lt d3)).trans d3
        rw [vv17]
        refine does_value_g rfl (yl 9 43 true rfl p9 vv9) (by intro c h; cases h) (w' := W) ?_ (hS)
        · simp [execOp, go_sem, e50, hl]
      | 18 =>
        simp only [List.getElem?_toArray, List.getElem?_cons_zero, List.getElem?_cons_succ, Option.some.injEq] at ho
        subst ho
        have p17 : b 17 = true := hd ⟨17, .data⟩ (by simp) rfl
        have p9 : b 9 = true := hd ⟨9, .guard⟩ (by simp) rfl
        have e51 := (ev 17 51 rfl p17).trans vv17
        rw [vv18]
        refine does_value_g rfl (yl 9 43 true rfl p9 vv9) (by intro c h; cases h) (w' := W) ?_ (hS)
        · simp [execOp, go_sem, e51]
      | 19 =>
        simp only [List.getElem?_toArray, List.getElem?_cons_zero, List.getElem?_cons_succ, Option.some.injEq] at ho
        subst ho
        have p9 : b 9 = true := hd ⟨9, .data⟩ (by simp) rfl
        have p18 : b 18 = true := hd ⟨18, .data⟩ (by simp) rfl
        have e43 := (ev 9 43 rfl p9).trans vv9
        have e52 := (ev 18 52 rfl p18).trans vv18
        rw [vv19]
        refine does_value rfl (by intro c h; cases h) (w' := W) ?_ (hS)
        · simp [execOp, go_sem, e43, e52]
      | 20 =>
        simp only [List.getElem?_toArray, List.getElem?_cons_zero, List.getElem?_cons_succ, Option.some.injEq] at ho
        subst ho
        have p19 : b 19 = true := hd ⟨19, .data⟩ (by simp) rfl
        have e53 := (ev 19 53 rfl p19).trans vv19
        rw [vv20]
        refine does_value rfl (by intro c h; cases h) (w' := W) ?_ (hS)
        · simp [execOp, go_sem, e53]
      | 21 =>
        simp only [List.getElem?_toArray, List.getElem?_cons_zero, List.getElem?_cons_succ, Option.some.injEq] at ho
        subst ho
        have p20 : b 20 = true := hd ⟨20, .guard⟩ (by simp) rfl
        have e6 : a.tmps[6]?.getD undef = .int .i64 (-1) := (kp 6 (by kernel_rfl)).trans b6
        rw [vv21]
        refine does_value_g rfl (yl 20 54 true rfl p20 vv20) (by intro c h; cases h) (w' := W) ?_ (hS)
        · simp [execOp, go_sem, e6]
      | 22 =>
        simp only [List.getElem?_toArray, List.getElem?_cons_zero, List.getElem?_cons_succ, Option.some.injEq] at ho
        subst ho
        have p21 : b 21 = true := hd ⟨21, .data⟩ (by simp) rfl
        have p20 : b 20 = true := hd ⟨20, .guard⟩ (by simp) rfl
        have e55 := (ev 21 55 rfl p21).trans vv21
        rw [vv22]
        refine does_value_g rfl (yl 20 54 true rfl p20 vv20) (by intro c h; cases h) (w' := W) ?_ (hS)
        · simp [execOp, go_sem, e55]
      | 23 =>
        simp only [List.getElem?_toArray, List.getElem?_cons_zero, List.getElem?_cons_succ, Option.some.injEq] at ho
        subst ho
        have p22 : b 22 = true := hd ⟨22, .data⟩ (by simp) rfl
        have p20 : b 20 = true := hd ⟨20, .guard⟩ (by simp) rfl
        have e56 := (ev 22 56 rfl p22).trans vv22
        rw [vv23]
        refine does_value_g rfl (yl 20 54 true rfl p20 vv20) (by intro c h; cases h) (w' := W) ?_ (hS)
        · simp [execOp, go_sem, e56]
      | 24 =>
        simp only [List.getElem?_toArray, List.getElem?_cons_zero, List.getElem?_cons_succ, Option.some.injEq] at ho
        subst ho
        have p23 : b 23 = true := hd ⟨23, .guard⟩ (by simp) rfl
        exact does_pass rfl (yl 23 57 true rfl p23 vv23) (by decide) vv24 (hS)
      | 25 =>
        simp only [List.getElem?_toArray, List.getElem?_cons_zero, List.getElem?_cons_succ, Option.some.injEq] at ho
        subst ho
        have p24 : b 24 = true := hd ⟨24, .data⟩ (by simp) rfl
        have p23 : b 23 = true := hd ⟨23, .guard⟩ (by simp) rfl
        exact does_pass rfl (yl 23 57 true rfl p23 vv23) (by decide) vv25 (hS)
      | 26 =>
        simp only [List.getElem?_toArray, List.getElem?_cons_zero, List.getElem?_cons_succ, Option.some.injEq] at ho
        subst ho
        have p25 : b 25 = true := hd ⟨25, .data⟩ (by simp) rfl
        have p23 : b 23 = true := hd ⟨23, .guard⟩ (by simp) rfl
        exact does_pass rfl (yl 23 57 true rfl p23 vv23) (by decide) vv26 (hS)
      | 27 =>
        simp only [List.getElem?_toArray, List.getElem?_cons_zero, List.getElem?_cons_succ, Option.some.injEq] at ho
        subst ho
        have p26 : b 26 = true := hd ⟨26, .data⟩ (by simp) rfl
        have p23 : b 23 = true := hd ⟨23, .guard⟩ (by simp) rfl
        exact does_pass rfl (yl 23 57 true rfl p23 vv23) (by decide) vv27 (hS)
      | 28 =>
        simp only [List.getElem?_toArray, List.getElem?_cons_zero, List.getElem?_cons_succ, Option.some.injEq] at ho
        subst ho
        have p23 : b 23 = true := hd ⟨23, .guard⟩ (by simp) rfl
        exact does_pass rfl (yl 23 57 true rfl p23 vv23) (by decide) vv28 (hS)
      | 29 =>
        simp only [List.getElem?_toArray, List.getElem?_cons_zero, List.getElem?_cons_succ, Option.some.injEq] at ho
        subst ho
        have p27 : b 27 = true := hd ⟨27, .data⟩ (by simp) rfl
        have p28 : b 28 = true := hd ⟨28, .data⟩ (by simp) rfl
        have p23 : b 23 = true := hd ⟨23, .guard⟩ (by simp) rfl
        exact does_pass rfl (yl 23 57 true rfl p23 vv23) (by decide) vv29 (hS)
      | 30 =>
        simp only [List.getElem?_toArray, List.getElem?_cons_zero, List.getElem?_cons_succ, Option.some.injEq] at ho
        subst ho
        have p29 : b 29 = true := hd ⟨29, .data⟩ (by simp) rfl
        have p23 : b 23 = true := hd ⟨23, .guard⟩ (by simp) rfl
        exact does_pass rfl (yl 23 57 true rfl p23 vv23) (by decide) vv30 (hS)
      | 31 =>
        simp only [List.getElem?_toArray, List.getElem?_cons_zero, List.getElem?_cons_succ, Option.some.injEq] at ho
        subst ho
        have p30 : b 30 = true := hd ⟨30, .data⟩ (by simp) rfl
        have p23 : b 23 = true := hd ⟨23, .guard⟩ (by simp) rfl
        exact does_pass rfl (yl 23 57 true rfl p23 vv23) (by decide) vv31 (hS)
      | 32 =>
        simp only [List.getElem?_toArray, List.getElem?_cons_zero, List.getElem?_cons_succ, Option.some.injEq] at ho
        subst ho
        have p23 : b 23 = true := hd ⟨23, .guard⟩ (by simp) rfl
        exact does_pass rfl (yl 23 57 true rfl p23 vv23) (by decide) vv32 (hS)
      | 33 =>
        simp only [List.getElem?_toArray, List.getElem?_cons_zero, List.getElem?_cons_succ, Option.some.injEq] at ho
        subst ho
        have p32 : b 32 = true := hd ⟨32, .data⟩ (by simp) rfl
        have p23 : b 23 = true := hd ⟨23, .guard⟩ (by simp) rfl
        exact does_pass rfl (yl 23 57 true rfl p23 vv23) (by decide) vv33 (hS)
      | 34 =>
        simp only [List.getElem?_toArray, List.getElem?_cons_zero, List.getElem?_cons_succ, Option.some.injEq] at ho
        subst ho
        have p33 : b 33 = true := hd ⟨33, .data⟩ (by simp) rfl
        have p23 : b 23 = true := hd ⟨23, .guard⟩ (by simp) rfl
        exact does_pass rfl (yl 23 57 true rfl p23 vv23) (by decide) vv34 (hS)
      | 35 =>
        simp only [List.getElem?_toArray, List.getElem?_cons_zero, List.getElem?_cons_succ, Option.some.injEq] at ho
        subst ho
        have p34 : b 34 = true := hd ⟨34, .data⟩ (by simp) rfl
        have p23 : b 23 = true := hd ⟨23, .guard⟩ (by simp) rfl
        exact does_pass rfl (yl 23 57 true rfl p23 vv23) (by decide) vv35 (hS)
      | 36 =>
        simp only [List.getElem?_toArray, List.getElem?_cons_zero, List.getElem?_cons_succ, Option.some.injEq] at ho
        subst ho
        have p23 : b 23 = true := hd ⟨23, .guard⟩ (by simp) rfl
        exact does_pass rfl (yl 23 57 true rfl p23 vv23) (by decide) vv36 (hS)
      | 37 =>
        simp only [List.getElem?_toArray, List.getElem?_cons_zero, List.getElem?_cons_succ, Option.some.injEq] at ho
        subst ho
        have p35 : b 35 = true := hd ⟨35, .data⟩ (by simp) rfl
        have p36 : b 36 = true := hd ⟨36, .data⟩ (by simp) rfl
        have p23 : b 23 = true := hd ⟨23, .guard⟩ (by simp) rfl
        exact does_pass rfl (yl 23 57 true rfl p23 vv23) (by decide) vv37 (hS)
      | 38 =>
        simp only [List.getElem?_toArray, List.getElem?_cons_zero, List.getElem?_cons_succ, Option.some.injEq] at ho
        subst ho
        have p37 : b 37 = true := hd ⟨37, .data⟩ (by simp) rfl
        have p23 : b 23 = true := hd ⟨23, .guard⟩ (by simp) rfl
        exact does_pass rfl (yl 23 57 true rfl p23 vv23) (by decide) vv38 (hS)
      | 39 =>
        simp only [List.getElem?_toArray, List.getElem?_cons_zero, List.getElem?_cons_succ, Option.some.injEq] at ho
        subst ho
        have p38 : b 38 = true := hd ⟨38, .data⟩ (by simp) rfl
        have p23 : b 23 = true := hd ⟨23, .guard⟩ (by simp) rfl
        exact does_pass rfl (yl 23 57 true rfl p23 vv23) (by decide) vv39 (hS)
      | 40 =>
        simp only [List.getElem?_toArray, List.getElem?_cons_zero, List.getElem?_cons_succ, Option.some.injEq] at ho
        subst ho
        have p31 : b 31 = true := hd ⟨31, .data⟩ (by simp) rfl
        have p39 : b 39 = true := hd ⟨39, .data⟩ (by simp) rfl
        have p23 : b 23 = true := hd ⟨23, .guard⟩ (by simp) rfl
        exact does_pass rfl (yl 23 57 true rfl p23 vv23) (by decide) vv40 (hS)
      | 41 =>
        simp only [List.getElem?_toArray, List.getElem?_cons_zero, List.getElem?_cons_succ, Option.some.injEq] at ho
        subst ho
        have p23 : b 23 = true := hd ⟨23, .data⟩ (by simp) rfl
        have p40 : b 40 = true := hd ⟨40, .data⟩ (by simp) rfl
        have p20 : b 20 = true := hd ⟨20, .guard⟩ (by simp) rfl
        have e57 := (ev 23 57 rfl p23).trans vv23
        rw [vv41]
        refine does_value_g rfl (yl 20 54 true rfl p20 vv20) (by intro c h; cases h) (w' := W) ?_ (hS)
        · simp [execOp, go_sem, e57]
      | 42 =>
        simp only [List.getElem?_toArray, List.getElem?_cons_zero, List.getElem?_cons_succ, Option.some.injEq] at ho
        subst ho
        have p20 : b 20 = true := hd ⟨20, .data⟩ (by simp) rfl
        have p41 : b 41 = true := hd ⟨41, .data⟩ (by simp) rfl
        have e54 := (ev 20 54 rfl p20).trans vv20
        have e75 := (ev 41 75 rfl p41).trans vv41
        rw [vv42]
        refine does_value rfl (by intro c h; cases h) (w' := W) ?_ (hS)
        · simp [execOp, go_sem, e54, e75]
      | k + 43 => simp at ho
    · intro b' W hS _
      subst hLe
      exact hQ _ _ _ _ _ _ _ _ _ _ _ _ _ _ _ _ _ _ _ _ _ _ _ _ _ _ _ _ _ _ _ _ _ _ _ _ _ _ _ _ _ _ W hS
  · have hpn : ((pn : Int) == 0) = true := by simp; omega
    subst hd
    subst ho
    cases res with
    | true =>
      have hless : ui < uj := of_decide_eq_true hless
      obtain ⟨LL, hLe⟩ : ∃ LL : List (Option Tmp × Value), LL = [(some 34, .pointer (some ⟨r, 0, none⟩)), (some 35, .pointer (some ⟨r, 0, none⟩)), (some 36, .pointer (some ⟨r, 2, none⟩)), (some 37, .slice (some ⟨gr, 0, none⟩) n cq), (some 38, .int .i64 (ix : Nat)), (some 39, .pointer (some ⟨gr, ix * 5, none⟩)), (some 40, .pointer (some ⟨gr, ix * 5 + 1, none⟩)), (some 41, .int .i64 (pn : Nat)), (some 42, .bool true), (some 43, .bool true), (some 44, .pointer (some ⟨r, 0, none⟩)), (some 45, .pointer (some ⟨r, 0, none⟩)), (some 46, .pointer (some ⟨r, 2, none⟩)), (some 47, .slice (some ⟨gr, 0, none⟩) n cq), (some 48, .int .i64 (ix : Nat)), (some 49, .pointer (some ⟨gr, ix * 5, none⟩)), (some 50, .pointer (some ⟨gr, ix * 5 + 3, none⟩)), (some 51, .bool false), (some 52, .bool true), (some 53, .bool true), (some 54, .bool true), (some 55, .int .i64 (j : Nat)), (some 56, .bool false), (some 57, .bool false), (some 58, .pointer (some ⟨r, 0, none⟩)), (some 59, .pointer (some ⟨r, 0, none⟩)), (some 60, .pointer (some ⟨r, 2, none⟩)), (some 61, .slice (some ⟨gr, 0, none⟩) n cq), (some 62, .int .i64 (ix : Nat)), (some 63, .pointer (some ⟨gr, ix * 5, none⟩)), (some 64, .pointer (some ⟨gr, ix * 5 + 2, none⟩)), (some 65, .int .i64 (ui : Nat)), (some 66, .pointer (some ⟨r, 0, none⟩)), (some 67, .pointer (some ⟨r, 0, none⟩)), (some 68, .pointer (some ⟨r, 2, none⟩)), (some 69, .slice (some ⟨gr, 0, none⟩) n cq), (some 70, .int .i64 (j : Nat)), (some 71, .pointer (some ⟨gr, j * 5, none⟩)), (some 72, .pointer (some ⟨gr, j * 5 + 2, none⟩)), (some 73, .int .i64 (uj : Nat)), (some 74, .bool true), (some 75, .bool true), (some 76, .bool true)] := ⟨_, rfl⟩
      have vv0 : vals LL 0 = .pointer (some ⟨r, 0, none⟩) := by rw [hLe]; rfl
      have vv1 : vals LL 1 = .pointer (some ⟨r, 0, none⟩) := by rw [hLe]; rfl
      have vv2 : vals LL 2 = .pointer (some ⟨r, 2, none⟩) := by rw [hLe]; rfl
      have vv3 : vals LL 3 = .slice (some ⟨gr, 0, none⟩) n cq := by rw [hLe]; rfl
      have vv4 : vals LL 4 = .int .i64 (ix : Nat) := by rw [hLe]; rfl
      have vv5 : vals LL 5 = .pointer (some ⟨gr, ix * 5, none⟩) := by rw [hLe]; rfl
      have vv6 : vals LL 6 = .pointer (some ⟨gr, ix * 5 + 1, none⟩) := by rw [hLe]; rfl
      have vv7 : vals LL 7 = .int .i64 (pn : Nat) := by rw [hLe]; rfl
      have vv8 : vals LL 8 = .bool true := by rw [hLe]; rfl
      have vv9 : vals LL 9 = .bool true := by rw [hLe]; rfl
      have vv10 : vals LL 10 = .pointer (some ⟨r, 0, none⟩) := by rw [hLe]; rfl
      have vv11 : vals LL 11 = .pointer (some ⟨r, 0, none⟩) := by rw [hLe]; rfl
      have vv12 : vals LL 12 = .pointer (some ⟨r, 2, none⟩) := by rw [hLe]; rfl
      have vv13 : vals LL 13 = .slice (some ⟨gr, 0, none⟩) n cq := by rw [hLe]; rfl
      have vv14 : vals LL 14 = .int .i64 (ix : Nat) := by rw [hLe]; rfl
      have vv15 : vals LL 15 = .pointer (some ⟨gr, ix * 5, none⟩) := by rw [hLe]; rfl
      have vv16 : vals LL 16 = .pointer (some ⟨gr, ix * 5 + 3, none⟩) := by rw [hLe]; rfl
      have vv17 : vals LL 17 = .bool false := by rw [hLe]; rfl
      have vv18 : vals LL 18 = .bool true := by rw [hLe]; rfl
      have vv19 : vals LL 19 = .bool true := by rw [hLe]; rfl
      have vv20 : vals LL 20 = .bool true := by rw [hLe]; rfl
      have vv21 : vals LL 21 = .int .i64 (j : Nat) := by rw [hLe]; rfl
      have vv22 : vals LL 22 = .bool false := by rw [hLe]; rfl
      have vv23 : vals LL 23 = .bool false := by rw [hLe]; rfl
      have vv24 : vals LL 24 = .pointer (some ⟨r, 0, none⟩) := by rw [hLe]; rfl
      have vv25 : vals LL 25 = .pointer (some ⟨r, 0, none⟩) := by rw [hLe]; rfl
      have vv26 : vals LL 26 = .pointer (some ⟨r, 2, none⟩) := by rw [hLe]; rfl
      have vv27 : vals LL 27 = .slice (some ⟨gr, 0, none⟩) n cq := by rw [hLe]; rfl
      have vv28 : vals LL 28 = .int .i64 (ix : Nat) := by rw [hLe]; rfl
      have vv29 : vals LL 29 = .pointer (some ⟨gr, ix * 5, none⟩) := by rw [hLe]; rfl
      have vv30 : vals LL 30 = .pointer (some ⟨gr, ix * 5 + 2, none⟩) := by rw [hLe]; rfl
      have vv31 : vals LL 31 = .int .i64 (ui : Nat) := by rw [hLe]; rfl
      have vv32 : vals LL 32 = .pointer (some ⟨r, 0, none⟩) := by rw [hLe]; rfl
      have vv33 : vals LL 33 = .pointer (some ⟨r, 0, none⟩) := by rw [hLe]; rfl
      have vv34 : vals LL 34 = .pointer (some ⟨r, 2, none⟩) := by rw [hLe]; rfl
      have vv35 : vals LL 35 = .slice (some ⟨gr, 0, none⟩) n cq := by rw [hLe]; rfl
      have vv36 : vals LL 36 = .int .i64 (j : Nat) := by rw [hLe]; rfl
      have vv37 : vals LL 37 = .pointer (some ⟨gr, j * 5, none⟩) := by rw [hLe]; rfl
      have vv38 : vals LL 38 = .pointer (some ⟨gr, j * 5 + 2, none⟩) := by rw [hLe]; rfl
      have vv39 : vals LL 39 = .int .i64 (uj : Nat) := by rw [hLe]; rfl
      have vv40 : vals LL 40 = .bool true := by rw [hLe]; rfl
      have vv41 : vals LL 41 = .bool true := by rw [hLe]; rfl
      have vv42 : vals LL 42 = .bool true := by rw [hLe]; rfl
      refine region_laid hmix (by kernel_rfl) 130 hsz (by kernel_rfl) LL (by rw [hLe]; rfl) (fun _ W => Below w1.heap.size w1 W) below1 ?_ ?_
      · intro b W i o a hS hcl ho hb hd ev kp yl
        match i with
        | 0 =>
          simp only [List.getElem?_toArray, List.getElem?_cons_zero, Option.some.injEq] at ho
          subst ho
          have e0 : a.tmps[0]?.getD undef = .pointer (some ⟨r, 0, none⟩) := (kp 0 (by kernel_rfl)).trans b0
          rw [vv0]
          refine does_value rfl (by intro c h; cases h) (w' := W) ?_ (hS)
          · simp [execOp, go_sem, e0]
        | 1 =>
          simp only [List.getElem?_toArray, List.getElem?_cons_zero, List.getElem?_cons_succ, Option.some.injEq] at ho
          subst ho
          have p0 : b 0 = true := hd ⟨0, .data⟩ (by simp) rfl
          have e34 := (ev 0 34 rfl p0).trans vv0
          rw [vv1]
          refine does_value rfl (by intro c h; cases h) (w' := W) ?_ (hS)
          · simp [execOp, go_sem, e34]
        | 2 =>
          simp only [List.getElem?_toArray, List.getElem?_cons_zero, List.getElem?_cons_succ, Option.some.injEq] at ho
          subst ho
          have p1 : b 1 = true := hd ⟨1, .data⟩ (by simp) rfl
          have e35 := (ev 1 35 rfl p1).trans vv1
          rw [vv2]
          refine does_value rfl (by intro c h; cases h) (w' := W) ?_ (hS)
          · simp [execOp, go_sem, e35]
        | 3 =>
          simp only [List.getElem?_toArray, List.getElem?_cons_zero, List.getElem?_cons_succ, Option.some.injEq] at ho
          subst ho
          have p2 : b 2 = true := hd ⟨2, .data⟩ (by simp) rfl
          have e36 := (ev 2 36 rfl p2).trans vv2
          have hl := (hS.cell (p := ⟨r, 2, none⟩) (cell_lt c2)).trans c2
          rw [vv3]
          refine does_value rfl (by intro c h; cases h) (w' := W) ?_ (hS)
          · simp [execOp, go_sem, e36, hl]
        | 4 =>
          simp only [List.getElem?_toArray, List.getElem?_cons_zero, List.getElem?_cons_succ, Option.some.injEq] at ho
          subst ho
          have e7 : a.tmps[7]?.getD undef = .int .i64 (ix : Nat) := (kp 7 (by kernel_rfl)).trans b7
          rw [vv4]
          refine does_value rfl (by intro c h; cases h) (w' := W) ?_ (hS)
          · simp [execOp, go_sem, e7]
        | 5 =>
          simp only [List.getElem?_toArray, List.getElem?_cons_zero, List.getElem?_cons_succ, Option.some.injEq] at ho
          subst ho
          have p3 : b 3 = true := hd ⟨3, .data⟩ (by simp) rfl
          have p4 : b 4 = true := hd ⟨4, .data⟩ (by simp) rfl
          have e37 := (ev 3 37 rfl p3).trans vv3
          have e38 := (ev 4 38 rfl p4).trans vv4
          rw [vv5]
          refine does_value rfl (by intro c h; cases h) (w' := W) ?_ (hS)
          · simp [execOp, go_sem, e37, e38, hlt]
        | 6 =>
          simp only [List.getElem?_toArray, List.getElem?_cons_zero, List.getElem?_cons_succ, Option.some.injEq] at ho
          subst ho
          have p5 : b 5 = true := hd ⟨5, .data⟩ (by simp) rfl
          have e39 := (ev 5 39 rfl p5).trans vv5
          rw [vv6]
          refine does_value rfl (by intro c h; cases h) (w' := W) ?_ (hS)
          · simp [execOp, go_sem, e39]
        | 7 =>
          simp only [List.getElem?_toArray, List.getElem?_cons_zero, List.getElem?_cons_succ, Option.some.injEq] at ho
          subst ho
          have p6 : b 6 = true := hd ⟨6, .data⟩ (by simp) rfl
          have e40 := (ev 6 40 rfl p6).trans vv6
          have hl := (hS.cell (p := ⟨gr, ix * 5 + 1, none⟩) (cell_lt d1)).trans d1
          rw [vv7]
          refine does_value rfl (by intro c h; cases h) (w' := W) ?_ (hS)
          · simp [execOp, go_sem, e40, hl]
        | 8 =>
          simp only [List.getElem?_toArray, List.getElem?_cons_zero, List.getElem?_cons_succ, Option.some.injEq] at ho
          subst ho
          have p7 : b 7 = true := hd ⟨7, .data⟩ (by simp) rfl
          have e41 := (ev 7 41 rfl p7).trans vv7
          rw [vv8]
          refine does_value rfl (by intro c h; cases h) (w' := W) ?_ (hS)
          · simp [execOp, go_sem, e41, hpn]
        | 9 =>
          simp only [List.getElem?_toArray, List.getElem?_cons_zero, List.getElem?_cons_succ, Option.some.injEq] at ho
          subst ho
          have p8 : b 8 = true := hd ⟨8, .data⟩ (by simp) rfl
          have e42 := (ev 8 42 rfl p8).trans vv8
          rw [vv9]
          refine does_value rfl (by intro c h; cases h) (w' := W) ?_ (hS)
          · simp [execOp, go_sem, e42]
        | 10 =>
          simp only [List.getElem?_toArray, List.getElem?_cons_zero, List.getElem?_cons_succ, Option.some.injEq] at ho
          subst ho
          have p9 : b 9 = true := hd ⟨9, .guard⟩ (by simp) rfl
          have e0 : a.tmps[0]?.getD undef = .pointer (some ⟨r, 0, none⟩) := (kp 0 (by kernel_rfl)).trans b0
          rw [vv10]
          refine does_value_g rfl (yl 9 43 true rfl p9 vv9) (by intro c h; cases h) (w' := W) ?_ (hS)
          · simp [execOp, go_sem, e0]
        | 11 =>
          simp only [List.getElem?_toArray, List.getElem?_cons_zero, List.getElem?_cons_succ, Option.some.injEq] at ho
          subst ho
          have p10 : b 10 = true := hd ⟨10, .data⟩ (by simp) rfl
          have p9 : b 9 = true := hd ⟨9, .guard⟩ (by simp) rfl
          have e44 := (ev 10 44 rfl p10).trans vv10
          rw [vv11]
          refine does_value_g rfl (yl 9 43 true rfl p9 vv9) (by intro c h; cases h) (w' := W) ?_ (hS)
          · simp [execOp, go_sem, e44]
        | 12 =>
          simp only [List.getElem?_toArray, List.getElem?_cons_zero, List.getElem?_cons_succ, Option.some.injEq] at ho
          subst ho
          have p11 : b 11 = true := hd ⟨11, .data⟩ (by simp) rfl
          have p9 : b 9 = true := hd ⟨9, .guard⟩ (by simp) rfl
          have e45 := (ev 11 45 rfl p11).trans vv11
          rw [vv12]
          refine does_value_g rfl (yl 9 43 true rfl p9 vv9) (by intro c h; cases h) (w' := W) ?_ (hS)
          · simp [execOp, go_sem, e45]
        | 13 =>
          simp only [List.getElem?_toArray, List.getElem?_cons_zero, List.getElem?_cons_succ, Option.some.injEq] at ho
          subst ho
          have p12 : b 12 = true := hd ⟨12, .data⟩ (by simp) rfl
          have p9 : b 9 = true := hd ⟨9, .guard⟩ (by simp) rfl
          have e46 := (ev 12 46 rfl p12).trans vv12
          have hl := (hS.cell (p := ⟨r, 2, none⟩) (cell_lt c2)).trans c2
          rw [vv13]
          refine does_value_g rfl (yl 9 43 true rfl p9 vv9) (by intro c h; cases h) (w' := W) ?_ (hS)
          · simp [execOp, go_sem, e46, hl]
        | 14 =>
          simp only [List.getElem?_toArray, List.getElem?_cons_zero, List.getElem?_cons_succ, Option.some.injEq] at ho
          subst ho
          have p9 : b 9 = true := hd ⟨9, .guard⟩ (by simp) rfl
          have e7 : a.tmps[7]?.getD undef = .int .i64 (ix : Nat) := (kp 7 (by kernel_rfl)).trans b7
          rw [vv14]
          refine does_value_g rfl (yl 9 43 true rfl p9 vv9) (by intro c h; cases h) (w' := W) ?_ (hS)
          · simp [execOp, go_sem, e7]
        | 15 =>
          simp only [List.getElem?_toArray, List.getElem?_cons_zero, List.getElem?_cons_succ, Option.some.injEq] at ho
          subst ho
          have p13 : b 13 = true := hd ⟨13, .data⟩ (by simp) rfl
          have p14 : b 14 = true := hd ⟨14, .data⟩ (by simp) rfl
          have p9 : b 9 = true := hd ⟨9, .guard⟩ (by simp) rfl
          have e47 := (ev 13 47 rfl p13).trans vv13
          have e48 := (ev 14 48 rfl p14).trans vv14
          rw [vv15]
          refine does_value_g rfl (yl 9 43 true rfl p9 vv9) (by intro c h; cases h) (w' := W) ?_ (hS)
          · simp [execOp, go_sem, e47, e48, hlt]
        | 16 =>
          simp only [List.getElem?_toArray, List.getElem?_cons_zero, List.getElem?_cons_succ, Option.some.injEq] at ho
          subst ho
          have p15 : b 15 = true := hd ⟨15, .data⟩ (by simp) rfl
          have p9 : b 9 = true := hd ⟨9, .guard⟩ (by simp) rfl
          have e49 := (ev 15 49 rfl p15).trans vv15
          rw [vv16]
          refine does_value_g rfl (yl 9 43 true rfl p9 vv9) (by intro c h; cases h) (w' := W) ?_ (hS)
          · simp [execOp, go_sem, e49]
        | 17 =>
          simp only [List.getElem?_toArray, List.getElem?_cons_zero, List.getElem?_cons_succ, Option.some.injEq] at ho
          subst ho
          have p16 : b 16 = true := hd ⟨16, .data⟩ (by simp) rfl
          have p9 : b 9 = true := hd ⟨9, .guard⟩ (by simp) rfl
          have e50 := (ev 16 50 rfl p16).trans vv16
          have hl := (hS.cell (p := ⟨gr, ix * 5 + 3, none⟩) (cell_lt d3)).trans d3
          rw [vv17]
          refine does_value_g rfl (yl 9 43 true rfl p9 vv9) (by intro c h; cases h) (w' := W) ?_ (hS)
          · simp [execOp, go_sem, e50, hl]
        | 18 =>
          simp only [List.getElem?_toArray, List.getElem?_cons_zero, List.getElem?_cons_succ, Option.some.injEq] at ho
          subst ho
          have p17 : b 17 = true := hd ⟨17, .data⟩ (by simp) rfl
          have p9 : b 9 = true := hd ⟨9, .guard⟩ (by simp) rfl
          have e51 := (ev 17 51 rfl p17).trans vv17
          rw [vv18]
          refine does_value_g rfl (yl 9 43 true rfl p9 vv9) (by intro c h; cases h) (w' := W) ?_ (hS)
          · simp [execOp, go_sem, e51]
        | 19 =>
          simp only [List.getElem?_toArray, List.getElem?_cons_zero, List.getElem?_cons_succ, Option.some.injEq] at ho
          subst ho
          have p9 : b 9 = true := hd ⟨9, .data⟩ (by simp) rfl
          have p18 : b 18 = true := hd ⟨18, .data⟩ (by simp) rfl
          have e43 := (ev 9 43 rfl p9).trans vv9
          have e52 := (ev 18 52 rfl p18).trans vv18
          rw [vv19]
          refine does_value rfl (by intro c h; cases h) (w' := W) ?_ (hS)
          · simp [execOp, go_sem, e43, e52]
        | 20 =>
          simp only [List.getElem?_toArray, List.getElem?_cons_zero, List.getElem?_cons_succ, Option.some.injEq] at ho
          subst ho
          have p19 : b 19 = true := hd ⟨19, .data⟩ (by simp) rfl
          have e53 := (ev 19 53 rfl p19).trans vv19
          rw [vv20]
          refine does_value rfl (by intro c h; cases h) (w' := W) ?_ (hS)
          · simp [execOp, go_sem, e53]
        | 21 =>
          simp only [List.getElem?_toArray, List.getElem?_cons_zero, List.getElem?_cons_succ, Option.some.injEq] at ho
          subst ho
          have p20 : b 20 = true := hd ⟨20, .guard⟩ (by simp) rfl
          have e6 : a.tmps[6]?.getD undef = .int .i64 (j : Nat) := (kp 6 (by kernel_rfl)).trans b6
          rw [vv21]
          refine does_value_g rfl (yl 20 54 true rfl p20 vv20) (by intro c h; cases h) (w' := W) ?_ (hS)
          · simp [execOp, go_sem, e6]
        | 22 =>
          simp only [List.getElem?_toArray, List.getElem?_cons_zero, List.getElem?_cons_succ, Option.some.injEq] at ho
          subst ho
          have p21 : b 21 = true := hd ⟨21, .data⟩ (by simp) rfl
          have p20 : b 20 = true := hd ⟨20, .guard⟩ (by simp) rfl
          have e55 := (ev 21 55 rfl p21).trans vv21
          rw [vv22]
          refine does_value_g rfl (yl 20 54 true rfl p20 vv20) (by intro c h; cases h) (w' := W) ?_ (hS)
          · simp [execOp, go_sem, e55]
        | 23 =>
          simp only [List.getElem?_toArray, List.getElem?_cons_zero, List.getElem?_cons_succ, Option.some.injEq] at ho
          subst ho
          have p22 : b 22 = true := hd ⟨22, .data⟩ (by simp) rfl
          have p20 : b 20 = true := hd ⟨20, .guard⟩ (by simp) rfl
          have e56 := (ev 22 56 rfl p22).trans vv22
          rw [vv23]
          refine does_value_g rfl (yl 20 54 true rfl p20 vv20) (by intro c h; cases h) (w' := W) ?_ (hS)
          · simp [execOp, go_sem, e56]
        | 24 =>
          simp only [List.getElem?_toArray, List.getElem?_cons_zero, List.getElem?_cons_succ, Option.some.injEq] at ho
          subst ho
          have p23 : b 23 = true := hd ⟨23, .guard⟩ (by simp) rfl
          have e0 : a.tmps[0]?.getD undef = .pointer (some ⟨r, 0, none⟩) := (kp 0 (by kernel_rfl)).trans b0
          rw [vv24]
          refine does_value_g rfl (yl 23 57 false rfl p23 vv23) (by intro c h; cases h) (w' := W) ?_ (hS)
          · simp [execOp, go_sem, e0]
        | 25 =>
          simp only [List.getElem?_toArray, List.getElem?_cons_zero, List.getElem?_cons_succ, Option.some.injEq] at ho
          subst ho
          have p24 : b 24 = true := hd ⟨24, .data⟩ (by simp) rfl
          have p23 : b 23 = true := hd ⟨23, .guard⟩ (by simp) rfl
          have e58 := (ev 24 58 rfl p24).trans vv24
          rw [vv25]
          refine does_value_g rfl (yl 23 57 false rfl p23 vv23) (by intro c h; cases h) (w' := W) ?_ (hS)
          · simp [execOp, go_sem, e58]
        | 26 =>
          simp only [List.getElem?_toArray, List.getElem?_cons_zero, List.getElem?_cons_succ, Option.some.injEq] at ho
          subst ho
          have p25 : b 25 = true := hd ⟨25, .data⟩ (by simp) rfl
          have p23 : b 23 = true := hd ⟨23, .guard⟩ (by simp) rfl
          have e59 := (ev 25 59 rfl p25).trans vv25
          rw [vv26]
          refine does_value_g rfl (yl 23 57 false rfl p23 vv23) (by intro c h; cases h) (w' := W) ?_ (hS)
          · simp [execOp, go_sem, e59]
        | 27 =>
          simp only [List.getElem?_toArray, List.getElem?_cons_zero, List.getElem?_cons_succ, Option.some.injEq] at ho
          subst ho
          have p26 : b 26 = true := hd ⟨26, .data⟩ (by simp) rfl
          have p23 : b 23 = true := hd ⟨23, .guard⟩ (by simp) rfl
          have e60 := (ev 26 60 rfl p26).trans vv26
          have hl := (hS.cell (p := ⟨r, 2, none⟩) (cell_lt c2)).trans c2
          rw [vv27]
          refine does_value_g rfl (yl 23 57 false rfl p23 vv23) (by intro c h; cases h) (w' := W) ?_ (hS)
          · simp [execOp, go_sem, e60, hl]
        | 28 =>
          simp only [List.getElem?_toArray, List.getElem?_cons_zero, List.getElem?_cons_succ, Option.some.injEq] at ho
          subst ho
          have p23 : b 23 = true := hd ⟨23, .guard⟩ (by simp) rfl
          have e7 : a.tmps[7]?.getD undef = .int .i64 (ix : Nat) := (kp 7 (by kernel_rfl)).trans b7
          rw [vv28]
          refine does_value_g rfl (yl 23 57 false rfl p23 vv23) (by intro c h; cases h) (w' := W) ?_ (hS)
          · simp [execOp, go_sem, e7]
        | 29 =>
          simp only [List.getElem?_toArray, List.getElem?_cons_zero, List.getElem?_cons_succ, Option.some.injEq] at ho
          subst ho
          have p27 : b 27 = true := hd ⟨27, .data⟩ (by simp) rfl
          have p28 : b 28 = true := hd ⟨28, .data⟩ (by simp) rfl
          have p23 : b 23 = true := hd ⟨23, .guard⟩ (by simp) rfl
          have e61 := (ev 27 61 rfl p27).trans vv27
          have e62 := (ev 28 62 rfl p28).trans vv28
          rw [vv29]
          refine does_value_g rfl (yl 23 57 false rfl p23 vv23) (by intro c h; cases h) (w' := W) ?_ (hS)
          · simp [execOp, go_sem, e61, e62, hlt]
        | 30 =>
          simp only [List.getElem?_toArray, List.getElem?_cons_zero, List.getElem?_cons_succ, Option.some.injEq] at ho
          subst ho
          have p29 : b 29 = true := hd ⟨29, .data⟩ (by simp) rfl
          have p23 : b 23 = true := hd ⟨23, .guard⟩ (by simp) rfl
          have e63 := (ev 29 63 rfl p29).trans vv29
          rw [vv30]
          refine does_value_g rfl (yl 23 57 false rfl p23 vv23) (by intro c h; cases h) (w' := W) ?_ (hS)
          · simp [execOp, go_sem, e63]
        | 31 =>
          simp only [List.getElem?_toArray, List.getElem?_cons_zero, List.getElem?_cons_succ, Option.some.injEq] at ho
          subst ho
          have p30 : b 30 = true := hd ⟨30, .data⟩ (by simp) rfl
          have p23 : b 23 = true := hd ⟨23, .guard⟩ (by simp) rfl
          have e64 := (ev 30 64 rfl p30).trans vv30
          have hl := (hS.cell (p := ⟨gr, ix * 5 + 2, none⟩) (cell_lt d2)).trans d2
          rw [vv31]
          refine does_value_g rfl (yl 23 57 false rfl p23 vv23) (by intro c h; cases h) (w' := W) ?_ (hS)
          · simp [execOp, go_sem, e64, hl]
        | 32 =>
          simp only [List.getElem?_toArray, List.getElem?_cons_zero, List.getElem?_cons_succ, Option.some.injEq] at ho
          subst ho
          have p23 : b 23 = true := hd ⟨23, .guard⟩ (by simp) rfl
          have e0 : a.tmps[0]?.getD undef = .pointer (some ⟨r, 0, none⟩) := (kp 0 (by kernel_rfl)).trans b0
          rw [vv32]
          refine does_value_g rfl (yl 23 57 false rfl p23 vv23) (by intro c h; cases h) (w' := W) ?_ (hS)
          · simp [execOp, go_sem, e0]
        | 33 =>
          simp only [List.getElem?_toArray, List.getElem?_cons_zero, List.getElem?_cons_succ, Option.some.injEq] at ho
          subst ho
          have p32 : b 32 = true := hd ⟨32, .data⟩ (by simp) rfl
          have p23 : b 23 = true := hd ⟨23, .guard⟩ (by simp) rfl
          have e66 := (ev 32 66 rfl p32).trans vv32
          rw [vv33]
          refine does_value_g rfl (yl 23 57 false rfl p23 vv23) (by intro c h; cases h) (w' := W) ?_ (hS)
          · simp [execOp, go_sem, e66]
        | 34 =>
          simp only [List.getElem?_toArray, List.getElem?_cons_zero, List.getElem?_cons_succ, Option.some.injEq] at ho
          subst ho
          have p33 : b 33 = true := hd ⟨33, .data⟩ (by simp) rfl
          have p23 : b 23 = true := hd ⟨23, .guard⟩ (by simp) rfl
          have e67 := (ev 33 67 rfl p33).trans vv33
          rw [vv34]
          refine does_value_g rfl (yl 23 57 false rfl p23 vv23) (by intro c h; cases h) (w' := W) ?_ (hS)
          · simp [execOp, go_sem, e67]
        | 35 =>
          simp only [List.getElem?_toArray, List.getElem?_cons_zero, List.getElem?_cons_succ, Option.some.injEq] at ho
          subst ho
          have p34 : b 34 = true := hd ⟨34, .data⟩ (by simp) rfl
          have p23 : b 23 = true := hd ⟨23, .guard⟩ (by simp) rfl
          have e68 := (ev 34 68 rfl p34).trans vv34
          have hl := (hS.cell (p := ⟨r, 2, none⟩) (cell_lt c2)).trans c2
          rw [vv35]
          refine does_value_g rfl (yl 23 57 false rfl p23 vv23) (by intro c h; cases h) (w' := W) ?_ (hS)
          · simp [execOp, go_sem, e68, hl]
        | 36 =>
          simp only [List.getElem?_toArray, List.getElem?_cons_zero, List.getElem?_cons_succ, Option.some.injEq] at ho
          subst ho
          have p23 : b 23 = true := hd ⟨23, .guard⟩ (by simp) rfl
          have e6 : a.tmps[6]?.getD undef = .int .i64 (j : Nat) := (kp 6 (by kernel_rfl)).trans b6
          rw [vv36]
          refine does_value_g rfl (yl 23 57 false rfl p23 vv23) (by intro c h; cases h) (w' := W) ?_ (hS)
          · simp [execOp, go_sem, e6]
        | 37 =>
          simp only [List.getElem?_toArray, List.getElem?_cons_zero, List.getElem?_cons_succ, Option.some.injEq] at ho
          subst ho
          have p35 : b 35 = true := hd ⟨35, .data⟩ (by simp) rfl
          have p36 : b 36 = true := hd ⟨36, .data⟩ (by simp) rfl
          have p23 : b 23 = true := hd ⟨23, .guard⟩ (by simp) rfl
          have e69 := (ev 35 69 rfl p35).trans vv35
          have e70 := (ev 36 70 rfl p36).trans vv36
          rw [vv37]
          refine does_value_g rfl (yl 23 57 false rfl p23 vv23) (by intro c h; cases h) (w' := W) ?_ (hS)
          · simp [execOp, go_sem, e69, e70, hjn]
        | 38 =>
          simp only [List.getElem?_toArray, List.getElem?_cons_zero, List.getElem?_cons_succ, Option.some.injEq] at ho
          subst ho
          have p37 : b 37 = true := hd ⟨37, .data⟩ (by simp) rfl
          have p23 : b 23 = true := hd ⟨23, .guard⟩ (by simp) rfl
          have e71 := (ev 37 71 rfl p37).trans vv37
          rw [vv38]
          refine does_value_g rfl (yl 23 57 false rfl p23 vv23) (by intro c h; cases h) (w' := W) ?_ (hS)
          · simp [execOp, go_sem, e71]
        | 39 =>
          simp only [List.getElem?_toArray, List.getElem?_cons_zero, List.getElem?_cons_succ, Option.some.injEq] at ho
          subst ho
          have p38 : b 38 = true := hd ⟨38, .data⟩ (by simp) rfl
          have p23 : b 23 = true := hd ⟨23, .guard⟩ (by simp) rfl
          have e72 := (ev 38 72 rfl p38).trans vv38
          have hl := (hS.cell (p := ⟨gr, j * 5 + 2, none⟩) (cell_lt dj)).trans dj
          rw [vv39]
          refine does_value_g rfl (yl 23 57 false rfl p23 vv23) (by intro c h; cases h) (w' := W) ?_ (hS)
          · simp [execOp, go_sem, e72, hl]
        | 40 =>
          simp only [List.getElem?_toArray, List.getElem?_cons_zero, List.getElem?_cons_succ, Option.some.injEq] at ho
          subst ho
          have p31 : b 31 = true := hd ⟨31, .data⟩ (by simp) rfl
          have p39 : b 39 = true := hd ⟨39, .data⟩ (by simp) rfl
          have p23 : b 23 = true := hd ⟨23, .guard⟩ (by simp) rfl
          have e65 := (ev 31 65 rfl p31).trans vv31
          have e73 := (ev 39 73 rfl p39).trans vv39
          rw [vv40]
          refine does_value_g rfl (yl 23 57 false rfl p23 vv23) (by intro c h; cases h) (w' := W) ?_ (hS)
          · simp [execOp, go_sem, e65, e73, hless]
        | 41 =>
          simp only [List.getElem?_toArray, List.getElem?_cons_zero, List.getElem?_cons_succ, Option.some.injEq] at ho
          subst ho
          have p23 : b 23 = true := hd ⟨23, .data⟩ (by simp) rfl
          have p40 : b 40 = true := hd ⟨40, .data⟩ (by simp) rfl
          have p20 : b 20 = true := hd ⟨20, .guard⟩ (by simp) rfl
          have e57 := (ev 23 57 rfl p23).trans vv23
          have e74 := (ev 40 74 rfl p40).trans vv40
          rw [vv41]
          refine does_value_g rfl (yl 20 54 true rfl p20 vv20) (by intro c h; cases h) (w' := W) ?_ (hS)
          · simp [execOp, go_sem, e57, e74]
        | 42 =>
          simp only [List.getElem?_toArray, List.getElem?_cons_zero, List.getElem?_cons_succ, Option.some.injEq] at ho
          subst ho
          have p20 : b 20 = true := hd ⟨20, .data⟩ (by simp) rfl
          have p41 : b 41 = true := hd ⟨41, .data⟩ (by simp) rfl
          have e54 := (ev 20 54 rfl p20).trans vv20
          have e75 := (ev 41 75 rfl p41).trans vv41
          rw [vv42]
          refine does_value rfl (by intro c h; cases h) (w' := W) ?_ (hS)
          · simp [execOp, go_sem, e54, e75]
        | k + 43 => simp at ho
      · intro b' W hS _
        subst hLe
        exact hQ _ _ _ _ _ _ _ _ _ _ _ _ _ _ _ _ _ _ _ _ _ _ _ _ _ _ _ _ _ _ _ _ _ _ _ _ _ _ _ _ _ _ W hS
    | false =>
      have hless : ¬ ui < uj := of_decide_eq_false hless
      obtain ⟨LL, hLe⟩ : ∃ LL : List (Option Tmp × Value), LL = [(some 34, .pointer (some ⟨r, 0, none⟩)), (some 35, .pointer (some ⟨r, 0, none⟩)), (some 36, .pointer (some ⟨r, 2, none⟩)), (some 37, .slice (some ⟨gr, 0, none⟩) n cq), (some 38, .int .i64 (ix : Nat)), (some 39, .pointer (some ⟨gr, ix * 5, none⟩)), (some 40, .pointer (some ⟨gr, ix * 5 + 1, none⟩)), (some 41, .int .i64 (pn : Nat)), (some 42, .bool true), (some 43, .bool true), (some 44, .pointer (some ⟨r, 0, none⟩)), (some 45, .pointer (some ⟨r, 0, none⟩)), (some 46, .pointer (some ⟨r, 2, none⟩)), (some 47, .slice (some ⟨gr, 0, none⟩) n cq), (some 48, .int .i64 (ix : Nat)), (some 49, .pointer (some ⟨gr, ix * 5, none⟩)), (some 50, .pointer (some ⟨gr, ix * 5 + 3, none⟩)), (some 51, .bool false), (some 52, .bool true), (some 53, .bool true), (some 54, .bool true), (some 55, .int .i64 (j : Nat)), (some 56, .bool false), (some 57, .bool false), (some 58, .pointer (some ⟨r, 0, none⟩)), (some 59, .pointer (some ⟨r, 0, none⟩)), (some 60, .pointer (some ⟨r, 2, none⟩)), (some 61, .slice (some ⟨gr, 0, none⟩) n cq), (some 62, .int .i64 (ix : Nat)), (some 63, .pointer (some ⟨gr, ix * 5, none⟩)), (some 64, .pointer (some ⟨gr, ix * 5 + 2, none⟩)), (some 65, .int .i64 (ui : Nat)), (some 66, .pointer (some ⟨r, 0, none⟩)), (some 67, .pointer (some ⟨r, 0, none⟩)), (some 68, .pointer (some ⟨r, 2, none⟩)), (some 69, .slice (some ⟨gr, 0, none⟩) n cq), (some 70, .int .i64 (j : Nat)), (some 71, .pointer (some ⟨gr, j * 5, none⟩)), (some 72, .pointer (some ⟨gr, j * 5 + 2, none⟩)), (some 73, .int .i64 (uj : Nat)), (some 74, .bool false), (some 75, .bool false), (some 76, .bool false)] := ⟨_, rfl⟩
      have vv0 : vals LL 0 = .pointer (some ⟨r, 0, none⟩) := by rw [hLe]; rfl
      have vv1 : vals LL 1 = .pointer (some ⟨r, 0, none⟩) := by rw [hLe]; rfl
      have vv2 : vals LL 2 = .pointer (some ⟨r, 2, none⟩) := by rw [hLe]; rfl
      have vv3 : vals LL 3 = .slice (some ⟨gr, 0, none⟩) n cq := by rw [hLe]; rfl
      have vv4 : vals LL 4 = .int .i64 (ix : Nat) := by rw [hLe]; rfl
      have vv5 : vals LL 5 = .pointer (some ⟨gr, ix * 5, none⟩) := by rw [hLe]; rfl
      have vv6 : vals LL 6 = .pointer (some ⟨gr, ix * 5 + 1, none⟩) := by rw [hLe]; rfl
      have vv7 : vals LL 7 = .int .i64 (pn : Nat) := by rw [hLe]; rfl
      have vv8 : vals LL 8 = .bool true := by rw [hLe]; rfl
      have vv9 : vals LL 9 = .bool true := by rw [hLe]; rfl
      have vv10 : vals LL 10 = .pointer (some ⟨r, 0, none⟩) := by rw [hLe]; rfl
      have vv11 : vals LL 11 = .pointer (some ⟨r, 0, none⟩) := by rw [hLe]; rfl
      have vv12 : vals LL 12 = .pointer (some ⟨r, 2, none⟩) := by rw [hLe]; rfl
      have vv13 : vals LL 13 = .slice (some ⟨gr, 0, none⟩) n cq := by rw [hLe]; rfl
      have vv14 : vals LL 14 = .int .i64 (ix : Nat) := by rw [hLe]; rfl
      have vv15 : vals LL 15 = .pointer (some ⟨gr, ix * 5, none⟩) := by rw [hLe]; rfl
      have vv16 : vals LL 16 = .pointer (some ⟨gr, ix * 5 + 3, none⟩) := by rw [hLe]; rfl
      have vv17 : vals LL 17 = .bool false := by rw [hLe]; rfl
      have vv18 : vals LL 18 = .bool true := by rw [hLe]; rfl
      have vv19 : vals LL 19 = .bool true := by rw [hLe]; rfl
      have vv20 : vals LL 20 = .bool true := by rw [hLe]; rfl
      have vv21 : vals LL 21 = .int .i64 (j : Nat) := by rw [hLe]; rfl
      have vv22 : vals LL 22 = .bool false := by rw [hLe]; rfl
      have vv23 : vals LL 23 = .bool false := by rw [hLe]; rfl
      have vv24 : vals LL 24 = .pointer (some ⟨r, 0, none⟩) := by rw [hLe]; rfl
      have vv25 : vals LL 25 = .pointer (some ⟨r, 0, none⟩) := by rw [hLe]; rfl
      have vv26 : vals LL 26 = .pointer (some ⟨r, 2, none⟩) := by rw [hLe]; rfl
      have vv27 : vals LL 27 = .slice (some ⟨gr, 0, none⟩) n cq := by rw [hLe]; rfl
      have vv28 : vals LL 28 = .int .i64 (ix : Nat) := by rw [hLe]; rfl
      have vv29 : vals LL 29 = .pointer (some ⟨gr, ix * 5, none⟩) := by rw [hLe]; rfl
      have vv30 : vals LL 30 = .pointer (some ⟨gr, ix * 5 + 2, none⟩) := by rw [hLe]; rfl
      have vv31 : vals LL 31 = .int .i64 (ui : Nat) := by rw [hLe]; rfl
      have vv32 : vals LL 32 = .pointer (some ⟨r, 0, none⟩) := by rw [hLe]; rfl
      have vv33 : vals LL 33 = .pointer (some ⟨r, 0, none⟩) := by rw [hLe]; rfl
      have vv34 : vals LL 34 = .pointer (some ⟨r, 2, none⟩) := by rw [hLe]; rfl
      have vv35 : vals LL 35 = .slice (some ⟨gr, 0, none⟩) n cq := by rw [hLe]; rfl
      have vv36 : vals LL 36 = .int .i64 (j : Nat) := by rw [hLe]; rfl
      have vv37 : vals LL 37 = .pointer (some ⟨gr, j * 5, none⟩) := by rw [hLe]; rfl
      have vv38 : vals LL 38 = .pointer (some ⟨gr, j * 5 + 2, none⟩) := by rw [hLe]; rfl
      have vv39 : vals LL 39 = .int .i64 (uj : Nat) := by rw [hLe]; rfl
      have vv40 : vals LL 40 = .bool false := by rw [hLe]; rfl
      have vv41 : vals LL 41 = .bool false := by rw [hLe]; rfl
      have vv42 : vals LL 42 = .bool false := by rw [hLe]; rfl
      refine region_laid hmix (by kernel_rfl) 130 hsz (by kernel_rfl) LL (by rw [hLe]; rfl) (fun _ W => Below w1.heap.size w1 W) below1 ?_ ?_
      · intro b W i o a hS hcl ho hb hd ev kp yl
        match i with
        | 0 =>
          simp only [List.getElem?_toArray, List.getElem?_cons_zero, Option.some.injEq] at ho
          subst ho
          have e0 : a.tmps[0]?.getD undef = .pointer (some ⟨r, 0, none⟩) := (kp 0 (by kernel_rfl)).trans b0
          rw [vv0]
          refine does_value rfl (by intro c h; cases h) (w' := W) ?_ (hS)
          · simp [execOp, go_sem, e0]
        | 1 =>
          simp only [List.getElem?_toArray, List.getElem?_cons_zero, List.getElem?_cons_succ, Option.some.injEq] at ho
          subst ho
          have p0 : b 0 = true := hd ⟨0, .data⟩ (by simp) rfl
          have e34 := (ev 0 34 rfl p0).trans vv0
          rw [vv1]
          refine does_value rfl (by intro c h; cases h) (w' := W) ?_ (hS)
          · simp [execOp, go_sem, e34]
        | 2 =>
          simp only [List.getElem?_toArray, List.getElem?_cons_zero, List.getElem?_cons_succ, Option.some.injEq] at ho
          subst ho
          have p1 : b 1 = true := hd ⟨1, .data⟩ (by simp) rfl
          have e35 := (ev 1 35 rfl p1).trans vv1
          rw [vv2]
          refine does_value rfl (by intro c h; cases h) (w' := W) ?_ (hS)
          · simp [execOp, go_sem, e35]
        | 3 =>
          simp only [List.getElem?_toArray, List.getElem?_cons_zero, List.getElem?_cons_succ, Option.some.injEq] at ho
          subst ho
          have p2 : b 2 = true := hd ⟨2, .data⟩ (by simp) rfl
          have e36 := (ev 2 36 rfl p2).trans vv2
          have hl := (hS.cell (p := ⟨r, 2, none⟩) (cell_lt c2)).trans c2
          rw [vv3]
          refine does_value rfl (by intro c h; cases h) (w' := W) ?_ (hS)
          · simp [execOp, go_sem, e36, hl]
        | 4 =>
          simp only [List.getElem?_toArray, List.getElem?_cons_zero, List.getElem?_cons_succ, Option.some.injEq] at ho
          subst ho
          have e7 : a.tmps[7]?.getD undef = .int .i64 (ix : Nat) := (kp 7 (by kernel_rfl)).trans b7
          rw [vv4]
          refine does_value rfl (by intro c h; cases h) (w' := W) ?_ (hS)
          · simp [execOp, go_sem, e7]
        | 5 =>
          simp only [List.getElem?_toArray, List.getElem?_cons_zero, List.getElem?_cons_succ, Option.some.injEq] at ho
          subst ho
          have p3 : b 3 = true := hd ⟨3, .data⟩ (by simp) rfl
          have p4 : b 4 = true := hd ⟨4, .data⟩ (by simp) rfl
          have e37 := (ev 3 37 rfl p3).trans vv3
          have e38 := (ev 4 38 rfl p4).trans vv4
          rw [vv5]
          refine does_value rfl (by intro c h; cases h) (w' := W) ?_ (hS)
          · simp [execOp, go_sem, e37, e38, hlt]
        | 6 =>
          simp only [List.getElem?_toArray, List.getElem?_cons_zero, List.getElem?_cons_succ, Option.some.injEq] at ho
          subst ho
          have p5 : b 5 = true := hd ⟨5, .data⟩ (by simp) rfl
          have e39 := (ev 5 39 rfl p5).trans vv5
          rw [vv6]
          refine does_value rfl (by intro c h; cases h) (w' := W) ?_ (hS)
          · simp [execOp, go_sem, e39]
        | 7 =>
          simp only [List.getElem?_toArray, List.getElem?_cons_zero, List.getElem?_cons_succ, Option.some.injEq] at ho
          subst ho
          have p6 : b 6 = true := hd ⟨6, .data⟩ (by simp) rfl
          have e40 := (ev 6 40 rfl p6).trans vv6
          have hl := (hS.cell (p := ⟨gr, ix * 5 + 1, none⟩) (cell_lt d1)).trans d1
          rw [vv7]
          refine does_value rfl (by intro c h; cases h) (w' := W) ?_ (hS)
          · simp [execOp, go_sem, e40, hl]
        | 8 =>
          simp only [List.getElem?_toArray, List.getElem?_cons_zero, List.getElem?_cons_succ, Option.some.injEq] at ho
          subst ho
          have p7 : b 7 = true := hd ⟨7, .data⟩ (by simp) rfl
          have e41 := (ev 7 41 rfl p7).trans vv7
          rw [vv8]
          refine does_value rfl (by intro c h; cases h) (w' := W) ?_ (hS)
          · simp [execOp, go_sem, e41, hpn]
        | 9 =>
          simp only [List.getElem?_toArray, List.getElem?_cons_zero, List.getElem?_cons_succ, Option.some.injEq] at ho
          subst ho
          have p8 : b 8 = true := hd ⟨8, .data⟩ (by simp) rfl
          have e42 := (ev 8 42 rfl p8).trans vv8
          rw [vv9]
          refine does_value rfl (by intro c h; cases h) (w' := W) ?_ (hS)
          · simp [execOp, go_sem, e42]
        | 10 =>
          simp only [List.getElem?_toArray, List.getElem?_cons_zero, List.getElem?_cons_succ, Option.some.injEq] at ho
          subst ho
          have p9 : b 9 = true := hd ⟨9, .guard⟩ (by simp) rfl
          have e0 : a.tmps[0]?.getD undef = .pointer (some ⟨r, 0, none⟩) := (kp 0 (by kernel_rfl)).trans b0
          rw [vv10]
          refine does_value_g rfl (yl 9 43 true rfl p9 vv9) (by intro c h; cases h) (w' := W) ?_ (hS)
          · simp [execOp, go_sem, e0]
        | 11 =>
          simp only [List.getElem?_toArray, List.getElem?_cons_zero, List.getElem?_cons_succ, Option.some.injEq] at ho
          subst ho
          have p10 : b 10 = true := hd ⟨10, .data⟩ (by simp) rfl
          have p9 : b 9 = true := hd ⟨9, .guard⟩ (by simp) rfl
          have e44 := (ev 10 44 rfl p10).trans vv10
          rw [vv11]
          refine does_value_g rfl (yl 9 43 true rfl p9 vv9) (by intro c h; cases h) (w' := W) ?_ (hS)
          · simp [execOp, go_sem, e44]
        | 12 =>
          simp only [List.getElem?_toArray, List.getElem?_cons_zero, List.getElem?_cons_succ, Option.some.injEq] at ho
          subst ho
          have p11 : b 11 = true := hd ⟨11, .data⟩ (by simp) rfl
          have p9 : b 9 = true := hd ⟨9, .guard⟩ (by simp) rfl
          have e45 := (ev 11 45 rfl p11).trans vv11
          rw [vv12]
          refine does_value_g rfl (yl 9 43 true rfl p9 vv9) (by intro c h; cases h) (w' := W) ?_ (hS)
          · simp [execOp, go_sem, e45]
        | 13 =>
          simp only [List.getElem?_toArray, List.getElem?_cons_zero, List.getElem?_cons_succ, Option.some.injEq] at ho
          subst ho
          have p12 : b 12 = true := hd ⟨12, .data⟩ (by simp) rfl
          have p9 : b 9 = true := hd ⟨9, .guard⟩ (by simp) rfl
          have e46 := (ev 12 46 rfl p12).trans vv12
          have hl := (hS.cell (p := ⟨r, 2, none⟩) (cell_lt c2)).trans c2
          rw [vv13]
          refine does_value_g rfl (yl 9 43 true rfl p9 vv9) (by intro c h; cases h) (w' := W) ?_ (hS)
          · simp [execOp, go_sem, e46, hl]
        | 14 =>
          simp only [List.getElem?_toArray, List.getElem?_cons_zero, List.getElem?_cons_succ, Option.some.injEq] at ho
          subst ho
          have p9 : b 9 = true := hd ⟨9, .guard⟩ (by simp) rfl
          have e7 : a.tmps[7]?.getD undef = .int .i64 (ix : Nat) := (kp 7 (by kernel_rfl)).trans b7
          rw [vv14]
          refine does_value_g rfl (yl 9 43 true rfl p9 vv9) (by intro c h; cases h) (w' := W) ?_ (hS)
          · simp [execOp, go_sem, e7]
        | 15 =>
          simp only [List.getElem?_toArray, List.getElem?_cons_zero, List.getElem?_cons_succ, Option.some.injEq] at ho
          subst ho
          have p13 : b 13 = true := hd ⟨13, .data⟩ (by simp) rfl
          have p14 : b 14 = true := hd ⟨14, .data⟩ (by simp) rfl
          have p9 : b 9 = true := hd ⟨9, .guard⟩ (by simp) rfl
          have e47 := (ev 13 47 rfl p13).trans vv13
          have e48 := (ev 14 48 rfl p14).trans vv14
          rw [vv15]
          refine does_value_g rfl (yl 9 43 true rfl p9 vv9) (by intro c h; cases h) (w' := W) ?_ (hS)
          · simp [execOp, go_sem, e47, e48, hlt]
        | 16 =>
          simp only [List.getElem?_toArray, List.getElem?_cons_zero, List.getElem?_cons_succ, Option.some.injEq] at ho
          subst ho
          have p15 : b 15 = true := hd ⟨15, .data⟩ (by simp) rfl
          have p9 : b 9 = true := hd ⟨9, .guard⟩ (by simp) rfl
          have e49 := (ev 15 49 rfl p15).trans vv15
          rw [vv16]
          refine does_value_g rfl (yl 9 43 true rfl p9 vv9) (by intro c h; cases h) (w' := W) ?_ (hS)
          · simp [execOp, go_sem, e49]
        | 17 =>
          simp only [List.getElem?_toArray, List.getElem?_cons_zero, List.getElem?_cons_succ, Option.some.injEq] at ho
          subst ho
          have p16 : b 16 = true := hd ⟨16, .data⟩ (by simp) rfl
          have p9 : b 9 = true := hd ⟨9, .guard⟩ (by simp) rfl
          have e50 := (ev 16 50 rfl p16).trans vv16
          have hl := (hS.cell (p := ⟨gr, ix * 5 + 3, none⟩) (cell_lt d3)).trans d3
          rw [vv17]
          refine does_value_g rfl (yl 9 43 true rfl p9 vv9) (by intro c h; cases h) (w' := W) ?_ (hS)
          · simp [execOp, go_sem, e50, hl]
        | 18 =>
          simp only [List.getElem?_toArray, List.getElem?_cons_zero, List.getElem?_cons_succ, Option.some.injEq] at ho
          subst ho
          have p17 : b 17 = true := hd ⟨17, .data⟩ (by simp) rfl
          have p9 : b 9 = true := hd ⟨9, .guard⟩ (by simp) rfl
          have e51 := (ev 17 51 rfl p17).trans vv17
          rw [vv18]
          refine does_value_g rfl (yl 9 43 true rfl p9 vv9) (by intro c h; cases h) (w' := W) ?_ (hS)
          · simp [execOp, go_sem, e51]
        | 19 =>
          simp only [List.getElem?_toArray, List.getElem?_cons_zero, List.getElem?_cons_succ, Option.some.injEq] at ho
          subst ho
          have p9 : b 9 = true := hd ⟨9, .data⟩ (by simp) rfl
          have p18 : b 18 = true := hd ⟨18, .data⟩ (by simp) rfl
          have e43 := (ev 9 43 rfl p9).trans vv9
          have e52 := (ev 18 52 rfl p18).trans vv18
          rw [vv19]
          refine does_value rfl (by intro c h; cases h) (w' := W) ?_ (hS)
          · simp [execOp, go_sem, e43, e52]
        | 20 =>
          simp only [List.getElem?_toArray, List.getElem?_cons_zero, List.getElem?_cons_succ, Option.some.injEq] at ho
          subst ho
          have p19 : b 19 = true := hd ⟨19, .data⟩ (by simp) rfl
          have e53 := (ev 19 53 rfl p19).trans vv19
          rw [vv20]
          refine does_value rfl (by intro c h; cases h) (w' := W) ?_ (hS)
          · simp [execOp, go_sem, e53]
        | 21 =>
          simp only [List.getElem?_toArray, List.getElem?_cons_zero, List.getElem?_cons_succ, Option.some.injEq] at ho
          subst ho
          have p20 : b 20 = true := hd ⟨20, .guard⟩ (by simp) rfl
          have e6 : a.tmps[6]?.getD undef = .int .i64 (j : Nat) := (kp 6 (by kernel_rfl)).trans b6
          rw [vv21]
          refine does_value_g rfl (yl 20 54 true rfl p20 vv20) (by intro c h; cases h) (w' := W) ?_ (hS)
          · simp [execOp, go_sem, e6]
        | 22 =>
          simp only [List.getElem?_toArray, List.getElem?_cons_zero, List.getElem?_cons_succ, Option.some.injEq] at ho
          subst ho
          have p21 : b 21 = true := hd ⟨21, .data⟩ (by simp) rfl
          have p20 : b 20 = true := hd ⟨20, .guard⟩ (by simp) rfl
          have e55 := (ev 21 55 rfl p21).trans vv21
          rw [vv22]
          refine does_value_g rfl (yl 20 54 true rfl p20 vv20) (by intro c h; cases h) (w' := W) ?_ (hS)
          · simp [execOp, go_sem, e55]
        | 23 =>
          simp only [List.getElem?_toArray, List.getElem?_cons_zero, List.getElem?_cons_succ, Option.some.injEq] at ho
          subst ho
          have p22 : b 22 = true := hd ⟨22, .data⟩ (by simp) rfl
          have p20 : b 20 = true := hd ⟨20, .guard⟩ (by simp) rfl
          have e56 := (ev 22 56 rfl p22).trans vv22
          rw [vv23]
          refine does_value_g rfl (yl 20 54 true rfl p20 vv20) (by intro c h; cases h) (w' := W) ?_ (hS)
          · simp [execOp, go_sem, e56]
        | 24 =>
          simp only [List.getElem?_toArray, List.getElem?_cons_zero, List.getElem?_cons_succ, Option.some.injEq] at ho
          subst ho
          have p23 : b 23 = true := hd ⟨23, .guard⟩ (by simp) rfl
          have e0 : a.tmps[0]?.getD undef = .pointer (some ⟨r, 0, none⟩) := (kp 0 (by kernel_rfl)).trans b0
          rw [vv24]
          refine does_value_g rfl (yl 23 57 false rfl p23 vv23) (by intro c h; cases h) (w' := W) ?_ (hS)
          · simp [execOp, go_sem, e0]
        | 25 =>
          simp only [List.getElem?_toArray, List.getElem?_cons_zero, List.getElem?_cons_succ, Option.some.injEq] at ho
          subst ho
          have p24 : b 24 = true := hd ⟨24, .data⟩ (by simp) rfl
          have p23 : b 23 = true := hd ⟨23, .guard⟩ (by simp) rfl
          have e58 := (ev 24 58 rfl p24).trans vv24
          rw [vv25]
          refine does_value_g rfl (yl 23 57 false rfl p23 vv23) (by intro c h; cases h) (w' := W) ?_ (hS)
          · simp [execOp, go_sem, e58]
        | 26 =>
          simp only [List.getElem?_toArray, List.getElem?_cons_zero, List.getElem?_cons_succ, Option.some.injEq] at ho
          subst ho
          have p25 : b 25 = true := hd ⟨25, .data⟩ (by simp) rfl
          have p23 : b 23 = true := hd ⟨23, .guard⟩ (by simp) rfl
          have e59 := (ev 25 59 rfl p25).trans vv25
          rw [vv26]
          refine does_value_g rfl (yl 23 57 false rfl p23 vv23) (by intro c h; cases h) (w' := W) ?_ (hS)
          · simp [execOp, go_sem, e59]
        | 27 =>
          simp only [List.getElem?_toArray, List.getElem?_cons_zero, List.getElem?_cons_succ, Option.some.injEq] at ho
          subst ho
          have p26 : b 26 = true := hd ⟨26, .data⟩ (by simp) rfl
          have p23 : b 23 = true := hd ⟨23, .guard⟩ (by simp) rfl
          have e60 := (ev 26 60 rfl p26).trans vv26
          have hl := (hS.cell (p := ⟨r, 2, none⟩) (cell_lt c2)).trans c2
          rw [vv27]
          refine does_value_g rfl (yl 23 57 false rfl p23 vv23) (by intro c h; cases h) (w' := W) ?_ (hS)
          · simp [execOp, go_sem, e60, hl]
        | 28 =>
          simp only [List.getElem?_toArray, List.getElem?_cons_zero, List.getElem?_cons_succ, Option.some.injEq] at ho
          subst ho
          have p23 : b 23 = true := hd ⟨23, .guard⟩ (by simp) rfl
          have e7 : a.tmps[7]?.getD undef = .int .i64 (ix : Nat) := (kp 7 (by kernel_rfl)).trans b7
          rw [vv28]
          refine does_value_g rfl (yl 23 57 false rfl p23 vv23) (by intro c h; cases h) (w' := W) ?_ (hS)
          · simp [execOp, go_sem, e7]
        | 29 =>
          simp only [List.getElem?_toArray, List.getElem?_cons_zero, List.getElem?_cons_succ, Option.some.injEq] at ho
          subst ho
          have p27 : b 27 = true := hd ⟨27, .data⟩ (by simp) rfl
          have p28 : b 28 = true := hd ⟨28, .data⟩ (by simp) rfl
          have p23 : b 23 = true := hd ⟨23, .guard⟩ (by simp) rfl
          have e61 := (ev 27 61 rfl p27).trans vv27
          have e62 := (ev 28 62 rfl p28).trans vv28
          rw [vv29]
          refine does_value_g rfl (yl 23 57 false rfl p23 vv23) (by intro c h; cases h) (w' := W) ?_ (hS)
          · simp [execOp, go_sem, e61, e62, hlt]
        | 30 =>
          simp only [List.getElem?_toArray, List.getElem?_cons_zero, List.getElem?_cons_succ, Option.some.injEq] at ho
          subst ho
          have p29 : b 29 = true := hd ⟨29, .data⟩ (by simp) rfl
          have p23 : b 23 = true := hd ⟨23, .guard⟩ (by simp) rfl
          have e63 := (ev 29 63 rfl p29).trans vv29
          rw [vv30]
          refine does_value_g rfl (yl 23 57 false rfl p23 vv23) (by intro c h; cases h) (w' := W) ?_ (hS)
          · simp [execOp, go_sem, e63]
        | 31 =>
          simp only [List.getElem?_toArray, List.getElem?_cons_zero, List.getElem?_cons_succ, Option.some.injEq] at ho
          subst ho
          have p30 : b 30 = true := hd ⟨30, .data⟩ (by simp) rfl
          have p23 : b 23 = true := hd ⟨23, .guard⟩ (by simp) rfl
          have e64 := (ev 30 64 rfl p30).trans vv30
          have hl := (hS.cell (p := ⟨gr, ix * 5 + 2, none⟩) (cell_lt d2)).trans d2
          rw [vv31]
          refine does_value_g rfl (yl 23 57 false rfl p23 vv23) (by intro c h; cases h) (w' := W) ?_ (hS)
          · simp [execOp, go_sem, e64, hl]
        | 32 =>
          simp only [List.getElem?_toArray, List.getElem?_cons_zero, List.getElem?_cons_succ, Option.some.injEq] at ho
          subst ho
          have p23 : b 23 = true := hd ⟨23, .guard⟩ (by simp) rfl
          have e0 : a.tmps[0]?.getD undef = .pointer (some ⟨r, 0, none⟩) := (kp 0 (by kernel_rfl)).trans b0
          rw [vv32]
          refine does_value_g rfl (yl 23 57 false rfl p23 vv23) (by intro c h; cases h) (w' := W) ?_ (hS)
          · simp [execOp, go_sem, e0]
        | 33 =>
          simp only [List.getElem?_toArray, List.getElem?_cons_zero, List.getElem?_cons_succ, Option.some.injEq] at ho
          subst ho
          have p32 : b 32 = true := hd ⟨32, .data⟩ (by simp) rfl
          have p23 : b 23 = true := hd ⟨23, .guard⟩ (by simp) rfl
          have e66 := (ev 32 66 rfl p32).trans vv32
          rw [vv33]
          refine does_value_g rfl (yl 23 57 false rfl p23 vv23) (by intro c h; cases h) (w' := W) ?_ (hS)
          · simp [execOp, go_sem, e66]
        | 34 =>
          simp only [List.getElem?_toArray, List.getElem?_cons_zero, List.getElem?_cons_succ, Option.some.injEq] at ho
          subst ho
          have p33 : b 33 = true := hd ⟨33, .data⟩ (by simp) rfl
          have p23 : b 23 = true := hd ⟨23, .guard⟩ (by simp) rfl
          have e67 := (ev 33 67 rfl p33).trans vv33
          rw [vv34]
          refine does_value_g rfl (yl 23 57 false rfl p23 vv23) (by intro c h; cases h) (w' := W) ?_ (hS)
          · simp [execOp, go_sem, e67]
        | 35 =>
          simp only [List.getElem?_toArray, List.getElem?_cons_zero, List.getElem?_cons_succ, Option.some.injEq] at ho
          subst ho
          have p34 : b 34 = true := hd ⟨34, .data⟩ (by simp) rfl
          have p23 : b 23 = true := hd ⟨23, .guard⟩ (by simp) rfl
          have e68 := (ev 34 68 rfl p34).trans vv34
          have hl := (hS.cell (p := ⟨r, 2, none⟩) (cell_lt c2)).trans c2
          rw [vv35]
          refine does_value_g rfl (yl 23 57 false rfl p23 vv23) (by intro c h; cases h) (w' := W) ?_ (hS)
          · simp [execOp, go_sem, e68, hl]
        | 36 =>
          simp only [List.getElem?_toArray, List.getElem?_cons_zero, List.getElem?_cons_succ, Option.some.injEq] at ho
          subst ho
          have p23 : b 23 = true := hd ⟨23, .guard⟩ (by simp) rfl
          have e6 : a.tmps[6]?.getD undef = .int .i64 (j : Nat) := (kp 6 (by kernel_rfl)).trans b6
          rw [vv36]
          refine does_value_g rfl (yl 23 57 false rfl p23 vv23) (by intro c h; cases h) (w' := W) ?_ (hS)
          · simp [execOp, go_sem, e6]
        | 37 =>
          simp only [List.getElem?_toArray, List.getElem?_cons_zero, List.getElem?_cons_succ, Option.some.injEq] at ho
          subst ho
          have p35 : b 35 = true := hd ⟨35, .data⟩ (by simp) rfl
          have p36 : b 36 = true := hd ⟨36, .data⟩ (by simp) rfl
          have p23 : b 23 = true := hd ⟨23, .guard⟩ (by simp) rfl
          have e69 := (ev 35 69 rfl p35).trans vv35
          have e70 := (ev 36 70 rfl p36).trans vv36
          rw [vv37]
          refine does_value_g rfl (yl 23 57 false rfl p23 vv23) (by intro c h; cases h) (w' := W) ?_ (hS)
          · simp [execOp, go_sem, e69, e70, hjn]
        | 38 =>
          simp only [List.getElem?_toArray, List.getElem?_cons_zero, List.getElem?_cons_succ, Option.some.injEq] at ho
          subst ho
          have p37 : b 37 = true := hd ⟨37, .data⟩ (by simp) rfl
          have p23 : b 23 = true := hd ⟨23, .guard⟩ (by simp) rfl
          have e71 := (ev 37 71 rfl p37).trans vv37
          rw [vv38]
          refine does_value_g rfl (yl 23 57 false rfl p23 vv23) (by intro c h; cases h) (w' := W) ?_ (hS)
          · simp [execOp, go_sem, e71]
        | 39 =>
          simp only [List.getElem?_toArray, List.getElem?_cons_zero, List.getElem?_cons_succ, Option.some.injEq] at ho
          subst ho
          have p38 : b 38 = true := hd ⟨38, .data⟩ (by simp) rfl
          have p23 : b 23 = true := hd ⟨23, .guard⟩ (by simp) rfl
          have e72 := (ev 38 72 rfl p38).trans vv38
          have hl := (hS.cell (p := ⟨gr, j * 5 + 2, none⟩) (cell_lt dj)).trans dj
          rw [vv39]
          refine does_value_g rfl (yl 23 57 false rfl p23 vv23) (by intro c h; cases h) (w' := W) ?_ (hS)
          · simp [execOp, go_sem, e72, hl]
        | 40 =>
          simp only [List.getElem?_toArray, List.getElem?_cons_zero, List.getElem?_cons_succ, Option.some.injEq] at ho
          subst ho
          have p31 : b 31 = true := hd ⟨31, .data⟩ (by simp) rfl
          have p39 : b 39 = true := hd ⟨39, .data⟩ (by simp) rfl
          have p23 : b 23 = true := hd ⟨23, .guard⟩ (by simp) rfl
          have e65 := (ev 31 65 rfl p31).trans vv31
          have e73 := (ev 39 73 rfl p39).trans vv39
          rw [vv40]
          refine does_value_g rfl (yl 23 57 false rfl p23 vv23) (by intro c h; cases h) (w' := W) ?_ (hS)
          · simp [execOp, go_sem, e65, e73, hless]
        | 41 =>
          simp only [List.getElem?_toArray, List.getElem?_cons_zero, List.getElem?_cons_succ, Option.some.injEq] at ho
          subst ho
          have p23 : b 23 = true := hd ⟨23, .data⟩ (by simp) rfl
          have p40 : b 40 = true := hd ⟨40, .data⟩ (by simp) rfl
          have p20 : b 20 = true := hd ⟨20, .guard⟩ (by simp) rfl
          have e57 := (ev 23 57 rfl p23).trans vv23
          have e74 := (ev 40 74 rfl p40).trans vv40
          rw [vv41]
          refine does_value_g rfl (yl 20 54 true rfl p20 vv20) (by intro c h; cases h) (w' := W) ?_ (hS)
          · simp [execOp, go_sem, e57, e74]
        | 42 =>
          simp only [List.getElem?_toArray, List.getElem?_cons_zero, List.getElem?_cons_succ, Option.some.injEq] at ho
          subst ho
          have p20 : b 20 = true := hd ⟨20, .data⟩ (by simp) rfl
          have p41 : b 41 = true := hd ⟨41, .data⟩ (by simp) rfl
          have e54 := (ev 20 54 rfl p20).trans vv20
          have e75 := (ev 41 75 rfl p41).trans vv41
          rw [vv42]
          refine does_value rfl (by intro c h; cases h) (w' := W) ?_ (hS)
          · simp [execOp, go_sem, e54, e75]
        | k + 43 => simp at ho
      · intro b' W hS _
        subst hLe
        exact hQ _ _ _ _ _ _ _ _ _ _ _ _ _ _ _ _ _ _ _ _ _ _ _ _ _ _ _ _ _ _ _ _ _ _ _ _ _ _ _ _ _ _ W hS

end Go.Proofs.YtlcojcldbdikgaaGreatDoor.Rc
