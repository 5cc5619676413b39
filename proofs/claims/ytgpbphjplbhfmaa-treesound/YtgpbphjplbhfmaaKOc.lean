/-
  The drawn regions over an operation: mayHold, isCounted, isOfItsKind, the document's May.
-/
import Derived.Test.YtgpbphjplbhfmaaQOa
import Derived.Test.YtgpbphjplbhfmaaQKcodm
import Derived.Test.YtgpbphjplbhfmaaKZr

namespace Go.Proofs.Ytgpbphjplbhfmaa.Cd
open Go.RowKit Go.Maps

/-- A region of a body, by its number. -/
def regs (n : Nat) : Code → Option (Array Oper)
  | .region k ops _ => if k = n then some ops else none
  | .seq a b => match regs n a with | some x => some x | none => regs n b
  | .cond _ a b => match regs n a with | some x => some x | none => regs n b
  | .block _ b => regs n b
  | .loop b => regs n b
  | .scope b => regs n b
  | .rangeFunc _ _ a b => match regs n a with | some x => some x | none => regs n b
  | _ => none

set_option maxRecDepth 8000 in
set_option maxHeartbeats 4000000 in
theorem hold_root {Q : Exit → Act → World → Prop} {base : Array Value} {dd : List Deferred} {ops : Array Oper} (hops : Try.f67.body.bind (regs 1) = some ops) (g : Nat) (t n sq kd ot on pt pn : Int) (nm : List UInt8) (p q : Option Addr) (l c m d : Nat) (w9 : World) (hsz : base.size = 13)
    (b1 : base.getD 1 undef = .pointer (some ⟨g, 0, none⟩)) (h9 : OpB w9 g t n sq kd ot on pt pn nm p q l c m d)
    (cR : ∀ W, Below w9.heap.size w9 W → Calls Try.prog 33 #[] W fun e w' => e = .returned (.agg #[.int .i64 0, .int .i64 0]) ∧ Below W.heap.size W w')
    (hr : pt = 0 ∧ pn = 0)
    (hQ : ∀ W, Below w9.heap.size w9 W → Q .normal ⟨putAll base [(some 3, .pointer (some ⟨g, 6, none⟩)), (some 4, .agg #[.int .i64 pt, .int .i64 pn]), (some 5, .agg #[.int .i64 0, .int .i64 0]), (some 6, .bool true), (some 7, .bool true), (some 8, undef), (some 9, undef), (some 10, undef), (some 11, undef), (some 12, .bool true), (some 2, .bool true)], dd⟩ W) :
    (Code.region 1 ops true).wp Try.prog Q ⟨base, dd⟩ w9 := by
  have hmix : Try.prog.follows .mixedOrders = true := by kernel_rfl
  have h2 := (show Try.f67.body.bind (regs 1) = some _ from rfl).symm.trans hops
  obtain rfl := Option.some.inj h2
  clear h2 hops
  have below9 : Below w9.heap.size w9 w9.drew := (Below.refl _ _).drew
  obtain ⟨LL, hLe⟩ : ∃ LL : List (Option Tmp × Value), LL = [(some 3, .pointer (some ⟨g, 6, none⟩)), (some 4, .agg #[.int .i64 pt, .int .i64 pn]), (some 5, .agg #[.int .i64 0, .int .i64 0]), (some 6, .bool true), (some 7, .bool true), (some 8, undef), (some 9, undef), (some 10, undef), (some 11, undef), (some 12, .bool true), (some 2, .bool true)] := ⟨_, rfl⟩
  have vv0 : vals LL 0 = .pointer (some ⟨g, 6, none⟩) := by rw [hLe]; rfl
  have vv1 : vals LL 1 = .agg #[.int .i64 pt, .int .i64 pn] := by rw [hLe]; rfl
  have vv2 : vals LL 2 = .agg #[.int .i64 0, .int .i64 0] := by rw [hLe]; rfl
  have vv3 : vals LL 3 = .bool true := by rw [hLe]; rfl
  have vv4 : vals LL 4 = .bool true := by rw [hLe]; rfl
  have vv5 : vals LL 5 = undef := by rw [hLe]; rfl
  have vv6 : vals LL 6 = undef := by rw [hLe]; rfl
  have vv7 : vals LL 7 = undef := by rw [hLe]; rfl
  have vv8 : vals LL 8 = undef := by rw [hLe]; rfl
  have vv9 : vals LL 9 = .bool true := by rw [hLe]; rfl
  have vv10 : vals LL 10 = .bool true := by rw [hLe]; rfl
  refine region_laid hmix (by kernel_rfl) 13 hsz (by kernel_rfl) LL (by rw [hLe]; rfl) (fun _ W => Below w9.heap.size w9 W) below9 ?_ ?_
  · intro b W i o a hS hcl ho hb hd ev kp yl
    match i with
    | 0 =>
      simp only [List.getElem?_toArray, List.getElem?_cons_zero, Option.some.injEq] at ho
      subst ho
      have e1 : a.tmps[1]?.getD undef = .pointer (some ⟨g, 0, none⟩) := (kp 1 (by kernel_rfl)).trans b1
      rw [vv0]
      refine does_value rfl (by intro c h; cases h) (w' := W) ?_ (hS)
      · simp [execOp, go_sem, e1]
    | 1 =>
      simp only [List.getElem?_toArray, List.getElem?_cons_zero, List.getElem?_cons_succ, Option.some.injEq] at ho
      subst ho
      have p0 : b 0 = true := hd ⟨0, .data⟩ (by simp) rfl
      have e3 := (ev 0 3 rfl p0).trans vv0
      obtain ⟨d0, d1, d2, d3, d4, d5, d6, d7, d8, d9, d10⟩ := (h9.below hS).cells
      rw [vv1]
      refine does_value rfl (by intro c h; cases h) (w' := W) ?_ (hS)
      · simp [execOp, go_sem, e3, d6, d7]
    | 2 =>
      simp only [List.getElem?_toArray, List.getElem?_cons_zero, List.getElem?_cons_succ, Option.some.injEq] at ho
      subst ho
      rw [vv2]
      refine does_call rfl (by intro c h; cases h) (f := 33) (args := #[]) ?_ ?_
      · simp [go_sem, ]
      · exact (cR W hS).mono (fun e w' h => ⟨h.1, hS.trans (h.2.mono hS.size)⟩)
    | 3 =>
      simp only [List.getElem?_toArray, List.getElem?_cons_zero, List.getElem?_cons_succ, Option.some.injEq] at ho
      subst ho
      have p1 : b 1 = true := hd ⟨1, .data⟩ (by simp) rfl
      have p2 : b 2 = true := hd ⟨2, .data⟩ (by simp) rfl
      have e4 := (ev 1 4 rfl p1).trans vv1
      have e5 := (ev 2 5 rfl p2).trans vv2
      rw [vv3]
      refine does_value rfl (by intro c h; cases h) (w' := W) ?_ (hS)
      · simp [execOp, go_sem, e4, e5, hr.1, hr.2]
    | 4 =>
      simp only [List.getElem?_toArray, List.getElem?_cons_zero, List.getElem?_cons_succ, Option.some.injEq] at ho
      subst ho
      have p3 : b 3 = true := hd ⟨3, .data⟩ (by simp) rfl
      have e6 := (ev 3 6 rfl p3).trans vv3
      rw [vv4]
      refine does_value rfl (by intro c h; cases h) (w' := W) ?_ (hS)
      · simp [execOp, go_sem, e6]
    | 5 =>
      simp only [List.getElem?_toArray, List.getElem?_cons_zero, List.getElem?_cons_succ, Option.some.injEq] at ho
      subst ho
      have p4 : b 4 = true := hd ⟨4, .guard⟩ (by simp) rfl
      exact does_pass rfl (yl 4 7 true rfl p4 vv4) (by decide) vv5 (hS)
    | 6 =>
      simp only [List.getElem?_toArray, List.getElem?_cons_zero, List.getElem?_cons_succ, Option.some.injEq] at ho
      subst ho
      have p5 : b 5 = true := hd ⟨5, .data⟩ (by simp) rfl
      have p4 : b 4 = true := hd ⟨4, .guard⟩ (by simp) rfl
      exact does_pass rfl (yl 4 7 true rfl p4 vv4) (by decide) vv6 (hS)
    | 7 =>
      simp only [List.getElem?_toArray, List.getElem?_cons_zero, List.getElem?_cons_succ, Option.some.injEq] at ho
      subst ho
      have p4 : b 4 = true := hd ⟨4, .guard⟩ (by simp) rfl
      exact does_pass rfl (yl 4 7 true rfl p4 vv4) (by decide) vv7 (hS)
    | 8 =>
      simp only [List.getElem?_toArray, List.getElem?_cons_zero, List.getElem?_cons_succ, Option.some.injEq] at ho
      subst ho
      have p6 : b 6 = true := hd ⟨6, .data⟩ (by simp) rfl
      have p7 : b 7 = true := hd ⟨7, .data⟩ (by simp) rfl
      have p4 : b 4 = true := hd ⟨4, .guard⟩ (by simp) rfl
      exact does_pass rfl (yl 4 7 true rfl p4 vv4) (by decide) vv8 (hS)
    | 9 =>
      simp only [List.getElem?_toArray, List.getElem?_cons_zero, List.getElem?_cons_succ, Option.some.injEq] at ho
      subst ho
      have p4 : b 4 = true := hd ⟨4, .data⟩ (by simp) rfl
      have p8 : b 8 = true := hd ⟨8, .data⟩ (by simp) rfl
      have e7 := (ev 4 7 rfl p4).trans vv4
      rw [vv9]
      refine does_value rfl (by intro c h; cases h) (w' := W) ?_ (hS)
      · simp [execOp, go_sem, e7]
    | 10 =>
      simp only [List.getElem?_toArray, List.getElem?_cons_zero, List.getElem?_cons_succ, Option.some.injEq] at ho
      subst ho
      have p9 : b 9 = true := hd ⟨9, .data⟩ (by simp) rfl
      have e12 := (ev 9 12 rfl p9).trans vv9
      rw [vv10]
      refine does_value rfl (by intro c h; cases h) (w' := W) ?_ (hS)
      · simp [execOp, go_sem, e12]
    | k + 11 => simp at ho
  · intro b' W hS _
    subst hLe
    exact hQ W hS

set_option maxRecDepth 8000 in
set_option maxHeartbeats 4000000 in
theorem hold_not {Q : Exit → Act → World → Prop} {base : Array Value} {dd : List Deferred} {ops : Array Oper} (hops : Try.f67.body.bind (regs 1) = some ops) (g : Nat) (t n sq kd ot on pt pn : Int) (nm : List UInt8) (p q : Option Addr) (l c m d : Nat) (w9 : World) (hsz : base.size = 13)
    (b1 : base.getD 1 undef = .pointer (some ⟨g, 0, none⟩)) (h9 : OpB w9 g t n sq kd ot on pt pn nm p q l c m d)
    (cR : ∀ W, Below w9.heap.size w9 W → Calls Try.prog 33 #[] W fun e w' => e = .returned (.agg #[.int .i64 0, .int .i64 0]) ∧ Below W.heap.size W w')
    (hr : ¬ pt = 0 ∨ ¬ pn = 0) (x : Bool)
    (cE : ∀ W, Below w9.heap.size w9 W → Calls Try.prog 69 #[.agg #[.int .i64 pt, .int .i64 pn], .agg #[.int .i64 t, .int .i64 n, .int .i64 sq, .int .i64 kd, .int .i64 ot, .int .i64 on, .int .i64 pt, .int .i64 pn, .string (bas nm), .slice p l c, .slice q m d]] W fun e w' => e = .returned (.bool x) ∧ Below W.heap.size W w')
    (hQ : ∀ W, Below w9.heap.size w9 W → Q .normal ⟨putAll base [(some 3, .pointer (some ⟨g, 6, none⟩)), (some 4, .agg #[.int .i64 pt, .int .i64 pn]), (some 5, .agg #[.int .i64 0, .int .i64 0]), (some 6, .bool false), (some 7, .bool false), (some 8, .pointer (some ⟨g, 6, none⟩)), (some 9, .agg #[.int .i64 pt, .int .i64 pn]), (some 10, .agg #[.int .i64 t, .int .i64 n, .int .i64 sq, .int .i64 kd, .int .i64 ot, .int .i64 on, .int .i64 pt, .int .i64 pn, .string (bas nm), .slice p l c, .slice q m d]), (some 11, .bool x), (some 12, .bool x), (some 2, .bool x)], dd⟩ W) :
    (Code.region 1 ops true).wp Try.prog Q ⟨base, dd⟩ w9 := by
  have hmix : Try.prog.follows .mixedOrders = true := by kernel_rfl
  have h2 := (show Try.f67.body.bind (regs 1) = some _ from rfl).symm.trans hops
  obtain rfl := Option.some.inj h2
  clear h2 hops
  have below9 : Below w9.heap.size w9 w9.drew := (Below.refl _ _).drew
  obtain ⟨LL, hLe⟩ : ∃ LL : List (Option Tmp × Value), LL = [(some 3, .pointer (some ⟨g, 6, none⟩)), (some 4, .agg #[.int .i64 pt, .int .i64 pn]), (some 5, .agg #[.int .i64 0, .int .i64 0]), (some 6, .bool false), (some 7, .bool false), (some 8, .pointer (some ⟨g, 6, none⟩)), (some 9, .agg #[.int .i64 pt, .int .i64 pn]), (some 10, .agg #[.int .i64 t, .int .i64 n, .int .i64 sq, .int .i64 kd, .int .i64 ot, .int .i64 on, .int .i64 pt, .int .i64 pn, .string (bas nm), .slice p l c, .slice q m d]), (some 11, .bool x), (some 12, .bool x), (some 2, .bool x)] := ⟨_, rfl⟩
  have vv0 : vals LL 0 = .pointer (some ⟨g, 6, none⟩) := by rw [hLe]; rfl
  have vv1 : vals LL 1 = .agg #[.int .i64 pt, .int .i64 pn] := by rw [hLe]; rfl
  have vv2 : vals LL 2 = .agg #[.int .i64 0, .int .i64 0] := by rw [hLe]; rfl
  have vv3 : vals LL 3 = .bool false := by rw [hLe]; rfl
  have vv4 : vals LL 4 = .bool false := by rw [hLe]; rfl
  have vv5 : vals LL 5 = .pointer (some ⟨g, 6, none⟩) := by rw [hLe]; rfl
  have vv6 : vals LL 6 = .agg #[.int .i64 pt, .int .i64 pn] := by rw [hLe]; rfl
  have vv7 : vals LL 7 = .agg #[.int .i64 t, .int .i64 n, .int .i64 sq, .int .i64 kd, .int .i64 ot, .int .i64 on, .int .i64 pt, .int .i64 pn, .string (bas nm), .slice p l c, .slice q m d] := by rw [hLe]; rfl
  have vv8 : vals LL 8 = .bool x := by rw [hLe]; rfl
  have vv9 : vals LL 9 = .bool x := by rw [hLe]; rfl
  have vv10 : vals LL 10 = .bool x := by rw [hLe]; rfl
  refine region_laid hmix (by kernel_rfl) 13 hsz (by kernel_rfl) LL (by rw [hLe]; rfl) (fun _ W => Below w9.heap.size w9 W) below9 ?_ ?_
  · intro b W i o a hS hcl ho hb hd ev kp yl
    match i with
    | 0 =>
      simp only [List.getElem?_toArray, List.getElem?_cons_zero, Option.some.injEq] at ho
      subst ho
      have e1 : a.tmps[1]?.getD undef = .pointer (some ⟨g, 0, none⟩) := (kp 1 (by kernel_rfl)).trans b1
      rw [vv0]
      refine does_value rfl (by intro c h; cases h) (w' := W) ?_ (hS)
      · simp [execOp, go_sem, e1]
    | 1 =>
      simp only [List.getElem?_toArray, List.getElem?_cons_zero, List.getElem?_cons_succ, Option.some.injEq] at ho
      subst ho
      have p0 : b 0 = true := hd ⟨0, .data⟩ (by simp) rfl
      have e3 := (ev 0 3 rfl p0).trans vv0
      obtain ⟨d0, d1, d2, d3, d4, d5, d6, d7, d8, d9, d10⟩ := (h9.below hS).cells
      rw [vv1]
      refine does_value rfl (by intro c h; cases h) (w' := W) ?_ (hS)
      · simp [execOp, go_sem, e3, d6, d7]
    | 2 =>
      simp only [List.getElem?_toArray, List.getElem?_cons_zero, List.getElem?_cons_succ, Option.some.injEq] at ho
      subst ho
      rw [vv2]
      refine does_call rfl (by intro c h; cases h) (f := 33) (args := #[]) ?_ ?_
      · simp [go_sem, ]
      · exact (cR W hS).mono (fun e w' h => ⟨h.1, hS.trans (h.2.mono hS.size)⟩)
    | 3 =>
      simp only [List.getElem?_toArray, List.getElem?_cons_zero, List.getElem?_cons_succ, Option.some.injEq] at ho
      subst ho
      have p1 : b 1 = true := hd ⟨1, .data⟩ (by simp) rfl
      have p2 : b 2 = true := hd ⟨2, .data⟩ (by simp) rfl
      have e4 := (ev 1 4 rfl p1).trans vv1
      have e5 := (ev 2 5 rfl p2).trans vv2
      rw [vv3]
      refine does_value rfl (by intro c h; cases h) (w' := W) ?_ (hS)
      · rcases hr with h | h <;> simp [execOp, go_sem, e4, e5, h]
    | 4 =>
      simp only [List.getElem?_toArray, List.getElem?_cons_zero, List.getElem?_cons_succ, Option.some.injEq] at ho
      subst ho
      have p3 : b 3 = true := hd ⟨3, .data⟩ (by simp) rfl
      have e6 := (ev 3 6 rfl p3).trans vv3
      rw [vv4]
      refine does_value rfl (by intro c h; cases h) (w' := W) ?_ (hS)
      · simp [execOp, go_sem, e6]
    | 5 =>
      simp only [List.getElem?_toArray, List.getElem?_cons_zero, List.getElem?_cons_succ, Option.some.injEq] at ho
      subst ho
      have p4 : b 4 = true := hd ⟨4, .guard⟩ (by simp) rfl
      have e1 : a.tmps[1]?.getD undef = .pointer (some ⟨g, 0, none⟩) := (kp 1 (by kernel_rfl)).trans b1
      rw [vv5]
      refine does_value_g rfl (yl 4 7 false rfl p4 vv4) (by intro c h; cases h) (w' := W) ?_ (hS)
      · simp [execOp, go_sem, e1]
    | 6 =>
      simp only [List.getElem?_toArray, List.getElem?_cons_zero, List.getElem?_cons_succ, Option.some.injEq] at ho
      subst ho
      have p5 : b 5 = true := hd ⟨5, .data⟩ (by simp) rfl
      have p4 : b 4 = true := hd ⟨4, .guard⟩ (by simp) rfl
      have e8 := (ev 5 8 rfl p5).trans vv5
      obtain ⟨d0, d1, d2, d3, d4, d5, d6, d7, d8, d9, d10⟩ := (h9.below hS).cells
      rw [vv6]
      refine does_value_g rfl (yl 4 7 false rfl p4 vv4) (by intro c h; cases h) (w' := W) ?_ (hS)
      · simp [execOp, go_sem, e8, d6, d7]
    | 7 =>
      simp only [List.getElem?_toArray, List.getElem?_cons_zero, List.getElem?_cons_succ, Option.some.injEq] at ho
      subst ho
      have p4 : b 4 = true := hd ⟨4, .guard⟩ (by simp) rfl
      have e1 : a.tmps[1]?.getD undef = .pointer (some ⟨g, 0, none⟩) := (kp 1 (by kernel_rfl)).trans b1
      obtain ⟨d0, d1, d2, d3, d4, d5, d6, d7, d8, d9, d10⟩ := (h9.below hS).cells
      rw [vv7]
      refine does_value_g rfl (yl 4 7 false rfl p4 vv4) (by intro c h; cases h) (w' := W) ?_ (hS)
      · simp [execOp, go_sem, e1, d0, d1, d2, d3, d4, d5, d6, d7, d8, d9, d10]
    | 8 =>
      simp only [List.getElem?_toArray, List.getElem?_cons_zero, List.getElem?_cons_succ, Option.some.injEq] at ho
      subst ho
      have p6 : b 6 = true := hd ⟨6, .data⟩ (by simp) rfl
      have p7 : b 7 = true := hd ⟨7, .data⟩ (by simp) rfl
      have p4 : b 4 = true := hd ⟨4, .guard⟩ (by simp) rfl
      have e9 := (ev 6 9 rfl p6).trans vv6
      have e10 := (ev 7 10 rfl p7).trans vv7
      rw [vv8]
      refine does_call_g rfl (yl 4 7 false rfl p4 vv4) (by intro c h; cases h) (f := 69) (args := #[.agg #[.int .i64 pt, .int .i64 pn], .agg #[.int .i64 t, .int .i64 n, .int .i64 sq, .int .i64 kd, .int .i64 ot, .int .i64 on, .int .i64 pt, .int .i64 pn, .string (bas nm), .slice p l c, .slice q m d]]) ?_ ?_
      · simp [go_sem, e9, e10]
      · exact (cE W hS).mono (fun e w' h => ⟨h.1, hS.trans (h.2.mono hS.size)⟩)
    | 9 =>
      simp only [List.getElem?_toArray, List.getElem?_cons_zero, List.getElem?_cons_succ, Option.some.injEq] at ho
      subst ho
      have p4 : b 4 = true := hd ⟨4, .data⟩ (by simp) rfl
      have p8 : b 8 = true := hd ⟨8, .data⟩ (by simp) rfl
      have e7 := (ev 4 7 rfl p4).trans vv4
      have e11 := (ev 8 11 rfl p8).trans vv8
      rw [vv9]
      refine does_value rfl (by intro c h; cases h) (w' := W) ?_ (hS)
      · simp [execOp, go_sem, e7, e11]
    | 10 =>
      simp only [List.getElem?_toArray, List.getElem?_cons_zero, List.getElem?_cons_succ, Option.some.injEq] at ho
      subst ho
      have p9 : b 9 = true := hd ⟨9, .data⟩ (by simp) rfl
      have e12 := (ev 9 12 rfl p9).trans vv9
      rw [vv10]
      refine does_value rfl (by intro c h; cases h) (w' := W) ?_ (hS)
      · simp [execOp, go_sem, e12]
    | k + 11 => simp at ho
  · intro b' W hS _
    subst hLe
    exact hQ W hS

set_option maxRecDepth 8000 in
set_option maxHeartbeats 4000000 in
theorem cnt_low {Q : Exit → Act → World → Prop} {base : Array Value} {dd : List Deferred} {ops : Array Oper} (hops : Try.f47.body.bind (regs 1) = some ops) (g : Nat) (t n sq kd ot on pt pn : Int) (nm : List UInt8) (p q : Option Addr) (l c m d : Nat) (w9 : World) (hsz : base.size = 28)
    (b1 : base.getD 1 undef = .pointer (some ⟨g, 0, none⟩)) (h9 : OpB w9 g t n sq kd ot on pt pn nm p q l c m d)
    (h1 : ¬ 1 ≤ sq)
    (hQ : ∀ W, Below w9.heap.size w9 W → Q .normal ⟨putAll base [(some 3, .pointer (some ⟨g, 2, none⟩)), (some 4, .int .i64 sq), (some 5, .bool false), (some 6, .bool false), (some 7, undef), (some 8, undef), (some 9, undef), (some 10, .bool false), (some 11, .bool false), (some 12, undef), (some 13, undef), (some 14, undef), (some 15, .bool false), (some 16, .bool false), (some 17, undef), (some 18, undef), (some 19, undef), (some 20, undef), (some 21, undef), (some 22, undef), (some 23, undef), (some 24, undef), (some 25, undef), (some 26, undef), (some 27, .bool false), (some 2, .bool false)], dd⟩ W) :
    (Code.region 1 ops true).wp Try.prog Q ⟨base, dd⟩ w9 := by
  have hmix : Try.prog.follows .mixedOrders = true := by kernel_rfl
  have h2 := (show Try.f47.body.bind (regs 1) = some _ from rfl).symm.trans hops
  obtain rfl := Option.some.inj h2
  clear h2 hops
  have below9 : Below w9.heap.size w9 w9.drew := (Below.refl _ _).drew
  obtain ⟨LL, hLe⟩ : ∃ LL : List (Option Tmp × Value), LL = [(some 3, .pointer (some ⟨g, 2, none⟩)), (some 4, .int .i64 sq), (some 5, .bool false), (some 6, .bool false), (some 7, undef), (some 8, undef), (some 9, undef), (some 10, .bool false), (some 11, .bool false), (some 12, undef), (some 13, undef), (some 14, undef), (some 15, .bool false), (some 16, .bool false), (some 17, undef), (some 18, undef), (some 19, undef), (some 20, undef), (some 21, undef), (some 22, undef), (some 23, undef), (some 24, undef), (some 25, undef), (some 26, undef), (some 27, .bool false), (some 2, .bool false)] := ⟨_, rfl⟩
  have vv0 : vals LL 0 = .pointer (some ⟨g, 2, none⟩) := by rw [hLe]; rfl
  have vv1 : vals LL 1 = .int .i64 sq := by rw [hLe]; rfl
  have vv2 : vals LL 2 = .bool false := by rw [hLe]; rfl
  have vv3 : vals LL 3 = .bool false := by rw [hLe]; rfl
  have vv4 : vals LL 4 = undef := by rw [hLe]; rfl
  have vv5 : vals LL 5 = undef := by rw [hLe]; rfl
  have vv6 : vals LL 6 = undef := by rw [hLe]; rfl
  have vv7 : vals LL 7 = .bool false := by rw [hLe]; rfl
  have vv8 : vals LL 8 = .bool false := by rw [hLe]; rfl
  have vv9 : vals LL 9 = undef := by rw [hLe]; rfl
  have vv10 : vals LL 10 = undef := by rw [hLe]; rfl
  have vv11 : vals LL 11 = undef := by rw [hLe]; rfl
  have vv12 : vals LL 12 = .bool false := by rw [hLe]; rfl
  have vv13 : vals LL 13 = .bool false := by rw [hLe]; rfl
  have vv14 : vals LL 14 = undef := by rw [hLe]; rfl
  have vv15 : vals LL 15 = undef := by rw [hLe]; rfl
  have vv16 : vals LL 16 = undef := by rw [hLe]; rfl
  have vv17 : vals LL 17 = undef := by rw [hLe]; rfl
  have vv18 : vals LL 18 = undef := by rw [hLe]; rfl
  have vv19 : vals LL 19 = undef := by rw [hLe]; rfl
  have vv20 : vals LL 20 = undef := by rw [hLe]; rfl
  have vv21 : vals LL 21 = undef := by rw [hLe]; rfl
  have vv22 : vals LL 22 = undef := by rw [hLe]; rfl
  have vv23 : vals LL 23 = undef := by rw [hLe]; rfl
  have vv24 : vals LL 24 = .bool false := by rw [hLe]; rfl
  have vv25 : vals LL 25 = .bool false := by rw [hLe]; rfl
  refine region_laid hmix (by kernel_rfl) 28 hsz (by kernel_rfl) LL (by rw [hLe]; rfl) (fun _ W => Below w9.heap.size w9 W) below9 ?_ ?_
  · intro b W i o a hS hcl ho hb hd ev kp yl
    match i with
    | 0 =>
      simp only [List.getElem?_toArray, List.getElem?_cons_zero, Option.some.injEq] at ho
      subst ho
      have e1 : a.tmps[1]?.getD undef = .pointer (some ⟨g, 0, none⟩) := (kp 1 (by kernel_rfl)).trans b1
      rw [vv0]
      refine does_value rfl (by intro c h; cases h) (w' := W) ?_ (hS)
      · simp [execOp, go_sem, e1]
    | 1 =>
      simp only [List.getElem?_toArray, List.getElem?_cons_zero, List.getElem?_cons_succ, Option.some.injEq] at ho
      subst ho
      have p0 : b 0 = true := hd ⟨0, .data⟩ (by simp) rfl
      have e3 := (ev 0 3 rfl p0).trans vv0
      obtain ⟨d0, d1, d2, d3, d4, d5, d6, d7, d8, d9, d10⟩ := (h9.below hS).cells
      rw [vv1]
      refine does_value rfl (by intro c h; cases h) (w' := W) ?_ (hS)
      · simp [execOp, go_sem, e3, d2]
    | 2 =>
      simp only [List.getElem?_toArray, List.getElem?_cons_zero, List.getElem?_cons_succ, Option.some.injEq] at ho
      subst ho
      have p1 : b 1 = true := hd ⟨1, .data⟩ (by simp) rfl
      have e4 := (ev 1 4 rfl p1).trans vv1
      rw [vv2]
      refine does_value rfl (by intro c h; cases h) (w' := W) ?_ (hS)
      · simp [execOp, go_sem, e4, h1]
    | 3 =>
      simp only [List.getElem?_toArray, List.getElem?_cons_zero, List.getElem?_cons_succ, Option.some.injEq] at ho
      subst ho
      have p2 : b 2 = true := hd ⟨2, .data⟩ (by simp) rfl
      have e5 := (ev 2 5 rfl p2).trans vv2
      rw [vv3]
      refine does_value rfl (by intro c h; cases h) (w' := W) ?_ (hS)
      · simp [execOp, go_sem, e5]
    | 4 =>
      simp only [List.getElem?_toArray, List.getElem?_cons_zero, List.getElem?_cons_succ, Option.some.injEq] at ho
      subst ho
      have p3 : b 3 = true := hd ⟨3, .guard⟩ (by simp) rfl
      exact does_pass rfl (yl 3 6 false rfl p3 vv3) (by decide) vv4 (hS)
    | 5 =>
      simp only [List.getElem?_toArray, List.getElem?_cons_zero, List.getElem?_cons_succ, Option.some.injEq] at ho
      subst ho
      have p4 : b 4 = true := hd ⟨4, .data⟩ (by simp) rfl
      have p3 : b 3 = true := hd ⟨3, .guard⟩ (by simp) rfl
      exact does_pass rfl (yl 3 6 false rfl p3 vv3) (by decide) vv5 (hS)
    | 6 =>
      simp only [List.getElem?_toArray, List.getElem?_cons_zero, List.getElem?_cons_succ, Option.some.injEq] at ho
      subst ho
      have p5 : b 5 = true := hd ⟨5, .data⟩ (by simp) rfl
      have p3 : b 3 = true := hd ⟨3, .guard⟩ (by simp) rfl
      exact does_pass rfl (yl 3 6 false rfl p3 vv3) (by decide) vv6 (hS)
    | 7 =>
      simp only [List.getElem?_toArray, List.getElem?_cons_zero, List.getElem?_cons_succ, Option.some.injEq] at ho
      subst ho
      have p3 : b 3 = true := hd ⟨3, .data⟩ (by simp) rfl
      have p6 : b 6 = true := hd ⟨6, .data⟩ (by simp) rfl
      have e6 := (ev 3 6 rfl p3).trans vv3
      rw [vv7]
      refine does_value rfl (by intro c h; cases h) (w' := W) ?_ (hS)
      · simp [execOp, go_sem, e6]
    | 8 =>
      simp only [List.getElem?_toArray, List.getElem?_cons_zero, List.getElem?_cons_succ, Option.some.injEq] at ho
      subst ho
      have p7 : b 7 = true := hd ⟨7, .data⟩ (by simp) rfl
      have e10 := (ev 7 10 rfl p7).trans vv7
      rw [vv8]
      refine does_value rfl (by intro c h; cases h) (w' := W) ?_ (hS)
      · simp [execOp, go_sem, e10]
    | 9 =>
      simp only [List.getElem?_toArray, List.getElem?_cons_zero, List.getElem?_cons_succ, Option.some.injEq] at ho
      subst ho
      have p8 : b 8 = true := hd ⟨8, .guard⟩ (by simp) rfl
      exact does_pass rfl (yl 8 11 false rfl p8 vv8) (by decide) vv9 (hS)
    | 10 =>
      simp only [List.getElem?_toArray, List.getElem?_cons_zero, List.getElem?_cons_succ, Option.some.injEq] at ho
      subst ho
      have p9 : b 9 = true := hd ⟨9, .data⟩ (by simp) rfl
      have p8 : b 8 = true := hd ⟨8, .guard⟩ (by simp) rfl
      exact does_pass rfl (yl 8 11 false rfl p8 vv8) (by decide) vv10 (hS)
    | 11 =>
      simp only [List.getElem?_toArray, List.getElem?_cons_zero, List.getElem?_cons_succ, Option.some.injEq] at ho
      subst ho
      have p10 : b 10 = true := hd ⟨10, .data⟩ (by simp) rfl
      have p8 : b 8 = true := hd ⟨8, .guard⟩ (by simp) rfl
      exact does_pass rfl (yl 8 11 false rfl p8 vv8) (by decide) vv11 (hS)
    | 12 =>
      simp only [List.getElem?_toArray, List.getElem?_cons_zero, List.getElem?_cons_succ, Option.some.injEq] at ho
      subst ho
      have p8 : b 8 = true := hd ⟨8, .data⟩ (by simp) rfl
      have p11 : b 11 = true := hd ⟨11, .data⟩ (by simp) rfl
      have e11 := (ev 8 11 rfl p8).trans vv8
      rw [vv12]
      refine does_value rfl (by intro c h; cases h) (w' := W) ?_ (hS)
      · simp [execOp, go_sem, e11]
    | 13 =>
      simp only [List.getElem?_toArray, List.getElem?_cons_zero, List.getElem?_cons_succ, Option.some.injEq] at ho
      subst ho
      have p12 : b 12 = true := hd ⟨12, .data⟩ (by simp) rfl
      have e15 := (ev 12 15 rfl p12).trans vv12
      rw [vv13]
      refine does_value rfl (by intro c h; cases h) (w' := W) ?_ (hS)
      · simp [execOp, go_sem, e15]
    | 14 =>
      simp only [List.getElem?_toArray, List.getElem?_cons_zero, List.getElem?_cons_succ, Option.some.injEq] at ho
      subst ho
      have p13 : b 13 = true := hd ⟨13, .guard⟩ (by simp) rfl
      exact does_pass rfl (yl 13 16 false rfl p13 vv13) (by decide) vv14 (hS)
    | 15 =>
      simp only [List.getElem?_toArray, List.getElem?_cons_zero, List.getElem?_cons_succ, Option.some.injEq] at ho
      subst ho
      have p14 : b 14 = true := hd ⟨14, .data⟩ (by simp) rfl
      have p13 : b 13 = true := hd ⟨13, .guard⟩ (by simp) rfl
      exact does_pass rfl (yl 13 16 false rfl p13 vv13) (by decide) vv15 (hS)
    | 16 =>
      simp only [List.getElem?_toArray, List.getElem?_cons_zero, List.getElem?_cons_succ, Option.some.injEq] at ho
      subst ho
      have p13 : b 13 = true := hd ⟨13, .guard⟩ (by simp) rfl
      exact does_pass rfl (yl 13 16 false rfl p13 vv13) (by decide) vv16 (hS)
    | 17 =>
      simp only [List.getElem?_toArray, List.getElem?_cons_zero, List.getElem?_cons_succ, Option.some.injEq] at ho
      subst ho
      have p16 : b 16 = true := hd ⟨16, .data⟩ (by simp) rfl
      have p13 : b 13 = true := hd ⟨13, .guard⟩ (by simp) rfl
      exact does_pass rfl (yl 13 16 false rfl p13 vv13) (by decide) vv17 (hS)
    | 18 =>
      simp only [List.getElem?_toArray, List.getElem?_cons_zero, List.getElem?_cons_succ, Option.some.injEq] at ho
      subst ho
      have p17 : b 17 = true := hd ⟨17, .data⟩ (by simp) rfl
      have p13 : b 13 = true := hd ⟨13, .guard⟩ (by simp) rfl
      exact does_pass rfl (yl 13 16 false rfl p13 vv13) (by decide) vv18 (hS)
    | 19 =>
      simp only [List.getElem?_toArray, List.getElem?_cons_zero, List.getElem?_cons_succ, Option.some.injEq] at ho
      subst ho
      have p15 : b 15 = true := hd ⟨15, .data⟩ (by simp) rfl
      have p18 : b 18 = true := hd ⟨18, .data⟩ (by simp) rfl
      have p13 : b 13 = true := hd ⟨13, .guard⟩ (by simp) rfl
      exact does_pass rfl (yl 13 16 false rfl p13 vv13) (by decide) vv19 (hS)
    | 20 =>
      simp only [List.getElem?_toArray, List.getElem?_cons_zero, List.getElem?_cons_succ, Option.some.injEq] at ho
      subst ho
      have p13 : b 13 = true := hd ⟨13, .guard⟩ (by simp) rfl
      exact does_pass rfl (yl 13 16 false rfl p13 vv13) (by decide) vv20 (hS)
    | 21 =>
      simp only [List.getElem?_toArray, List.getElem?_cons_zero, List.getElem?_cons_succ, Option.some.injEq] at ho
      subst ho
      have p20 : b 20 = true := hd ⟨20, .data⟩ (by simp) rfl
      have p13 : b 13 = true := hd ⟨13, .guard⟩ (by simp) rfl
      exact does_pass rfl (yl 13 16 false rfl p13 vv13) (by decide) vv21 (hS)
    | 22 =>
      simp only [List.getElem?_toArray, List.getElem?_cons_zero, List.getElem?_cons_succ, Option.some.injEq] at ho
      subst ho
      have p21 : b 21 = true := hd ⟨21, .data⟩ (by simp) rfl
      have p13 : b 13 = true := hd ⟨13, .guard⟩ (by simp) rfl
      exact does_pass rfl (yl 13 16 false rfl p13 vv13) (by decide) vv22 (hS)
    | 23 =>
      simp only [List.getElem?_toArray, List.getElem?_cons_zero, List.getElem?_cons_succ, Option.some.injEq] at ho
      subst ho
      have p19 : b 19 = true := hd ⟨19, .data⟩ (by simp) rfl
      have p22 : b 22 = true := hd ⟨22, .data⟩ (by simp) rfl
      have p13 : b 13 = true := hd ⟨13, .guard⟩ (by simp) rfl
      exact does_pass rfl (yl 13 16 false rfl p13 vv13) (by decide) vv23 (hS)
    | 24 =>
      simp only [List.getElem?_toArray, List.getElem?_cons_zero, List.getElem?_cons_succ, Option.some.injEq] at ho
      subst ho
      have p13 : b 13 = true := hd ⟨13, .data⟩ (by simp) rfl
      have p23 : b 23 = true := hd ⟨23, .data⟩ (by simp) rfl
      have e16 := (ev 13 16 rfl p13).trans vv13
      rw [vv24]
      refine does_value rfl (by intro c h; cases h) (w' := W) ?_ (hS)
      · simp [execOp, go_sem, e16]
    | 25 =>
      simp only [List.getElem?_toArray, List.getElem?_cons_zero, List.getElem?_cons_succ, Option.some.injEq] at ho
      subst ho
      have p24 : b 24 = true := hd ⟨24, .data⟩ (by simp) rfl
      have e27 := (ev 24 27 rfl p24).trans vv24
      rw [vv25]
      refine does_value rfl (by intro c h; cases h) (w' := W) ?_ (hS)
      · simp [execOp, go_sem, e27]
    | k + 26 => simp at ho
  · intro b' W hS _
    subst hLe
    exact hQ W hS

set_option maxRecDepth 8000 in
set_option maxHeartbeats 4000000 in
theorem cnt_high {Q : Exit → Act → World → Prop} {base : Array Value} {dd : List Deferred} {ops : Array Oper} (hops : Try.f47.body.bind (regs 1) = some ops) (g : Nat) (t n sq kd ot on pt pn : Int) (nm : List UInt8) (p q : Option Addr) (l c m d : Nat) (w9 : World) (hsz : base.size = 28)
    (b1 : base.getD 1 undef = .pointer (some ⟨g, 0, none⟩)) (h9 : OpB w9 g t n sq kd ot on pt pn nm p q l c m d)
    (h1 : 1 ≤ sq) (h2 : ¬ sq ≤ 1152921504606846976)
    (hQ : ∀ W, Below w9.heap.size w9 W → Q .normal ⟨putAll base [(some 3, .pointer (some ⟨g, 2, none⟩)), (some 4, .int .i64 sq), (some 5, .bool true), (some 6, .bool true), (some 7, .pointer (some ⟨g, 2, none⟩)), (some 8, .int .i64 sq), (some 9, .bool false), (some 10, .bool false), (some 11, .bool false), (some 12, undef), (some 13, undef), (some 14, undef), (some 15, .bool false), (some 16, .bool false), (some 17, undef), (some 18, undef), (some 19, undef), (some 20, undef), (some 21, undef), (some 22, undef), (some 23, undef), (some 24, undef), (some 25, undef), (some 26, undef), (some 27, .bool false), (some 2, .bool false)], dd⟩ W) :
    (Code.region 1 ops true).wp Try.prog Q ⟨base, dd⟩ w9 := by
  have hmix : Try.prog.follows .mixedOrders = true := by kernel_rfl
  have h2 := (show Try.f47.body.bind (regs 1) = some _ from rfl).symm.trans hops
  obtain rfl := Option.some.inj h2
  clear h2 hops
  have below9 : Below w9.heap.size w9 w9.drew := (Below.refl _ _).drew
  obtain ⟨LL, hLe⟩ : ∃ LL : List (Option Tmp × Value), LL = [(some 3, .pointer (some ⟨g, 2, none⟩)), (some 4, .int .i64 sq), (some 5, .bool true), (some 6, .bool true), (some 7, .pointer (some ⟨g, 2, none⟩)), (some 8, .int .i64 sq), (some 9, .bool false), (some 10, .bool false), (some 11, .bool false), (some 12, undef), (some 13, undef), (some 14, undef), (some 15, .bool false), (some 16, .bool false), (some 17, undef), (some 18, undef), (some 19, undef), (some 20, undef), (some 21, undef), (some 22, undef), (some 23, undef), (some 24, undef), (some 25, undef), (some 26, undef), (some 27, .bool false), (some 2, .bool false)] := ⟨_, rfl⟩
  have vv0 : vals LL 0 = .pointer (some ⟨g, 2, none⟩) := by rw [hLe]; rfl
  have vv1 : vals LL 1 = .int .i64 sq := by rw [hLe]; rfl
  have vv2 : vals LL 2 = .bool true := by rw [hLe]; rfl
  have vv3 : vals LL 3 = .bool true := by rw [hLe]; rfl
  have vv4 : vals LL 4 = .pointer (some ⟨g, 2, none⟩) := by rw [hLe]; rfl
  have vv5 : vals LL 5 = .int .i64 sq := by rw [hLe]; rfl
  have vv6 : vals LL 6 = .bool false := by rw [hLe]; rfl
  have vv7 : vals LL 7 = .bool false := by rw [hLe]; rfl
  have vv8 : vals LL 8 = .bool false := by rw [hLe]; rfl
  have vv9 : vals LL 9 = undef := by rw [hLe]; rfl
  have vv10 : vals LL 10 = undef := by rw [hLe]; rfl
  have vv11 : vals LL 11 = undef := by rw [hLe]; rfl
  have vv12 : vals LL 12 = .bool false := by rw [hLe]; rfl
  have vv13 : vals LL 13 = .bool false := by rw [hLe]; rfl
  have vv14 : vals LL 14 = undef := by rw [hLe]; rfl
  have vv15 : vals LL 15 = undef := by rw [hLe]; rfl
  have vv16 : vals LL 16 = undef := by rw [hLe]; rfl
  have vv17 : vals LL 17 = undef := by rw [hLe]; rfl
  have vv18 : vals LL 18 = undef := by rw [hLe]; rfl
  have vv19 : vals LL 19 = undef := by rw [hLe]; rfl
  have vv20 : vals LL 20 = undef := by rw [hLe]; rfl
  have vv21 : vals LL 21 = undef := by rw [hLe]; rfl
  have vv22 : vals LL 22 = undef := by rw [hLe]; rfl
  have vv23 : vals LL 23 = undef := by rw [hLe]; rfl
  have vv24 : vals LL 24 = .bool false := by rw [hLe]; rfl
  have vv25 : vals LL 25 = .bool false := by rw [hLe]; rfl
  refine region_laid hmix (by kernel_rfl) 28 hsz (by kernel_rfl) LL (by rw [hLe]; rfl) (fun _ W => Below w9.heap.size w9 W) below9 ?_ ?_
  · intro b W i o a hS hcl ho hb hd ev kp yl
    match i with
    | 0 =>
      simp only [List.getElem?_toArray, List.getElem?_cons_zero, Option.some.injEq] at ho
      subst ho
      have e1 : a.tmps[1]?.getD undef = .pointer (some ⟨g, 0, none⟩) := (kp 1 (by kernel_rfl)).trans b1
      rw [vv0]
      refine does_value rfl (by intro c h; cases h) (w' := W) ?_ (hS)
      · simp [execOp, go_sem, e1]
    | 1 =>
      simp only [List.getElem?_toArray, List.getElem?_cons_zero, List.getElem?_cons_succ, Option.some.injEq] at ho
      subst ho
      have p0 : b 0 = true := hd ⟨0, .data⟩ (by simp) rfl
      have e3 := (ev 0 3 rfl p0).trans vv0
      obtain ⟨d0, d1, d2, d3, d4, d5, d6, d7, d8, d9, d10⟩ := (h9.below hS).cells
      rw [vv1]
      refine does_value rfl (by intro c h; cases h) (w' := W) ?_ (hS)
      · simp [execOp, go_sem, e3, d2]
    | 2 =>
      simp only [List.getElem?_toArray, List.getElem?_cons_zero, List.getElem?_cons_succ, Option.some.injEq] at ho
      subst ho
      have p1 : b 1 = true := hd ⟨1, .data⟩ (by simp) rfl
      have e4 := (ev 1 4 rfl p1).trans vv1
      rw [vv2]
      refine does_value rfl (by intro c h; cases h) (w' := W) ?_ (hS)
      · simp [execOp, go_sem, e4, h1]
    | 3 =>
      simp only [List.getElem?_toArray, List.getElem?_cons_zero, List.getElem?_cons_succ, Option.some.injEq] at ho
      subst ho
      have p2 : b 2 = true := hd ⟨2, .data⟩ (by simp) rfl
      have e5 := (ev 2 5 rfl p2).trans vv2
      rw [vv3]
      refine does_value rfl (by intro c h; cases h) (w' := W) ?_ (hS)
      · simp [execOp, go_sem, e5]
    | 4 =>
      simp only [List.getElem?_toArray, List.getElem?_cons_zero, List.getElem?_cons_succ, Option.some.injEq] at ho
      subst ho
      have p3 : b 3 = true := hd ⟨3, .guard⟩ (by simp) rfl
      have e1 : a.tmps[1]?.getD undef = .pointer (some ⟨g, 0, none⟩) := (kp 1 (by kernel_rfl)).trans b1
      rw [vv4]
      refine does_value_g rfl (yl 3 6 true rfl p3 vv3) (by intro c h; cases h) (w' := W) ?_ (hS)
      · simp [execOp, go_sem, e1]
    | 5 =>
      simp only [List.getElem?_toArray, List.getElem?_cons_zero, List.getElem?_cons_succ, Option.some.injEq] at ho
      subst ho
      have p4 : b 4 = true := hd ⟨4, .data⟩ (by simp) rfl
      have p3 : b 3 = true := hd ⟨3, .guard⟩ (by simp) rfl
      have e7 := (ev 4 7 rfl p4).trans vv4
      obtain ⟨d0, d1, d2, d3, d4, d5, d6, d7, d8, d9, d10⟩ := (h9.below hS).cells
      rw [vv5]
      refine does_value_g rfl (yl 3 6 true rfl p3 vv3) (by intro c h; cases h) (w' := W) ?_ (hS)
      · simp [execOp, go_sem, e7, d2]
    | 6 =>
      simp only [List.getElem?_toArray, List.getElem?_cons_zero, List.getElem?_cons_succ, Option.some.injEq] at ho
      subst ho
      have p5 : b 5 = true := hd ⟨5, .data⟩ (by simp) rfl
      have p3 : b 3 = true := hd ⟨3, .guard⟩ (by simp) rfl
      have e8 := (ev 5 8 rfl p5).trans vv5
      rw [vv6]
      refine does_value_g rfl (yl 3 6 true rfl p3 vv3) (by intro c h; cases h) (w' := W) ?_ (hS)
      · simp [execOp, go_sem, e8, h2]
    | 7 =>
      simp only [List.getElem?_toArray, List.getElem?_cons_zero, List.getElem?_cons_succ, Option.some.injEq] at ho
      subst ho
      have p3 : b 3 = true := hd ⟨3, .data⟩ (by simp) rfl
      have p6 : b 6 = true := hd ⟨6, .data⟩ (by simp) rfl
      have e6 := (ev 3 6 rfl p3).trans vv3
      have e9 := (ev 6 9 rfl p6).trans vv6
      rw [vv7]
      refine does_value rfl (by intro c h; cases h) (w' := W) ?_ (hS)
      · simp [execOp, go_sem, e6, e9]
    | 8 =>
      simp only [List.getElem?_toArray, List.getElem?_cons_zero, List.getElem?_cons_succ, Option.some.injEq] at ho
      subst ho
      have p7 : b 7 = true := hd ⟨7, .data⟩ (by simp) rfl
      have e10 := (ev 7 10 rfl p7).trans vv7
      rw [vv8]
      refine does_value rfl (by intro c h; cases h) (w' := W) ?_ (hS)
      · simp [execOp, go_sem, e10]
    | 9 =>
      simp only [List.getElem?_toArray, List.getElem?_cons_zero, List.getElem?_cons_succ, Option.some.injEq] at ho
      subst ho
      have p8 : b 8 = true := hd ⟨8, .guard⟩ (by simp) rfl
      exact does_pass rfl (yl 8 11 false rfl p8 vv8) (by decide) vv9 (hS)
    | 10 =>
      simp only [List.getElem?_toArray, List.getElem?_cons_zero, List.getElem?_cons_succ, Option.some.injEq] at ho
      subst ho
      have p9 : b 9 = true := hd ⟨9, .data⟩ (by simp) rfl
      have p8 : b 8 = true := hd ⟨8, .guard⟩ (by simp) rfl
      exact does_pass rfl (yl 8 11 false rfl p8 vv8) (by decide) vv10 (hS)
    | 11 =>
      simp only [List.getElem?_toArray, List.getElem?_cons_zero, List.getElem?_cons_succ, Option.some.injEq] at ho
      subst ho
      have p10 : b 10 = true := hd ⟨10, .data⟩ (by simp) rfl
      have p8 : b 8 = true := hd ⟨8, .guard⟩ (by simp) rfl
      exact does_pass rfl (yl 8 11 false rfl p8 vv8) (by decide) vv11 (hS)
    | 12 =>
      simp only [List.getElem?_toArray, List.getElem?_cons_zero, List.getElem?_cons_succ, Option.some.injEq] at ho
      subst ho
      have p8 : b 8 = true := hd ⟨8, .data⟩ (by simp) rfl
      have p11 : b 11 = true := hd ⟨11, .data⟩ (by simp) rfl
      have e11 := (ev 8 11 rfl p8).trans vv8
      rw [vv12]
      refine does_value rfl (by intro c h; cases h) (w' := W) ?_ (hS)
      · simp [execOp, go_sem, e11]
    | 13 =>
      simp only [List.getElem?_toArray, List.getElem?_cons_zero, List.getElem?_cons_succ, Option.some.injEq] at ho
      subst ho
      have p12 : b 12 = true := hd ⟨12, .data⟩ (by simp) rfl
      have e15 := (ev 12 15 rfl p12).trans vv12
      rw [vv13]
      refine does_value rfl (by intro c h; cases h) (w' := W) ?_ (hS)
      · simp [execOp, go_sem, e15]
    | 14 =>
      simp only [List.getElem?_toArray, List.getElem?_cons_zero, List.getElem?_cons_succ, Option.some.injEq] at ho
      subst ho
      have p13 : b 13 = true := hd ⟨13, .guard⟩ (by simp) rfl
      exact does_pass rfl (yl 13 16 false rfl p13 vv13) (by decide) vv14 (hS)
    | 15 =>
      simp only [List.getElem?_toArray, List.getElem?_cons_zero, List.getElem?_cons_succ, Option.some.injEq] at ho
      subst ho
      have p14 : b 14 = true := hd ⟨14, .data⟩ (by simp) rfl
      have p13 : b 13 = true := hd ⟨13, .guard⟩ (by simp) rfl
      exact does_pass rfl (yl 13 16 false rfl p13 vv13) (by decide) vv15 (hS)
    | 16 =>
      simp only [List.getElem?_toArray, List.getElem?_cons_zero, List.getElem?_cons_succ, Option.some.injEq] at ho
      subst ho
      have p13 : b 13 = true := hd ⟨13, .guard⟩ (by simp) rfl
      exact does_pass rfl (yl 13 16 false rfl p13 vv13) (by decide) vv16 (hS)
    | 17 =>
      simp only [List.getElem?_toArray, List.getElem?_cons_zero, List.getElem?_cons_succ, Option.some.injEq] at ho
      subst ho
      have p16 : b 16 = true := hd ⟨16, .data⟩ (by simp) rfl
      have p13 : b 13 = true := hd ⟨13, .guard⟩ (by simp) rfl
      exact does_pass rfl (yl 13 16 false rfl p13 vv13) (by decide) vv17 (hS)
    | 18 =>
      simp only [List.getElem?_toArray, List.getElem?_cons_zero, List.getElem?_cons_succ, Option.some.injEq] at ho
      subst ho
      have p17 : b 17 = true := hd ⟨17, .data⟩ (by simp) rfl
      have p13 : b 13 = true := hd ⟨13, .guard⟩ (by simp) rfl
      exact does_pass rfl (yl 13 16 false rfl p13 vv13) (by decide) vv18 (hS)
    | 19 =>
      simp only [List.getElem?_toArray, List.getElem?_cons_zero, List.getElem?_cons_succ, Option.some.injEq] at ho
      subst ho
      have p15 : b 15 = true := hd ⟨15, .data⟩ (by simp) rfl
      have p18 : b 18 = true := hd ⟨18, .data⟩ (by simp) rfl
      have p13 : b 13 = true := hd ⟨13, .guard⟩ (by simp) rfl
      exact does_pass rfl (yl 13 16 false rfl p13 vv13) (by decide) vv19 (hS)
    | 20 =>
      simp only [List.getElem?_toArray, List.getElem?_cons_zero, List.getElem?_cons_succ, Option.some.injEq] at ho
      subst ho
      have p13 : b 13 = true := hd ⟨13, .guard⟩ (by simp) rfl
      exact does_pass rfl (yl 13 16 false rfl p13 vv13) (by decide) vv20 (hS)
    | 21 =>
      simp only [List.getElem?_toArray, List.getElem?_cons_zero, List.getElem?_cons_succ, Option.some.injEq] at ho
      subst ho
      have p20 : b 20 = true := hd ⟨20, .data⟩ (by simp) rfl
      have p13 : b 13 = true := hd ⟨13, .guard⟩ (by simp) rfl
      exact does_pass rfl (yl 13 16 false rfl p13 vv13) (by decide) vv21 (hS)
    | 22 =>
      simp only [List.getElem?_toArray, List.getElem?_cons_zero, List.getElem?_cons_succ, Option.some.injEq] at ho
      subst ho
      have p21 : b 21 = true := hd ⟨21, .data⟩ (by simp) rfl
      have p13 : b 13 = true := hd ⟨13, .guard⟩ (by simp) rfl
      exact does_pass rfl (yl 13 16 false rfl p13 vv13) (by decide) vv22 (hS)
    | 23 =>
      simp only [List.getElem?_toArray, List.getElem?_cons_zero, List.getElem?_cons_succ, Option.some.injEq] at ho
      subst ho
      have p19 : b 19 = true := hd ⟨19, .data⟩ (by simp) rfl
      have p22 : b 22 = true := hd ⟨22, .data⟩ (by simp) rfl
      have p13 : b 13 = true := hd ⟨13, .guard⟩ (by simp) rfl
      exact does_pass rfl (yl 13 16 false rfl p13 vv13) (by decide) vv23 (hS)
    | 24 =>
      simp only [List.getElem?_toArray, List.getElem?_cons_zero, List.getElem?_cons_succ, Option.some.injEq] at ho
      subst ho
      have p13 : b 13 = true := hd ⟨13, .data⟩ (by simp) rfl
      have p23 : b 23 = true := hd ⟨23, .data⟩ (by simp) rfl
      have e16 := (ev 13 16 rfl p13).trans vv13
      rw [vv24]
      refine does_value rfl (by intro c h; cases h) (w' := W) ?_ (hS)
      · simp [execOp, go_sem, e16]
    | 25 =>
      simp only [List.getElem?_toArray, List.getElem?_cons_zero, List.getElem?_cons_succ, Option.some.injEq] at ho
      subst ho
      have p24 : b 24 = true := hd ⟨24, .data⟩ (by simp) rfl
      have e27 := (ev 24 27 rfl p24).trans vv24
      rw [vv25]
      refine does_value rfl (by intro c h; cases h) (w' := W) ?_ (hS)
      · simp [execOp, go_sem, e27]
    | k + 26 => simp at ho
  · intro b' W hS _
    subst hLe
    exact hQ W hS

set_option maxRecDepth 8000 in
set_option maxHeartbeats 4000000 in
theorem cnt_vec {Q : Exit → Act → World → Prop} {base : Array Value} {dd : List Deferred} {ops : Array Oper} (hops : Try.f47.body.bind (regs 1) = some ops) (g : Nat) (t n sq kd ot on pt pn : Int) (nm : List UInt8) (p q : Option Addr) (l c m d : Nat) (w9 : World) (hsz : base.size = 28)
    (b1 : base.getD 1 undef = .pointer (some ⟨g, 0, none⟩)) (h9 : OpB w9 g t n sq kd ot on pt pn nm p q l c m d)
    (h1 : 1 ≤ sq) (h2 : sq ≤ 1152921504606846976)
    (cV : ∀ W, Below w9.heap.size w9 W → Calls Try.prog 65 #[.slice q m d] W fun e w' => e = .returned (.bool false) ∧ Below W.heap.size W w')
    (hQ : ∀ W, Below w9.heap.size w9 W → Q .normal ⟨putAll base [(some 3, .pointer (some ⟨g, 2, none⟩)), (some 4, .int .i64 sq), (some 5, .bool true), (some 6, .bool true), (some 7, .pointer (some ⟨g, 2, none⟩)), (some 8, .int .i64 sq), (some 9, .bool true), (some 10, .bool true), (some 11, .bool true), (some 12, .pointer (some ⟨g, 10, none⟩)), (some 13, .slice q m d), (some 14, .bool false), (some 15, .bool false), (some 16, .bool false), (some 17, undef), (some 18, undef), (some 19, undef), (some 20, undef), (some 21, undef), (some 22, undef), (some 23, undef), (some 24, undef), (some 25, undef), (some 26, undef), (some 27, .bool false), (some 2, .bool false)], dd⟩ W) :
    (Code.region 1 ops true).wp Try.prog Q ⟨base, dd⟩ w9 := by
  have hmix : Try.prog.follows .mixedOrders = true := by kernel_rfl
  have h2 := (show Try.f47.body.bind (regs 1) = some _ from rfl).symm.trans hops
  obtain rfl := Option.some.inj h2
  clear h2 hops
  have below9 : Below w9.heap.size w9 w9.drew := (Below.refl _ _).drew
  obtain ⟨LL, hLe⟩ : ∃ LL : List (Option Tmp × Value), LL = [(some 3, .pointer (some ⟨g, 2, none⟩)), (some 4, .int .i64 sq), (some 5, .bool true), (some 6, .bool true), (some 7, .pointer (some ⟨g, 2, none⟩)), (some 8, .int .i64 sq), (some 9, .bool true), (some 10, .bool true), (some 11, .bool true), (some 12, .pointer (some ⟨g, 10, none⟩)), (some 13, .slice q m d), (some 14, .bool false), (some 15, .bool false), (some 16, .bool false), (some 17, undef), (some 18, undef), (some 19, undef), (some 20, undef), (some 21, undef), (some 22, undef), (some 23, undef), (some 24, undef), (some 25, undef), (some 26, undef), (some 27, .bool false), (some 2, .bool false)] := ⟨_, rfl⟩
  have vv0 : vals LL 0 = .pointer (some ⟨g, 2, none⟩) := by rw [hLe]; rfl
  have vv1 : vals LL 1 = .int .i64 sq := by rw [hLe]; rfl
  have vv2 : vals LL 2 = .bool true := by rw [hLe]; rfl
  have vv3 : vals LL 3 = .bool true := by rw [hLe]; rfl
  have vv4 : vals LL 4 = .pointer (some ⟨g, 2, none⟩) := by rw [hLe]; rfl
  have vv5 : vals LL 5 = .int .i64 sq := by rw [hLe]; rfl
  have vv6 : vals LL 6 = .bool true := by rw [hLe]; rfl
  have vv7 : vals LL 7 = .bool true := by rw [hLe]; rfl
  have vv8 : vals LL 8 = .bool true := by rw [hLe]; rfl
  have vv9 : vals LL 9 = .pointer (some ⟨g, 10, none⟩) := by rw [hLe]; rfl
  have vv10 : vals LL 10 = .slice q m d := by rw [hLe]; rfl
  have vv11 : vals LL 11 = .bool false := by rw [hLe]; rfl
  have vv12 : vals LL 12 = .bool false := by rw [hLe]; rfl
  have vv13 : vals LL 13 = .bool false := by rw [hLe]; rfl
  have vv14 : vals LL 14 = undef := by rw [hLe]; rfl
  have vv15 : vals LL 15 = undef := by rw [hLe]; rfl
  have vv16 : vals LL 16 = undef := by rw [hLe]; rfl
  have vv17 : vals LL 17 = undef := by rw [hLe]; rfl
  have vv18 : vals LL 18 = undef := by rw [hLe]; rfl
  have vv19 : vals LL 19 = undef := by rw [hLe]; rfl
  have vv20 : vals LL 20 = undef := by rw [hLe]; rfl
  have vv21 : vals LL 21 = undef := by rw [hLe]; rfl
  have vv22 : vals LL 22 = undef := by rw [hLe]; rfl
  have vv23 : vals LL 23 = undef := by rw [hLe]; rfl
  have vv24 : vals LL 24 = .bool false := by rw [hLe]; rfl
  have vv25 : vals LL 25 = .bool false := by rw [hLe]; rfl
  refine region_laid hmix (by kernel_rfl) 28 hsz (by kernel_rfl) LL (by rw [hLe]; rfl) (fun _ W => Below w9.heap.size w9 W) below9 ?_ ?_
  · intro b W i o a hS hcl ho hb hd ev kp yl
    match i with
    | 0 =>
      simp only [List.getElem?_toArray, List.getElem?_cons_zero, Option.some.injEq] at ho
      subst ho
      have e1 : a.tmps[1]?.getD undef = .pointer (some ⟨g, 0, none⟩) := (kp 1 (by kernel_rfl)).trans b1
      rw [vv0]
      refine does_value rfl (by intro c h; cases h) (w' := W) ?_ (hS)
      · simp [execOp, go_sem, e1]
    | 1 =>
      simp only [List.getElem?_toArray, List.getElem?_cons_zero, List.getElem?_cons_succ, Option.some.injEq] at ho
      subst ho
      have p0 : b 0 = true := hd ⟨0, .data⟩ (by simp) rfl
      have e3 := (ev 0 3 rfl p0).trans vv0
      obtain ⟨d0, d1, d2, d3, d4, d5, d6, d7, d8, d9, d10⟩ := (h9.below hS).cells
      rw [vv1]
      refine does_value rfl (by intro c h; cases h) (w' := W) ?_ (hS)
      · simp [execOp, go_sem, e3, d2]
    | 2 =>
      simp only [List.getElem?_toArray, List.getElem?_cons_zero, List.getElem?_cons_succ, Option.some.injEq] at ho
      subst ho
      have p1 : b 1 = true := hd ⟨1, .data⟩ (by simp) rfl
      have e4 := (ev 1 4 rfl p1).trans vv1
      rw [vv2]
      refine does_value rfl (by intro c h; cases h) (w' := W) ?_ (hS)
      · simp [execOp, go_sem, e4, h1]
    | 3 =>
      simp only [List.getElem?_toArray, List.getElem?_cons_zero, List.getElem?_cons_succ, Option.some.injEq] at ho
      subst ho
      have p2 : b 2 = true := hd ⟨2, .data⟩ (by simp) rfl
      have e5 := (ev 2 5 rfl p2).trans vv2
      rw [vv3]
      refine does_value rfl (by intro c h; cases h) (w' := W) ?_ (hS)
      · simp [execOp, go_sem, e5]
    | 4 =>
      simp only [List.getElem?_toArray, List.getElem?_cons_zero, List.getElem?_cons_succ, Option.some.injEq] at ho
      subst ho
      have p3 : b 3 = true := hd ⟨3, .guard⟩ (by simp) rfl
      have e1 : a.tmps[1]?.getD undef = .pointer (some ⟨g, 0, none⟩) := (kp 1 (by kernel_rfl)).trans b1
      rw [vv4]
      refine does_value_g rfl (yl 3 6 true rfl p3 vv3) (by intro c h; cases h) (w' := W) ?_ (hS)
      · simp [execOp, go_sem, e1]
    | 5 =>
      simp only [List.getElem?_toArray, List.getElem?_cons_zero, List.getElem?_cons_succ, Option.some.injEq] at ho
      subst ho
      have p4 : b 4 = true := hd ⟨4, .data⟩ (by simp) rfl
      have p3 : b 3 = true := hd ⟨3, .guard⟩ (by simp) rfl
      have e7 := (ev 4 7 rfl p4).trans vv4
      obtain ⟨d0, d1, d2, d3, d4, d5, d6, d7, d8, d9, d10⟩ := (h9.below hS).cells
      rw [vv5]
      refine does_value_g rfl (yl 3 6 true rfl p3 vv3) (by intro c h; cases h) (w' := W) ?_ (hS)
      · simp [execOp, go_sem, e7, d2]
    | 6 =>
      simp only [List.getElem?_toArray, List.getElem?_cons_zero, List.getElem?_cons_succ, Option.some.injEq] at ho
      subst ho
      have p5 : b 5 = true := hd ⟨5, .data⟩ (by simp) rfl
      have p3 : b 3 = true := hd ⟨3, .guard⟩ (by simp) rfl
      have e8 := (ev 5 8 rfl p5).trans vv5
      rw [vv6]
      refine does_value_g rfl (yl 3 6 true rfl p3 vv3) (by intro c h; cases h) (w' := W) ?_ (hS)
      · simp [execOp, go_sem, e8, h2]
    | 7 =>
      simp only [List.getElem?_toArray, List.getElem?_cons_zero, List.getElem?_cons_succ, Option.some.injEq] at ho
      subst ho
      have p3 : b 3 = true := hd ⟨3, .data⟩ (by simp) rfl
      have p6 : b 6 = true := hd ⟨6, .data⟩ (by simp) rfl
      have e6 := (ev 3 6 rfl p3).trans vv3
      have e9 := (ev 6 9 rfl p6).trans vv6
      rw [vv7]
      refine does_value rfl (by intro c h; cases h) (w' := W) ?_ (hS)
      · simp [execOp, go_sem, e6, e9]
    | 8 =>
      simp only [List.getElem?_toArray, List.getElem?_cons_zero, List.getElem?_cons_succ, Option.some.injEq] at ho
      subst ho
      have p7 : b 7 = true := hd ⟨7, .data⟩ (by simp) rfl
      have e10 := (ev 7 10 rfl p7).trans vv7
      rw [vv8]
      refine does_value rfl (by intro c h; cases h) (w' := W) ?_ (hS)
      · simp [execOp, go_sem, e10]
    | 9 =>
      simp only [List.getElem?_toArray, List.getElem?_cons_zero, List.getElem?_cons_succ, Option.some.injEq] at ho
      subst ho
      have p8 : b 8 = true := hd ⟨8, .guard⟩ (by simp) rfl
      have e1 : a.tmps[1]?.getD undef = .pointer (some ⟨g, 0, none⟩) := (kp 1 (by kernel_rfl)).trans b1
      rw [vv9]
      refine does_value_g rfl (yl 8 11 true rfl p8 vv8) (by intro c h; cases h) (w' := W) ?_ (hS)
      · simp [execOp, go_sem, e1]
    | 10 =>
      simp only [List.getElem?_toArray, List.getElem?_cons_zero, List.getElem?_cons_succ, Option.some.injEq] at ho
      subst ho
      have p9 : b 9 = true := hd ⟨9, .data⟩ (by simp) rfl
      have p8 : b 8 = true := hd ⟨8, .guard⟩ (by simp) rfl
      have e12 := (ev 9 12 rfl p9).trans vv9
      obtain ⟨d0, d1, d2, d3, d4, d5, d6, d7, d8, d9, d10⟩ := (h9.below hS).cells
      rw [vv10]
      refine does_value_g rfl (yl 8 11 true rfl p8 vv8) (by intro c h; cases h) (w' := W) ?_ (hS)
      · simp [execOp, go_sem, e12, d10]
    | 11 =>
      simp only [List.getElem?_toArray, List.getElem?_cons_zero, List.getElem?_cons_succ, Option.some.injEq] at ho
      subst ho
      have p10 : b 10 = true := hd ⟨10, .data⟩ (by simp) rfl
      have p8 : b 8 = true := hd ⟨8, .guard⟩ (by simp) rfl
      have e13 := (ev 10 13 rfl p10).trans vv10
      rw [vv11]
      refine does_call_g rfl (yl 8 11 true rfl p8 vv8) (by intro c h; cases h) (f := 65) (args := #[.slice q m d]) ?_ ?_
      · simp [go_sem, e13]
      · exact (cV W hS).mono (fun e w' h => ⟨h.1, hS.trans (h.2.mono hS.size)⟩)
    | 12 =>
      simp only [List.getElem?_toArray, List.getElem?_cons_zero, List.getElem?_cons_succ, Option.some.injEq] at ho
      subst ho
      have p8 : b 8 = true := hd ⟨8, .data⟩ (by simp) rfl
      have p11 : b 11 = true := hd ⟨11, .data⟩ (by simp) rfl
      have e11 := (ev 8 11 rfl p8).trans vv8
      have e14 := (ev 11 14 rfl p11).trans vv11
      rw [vv12]
      refine does_value rfl (by intro c h; cases h) (w' := W) ?_ (hS)
      · simp [execOp, go_sem, e11, e14]
    | 13 =>
      simp only [List.getElem?_toArray, List.getElem?_cons_zero, List.getElem?_cons_succ, Option.some.injEq] at ho
      subst ho
      have p12 : b 12 = true := hd ⟨12, .data⟩ (by simp) rfl
      have e15 := (ev 12 15 rfl p12).trans vv12
      rw [vv13]
      refine does_value rfl (by intro c h; cases h) (w' := W) ?_ (hS)
      · simp [execOp, go_sem, e15]
    | 14 =>
      simp only [List.getElem?_toArray, List.getElem?_cons_zero, List.getElem?_cons_succ, Option.some.injEq] at ho
      subst ho
      have p13 : b 13 = true := hd ⟨13, .guard⟩ (by simp) rfl
      exact does_pass rfl (yl 13 16 false rfl p13 vv13) (by decide) vv14 (hS)
    | 15 =>
      simp only [List.getElem?_toArray, List.getElem?_cons_zero, List.getElem?_cons_succ, Option.some.injEq] at ho
      subst ho
      have p14 : b 14 = true := hd ⟨14, .data⟩ (by simp) rfl
      have p13 : b 13 = true := hd ⟨13, .guard⟩ (by simp) rfl
      exact does_pass rfl (yl 13 16 false rfl p13 vv13) (by decide) vv15 (hS)
    | 16 =>
      simp only [List.getElem?_toArray, List.getElem?_cons_zero, List.getElem?_cons_succ, Option.some.injEq] at ho
      subst ho
      have p13 : b 13 = true := hd ⟨13, .guard⟩ (by simp) rfl
      exact does_pass rfl (yl 13 16 false rfl p13 vv13) (by decide) vv16 (hS)
    | 17 =>
      simp only [List.getElem?_toArray, List.getElem?_cons_zero, List.getElem?_cons_succ, Option.some.injEq] at ho
      subst ho
      have p16 : b 16 = true := hd ⟨16, .data⟩ (by simp) rfl
      have p13 : b 13 = true := hd ⟨13, .guard⟩ (by simp) rfl
      exact does_pass rfl (yl 13 16 false rfl p13 vv13) (by decide) vv17 (hS)
    | 18 =>
      simp only [List.getElem?_toArray, List.getElem?_cons_zero, List.getElem?_cons_succ, Option.some.injEq] at ho
      subst ho
      have p17 : b 17 = true := hd ⟨17, .data⟩ (by simp) rfl
      have p13 : b 13 = true := hd ⟨13, .guard⟩ (by simp) rfl
      exact does_pass rfl (yl 13 16 false rfl p13 vv13) (by decide) vv18 (hS)
    | 19 =>
      simp only [List.getElem?_toArray, List.getElem?_cons_zero, List.getElem?_cons_succ, Option.some.injEq] at ho
      subst ho
      have p15 : b 15 = true := hd ⟨15, .data⟩ (by simp) rfl
      have p18 : b 18 = true := hd ⟨18, .data⟩ (by simp) rfl
      have p13 : b 13 = true := hd ⟨13, .guard⟩ (by simp) rfl
      exact does_pass rfl (yl 13 16 false rfl p13 vv13) (by decide) vv19 (hS)
    | 20 =>
      simp only [List.getElem?_toArray, List.getElem?_cons_zero, List.getElem?_cons_succ, Option.some.injEq] at ho
      subst ho
      have p13 : b 13 = true := hd ⟨13, .guard⟩ (by simp) rfl
      exact does_pass rfl (yl 13 16 false rfl p13 vv13) (by decide) vv20 (hS)
    | 21 =>
      simp only [List.getElem?_toArray, List.getElem?_cons_zero, List.getElem?_cons_succ, Option.some.injEq] at ho
      subst ho
      have p20 : b 20 = true := hd ⟨20, .data⟩ (by simp) rfl
      have p13 : b 13 = true := hd ⟨13, .guard⟩ (by simp) rfl
      exact does_pass rfl (yl 13 16 false rfl p13 vv13) (by decide) vv21 (hS)
    | 22 =>
      simp only [List.getElem?_toArray, List.getElem?_cons_zero, List.getElem?_cons_succ, Option.some.injEq] at ho
      subst ho
      have p21 : b 21 = true := hd ⟨21, .data⟩ (by simp) rfl
      have p13 : b 13 = true := hd ⟨13, .guard⟩ (by simp) rfl
      exact does_pass rfl (yl 13 16 false rfl p13 vv13) (by decide) vv22 (hS)
    | 23 =>
      simp only [List.getElem?_toArray, List.getElem?_cons_zero, List.getElem?_cons_succ, Option.some.injEq] at ho
      subst ho
      have p19 : b 19 = true := hd ⟨19, .data⟩ (by simp) rfl
      have p22 : b 22 = true := hd ⟨22, .data⟩ (by simp) rfl
      have p13 : b 13 = true := hd ⟨13, .guard⟩ (by simp) rfl
      exact does_pass rfl (yl 13 16 false rfl p13 vv13) (by decide) vv23 (hS)
    | 24 =>
      simp only [List.getElem?_toArray, List.getElem?_cons_zero, List.getElem?_cons_succ, Option.some.injEq] at ho
      subst ho
      have p13 : b 13 = true := hd ⟨13, .data⟩ (by simp) rfl
      have p23 : b 23 = true := hd ⟨23, .data⟩ (by simp) rfl
      have e16 := (ev 13 16 rfl p13).trans vv13
      rw [vv24]
      refine does_value rfl (by intro c h; cases h) (w' := W) ?_ (hS)
      · simp [execOp, go_sem, e16]
    | 25 =>
      simp only [List.getElem?_toArray, List.getElem?_cons_zero, List.getElem?_cons_succ, Option.some.injEq] at ho
      subst ho
      have p24 : b 24 = true := hd ⟨24, .data⟩ (by simp) rfl
      have e27 := (ev 24 27 rfl p24).trans vv24
      rw [vv25]
      refine does_value rfl (by intro c h; cases h) (w' := W) ?_ (hS)
      · simp [execOp, go_sem, e27]
    | k + 26 => simp at ho
  · intro b' W hS _
    subst hLe
    exact hQ W hS

set_option maxRecDepth 8000 in
set_option maxHeartbeats 4000000 in
theorem cnt_at {Q : Exit → Act → World → Prop} {base : Array Value} {dd : List Deferred} {ops : Array Oper} (hops : Try.f47.body.bind (regs 1) = some ops) (g : Nat) (t n sq kd ot on pt pn : Int) (nm : List UInt8) (p q : Option Addr) (l c m d : Nat) (w9 : World) (hsz : base.size = 28)
    (b1 : base.getD 1 undef = .pointer (some ⟨g, 0, none⟩)) (h9 : OpB w9 g t n sq kd ot on pt pn nm p q l c m d)
    (h1 : 1 ≤ sq) (h2 : sq ≤ 1152921504606846976) (z : Int)
    (cV : ∀ W, Below w9.heap.size w9 W → Calls Try.prog 65 #[.slice q m d] W fun e w' => e = .returned (.bool true) ∧ Below W.heap.size W w')
    (cA : ∀ W, Below w9.heap.size w9 W → Calls Try.prog 66 #[.slice q m d, .int .i64 n] W fun e w' => e = .returned (.int .i64 z) ∧ Below W.heap.size W w')
    (hQ : ∀ W, Below w9.heap.size w9 W → Q .normal ⟨putAll base [(some 3, .pointer (some ⟨g, 2, none⟩)), (some 4, .int .i64 sq), (some 5, .bool true), (some 6, .bool true), (some 7, .pointer (some ⟨g, 2, none⟩)), (some 8, .int .i64 sq), (some 9, .bool true), (some 10, .bool true), (some 11, .bool true), (some 12, .pointer (some ⟨g, 10, none⟩)), (some 13, .slice q m d), (some 14, .bool true), (some 15, .bool true), (some 16, .bool true), (some 17, .pointer (some ⟨g, 10, none⟩)), (some 18, .slice q m d), (some 19, .pointer (some ⟨g, 0, none⟩)), (some 20, .pointer (some ⟨g, 1, none⟩)), (some 21, .int .i64 n), (some 22, .int .i64 z), (some 23, .pointer (some ⟨g, 2, none⟩)), (some 24, .int .i64 sq), (some 25, .int .i64 (sq - 1)), (some 26, .bool (z == sq - 1)), (some 27, .bool (z == sq - 1)), (some 2, .bool (z == sq - 1))], dd⟩ W) :
    (Code.region 1 ops true).wp Try.prog Q ⟨base, dd⟩ w9 := by
  have hmix : Try.prog.follows .mixedOrders = true := by kernel_rfl
  have h2 := (show Try.f47.body.bind (regs 1) = some _ from rfl).symm.trans hops
  obtain rfl := Option.some.inj h2
  clear h2 hops
  have below9 : Below w9.heap.size w9 w9.drew := (Below.refl _ _).drew
  obtain ⟨LL, hLe⟩ : ∃ LL : List (Option Tmp × Value), LL = [(some 3, .pointer (some ⟨g, 2, none⟩)), (some 4, .int .i64 sq), (some 5, .bool true), (some 6, .bool true), (some 7, .pointer (some ⟨g, 2, none⟩)), (some 8, .int .i64 sq), (some 9, .bool true), (some 10, .bool true), (some 11, .bool true), (some 12, .pointer (some ⟨g, 10, none⟩)), (some 13, .slice q m d), (some 14, .bool true), (some 15, .bool true), (some 16, .bool true), (some 17, .pointer (some ⟨g, 10, none⟩)), (some 18, .slice q m d), (some 19, .pointer (some ⟨g, 0, none⟩)), (some 20, .pointer (some ⟨g, 1, none⟩)), (some 21, .int .i64 n), (some 22, .int .i64 z), (some 23, .pointer (some ⟨g, 2, none⟩)), (some 24, .int .i64 sq), (some 25, .int .i64 (sq - 1)), (some 26, .bool (z == sq - 1)), (some 27, .bool (z == sq - 1)), (some 2, .bool (z == sq - 1))] := ⟨_, rfl⟩
  have vv0 : vals LL 0 = .pointer (some ⟨g, 2, none⟩) := by rw [hLe]; rfl
  have vv1 : vals LL 1 = .int .i64 sq := by rw [hLe]; rfl
  have vv2 : vals LL 2 = .bool true := by rw [hLe]; rfl
  have vv3 : vals LL 3 = .bool true := by rw [hLe]; rfl
  have vv4 : vals LL 4 = .pointer (some ⟨g, 2, none⟩) := by rw [hLe]; rfl
  have vv5 : vals LL 5 = .int .i64 sq := by rw [hLe]; rfl
  have vv6 : vals LL 6 = .bool true := by rw [hLe]; rfl
  have vv7 : vals LL 7 = .bool true := by rw [hLe]; rfl
  have vv8 : vals LL 8 = .bool true := by rw [hLe]; rfl
  have vv9 : vals LL 9 = .pointer (some ⟨g, 10, none⟩) := by rw [hLe]; rfl
  have vv10 : vals LL 10 = .slice q m d := by rw [hLe]; rfl
  have vv11 : vals LL 11 = .bool true := by rw [hLe]; rfl
  have vv12 : vals LL 12 = .bool true := by rw [hLe]; rfl
  have vv13 : vals LL 13 = .bool true := by rw [hLe]; rfl
  have vv14 : vals LL 14 = .pointer (some ⟨g, 10, none⟩) := by rw [hLe]; rfl
  have vv15 : vals LL 15 = .slice q m d := by rw [hLe]; rfl
  have vv16 : vals LL 16 = .pointer (some ⟨g, 0, none⟩) := by rw [hLe]; rfl
  have vv17 : vals LL 17 = .pointer (some ⟨g, 1, none⟩) := by rw [hLe]; rfl
  have vv18 : vals LL 18 = .int .i64 n := by rw [hLe]; rfl
  have vv19 : vals LL 19 = .int .i64 z := by rw [hLe]; rfl
  have vv20 : vals LL 20 = .pointer (some ⟨g, 2, none⟩) := by rw [hLe]; rfl
  have vv21 : vals LL 21 = .int .i64 sq := by rw [hLe]; rfl
  have vv22 : vals LL 22 = .int .i64 (sq - 1) := by rw [hLe]; rfl
  have vv23 : vals LL 23 = .bool (z == sq - 1) := by rw [hLe]; rfl
  have vv24 : vals LL 24 = .bool (z == sq - 1) := by rw [hLe]; rfl
  have vv25 : vals LL 25 = .bool (z == sq - 1) := by rw [hLe]; rfl
  refine region_laid hmix (by kernel_rfl) 28 hsz (by kernel_rfl) LL (by rw [hLe]; rfl) (fun _ W => Below w9.heap.size w9 W) below9 ?_ ?_
  · intro b W i o a hS hcl ho hb hd ev kp yl
    match i with
    | 0 =>
      simp only [List.getElem?_toArray, List.getElem?_cons_zero, Option.some.injEq] at ho
      subst ho
      have e1 : a.tmps[1]?.getD undef = .pointer (some ⟨g, 0, none⟩) := (kp 1 (by kernel_rfl)).trans b1
      rw [vv0]
      refine does_value rfl (by intro c h; cases h) (w' := W) ?_ (hS)
      · simp [execOp, go_sem, e1]
    | 1 =>
      simp only [List.getElem?_toArray, List.getElem?_cons_zero, List.getElem?_cons_succ, Option.some.injEq] at ho
      subst ho
      have p0 : b 0 = true := hd ⟨0, .data⟩ (by simp) rfl
      have e3 := (ev 0 3 rfl p0).trans vv0
      obtain ⟨d0, d1, d2, d3, d4, d5, d6, d7, d8, d9, d10⟩ := (h9.below hS).cells
      rw [vv1]
      refine does_value rfl (by intro c h; cases h) (w' := W) ?_ (hS)
      · simp [execOp, go_sem, e3, d2]
    | 2 =>
      simp only [List.getElem?_toArray, List.getElem?_cons_zero, List.getElem?_cons_succ, Option.some.injEq] at ho
      subst ho
      have p1 : b 1 = true := hd ⟨1, .data⟩ (by simp) rfl
      have e4 := (ev 1 4 rfl p1).trans vv1
      rw [vv2]
      refine does_value rfl (by intro c h; cases h) (w' := W) ?_ (hS)
      · simp [execOp, go_sem, e4, h1]
    | 3 =>
      simp only [List.getElem?_toArray, List.getElem?_cons_zero, List.getElem?_cons_succ, Option.some.injEq] at ho
      subst ho
      have p2 : b 2 = true := hd ⟨2, .data⟩ (by simp) rfl
      have e5 := (ev 2 5 rfl p2).trans vv2
      rw [vv3]
      refine does_value rfl (by intro c h; cases h) (w' := W) ?_ (hS)
      · simp [execOp, go_sem, e5]
    | 4 =>
      simp only [List.getElem?_toArray, List.getElem?_cons_zero, List.getElem?_cons_succ, Option.some.injEq] at ho
      subst ho
      have p3 : b 3 = true := hd ⟨3, .guard⟩ (by simp) rfl
      have e1 : a.tmps[1]?.getD undef = .pointer (some ⟨g, 0, none⟩) := (kp 1 (by kernel_rfl)).trans b1
      rw [vv4]
      refine does_value_g rfl (yl 3 6 true rfl p3 vv3) (by intro c h; cases h) (w' := W) ?_ (hS)
      · simp [execOp, go_sem, e1]
    | 5 =>
      simp only [List.getElem?_toArray, List.getElem?_cons_zero, List.getElem?_cons_succ, Option.some.injEq] at ho
      subst ho
      have p4 : b 4 = true := hd ⟨4, .data⟩ (by simp) rfl
      have p3 : b 3 = true := hd ⟨3, .guard⟩ (by simp) rfl
      have e7 := (ev 4 7 rfl p4).trans vv4
      obtain ⟨d0, d1, d2, d3, d4, d5, d6, d7, d8, d9, d10⟩ := (h9.below hS).cells
      rw [vv5]
      refine does_value_g rfl (yl 3 6 true rfl p3 vv3) (by intro c h; cases h) (w' := W) ?_ (hS)
      · simp [execOp, go_sem, e7, d2]
    | 6 =>
      simp only [List.getElem?_toArray, List.getElem?_cons_zero, List.getElem?_cons_succ, Option.some.injEq] at ho
      subst ho
      have p5 : b 5 = true := hd ⟨5, .data⟩ (by simp) rfl
      have p3 : b 3 = true := hd ⟨3, .guard⟩ (by simp) rfl
      have e8 := (ev 5 8 rfl p5).trans vv5
      rw [vv6]
      refine does_value_g rfl (yl 3 6 true rfl p3 vv3) (by intro c h; cases h) (w' := W) ?_ (hS)
      · simp [execOp, go_sem, e8, h2]
    | 7 =>
      simp only [List.getElem?_toArray, List.getElem?_cons_zero, List.getElem?_cons_succ, Option.some.injEq] at ho
      subst ho
      have p3 : b 3 = true := hd ⟨3, .data⟩ (by simp) rfl
      have p6 : b 6 = true := hd ⟨6, .data⟩ (by simp) rfl
      have e6 := (ev 3 6 rfl p3).trans vv3
      have e9 := (ev 6 9 rfl p6).trans vv6
      rw [vv7]
      refine does_value rfl (by intro c h; cases h) (w' := W) ?_ (hS)
      · simp [execOp, go_sem, e6, e9]
    | 8 =>
      simp only [List.getElem?_toArray, List.getElem?_cons_zero, List.getElem?_cons_succ, Option.some.injEq] at ho
      subst ho
      have p7 : b 7 = true := hd ⟨7, .data⟩ (by simp) rfl
      have e10 := (ev 7 10 rfl p7).trans vv7
      rw [vv8]
      refine does_value rfl (by intro c h; cases h) (w' := W) ?_ (hS)
      · simp [execOp, go_sem, e10]
    | 9 =>
      simp only [List.getElem?_toArray, List.getElem?_cons_zero, List.getElem?_cons_succ, Option.some.injEq] at ho
      subst ho
      have p8 : b 8 = true := hd ⟨8, .guard⟩ (by simp) rfl
      have e1 : a.tmps[1]?.getD undef = .pointer (some ⟨g, 0, none⟩) := (kp 1 (by kernel_rfl)).trans b1
      rw [vv9]
      refine does_value_g rfl (yl 8 11 true rfl p8 vv8) (by intro c h; cases h) (w' := W) ?_ (hS)
      · simp [execOp, go_sem, e1]
    | 10 =>
      simp only [List.getElem?_toArray, List.getElem?_cons_zero, List.getElem?_cons_succ, Option.some.injEq] at ho
      subst ho
      have p9 : b 9 = true := hd ⟨9, .data⟩ (by simp) rfl
      have p8 : b 8 = true := hd ⟨8, .guard⟩ (by simp) rfl
      have e12 := (ev 9 12 rfl p9).trans vv9
      obtain ⟨d0, d1, d2, d3, d4, d5, d6, d7, d8, d9, d10⟩ := (h9.below hS).cells
      rw [vv10]
      refine does_value_g rfl (yl 8 11 true rfl p8 vv8) (by intro c h; cases h) (w' := W) ?_ (hS)
      · simp [execOp, go_sem, e12, d10]
    | 11 =>
      simp only [List.getElem?_toArray, List.getElem?_cons_zero, List.getElem?_cons_succ, Option.some.injEq] at ho
      subst ho
      have p10 : b 10 = true := hd ⟨10, .data⟩ (by simp) rfl
      have p8 : b 8 = true := hd ⟨8, .guard⟩ (by simp) rfl
      have e13 := (ev 10 13 rfl p10).trans vv10
      rw [vv11]
      refine does_call_g rfl (yl 8 11 true rfl p8 vv8) (by intro c h; cases h) (f := 65) (args := #[.slice q m d]) ?_ ?_
      · simp [go_sem, e13]
      · exact (cV W hS).mono (fun e w' h => ⟨h.1, hS.trans (h.2.mono hS.size)⟩)
    | 12 =>
      simp only [List.getElem?_toArray, List.getElem?_cons_zero, List.getElem?_cons_succ, Option.some.injEq] at ho
      subst ho
      have p8 : b 8 = true := hd ⟨8, .data⟩ (by simp) rfl
      have p11 : b 11 = true := hd ⟨11, .data⟩ (by simp) rfl
      have e11 := (ev 8 11 rfl p8).trans vv8
      have e14 := (ev 11 14 rfl p11).trans vv11
      rw [vv12]
      refine does_value rfl (by intro c h; cases h) (w' := W) ?_ (hS)
      · simp [execOp, go_sem, e11, e14]
    | 13 =>
      simp only [List.getElem?_toArray, List.getElem?_cons_zero, List.getElem?_cons_succ, Option.some.injEq] at ho
      subst ho
      have p12 : b 12 = true := hd ⟨12, .data⟩ (by simp) rfl
      have e15 := (ev 12 15 rfl p12).trans vv12
      rw [vv13]
      refine does_value rfl (by intro c h; cases h) (w' := W) ?_ (hS)
      · simp [execOp, go_sem, e15]
    | 14 =>
      simp only [List.getElem?_toArray, List.getElem?_cons_zero, List.getElem?_cons_succ, Option.some.injEq] at ho
      subst ho
      have p13 : b 13 = true := hd ⟨13, .guard⟩ (by simp) rfl
      have e1 : a.tmps[1]?.getD undef = .pointer (some ⟨g, 0, none⟩) := (kp 1 (by kernel_rfl)).trans b1
      rw [vv14]
      refine does_value_g rfl (yl 13 16 true rfl p13 vv13) (by intro c h; cases h) (w' := W) ?_ (hS)
      · simp [execOp, go_sem, e1]
    | 15 =>
      simp only [List.getElem?_toArray, List.getElem?_cons_zero, List.getElem?_cons_succ, Option.some.injEq] at ho
      subst ho
      have p14 : b 14 = true := hd ⟨14, .data⟩ (by simp) rfl
      have p13 : b 13 = true := hd ⟨13, .guard⟩ (by simp) rfl
      have e17 := (ev 14 17 rfl p14).trans vv14
      obtain ⟨d0, d1, d2, d3, d4, d5, d6, d7, d8, d9, d10⟩ := (h9.below hS).cells
      rw [vv15]
      refine does_value_g rfl (yl 13 16 true rfl p13 vv13) (by intro c h; cases h) (w' := W) ?_ (hS)
      · simp [execOp, go_sem, e17, d10]
    | 16 =>
      simp only [List.getElem?_toArray, List.getElem?_cons_zero, List.getElem?_cons_succ, Option.some.injEq] at ho
      subst ho
      have p13 : b 13 = true := hd ⟨13, .guard⟩ (by simp) rfl
      have e1 : a.tmps[1]?.getD undef = .pointer (some ⟨g, 0, none⟩) := (kp 1 (by kernel_rfl)).trans b1
      rw [vv16]
      refine does_value_g rfl (yl 13 16 true rfl p13 vv13) (by intro c h; cases h) (w' := W) ?_ (hS)
      · simp [execOp, go_sem, e1]
    | 17 =>
      simp only [List.getElem?_toArray, List.getElem?_cons_zero, List.getElem?_cons_succ, Option.some.injEq] at ho
      subst ho
      have p16 : b 16 = true := hd ⟨16, .data⟩ (by simp) rfl
      have p13 : b 13 = true := hd ⟨13, .guard⟩ (by simp) rfl
      have e19 := (ev 16 19 rfl p16).trans vv16
      rw [vv17]
      refine does_value_g rfl (yl 13 16 true rfl p13 vv13) (by intro c h; cases h) (w' := W) ?_ (hS)
      · simp [execOp, go_sem, e19]
    | 18 =>
      simp only [List.getElem?_toArray, List.getElem?_cons_zero, List.getElem?_cons_succ, Option.some.injEq] at ho
      subst ho
      have p17 : b 17 = true := hd ⟨17, .data⟩ (by simp) rfl
      have p13 : b 13 = true := hd ⟨13, .guard⟩ (by simp) rfl
      have e20 := (ev 17 20 rfl p17).trans vv17
      obtain ⟨d0, d1, d2, d3, d4, d5, d6, d7, d8, d9, d10⟩ := (h9.below hS).cells
      rw [vv18]
      refine does_value_g rfl (yl 13 16 true rfl p13 vv13) (by intro c h; cases h) (w' := W) ?_ (hS)
      · simp [execOp, go_sem, e20, d1]
    | 19 =>
      simp only [List.getElem?_toArray, List.getElem?_cons_zero, List.getElem?_cons_succ, Option.some.injEq] at ho
      subst ho
      have p15 : b 15 = true := hd ⟨15, .data⟩ (by simp) rfl
      have p18 : b 18 = true := hd ⟨18, .data⟩ (by simp) rfl
      have p13 : b 13 = true := hd ⟨13, .guard⟩ (by simp) rfl
      have e18 := (ev 15 18 rfl p15).trans vv15
      have e21 := (ev 18 21 rfl p18).trans vv18
      rw [vv19]
      refine does_call_g rfl (yl 13 16 true rfl p13 vv13) (by intro c h; cases h) (f := 66) (args := #[.slice q m d, .int .i64 n]) ?_ ?_
      · simp [go_sem, e18, e21]
      · exact (cA W hS).mono (fun e w' h => ⟨h.1, hS.trans (h.2.mono hS.size)⟩)
    | 20 =>
      simp only [List.getElem?_toArray, List.getElem?_cons_zero, List.getElem?_cons_succ, Option.some.injEq] at ho
      subst ho
      have p13 : b 13 = true := hd ⟨13, .guard⟩ (by simp) rfl
      have e1 : a.tmps[1]?.getD undef = .pointer (some ⟨g, 0, none⟩) := (kp 1 (by kernel_rfl)).trans b1
      rw [vv20]
      refine does_value_g rfl (yl 13 16 true rfl p13 vv13) (by intro c h; cases h) (w' := W) ?_ (hS)
      · simp [execOp, go_sem, e1]
    | 21 =>
      simp only [List.getElem?_toArray, List.getElem?_cons_zero, List.getElem?_cons_succ, Option.some.injEq] at ho
      subst ho
      have p20 : b 20 = true := hd ⟨20, .data⟩ (by simp) rfl
      have p13 : b 13 = true := hd ⟨13, .guard⟩ (by simp) rfl
      have e23 := (ev 20 23 rfl p20).trans vv20
      obtain ⟨d0, d1, d2, d3, d4, d5, d6, d7, d8, d9, d10⟩ := (h9.below hS).cells
      rw [vv21]
      refine does_value_g rfl (yl 13 16 true rfl p13 vv13) (by intro c h; cases h) (w' := W) ?_ (hS)
      · simp [execOp, go_sem, e23, d2]
    | 22 =>
      simp only [List.getElem?_toArray, List.getElem?_cons_zero, List.getElem?_cons_succ, Option.some.injEq] at ho
      subst ho
      have p21 : b 21 = true := hd ⟨21, .data⟩ (by simp) rfl
      have p13 : b 13 = true := hd ⟨13, .guard⟩ (by simp) rfl
      have e24 := (ev 21 24 rfl p21).trans vv21
      rw [vv22]
      refine does_value_g rfl (yl 13 16 true rfl p13 vv13) (by intro c h; cases h) (w' := W) ?_ (hS)
      · simp [execOp, go_sem, e24]; rw [IntKind.wrap_i64] <;> omega
    | 23 =>
      simp only [List.getElem?_toArray, List.getElem?_cons_zero, List.getElem?_cons_succ, Option.some.injEq] at ho
      subst ho
      have p19 : b 19 = true := hd ⟨19, .data⟩ (by simp) rfl
      have p22 : b 22 = true := hd ⟨22, .data⟩ (by simp) rfl
      have p13 : b 13 = true := hd ⟨13, .guard⟩ (by simp) rfl
      have e22 := (ev 19 22 rfl p19).trans vv19
      have e25 := (ev 22 25 rfl p22).trans vv22
      rw [vv23]
      refine does_value_g rfl (yl 13 16 true rfl p13 vv13) (by intro c h; cases h) (w' := W) ?_ (hS)
      · simp [execOp, go_sem, e22, e25]
    | 24 =>
      simp only [List.getElem?_toArray, List.getElem?_cons_zero, List.getElem?_cons_succ, Option.some.injEq] at ho
      subst ho
      have p13 : b 13 = true := hd ⟨13, .data⟩ (by simp) rfl
      have p23 : b 23 = true := hd ⟨23, .data⟩ (by simp) rfl
      have e16 := (ev 13 16 rfl p13).trans vv13
      have e26 := (ev 23 26 rfl p23).trans vv23
      rw [vv24]
      refine does_value rfl (by intro c h; cases h) (w' := W) ?_ (hS)
      · simp [execOp, go_sem, e16, e26]
    | 25 =>
      simp only [List.getElem?_toArray, List.getElem?_cons_zero, List.getElem?_cons_succ, Option.some.injEq] at ho
      subst ho
      have p24 : b 24 = true := hd ⟨24, .data⟩ (by simp) rfl
      have e27 := (ev 24 27 rfl p24).trans vv24
      rw [vv25]
      refine does_value rfl (by intro c h; cases h) (w' := W) ?_ (hS)
      · simp [execOp, go_sem, e27]
    | k + 26 => simp at ho
  · intro b' W hS _
    subst hLe
    exact hQ W hS

set_option maxRecDepth 8000 in
set_option maxHeartbeats 4000000 in
theorem kind_no {Q : Exit → Act → World → Prop} {base : Array Value} {dd : List Deferred} {ops : Array Oper} (hops : Try.f48.body.bind (regs 6) = some ops) (g : Nat) (t n sq kd ot on pt pn : Int) (nm : List UInt8) (p q : Option Addr) (l c m d : Nat) (w9 : World) (hsz : base.size = 64)
    (b1 : base.getD 1 undef = .pointer (some ⟨g, 0, none⟩)) (h9 : OpB w9 g t n sq kd ot on pt pn nm p q l c m d)
    (cE : ∀ W, Below w9.heap.size w9 W → Calls Try.prog 69 #[.agg #[.int .i64 ot, .int .i64 on], .agg #[.int .i64 t, .int .i64 n, .int .i64 sq, .int .i64 kd, .int .i64 ot, .int .i64 on, .int .i64 pt, .int .i64 pn, .string (bas nm), .slice p l c, .slice q m d]] W fun e w' => e = .returned (.bool false) ∧ Below W.heap.size W w')
    (hQ : ∀ W, Below w9.heap.size w9 W → Q .normal ⟨putAll base [(some 23, .pointer (some ⟨g, 4, none⟩)), (some 24, .agg #[.int .i64 ot, .int .i64 on]), (some 25, .agg #[.int .i64 t, .int .i64 n, .int .i64 sq, .int .i64 kd, .int .i64 ot, .int .i64 on, .int .i64 pt, .int .i64 pn, .string (bas nm), .slice p l c, .slice q m d]), (some 26, .bool false), (some 27, .bool false), (some 28, undef), (some 29, undef), (some 30, undef), (some 31, undef), (some 32, undef), (some 33, undef), (some 34, undef), (some 35, undef), (some 36, .bool false), (some 37, .bool false), (some 38, undef), (some 39, undef), (some 40, .bool false), (some 2, .bool false)], dd⟩ W) :
    (Code.region 6 ops true).wp Try.prog Q ⟨base, dd⟩ w9 := by
  have hmix : Try.prog.follows .mixedOrders = true := by kernel_rfl
  have h2 := (show Try.f48.body.bind (regs 6) = some _ from rfl).symm.trans hops
  obtain rfl := Option.some.inj h2
  clear h2 hops
  have below9 : Below w9.heap.size w9 w9.drew := (Below.refl _ _).drew
  obtain ⟨LL, hLe⟩ : ∃ LL : List (Option Tmp × Value), LL = [(some 23, .pointer (some ⟨g, 4, none⟩)), (some 24, .agg #[.int .i64 ot, .int .i64 on]), (some 25, .agg #[.int .i64 t, .int .i64 n, .int .i64 sq, .int .i64 kd, .int .i64 ot, .int .i64 on, .int .i64 pt, .int .i64 pn, .string (bas nm), .slice p l c, .slice q m d]), (some 26, .bool false), (some 27, .bool false), (some 28, undef), (some 29, undef), (some 30, undef), (some 31, undef), (some 32, undef), (some 33, undef), (some 34, undef), (some 35, undef), (some 36, .bool false), (some 37, .bool false), (some 38, undef), (some 39, undef), (some 40, .bool false), (some 2, .bool false)] := ⟨_, rfl⟩
  have vv0 : vals LL 0 = .pointer (some ⟨g, 4, none⟩) := by rw [hLe]; rfl
  have vv1 : vals LL 1 = .agg #[.int .i64 ot, .int .i64 on] := by rw [hLe]; rfl
  have vv2 : vals LL 2 = .agg #[.int .i64 t, .int .i64 n, .int .i64 sq, .int .i64 kd, .int .i64 ot, .int .i64 on, .int .i64 pt, .int .i64 pn, .string (bas nm), .slice p l c, .slice q m d] := by rw [hLe]; rfl
  have vv3 : vals LL 3 = .bool false := by rw [hLe]; rfl
  have vv4 : vals LL 4 = .bool false := by rw [hLe]; rfl
  have vv5 : vals LL 5 = undef := by rw [hLe]; rfl
  have vv6 : vals LL 6 = undef := by rw [hLe]; rfl
  have vv7 : vals LL 7 = undef := by rw [hLe]; rfl
  have vv8 : vals LL 8 = undef := by rw [hLe]; rfl
  have vv9 : vals LL 9 = undef := by rw [hLe]; rfl
  have vv10 : vals LL 10 = undef := by rw [hLe]; rfl
  have vv11 : vals LL 11 = undef := by rw [hLe]; rfl
  have vv12 : vals LL 12 = undef := by rw [hLe]; rfl
  have vv13 : vals LL 13 = .bool false := by rw [hLe]; rfl
  have vv14 : vals LL 14 = .bool false := by rw [hLe]; rfl
  have vv15 : vals LL 15 = undef := by rw [hLe]; rfl
  have vv16 : vals LL 16 = undef := by rw [hLe]; rfl
  have vv17 : vals LL 17 = .bool false := by rw [hLe]; rfl
  have vv18 : vals LL 18 = .bool false := by rw [hLe]; rfl
  refine region_laid hmix (by kernel_rfl) 64 hsz (by kernel_rfl) LL (by rw [hLe]; rfl) (fun _ W => Below w9.heap.size w9 W) below9 ?_ ?_
  · intro b W i o a hS hcl ho hb hd ev kp yl
    match i with
    | 0 =>
      simp only [List.getElem?_toArray, List.getElem?_cons_zero, Option.some.injEq] at ho
      subst ho
      have e1 : a.tmps[1]?.getD undef = .pointer (some ⟨g, 0, none⟩) := (kp 1 (by kernel_rfl)).trans b1
      rw [vv0]
      refine does_value rfl (by intro c h; cases h) (w' := W) ?_ (hS)
      · simp [execOp, go_sem, e1]
    | 1 =>
      simp only [List.getElem?_toArray, List.getElem?_cons_zero, List.getElem?_cons_succ, Option.some.injEq] at ho
      subst ho
      have p0 : b 0 = true := hd ⟨0, .data⟩ (by simp) rfl
      have e23 := (ev 0 23 rfl p0).trans vv0
      obtain ⟨d0, d1, d2, d3, d4, d5, d6, d7, d8, d9, d10⟩ := (h9.below hS).cells
      rw [vv1]
      refine does_value rfl (by intro c h; cases h) (w' := W) ?_ (hS)
      · simp [execOp, go_sem, e23, d4, d5]
    | 2 =>
      simp only [List.getElem?_toArray, List.getElem?_cons_zero, List.getElem?_cons_succ, Option.some.injEq] at ho
      subst ho
      have e1 : a.tmps[1]?.getD undef = .pointer (some ⟨g, 0, none⟩) := (kp 1 (by kernel_rfl)).trans b1
      obtain ⟨d0, d1, d2, d3, d4, d5, d6, d7, d8, d9, d10⟩ := (h9.below hS).cells
      rw [vv2]
      refine does_value rfl (by intro c h; cases h) (w' := W) ?_ (hS)
      · simp [execOp, go_sem, e1, d0, d1, d2, d3, d4, d5, d6, d7, d8, d9, d10]
    | 3 =>
      simp only [List.getElem?_toArray, List.getElem?_cons_zero, List.getElem?_cons_succ, Option.some.injEq] at ho
      subst ho
      have p1 : b 1 = true := hd ⟨1, .data⟩ (by simp) rfl
      have p2 : b 2 = true := hd ⟨2, .data⟩ (by simp) rfl
      have e24 := (ev 1 24 rfl p1).trans vv1
      have e25 := (ev 2 25 rfl p2).trans vv2
      rw [vv3]
      refine does_call rfl (by intro c h; cases h) (f := 69) (args := #[.agg #[.int .i64 ot, .int .i64 on], .agg #[.int .i64 t, .int .i64 n, .int .i64 sq, .int .i64 kd, .int .i64 ot, .int .i64 on, .int .i64 pt, .int .i64 pn, .string (bas nm), .slice p l c, .slice q m d]]) ?_ ?_
      · simp [go_sem, e24, e25]
      · exact (cE W hS).mono (fun e w' h => ⟨h.1, hS.trans (h.2.mono hS.size)⟩)
    | 4 =>
      simp only [List.getElem?_toArray, List.getElem?_cons_zero, List.getElem?_cons_succ, Option.some.injEq] at ho
      subst ho
      have p3 : b 3 = true := hd ⟨3, .data⟩ (by simp) rfl
      have e26 := (ev 3 26 rfl p3).trans vv3
      rw [vv4]
      refine does_value rfl (by intro c h; cases h) (w' := W) ?_ (hS)
      · simp [execOp, go_sem, e26]
    | 5 =>
      simp only [List.getElem?_toArray, List.getElem?_cons_zero, List.getElem?_cons_succ, Option.some.injEq] at ho
      subst ho
      have p4 : b 4 = true := hd ⟨4, .guard⟩ (by simp) rfl
      exact does_pass rfl (yl 4 27 false rfl p4 vv4) (by decide) vv5 (hS)
    | 6 =>
      simp only [List.getElem?_toArray, List.getElem?_cons_zero, List.getElem?_cons_succ, Option.some.injEq] at ho
      subst ho
      have p5 : b 5 = true := hd ⟨5, .data⟩ (by simp) rfl
      have p4 : b 4 = true := hd ⟨4, .guard⟩ (by simp) rfl
      exact does_pass rfl (yl 4 27 false rfl p4 vv4) (by decide) vv6 (hS)
    | 7 =>
      simp only [List.getElem?_toArray, List.getElem?_cons_zero, List.getElem?_cons_succ, Option.some.injEq] at ho
      subst ho
      have p6 : b 6 = true := hd ⟨6, .data⟩ (by simp) rfl
      have p4 : b 4 = true := hd ⟨4, .guard⟩ (by simp) rfl
      exact does_pass rfl (yl 4 27 false rfl p4 vv4) (by decide) vv7 (hS)
    | 8 =>
      simp only [List.getElem?_toArray, List.getElem?_cons_zero, List.getElem?_cons_succ, Option.some.injEq] at ho
      subst ho
      have p7 : b 7 = true := hd ⟨7, .guard⟩ (by simp) rfl
      exact does_pass_none rfl (yielded_undef (j := 7) (s := 30) rfl ((ev 7 30 rfl p7).trans vv7)) vv8 (hS)
    | 9 =>
      simp only [List.getElem?_toArray, List.getElem?_cons_zero, List.getElem?_cons_succ, Option.some.injEq] at ho
      subst ho
      have p8 : b 8 = true := hd ⟨8, .data⟩ (by simp) rfl
      have p7 : b 7 = true := hd ⟨7, .guard⟩ (by simp) rfl
      exact does_pass_none rfl (yielded_undef (j := 7) (s := 30) rfl ((ev 7 30 rfl p7).trans vv7)) vv9 (hS)
    | 10 =>
      simp only [List.getElem?_toArray, List.getElem?_cons_zero, List.getElem?_cons_succ, Option.some.injEq] at ho
      subst ho
      have p7 : b 7 = true := hd ⟨7, .guard⟩ (by simp) rfl
      exact does_pass_none rfl (yielded_undef (j := 7) (s := 30) rfl ((ev 7 30 rfl p7).trans vv7)) vv10 (hS)
    | 11 =>
      simp only [List.getElem?_toArray, List.getElem?_cons_zero, List.getElem?_cons_succ, Option.some.injEq] at ho
      subst ho
      have p9 : b 9 = true := hd ⟨9, .data⟩ (by simp) rfl
      have p10 : b 10 = true := hd ⟨10, .data⟩ (by simp) rfl
      have p7 : b 7 = true := hd ⟨7, .guard⟩ (by simp) rfl
      exact does_pass_none rfl (yielded_undef (j := 7) (s := 30) rfl ((ev 7 30 rfl p7).trans vv7)) vv11 (hS)
    | 12 =>
      simp only [List.getElem?_toArray, List.getElem?_cons_zero, List.getElem?_cons_succ, Option.some.injEq] at ho
      subst ho
      have p7 : b 7 = true := hd ⟨7, .data⟩ (by simp) rfl
      have p11 : b 11 = true := hd ⟨11, .data⟩ (by simp) rfl
      have p4 : b 4 = true := hd ⟨4, .guard⟩ (by simp) rfl
      exact does_pass rfl (yl 4 27 false rfl p4 vv4) (by decide) vv12 (hS)
    | 13 =>
      simp only [List.getElem?_toArray, List.getElem?_cons_zero, List.getElem?_cons_succ, Option.some.injEq] at ho
      subst ho
      have p4 : b 4 = true := hd ⟨4, .data⟩ (by simp) rfl
      have p12 : b 12 = true := hd ⟨12, .data⟩ (by simp) rfl
      have e27 := (ev 4 27 rfl p4).trans vv4
      rw [vv13]
      refine does_value rfl (by intro c h; cases h) (w' := W) ?_ (hS)
      · simp [execOp, go_sem, e27]
    | 14 =>
      simp only [List.getElem?_toArray, List.getElem?_cons_zero, List.getElem?_cons_succ, Option.some.injEq] at ho
      subst ho
      have p13 : b 13 = true := hd ⟨13, .data⟩ (by simp) rfl
      have e36 := (ev 13 36 rfl p13).trans vv13
      rw [vv14]
      refine does_value rfl (by intro c h; cases h) (w' := W) ?_ (hS)
      · simp [execOp, go_sem, e36]
    | 15 =>
      simp only [List.getElem?_toArray, List.getElem?_cons_zero, List.getElem?_cons_succ, Option.some.injEq] at ho
      subst ho
      have p14 : b 14 = true := hd ⟨14, .guard⟩ (by simp) rfl
      exact does_pass rfl (yl 14 37 false rfl p14 vv14) (by decide) vv15 (hS)
    | 16 =>
      simp only [List.getElem?_toArray, List.getElem?_cons_zero, List.getElem?_cons_succ, Option.some.injEq] at ho
      subst ho
      have p15 : b 15 = true := hd ⟨15, .data⟩ (by simp) rfl
      have p14 : b 14 = true := hd ⟨14, .guard⟩ (by simp) rfl
      exact does_pass rfl (yl 14 37 false rfl p14 vv14) (by decide) vv16 (hS)
    | 17 =>
      simp only [List.getElem?_toArray, List.getElem?_cons_zero, List.getElem?_cons_succ, Option.some.injEq] at ho
      subst ho
      have p14 : b 14 = true := hd ⟨14, .data⟩ (by simp) rfl
      have p16 : b 16 = true := hd ⟨16, .data⟩ (by simp) rfl
      have e37 := (ev 14 37 rfl p14).trans vv14
      rw [vv17]
      refine does_value rfl (by intro c h; cases h) (w' := W) ?_ (hS)
      · simp [execOp, go_sem, e37]
    | 18 =>
      simp only [List.getElem?_toArray, List.getElem?_cons_zero, List.getElem?_cons_succ, Option.some.injEq] at ho
      subst ho
      have p17 : b 17 = true := hd ⟨17, .data⟩ (by simp) rfl
      have e40 := (ev 17 40 rfl p17).trans vv17
      rw [vv18]
      refine does_value rfl (by intro c h; cases h) (w' := W) ?_ (hS)
      · simp [execOp, go_sem, e40]
    | k + 19 => simp at ho
  · intro b' W hS _
    subst hLe
    exact hQ W hS

set_option maxRecDepth 8000 in
set_option maxHeartbeats 4000000 in
theorem kind_hold {Q : Exit → Act → World → Prop} {base : Array Value} {dd : List Deferred} {ops : Array Oper} (hops : Try.f48.body.bind (regs 6) = some ops) (g : Nat) (t n sq kd ot on pt pn : Int) (nm : List UInt8) (p q : Option Addr) (l c m d : Nat) (w9 : World) (hsz : base.size = 64)
    (b1 : base.getD 1 undef = .pointer (some ⟨g, 0, none⟩)) (h9 : OpB w9 g t n sq kd ot on pt pn nm p q l c m d)
    (x : Bool)
    (cE : ∀ W, Below w9.heap.size w9 W → Calls Try.prog 69 #[.agg #[.int .i64 ot, .int .i64 on], .agg #[.int .i64 t, .int .i64 n, .int .i64 sq, .int .i64 kd, .int .i64 ot, .int .i64 on, .int .i64 pt, .int .i64 pn, .string (bas nm), .slice p l c, .slice q m d]] W fun e w' => e = .returned (.bool true) ∧ Below W.heap.size W w')
    (cH : ∀ W, Below w9.heap.size w9 W → Calls Try.prog 67 #[.agg #[.int .i64 t, .int .i64 n, .int .i64 sq, .int .i64 kd, .int .i64 ot, .int .i64 on, .int .i64 pt, .int .i64 pn, .string (bas nm), .slice p l c, .slice q m d]] W fun e w' => e = .returned (.bool true) ∧ Below W.heap.size W w')
    (cP : ∀ W, Below w9.heap.size w9 W → Calls Try.prog 68 #[.agg #[.int .i64 t, .int .i64 n, .int .i64 sq, .int .i64 kd, .int .i64 ot, .int .i64 on, .int .i64 pt, .int .i64 pn, .string (bas nm), .slice p l c, .slice q m d]] W fun e w' => e = .returned (.bool x) ∧ Below W.heap.size W w')
    (hQ : ∀ W, Below w9.heap.size w9 W → Q .normal ⟨putAll base [(some 23, .pointer (some ⟨g, 4, none⟩)), (some 24, .agg #[.int .i64 ot, .int .i64 on]), (some 25, .agg #[.int .i64 t, .int .i64 n, .int .i64 sq, .int .i64 kd, .int .i64 ot, .int .i64 on, .int .i64 pt, .int .i64 pn, .string (bas nm), .slice p l c, .slice q m d]), (some 26, .bool true), (some 27, .bool true), (some 28, .agg #[.int .i64 t, .int .i64 n, .int .i64 sq, .int .i64 kd, .int .i64 ot, .int .i64 on, .int .i64 pt, .int .i64 pn, .string (bas nm), .slice p l c, .slice q m d]), (some 29, .bool true), (some 30, .bool true), (some 31, undef), (some 32, undef), (some 33, undef), (some 34, undef), (some 35, .bool true), (some 36, .bool true), (some 37, .bool true), (some 38, .agg #[.int .i64 t, .int .i64 n, .int .i64 sq, .int .i64 kd, .int .i64 ot, .int .i64 on, .int .i64 pt, .int .i64 pn, .string (bas nm), .slice p l c, .slice q m d]), (some 39, .bool x), (some 40, .bool x), (some 2, .bool x)], dd⟩ W) :
    (Code.region 6 ops true).wp Try.prog Q ⟨base, dd⟩ w9 := by
  have hmix : Try.prog.follows .mixedOrders = true := by kernel_rfl
  have h2 := (show Try.f48.body.bind (regs 6) = some _ from rfl).symm.trans hops
  obtain rfl := Option.some.inj h2
  clear h2 hops
  have below9 : Below w9.heap.size w9 w9.drew := (Below.refl _ _).drew
  obtain ⟨LL, hLe⟩ : ∃ LL : List (Option Tmp × Value), LL = [(some 23, .pointer (some ⟨g, 4, none⟩)), (some 24, .agg #[.int .i64 ot, .int .i64 on]), (some 25, .agg #[.int .i64 t, .int .i64 n, .int .i64 sq, .int .i64 kd, .int .i64 ot, .int .i64 on, .int .i64 pt, .int .i64 pn, .string (bas nm), .slice p l c, .slice q m d]), (some 26, .bool true), (some 27, .bool true), (some 28, .agg #[.int .i64 t, .int .i64 n, .int .i64 sq, .int .i64 kd, .int .i64 ot, .int .i64 on, .int .i64 pt, .int .i64 pn, .string (bas nm), .slice p l c, .slice q m d]), (some 29, .bool true), (some 30, .bool true), (some 31, undef), (some 32, undef), (some 33, undef), (some 34, undef), (some 35, .bool true), (some 36, .bool true), (some 37, .bool true), (some 38, .agg #[.int .i64 t, .int .i64 n, .int .i64 sq, .int .i64 kd, .int .i64 ot, .int .i64 on, .int .i64 pt, .int .i64 pn, .string (bas nm), .slice p l c, .slice q m d]), (some 39, .bool x), (some 40, .bool x), (some 2, .bool x)] := ⟨_, rfl⟩
  have vv0 : vals LL 0 = .pointer (some ⟨g, 4, none⟩) := by rw [hLe]; rfl
  have vv1 : vals LL 1 = .agg #[.int .i64 ot, .int .i64 on] := by rw [hLe]; rfl
  have vv2 : vals LL 2 = .agg #[.int .i64 t, .int .i64 n, .int .i64 sq, .int .i64 kd, .int .i64 ot, .int .i64 on, .int .i64 pt, .int .i64 pn, .string (bas nm), .slice p l c, .slice q m d] := by rw [hLe]; rfl
  have vv3 : vals LL 3 = .bool true := by rw [hLe]; rfl
  have vv4 : vals LL 4 = .bool true := by rw [hLe]; rfl
  have vv5 : vals LL 5 = .agg #[.int .i64 t, .int .i64 n, .int .i64 sq, .int .i64 kd, .int .i64 ot, .int .i64 on, .int .i64 pt, .int .i64 pn, .string (bas nm), .slice p l c, .slice q m d] := by rw [hLe]; rfl
  have vv6 : vals LL 6 = .bool true := by rw [hLe]; rfl
  have vv7 : vals LL 7 = .bool true := by rw [hLe]; rfl
  have vv8 : vals LL 8 = undef := by rw [hLe]; rfl
  have vv9 : vals LL 9 = undef := by rw [hLe]; rfl
  have vv10 : vals LL 10 = undef := by rw [hLe]; rfl
  have vv11 : vals LL 11 = undef := by rw [hLe]; rfl
  have vv12 : vals LL 12 = .bool true := by rw [hLe]; rfl
  have vv13 : vals LL 13 = .bool true := by rw [hLe]; rfl
  have vv14 : vals LL 14 = .bool true := by rw [hLe]; rfl
  have vv15 : vals LL 15 = .agg #[.int .i64 t, .int .i64 n, .int .i64 sq, .int .i64 kd, .int .i64 ot, .int .i64 on, .int .i64 pt, .int .i64 pn, .string (bas nm), .slice p l c, .slice q m d] := by rw [hLe]; rfl
  have vv16 : vals LL 16 = .bool x := by rw [hLe]; rfl
  have vv17 : vals LL 17 = .bool x := by rw [hLe]; rfl
  have vv18 : vals LL 18 = .bool x := by rw [hLe]; rfl
  refine region_laid hmix (by kernel_rfl) 64 hsz (by kernel_rfl) LL (by rw [hLe]; rfl) (fun _ W => Below w9.heap.size w9 W) below9 ?_ ?_
  · intro b W i o a hS hcl ho hb hd ev kp yl
    match i with
    | 0 =>
      simp only [List.getElem?_toArray, List.getElem?_cons_zero, Option.some.injEq] at ho
      subst ho
      have e1 : a.tmps[1]?.getD undef = .pointer (some ⟨g, 0, none⟩) := (kp 1 (by kernel_rfl)).trans b1
      rw [vv0]
      refine does_value rfl (by intro c h; cases h) (w' := W) ?_ (hS)
      · simp [execOp, go_sem, e1]
    | 1 =>
      simp only [List.getElem?_toArray, List.getElem?_cons_zero, List.getElem?_cons_succ, Option.some.injEq] at ho
      subst ho
      have p0 : b 0 = true := hd ⟨0, .data⟩ (by simp) rfl
      have e23 := (ev 0 23 rfl p0).trans vv0
      obtain ⟨d0, d1, d2, d3, d4, d5, d6, d7, d8, d9, d10⟩ := (h9.below hS).cells
      rw [vv1]
      refine does_value rfl (by intro c h; cases h) (w' := W) ?_ (hS)
      · simp [execOp, go_sem, e23, d4, d5]
    | 2 =>
      simp only [List.getElem?_toArray, List.getElem?_cons_zero, List.getElem?_cons_succ, Option.some.injEq] at ho
      subst ho
      have e1 : a.tmps[1]?.getD undef = .pointer (some ⟨g, 0, none⟩) := (kp 1 (by kernel_rfl)).trans b1
      obtain ⟨d0, d1, d2, d3, d4, d5, d6, d7, d8, d9, d10⟩ := (h9.below hS).cells
      rw [vv2]
      refine does_value rfl (by intro c h; cases h) (w' := W) ?_ (hS)
      · simp [execOp, go_sem, e1, d0, d1, d2, d3, d4, d5, d6, d7, d8, d9, d10]
    | 3 =>
      simp only [List.getElem?_toArray, List.getElem?_cons_zero, List.getElem?_cons_succ, Option.some.injEq] at ho
      subst ho
      have p1 : b 1 = true := hd ⟨1, .data⟩ (by simp) rfl
      have p2 : b 2 = true := hd ⟨2, .data⟩ (by simp) rfl
      have e24 := (ev 1 24 rfl p1).trans vv1
      have e25 := (ev 2 25 rfl p2).trans vv2
      rw [vv3]
      refine does_call rfl (by intro c h; cases h) (f := 69) (args := #[.agg #[.int .i64 ot, .int .i64 on], .agg #[.int .i64 t, .int .i64 n, .int .i64 sq, .int .i64 kd, .int .i64 ot, .int .i64 on, .int .i64 pt, .int .i64 pn, .string (bas nm), .slice p l c, .slice q m d]]) ?_ ?_
      · simp [go_sem, e24, e25]
      · exact (cE W hS).mono (fun e w' h => ⟨h.1, hS.trans (h.2.mono hS.size)⟩)
    | 4 =>
      simp only [List.getElem?_toArray, List.getElem?_cons_zero, List.getElem?_cons_succ, Option.some.injEq] at ho
      subst ho
      have p3 : b 3 = true := hd ⟨3, .data⟩ (by simp) rfl
      have e26 := (ev 3 26 rfl p3).trans vv3
      rw [vv4]
      refine does_value rfl (by intro c h; cases h) (w' := W) ?_ (hS)
      · simp [execOp, go_sem, e26]
    | 5 =>
      simp only [List.getElem?_toArray, List.getElem?_cons_zero, List.getElem?_cons_succ, Option.some.injEq] at ho
      subst ho
      have p4 : b 4 = true := hd ⟨4, .guard⟩ (by simp) rfl
      have e1 : a.tmps[1]?.getD undef = .pointer (some ⟨g, 0, none⟩) := (kp 1 (by kernel_rfl)).trans b1
      obtain ⟨d0, d1, d2, d3, d4, d5, d6, d7, d8, d9, d10⟩ := (h9.below hS).cells
      rw [vv5]
      refine does_value_g rfl (yl 4 27 true rfl p4 vv4) (by intro c h; cases h) (w' := W) ?_ (hS)
      · simp [execOp, go_sem, e1, d0, d1, d2, d3, d4, d5, d6, d7, d8, d9, d10]
    | 6 =>
      simp only [List.getElem?_toArray, List.getElem?_cons_zero, List.getElem?_cons_succ, Option.some.injEq] at ho
      subst ho
      have p5 : b 5 = true := hd ⟨5, .data⟩ (by simp) rfl
      have p4 : b 4 = true := hd ⟨4, .guard⟩ (by simp) rfl
      have e28 := (ev 5 28 rfl p5).trans vv5
      rw [vv6]
      refine does_call_g rfl (yl 4 27 true rfl p4 vv4) (by intro c h; cases h) (f := 67) (args := #[.agg #[.int .i64 t, .int .i64 n, .int .i64 sq, .int .i64 kd, .int .i64 ot, .int .i64 on, .int .i64 pt, .int .i64 pn, .string (bas nm), .slice p l c, .slice q m d]]) ?_ ?_
      · simp [go_sem, e28]
      · exact (cH W hS).mono (fun e w' h => ⟨h.1, hS.trans (h.2.mono hS.size)⟩)
    | 7 =>
      simp only [List.getElem?_toArray, List.getElem?_cons_zero, List.getElem?_cons_succ, Option.some.injEq] at ho
      subst ho
      have p6 : b 6 = true := hd ⟨6, .data⟩ (by simp) rfl
      have p4 : b 4 = true := hd ⟨4, .guard⟩ (by simp) rfl
      have e29 := (ev 6 29 rfl p6).trans vv6
      rw [vv7]
      refine does_value_g rfl (yl 4 27 true rfl p4 vv4) (by intro c h; cases h) (w' := W) ?_ (hS)
      · simp [execOp, go_sem, e29]
    | 8 =>
      simp only [List.getElem?_toArray, List.getElem?_cons_zero, List.getElem?_cons_succ, Option.some.injEq] at ho
      subst ho
      have p7 : b 7 = true := hd ⟨7, .guard⟩ (by simp) rfl
      exact does_pass rfl (yl 7 30 true rfl p7 vv7) (by decide) vv8 (hS)
    | 9 =>
      simp only [List.getElem?_toArray, List.getElem?_cons_zero, List.getElem?_cons_succ, Option.some.injEq] at ho
      subst ho
      have p8 : b 8 = true := hd ⟨8, .data⟩ (by simp) rfl
      have p7 : b 7 = true := hd ⟨7, .guard⟩ (by simp) rfl
      exact does_pass rfl (yl 7 30 true rfl p7 vv7) (by decide) vv9 (hS)
    | 10 =>
      simp only [List.getElem?_toArray, List.getElem?_cons_zero, List.getElem?_cons_succ, Option.some.injEq] at ho
      subst ho
      have p7 : b 7 = true := hd ⟨7, .guard⟩ (by simp) rfl
      exact does_pass rfl (yl 7 30 true rfl p7 vv7) (by decide) vv10 (hS)
    | 11 =>
      simp only [List.getElem?_toArray, List.getElem?_cons_zero, List.getElem?_cons_succ, Option.some.injEq] at ho
      subst ho
      have p9 : b 9 = true := hd ⟨9, .data⟩ (by simp) rfl
      have p10 : b 10 = true := hd ⟨10, .data⟩ (by simp) rfl
      have p7 : b 7 = true := hd ⟨7, .guard⟩ (by simp) rfl
      exact does_pass rfl (yl 7 30 true rfl p7 vv7) (by decide) vv11 (hS)
    | 12 =>
      simp only [List.getElem?_toArray, List.getElem?_cons_zero, List.getElem?_cons_succ, Option.some.injEq] at ho
      subst ho
      have p7 : b 7 = true := hd ⟨7, .data⟩ (by simp) rfl
      have p11 : b 11 = true := hd ⟨11, .data⟩ (by simp) rfl
      have p4 : b 4 = true := hd ⟨4, .guard⟩ (by simp) rfl
      have e30 := (ev 7 30 rfl p7).trans vv7
      rw [vv12]
      refine does_value_g rfl (yl 4 27 true rfl p4 vv4) (by intro c h; cases h) (w' := W) ?_ (hS)
      · simp [execOp, go_sem, e30]
    | 13 =>
      simp only [List.getElem?_toArray, List.getElem?_cons_zero, List.getElem?_cons_succ, Option.some.injEq] at ho
      subst ho
      have p4 : b 4 = true := hd ⟨4, .data⟩ (by simp) rfl
      have p12 : b 12 = true := hd ⟨12, .data⟩ (by simp) rfl
      have e27 := (ev 4 27 rfl p4).trans vv4
      have e35 := (ev 12 35 rfl p12).trans vv12
      rw [vv13]
      refine does_value rfl (by intro c h; cases h) (w' := W) ?_ (hS)
      · simp [execOp, go_sem, e27, e35]
    | 14 =>
      simp only [List.getElem?_toArray, List.getElem?_cons_zero, List.getElem?_cons_succ, Option.some.injEq] at ho
      subst ho
      have p13 : b 13 = true := hd ⟨13, .data⟩ (by simp) rfl
      have e36 := (ev 13 36 rfl p13).trans vv13
      rw [vv14]
      refine does_value rfl (by intro c h; cases h) (w' := W) ?_ (hS)
      · simp [execOp, go_sem, e36]
    | 15 =>
      simp only [List.getElem?_toArray, List.getElem?_cons_zero, List.getElem?_cons_succ, Option.some.injEq] at ho
      subst ho
      have p14 : b 14 = true := hd ⟨14, .guard⟩ (by simp) rfl
      have e1 : a.tmps[1]?.getD undef = .pointer (some ⟨g, 0, none⟩) := (kp 1 (by kernel_rfl)).trans b1
      obtain ⟨d0, d1, d2, d3, d4, d5, d6, d7, d8, d9, d10⟩ := (h9.below hS).cells
      rw [vv15]
      refine does_value_g rfl (yl 14 37 true rfl p14 vv14) (by intro c h; cases h) (w' := W) ?_ (hS)
      · simp [execOp, go_sem, e1, d0, d1, d2, d3, d4, d5, d6, d7, d8, d9, d10]
    | 16 =>
      simp only [List.getElem?_toArray, List.getElem?_cons_zero, List.getElem?_cons_succ, Option.some.injEq] at ho
      subst ho
      have p15 : b 15 = true := hd ⟨15, .data⟩ (by simp) rfl
      have p14 : b 14 = true := hd ⟨14, .guard⟩ (by simp) rfl
      have e38 := (ev 15 38 rfl p15).trans vv15
      rw [vv16]
      refine does_call_g rfl (yl 14 37 true rfl p14 vv14) (by intro c h; cases h) (f := 68) (args := #[.agg #[.int .i64 t, .int .i64 n, .int .i64 sq, .int .i64 kd, .int .i64 ot, .int .i64 on, .int .i64 pt, .int .i64 pn, .string (bas nm), .slice p l c, .slice q m d]]) ?_ ?_
      · simp [go_sem, e38]
      · exact (cP W hS).mono (fun e w' h => ⟨h.1, hS.trans (h.2.mono hS.size)⟩)
    | 17 =>
      simp only [List.getElem?_toArray, List.getElem?_cons_zero, List.getElem?_cons_succ, Option.some.injEq] at ho
      subst ho
      have p14 : b 14 = true := hd ⟨14, .data⟩ (by simp) rfl
      have p16 : b 16 = true := hd ⟨16, .data⟩ (by simp) rfl
      have e37 := (ev 14 37 rfl p14).trans vv14
      have e39 := (ev 16 39 rfl p16).trans vv16
      rw [vv17]
      refine does_value rfl (by intro c h; cases h) (w' := W) ?_ (hS)
      · simp [execOp, go_sem, e37, e39]
    | 18 =>
      simp only [List.getElem?_toArray, List.getElem?_cons_zero, List.getElem?_cons_succ, Option.some.injEq] at ho
      subst ho
      have p17 : b 17 = true := hd ⟨17, .data⟩ (by simp) rfl
      have e40 := (ev 17 40 rfl p17).trans vv17
      rw [vv18]
      refine does_value rfl (by intro c h; cases h) (w' := W) ?_ (hS)
      · simp [execOp, go_sem, e40]
    | k + 19 => simp at ho
  · intro b' W hS _
    subst hLe
    exact hQ W hS

set_option maxRecDepth 8000 in
set_option maxHeartbeats 4000000 in
theorem kind_trash {Q : Exit → Act → World → Prop} {base : Array Value} {dd : List Deferred} {ops : Array Oper} (hops : Try.f48.body.bind (regs 6) = some ops) (g : Nat) (t n sq kd ot on pt pn : Int) (nm : List UInt8) (p q : Option Addr) (l c m d : Nat) (w9 : World) (hsz : base.size = 64)
    (b1 : base.getD 1 undef = .pointer (some ⟨g, 0, none⟩)) (h9 : OpB w9 g t n sq kd ot on pt pn nm p q l c m d)
    (x : Bool)
    (cE : ∀ W, Below w9.heap.size w9 W → Calls Try.prog 69 #[.agg #[.int .i64 ot, .int .i64 on], .agg #[.int .i64 t, .int .i64 n, .int .i64 sq, .int .i64 kd, .int .i64 ot, .int .i64 on, .int .i64 pt, .int .i64 pn, .string (bas nm), .slice p l c, .slice q m d]] W fun e w' => e = .returned (.bool true) ∧ Below W.heap.size W w')
    (cH : ∀ W, Below w9.heap.size w9 W → Calls Try.prog 67 #[.agg #[.int .i64 t, .int .i64 n, .int .i64 sq, .int .i64 kd, .int .i64 ot, .int .i64 on, .int .i64 pt, .int .i64 pn, .string (bas nm), .slice p l c, .slice q m d]] W fun e w' => e = .returned (.bool false) ∧ Below W.heap.size W w')
    (cT : ∀ W, Below w9.heap.size w9 W → Calls Try.prog 70 #[] W fun e w' => e = .returned (.agg #[.int .i64 0, .int .i64 1]) ∧ Below W.heap.size W w')
    (hr : pt = 0 ∧ pn = 1)
    (cP : ∀ W, Below w9.heap.size w9 W → Calls Try.prog 68 #[.agg #[.int .i64 t, .int .i64 n, .int .i64 sq, .int .i64 kd, .int .i64 ot, .int .i64 on, .int .i64 pt, .int .i64 pn, .string (bas nm), .slice p l c, .slice q m d]] W fun e w' => e = .returned (.bool x) ∧ Below W.heap.size W w')
    (hQ : ∀ W, Below w9.heap.size w9 W → Q .normal ⟨putAll base [(some 23, .pointer (some ⟨g, 4, none⟩)), (some 24, .agg #[.int .i64 ot, .int .i64 on]), (some 25, .agg #[.int .i64 t, .int .i64 n, .int .i64 sq, .int .i64 kd, .int .i64 ot, .int .i64 on, .int .i64 pt, .int .i64 pn, .string (bas nm), .slice p l c, .slice q m d]), (some 26, .bool true), (some 27, .bool true), (some 28, .agg #[.int .i64 t, .int .i64 n, .int .i64 sq, .int .i64 kd, .int .i64 ot, .int .i64 on, .int .i64 pt, .int .i64 pn, .string (bas nm), .slice p l c, .slice q m d]), (some 29, .bool false), (some 30, .bool false), (some 31, .pointer (some ⟨g, 6, none⟩)), (some 32, .agg #[.int .i64 pt, .int .i64 pn]), (some 33, .agg #[.int .i64 0, .int .i64 1]), (some 34, .bool true), (some 35, .bool true), (some 36, .bool true), (some 37, .bool true), (some 38, .agg #[.int .i64 t, .int .i64 n, .int .i64 sq, .int .i64 kd, .int .i64 ot, .int .i64 on, .int .i64 pt, .int .i64 pn, .string (bas nm), .slice p l c, .slice q m d]), (some 39, .bool x), (some 40, .bool x), (some 2, .bool x)], dd⟩ W) :
    (Code.region 6 ops true).wp Try.prog Q ⟨base, dd⟩ w9 := by
  have hmix : Try.prog.follows .mixedOrders = true := by kernel_rfl
  have h2 := (show Try.f48.body.bind (regs 6) = some _ from rfl).symm.trans hops
  obtain rfl := Option.some.inj h2
  clear h2 hops
  have below9 : Below w9.heap.size w9 w9.drew := (Below.refl _ _).drew
  obtain ⟨LL, hLe⟩ : ∃ LL : List (Option Tmp × Value), LL = [(some 23, .pointer (some ⟨g, 4, none⟩)), (some 24, .agg #[.int .i64 ot, .int .i64 on]), (some 25, .agg #[.int .i64 t, .int .i64 n, .int .i64 sq, .int .i64 kd, .int .i64 ot, .int .i64 on, .int .i64 pt, .int .i64 pn, .string (bas nm), .slice p l c, .slice q m d]), (some 26, .bool true), (some 27, .bool true), (some 28, .agg #[.int .i64 t, .int .i64 n, .int .i64 sq, .int .i64 kd, .int .i64 ot, .int .i64 on, .int .i64 pt, .int .i64 pn, .string (bas nm), .slice p l c, .slice q m d]), (some 29, .bool false), (some 30, .bool false), (some 31, .pointer (some ⟨g, 6, none⟩)), (some 32, .agg #[.int .i64 pt, .int .i64 pn]), (some 33, .agg #[.int .i64 0, .int .i64 1]), (some 34, .bool true), (some 35, .bool true), (some 36, .bool true), (some 37, .bool true), (some 38, .agg #[.int .i64 t, .int .i64 n, .int .i64 sq, .int .i64 kd, .int .i64 ot, .int .i64 on, .int .i64 pt, .int .i64 pn, .string (bas nm), .slice p l c, .slice q m d]), (some 39, .bool x), (some 40, .bool x), (some 2, .bool x)] := ⟨_, rfl⟩
  have vv0 : vals LL 0 = .pointer (some ⟨g, 4, none⟩) := by rw [hLe]; rfl
  have vv1 : vals LL 1 = .agg #[.int .i64 ot, .int .i64 on] := by rw [hLe]; rfl
  have vv2 : vals LL 2 = .agg #[.int .i64 t, .int .i64 n, .int .i64 sq, .int .i64 kd, .int .i64 ot, .int .i64 on, .int .i64 pt, .int .i64 pn, .string (bas nm), .slice p l c, .slice q m d] := by rw [hLe]; rfl
  have vv3 : vals LL 3 = .bool true := by rw [hLe]; rfl
  have vv4 : vals LL 4 = .bool true := by rw [hLe]; rfl
  have vv5 : vals LL 5 = .agg #[.int .i64 t, .int .i64 n, .int .i64 sq, .int .i64 kd, .int .i64 ot, .int .i64 on, .int .i64 pt, .int .i64 pn, .string (bas nm), .slice p l c, .slice q m d] := by rw [hLe]; rfl
  have vv6 : vals LL 6 = .bool false := by rw [hLe]; rfl
  have vv7 : vals LL 7 = .bool false := by rw [hLe]; rfl
  have vv8 : vals LL 8 = .pointer (some ⟨g, 6, none⟩) := by rw [hLe]; rfl
  have vv9 : vals LL 9 = .agg #[.int .i64 pt, .int .i64 pn] := by rw [hLe]; rfl
  have vv10 : vals LL 10 = .agg #[.int .i64 0, .int .i64 1] := by rw [hLe]; rfl
  have vv11 : vals LL 11 = .bool true := by rw [hLe]; rfl
  have vv12 : vals LL 12 = .bool true := by rw [hLe]; rfl
  have vv13 : vals LL 13 = .bool true := by rw [hLe]; rfl
  have vv14 : vals LL 14 = .bool true := by rw [hLe]; rfl
  have vv15 : vals LL 15 = .agg #[.int .i64 t, .int .i64 n, .int .i64 sq, .int .i64 kd, .int .i64 ot, .int .i64 on, .int .i64 pt, .int .i64 pn, .string (bas nm), .slice p l c, .slice q m d] := by rw [hLe]; rfl
  have vv16 : vals LL 16 = .bool x := by rw [hLe]; rfl
  have vv17 : vals LL 17 = .bool x := by rw [hLe]; rfl
  have vv18 : vals LL 18 = .bool x := by rw [hLe]; rfl
  refine region_laid hmix (by kernel_rfl) 64 hsz (by kernel_rfl) LL (by rw [hLe]; rfl) (fun _ W => Below w9.heap.size w9 W) below9 ?_ ?_
  · intro b W i o a hS hcl ho hb hd ev kp yl
    match i with
    | 0 =>
      simp only [List.getElem?_toArray, List.getElem?_cons_zero, Option.some.injEq] at ho
      subst ho
      have e1 : a.tmps[1]?.getD undef = .pointer (some ⟨g, 0, none⟩) := (kp 1 (by kernel_rfl)).trans b1
      rw [vv0]
      refine does_value rfl (by intro c h; cases h) (w' := W) ?_ (hS)
      · simp [execOp, go_sem, e1]
    | 1 =>
      simp only [List.getElem?_toArray, List.getElem?_cons_zero, List.getElem?_cons_succ, Option.some.injEq] at ho
      subst ho
      have p0 : b 0 = true := hd ⟨0, .data⟩ (by simp) rfl
      have e23 := (ev 0 23 rfl p0).trans vv0
      obtain ⟨d0, d1, d2, d3, d4, d5, d6, d7, d8, d9, d10⟩ := (h9.below hS).cells
      rw [vv1]
      refine does_value rfl (by intro c h; cases h) (w' := W) ?_ (hS)
      · simp [execOp, go_sem, e23, d4, d5]
    | 2 =>
      simp only [List.getElem?_toArray, List.getElem?_cons_zero, List.getElem?_cons_succ, Option.some.injEq] at ho
      subst ho
      have e1 : a.tmps[1]?.getD undef = .pointer (some ⟨g, 0, none⟩) := (kp 1 (by kernel_rfl)).trans b1
      obtain ⟨d0, d1, d2, d3, d4, d5, d6, d7, d8, d9, d10⟩ := (h9.below hS).cells
      rw [vv2]
      refine does_value rfl (by intro c h; cases h) (w' := W) ?_ (hS)
      · simp [execOp, go_sem, e1, d0, d1, d2, d3, d4, d5, d6, d7, d8, d9, d10]
    | 3 =>
      simp only [List.getElem?_toArray, List.getElem?_cons_zero, List.getElem?_cons_succ, Option.some.injEq] at ho
      subst ho
      have p1 : b 1 = true := hd ⟨1, .data⟩ (by simp) rfl
      have p2 : b 2 = true := hd ⟨2, .data⟩ (by simp) rfl
      have e24 := (ev 1 24 rfl p1).trans vv1
      have e25 := (ev 2 25 rfl p2).trans vv2
      rw [vv3]
      refine does_call rfl (by intro c h; cases h) (f := 69) (args := #[.agg #[.int .i64 ot, .int .i64 on], .agg #[.int .i64 t, .int .i64 n, .int .i64 sq, .int .i64 kd, .int .i64 ot, .int .i64 on, .int .i64 pt, .int .i64 pn, .string (bas nm), .slice p l c, .slice q m d]]) ?_ ?_
      · simp [go_sem, e24, e25]
      · exact (cE W hS).mono (fun e w' h => ⟨h.1, hS.trans (h.2.mono hS.size)⟩)
    | 4 =>
      simp only [List.getElem?_toArray, List.getElem?_cons_zero, List.getElem?_cons_succ, Option.some.injEq] at ho
      subst ho
      have p3 : b 3 = true := hd ⟨3, .data⟩ (by simp) rfl
      have e26 := (ev 3 26 rfl p3).trans vv3
      rw [vv4]
      refine does_value rfl (by intro c h; cases h) (w' := W) ?_ (hS)
      · simp [execOp, go_sem, e26]
    | 5 =>
      simp only [List.getElem?_toArray, List.getElem?_cons_zero, List.getElem?_cons_succ, Option.some.injEq] at ho
      subst ho
      have p4 : b 4 = true := hd ⟨4, .guard⟩ (by simp) rfl
      have e1 : a.tmps[1]?.getD undef = .pointer (some ⟨g, 0, none⟩) := (kp 1 (by kernel_rfl)).trans b1
      obtain ⟨d0, d1, d2, d3, d4, d5, d6, d7, d8, d9, d10⟩ := (h9.below hS).cells
      rw [vv5]
      refine does_value_g rfl (yl 4 27 true rfl p4 vv4) (by intro c h; cases h) (w' := W) ?_ (hS)
      · simp [execOp, go_sem, e1, d0, d1, d2, d3, d4, d5, d6, d7, d8, d9, d10]
    | 6 =>
      simp only [List.getElem?_toArray, List.getElem?_cons_zero, List.getElem?_cons_succ, Option.some.injEq] at ho
      subst ho
      have p5 : b 5 = true := hd ⟨5, .data⟩ (by simp) rfl
      have p4 : b 4 = true := hd ⟨4, .guard⟩ (by simp) rfl
      have e28 := (ev 5 28 rfl p5).trans vv5
      rw [vv6]
      refine does_call_g rfl (yl 4 27 true rfl p4 vv4) (by intro c h; cases h) (f := 67) (args := #[.agg #[.int .i64 t, .int .i64 n, .int .i64 sq, .int .i64 kd, .int .i64 ot, .int .i64 on, .int .i64 pt, .int .i64 pn, .string (bas nm), .slice p l c, .slice q m d]]) ?_ ?_
      · simp [go_sem, e28]
      · exact (cH W hS).mono (fun e w' h => ⟨h.1, hS.trans (h.2.mono hS.size)⟩)
    | 7 =>
      simp only [List.getElem?_toArray, List.getElem?_cons_zero, List.getElem?_cons_succ, Option.some.injEq] at ho
      subst ho
      have p6 : b 6 = true := hd ⟨6, .data⟩ (by simp) rfl
      have p4 : b 4 = true := hd ⟨4, .guard⟩ (by simp) rfl
      have e29 := (ev 6 29 rfl p6).trans vv6
      rw [vv7]
      refine does_value_g rfl (yl 4 27 true rfl p4 vv4) (by intro c h; cases h) (w' := W) ?_ (hS)
      · simp [execOp, go_sem, e29]
    | 8 =>
      simp only [List.getElem?_toArray, List.getElem?_cons_zero, List.getElem?_cons_succ, Option.some.injEq] at ho
      subst ho
      have p7 : b 7 = true := hd ⟨7, .guard⟩ (by simp) rfl
      have e1 : a.tmps[1]?.getD undef = .pointer (some ⟨g, 0, none⟩) := (kp 1 (by kernel_rfl)).trans b1
      rw [vv8]
      refine does_value_g rfl (yl 7 30 false rfl p7 vv7) (by intro c h; cases h) (w' := W) ?_ (hS)
      · simp [execOp, go_sem, e1]
    | 9 =>
      simp only [List.getElem?_toArray, List.getElem?_cons_zero, List.getElem?_cons_succ, Option.some.injEq] at ho
      subst ho
      have p8 : b 8 = true := hd ⟨8, .data⟩ (by simp) rfl
      have p7 : b 7 = true := hd ⟨7, .guard⟩ (by simp) rfl
      have e31 := (ev 8 31 rfl p8).trans vv8
      obtain ⟨d0, d1, d2, d3, d4, d5, d6, d7, d8, d9, d10⟩ := (h9.below hS).cells
      rw [vv9]
      refine does_value_g rfl (yl 7 30 false rfl p7 vv7) (by intro c h; cases h) (w' := W) ?_ (hS)
      · simp [execOp, go_sem, e31, d6, d7]
    | 10 =>
      simp only [List.getElem?_toArray, List.getElem?_cons_zero, List.getElem?_cons_succ, Option.some.injEq] at ho
      subst ho
      have p7 : b 7 = true := hd ⟨7, .guard⟩ (by simp) rfl
      rw [vv10]
      refine does_call_g rfl (yl 7 30 false rfl p7 vv7) (by intro c h; cases h) (f := 70) (args := #[]) ?_ ?_
      · simp [go_sem, ]
      · exact (cT W hS).mono (fun e w' h => ⟨h.1, hS.trans (h.2.mono hS.size)⟩)
    | 11 =>
      simp only [List.getElem?_toArray, List.getElem?_cons_zero, List.getElem?_cons_succ, Option.some.injEq] at ho
      subst ho
      have p9 : b 9 = true := hd ⟨9, .data⟩ (by simp) rfl
      have p10 : b 10 = true := hd ⟨10, .data⟩ (by simp) rfl
      have p7 : b 7 = true := hd ⟨7, .guard⟩ (by simp) rfl
      have e32 := (ev 9 32 rfl p9).trans vv9
      have e33 := (ev 10 33 rfl p10).trans vv10
      rw [vv11]
      refine does_value_g rfl (yl 7 30 false rfl p7 vv7) (by intro c h; cases h) (w' := W) ?_ (hS)
      · simp [execOp, go_sem, e32, e33, hr.1, hr.2]
    | 12 =>
      simp only [List.getElem?_toArray, List.getElem?_cons_zero, List.getElem?_cons_succ, Option.some.injEq] at ho
      subst ho
      have p7 : b 7 = true := hd ⟨7, .data⟩ (by simp) rfl
      have p11 : b 11 = true := hd ⟨11, .data⟩ (by simp) rfl
      have p4 : b 4 = true := hd ⟨4, .guard⟩ (by simp) rfl
      have e30 := (ev 7 30 rfl p7).trans vv7
      have e34 := (ev 11 34 rfl p11).trans vv11
      rw [vv12]
      refine does_value_g rfl (yl 4 27 true rfl p4 vv4) (by intro c h; cases h) (w' := W) ?_ (hS)
      · simp [execOp, go_sem, e30, e34]
    | 13 =>
      simp only [List.getElem?_toArray, List.getElem?_cons_zero, List.getElem?_cons_succ, Option.some.injEq] at ho
      subst ho
      have p4 : b 4 = true := hd ⟨4, .data⟩ (by simp) rfl
      have p12 : b 12 = true := hd ⟨12, .data⟩ (by simp) rfl
      have e27 := (ev 4 27 rfl p4).trans vv4
      have e35 := (ev 12 35 rfl p12).trans vv12
      rw [vv13]
      refine does_value rfl (by intro c h; cases h) (w' := W) ?_ (hS)
      · simp [execOp, go_sem, e27, e35]
    | 14 =>
      simp only [List.getElem?_toArray, List.getElem?_cons_zero, List.getElem?_cons_succ, Option.some.injEq] at ho
      subst ho
      have p13 : b 13 = true := hd ⟨13, .data⟩ (by simp) rfl
      have e36 := (ev 13 36 rfl p13).trans vv13
      rw [vv14]
      refine does_value rfl (by intro c h; cases h) (w' := W) ?_ (hS)
      · simp [execOp, go_sem, e36]
    | 15 =>
      simp only [List.getElem?_toArray, List.getElem?_cons_zero, List.getElem?_cons_succ, Option.some.injEq] at ho
      subst ho
      have p14 : b 14 = true := hd ⟨14, .guard⟩ (by simp) rfl
      have e1 : a.tmps[1]?.getD undef = .pointer (some ⟨g, 0, none⟩) := (kp 1 (by kernel_rfl)).trans b1
      obtain ⟨d0, d1, d2, d3, d4, d5, d6, d7, d8, d9, d10⟩ := (h9.below hS).cells
      rw [vv15]
      refine does_value_g rfl (yl 14 37 true rfl p14 vv14) (by intro c h; cases h) (w' := W) ?_ (hS)
      · simp [execOp, go_sem, e1, d0, d1, d2, d3, d4, d5, d6, d7, d8, d9, d10]
    | 16 =>
      simp only [List.getElem?_toArray, List.getElem?_cons_zero, List.getElem?_cons_succ, Option.some.injEq] at ho
      subst ho
      have p15 : b 15 = true := hd ⟨15, .data⟩ (by simp) rfl
      have p14 : b 14 = true := hd ⟨14, .guard⟩ (by simp) rfl
      have e38 := (ev 15 38 rfl p15).trans vv15
      rw [vv16]
      refine does_call_g rfl (yl 14 37 true rfl p14 vv14) (by intro c h; cases h) (f := 68) (args := #[.agg #[.int .i64 t, .int .i64 n, .int .i64 sq, .int .i64 kd, .int .i64 ot, .int .i64 on, .int .i64 pt, .int .i64 pn, .string (bas nm), .slice p l c, .slice q m d]]) ?_ ?_
      · simp [go_sem, e38]
      · exact (cP W hS).mono (fun e w' h => ⟨h.1, hS.trans (h.2.mono hS.size)⟩)
    | 17 =>
      simp only [List.getElem?_toArray, List.getElem?_cons_zero, List.getElem?_cons_succ, Option.some.injEq] at ho
      subst ho
      have p14 : b 14 = true := hd ⟨14, .data⟩ (by simp) rfl
      have p16 : b 16 = true := hd ⟨16, .data⟩ (by simp) rfl
      have e37 := (ev 14 37 rfl p14).trans vv14
      have e39 := (ev 16 39 rfl p16).trans vv16
      rw [vv17]
      refine does_value rfl (by intro c h; cases h) (w' := W) ?_ (hS)
      · simp [execOp, go_sem, e37, e39]
    | 18 =>
      simp only [List.getElem?_toArray, List.getElem?_cons_zero, List.getElem?_cons_succ, Option.some.injEq] at ho
      subst ho
      have p17 : b 17 = true := hd ⟨17, .data⟩ (by simp) rfl
      have e40 := (ev 17 40 rfl p17).trans vv17
      rw [vv18]
      refine does_value rfl (by intro c h; cases h) (w' := W) ?_ (hS)
      · simp [execOp, go_sem, e40]
    | k + 19 => simp at ho
  · intro b' W hS _
    subst hLe
    exact hQ W hS

set_option maxRecDepth 8000 in
set_option maxHeartbeats 4000000 in
theorem kind_nowhere {Q : Exit → Act → World → Prop} {base : Array Value} {dd : List Deferred} {ops : Array Oper} (hops : Try.f48.body.bind (regs 6) = some ops) (g : Nat) (t n sq kd ot on pt pn : Int) (nm : List UInt8) (p q : Option Addr) (l c m d : Nat) (w9 : World) (hsz : base.size = 64)
    (b1 : base.getD 1 undef = .pointer (some ⟨g, 0, none⟩)) (h9 : OpB w9 g t n sq kd ot on pt pn nm p q l c m d)
    (cE : ∀ W, Below w9.heap.size w9 W → Calls Try.prog 69 #[.agg #[.int .i64 ot, .int .i64 on], .agg #[.int .i64 t, .int .i64 n, .int .i64 sq, .int .i64 kd, .int .i64 ot, .int .i64 on, .int .i64 pt, .int .i64 pn, .string (bas nm), .slice p l c, .slice q m d]] W fun e w' => e = .returned (.bool true) ∧ Below W.heap.size W w')
    (cH : ∀ W, Below w9.heap.size w9 W → Calls Try.prog 67 #[.agg #[.int .i64 t, .int .i64 n, .int .i64 sq, .int .i64 kd, .int .i64 ot, .int .i64 on, .int .i64 pt, .int .i64 pn, .string (bas nm), .slice p l c, .slice q m d]] W fun e w' => e = .returned (.bool false) ∧ Below W.heap.size W w')
    (cT : ∀ W, Below w9.heap.size w9 W → Calls Try.prog 70 #[] W fun e w' => e = .returned (.agg #[.int .i64 0, .int .i64 1]) ∧ Below W.heap.size W w')
    (hr : ¬ pt = 0 ∨ ¬ pn = 1)
    (hQ : ∀ W, Below w9.heap.size w9 W → Q .normal ⟨putAll base [(some 23, .pointer (some ⟨g, 4, none⟩)), (some 24, .agg #[.int .i64 ot, .int .i64 on]), (some 25, .agg #[.int .i64 t, .int .i64 n, .int .i64 sq, .int .i64 kd, .int .i64 ot, .int .i64 on, .int .i64 pt, .int .i64 pn, .string (bas nm), .slice p l c, .slice q m d]), (some 26, .bool true), (some 27, .bool true), (some 28, .agg #[.int .i64 t, .int .i64 n, .int .i64 sq, .int .i64 kd, .int .i64 ot, .int .i64 on, .int .i64 pt, .int .i64 pn, .string (bas nm), .slice p l c, .slice q m d]), (some 29, .bool false), (some 30, .bool false), (some 31, .pointer (some ⟨g, 6, none⟩)), (some 32, .agg #[.int .i64 pt, .int .i64 pn]), (some 33, .agg #[.int .i64 0, .int .i64 1]), (some 34, .bool false), (some 35, .bool false), (some 36, .bool false), (some 37, .bool false), (some 38, undef), (some 39, undef), (some 40, .bool false), (some 2, .bool false)], dd⟩ W) :
    (Code.region 6 ops true).wp Try.prog Q ⟨base, dd⟩ w9 := by
  have hmix : Try.prog.follows .mixedOrders = true := by kernel_rfl
  have h2 := (show Try.f48.body.bind (regs 6) = some _ from rfl).symm.trans hops
  obtain rfl := Option.some.inj h2
  clear h2 hops
  have below9 : Below w9.heap.size w9 w9.drew := (Below.refl _ _).drew
  obtain ⟨LL, hLe⟩ : ∃ LL : List (Option Tmp × Value), LL = [(some 23, .pointer (some ⟨g, 4, none⟩)), (some 24, .agg #[.int .i64 ot, .int .i64 on]), (some 25, .agg #[.int .i64 t, .int .i64 n, .int .i64 sq, .int .i64 kd, .int .i64 ot, .int .i64 on, .int .i64 pt, .int .i64 pn, .string (bas nm), .slice p l c, .slice q m d]), (some 26, .bool true), (some 27, .bool true), (some 28, .agg #[.int .i64 t, .int .i64 n, .int .i64 sq, .int .i64 kd, .int .i64 ot, .int .i64 on, .int .i64 pt, .int .i64 pn, .string (bas nm), .slice p l c, .slice q m d]), (some 29, .bool false), (some 30, .bool false), (some 31, .pointer (some ⟨g, 6, none⟩)), (some 32, .agg #[.int .i64 pt, .int .i64 pn]), (some 33, .agg #[.int .i64 0, .int .i64 1]), (some 34, .bool false), (some 35, .bool false), (some 36, .bool false), (some 37, .bool false), (some 38, undef), (some 39, undef), (some 40, .bool false), (some 2, .bool false)] := ⟨_, rfl⟩
  have vv0 : vals LL 0 = .pointer (some ⟨g, 4, none⟩) := by rw [hLe]; rfl
  have vv1 : vals LL 1 = .agg #[.int .i64 ot, .int .i64 on] := by rw [hLe]; rfl
  have vv2 : vals LL 2 = .agg #[.int .i64 t, .int .i64 n, .int .i64 sq, .int .i64 kd, .int .i64 ot, .int .i64 on, .int .i64 pt, .int .i64 pn, .string (bas nm), .slice p l c, .slice q m d] := by rw [hLe]; rfl
  have vv3 : vals LL 3 = .bool true := by rw [hLe]; rfl
  have vv4 : vals LL 4 = .bool true := by rw [hLe]; rfl
  have vv5 : vals LL 5 = .agg #[.int .i64 t, .int .i64 n, .int .i64 sq, .int .i64 kd, .int .i64 ot, .int .i64 on, .int .i64 pt, .int .i64 pn, .string (bas nm), .slice p l c, .slice q m d] := by rw [hLe]; rfl
  have vv6 : vals LL 6 = .bool false := by rw [hLe]; rfl
  have vv7 : vals LL 7 = .bool false := by rw [hLe]; rfl
  have vv8 : vals LL 8 = .pointer (some ⟨g, 6, none⟩) := by rw [hLe]; rfl
  have vv9 : vals LL 9 = .agg #[.int .i64 pt, .int .i64 pn] := by rw [hLe]; rfl
  have vv10 : vals LL 10 = .agg #[.int .i64 0, .int .i64 1] := by rw [hLe]; rfl
  have vv11 : vals LL 11 = .bool false := by rw [hLe]; rfl
  have vv12 : vals LL 12 = .bool false := by rw [hLe]; rfl
  have vv13 : vals LL 13 = .bool false := by rw [hLe]; rfl
  have vv14 : vals LL 14 = .bool false := by rw [hLe]; rfl
  have vv15 : vals LL 15 = undef := by rw [hLe]; rfl
  have vv16 : vals LL 16 = undef := by rw [hLe]; rfl
  have vv17 : vals LL 17 = .bool false := by rw [hLe]; rfl
  have vv18 : vals LL 18 = .bool false := by rw [hLe]; rfl
  refine region_laid hmix (by kernel_rfl) 64 hsz (by kernel_rfl) LL (by rw [hLe]; rfl) (fun _ W => Below w9.heap.size w9 W) below9 ?_ ?_
  · intro b W i o a hS hcl ho hb hd ev kp yl
    match i with
    | 0 =>
      simp only [List.getElem?_toArray, List.getElem?_cons_zero, Option.some.injEq] at ho
      subst ho
      have e1 : a.tmps[1]?.getD undef = .pointer (some ⟨g, 0, none⟩) := (kp 1 (by kernel_rfl)).trans b1
      rw [vv0]
      refine does_value rfl (by intro c h; cases h) (w' := W) ?_ (hS)
      · simp [execOp, go_sem, e1]
    | 1 =>
      simp only [List.getElem?_toArray, List.getElem?_cons_zero, List.getElem?_cons_succ, Option.some.injEq] at ho
      subst ho
      have p0 : b 0 = true := hd ⟨0, .data⟩ (by simp) rfl
      have e23 := (ev 0 23 rfl p0).trans vv0
      obtain ⟨d0, d1, d2, d3, d4, d5, d6, d7, d8, d9, d10⟩ := (h9.below hS).cells
      rw [vv1]
      refine does_value rfl (by intro c h; cases h) (w' := W) ?_ (hS)
      · simp [execOp, go_sem, e23, d4, d5]
    | 2 =>
      simp only [List.getElem?_toArray, List.getElem?_cons_zero, List.getElem?_cons_succ, Option.some.injEq] at ho
      subst ho
      have e1 : a.tmps[1]?.getD undef = .pointer (some ⟨g, 0, none⟩) := (kp 1 (by kernel_rfl)).trans b1
      obtain ⟨d0, d1, d2, d3, d4, d5, d6, d7, d8, d9, d10⟩ := (h9.below hS).cells
      rw [vv2]
      refine does_value rfl (by intro c h; cases h) (w' := W) ?_ (hS)
      · simp [execOp, go_sem, e1, d0, d1, d2, d3, d4, d5, d6, d7, d8, d9, d10]
    | 3 =>
      simp only [List.getElem?_toArray, List.getElem?_cons_zero, List.getElem?_cons_succ, Option.some.injEq] at ho
      subst ho
      have p1 : b 1 = true := hd ⟨1, .data⟩ (by simp) rfl
      have p2 : b 2 = true := hd ⟨2, .data⟩ (by simp) rfl
      have e24 := (ev 1 24 rfl p1).trans vv1
      have e25 := (ev 2 25 rfl p2).trans vv2
      rw [vv3]
      refine does_call rfl (by intro c h; cases h) (f := 69) (args := #[.agg #[.int .i64 ot, .int .i64 on], .agg #[.int .i64 t, .int .i64 n, .int .i64 sq, .int .i64 kd, .int .i64 ot, .int .i64 on, .int .i64 pt, .int .i64 pn, .string (bas nm), .slice p l c, .slice q m d]]) ?_ ?_
      · simp [go_sem, e24, e25]
      · exact (cE W hS).mono (fun e w' h => ⟨h.1, hS.trans (h.2.mono hS.size)⟩)
    | 4 =>
      simp only [List.getElem?_toArray, List.getElem?_cons_zero, List.getElem?_cons_succ, Option.some.injEq] at ho
      subst ho
      have p3 : b 3 = true := hd ⟨3, .data⟩ (by simp) rfl
      have e26 := (ev 3 26 rfl p3).trans vv3
      rw [vv4]
      refine does_value rfl (by intro c h; cases h) (w' := W) ?_ (hS)
      · simp [execOp, go_sem, e26]
    | 5 =>
      simp only [List.getElem?_toArray, List.getElem?_cons_zero, List.getElem?_cons_succ, Option.some.injEq] at ho
      subst ho
      have p4 : b 4 = true := hd ⟨4, .guard⟩ (by simp) rfl
      have e1 : a.tmps[1]?.getD undef = .pointer (some ⟨g, 0, none⟩) := (kp 1 (by kernel_rfl)).trans b1
      obtain ⟨d0, d1, d2, d3, d4, d5, d6, d7, d8, d9, d10⟩ := (h9.below hS).cells
      rw [vv5]
      refine does_value_g rfl (yl 4 27 true rfl p4 vv4) (by intro c h; cases h) (w' := W) ?_ (hS)
      · simp [execOp, go_sem, e1, d0, d1, d2, d3, d4, d5, d6, d7, d8, d9, d10]
    | 6 =>
      simp only [List.getElem?_toArray, List.getElem?_cons_zero, List.getElem?_cons_succ, Option.some.injEq] at ho
      subst ho
      have p5 : b 5 = true := hd ⟨5, .data⟩ (by simp) rfl
      have p4 : b 4 = true := hd ⟨4, .guard⟩ (by simp) rfl
      have e28 := (ev 5 28 rfl p5).trans vv5
      rw [vv6]
      refine does_call_g rfl (yl 4 27 true rfl p4 vv4) (by intro c h; cases h) (f := 67) (args := #[.agg #[.int .i64 t, .int .i64 n, .int .i64 sq, .int .i64 kd, .int .i64 ot, .int .i64 on, .int .i64 pt, .int .i64 pn, .string (bas nm), .slice p l c, .slice q m d]]) ?_ ?_
      · simp [go_sem, e28]
      · exact (cH W hS).mono (fun e w' h => ⟨h.1, hS.trans (h.2.mono hS.size)⟩)
    | 7 =>
      simp only [List.getElem?_toArray, List.getElem?_cons_zero, List.getElem?_cons_succ, Option.some.injEq] at ho
      subst ho
      have p6 : b 6 = true := hd ⟨6, .data⟩ (by simp) rfl
      have p4 : b 4 = true := hd ⟨4, .guard⟩ (by simp) rfl
      have e29 := (ev 6 29 rfl p6).trans vv6
      rw [vv7]
      refine does_value_g rfl (yl 4 27 true rfl p4 vv4) (by intro c h; cases h) (w' := W) ?_ (hS)
      · simp [execOp, go_sem, e29]
    | 8 =>
      simp only [List.getElem?_toArray, List.getElem?_cons_zero, List.getElem?_cons_succ, Option.some.injEq] at ho
      subst ho
      have p7 : b 7 = true := hd ⟨7, .guard⟩ (by simp) rfl
      have e1 : a.tmps[1]?.getD undef = .pointer (some ⟨g, 0, none⟩) := (kp 1 (by kernel_rfl)).trans b1
      rw [vv8]
      refine does_value_g rfl (yl 7 30 false rfl p7 vv7) (by intro c h; cases h) (w' := W) ?_ (hS)
      · simp [execOp, go_sem, e1]
    | 9 =>
      simp only [List.getElem?_toArray, List.getElem?_cons_zero, List.getElem?_cons_succ, Option.some.injEq] at ho
      subst ho
      have p8 : b 8 = true := hd ⟨8, .data⟩ (by simp) rfl
      have p7 : b 7 = true := hd ⟨7, .guard⟩ (by simp) rfl
      have e31 := (ev 8 31 rfl p8).trans vv8
      obtain ⟨d0, d1, d2, d3, d4, d5, d6, d7, d8, d9, d10⟩ := (h9.below hS).cells
      rw [vv9]
      refine does_value_g rfl (yl 7 30 false rfl p7 vv7) (by intro c h; cases h) (w' := W) ?_ (hS)
      · simp [execOp, go_sem, e31, d6, d7]
    | 10 =>
      simp only [List.getElem?_toArray, List.getElem?_cons_zero, List.getElem?_cons_succ, Option.some.injEq] at ho
      subst ho
      have p7 : b 7 = true := hd ⟨7, .guard⟩ (by simp) rfl
      rw [vv10]
      refine does_call_g rfl (yl 7 30 false rfl p7 vv7) (by intro c h; cases h) (f := 70) (args := #[]) ?_ ?_
      · simp [go_sem, ]
      · exact (cT W hS).mono (fun e w' h => ⟨h.1, hS.trans (h.2.mono hS.size)⟩)
    | 11 =>
      simp only [List.getElem?_toArray, List.getElem?_cons_zero, List.getElem?_cons_succ, Option.some.injEq] at ho
      subst ho
      have p9 : b 9 = true := hd ⟨9, .data⟩ (by simp) rfl
      have p10 : b 10 = true := hd ⟨10, .data⟩ (by simp) rfl
      have p7 : b 7 = true := hd ⟨7, .guard⟩ (by simp) rfl
      have e32 := (ev 9 32 rfl p9).trans vv9
      have e33 := (ev 10 33 rfl p10).trans vv10
      rw [vv11]
      refine does_value_g rfl (yl 7 30 false rfl p7 vv7) (by intro c h; cases h) (w' := W) ?_ (hS)
      · rcases hr with h | h <;> simp [execOp, go_sem, e32, e33, h]
    | 12 =>
      simp only [List.getElem?_toArray, List.getElem?_cons_zero, List.getElem?_cons_succ, Option.some.injEq] at ho
      subst ho
      have p7 : b 7 = true := hd ⟨7, .data⟩ (by simp) rfl
      have p11 : b 11 = true := hd ⟨11, .data⟩ (by simp) rfl
      have p4 : b 4 = true := hd ⟨4, .guard⟩ (by simp) rfl
      have e30 := (ev 7 30 rfl p7).trans vv7
      have e34 := (ev 11 34 rfl p11).trans vv11
      rw [vv12]
      refine does_value_g rfl (yl 4 27 true rfl p4 vv4) (by intro c h; cases h) (w' := W) ?_ (hS)
      · simp [execOp, go_sem, e30, e34]
    | 13 =>
      simp only [List.getElem?_toArray, List.getElem?_cons_zero, List.getElem?_cons_succ, Option.some.injEq] at ho
      subst ho
      have p4 : b 4 = true := hd ⟨4, .data⟩ (by simp) rfl
      have p12 : b 12 = true := hd ⟨12, .data⟩ (by simp) rfl
      have e27 := (ev 4 27 rfl p4).trans vv4
      have e35 := (ev 12 35 rfl p12).trans vv12
      rw [vv13]
      refine does_value rfl (by intro c h; cases h) (w' := W) ?_ (hS)
      · simp [execOp, go_sem, e27, e35]
    | 14 =>
      simp only [List.getElem?_toArray, List.getElem?_cons_zero, List.getElem?_cons_succ, Option.some.injEq] at ho
      subst ho
      have p13 : b 13 = true := hd ⟨13, .data⟩ (by simp) rfl
      have e36 := (ev 13 36 rfl p13).trans vv13
      rw [vv14]
      refine does_value rfl (by intro c h; cases h) (w' := W) ?_ (hS)
      · simp [execOp, go_sem, e36]
    | 15 =>
      simp only [List.getElem?_toArray, List.getElem?_cons_zero, List.getElem?_cons_succ, Option.some.injEq] at ho
      subst ho
      have p14 : b 14 = true := hd ⟨14, .guard⟩ (by simp) rfl
      exact does_pass rfl (yl 14 37 false rfl p14 vv14) (by decide) vv15 (hS)
    | 16 =>
      simp only [List.getElem?_toArray, List.getElem?_cons_zero, List.getElem?_cons_succ, Option.some.injEq] at ho
      subst ho
      have p15 : b 15 = true := hd ⟨15, .data⟩ (by simp) rfl
      have p14 : b 14 = true := hd ⟨14, .guard⟩ (by simp) rfl
      exact does_pass rfl (yl 14 37 false rfl p14 vv14) (by decide) vv16 (hS)
    | 17 =>
      simp only [List.getElem?_toArray, List.getElem?_cons_zero, List.getElem?_cons_succ, Option.some.injEq] at ho
      subst ho
      have p14 : b 14 = true := hd ⟨14, .data⟩ (by simp) rfl
      have p16 : b 16 = true := hd ⟨16, .data⟩ (by simp) rfl
      have e37 := (ev 14 37 rfl p14).trans vv14
      rw [vv17]
      refine does_value rfl (by intro c h; cases h) (w' := W) ?_ (hS)
      · simp [execOp, go_sem, e37]
    | 18 =>
      simp only [List.getElem?_toArray, List.getElem?_cons_zero, List.getElem?_cons_succ, Option.some.injEq] at ho
      subst ho
      have p17 : b 17 = true := hd ⟨17, .data⟩ (by simp) rfl
      have e40 := (ev 17 40 rfl p17).trans vv17
      rw [vv18]
      refine does_value rfl (by intro c h; cases h) (w' := W) ?_ (hS)
      · simp [execOp, go_sem, e40]
    | k + 19 => simp at ho
  · intro b' W hS _
    subst hLe
    exact hQ W hS

set_option maxRecDepth 8000 in
set_option maxHeartbeats 4000000 in
theorem rmay_stamp {Q : Exit → Act → World → Prop} {base : Array Value} {dd : List Deferred} {ops : Array Oper} (hops : Try.f24.body.bind (regs 1) = some ops) (g : Nat) (t n sq kd ot on pt pn : Int) (nm : List UInt8) (p q : Option Addr) (l c m d : Nat) (w9 : World) (hsz : base.size = 128)
    (b1 : base.getD 1 undef = .pointer (some ⟨g, 0, none⟩)) (h9 : OpB w9 g t n sq kd ot on pt pn nm p q l c m d)
    (cV : ∀ W, Below w9.heap.size w9 W → Calls Try.prog 40 #[.agg #[.int .i64 t, .int .i64 n]] W fun e w' => e = .returned (.bool false) ∧ Below W.heap.size W w')
    (hQ : ∀ W, Below w9.heap.size w9 W → Q .normal ⟨putAll base [(some 3, .pointer (some ⟨g, 0, none⟩)), (some 4, .agg #[.int .i64 t, .int .i64 n]), (some 5, .bool false), (some 6, .bool true), (some 7, .bool true), (some 8, undef), (some 9, undef), (some 10, undef), (some 11, .bool true), (some 12, .bool true), (some 13, undef), (some 14, undef), (some 15, undef), (some 16, .bool true), (some 17, .bool true), (some 18, undef), (some 19, undef), (some 20, undef), (some 21, undef), (some 22, .bool true), (some 23, .bool true), (some 24, undef), (some 25, undef), (some 26, undef), (some 27, undef), (some 28, undef), (some 29, undef), (some 30, undef), (some 31, undef), (some 32, undef), (some 33, undef), (some 34, .bool true)], dd⟩ W) :
    (Code.region 1 ops true).wp Try.prog Q ⟨base, dd⟩ w9 := by
  have hmix : Try.prog.follows .mixedOrders = true := by kernel_rfl
  have h2 := (show Try.f24.body.bind (regs 1) = some _ from rfl).symm.trans hops
  obtain rfl := Option.some.inj h2
  clear h2 hops
  have below9 : Below w9.heap.size w9 w9.drew := (Below.refl _ _).drew
  obtain ⟨LL, hLe⟩ : ∃ LL : List (Option Tmp × Value), LL = [(some 3, .pointer (some ⟨g, 0, none⟩)), (some 4, .agg #[.int .i64 t, .int .i64 n]), (some 5, .bool false), (some 6, .bool true), (some 7, .bool true), (some 8, undef), (some 9, undef), (some 10, undef), (some 11, .bool true), (some 12, .bool true), (some 13, undef), (some 14, undef), (some 15, undef), (some 16, .bool true), (some 17, .bool true), (some 18, undef), (some 19, undef), (some 20, undef), (some 21, undef), (some 22, .bool true), (some 23, .bool true), (some 24, undef), (some 25, undef), (some 26, undef), (some 27, undef), (some 28, undef), (some 29, undef), (some 30, undef), (some 31, undef), (some 32, undef), (some 33, undef), (some 34, .bool true)] := ⟨_, rfl⟩
  have vv0 : vals LL 0 = .pointer (some ⟨g, 0, none⟩) := by rw [hLe]; rfl
  have vv1 : vals LL 1 = .agg #[.int .i64 t, .int .i64 n] := by rw [hLe]; rfl
  have vv2 : vals LL 2 = .bool false := by rw [hLe]; rfl
  have vv3 : vals LL 3 = .bool true := by rw [hLe]; rfl
  have vv4 : vals LL 4 = .bool true := by rw [hLe]; rfl
  have vv5 : vals LL 5 = undef := by rw [hLe]; rfl
  have vv6 : vals LL 6 = undef := by rw [hLe]; rfl
  have vv7 : vals LL 7 = undef := by rw [hLe]; rfl
  have vv8 : vals LL 8 = .bool true := by rw [hLe]; rfl
  have vv9 : vals LL 9 = .bool true := by rw [hLe]; rfl
  have vv10 : vals LL 10 = undef := by rw [hLe]; rfl
  have vv11 : vals LL 11 = undef := by rw [hLe]; rfl
  have vv12 : vals LL 12 = undef := by rw [hLe]; rfl
  have vv13 : vals LL 13 = .bool true := by rw [hLe]; rfl
  have vv14 : vals LL 14 = .bool true := by rw [hLe]; rfl
  have vv15 : vals LL 15 = undef := by rw [hLe]; rfl
  have vv16 : vals LL 16 = undef := by rw [hLe]; rfl
  have vv17 : vals LL 17 = undef := by rw [hLe]; rfl
  have vv18 : vals LL 18 = undef := by rw [hLe]; rfl
  have vv19 : vals LL 19 = .bool true := by rw [hLe]; rfl
  have vv20 : vals LL 20 = .bool true := by rw [hLe]; rfl
  have vv21 : vals LL 21 = undef := by rw [hLe]; rfl
  have vv22 : vals LL 22 = undef := by rw [hLe]; rfl
  have vv23 : vals LL 23 = undef := by rw [hLe]; rfl
  have vv24 : vals LL 24 = undef := by rw [hLe]; rfl
  have vv25 : vals LL 25 = undef := by rw [hLe]; rfl
  have vv26 : vals LL 26 = undef := by rw [hLe]; rfl
  have vv27 : vals LL 27 = undef := by rw [hLe]; rfl
  have vv28 : vals LL 28 = undef := by rw [hLe]; rfl
  have vv29 : vals LL 29 = undef := by rw [hLe]; rfl
  have vv30 : vals LL 30 = undef := by rw [hLe]; rfl
  have vv31 : vals LL 31 = .bool true := by rw [hLe]; rfl
  refine region_laid hmix (by kernel_rfl) 128 hsz (by kernel_rfl) LL (by rw [hLe]; rfl) (fun _ W => Below w9.heap.size w9 W) below9 ?_ ?_
  · intro b W i o a hS hcl ho hb hd ev kp yl
    match i with
    | 0 =>
      simp only [List.getElem?_toArray, List.getElem?_cons_zero, Option.some.injEq] at ho
      subst ho
      have e1 : a.tmps[1]?.getD undef = .pointer (some ⟨g, 0, none⟩) := (kp 1 (by kernel_rfl)).trans b1
      rw [vv0]
      refine does_value rfl (by intro c h; cases h) (w' := W) ?_ (hS)
      · simp [execOp, go_sem, e1]
    | 1 =>
      simp only [List.getElem?_toArray, List.getElem?_cons_zero, List.getElem?_cons_succ, Option.some.injEq] at ho
      subst ho
      have p0 : b 0 = true := hd ⟨0, .data⟩ (by simp) rfl
      have e3 := (ev 0 3 rfl p0).trans vv0
      obtain ⟨d0, d1, d2, d3, d4, d5, d6, d7, d8, d9, d10⟩ := (h9.below hS).cells
      rw [vv1]
      refine does_value rfl (by intro c h; cases h) (w' := W) ?_ (hS)
      · simp [execOp, go_sem, e3, d0, d1]
    | 2 =>
      simp only [List.getElem?_toArray, List.getElem?_cons_zero, List.getElem?_cons_succ, Option.some.injEq] at ho
      subst ho
      have p1 : b 1 = true := hd ⟨1, .data⟩ (by simp) rfl
      have e4 := (ev 1 4 rfl p1).trans vv1
      rw [vv2]
      refine does_call rfl (by intro c h; cases h) (f := 40) (args := #[.agg #[.int .i64 t, .int .i64 n]]) ?_ ?_
      · simp [go_sem, e4]
      · exact (cV W hS).mono (fun e w' h => ⟨h.1, hS.trans (h.2.mono hS.size)⟩)
    | 3 =>
      simp only [List.getElem?_toArray, List.getElem?_cons_zero, List.getElem?_cons_succ, Option.some.injEq] at ho
      subst ho
      have p2 : b 2 = true := hd ⟨2, .data⟩ (by simp) rfl
      have e5 := (ev 2 5 rfl p2).trans vv2
      rw [vv3]
      refine does_value rfl (by intro c h; cases h) (w' := W) ?_ (hS)
      · simp [execOp, go_sem, e5]
    | 4 =>
      simp only [List.getElem?_toArray, List.getElem?_cons_zero, List.getElem?_cons_succ, Option.some.injEq] at ho
      subst ho
      have p3 : b 3 = true := hd ⟨3, .data⟩ (by simp) rfl
      have e6 := (ev 3 6 rfl p3).trans vv3
      rw [vv4]
      refine does_value rfl (by intro c h; cases h) (w' := W) ?_ (hS)
      · simp [execOp, go_sem, e6]
    | 5 =>
      simp only [List.getElem?_toArray, List.getElem?_cons_zero, List.getElem?_cons_succ, Option.some.injEq] at ho
      subst ho
      have p4 : b 4 = true := hd ⟨4, .guard⟩ (by simp) rfl
      exact does_pass rfl (yl 4 7 true rfl p4 vv4) (by decide) vv5 (hS)
    | 6 =>
      simp only [List.getElem?_toArray, List.getElem?_cons_zero, List.getElem?_cons_succ, Option.some.injEq] at ho
      subst ho
      have p5 : b 5 = true := hd ⟨5, .data⟩ (by simp) rfl
      have p4 : b 4 = true := hd ⟨4, .guard⟩ (by simp) rfl
      exact does_pass rfl (yl 4 7 true rfl p4 vv4) (by decide) vv6 (hS)
    | 7 =>
      simp only [List.getElem?_toArray, List.getElem?_cons_zero, List.getElem?_cons_succ, Option.some.injEq] at ho
      subst ho
      have p6 : b 6 = true := hd ⟨6, .data⟩ (by simp) rfl
      have p4 : b 4 = true := hd ⟨4, .guard⟩ (by simp) rfl
      exact does_pass rfl (yl 4 7 true rfl p4 vv4) (by decide) vv7 (hS)
    | 8 =>
      simp only [List.getElem?_toArray, List.getElem?_cons_zero, List.getElem?_cons_succ, Option.some.injEq] at ho
      subst ho
      have p4 : b 4 = true := hd ⟨4, .data⟩ (by simp) rfl
      have p7 : b 7 = true := hd ⟨7, .data⟩ (by simp) rfl
      have e7 := (ev 4 7 rfl p4).trans vv4
      rw [vv8]
      refine does_value rfl (by intro c h; cases h) (w' := W) ?_ (hS)
      · simp [execOp, go_sem, e7]
    | 9 =>
      simp only [List.getElem?_toArray, List.getElem?_cons_zero, List.getElem?_cons_succ, Option.some.injEq] at ho
      subst ho
      have p8 : b 8 = true := hd ⟨8, .data⟩ (by simp) rfl
      have e11 := (ev 8 11 rfl p8).trans vv8
      rw [vv9]
      refine does_value rfl (by intro c h; cases h) (w' := W) ?_ (hS)
      · simp [execOp, go_sem, e11]
    | 10 =>
      simp only [List.getElem?_toArray, List.getElem?_cons_zero, List.getElem?_cons_succ, Option.some.injEq] at ho
      subst ho
      have p9 : b 9 = true := hd ⟨9, .guard⟩ (by simp) rfl
      exact does_pass rfl (yl 9 12 true rfl p9 vv9) (by decide) vv10 (hS)
    | 11 =>
      simp only [List.getElem?_toArray, List.getElem?_cons_zero, List.getElem?_cons_succ, Option.some.injEq] at ho
      subst ho
      have p10 : b 10 = true := hd ⟨10, .data⟩ (by simp) rfl
      have p9 : b 9 = true := hd ⟨9, .guard⟩ (by simp) rfl
      exact does_pass rfl (yl 9 12 true rfl p9 vv9) (by decide) vv11 (hS)
    | 12 =>
      simp only [List.getElem?_toArray, List.getElem?_cons_zero, List.getElem?_cons_succ, Option.some.injEq] at ho
      subst ho
      have p11 : b 11 = true := hd ⟨11, .data⟩ (by simp) rfl
      have p9 : b 9 = true := hd ⟨9, .guard⟩ (by simp) rfl
      exact does_pass rfl (yl 9 12 true rfl p9 vv9) (by decide) vv12 (hS)
    | 13 =>
      simp only [List.getElem?_toArray, List.getElem?_cons_zero, List.getElem?_cons_succ, Option.some.injEq] at ho
      subst ho
      have p9 : b 9 = true := hd ⟨9, .data⟩ (by simp) rfl
      have p12 : b 12 = true := hd ⟨12, .data⟩ (by simp) rfl
      have e12 := (ev 9 12 rfl p9).trans vv9
      rw [vv13]
      refine does_value rfl (by intro c h; cases h) (w' := W) ?_ (hS)
      · simp [execOp, go_sem, e12]
    | 14 =>
      simp only [List.getElem?_toArray, List.getElem?_cons_zero, List.getElem?_cons_succ, Option.some.injEq] at ho
      subst ho
      have p13 : b 13 = true := hd ⟨13, .data⟩ (by simp) rfl
      have e16 := (ev 13 16 rfl p13).trans vv13
      rw [vv14]
      refine does_value rfl (by intro c h; cases h) (w' := W) ?_ (hS)
      · simp [execOp, go_sem, e16]
    | 15 =>
      simp only [List.getElem?_toArray, List.getElem?_cons_zero, List.getElem?_cons_succ, Option.some.injEq] at ho
      subst ho
      have p14 : b 14 = true := hd ⟨14, .guard⟩ (by simp) rfl
      exact does_pass rfl (yl 14 17 true rfl p14 vv14) (by decide) vv15 (hS)
    | 16 =>
      simp only [List.getElem?_toArray, List.getElem?_cons_zero, List.getElem?_cons_succ, Option.some.injEq] at ho
      subst ho
      have p15 : b 15 = true := hd ⟨15, .data⟩ (by simp) rfl
      have p14 : b 14 = true := hd ⟨14, .guard⟩ (by simp) rfl
      exact does_pass rfl (yl 14 17 true rfl p14 vv14) (by decide) vv16 (hS)
    | 17 =>
      simp only [List.getElem?_toArray, List.getElem?_cons_zero, List.getElem?_cons_succ, Option.some.injEq] at ho
      subst ho
      have p16 : b 16 = true := hd ⟨16, .data⟩ (by simp) rfl
      have p14 : b 14 = true := hd ⟨14, .guard⟩ (by simp) rfl
      exact does_pass rfl (yl 14 17 true rfl p14 vv14) (by decide) vv17 (hS)
    | 18 =>
      simp only [List.getElem?_toArray, List.getElem?_cons_zero, List.getElem?_cons_succ, Option.some.injEq] at ho
      subst ho
      have p17 : b 17 = true := hd ⟨17, .data⟩ (by simp) rfl
      have p14 : b 14 = true := hd ⟨14, .guard⟩ (by simp) rfl
      exact does_pass rfl (yl 14 17 true rfl p14 vv14) (by decide) vv18 (hS)
    | 19 =>
      simp only [List.getElem?_toArray, List.getElem?_cons_zero, List.getElem?_cons_succ, Option.some.injEq] at ho
      subst ho
      have p14 : b 14 = true := hd ⟨14, .data⟩ (by simp) rfl
      have p18 : b 18 = true := hd ⟨18, .data⟩ (by simp) rfl
      have e17 := (ev 14 17 rfl p14).trans vv14
      rw [vv19]
      refine does_value rfl (by intro c h; cases h) (w' := W) ?_ (hS)
      · simp [execOp, go_sem, e17]
    | 20 =>
      simp only [List.getElem?_toArray, List.getElem?_cons_zero, List.getElem?_cons_succ, Option.some.injEq] at ho
      subst ho
      have p19 : b 19 = true := hd ⟨19, .data⟩ (by simp) rfl
      have e22 := (ev 19 22 rfl p19).trans vv19
      rw [vv20]
      refine does_value rfl (by intro c h; cases h) (w' := W) ?_ (hS)
      · simp [execOp, go_sem, e22]
    | 21 =>
      simp only [List.getElem?_toArray, List.getElem?_cons_zero, List.getElem?_cons_succ, Option.some.injEq] at ho
      subst ho
      have p20 : b 20 = true := hd ⟨20, .guard⟩ (by simp) rfl
      exact does_pass rfl (yl 20 23 true rfl p20 vv20) (by decide) vv21 (hS)
    | 22 =>
      simp only [List.getElem?_toArray, List.getElem?_cons_zero, List.getElem?_cons_succ, Option.some.injEq] at ho
      subst ho
      have p21 : b 21 = true := hd ⟨21, .data⟩ (by simp) rfl
      have p20 : b 20 = true := hd ⟨20, .guard⟩ (by simp) rfl
      exact does_pass rfl (yl 20 23 true rfl p20 vv20) (by decide) vv22 (hS)
    | 23 =>
      simp only [List.getElem?_toArray, List.getElem?_cons_zero, List.getElem?_cons_succ, Option.some.injEq] at ho
      subst ho
      have p20 : b 20 = true := hd ⟨20, .guard⟩ (by simp) rfl
      exact does_pass rfl (yl 20 23 true rfl p20 vv20) (by decide) vv23 (hS)
    | 24 =>
      simp only [List.getElem?_toArray, List.getElem?_cons_zero, List.getElem?_cons_succ, Option.some.injEq] at ho
      subst ho
      have p23 : b 23 = true := hd ⟨23, .data⟩ (by simp) rfl
      have p20 : b 20 = true := hd ⟨20, .guard⟩ (by simp) rfl
      exact does_pass rfl (yl 20 23 true rfl p20 vv20) (by decide) vv24 (hS)
    | 25 =>
      simp only [List.getElem?_toArray, List.getElem?_cons_zero, List.getElem?_cons_succ, Option.some.injEq] at ho
      subst ho
      have p24 : b 24 = true := hd ⟨24, .data⟩ (by simp) rfl
      have p20 : b 20 = true := hd ⟨20, .guard⟩ (by simp) rfl
      exact does_pass rfl (yl 20 23 true rfl p20 vv20) (by decide) vv25 (hS)
    | 26 =>
      simp only [List.getElem?_toArray, List.getElem?_cons_zero, List.getElem?_cons_succ, Option.some.injEq] at ho
      subst ho
      have p22 : b 22 = true := hd ⟨22, .data⟩ (by simp) rfl
      have p25 : b 25 = true := hd ⟨25, .data⟩ (by simp) rfl
      have p20 : b 20 = true := hd ⟨20, .guard⟩ (by simp) rfl
      exact does_pass rfl (yl 20 23 true rfl p20 vv20) (by decide) vv26 (hS)
    | 27 =>
      simp only [List.getElem?_toArray, List.getElem?_cons_zero, List.getElem?_cons_succ, Option.some.injEq] at ho
      subst ho
      have p20 : b 20 = true := hd ⟨20, .guard⟩ (by simp) rfl
      exact does_pass rfl (yl 20 23 true rfl p20 vv20) (by decide) vv27 (hS)
    | 28 =>
      simp only [List.getElem?_toArray, List.getElem?_cons_zero, List.getElem?_cons_succ, Option.some.injEq] at ho
      subst ho
      have p27 : b 27 = true := hd ⟨27, .data⟩ (by simp) rfl
      have p20 : b 20 = true := hd ⟨20, .guard⟩ (by simp) rfl
      exact does_pass rfl (yl 20 23 true rfl p20 vv20) (by decide) vv28 (hS)
    | 29 =>
      simp only [List.getElem?_toArray, List.getElem?_cons_zero, List.getElem?_cons_succ, Option.some.injEq] at ho
      subst ho
      have p28 : b 28 = true := hd ⟨28, .data⟩ (by simp) rfl
      have p20 : b 20 = true := hd ⟨20, .guard⟩ (by simp) rfl
      exact does_pass rfl (yl 20 23 true rfl p20 vv20) (by decide) vv29 (hS)
    | 30 =>
      simp only [List.getElem?_toArray, List.getElem?_cons_zero, List.getElem?_cons_succ, Option.some.injEq] at ho
      subst ho
      have p26 : b 26 = true := hd ⟨26, .data⟩ (by simp) rfl
      have p29 : b 29 = true := hd ⟨29, .data⟩ (by simp) rfl
      have p20 : b 20 = true := hd ⟨20, .guard⟩ (by simp) rfl
      exact does_pass rfl (yl 20 23 true rfl p20 vv20) (by decide) vv30 (hS)
    | 31 =>
      simp only [List.getElem?_toArray, List.getElem?_cons_zero, List.getElem?_cons_succ, Option.some.injEq] at ho
      subst ho
      have p20 : b 20 = true := hd ⟨20, .data⟩ (by simp) rfl
      have p30 : b 30 = true := hd ⟨30, .data⟩ (by simp) rfl
      have e23 := (ev 20 23 rfl p20).trans vv20
      rw [vv31]
      refine does_value rfl (by intro c h; cases h) (w' := W) ?_ (hS)
      · simp [execOp, go_sem, e23]
    | k + 32 => simp at ho
  · intro b' W hS _
    subst hLe
    exact hQ W hS

set_option maxRecDepth 8000 in
set_option maxHeartbeats 4000000 in
theorem rmay_low {Q : Exit → Act → World → Prop} {base : Array Value} {dd : List Deferred} {ops : Array Oper} (hops : Try.f24.body.bind (regs 1) = some ops) (g : Nat) (t n sq kd ot on pt pn : Int) (nm : List UInt8) (p q : Option Addr) (l c m d : Nat) (w9 : World) (hsz : base.size = 128)
    (b1 : base.getD 1 undef = .pointer (some ⟨g, 0, none⟩)) (h9 : OpB w9 g t n sq kd ot on pt pn nm p q l c m d)
    (cV : ∀ W, Below w9.heap.size w9 W → Calls Try.prog 40 #[.agg #[.int .i64 t, .int .i64 n]] W fun e w' => e = .returned (.bool true) ∧ Below W.heap.size W w')
    (h1 : sq < 1)
    (hQ : ∀ W, Below w9.heap.size w9 W → Q .normal ⟨putAll base [(some 3, .pointer (some ⟨g, 0, none⟩)), (some 4, .agg #[.int .i64 t, .int .i64 n]), (some 5, .bool true), (some 6, .bool false), (some 7, .bool false), (some 8, .pointer (some ⟨g, 2, none⟩)), (some 9, .int .i64 sq), (some 10, .bool true), (some 11, .bool true), (some 12, .bool true), (some 13, undef), (some 14, undef), (some 15, undef), (some 16, .bool true), (some 17, .bool true), (some 18, undef), (some 19, undef), (some 20, undef), (some 21, undef), (some 22, .bool true), (some 23, .bool true), (some 24, undef), (some 25, undef), (some 26, undef), (some 27, undef), (some 28, undef), (some 29, undef), (some 30, undef), (some 31, undef), (some 32, undef), (some 33, undef), (some 34, .bool true)], dd⟩ W) :
    (Code.region 1 ops true).wp Try.prog Q ⟨base, dd⟩ w9 := by
  have hmix : Try.prog.follows .mixedOrders = true := by kernel_rfl
  have h2 := (show Try.f24.body.bind (regs 1) = some _ from rfl).symm.trans hops
  obtain rfl := Option.some.inj h2
  clear h2 hops
  have below9 : Below w9.heap.size w9 w9.drew := (Below.refl _ _).drew
  obtain ⟨LL, hLe⟩ : ∃ LL : List (Option Tmp × Value), LL = [(some 3, .pointer (some ⟨g, 0, none⟩)), (some 4, .agg #[.int .i64 t, .int .i64 n]), (some 5, .bool true), (some 6, .bool false), (some 7, .bool false), (some 8, .pointer (some ⟨g, 2, none⟩)), (some 9, .int .i64 sq), (some 10, .bool true), (some 11, .bool true), (some 12, .bool true), (some 13, undef), (some 14, undef), (some 15, undef), (some 16, .bool true), (some 17, .bool true), (some 18, undef), (some 19, undef), (some 20, undef), (some 21, undef), (some 22, .bool true), (some 23, .bool true), (some 24, undef), (some 25, undef), (some 26, undef), (some 27, undef), (some 28, undef), (some 29, undef), (some 30, undef), (some 31, undef), (some 32, undef), (some 33, undef), (some 34, .bool true)] := ⟨_, rfl⟩
  have vv0 : vals LL 0 = .pointer (some ⟨g, 0, none⟩) := by rw [hLe]; rfl
  have vv1 : vals LL 1 = .agg #[.int .i64 t, .int .i64 n] := by rw [hLe]; rfl
  have vv2 : vals LL 2 = .bool true := by rw [hLe]; rfl
  have vv3 : vals LL 3 = .bool false := by rw [hLe]; rfl
  have vv4 : vals LL 4 = .bool false := by rw [hLe]; rfl
  have vv5 : vals LL 5 = .pointer (some ⟨g, 2, none⟩) := by rw [hLe]; rfl
  have vv6 : vals LL 6 = .int .i64 sq := by rw [hLe]; rfl
  have vv7 : vals LL 7 = .bool true := by rw [hLe]; rfl
  have vv8 : vals LL 8 = .bool true := by rw [hLe]; rfl
  have vv9 : vals LL 9 = .bool true := by rw [hLe]; rfl
  have vv10 : vals LL 10 = undef := by rw [hLe]; rfl
  have vv11 : vals LL 11 = undef := by rw [hLe]; rfl
  have vv12 : vals LL 12 = undef := by rw [hLe]; rfl
  have vv13 : vals LL 13 = .bool true := by rw [hLe]; rfl
  have vv14 : vals LL 14 = .bool true := by rw [hLe]; rfl
  have vv15 : vals LL 15 = undef := by rw [hLe]; rfl
  have vv16 : vals LL 16 = undef := by rw [hLe]; rfl
  have vv17 : vals LL 17 = undef := by rw [hLe]; rfl
  have vv18 : vals LL 18 = undef := by rw [hLe]; rfl
  have vv19 : vals LL 19 = .bool true := by rw [hLe]; rfl
  have vv20 : vals LL 20 = .bool true := by rw [hLe]; rfl
  have vv21 : vals LL 21 = undef := by rw [hLe]; rfl
  have vv22 : vals LL 22 = undef := by rw [hLe]; rfl
  have vv23 : vals LL 23 = undef := by rw [hLe]; rfl
  have vv24 : vals LL 24 = undef := by rw [hLe]; rfl
  have vv25 : vals LL 25 = undef := by rw [hLe]; rfl
  have vv26 : vals LL 26 = undef := by rw [hLe]; rfl
  have vv27 : vals LL 27 = undef := by rw [hLe]; rfl
  have vv28 : vals LL 28 = undef := by rw [hLe]; rfl
  have vv29 : vals LL 29 = undef := by rw [hLe]; rfl
  have vv30 : vals LL 30 = undef := by rw [hLe]; rfl
  have vv31 : vals LL 31 = .bool true := by rw [hLe]; rfl
  refine region_laid hmix (by kernel_rfl) 128 hsz (by kernel_rfl) LL (by rw [hLe]; rfl) (fun _ W => Below w9.heap.size w9 W) below9 ?_ ?_
  · intro b W i o a hS hcl ho hb hd ev kp yl
    match i with
    | 0 =>
      simp only [List.getElem?_toArray, List.getElem?_cons_zero, Option.some.injEq] at ho
      subst ho
      have e1 : a.tmps[1]?.getD undef = .pointer (some ⟨g, 0, none⟩) := (kp 1 (by kernel_rfl)).trans b1
      rw [vv0]
      refine does_value rfl (by intro c h; cases h) (w' := W) ?_ (hS)
      · simp [execOp, go_sem, e1]
    | 1 =>
      simp only [List.getElem?_toArray, List.getElem?_cons_zero, List.getElem?_cons_succ, Option.some.injEq] at ho
      subst ho
      have p0 : b 0 = true := hd ⟨0, .data⟩ (by simp) rfl
      have e3 := (ev 0 3 rfl p0).trans vv0
      obtain ⟨d0, d1, d2, d3, d4, d5, d6, d7, d8, d9, d10⟩ := (h9.below hS).cells
      rw [vv1]
      refine does_value rfl (by intro c h; cases h) (w' := W) ?_ (hS)
      · simp [execOp, go_sem, e3, d0, d1]
    | 2 =>
      simp only [List.getElem?_toArray, List.getElem?_cons_zero, List.getElem?_cons_succ, Option.some.injEq] at ho
      subst ho
      have p1 : b 1 = true := hd ⟨1, .data⟩ (by simp) rfl
      have e4 := (ev 1 4 rfl p1).trans vv1
      rw [vv2]
      refine does_call rfl (by intro c h; cases h) (f := 40) (args := #[.agg #[.int .i64 t, .int .i64 n]]) ?_ ?_
      · simp [go_sem, e4]
      · exact (cV W hS).mono (fun e w' h => ⟨h.1, hS.trans (h.2.mono hS.size)⟩)
    | 3 =>
      simp only [List.getElem?_toArray, List.getElem?_cons_zero, List.getElem?_cons_succ, Option.some.injEq] at ho
      subst ho
      have p2 : b 2 = true := hd ⟨2, .data⟩ (by simp) rfl
      have e5 := (ev 2 5 rfl p2).trans vv2
      rw [vv3]
      refine does_value rfl (by intro c h; cases h) (w' := W) ?_ (hS)
      · simp [execOp, go_sem, e5]
    | 4 =>
      simp only [List.getElem?_toArray, List.getElem?_cons_zero, List.getElem?_cons_succ, Option.some.injEq] at ho
      subst ho
      have p3 : b 3 = true := hd ⟨3, .data⟩ (by simp) rfl
      have e6 := (ev 3 6 rfl p3).trans vv3
      rw [vv4]
      refine does_value rfl (by intro c h; cases h) (w' := W) ?_ (hS)
      · simp [execOp, go_sem, e6]
    | 5 =>
      simp only [List.getElem?_toArray, List.getElem?_cons_zero, List.getElem?_cons_succ, Option.some.injEq] at ho
      subst ho
      have p4 : b 4 = true := hd ⟨4, .guard⟩ (by simp) rfl
      have e1 : a.tmps[1]?.getD undef = .pointer (some ⟨g, 0, none⟩) := (kp 1 (by kernel_rfl)).trans b1
      rw [vv5]
      refine does_value_g rfl (yl 4 7 false rfl p4 vv4) (by intro c h; cases h) (w' := W) ?_ (hS)
      · simp [execOp, go_sem, e1]
    | 6 =>
      simp only [List.getElem?_toArray, List.getElem?_cons_zero, List.getElem?_cons_succ, Option.some.injEq] at ho
      subst ho
      have p5 : b 5 = true := hd ⟨5, .data⟩ (by simp) rfl
      have p4 : b 4 = true := hd ⟨4, .guard⟩ (by simp) rfl
      have e8 := (ev 5 8 rfl p5).trans vv5
      obtain ⟨d0, d1, d2, d3, d4, d5, d6, d7, d8, d9, d10⟩ := (h9.below hS).cells
      rw [vv6]
      refine does_value_g rfl (yl 4 7 false rfl p4 vv4) (by intro c h; cases h) (w' := W) ?_ (hS)
      · simp [execOp, go_sem, e8, d2]
    | 7 =>
      simp only [List.getElem?_toArray, List.getElem?_cons_zero, List.getElem?_cons_succ, Option.some.injEq] at ho
      subst ho
      have p6 : b 6 = true := hd ⟨6, .data⟩ (by simp) rfl
      have p4 : b 4 = true := hd ⟨4, .guard⟩ (by simp) rfl
      have e9 := (ev 6 9 rfl p6).trans vv6
      rw [vv7]
      refine does_value_g rfl (yl 4 7 false rfl p4 vv4) (by intro c h; cases h) (w' := W) ?_ (hS)
      · simp [execOp, go_sem, e9, h1]
    | 8 =>
      simp only [List.getElem?_toArray, List.getElem?_cons_zero, List.getElem?_cons_succ, Option.some.injEq] at ho
      subst ho
      have p4 : b 4 = true := hd ⟨4, .data⟩ (by simp) rfl
      have p7 : b 7 = true := hd ⟨7, .data⟩ (by simp) rfl
      have e7 := (ev 4 7 rfl p4).trans vv4
      have e10 := (ev 7 10 rfl p7).trans vv7
      rw [vv8]
      refine does_value rfl (by intro c h; cases h) (w' := W) ?_ (hS)
      · simp [execOp, go_sem, e7, e10]
    | 9 =>
      simp only [List.getElem?_toArray, List.getElem?_cons_zero, List.getElem?_cons_succ, Option.some.injEq] at ho
      subst ho
      have p8 : b 8 = true := hd ⟨8, .data⟩ (by simp) rfl
      have e11 := (ev 8 11 rfl p8).trans vv8
      rw [vv9]
      refine does_value rfl (by intro c h; cases h) (w' := W) ?_ (hS)
      · simp [execOp, go_sem, e11]
    | 10 =>
      simp only [List.getElem?_toArray, List.getElem?_cons_zero, List.getElem?_cons_succ, Option.some.injEq] at ho
      subst ho
      have p9 : b 9 = true := hd ⟨9, .guard⟩ (by simp) rfl
      exact does_pass rfl (yl 9 12 true rfl p9 vv9) (by decide) vv10 (hS)
    | 11 =>
      simp only [List.getElem?_toArray, List.getElem?_cons_zero, List.getElem?_cons_succ, Option.some.injEq] at ho
      subst ho
      have p10 : b 10 = true := hd ⟨10, .data⟩ (by simp) rfl
      have p9 : b 9 = true := hd ⟨9, .guard⟩ (by simp) rfl
      exact does_pass rfl (yl 9 12 true rfl p9 vv9) (by decide) vv11 (hS)
    | 12 =>
      simp only [List.getElem?_toArray, List.getElem?_cons_zero, List.getElem?_cons_succ, Option.some.injEq] at ho
      subst ho
      have p11 : b 11 = true := hd ⟨11, .data⟩ (by simp) rfl
      have p9 : b 9 = true := hd ⟨9, .guard⟩ (by simp) rfl
      exact does_pass rfl (yl 9 12 true rfl p9 vv9) (by decide) vv12 (hS)
    | 13 =>
      simp only [List.getElem?_toArray, List.getElem?_cons_zero, List.getElem?_cons_succ, Option.some.injEq] at ho
      subst ho
      have p9 : b 9 = true := hd ⟨9, .data⟩ (by simp) rfl
      have p12 : b 12 = true := hd ⟨12, .data⟩ (by simp) rfl
      have e12 := (ev 9 12 rfl p9).trans vv9
      rw [vv13]
      refine does_value rfl (by intro c h; cases h) (w' := W) ?_ (hS)
      · simp [execOp, go_sem, e12]
    | 14 =>
      simp only [List.getElem?_toArray, List.getElem?_cons_zero, List.getElem?_cons_succ, Option.some.injEq] at ho
      subst ho
      have p13 : b 13 = true := hd ⟨13, .data⟩ (by simp) rfl
      have e16 := (ev 13 16 rfl p13).trans vv13
      rw [vv14]
      refine does_value rfl (by intro c h; cases h) (w' := W) ?_ (hS)
      · simp [execOp, go_sem, e16]
    | 15 =>
      simp only [List.getElem?_toArray, List.getElem?_cons_zero, List.getElem?_cons_succ, Option.some.injEq] at ho
      subst ho
      have p14 : b 14 = true := hd ⟨14, .guard⟩ (by simp) rfl
      exact does_pass rfl (yl 14 17 true rfl p14 vv14) (by decide) vv15 (hS)
    | 16 =>
      simp only [List.getElem?_toArray, List.getElem?_cons_zero, List.getElem?_cons_succ, Option.some.injEq] at ho
      subst ho
      have p15 : b 15 = true := hd ⟨15, .data⟩ (by simp) rfl
      have p14 : b 14 = true := hd ⟨14, .guard⟩ (by simp) rfl
      exact does_pass rfl (yl 14 17 true rfl p14 vv14) (by decide) vv16 (hS)
    | 17 =>
      simp only [List.getElem?_toArray, List.getElem?_cons_zero, List.getElem?_cons_succ, Option.some.injEq] at ho
      subst ho
      have p16 : b 16 = true := hd ⟨16, .data⟩ (by simp) rfl
      have p14 : b 14 = true := hd ⟨14, .guard⟩ (by simp) rfl
      exact does_pass rfl (yl 14 17 true rfl p14 vv14) (by decide) vv17 (hS)
    | 18 =>
      simp only [List.getElem?_toArray, List.getElem?_cons_zero, List.getElem?_cons_succ, Option.some.injEq] at ho
      subst ho
      have p17 : b 17 = true := hd ⟨17, .data⟩ (by simp) rfl
      have p14 : b 14 = true := hd ⟨14, .guard⟩ (by simp) rfl
      exact does_pass rfl (yl 14 17 true rfl p14 vv14) (by decide) vv18 (hS)
    | 19 =>
      simp only [List.getElem?_toArray, List.getElem?_cons_zero, List.getElem?_cons_succ, Option.some.injEq] at ho
      subst ho
      have p14 : b 14 = true := hd ⟨14, .data⟩ (by simp) rfl
      have p18 : b 18 = true := hd ⟨18, .data⟩ (by simp) rfl
      have e17 := (ev 14 17 rfl p14).trans vv14
      rw [vv19]
      refine does_value rfl (by intro c h; cases h) (w' := W) ?_ (hS)
      · simp [execOp, go_sem, e17]
    | 20 =>
      simp only [List.getElem?_toArray, List.getElem?_cons_zero, List.getElem?_cons_succ, Option.some.injEq] at ho
      subst ho
      have p19 : b 19 = true := hd ⟨19, .data⟩ (by simp) rfl
      have e22 := (ev 19 22 rfl p19).trans vv19
      rw [vv20]
      refine does_value rfl (by intro c h; cases h) (w' := W) ?_ (hS)
      · simp [execOp, go_sem, e22]
    | 21 =>
      simp only [List.getElem?_toArray, List.getElem?_cons_zero, List.getElem?_cons_succ, Option.some.injEq] at ho
      subst ho
      have p20 : b 20 = true := hd ⟨20, .guard⟩ (by simp) rfl
      exact does_pass rfl (yl 20 23 true rfl p20 vv20) (by decide) vv21 (hS)
    | 22 =>
      simp only [List.getElem?_toArray, List.getElem?_cons_zero, List.getElem?_cons_succ, Option.some.injEq] at ho
      subst ho
      have p21 : b 21 = true := hd ⟨21, .data⟩ (by simp) rfl
      have p20 : b 20 = true := hd ⟨20, .guard⟩ (by simp) rfl
      exact does_pass rfl (yl 20 23 true rfl p20 vv20) (by decide) vv22 (hS)
    | 23 =>
      simp only [List.getElem?_toArray, List.getElem?_cons_zero, List.getElem?_cons_succ, Option.some.injEq] at ho
      subst ho
      have p20 : b 20 = true := hd ⟨20, .guard⟩ (by simp) rfl
      exact does_pass rfl (yl 20 23 true rfl p20 vv20) (by decide) vv23 (hS)
    | 24 =>
      simp only [List.getElem?_toArray, List.getElem?_cons_zero, List.getElem?_cons_succ, Option.some.injEq] at ho
      subst ho
      have p23 : b 23 = true := hd ⟨23, .data⟩ (by simp) rfl
      have p20 : b 20 = true := hd ⟨20, .guard⟩ (by simp) rfl
      exact does_pass rfl (yl 20 23 true rfl p20 vv20) (by decide) vv24 (hS)
    | 25 =>
      simp only [List.getElem?_toArray, List.getElem?_cons_zero, List.getElem?_cons_succ, Option.some.injEq] at ho
      subst ho
      have p24 : b 24 = true := hd ⟨24, .data⟩ (by simp) rfl
      have p20 : b 20 = true := hd ⟨20, .guard⟩ (by simp) rfl
      exact does_pass rfl (yl 20 23 true rfl p20 vv20) (by decide) vv25 (hS)
    | 26 =>
      simp only [List.getElem?_toArray, List.getElem?_cons_zero, List.getElem?_cons_succ, Option.some.injEq] at ho
      subst ho
      have p22 : b 22 = true := hd ⟨22, .data⟩ (by simp) rfl
      have p25 : b 25 = true := hd ⟨25, .data⟩ (by simp) rfl
      have p20 : b 20 = true := hd ⟨20, .guard⟩ (by simp) rfl
      exact does_pass rfl (yl 20 23 true rfl p20 vv20) (by decide) vv26 (hS)
    | 27 =>
      simp only [List.getElem?_toArray, List.getElem?_cons_zero, List.getElem?_cons_succ, Option.some.injEq] at ho
      subst ho
      have p20 : b 20 = true := hd ⟨20, .guard⟩ (by simp) rfl
      exact does_pass rfl (yl 20 23 true rfl p20 vv20) (by decide) vv27 (hS)
    | 28 =>
      simp only [List.getElem?_toArray, List.getElem?_cons_zero, List.getElem?_cons_succ, Option.some.injEq] at ho
      subst ho
      have p27 : b 27 = true := hd ⟨27, .data⟩ (by simp) rfl
      have p20 : b 20 = true := hd ⟨20, .guard⟩ (by simp) rfl
      exact does_pass rfl (yl 20 23 true rfl p20 vv20) (by decide) vv28 (hS)
    | 29 =>
      simp only [List.getElem?_toArray, List.getElem?_cons_zero, List.getElem?_cons_succ, Option.some.injEq] at ho
      subst ho
      have p28 : b 28 = true := hd ⟨28, .data⟩ (by simp) rfl
      have p20 : b 20 = true := hd ⟨20, .guard⟩ (by simp) rfl
      exact does_pass rfl (yl 20 23 true rfl p20 vv20) (by decide) vv29 (hS)
    | 30 =>
      simp only [List.getElem?_toArray, List.getElem?_cons_zero, List.getElem?_cons_succ, Option.some.injEq] at ho
      subst ho
      have p26 : b 26 = true := hd ⟨26, .data⟩ (by simp) rfl
      have p29 : b 29 = true := hd ⟨29, .data⟩ (by simp) rfl
      have p20 : b 20 = true := hd ⟨20, .guard⟩ (by simp) rfl
      exact does_pass rfl (yl 20 23 true rfl p20 vv20) (by decide) vv30 (hS)
    | 31 =>
      simp only [List.getElem?_toArray, List.getElem?_cons_zero, List.getElem?_cons_succ, Option.some.injEq] at ho
      subst ho
      have p20 : b 20 = true := hd ⟨20, .data⟩ (by simp) rfl
      have p30 : b 30 = true := hd ⟨30, .data⟩ (by simp) rfl
      have e23 := (ev 20 23 rfl p20).trans vv20
      rw [vv31]
      refine does_value rfl (by intro c h; cases h) (w' := W) ?_ (hS)
      · simp [execOp, go_sem, e23]
    | k + 32 => simp at ho
  · intro b' W hS _
    subst hLe
    exact hQ W hS

set_option maxRecDepth 8000 in
set_option maxHeartbeats 4000000 in
theorem rmay_high {Q : Exit → Act → World → Prop} {base : Array Value} {dd : List Deferred} {ops : Array Oper} (hops : Try.f24.body.bind (regs 1) = some ops) (g : Nat) (t n sq kd ot on pt pn : Int) (nm : List UInt8) (p q : Option Addr) (l c m d : Nat) (w9 : World) (hsz : base.size = 128)
    (b1 : base.getD 1 undef = .pointer (some ⟨g, 0, none⟩)) (h9 : OpB w9 g t n sq kd ot on pt pn nm p q l c m d)
    (cV : ∀ W, Below w9.heap.size w9 W → Calls Try.prog 40 #[.agg #[.int .i64 t, .int .i64 n]] W fun e w' => e = .returned (.bool true) ∧ Below W.heap.size W w')
    (h1 : ¬ sq < 1) (h2 : 1152921504606846976 < sq)
    (hQ : ∀ W, Below w9.heap.size w9 W → Q .normal ⟨putAll base [(some 3, .pointer (some ⟨g, 0, none⟩)), (some 4, .agg #[.int .i64 t, .int .i64 n]), (some 5, .bool true), (some 6, .bool false), (some 7, .bool false), (some 8, .pointer (some ⟨g, 2, none⟩)), (some 9, .int .i64 sq), (some 10, .bool false), (some 11, .bool false), (some 12, .bool false), (some 13, .pointer (some ⟨g, 2, none⟩)), (some 14, .int .i64 sq), (some 15, .bool true), (some 16, .bool true), (some 17, .bool true), (some 18, undef), (some 19, undef), (some 20, undef), (some 21, undef), (some 22, .bool true), (some 23, .bool true), (some 24, undef), (some 25, undef), (some 26, undef), (some 27, undef), (some 28, undef), (some 29, undef), (some 30, undef), (some 31, undef), (some 32, undef), (some 33, undef), (some 34, .bool true)], dd⟩ W) :
    (Code.region 1 ops true).wp Try.prog Q ⟨base, dd⟩ w9 := by
  have hmix : Try.prog.follows .mixedOrders = true := by kernel_rfl
  have h2 := (show Try.f24.body.bind (regs 1) = some _ from rfl).symm.trans hops
  obtain rfl := Option.some.inj h2
  clear h2 hops
  have below9 : Below w9.heap.size w9 w9.drew := (Below.refl _ _).drew
  obtain ⟨LL, hLe⟩ : ∃ LL : List (Option Tmp × Value), LL = [(some 3, .pointer (some ⟨g, 0, none⟩)), (some 4, .agg #[.int .i64 t, .int .i64 n]), (some 5, .bool true), (some 6, .bool false), (some 7, .bool false), (some 8, .pointer (some ⟨g, 2, none⟩)), (some 9, .int .i64 sq), (some 10, .bool false), (some 11, .bool false), (some 12, .bool false), (some 13, .pointer (some ⟨g, 2, none⟩)), (some 14, .int .i64 sq), (some 15, .bool true), (some 16, .bool true), (some 17, .bool true), (some 18, undef), (some 19, undef), (some 20, undef), (some 21, undef), (some 22, .bool true), (some 23, .bool true), (some 24, undef), (some 25, undef), (some 26, undef), (some 27, undef), (some 28, undef), (some 29, undef), (some 30, undef), (some 31, undef), (some 32, undef), (some 33, undef), (some 34, .bool true)] := ⟨_, rfl⟩
  have vv0 : vals LL 0 = .pointer (some ⟨g, 0, none⟩) := by rw [hLe]; rfl
  have vv1 : vals LL 1 = .agg #[.int .i64 t, .int .i64 n] := by rw [hLe]; rfl
  have vv2 : vals LL 2 = .bool true := by rw [hLe]; rfl
  have vv3 : vals LL 3 = .bool false := by rw [hLe]; rfl
  have vv4 : vals LL 4 = .bool false := by rw [hLe]; rfl
  have vv5 : vals LL 5 = .pointer (some ⟨g, 2, none⟩) := by rw [hLe]; rfl
  have vv6 : vals LL 6 = .int .i64 sq := by rw [hLe]; rfl
  have vv7 : vals LL 7 = .bool false := by rw [hLe]; rfl
  have vv8 : vals LL 8 = .bool false := by rw [hLe]; rfl
  have vv9 : vals LL 9 = .bool false := by rw [hLe]; rfl
  have vv10 : vals LL 10 = .pointer (some ⟨g, 2, none⟩) := by rw [hLe]; rfl
  have vv11 : vals LL 11 = .int .i64 sq := by rw [hLe]; rfl
  have vv12 : vals LL 12 = .bool true := by rw [hLe]; rfl
  have vv13 : vals LL 13 = .bool true := by rw [hLe]; rfl
  have vv14 : vals LL 14 = .bool true := by rw [hLe]; rfl
  have vv15 : vals LL 15 = undef := by rw [hLe]; rfl
  have vv16 : vals LL 16 = undef := by rw [hLe]; rfl
  have vv17 : vals LL 17 = undef := by rw [hLe]; rfl
  have vv18 : vals LL 18 = undef := by rw [hLe]; rfl
  have vv19 : vals LL 19 = .bool true := by rw [hLe]; rfl
  have vv20 : vals LL 20 = .bool true := by rw [hLe]; rfl
  have vv21 : vals LL 21 = undef := by rw [hLe]; rfl
  have vv22 : vals LL 22 = undef := by rw [hLe]; rfl
  have vv23 : vals LL 23 = undef := by rw [hLe]; rfl
  have vv24 : vals LL 24 = undef := by rw [hLe]; rfl
  have vv25 : vals LL 25 = undef := by rw [hLe]; rfl
  have vv26 : vals LL 26 = undef := by rw [hLe]; rfl
  have vv27 : vals LL 27 = undef := by rw [hLe]; rfl
  have vv28 : vals LL 28 = undef := by rw [hLe]; rfl
  have vv29 : vals LL 29 = undef := by rw [hLe]; rfl
  have vv30 : vals LL 30 = undef := by rw [hLe]; rfl
  have vv31 : vals LL 31 = .bool true := by rw [hLe]; rfl
  refine region_laid hmix (by kernel_rfl) 128 hsz (by kernel_rfl) LL (by rw [hLe]; rfl) (fun _ W => Below w9.heap.size w9 W) below9 ?_ ?_
  · intro b W i o a hS hcl ho hb hd ev kp yl
    match i with
    | 0 =>
      simp only [List.getElem?_toArray, List.getElem?_cons_zero, Option.some.injEq] at ho
      subst ho
      have e1 : a.tmps[1]?.getD undef = .pointer (some ⟨g, 0, none⟩) := (kp 1 (by kernel_rfl)).trans b1
      rw [vv0]
      refine does_value rfl (by intro c h; cases h) (w' := W) ?_ (hS)
      · simp [execOp, go_sem, e1]
    | 1 =>
      simp only [List.getElem?_toArray, List.getElem?_cons_zero, List.getElem?_cons_succ, Option.some.injEq] at ho
      subst ho
      have p0 : b 0 = true := hd ⟨0, .data⟩ (by simp) rfl
      have e3 := (ev 0 3 rfl p0).trans vv0
      obtain ⟨d0, d1, d2, d3, d4, d5, d6, d7, d8, d9, d10⟩ := (h9.below hS).cells
      rw [vv1]
      refine does_value rfl (by intro c h; cases h) (w' := W) ?_ (hS)
      · simp [execOp, go_sem, e3, d0, d1]
    | 2 =>
      simp only [List.getElem?_toArray, List.getElem?_cons_zero, List.getElem?_cons_succ, Option.some.injEq] at ho
      subst ho
      have p1 : b 1 = true := hd ⟨1, .data⟩ (by simp) rfl
      have e4 := (ev 1 4 rfl p1).trans vv1
      rw [vv2]
      refine does_call rfl (by intro c h; cases h) (f := 40) (args := #[.agg #[.int .i64 t, .int .i64 n]]) ?_ ?_
      · simp [go_sem, e4]
      · exact (cV W hS).mono (fun e w' h => ⟨h.1, hS.trans (h.2.mono hS.size)⟩)
    | 3 =>
      simp only [List.getElem?_toArray, List.getElem?_cons_zero, List.getElem?_cons_succ, Option.some.injEq] at ho
      subst ho
      have p2 : b 2 = true := hd ⟨2, .data⟩ (by simp) rfl
      have e5 := (ev 2 5 rfl p2).trans vv2
      rw [vv3]
      refine does_value rfl (by intro c h; cases h) (w' := W) ?_ (hS)
      · simp [execOp, go_sem, e5]
    | 4 =>
      simp only [List.getElem?_toArray, List.getElem?_cons_zero, List.getElem?_cons_succ, Option.some.injEq] at ho
      subst ho
      have p3 : b 3 = true := hd ⟨3, .data⟩ (by simp) rfl
      have e6 := (ev 3 6 rfl p3).trans vv3
      rw [vv4]
      refine does_value rfl (by intro c h; cases h) (w' := W) ?_ (hS)
      · simp [execOp, go_sem, e6]
    | 5 =>
      simp only [List.getElem?_toArray, List.getElem?_cons_zero, List.getElem?_cons_succ, Option.some.injEq] at ho
      subst ho
      have p4 : b 4 = true := hd ⟨4, .guard⟩ (by simp) rfl
      have e1 : a.tmps[1]?.getD undef = .pointer (some ⟨g, 0, none⟩) := (kp 1 (by kernel_rfl)).trans b1
      rw [vv5]
      refine does_value_g rfl (yl 4 7 false rfl p4 vv4) (by intro c h; cases h) (w' := W) ?_ (hS)
      · simp [execOp, go_sem, e1]
    | 6 =>
      simp only [List.getElem?_toArray, List.getElem?_cons_zero, List.getElem?_cons_succ, Option.some.injEq] at ho
      subst ho
      have p5 : b 5 = true := hd ⟨5, .data⟩ (by simp) rfl
      have p4 : b 4 = true := hd ⟨4, .guard⟩ (by simp) rfl
      have e8 := (ev 5 8 rfl p5).trans vv5
      obtain ⟨d0, d1, d2, d3, d4, d5, d6, d7, d8, d9, d10⟩ := (h9.below hS).cells
      rw [vv6]
      refine does_value_g rfl (yl 4 7 false rfl p4 vv4) (by intro c h; cases h) (w' := W) ?_ (hS)
      · simp [execOp, go_sem, e8, d2]
    | 7 =>
      simp only [List.getElem?_toArray, List.getElem?_cons_zero, List.getElem?_cons_succ, Option.some.injEq] at ho
      subst ho
      have p6 : b 6 = true := hd ⟨6, .data⟩ (by simp) rfl
      have p4 : b 4 = true := hd ⟨4, .guard⟩ (by simp) rfl
      have e9 := (ev 6 9 rfl p6).trans vv6
      rw [vv7]
      refine does_value_g rfl (yl 4 7 false rfl p4 vv4) (by intro c h; cases h) (w' := W) ?_ (hS)
      · simp [execOp, go_sem, e9, h1]
    | 8 =>
      simp only [List.getElem?_toArray, List.getElem?_cons_zero, List.getElem?_cons_succ, Option.some.injEq] at ho
      subst ho
      have p4 : b 4 = true := hd ⟨4, .data⟩ (by simp) rfl
      have p7 : b 7 = true := hd ⟨7, .data⟩ (by simp) rfl
      have e7 := (ev 4 7 rfl p4).trans vv4
      have e10 := (ev 7 10 rfl p7).trans vv7
      rw [vv8]
      refine does_value rfl (by intro c h; cases h) (w' := W) ?_ (hS)
      · simp [execOp, go_sem, e7, e10]
    | 9 =>
      simp only [List.getElem?_toArray, List.getElem?_cons_zero, List.getElem?_cons_succ, Option.some.injEq] at ho
      subst ho
      have p8 : b 8 = true := hd ⟨8, .data⟩ (by simp) rfl
      have e11 := (ev 8 11 rfl p8).trans vv8
      rw [vv9]
      refine does_value rfl (by intro c h; cases h) (w' := W) ?_ (hS)
      · simp [execOp, go_sem, e11]
    | 10 =>
      simp only [List.getElem?_toArray, List.getElem?_cons_zero, List.getElem?_cons_succ, Option.some.injEq] at ho
      subst ho
      have p9 : b 9 = true := hd ⟨9, .guard⟩ (by simp) rfl
      have e1 : a.tmps[1]?.getD undef = .pointer (some ⟨g, 0, none⟩) := (kp 1 (by kernel_rfl)).trans b1
      rw [vv10]
      refine does_value_g rfl (yl 9 12 false rfl p9 vv9) (by intro c h; cases h) (w' := W) ?_ (hS)
      · simp [execOp, go_sem, e1]
    | 11 =>
      simp only [List.getElem?_toArray, List.getElem?_cons_zero, List.getElem?_cons_succ, Option.some.injEq] at ho
      subst ho
      have p10 : b 10 = true := hd ⟨10, .data⟩ (by simp) rfl
      have p9 : b 9 = true := hd ⟨9, .guard⟩ (by simp) rfl
      have e13 := (ev 10 13 rfl p10).trans vv10
      obtain ⟨d0, d1, d2, d3, d4, d5, d6, d7, d8, d9, d10⟩ := (h9.below hS).cells
      rw [vv11]
      refine does_value_g rfl (yl 9 12 false rfl p9 vv9) (by intro c h; cases h) (w' := W) ?_ (hS)
      · simp [execOp, go_sem, e13, d2]
    | 12 =>
      simp only [List.getElem?_toArray, List.getElem?_cons_zero, List.getElem?_cons_succ, Option.some.injEq] at ho
      subst ho
      have p11 : b 11 = true := hd ⟨11, .data⟩ (by simp) rfl
      have p9 : b 9 = true := hd ⟨9, .guard⟩ (by simp) rfl
      have e14 := (ev 11 14 rfl p11).trans vv11
      rw [vv12]
      refine does_value_g rfl (yl 9 12 false rfl p9 vv9) (by intro c h; cases h) (w' := W) ?_ (hS)
      · simp [execOp, go_sem, e14, h2]
    | 13 =>
      simp only [List.getElem?_toArray, List.getElem?_cons_zero, List.getElem?_cons_succ, Option.some.injEq] at ho
      subst ho
      have p9 : b 9 = true := hd ⟨9, .data⟩ (by simp) rfl
      have p12 : b 12 = true := hd ⟨12, .data⟩ (by simp) rfl
      have e12 := (ev 9 12 rfl p9).trans vv9
      have e15 := (ev 12 15 rfl p12).trans vv12
      rw [vv13]
      refine does_value rfl (by intro c h; cases h) (w' := W) ?_ (hS)
      · simp [execOp, go_sem, e12, e15]
    | 14 =>
      simp only [List.getElem?_toArray, List.getElem?_cons_zero, List.getElem?_cons_succ, Option.some.injEq] at ho
      subst ho
      have p13 : b 13 = true := hd ⟨13, .data⟩ (by simp) rfl
      have e16 := (ev 13 16 rfl p13).trans vv13
      rw [vv14]
      refine does_value rfl (by intro c h; cases h) (w' := W) ?_ (hS)
      · simp [execOp, go_sem, e16]
    | 15 =>
      simp only [List.getElem?_toArray, List.getElem?_cons_zero, List.getElem?_cons_succ, Option.some.injEq] at ho
      subst ho
      have p14 : b 14 = true := hd ⟨14, .guard⟩ (by simp) rfl
      exact does_pass rfl (yl 14 17 true rfl p14 vv14) (by decide) vv15 (hS)
    | 16 =>
      simp only [List.getElem?_toArray, List.getElem?_cons_zero, List.getElem?_cons_succ, Option.some.injEq] at ho
      subst ho
      have p15 : b 15 = true := hd ⟨15, .data⟩ (by simp) rfl
      have p14 : b 14 = true := hd ⟨14, .guard⟩ (by simp) rfl
      exact does_pass rfl (yl 14 17 true rfl p14 vv14) (by decide) vv16 (hS)
    | 17 =>
      simp only [List.getElem?_toArray, List.getElem?_cons_zero, List.getElem?_cons_succ, Option.some.injEq] at ho
      subst ho
      have p16 : b 16 = true := hd ⟨16, .data⟩ (by simp) rfl
      have p14 : b 14 = true := hd ⟨14, .guard⟩ (by simp) rfl
      exact does_pass rfl (yl 14 17 true rfl p14 vv14) (by decide) vv17 (hS)
    | 18 =>
      simp only [List.getElem?_toArray, List.getElem?_cons_zero, List.getElem?_cons_succ, Option.some.injEq] at ho
      subst ho
      have p17 : b 17 = true := hd ⟨17, .data⟩ (by simp) rfl
      have p14 : b 14 = true := hd ⟨14, .guard⟩ (by simp) rfl
      exact does_pass rfl (yl 14 17 true rfl p14 vv14) (by decide) vv18 (hS)
    | 19 =>
      simp only [List.getElem?_toArray, List.getElem?_cons_zero, List.getElem?_cons_succ, Option.some.injEq] at ho
      subst ho
      have p14 : b 14 = true := hd ⟨14, .data⟩ (by simp) rfl
      have p18 : b 18 = true := hd ⟨18, .data⟩ (by simp) rfl
      have e17 := (ev 14 17 rfl p14).trans vv14
      rw [vv19]
      refine does_value rfl (by intro c h; cases h) (w' := W) ?_ (hS)
      · simp [execOp, go_sem, e17]
    | 20 =>
      simp only [List.getElem?_toArray, List.getElem?_cons_zero, List.getElem?_cons_succ, Option.some.injEq] at ho
      subst ho
      have p19 : b 19 = true := hd ⟨19, .data⟩ (by simp) rfl
      have e22 := (ev 19 22 rfl p19).trans vv19
      rw [vv20]
      refine does_value rfl (by intro c h; cases h) (w' := W) ?_ (hS)
      · simp [execOp, go_sem, e22]
    | 21 =>
      simp only [List.getElem?_toArray, List.getElem?_cons_zero, List.getElem?_cons_succ, Option.some.injEq] at ho
      subst ho
      have p20 : b 20 = true := hd ⟨20, .guard⟩ (by simp) rfl
      exact does_pass rfl (yl 20 23 true rfl p20 vv20) (by decide) vv21 (hS)
    | 22 =>
      simp only [List.getElem?_toArray, List.getElem?_cons_zero, List.getElem?_cons_succ, Option.some.injEq] at ho
      subst ho
      have p21 : b 21 = true := hd ⟨21, .data⟩ (by simp) rfl
      have p20 : b 20 = true := hd ⟨20, .guard⟩ (by simp) rfl
      exact does_pass rfl (yl 20 23 true rfl p20 vv20) (by decide) vv22 (hS)
    | 23 =>
      simp only [List.getElem?_toArray, List.getElem?_cons_zero, List.getElem?_cons_succ, Option.some.injEq] at ho
      subst ho
      have p20 : b 20 = true := hd ⟨20, .guard⟩ (by simp) rfl
      exact does_pass rfl (yl 20 23 true rfl p20 vv20) (by decide) vv23 (hS)
    | 24 =>
      simp only [List.getElem?_toArray, List.getElem?_cons_zero, List.getElem?_cons_succ, Option.some.injEq] at ho
      subst ho
      have p23 : b 23 = true := hd ⟨23, .data⟩ (by simp) rfl
      have p20 : b 20 = true := hd ⟨20, .guard⟩ (by simp) rfl
      exact does_pass rfl (yl 20 23 true rfl p20 vv20) (by decide) vv24 (hS)
    | 25 =>
      simp only [List.getElem?_toArray, List.getElem?_cons_zero, List.getElem?_cons_succ, Option.some.injEq] at ho
      subst ho
      have p24 : b 24 = true := hd ⟨24, .data⟩ (by simp) rfl
      have p20 : b 20 = true := hd ⟨20, .guard⟩ (by simp) rfl
      exact does_pass rfl (yl 20 23 true rfl p20 vv20) (by decide) vv25 (hS)
    | 26 =>
      simp only [List.getElem?_toArray, List.getElem?_cons_zero, List.getElem?_cons_succ, Option.some.injEq] at ho
      subst ho
      have p22 : b 22 = true := hd ⟨22, .data⟩ (by simp) rfl
      have p25 : b 25 = true := hd ⟨25, .data⟩ (by simp) rfl
      have p20 : b 20 = true := hd ⟨20, .guard⟩ (by simp) rfl
      exact does_pass rfl (yl 20 23 true rfl p20 vv20) (by decide) vv26 (hS)
    | 27 =>
      simp only [List.getElem?_toArray, List.getElem?_cons_zero, List.getElem?_cons_succ, Option.some.injEq] at ho
      subst ho
      have p20 : b 20 = true := hd ⟨20, .guard⟩ (by simp) rfl
      exact does_pass rfl (yl 20 23 true rfl p20 vv20) (by decide) vv27 (hS)
    | 28 =>
      simp only [List.getElem?_toArray, List.getElem?_cons_zero, List.getElem?_cons_succ, Option.some.injEq] at ho
      subst ho
      have p27 : b 27 = true := hd ⟨27, .data⟩ (by simp) rfl
      have p20 : b 20 = true := hd ⟨20, .guard⟩ (by simp) rfl
      exact does_pass rfl (yl 20 23 true rfl p20 vv20) (by decide) vv28 (hS)
    | 29 =>
      simp only [List.getElem?_toArray, List.getElem?_cons_zero, List.getElem?_cons_succ, Option.some.injEq] at ho
      subst ho
      have p28 : b 28 = true := hd ⟨28, .data⟩ (by simp) rfl
      have p20 : b 20 = true := hd ⟨20, .guard⟩ (by simp) rfl
      exact does_pass rfl (yl 20 23 true rfl p20 vv20) (by decide) vv29 (hS)
    | 30 =>
      simp only [List.getElem?_toArray, List.getElem?_cons_zero, List.getElem?_cons_succ, Option.some.injEq] at ho
      subst ho
      have p26 : b 26 = true := hd ⟨26, .data⟩ (by simp) rfl
      have p29 : b 29 = true := hd ⟨29, .data⟩ (by simp) rfl
      have p20 : b 20 = true := hd ⟨20, .guard⟩ (by simp) rfl
      exact does_pass rfl (yl 20 23 true rfl p20 vv20) (by decide) vv30 (hS)
    | 31 =>
      simp only [List.getElem?_toArray, List.getElem?_cons_zero, List.getElem?_cons_succ, Option.some.injEq] at ho
      subst ho
      have p20 : b 20 = true := hd ⟨20, .data⟩ (by simp) rfl
      have p30 : b 30 = true := hd ⟨30, .data⟩ (by simp) rfl
      have e23 := (ev 20 23 rfl p20).trans vv20
      rw [vv31]
      refine does_value rfl (by intro c h; cases h) (w' := W) ?_ (hS)
      · simp [execOp, go_sem, e23]
    | k + 32 => simp at ho
  · intro b' W hS _
    subst hLe
    exact hQ W hS

set_option maxRecDepth 8000 in
set_option maxHeartbeats 4000000 in
theorem rmay_vec {Q : Exit → Act → World → Prop} {base : Array Value} {dd : List Deferred} {ops : Array Oper} (hops : Try.f24.body.bind (regs 1) = some ops) (g : Nat) (t n sq kd ot on pt pn : Int) (nm : List UInt8) (p q : Option Addr) (l c m d : Nat) (w9 : World) (hsz : base.size = 128)
    (b1 : base.getD 1 undef = .pointer (some ⟨g, 0, none⟩)) (h9 : OpB w9 g t n sq kd ot on pt pn nm p q l c m d)
    (cV : ∀ W, Below w9.heap.size w9 W → Calls Try.prog 40 #[.agg #[.int .i64 t, .int .i64 n]] W fun e w' => e = .returned (.bool true) ∧ Below W.heap.size W w')
    (h1 : ¬ sq < 1) (h2 : ¬ 1152921504606846976 < sq)
    (cM : ∀ W, Below w9.heap.size w9 W → Calls Try.prog 41 #[.slice q m d] W fun e w' => e = .returned (.bool false) ∧ Below W.heap.size W w')
    (hQ : ∀ W, Below w9.heap.size w9 W → Q .normal ⟨putAll base [(some 3, .pointer (some ⟨g, 0, none⟩)), (some 4, .agg #[.int .i64 t, .int .i64 n]), (some 5, .bool true), (some 6, .bool false), (some 7, .bool false), (some 8, .pointer (some ⟨g, 2, none⟩)), (some 9, .int .i64 sq), (some 10, .bool false), (some 11, .bool false), (some 12, .bool false), (some 13, .pointer (some ⟨g, 2, none⟩)), (some 14, .int .i64 sq), (some 15, .bool false), (some 16, .bool false), (some 17, .bool false), (some 18, .pointer (some ⟨g, 10, none⟩)), (some 19, .slice q m d), (some 20, .bool false), (some 21, .bool true), (some 22, .bool true), (some 23, .bool true), (some 24, undef), (some 25, undef), (some 26, undef), (some 27, undef), (some 28, undef), (some 29, undef), (some 30, undef), (some 31, undef), (some 32, undef), (some 33, undef), (some 34, .bool true)], dd⟩ W) :
    (Code.region 1 ops true).wp Try.prog Q ⟨base, dd⟩ w9 := by
  have hmix : Try.prog.follows .mixedOrders = true := by kernel_rfl
  have h2 := (show Try.f24.body.bind (regs 1) = some _ from rfl).symm.trans hops
  obtain rfl := Option.some.inj h2
  clear h2 hops
  have below9 : Below w9.heap.size w9 w9.drew := (Below.refl _ _).drew
  obtain ⟨LL, hLe⟩ : ∃ LL : List (Option Tmp × Value), LL = [(some 3, .pointer (some ⟨g, 0, none⟩)), (some 4, .agg #[.int .i64 t, .int .i64 n]), (some 5, .bool true), (some 6, .bool false), (some 7, .bool false), (some 8, .pointer (some ⟨g, 2, none⟩)), (some 9, .int .i64 sq), (some 10, .bool false), (some 11, .bool false), (some 12, .bool false), (some 13, .pointer (some ⟨g, 2, none⟩)), (some 14, .int .i64 sq), (some 15, .bool false), (some 16, .bool false), (some 17, .bool false), (some 18, .pointer (some ⟨g, 10, none⟩)), (some 19, .slice q m d), (some 20, .bool false), (some 21, .bool true), (some 22, .bool true), (some 23, .bool true), (some 24, undef), (some 25, undef), (some 26, undef), (some 27, undef), (some 28, undef), (some 29, undef), (some 30, undef), (some 31, undef), (some 32, undef), (some 33, undef), (some 34, .bool true)] := ⟨_, rfl⟩
  have vv0 : vals LL 0 = .pointer (some ⟨g, 0, none⟩) := by rw [hLe]; rfl
  have vv1 : vals LL 1 = .agg #[.int .i64 t, .int .i64 n] := by rw [hLe]; rfl
  have vv2 : vals LL 2 = .bool true := by rw [hLe]; rfl
  have vv3 : vals LL 3 = .bool false := by rw [hLe]; rfl
  have vv4 : vals LL 4 = .bool false := by rw [hLe]; rfl
  have vv5 : vals LL 5 = .pointer (some ⟨g, 2, none⟩) := by rw [hLe]; rfl
  have vv6 : vals LL 6 = .int .i64 sq := by rw [hLe]; rfl
  have vv7 : vals LL 7 = .bool false := by rw [hLe]; rfl
  have vv8 : vals LL 8 = .bool false := by rw [hLe]; rfl
  have vv9 : vals LL 9 = .bool false := by rw [hLe]; rfl
  have vv10 : vals LL 10 = .pointer (some ⟨g, 2, none⟩) := by rw [hLe]; rfl
  have vv11 : vals LL 11 = .int .i64 sq := by rw [hLe]; rfl
  have vv12 : vals LL 12 = .bool false := by rw [hLe]; rfl
  have vv13 : vals LL 13 = .bool false := by rw [hLe]; rfl
  have vv14 : vals LL 14 = .bool false := by rw [hLe]; rfl
  have vv15 : vals LL 15 = .pointer (some ⟨g, 10, none⟩) := by rw [hLe]; rfl
  have vv16 : vals LL 16 = .slice q m d := by rw [hLe]; rfl
  have vv17 : vals LL 17 = .bool false := by rw [hLe]; rfl
  have vv18 : vals LL 18 = .bool true := by rw [hLe]; rfl
  have vv19 : vals LL 19 = .bool true := by rw [hLe]; rfl
  have vv20 : vals LL 20 = .bool true := by rw [hLe]; rfl
  have vv21 : vals LL 21 = undef := by rw [hLe]; rfl
  have vv22 : vals LL 22 = undef := by rw [hLe]; rfl
  have vv23 : vals LL 23 = undef := by rw [hLe]; rfl
  have vv24 : vals LL 24 = undef := by rw [hLe]; rfl
  have vv25 : vals LL 25 = undef := by rw [hLe]; rfl
  have vv26 : vals LL 26 = undef := by rw [hLe]; rfl
  have vv27 : vals LL 27 = undef := by rw [hLe]; rfl
  have vv28 : vals LL 28 = undef := by rw [hLe]; rfl
  have vv29 : vals LL 29 = undef := by rw [hLe]; rfl
  have vv30 : vals LL 30 = undef := by rw [hLe]; rfl
  have vv31 : vals LL 31 = .bool true := by rw [hLe]; rfl
  refine region_laid hmix (by kernel_rfl) 128 hsz (by kernel_rfl) LL (by rw [hLe]; rfl) (fun _ W => Below w9.heap.size w9 W) below9 ?_ ?_
  · intro b W i o a hS hcl ho hb hd ev kp yl
    match i with
    | 0 =>
      simp only [List.getElem?_toArray, List.getElem?_cons_zero, Option.some.injEq] at ho
      subst ho
      have e1 : a.tmps[1]?.getD undef = .pointer (some ⟨g, 0, none⟩) := (kp 1 (by kernel_rfl)).trans b1
      rw [vv0]
      refine does_value rfl (by intro c h; cases h) (w' := W) ?_ (hS)
      · simp [execOp, go_sem, e1]
    | 1 =>
      simp only [List.getElem?_toArray, List.getElem?_cons_zero, List.getElem?_cons_succ, Option.some.injEq] at ho
      subst ho
      have p0 : b 0 = true := hd ⟨0, .data⟩ (by simp) rfl
      have e3 := (ev 0 3 rfl p0).trans vv0
      obtain ⟨d0, d1, d2, d3, d4, d5, d6, d7, d8, d9, d10⟩ := (h9.below hS).cells
      rw [vv1]
      refine does_value rfl (by intro c h; cases h) (w' := W) ?_ (hS)
      · simp [execOp, go_sem, e3, d0, d1]
    | 2 =>
      simp only [List.getElem?_toArray, List.getElem?_cons_zero, List.getElem?_cons_succ, Option.some.injEq] at ho
      subst ho
      have p1 : b 1 = true := hd ⟨1, .data⟩ (by simp) rfl
      have e4 := (ev 1 4 rfl p1).trans vv1
      rw [vv2]
      refine does_call rfl (by intro c h; cases h) (f := 40) (args := #[.agg #[.int .i64 t, .int .i64 n]]) ?_ ?_
      · simp [go_sem, e4]
      · exact (cV W hS).mono (fun e w' h => ⟨h.1, hS.trans (h.2.mono hS.size)⟩)
    | 3 =>
      simp only [List.getElem?_toArray, List.getElem?_cons_zero, List.getElem?_cons_succ, Option.some.injEq] at ho
      subst ho
      have p2 : b 2 = true := hd ⟨2, .data⟩ (by simp) rfl
      have e5 := (ev 2 5 rfl p2).trans vv2
      rw [vv3]
      refine does_value rfl (by intro c h; cases h) (w' := W) ?_ (hS)
      · simp [execOp, go_sem, e5]
    | 4 =>
      simp only [List.getElem?_toArray, List.getElem?_cons_zero, List.getElem?_cons_succ, Option.some.injEq] at ho
      subst ho
      have p3 : b 3 = true := hd ⟨3, .data⟩ (by simp) rfl
      have e6 := (ev 3 6 rfl p3).trans vv3
      rw [vv4]
      refine does_value rfl (by intro c h; cases h) (w' := W) ?_ (hS)
      · simp [execOp, go_sem, e6]
    | 5 =>
      simp only [List.getElem?_toArray, List.getElem?_cons_zero, List.getElem?_cons_succ, Option.some.injEq] at ho
      subst ho
      have p4 : b 4 = true := hd ⟨4, .guard⟩ (by simp) rfl
      have e1 : a.tmps[1]?.getD undef = .pointer (some ⟨g, 0, none⟩) := (kp 1 (by kernel_rfl)).trans b1
      rw [vv5]
      refine does_value_g rfl (yl 4 7 false rfl p4 vv4) (by intro c h; cases h) (w' := W) ?_ (hS)
      · simp [execOp, go_sem, e1]
    | 6 =>
      simp only [List.getElem?_toArray, List.getElem?_cons_zero, List.getElem?_cons_succ, Option.some.injEq] at ho
      subst ho
      have p5 : b 5 = true := hd ⟨5, .data⟩ (by simp) rfl
      have p4 : b 4 = true := hd ⟨4, .guard⟩ (by simp) rfl
      have e8 := (ev 5 8 rfl p5).trans vv5
      obtain ⟨d0, d1, d2, d3, d4, d5, d6, d7, d8, d9, d10⟩ := (h9.below hS).cells
      rw [vv6]
      refine does_value_g rfl (yl 4 7 false rfl p4 vv4) (by intro c h; cases h) (w' := W) ?_ (hS)
      · simp [execOp, go_sem, e8, d2]
    | 7 =>
      simp only [List.getElem?_toArray, List.getElem?_cons_zero, List.getElem?_cons_succ, Option.some.injEq] at ho
      subst ho
      have p6 : b 6 = true := hd ⟨6, .data⟩ (by simp) rfl
      have p4 : b 4 = true := hd ⟨4, .guard⟩ (by simp) rfl
      have e9 := (ev 6 9 rfl p6).trans vv6
      rw [vv7]
      refine does_value_g rfl (yl 4 7 false rfl p4 vv4) (by intro c h; cases h) (w' := W) ?_ (hS)
      · simp [execOp, go_sem, e9, h1]
    | 8 =>
      simp only [List.getElem?_toArray, List.getElem?_cons_zero, List.getElem?_cons_succ, Option.some.injEq] at ho
      subst ho
      have p4 : b 4 = true := hd ⟨4, .data⟩ (by simp) rfl
      have p7 : b 7 = true := hd ⟨7, .data⟩ (by simp) rfl
      have e7 := (ev 4 7 rfl p4).trans vv4
      have e10 := (ev 7 10 rfl p7).trans vv7
      rw [vv8]
      refine does_value rfl (by intro c h; cases h) (w' := W) ?_ (hS)
      · simp [execOp, go_sem, e7, e10]
    | 9 =>
      simp only [List.getElem?_toArray, List.getElem?_cons_zero, List.getElem?_cons_succ, Option.some.injEq] at ho
      subst ho
      have p8 : b 8 = true := hd ⟨8, .data⟩ (by simp) rfl
      have e11 := (ev 8 11 rfl p8).trans vv8
      rw [vv9]
      refine does_value rfl (by intro c h; cases h) (w' := W) ?_ (hS)
      · simp [execOp, go_sem, e11]
    | 10 =>
      simp only [List.getElem?_toArray, List.getElem?_cons_zero, List.getElem?_cons_succ, Option.some.injEq] at ho
      subst ho
      have p9 : b 9 = true := hd ⟨9, .guard⟩ (by simp) rfl
      have e1 : a.tmps[1]?.getD undef = .pointer (some ⟨g, 0, none⟩) := (kp 1 (by kernel_rfl)).trans b1
      rw [vv10]
      refine does_value_g rfl (yl 9 12 false rfl p9 vv9) (by intro c h; cases h) (w' := W) ?_ (hS)
      · simp [execOp, go_sem, e1]
    | 11 =>
      simp only [List.getElem?_toArray, List.getElem?_cons_zero, List.getElem?_cons_succ, Option.some.injEq] at ho
      subst ho
      have p10 : b 10 = true := hd ⟨10, .data⟩ (by simp) rfl
      have p9 : b 9 = true := hd ⟨9, .guard⟩ (by simp) rfl
      have e13 := (ev 10 13 rfl p10).trans vv10
      obtain ⟨d0, d1, d2, d3, d4, d5, d6, d7, d8, d9, d10⟩ := (h9.below hS).cells
      rw [vv11]
      refine does_value_g rfl (yl 9 12 false rfl p9 vv9) (by intro c h; cases h) (w' := W) ?_ (hS)
      · simp [execOp, go_sem, e13, d2]
    | 12 =>
      simp only [List.getElem?_toArray, List.getElem?_cons_zero, List.getElem?_cons_succ, Option.some.injEq] at ho
      subst ho
      have p11 : b 11 = true := hd ⟨11, .data⟩ (by simp) rfl
      have p9 : b 9 = true := hd ⟨9, .guard⟩ (by simp) rfl
      have e14 := (ev 11 14 rfl p11).trans vv11
      rw [vv12]
      refine does_value_g rfl (yl 9 12 false rfl p9 vv9) (by intro c h; cases h) (w' := W) ?_ (hS)
      · simp [execOp, go_sem, e14, h2]
    | 13 =>
      simp only [List.getElem?_toArray, List.getElem?_cons_zero, List.getElem?_cons_succ, Option.some.injEq] at ho
      subst ho
      have p9 : b 9 = true := hd ⟨9, .data⟩ (by simp) rfl
      have p12 : b 12 = true := hd ⟨12, .data⟩ (by simp) rfl
      have e12 := (ev 9 12 rfl p9).trans vv9
      have e15 := (ev 12 15 rfl p12).trans vv12
      rw [vv13]
      refine does_value rfl (by intro c h; cases h) (w' := W) ?_ (hS)
      · simp [execOp, go_sem, e12, e15]
    | 14 =>
      simp only [List.getElem?_toArray, List.getElem?_cons_zero, List.getElem?_cons_succ, Option.some.injEq] at ho
      subst ho
      have p13 : b 13 = true := hd ⟨13, .data⟩ (by simp) rfl
      have e16 := (ev 13 16 rfl p13).trans vv13
      rw [vv14]
      refine does_value rfl (by intro c h; cases h) (w' := W) ?_ (hS)
      · simp [execOp, go_sem, e16]
    | 15 =>
      simp only [List.getElem?_toArray, List.getElem?_cons_zero, List.getElem?_cons_succ, Option.some.injEq] at ho
      subst ho
      have p14 : b 14 = true := hd ⟨14, .guard⟩ (by simp) rfl
      have e1 : a.tmps[1]?.getD undef = .pointer (some ⟨g, 0, none⟩) := (kp 1 (by kernel_rfl)).trans b1
      rw [vv15]
      refine does_value_g rfl (yl 14 17 false rfl p14 vv14) (by intro c h; cases h) (w' := W) ?_ (hS)
      · simp [execOp, go_sem, e1]
    | 16 =>
      simp only [List.getElem?_toArray, List.getElem?_cons_zero, List.getElem?_cons_succ, Option.some.injEq] at ho
      subst ho
      have p15 : b 15 = true := hd ⟨15, .data⟩ (by simp) rfl
      have p14 : b 14 = true := hd ⟨14, .guard⟩ (by simp) rfl
      have e18 := (ev 15 18 rfl p15).trans vv15
      obtain ⟨d0, d1, d2, d3, d4, d5, d6, d7, d8, d9, d10⟩ := (h9.below hS).cells
      rw [vv16]
      refine does_value_g rfl (yl 14 17 false rfl p14 vv14) (by intro c h; cases h) (w' := W) ?_ (hS)
      · simp [execOp, go_sem, e18, d10]
    | 17 =>
      simp only [List.getElem?_toArray, List.getElem?_cons_zero, List.getElem?_cons_succ, Option.some.injEq] at ho
      subst ho
      have p16 : b 16 = true := hd ⟨16, .data⟩ (by simp) rfl
      have p14 : b 14 = true := hd ⟨14, .guard⟩ (by simp) rfl
      have e19 := (ev 16 19 rfl p16).trans vv16
      rw [vv17]
      refine does_call_g rfl (yl 14 17 false rfl p14 vv14) (by intro c h; cases h) (f := 41) (args := #[.slice q m d]) ?_ ?_
      · simp [go_sem, e19]
      · exact (cM W hS).mono (fun e w' h => ⟨h.1, hS.trans (h.2.mono hS.size)⟩)
    | 18 =>
      simp only [List.getElem?_toArray, List.getElem?_cons_zero, List.getElem?_cons_succ, Option.some.injEq] at ho
      subst ho
      have p17 : b 17 = true := hd ⟨17, .data⟩ (by simp) rfl
      have p14 : b 14 = true := hd ⟨14, .guard⟩ (by simp) rfl
      have e20 := (ev 17 20 rfl p17).trans vv17
      rw [vv18]
      refine does_value_g rfl (yl 14 17 false rfl p14 vv14) (by intro c h; cases h) (w' := W) ?_ (hS)
      · simp [execOp, go_sem, e20]
    | 19 =>
      simp only [List.getElem?_toArray, List.getElem?_cons_zero, List.getElem?_cons_succ, Option.some.injEq] at ho
      subst ho
      have p14 : b 14 = true := hd ⟨14, .data⟩ (by simp) rfl
      have p18 : b 18 = true := hd ⟨18, .data⟩ (by simp) rfl
      have e17 := (ev 14 17 rfl p14).trans vv14
      have e21 := (ev 18 21 rfl p18).trans vv18
      rw [vv19]
      refine does_value rfl (by intro c h; cases h) (w' := W) ?_ (hS)
      · simp [execOp, go_sem, e17, e21]
    | 20 =>
      simp only [List.getElem?_toArray, List.getElem?_cons_zero, List.getElem?_cons_succ, Option.some.injEq] at ho
      subst ho
      have p19 : b 19 = true := hd ⟨19, .data⟩ (by simp) rfl
      have e22 := (ev 19 22 rfl p19).trans vv19
      rw [vv20]
      refine does_value rfl (by intro c h; cases h) (w' := W) ?_ (hS)
      · simp [execOp, go_sem, e22]
    | 21 =>
      simp only [List.getElem?_toArray, List.getElem?_cons_zero, List.getElem?_cons_succ, Option.some.injEq] at ho
      subst ho
      have p20 : b 20 = true := hd ⟨20, .guard⟩ (by simp) rfl
      exact does_pass rfl (yl 20 23 true rfl p20 vv20) (by decide) vv21 (hS)
    | 22 =>
      simp only [List.getElem?_toArray, List.getElem?_cons_zero, List.getElem?_cons_succ, Option.some.injEq] at ho
      subst ho
      have p21 : b 21 = true := hd ⟨21, .data⟩ (by simp) rfl
      have p20 : b 20 = true := hd ⟨20, .guard⟩ (by simp) rfl
      exact does_pass rfl (yl 20 23 true rfl p20 vv20) (by decide) vv22 (hS)
    | 23 =>
      simp only [List.getElem?_toArray, List.getElem?_cons_zero, List.getElem?_cons_succ, Option.some.injEq] at ho
      subst ho
      have p20 : b 20 = true := hd ⟨20, .guard⟩ (by simp) rfl
      exact does_pass rfl (yl 20 23 true rfl p20 vv20) (by decide) vv23 (hS)
    | 24 =>
      simp only [List.getElem?_toArray, List.getElem?_cons_zero, List.getElem?_cons_succ, Option.some.injEq] at ho
      subst ho
      have p23 : b 23 = true := hd ⟨23, .data⟩ (by simp) rfl
      have p20 : b 20 = true := hd ⟨20, .guard⟩ (by simp) rfl
      exact does_pass rfl (yl 20 23 true rfl p20 vv20) (by decide) vv24 (hS)
    | 25 =>
      simp only [List.getElem?_toArray, List.getElem?_cons_zero, List.getElem?_cons_succ, Option.some.injEq] at ho
      subst ho
      have p24 : b 24 = true := hd ⟨24, .data⟩ (by simp) rfl
      have p20 : b 20 = true := hd ⟨20, .guard⟩ (by simp) rfl
      exact does_pass rfl (yl 20 23 true rfl p20 vv20) (by decide) vv25 (hS)
    | 26 =>
      simp only [List.getElem?_toArray, List.getElem?_cons_zero, List.getElem?_cons_succ, Option.some.injEq] at ho
      subst ho
      have p22 : b 22 = true := hd ⟨22, .data⟩ (by simp) rfl
      have p25 : b 25 = true := hd ⟨25, .data⟩ (by simp) rfl
      have p20 : b 20 = true := hd ⟨20, .guard⟩ (by simp) rfl
      exact does_pass rfl (yl 20 23 true rfl p20 vv20) (by decide) vv26 (hS)
    | 27 =>
      simp only [List.getElem?_toArray, List.getElem?_cons_zero, List.getElem?_cons_succ, Option.some.injEq] at ho
      subst ho
      have p20 : b 20 = true := hd ⟨20, .guard⟩ (by simp) rfl
      exact does_pass rfl (yl 20 23 true rfl p20 vv20) (by decide) vv27 (hS)
    | 28 =>
      simp only [List.getElem?_toArray, List.getElem?_cons_zero, List.getElem?_cons_succ, Option.some.injEq] at ho
      subst ho
      have p27 : b 27 = true := hd ⟨27, .data⟩ (by simp) rfl
      have p20 : b 20 = true := hd ⟨20, .guard⟩ (by simp) rfl
      exact does_pass rfl (yl 20 23 true rfl p20 vv20) (by decide) vv28 (hS)
    | 29 =>
      simp only [List.getElem?_toArray, List.getElem?_cons_zero, List.getElem?_cons_succ, Option.some.injEq] at ho
      subst ho
      have p28 : b 28 = true := hd ⟨28, .data⟩ (by simp) rfl
      have p20 : b 20 = true := hd ⟨20, .guard⟩ (by simp) rfl
      exact does_pass rfl (yl 20 23 true rfl p20 vv20) (by decide) vv29 (hS)
    | 30 =>
      simp only [List.getElem?_toArray, List.getElem?_cons_zero, List.getElem?_cons_succ, Option.some.injEq] at ho
      subst ho
      have p26 : b 26 = true := hd ⟨26, .data⟩ (by simp) rfl
      have p29 : b 29 = true := hd ⟨29, .data⟩ (by simp) rfl
      have p20 : b 20 = true := hd ⟨20, .guard⟩ (by simp) rfl
      exact does_pass rfl (yl 20 23 true rfl p20 vv20) (by decide) vv30 (hS)
    | 31 =>
      simp only [List.getElem?_toArray, List.getElem?_cons_zero, List.getElem?_cons_succ, Option.some.injEq] at ho
      subst ho
      have p20 : b 20 = true := hd ⟨20, .data⟩ (by simp) rfl
      have p30 : b 30 = true := hd ⟨30, .data⟩ (by simp) rfl
      have e23 := (ev 20 23 rfl p20).trans vv20
      rw [vv31]
      refine does_value rfl (by intro c h; cases h) (w' := W) ?_ (hS)
      · simp [execOp, go_sem, e23]
    | k + 32 => simp at ho
  · intro b' W hS _
    subst hLe
    exact hQ W hS

set_option maxRecDepth 8000 in
set_option maxHeartbeats 4000000 in
theorem rmay_at {Q : Exit → Act → World → Prop} {base : Array Value} {dd : List Deferred} {ops : Array Oper} (hops : Try.f24.body.bind (regs 1) = some ops) (g : Nat) (t n sq kd ot on pt pn : Int) (nm : List UInt8) (p q : Option Addr) (l c m d : Nat) (w9 : World) (hsz : base.size = 128)
    (b1 : base.getD 1 undef = .pointer (some ⟨g, 0, none⟩)) (h9 : OpB w9 g t n sq kd ot on pt pn nm p q l c m d)
    (cV : ∀ W, Below w9.heap.size w9 W → Calls Try.prog 40 #[.agg #[.int .i64 t, .int .i64 n]] W fun e w' => e = .returned (.bool true) ∧ Below W.heap.size W w')
    (h1 : ¬ sq < 1) (h2 : ¬ 1152921504606846976 < sq) (z : Int)
    (cM : ∀ W, Below w9.heap.size w9 W → Calls Try.prog 41 #[.slice q m d] W fun e w' => e = .returned (.bool true) ∧ Below W.heap.size W w')
    (cA : ∀ W, Below w9.heap.size w9 W → Calls Try.prog 36 #[.slice q m d, .int .i64 n] W fun e w' => e = .returned (.int .i64 z) ∧ Below W.heap.size W w')
    (hQ : ∀ W, Below w9.heap.size w9 W → Q .normal ⟨putAll base [(some 3, .pointer (some ⟨g, 0, none⟩)), (some 4, .agg #[.int .i64 t, .int .i64 n]), (some 5, .bool true), (some 6, .bool false), (some 7, .bool false), (some 8, .pointer (some ⟨g, 2, none⟩)), (some 9, .int .i64 sq), (some 10, .bool false), (some 11, .bool false), (some 12, .bool false), (some 13, .pointer (some ⟨g, 2, none⟩)), (some 14, .int .i64 sq), (some 15, .bool false), (some 16, .bool false), (some 17, .bool false), (some 18, .pointer (some ⟨g, 10, none⟩)), (some 19, .slice q m d), (some 20, .bool true), (some 21, .bool false), (some 22, .bool false), (some 23, .bool false), (some 24, .pointer (some ⟨g, 10, none⟩)), (some 25, .slice q m d), (some 26, .pointer (some ⟨g, 0, none⟩)), (some 27, .pointer (some ⟨g, 1, none⟩)), (some 28, .int .i64 n), (some 29, .int .i64 z), (some 30, .pointer (some ⟨g, 2, none⟩)), (some 31, .int .i64 sq), (some 32, .int .i64 (sq - 1)), (some 33, .bool (z != sq - 1)), (some 34, .bool (z != sq - 1))], dd⟩ W) :
    (Code.region 1 ops true).wp Try.prog Q ⟨base, dd⟩ w9 := by
  have hmix : Try.prog.follows .mixedOrders = true := by kernel_rfl
  have h2 := (show Try.f24.body.bind (regs 1) = some _ from rfl).symm.trans hops
  obtain rfl := Option.some.inj h2
  clear h2 hops
  have below9 : Below w9.heap.size w9 w9.drew := (Below.refl _ _).drew
  obtain ⟨LL, hLe⟩ : ∃ LL : List (Option Tmp × Value), LL = [(some 3, .pointer (some ⟨g, 0, none⟩)), (some 4, .agg #[.int .i64 t, .int .i64 n]), (some 5, .bool true), (some 6, .bool false), (some 7, .bool false), (some 8, .pointer (some ⟨g, 2, none⟩)), (some 9, .int .i64 sq), (some 10, .bool false), (some 11, .bool false), (some 12, .bool false), (some 13, .pointer (some ⟨g, 2, none⟩)), (some 14, .int .i64 sq), (some 15, .bool false), (some 16, .bool false), (some 17, .bool false), (some 18, .pointer (some ⟨g, 10, none⟩)), (some 19, .slice q m d), (some 20, .bool true), (some 21, .bool false), (some 22, .bool false), (some 23, .bool false), (some 24, .pointer (some ⟨g, 10, none⟩)), (some 25, .slice q m d), (some 26, .pointer (some ⟨g, 0, none⟩)), (some 27, .pointer (some ⟨g, 1, none⟩)), (some 28, .int .i64 n), (some 29, .int .i64 z), (some 30, .pointer (some ⟨g, 2, none⟩)), (some 31, .int .i64 sq), (some 32, .int .i64 (sq - 1)), (some 33, .bool (z != sq - 1)), (some 34, .bool (z != sq - 1))] := ⟨_, rfl⟩
  have vv0 : vals LL 0 = .pointer (some ⟨g, 0, none⟩) := by rw [hLe]; rfl
  have vv1 : vals LL 1 = .agg #[.int .i64 t, .int .i64 n] := by rw [hLe]; rfl
  have vv2 : vals LL 2 = .bool true := by rw [hLe]; rfl
  have vv3 : vals LL 3 = .bool false := by rw [hLe]; rfl
  have vv4 : vals LL 4 = .bool false := by rw [hLe]; rfl
  have vv5 : vals LL 5 = .pointer (some ⟨g, 2, none⟩) := by rw [hLe]; rfl
  have vv6 : vals LL 6 = .int .i64 sq := by rw [hLe]; rfl
  have vv7 : vals LL 7 = .bool false := by rw [hLe]; rfl
  have vv8 : vals LL 8 = .bool false := by rw [hLe]; rfl
  have vv9 : vals LL 9 = .bool false := by rw [hLe]; rfl
  have vv10 : vals LL 10 = .pointer (some ⟨g, 2, none⟩) := by rw [hLe]; rfl
  have vv11 : vals LL 11 = .int .i64 sq := by rw [hLe]; rfl
  have vv12 : vals LL 12 = .bool false := by rw [hLe]; rfl
  have vv13 : vals LL 13 = .bool false := by rw [hLe]; rfl
  have vv14 : vals LL 14 = .bool false := by rw [hLe]; rfl
  have vv15 : vals LL 15 = .pointer (some ⟨g, 10, none⟩) := by rw [hLe]; rfl
  have vv16 : vals LL 16 = .slice q m d := by rw [hLe]; rfl
  have vv17 : vals LL 17 = .bool true := by rw [hLe]; rfl
  have vv18 : vals LL 18 = .bool false := by rw [hLe]; rfl
  have vv19 : vals LL 19 = .bool false := by rw [hLe]; rfl
  have vv20 : vals LL 20 = .bool false := by rw [hLe]; rfl
  have vv21 : vals LL 21 = .pointer (some ⟨g, 10, none⟩) := by rw [hLe]; rfl
  have vv22 : vals LL 22 = .slice q m d := by rw [hLe]; rfl
  have vv23 : vals LL 23 = .pointer (some ⟨g, 0, none⟩) := by rw [hLe]; rfl
  have vv24 : vals LL 24 = .pointer (some ⟨g, 1, none⟩) := by rw [hLe]; rfl
  have vv25 : vals LL 25 = .int .i64 n := by rw [hLe]; rfl
  have vv26 : vals LL 26 = .int .i64 z := by rw [hLe]; rfl
  have vv27 : vals LL 27 = .pointer (some ⟨g, 2, none⟩) := by rw [hLe]; rfl
  have vv28 : vals LL 28 = .int .i64 sq := by rw [hLe]; rfl
  have vv29 : vals LL 29 = .int .i64 (sq - 1) := by rw [hLe]; rfl
  have vv30 : vals LL 30 = .bool (z != sq - 1) := by rw [hLe]; rfl
  have vv31 : vals LL 31 = .bool (z != sq - 1) := by rw [hLe]; rfl
  refine region_laid hmix (by kernel_rfl) 128 hsz (by kernel_rfl) LL (by rw [hLe]; rfl) (fun _ W => Below w9.heap.size w9 W) below9 ?_ ?_
  · intro b W i o a hS hcl ho hb hd ev kp yl
    match i with
    | 0 =>
      simp only [List.getElem?_toArray, List.getElem?_cons_zero, Option.some.injEq] at ho
      subst ho
      have e1 : a.tmps[1]?.getD undef = .pointer (some ⟨g, 0, none⟩) := (kp 1 (by kernel_rfl)).trans b1
      rw [vv0]
      refine does_value rfl (by intro c h; cases h) (w' := W) ?_ (hS)
      · simp [execOp, go_sem, e1]
    | 1 =>
      simp only [List.getElem?_toArray, List.getElem?_cons_zero, List.getElem?_cons_succ, Option.some.injEq] at ho
      subst ho
      have p0 : b 0 = true := hd ⟨0, .data⟩ (by simp) rfl
      have e3 := (ev 0 3 rfl p0).trans vv0
      obtain ⟨d0, d1, d2, d3, d4, d5, d6, d7, d8, d9, d10⟩ := (h9.below hS).cells
      rw [vv1]
      refine does_value rfl (by intro c h; cases h) (w' := W) ?_ (hS)
      · simp [execOp, go_sem, e3, d0, d1]
    | 2 =>
      simp only [List.getElem?_toArray, List.getElem?_cons_zero, List.getElem?_cons_succ, Option.some.injEq] at ho
      subst ho
      have p1 : b 1 = true := hd ⟨1, .data⟩ (by simp) rfl
      have e4 := (ev 1 4 rfl p1).trans vv1
      rw [vv2]
      refine does_call rfl (by intro c h; cases h) (f := 40) (args := #[.agg #[.int .i64 t, .int .i64 n]]) ?_ ?_
      · simp [go_sem, e4]
      · exact (cV W hS).mono (fun e w' h => ⟨h.1, hS.trans (h.2.mono hS.size)⟩)
    | 3 =>
      simp only [List.getElem?_toArray, List.getElem?_cons_zero, List.getElem?_cons_succ, Option.some.injEq] at ho
      subst ho
      have p2 : b 2 = true := hd ⟨2, .data⟩ (by simp) rfl
      have e5 := (ev 2 5 rfl p2).trans vv2
      rw [vv3]
      refine does_value rfl (by intro c h; cases h) (w' := W) ?_ (hS)
      · simp [execOp, go_sem, e5]
    | 4 =>
      simp only [List.getElem?_toArray, List.getElem?_cons_zero, List.getElem?_cons_succ, Option.some.injEq] at ho
      subst ho
      have p3 : b 3 = true := hd ⟨3, .data⟩ (by simp) rfl
      have e6 := (ev 3 6 rfl p3).trans vv3
      rw [vv4]
      refine does_value rfl (by intro c h; cases h) (w' := W) ?_ (hS)
      · simp [execOp, go_sem, e6]
    | 5 =>
      simp only [List.getElem?_toArray, List.getElem?_cons_zero, List.getElem?_cons_succ, Option.some.injEq] at ho
      subst ho
      have p4 : b 4 = true := hd ⟨4, .guard⟩ (by simp) rfl
      have e1 : a.tmps[1]?.getD undef = .pointer (some ⟨g, 0, none⟩) := (kp 1 (by kernel_rfl)).trans b1
      rw [vv5]
      refine does_value_g rfl (yl 4 7 false rfl p4 vv4) (by intro c h; cases h) (w' := W) ?_ (hS)
      · simp [execOp, go_sem, e1]
    | 6 =>
      simp only [List.getElem?_toArray, List.getElem?_cons_zero, List.getElem?_cons_succ, Option.some.injEq] at ho
      subst ho
      have p5 : b 5 = true := hd ⟨5, .data⟩ (by simp) rfl
      have p4 : b 4 = true := hd ⟨4, .guard⟩ (by simp) rfl
      have e8 := (ev 5 8 rfl p5).trans vv5
      obtain ⟨d0, d1, d2, d3, d4, d5, d6, d7, d8, d9, d10⟩ := (h9.below hS).cells
      rw [vv6]
      refine does_value_g rfl (yl 4 7 false rfl p4 vv4) (by intro c h; cases h) (w' := W) ?_ (hS)
      · simp [execOp, go_sem, e8, d2]
    | 7 =>
      simp only [List.getElem?_toArray, List.getElem?_cons_zero, List.getElem?_cons_succ, Option.some.injEq] at ho
      subst ho
      have p6 : b 6 = true := hd ⟨6, .data⟩ (by simp) rfl
      have p4 : b 4 = true := hd ⟨4, .guard⟩ (by simp) rfl
      have e9 := (ev 6 9 rfl p6).trans vv6
      rw [vv7]
      refine does_value_g rfl (yl 4 7 false rfl p4 vv4) (by intro c h; cases h) (w' := W) ?_ (hS)
      · simp [execOp, go_sem, e9, h1]
    | 8 =>
      simp only [List.getElem?_toArray, List.getElem?_cons_zero, List.getElem?_cons_succ, Option.some.injEq] at ho
      subst ho
      have p4 : b 4 = true := hd ⟨4, .data⟩ (by simp) rfl
      have p7 : b 7 = true := hd ⟨7, .data⟩ (by simp) rfl
      have e7 := (ev 4 7 rfl p4).trans vv4
      have e10 := (ev 7 10 rfl p7).trans vv7
      rw [vv8]
      refine does_value rfl (by intro c h; cases h) (w' := W) ?_ (hS)
      · simp [execOp, go_sem, e7, e10]
    | 9 =>
      simp only [List.getElem?_toArray, List.getElem?_cons_zero, List.getElem?_cons_succ, Option.some.injEq] at ho
      subst ho
      have p8 : b 8 = true := hd ⟨8, .data⟩ (by simp) rfl
      have e11 := (ev 8 11 rfl p8).trans vv8
      rw [vv9]
      refine does_value rfl (by intro c h; cases h) (w' := W) ?_ (hS)
      · simp [execOp, go_sem, e11]
    | 10 =>
      simp only [List.getElem?_toArray, List.getElem?_cons_zero, List.getElem?_cons_succ, Option.some.injEq] at ho
      subst ho
      have p9 : b 9 = true := hd ⟨9, .guard⟩ (by simp) rfl
      have e1 : a.tmps[1]?.getD undef = .pointer (some ⟨g, 0, none⟩) := (kp 1 (by kernel_rfl)).trans b1
      rw [vv10]
      refine does_value_g rfl (yl 9 12 false rfl p9 vv9) (by intro c h; cases h) (w' := W) ?_ (hS)
      · simp [execOp, go_sem, e1]
    | 11 =>
      simp only [List.getElem?_toArray, List.getElem?_cons_zero, List.getElem?_cons_succ, Option.some.injEq] at ho
      subst ho
      have p10 : b 10 = true := hd ⟨10, .data⟩ (by simp) rfl
      have p9 : b 9 = true := hd ⟨9, .guard⟩ (by simp) rfl
      have e13 := (ev 10 13 rfl p10).trans vv10
      obtain ⟨d0, d1, d2, d3, d4, d5, d6, d7, d8, d9, d10⟩ := (h9.below hS).cells
      rw [vv11]
      refine does_value_g rfl (yl 9 12 false rfl p9 vv9) (by intro c h; cases h) (w' := W) ?_ (hS)
      · simp [execOp, go_sem, e13, d2]
    | 12 =>
      simp only [List.getElem?_toArray, List.getElem?_cons_zero, List.getElem?_cons_succ, Option.some.injEq] at ho
      subst ho
      have p11 : b 11 = true := hd ⟨11, .data⟩ (by simp) rfl
      have p9 : b 9 = true := hd ⟨9, .guard⟩ (by simp) rfl
      have e14 := (ev 11 14 rfl p11).trans vv11
      rw [vv12]
      refine does_value_g rfl (yl 9 12 false rfl p9 vv9) (by intro c h; cases h) (w' := W) ?_ (hS)
      · simp [execOp, go_sem, e14, h2]
    | 13 =>
      simp only [List.getElem?_toArray, List.getElem?_cons_zero, List.getElem?_cons_succ, Option.some.injEq] at ho
      subst ho
      have p9 : b 9 = true := hd ⟨9, .data⟩ (by simp) rfl
      have p12 : b 12 = true := hd ⟨12, .data⟩ (by simp) rfl
      have e12 := (ev 9 12 rfl p9).trans vv9
      have e15 := (ev 12 15 rfl p12).trans vv12
      rw [vv13]
      refine does_value rfl (by intro c h; cases h) (w' := W) ?_ (hS)
      · simp [execOp, go_sem, e12, e15]
    | 14 =>
      simp only [List.getElem?_toArray, List.getElem?_cons_zero, List.getElem?_cons_succ, Option.some.injEq] at ho
      subst ho
      have p13 : b 13 = true := hd ⟨13, .data⟩ (by simp) rfl
      have e16 := (ev 13 16 rfl p13).trans vv13
      rw [vv14]
      refine does_value rfl (by intro c h; cases h) (w' := W) ?_ (hS)
      · simp [execOp, go_sem, e16]
    | 15 =>
      simp only [List.getElem?_toArray, List.getElem?_cons_zero, List.getElem?_cons_succ, Option.some.injEq] at ho
      subst ho
      have p14 : b 14 = true := hd ⟨14, .guard⟩ (by simp) rfl
      have e1 : a.tmps[1]?.getD undef = .pointer (some ⟨g, 0, none⟩) := (kp 1 (by kernel_rfl)).trans b1
      rw [vv15]
      refine does_value_g rfl (yl 14 17 false rfl p14 vv14) (by intro c h; cases h) (w' := W) ?_ (hS)
      · simp [execOp, go_sem, e1]
    | 16 =>
      simp only [List.getElem?_toArray, List.getElem?_cons_zero, List.getElem?_cons_succ, Option.some.injEq] at ho
      subst ho
      have p15 : b 15 = true := hd ⟨15, .data⟩ (by simp) rfl
      have p14 : b 14 = true := hd ⟨14, .guard⟩ (by simp) rfl
      have e18 := (ev 15 18 rfl p15).trans vv15
      obtain ⟨d0, d1, d2, d3, d4, d5, d6, d7, d8, d9, d10⟩ := (h9.below hS).cells
      rw [vv16]
      refine does_value_g rfl (yl 14 17 false rfl p14 vv14) (by intro c h; cases h) (w' := W) ?_ (hS)
      · simp [execOp, go_sem, e18, d10]
    | 17 =>
      simp only [List.getElem?_toArray, List.getElem?_cons_zero, List.getElem?_cons_succ, Option.some.injEq] at ho
      subst ho
      have p16 : b 16 = true := hd ⟨16, .data⟩ (by simp) rfl
      have p14 : b 14 = true := hd ⟨14, .guard⟩ (by simp) rfl
      have e19 := (ev 16 19 rfl p16).trans vv16
      rw [vv17]
      refine does_call_g rfl (yl 14 17 false rfl p14 vv14) (by intro c h; cases h) (f := 41) (args := #[.slice q m d]) ?_ ?_
      · simp [go_sem, e19]
      · exact (cM W hS).mono (fun e w' h => ⟨h.1, hS.trans (h.2.mono hS.size)⟩)
    | 18 =>
      simp only [List.getElem?_toArray, List.getElem?_cons_zero, List.getElem?_cons_succ, Option.some.injEq] at ho
      subst ho
      have p17 : b 17 = true := hd ⟨17, .data⟩ (by simp) rfl
      have p14 : b 14 = true := hd ⟨14, .guard⟩ (by simp) rfl
      have e20 := (ev 17 20 rfl p17).trans vv17
      rw [vv18]
      refine does_value_g rfl (yl 14 17 false rfl p14 vv14) (by intro c h; cases h) (w' := W) ?_ (hS)
      · simp [execOp, go_sem, e20]
    | 19 =>
      simp only [List.getElem?_toArray, List.getElem?_cons_zero, List.getElem?_cons_succ, Option.some.injEq] at ho
      subst ho
      have p14 : b 14 = true := hd ⟨14, .data⟩ (by simp) rfl
      have p18 : b 18 = true := hd ⟨18, .data⟩ (by simp) rfl
      have e17 := (ev 14 17 rfl p14).trans vv14
      have e21 := (ev 18 21 rfl p18).trans vv18
      rw [vv19]
      refine does_value rfl (by intro c h; cases h) (w' := W) ?_ (hS)
      · simp [execOp, go_sem, e17, e21]
    | 20 =>
      simp only [List.getElem?_toArray, List.getElem?_cons_zero, List.getElem?_cons_succ, Option.some.injEq] at ho
      subst ho
      have p19 : b 19 = true := hd ⟨19, .data⟩ (by simp) rfl
      have e22 := (ev 19 22 rfl p19).trans vv19
      rw [vv20]
      refine does_value rfl (by intro c h; cases h) (w' := W) ?_ (hS)
      · simp [execOp, go_sem, e22]
    | 21 =>
      simp only [List.getElem?_toArray, List.getElem?_cons_zero, List.getElem?_cons_succ, Option.some.injEq] at ho
      subst ho
      have p20 : b 20 = true := hd ⟨20, .guard⟩ (by simp) rfl
      have e1 : a.tmps[1]?.getD undef = .pointer (some ⟨g, 0, none⟩) := (kp 1 (by kernel_rfl)).trans b1
      rw [vv21]
      refine does_value_g rfl (yl 20 23 false rfl p20 vv20) (by intro c h; cases h) (w' := W) ?_ (hS)
      · simp [execOp, go_sem, e1]
    | 22 =>
      simp only [List.getElem?_toArray, List.getElem?_cons_zero, List.getElem?_cons_succ, Option.some.injEq] at ho
      subst ho
      have p21 : b 21 = true := hd ⟨21, .data⟩ (by simp) rfl
      have p20 : b 20 = true := hd ⟨20, .guard⟩ (by simp) rfl
      have e24 := (ev 21 24 rfl p21).trans vv21
      obtain ⟨d0, d1, d2, d3, d4, d5, d6, d7, d8, d9, d10⟩ := (h9.below hS).cells
      rw [vv22]
      refine does_value_g rfl (yl 20 23 false rfl p20 vv20) (by intro c h; cases h) (w' := W) ?_ (hS)
      · simp [execOp, go_sem, e24, d10]
    | 23 =>
      simp only [List.getElem?_toArray, List.getElem?_cons_zero, List.getElem?_cons_succ, Option.some.injEq] at ho
      subst ho
      have p20 : b 20 = true := hd ⟨20, .guard⟩ (by simp) rfl
      have e1 : a.tmps[1]?.getD undef = .pointer (some ⟨g, 0, none⟩) := (kp 1 (by kernel_rfl)).trans b1
      rw [vv23]
      refine does_value_g rfl (yl 20 23 false rfl p20 vv20) (by intro c h; cases h) (w' := W) ?_ (hS)
      · simp [execOp, go_sem, e1]
    | 24 =>
      simp only [List.getElem?_toArray, List.getElem?_cons_zero, List.getElem?_cons_succ, Option.some.injEq] at ho
      subst ho
      have p23 : b 23 = true := hd ⟨23, .data⟩ (by simp) rfl
      have p20 : b 20 = true := hd ⟨20, .guard⟩ (by simp) rfl
      have e26 := (ev 23 26 rfl p23).trans vv23
      rw [vv24]
      refine does_value_g rfl (yl 20 23 false rfl p20 vv20) (by intro c h; cases h) (w' := W) ?_ (hS)
      · simp [execOp, go_sem, e26]
    | 25 =>
      simp only [List.getElem?_toArray, List.getElem?_cons_zero, List.getElem?_cons_succ, Option.some.injEq] at ho
      subst ho
      have p24 : b 24 = true := hd ⟨24, .data⟩ (by simp) rfl
      have p20 : b 20 = true := hd ⟨20, .guard⟩ (by simp) rfl
      have e27 := (ev 24 27 rfl p24).trans vv24
      obtain ⟨d0, d1, d2, d3, d4, d5, d6, d7, d8, d9, d10⟩ := (h9.below hS).cells
      rw [vv25]
      refine does_value_g rfl (yl 20 23 false rfl p20 vv20) (by intro c h; cases h) (w' := W) ?_ (hS)
      · simp [execOp, go_sem, e27, d1]
    | 26 =>
      simp only [List.getElem?_toArray, List.getElem?_cons_zero, List.getElem?_cons_succ, Option.some.injEq] at ho
      subst ho
      have p22 : b 22 = true := hd ⟨22, .data⟩ (by simp) rfl
      have p25 : b 25 = true := hd ⟨25, .data⟩ (by simp) rfl
      have p20 : b 20 = true := hd ⟨20, .guard⟩ (by simp) rfl
      have e25 := (ev 22 25 rfl p22).trans vv22
      have e28 := (ev 25 28 rfl p25).trans vv25
      rw [vv26]
      refine does_call_g rfl (yl 20 23 false rfl p20 vv20) (by intro c h; cases h) (f := 36) (args := #[.slice q m d, .int .i64 n]) ?_ ?_
      · simp [go_sem, e25, e28]
      · exact (cA W hS).mono (fun e w' h => ⟨h.1, hS.trans (h.2.mono hS.size)⟩)
    | 27 =>
      simp only [List.getElem?_toArray, List.getElem?_cons_zero, List.getElem?_cons_succ, Option.some.injEq] at ho
      subst ho
      have p20 : b 20 = true := hd ⟨20, .guard⟩ (by simp) rfl
      have e1 : a.tmps[1]?.getD undef = .pointer (some ⟨g, 0, none⟩) := (kp 1 (by kernel_rfl)).trans b1
      rw [vv27]
      refine does_value_g rfl (yl 20 23 false rfl p20 vv20) (by intro c h; cases h) (w' := W) ?_ (hS)
      · simp [execOp, go_sem, e1]
    | 28 =>
      simp only [List.getElem?_toArray, List.getElem?_cons_zero, List.getElem?_cons_succ, Option.some.injEq] at ho
      subst ho
      have p27 : b 27 = true := hd ⟨27, .data⟩ (by simp) rfl
      have p20 : b 20 = true := hd ⟨20, .guard⟩ (by simp) rfl
      have e30 := (ev 27 30 rfl p27).trans vv27
      obtain ⟨d0, d1, d2, d3, d4, d5, d6, d7, d8, d9, d10⟩ := (h9.below hS).cells
      rw [vv28]
      refine does_value_g rfl (yl 20 23 false rfl p20 vv20) (by intro c h; cases h) (w' := W) ?_ (hS)
      · simp [execOp, go_sem, e30, d2]
    | 29 =>
      simp only [List.getElem?_toArray, List.getElem?_cons_zero, List.getElem?_cons_succ, Option.some.injEq] at ho
      subst ho
      have p28 : b 28 = true := hd ⟨28, .data⟩ (by simp) rfl
      have p20 : b 20 = true := hd ⟨20, .guard⟩ (by simp) rfl
      have e31 := (ev 28 31 rfl p28).trans vv28
      rw [vv29]
      refine does_value_g rfl (yl 20 23 false rfl p20 vv20) (by intro c h; cases h) (w' := W) ?_ (hS)
      · simp [execOp, go_sem, e31]; rw [IntKind.wrap_i64] <;> omega
    | 30 =>
      simp only [List.getElem?_toArray, List.getElem?_cons_zero, List.getElem?_cons_succ, Option.some.injEq] at ho
      subst ho
      have p26 : b 26 = true := hd ⟨26, .data⟩ (by simp) rfl
      have p29 : b 29 = true := hd ⟨29, .data⟩ (by simp) rfl
      have p20 : b 20 = true := hd ⟨20, .guard⟩ (by simp) rfl
      have e29 := (ev 26 29 rfl p26).trans vv26
      have e32 := (ev 29 32 rfl p29).trans vv29
      rw [vv30]
      refine does_value_g rfl (yl 20 23 false rfl p20 vv20) (by intro c h; cases h) (w' := W) ?_ (hS)
      · simp [execOp, go_sem, e29, e32]
    | 31 =>
      simp only [List.getElem?_toArray, List.getElem?_cons_zero, List.getElem?_cons_succ, Option.some.injEq] at ho
      subst ho
      have p20 : b 20 = true := hd ⟨20, .data⟩ (by simp) rfl
      have p30 : b 30 = true := hd ⟨30, .data⟩ (by simp) rfl
      have e23 := (ev 20 23 rfl p20).trans vv20
      have e33 := (ev 30 33 rfl p30).trans vv30
      rw [vv31]
      refine does_value rfl (by intro c h; cases h) (w' := W) ?_ (hS)
      · simp [execOp, go_sem, e23, e33]
    | k + 32 => simp at ho
  · intro b' W hS _
    subst hLe
    exact hQ W hS

end Go.Proofs.Ytgpbphjplbhfmaa.Cd
