/-
  DirLoad, for all its arguments, whatever the memory and the order that Go leaves open, returns true and leaves its arguments and all memory that was there as it was. The table of package crc starts as the program's text lays it (the card ties it).
-/
import Derived.Test.YtdocablbkafkiaaDoorDc
import Derived.Test.YtdocablbkafkiaaDoorRg
import Derived.Test.YtdocablbkafkiaaDoorFe
import Derived.Test.YtdocablbkafkiaaDoorZa
import Derived.Laws.BitsAllLaws
import Derived.BigQuiet
import Derived.Test.YtdocablbkafkiaaDoorCel

/-
  One round of DirLoad's last loop: the condition, drawn in any order.
-/
namespace Go.Proofs.YtdocablbkafkiaaDoor.Cd
open Go.RowKit Go.Maps

/-- A region of a body, by its number. -/
def regs (n : Nat) : Code → Option (Array Oper)
  | .region k ops _ => if k = n then some ops else none
  | .seq a b => match regs n a with | some x => some x | none => regs n b
  | .cond _ a b => match regs n a with | some x => some x | none => regs n b
  | .block _ b => regs n b
  | .loop b => regs n b
  | .scope b => regs n b
  | .rangeFunc _ _ a b => match regs n a with | some x => some x | none => regs n b
  | _ => none

set_option maxRecDepth 8000 in
set_option maxHeartbeats 4000000 in
theorem reg25_zero {Q : Exit → Act → World → Prop} {base : Array Value} {d : List Deferred} {ops : Array Oper} (hops : Tryd.f4.body.bind (regs 25) = some ops) (gB oB n8 c8_ nk : Nat) (sx : ByteArray) (w9 : World) (hsz : base.size = 142)
    (b15 : base.getD 15 undef = .slice (some ⟨gB, oB, none⟩) n8 c8_) (b16 : base.getD 16 undef = .int .i64 (0 : Nat)) (b17 : base.getD 17 undef = .int .i64 (nk : Nat)) (b18 : base.getD 18 undef = .bool true)
    (hlt : 0 < n8) (c9 : w9.cell? ⟨gB, oB, none⟩ = some (.string sx)) (cL : ∀ W, Calls Tryd.prog 9 #[.string sx] W fun e w' => e = .returned (.int .i64 0) ∧ w' = W) (q1 : ¬ (nk : Int) < 1) (q2 : ¬ (2147483647 : Int) < (nk : Int))
    (hQ : ∀ W, Below w9.heap.size w9 W → Q .normal ⟨putAll base [(some 107, .slice (some ⟨gB, oB, none⟩) n8 c8_), (some 108, .int .i64 (0 : Nat)), (some 109, .pointer (some ⟨gB, oB, none⟩)), (some 110, .string sx), (some 111, .int .i64 0), (some 112, .bool false), (some 113, .bool false), (some 114, .int .i64 (0 : Nat)), (some 115, .bool false), (some 116, .bool false), (some 117, undef), (some 118, undef), (some 119, undef), (some 120, undef), (some 121, undef), (some 122, undef), (some 123, undef), (some 124, undef), (some 125, undef), (some 126, undef), (some 127, .bool false), (some 128, .bool false), (some 129, .bool false), (some 130, .bool true), (some 131, .bool false), (some 132, .bool false), (some 133, .bool false), (some 134, .int .i64 (nk : Nat)), (some 135, .bool false), (some 136, .bool false), (some 137, .bool false), (some 138, .int .i64 (nk : Nat)), (some 139, .bool false), (some 140, .bool false)], d⟩ W) :
    (Code.region 25 ops true).wp Tryd.prog Q ⟨base, d⟩ w9 := by
  have hmix : Tryd.prog.follows .mixedOrders = true := by kernel_rfl
  have h2 := (show Tryd.f4.body.bind (regs 25) = some _ from rfl).symm.trans hops
  obtain rfl := Option.some.inj h2
  clear h2 hops
  have below9 : Below w9.heap.size w9 w9.drew := (Below.refl _ _).drew
  have hltJ : 0 < n8 := hlt
  obtain ⟨LL, hLe⟩ : ∃ LL : List (Option Tmp × Value), LL = [(some 107, .slice (some ⟨gB, oB, none⟩) n8 c8_), (some 108, .int .i64 (0 : Nat)), (some 109, .pointer (some ⟨gB, oB, none⟩)), (some 110, .string sx), (some 111, .int .i64 0), (some 112, .bool false), (some 113, .bool false), (some 114, .int .i64 (0 : Nat)), (some 115, .bool false), (some 116, .bool false), (some 117, undef), (some 118, undef), (some 119, undef), (some 120, undef), (some 121, undef), (some 122, undef), (some 123, undef), (some 124, undef), (some 125, undef), (some 126, undef), (some 127, .bool false), (some 128, .bool false), (some 129, .bool false), (some 130, .bool true), (some 131, .bool false), (some 132, .bool false), (some 133, .bool false), (some 134, .int .i64 (nk : Nat)), (some 135, .bool false), (some 136, .bool false), (some 137, .bool false), (some 138, .int .i64 (nk : Nat)), (some 139, .bool false), (some 140, .bool false)] := ⟨_, rfl⟩
  have vv0 : vals LL 0 = .slice (some ⟨gB, oB, none⟩) n8 c8_ := by rw [hLe]; rfl
  have vv1 : vals LL 1 = .int .i64 (0 : Nat) := by rw [hLe]; rfl
  have vv2 : vals LL 2 = .pointer (some ⟨gB, oB, none⟩) := by rw [hLe]; rfl
  have vv3 : vals LL 3 = .string sx := by rw [hLe]; rfl
  have vv4 : vals LL 4 = .int .i64 0 := by rw [hLe]; rfl
  have vv5 : vals LL 5 = .bool false := by rw [hLe]; rfl
  have vv6 : vals LL 6 = .bool false := by rw [hLe]; rfl
  have vv7 : vals LL 7 = .int .i64 (0 : Nat) := by rw [hLe]; rfl
  have vv8 : vals LL 8 = .bool false := by rw [hLe]; rfl
  have vv9 : vals LL 9 = .bool false := by rw [hLe]; rfl
  have vv10 : vals LL 10 = undef := by rw [hLe]; rfl
  have vv11 : vals LL 11 = undef := by rw [hLe]; rfl
  have vv12 : vals LL 12 = undef := by rw [hLe]; rfl
  have vv13 : vals LL 13 = undef := by rw [hLe]; rfl
  have vv14 : vals LL 14 = undef := by rw [hLe]; rfl
  have vv15 : vals LL 15 = undef := by rw [hLe]; rfl
  have vv16 : vals LL 16 = undef := by rw [hLe]; rfl
  have vv17 : vals LL 17 = undef := by rw [hLe]; rfl
  have vv18 : vals LL 18 = undef := by rw [hLe]; rfl
  have vv19 : vals LL 19 = undef := by rw [hLe]; rfl
  have vv20 : vals LL 20 = .bool false := by rw [hLe]; rfl
  have vv21 : vals LL 21 = .bool false := by rw [hLe]; rfl
  have vv22 : vals LL 22 = .bool false := by rw [hLe]; rfl
  have vv23 : vals LL 23 = .bool true := by rw [hLe]; rfl
  have vv24 : vals LL 24 = .bool false := by rw [hLe]; rfl
  have vv25 : vals LL 25 = .bool false := by rw [hLe]; rfl
  have vv26 : vals LL 26 = .bool false := by rw [hLe]; rfl
  have vv27 : vals LL 27 = .int .i64 (nk : Nat) := by rw [hLe]; rfl
  have vv28 : vals LL 28 = .bool false := by rw [hLe]; rfl
  have vv29 : vals LL 29 = .bool false := by rw [hLe]; rfl
  have vv30 : vals LL 30 = .bool false := by rw [hLe]; rfl
  have vv31 : vals LL 31 = .int .i64 (nk : Nat) := by rw [hLe]; rfl
  have vv32 : vals LL 32 = .bool false := by rw [hLe]; rfl
  have vv33 : vals LL 33 = .bool false := by rw [hLe]; rfl
  refine region_laid hmix (by kernel_rfl) 142 hsz (by kernel_rfl) LL (by rw [hLe]; rfl) (fun _ W => Below w9.heap.size w9 W) below9 ?_ ?_
  · intro b W i o a hS hcl ho hb hd ev kp yl
    match i with
    | 0 =>
      simp only [List.getElem?_toArray, List.getElem?_cons_zero, Option.some.injEq] at ho
      subst ho
      have e15 : a.tmps[15]?.getD undef = .slice (some ⟨gB, oB, none⟩) n8 c8_ := (kp 15 (by kernel_rfl)).trans b15
      rw [vv0]
      refine does_value rfl (by intro c h; cases h) (w' := W) ?_ (hS)
      · simp [execOp, go_sem, e15]
    | 1 =>
      simp only [List.getElem?_toArray, List.getElem?_cons_zero, List.getElem?_cons_succ, Option.some.injEq] at ho
      subst ho
      have e16 : a.tmps[16]?.getD undef = .int .i64 (0 : Nat) := (kp 16 (by kernel_rfl)).trans b16
      rw [vv1]
      refine does_value rfl (by intro c h; cases h) (w' := W) ?_ (hS)
      · simp [execOp, go_sem, e16]
    | 2 =>
      simp only [List.getElem?_toArray, List.getElem?_cons_zero, List.getElem?_cons_succ, Option.some.injEq] at ho
      subst ho
      have p0 : b 0 = true := hd ⟨0, .data⟩ (by simp) rfl
      have p1 : b 1 = true := hd ⟨1, .data⟩ (by simp) rfl
      have e107 := (ev 0 107 rfl p0).trans vv0
      have e108 := (ev 1 108 rfl p1).trans vv1
      rw [vv2]
      refine does_value rfl (by intro c h; cases h) (w' := W) ?_ (hS)
      · simp [execOp, go_sem, e107, e108, hltJ]
    | 3 =>
      simp only [List.getElem?_toArray, List.getElem?_cons_zero, List.getElem?_cons_succ, Option.some.injEq] at ho
      subst ho
      have p2 : b 2 = true := hd ⟨2, .data⟩ (by simp) rfl
      have e109 := (ev 2 109 rfl p2).trans vv2
      have hl := (hS.cell (p := ⟨gB, oB, none⟩) (cell_lt c9)).trans c9
      rw [vv3]
      refine does_value rfl (by intro c h; cases h) (w' := W) ?_ (hS)
      · simp [execOp, go_sem, e109, hl]
    | 4 =>
      simp only [List.getElem?_toArray, List.getElem?_cons_zero, List.getElem?_cons_succ, Option.some.injEq] at ho
      subst ho
      have p3 : b 3 = true := hd ⟨3, .data⟩ (by simp) rfl
      have e110 := (ev 3 110 rfl p3).trans vv3
      rw [vv4]
      refine does_call rfl (by intro c h; cases h) (f := 9) (args := #[.string sx]) ?_ ?_
      · simp [go_sem, e110]
      · exact (cL W).mono (fun e w' h => by obtain ⟨rfl, rfl⟩ := h; exact ⟨rfl, hS⟩)
    | 5 =>
      simp only [List.getElem?_toArray, List.getElem?_cons_zero, List.getElem?_cons_succ, Option.some.injEq] at ho
      subst ho
      have p4 : b 4 = true := hd ⟨4, .data⟩ (by simp) rfl
      have e111 := (ev 4 111 rfl p4).trans vv4
      rw [vv5]
      refine does_value rfl (by intro c h; cases h) (w' := W) ?_ (hS)
      · simp [execOp, go_sem, e111]
    | 6 =>
      simp only [List.getElem?_toArray, List.getElem?_cons_zero, List.getElem?_cons_succ, Option.some.injEq] at ho
      subst ho
      have p5 : b 5 = true := hd ⟨5, .data⟩ (by simp) rfl
      have e112 := (ev 5 112 rfl p5).trans vv5
      rw [vv6]
      refine does_value rfl (by intro c h; cases h) (w' := W) ?_ (hS)
      · simp [execOp, go_sem, e112]
    | 7 =>
      simp only [List.getElem?_toArray, List.getElem?_cons_zero, List.getElem?_cons_succ, Option.some.injEq] at ho
      subst ho
      have p6 : b 6 = true := hd ⟨6, .guard⟩ (by simp) rfl
      have e16 : a.tmps[16]?.getD undef = .int .i64 (0 : Nat) := (kp 16 (by kernel_rfl)).trans b16
      rw [vv7]
      refine does_value_g rfl (yl 6 113 false rfl p6 vv6) (by intro c h; cases h) (w' := W) ?_ (hS)
      · simp [execOp, go_sem, e16]
    | 8 =>
      simp only [List.getElem?_toArray, List.getElem?_cons_zero, List.getElem?_cons_succ, Option.some.injEq] at ho
      subst ho
      have p7 : b 7 = true := hd ⟨7, .data⟩ (by simp) rfl
      have p6 : b 6 = true := hd ⟨6, .guard⟩ (by simp) rfl
      have e114 := (ev 7 114 rfl p7).trans vv7
      rw [vv8]
      refine does_value_g rfl (yl 6 113 false rfl p6 vv6) (by intro c h; cases h) (w' := W) ?_ (hS)
      · simp [execOp, go_sem, e114]
    | 9 =>
      simp only [List.getElem?_toArray, List.getElem?_cons_zero, List.getElem?_cons_succ, Option.some.injEq] at ho
      subst ho
      have p8 : b 8 = true := hd ⟨8, .data⟩ (by simp) rfl
      have p6 : b 6 = true := hd ⟨6, .guard⟩ (by simp) rfl
      have e115 := (ev 8 115 rfl p8).trans vv8
      rw [vv9]
      refine does_value_g rfl (yl 6 113 false rfl p6 vv6) (by intro c h; cases h) (w' := W) ?_ (hS)
      · simp [execOp, go_sem, e115]
    | 10 =>
      simp only [List.getElem?_toArray, List.getElem?_cons_zero, List.getElem?_cons_succ, Option.some.injEq] at ho
      subst ho
      have p9 : b 9 = true := hd ⟨9, .guard⟩ (by simp) rfl
      exact does_pass rfl (yl 9 116 false rfl p9 vv9) (by decide) vv10 (hS)
    | 11 =>
      simp only [List.getElem?_toArray, List.getElem?_cons_zero, List.getElem?_cons_succ, Option.some.injEq] at ho
      subst ho
      have p9 : b 9 = true := hd ⟨9, .guard⟩ (by simp) rfl
      exact does_pass rfl (yl 9 116 false rfl p9 vv9) (by decide) vv11 (hS)
    | 12 =>
      simp only [List.getElem?_toArray, List.getElem?_cons_zero, List.getElem?_cons_succ, Option.some.injEq] at ho
      subst ho
      have p10 : b 10 = true := hd ⟨10, .data⟩ (by simp) rfl
      have p11 : b 11 = true := hd ⟨11, .data⟩ (by simp) rfl
      have p9 : b 9 = true := hd ⟨9, .guard⟩ (by simp) rfl
      exact does_pass rfl (yl 9 116 false rfl p9 vv9) (by decide) vv12 (hS)
    | 13 =>
      simp only [List.getElem?_toArray, List.getElem?_cons_zero, List.getElem?_cons_succ, Option.some.injEq] at ho
      subst ho
      have p12 : b 12 = true := hd ⟨12, .data⟩ (by simp) rfl
      have p9 : b 9 = true := hd ⟨9, .guard⟩ (by simp) rfl
      exact does_pass rfl (yl 9 116 false rfl p9 vv9) (by decide) vv13 (hS)
    | 14 =>
      simp only [List.getElem?_toArray, List.getElem?_cons_zero, List.getElem?_cons_succ, Option.some.injEq] at ho
      subst ho
      have p9 : b 9 = true := hd ⟨9, .guard⟩ (by simp) rfl
      exact does_pass rfl (yl 9 116 false rfl p9 vv9) (by decide) vv14 (hS)
    | 15 =>
      simp only [List.getElem?_toArray, List.getElem?_cons_zero, List.getElem?_cons_succ, Option.some.injEq] at ho
      subst ho
      have p9 : b 9 = true := hd ⟨9, .guard⟩ (by simp) rfl
      exact does_pass rfl (yl 9 116 false rfl p9 vv9) (by decide) vv15 (hS)
    | 16 =>
      simp only [List.getElem?_toArray, List.getElem?_cons_zero, List.getElem?_cons_succ, Option.some.injEq] at ho
      subst ho
      have p15 : b 15 = true := hd ⟨15, .data⟩ (by simp) rfl
      have p9 : b 9 = true := hd ⟨9, .guard⟩ (by simp) rfl
      exact does_pass rfl (yl 9 116 false rfl p9 vv9) (by decide) vv16 (hS)
    | 17 =>
      simp only [List.getElem?_toArray, List.getElem?_cons_zero, List.getElem?_cons_succ, Option.some.injEq] at ho
      subst ho
      have p14 : b 14 = true := hd ⟨14, .data⟩ (by simp) rfl
      have p16 : b 16 = true := hd ⟨16, .data⟩ (by simp) rfl
      have p9 : b 9 = true := hd ⟨9, .guard⟩ (by simp) rfl
      exact does_pass rfl (yl 9 116 false rfl p9 vv9) (by decide) vv17 (hS)
    | 18 =>
      simp only [List.getElem?_toArray, List.getElem?_cons_zero, List.getElem?_cons_succ, Option.some.injEq] at ho
      subst ho
      have p17 : b 17 = true := hd ⟨17, .data⟩ (by simp) rfl
      have p9 : b 9 = true := hd ⟨9, .guard⟩ (by simp) rfl
      exact does_pass rfl (yl 9 116 false rfl p9 vv9) (by decide) vv18 (hS)
    | 19 =>
      simp only [List.getElem?_toArray, List.getElem?_cons_zero, List.getElem?_cons_succ, Option.some.injEq] at ho
      subst ho
      have p13 : b 13 = true := hd ⟨13, .data⟩ (by simp) rfl
      have p18 : b 18 = true := hd ⟨18, .data⟩ (by simp) rfl
      have p9 : b 9 = true := hd ⟨9, .guard⟩ (by simp) rfl
      exact does_pass rfl (yl 9 116 false rfl p9 vv9) (by decide) vv19 (hS)
    | 20 =>
      simp only [List.getElem?_toArray, List.getElem?_cons_zero, List.getElem?_cons_succ, Option.some.injEq] at ho
      subst ho
      have p9 : b 9 = true := hd ⟨9, .data⟩ (by simp) rfl
      have p19 : b 19 = true := hd ⟨19, .data⟩ (by simp) rfl
      have p6 : b 6 = true := hd ⟨6, .guard⟩ (by simp) rfl
      have e116 := (ev 9 116 rfl p9).trans vv9
      rw [vv20]
      refine does_value_g rfl (yl 6 113 false rfl p6 vv6) (by intro c h; cases h) (w' := W) ?_ (hS)
      · simp [execOp, go_sem, e116]
    | 21 =>
      simp only [List.getElem?_toArray, List.getElem?_cons_zero, List.getElem?_cons_succ, Option.some.injEq] at ho
      subst ho
      have p6 : b 6 = true := hd ⟨6, .data⟩ (by simp) rfl
      have p20 : b 20 = true := hd ⟨20, .data⟩ (by simp) rfl
      have e113 := (ev 6 113 rfl p6).trans vv6
      have e127 := (ev 20 127 rfl p20).trans vv20
      rw [vv21]
      refine does_value rfl (by intro c h; cases h) (w' := W) ?_ (hS)
      · simp [execOp, go_sem, e113, e127]
    | 22 =>
      simp only [List.getElem?_toArray, List.getElem?_cons_zero, List.getElem?_cons_succ, Option.some.injEq] at ho
      subst ho
      have p21 : b 21 = true := hd ⟨21, .data⟩ (by simp) rfl
      have e128 := (ev 21 128 rfl p21).trans vv21
      rw [vv22]
      refine does_value rfl (by intro c h; cases h) (w' := W) ?_ (hS)
      · simp [execOp, go_sem, e128]
    | 23 =>
      simp only [List.getElem?_toArray, List.getElem?_cons_zero, List.getElem?_cons_succ, Option.some.injEq] at ho
      subst ho
      have p22 : b 22 = true := hd ⟨22, .guard⟩ (by simp) rfl
      have e18 : a.tmps[18]?.getD undef = .bool true := (kp 18 (by kernel_rfl)).trans b18
      rw [vv23]
      refine does_value_g rfl (yl 22 129 false rfl p22 vv22) (by intro c h; cases h) (w' := W) ?_ (hS)
      · simp [execOp, go_sem, e18]
    | 24 =>
      simp only [List.getElem?_toArray, List.getElem?_cons_zero, List.getElem?_cons_succ, Option.some.injEq] at ho
      subst ho
      have p23 : b 23 = true := hd ⟨23, .data⟩ (by simp) rfl
      have p22 : b 22 = true := hd ⟨22, .guard⟩ (by simp) rfl
      have e130 := (ev 23 130 rfl p23).trans vv23
      rw [vv24]
      refine does_value_g rfl (yl 22 129 false rfl p22 vv22) (by intro c h; cases h) (w' := W) ?_ (hS)
      · simp [execOp, go_sem, e130]
    | 25 =>
      simp only [List.getElem?_toArray, List.getElem?_cons_zero, List.getElem?_cons_succ, Option.some.injEq] at ho
      subst ho
      have p22 : b 22 = true := hd ⟨22, .data⟩ (by simp) rfl
      have p24 : b 24 = true := hd ⟨24, .data⟩ (by simp) rfl
      have e129 := (ev 22 129 rfl p22).trans vv22
      have e131 := (ev 24 131 rfl p24).trans vv24
      rw [vv25]
      refine does_value rfl (by intro c h; cases h) (w' := W) ?_ (hS)
      · simp [execOp, go_sem, e129, e131]
    | 26 =>
      simp only [List.getElem?_toArray, List.getElem?_cons_zero, List.getElem?_cons_succ, Option.some.injEq] at ho
      subst ho
      have p25 : b 25 = true := hd ⟨25, .data⟩ (by simp) rfl
      have e132 := (ev 25 132 rfl p25).trans vv25
      rw [vv26]
      refine does_value rfl (by intro c h; cases h) (w' := W) ?_ (hS)
      · simp [execOp, go_sem, e132]
    | 27 =>
      simp only [List.getElem?_toArray, List.getElem?_cons_zero, List.getElem?_cons_succ, Option.some.injEq] at ho
      subst ho
      have p26 : b 26 = true := hd ⟨26, .guard⟩ (by simp) rfl
      have e17 : a.tmps[17]?.getD undef = .int .i64 (nk : Nat) := (kp 17 (by kernel_rfl)).trans b17
      rw [vv27]
      refine does_value_g rfl (yl 26 133 false rfl p26 vv26) (by intro c h; cases h) (w' := W) ?_ (hS)
      · simp [execOp, go_sem, e17]
    | 28 =>
      simp only [List.getElem?_toArray, List.getElem?_cons_zero, List.getElem?_cons_succ, Option.some.injEq] at ho
      subst ho
      have p27 : b 27 = true := hd ⟨27, .data⟩ (by simp) rfl
      have p26 : b 26 = true := hd ⟨26, .guard⟩ (by simp) rfl
      have e134 := (ev 27 134 rfl p27).trans vv27
      rw [vv28]
      refine does_value_g rfl (yl 26 133 false rfl p26 vv26) (by intro c h; cases h) (w' := W) ?_ (hS)
      · simp [execOp, go_sem, e134, q1]
    | 29 =>
      simp only [List.getElem?_toArray, List.getElem?_cons_zero, List.getElem?_cons_succ, Option.some.injEq] at ho
      subst ho
      have p26 : b 26 = true := hd ⟨26, .data⟩ (by simp) rfl
      have p28 : b 28 = true := hd ⟨28, .data⟩ (by simp) rfl
      have e133 := (ev 26 133 rfl p26).trans vv26
      have e135 := (ev 28 135 rfl p28).trans vv28
      rw [vv29]
      refine does_value rfl (by intro c h; cases h) (w' := W) ?_ (hS)
      · simp [execOp, go_sem, e133, e135]
    | 30 =>
      simp only [List.getElem?_toArray, List.getElem?_cons_zero, List.getElem?_cons_succ, Option.some.injEq] at ho
      subst ho
      have p29 : b 29 = true := hd ⟨29, .data⟩ (by simp) rfl
      have e136 := (ev 29 136 rfl p29).trans vv29
      rw [vv30]
      refine does_value rfl (by intro c h; cases h) (w' := W) ?_ (hS)
      · simp [execOp, go_sem, e136]
    | 31 =>
      simp only [List.getElem?_toArray, List.getElem?_cons_zero, List.getElem?_cons_succ, Option.some.injEq] at ho
      subst ho
      have p30 : b 30 = true := hd ⟨30, .guard⟩ (by simp) rfl
      have e17 : a.tmps[17]?.getD undef = .int .i64 (nk : Nat) := (kp 17 (by kernel_rfl)).trans b17
      rw [vv31]
      refine does_value_g rfl (yl 30 137 false rfl p30 vv30) (by intro c h; cases h) (w' := W) ?_ (hS)
      · simp [execOp, go_sem, e17]
    | 32 =>
      simp only [List.getElem?_toArray, List.getElem?_cons_zero, List.getElem?_cons_succ, Option.some.injEq] at ho
      subst ho
      have p31 : b 31 = true := hd ⟨31, .data⟩ (by simp) rfl
      have p30 : b 30 = true := hd ⟨30, .guard⟩ (by simp) rfl
      have e138 := (ev 31 138 rfl p31).trans vv31
      rw [vv32]
      refine does_value_g rfl (yl 30 137 false rfl p30 vv30) (by intro c h; cases h) (w' := W) ?_ (hS)
      · simp [execOp, go_sem, e138, q2]
    | 33 =>
      simp only [List.getElem?_toArray, List.getElem?_cons_zero, List.getElem?_cons_succ, Option.some.injEq] at ho
      subst ho
      have p30 : b 30 = true := hd ⟨30, .data⟩ (by simp) rfl
      have p32 : b 32 = true := hd ⟨32, .data⟩ (by simp) rfl
      have e137 := (ev 30 137 rfl p30).trans vv30
      have e139 := (ev 32 139 rfl p32).trans vv32
      rw [vv33]
      refine does_value rfl (by intro c h; cases h) (w' := W) ?_ (hS)
      · simp [execOp, go_sem, e137, e139]
    | k + 34 => simp at ho
  · intro b' W hS _
    subst hLe
    exact hQ W hS

set_option maxRecDepth 8000 in
set_option maxHeartbeats 4000000 in
theorem reg25_succ {Q : Exit → Act → World → Prop} {base : Array Value} {d : List Deferred} {ops : Array Oper} (hops : Tryd.f4.body.bind (regs 25) = some ops) (gB oB n8 c8_ j nk : Nat) (sx sy : ByteArray) (w9 : World) (hsz : base.size = 142)
    (b15 : base.getD 15 undef = .slice (some ⟨gB, oB, none⟩) n8 c8_) (b16 : base.getD 16 undef = .int .i64 ((j + 1 : Nat) : Int)) (b17 : base.getD 17 undef = .int .i64 (nk : Nat)) (b18 : base.getD 18 undef = .bool true)
    (hlt : j + 1 < n8) (c9 : w9.cell? ⟨gB, oB + (j + 1), none⟩ = some (.string sx)) (cL : ∀ W, Calls Tryd.prog 9 #[.string sx] W fun e w' => e = .returned (.int .i64 0) ∧ w' = W) (q1 : ¬ (nk : Int) < 1) (q2 : ¬ (2147483647 : Int) < (nk : Int))
    (c8 : w9.cell? ⟨gB, oB + j, none⟩ = some (.string sy)) (hle1 : Op.bytesLess sx.toList sy.toList = false) (hle2 : ¬ sx.toList = sy.toList) (hn8 : n8 ≤ 2048)
    (hQ : ∀ W, Below w9.heap.size w9 W → Q .normal ⟨putAll base [(some 107, .slice (some ⟨gB, oB, none⟩) n8 c8_), (some 108, .int .i64 ((j + 1 : Nat) : Int)), (some 109, .pointer (some ⟨gB, oB + (j + 1), none⟩)), (some 110, .string sx), (some 111, .int .i64 0), (some 112, .bool false), (some 113, .bool false), (some 114, .int .i64 ((j + 1 : Nat) : Int)), (some 115, .bool true), (some 116, .bool true), (some 117, .slice (some ⟨gB, oB, none⟩) n8 c8_), (some 118, .int .i64 ((j + 1 : Nat) : Int)), (some 119, .pointer (some ⟨gB, oB + (j + 1), none⟩)), (some 120, .string sx), (some 121, .slice (some ⟨gB, oB, none⟩) n8 c8_), (some 122, .int .i64 ((j + 1 : Nat) : Int)), (some 123, .int .i64 (j : Nat)), (some 124, .pointer (some ⟨gB, oB + j, none⟩)), (some 125, .string sy), (some 126, .bool false), (some 127, .bool false), (some 128, .bool false), (some 129, .bool false), (some 130, .bool true), (some 131, .bool false), (some 132, .bool false), (some 133, .bool false), (some 134, .int .i64 (nk : Nat)), (some 135, .bool false), (some 136, .bool false), (some 137, .bool false), (some 138, .int .i64 (nk : Nat)), (some 139, .bool false), (some 140, .bool false)], d⟩ W) :
    (Code.region 25 ops true).wp Tryd.prog Q ⟨base, d⟩ w9 := by
  have hmix : Tryd.prog.follows .mixedOrders = true := by kernel_rfl
  have h2 := (show Tryd.f4.body.bind (regs 25) = some _ from rfl).symm.trans hops
  obtain rfl := Option.some.inj h2
  clear h2 hops
  have below9 : Below w9.heap.size w9 w9.drew := (Below.refl _ _).drew
  have hltJ : (j : Int) + 1 < (n8 : Int) := by omega
  have hjI : (j : Int) < (n8 : Int) := by omega
  have hpJ : (0 : Int) < (j : Int) + 1 := by omega
  obtain ⟨LL, hLe⟩ : ∃ LL : List (Option Tmp × Value), LL = [(some 107, .slice (some ⟨gB, oB, none⟩) n8 c8_), (some 108, .int .i64 ((j + 1 : Nat) : Int)), (some 109, .pointer (some ⟨gB, oB + (j + 1), none⟩)), (some 110, .string sx), (some 111, .int .i64 0), (some 112, .bool false), (some 113, .bool false), (some 114, .int .i64 ((j + 1 : Nat) : Int)), (some 115, .bool true), (some 116, .bool true), (some 117, .slice (some ⟨gB, oB, none⟩) n8 c8_), (some 118, .int .i64 ((j + 1 : Nat) : Int)), (some 119, .pointer (some ⟨gB, oB + (j + 1), none⟩)), (some 120, .string sx), (some 121, .slice (some ⟨gB, oB, none⟩) n8 c8_), (some 122, .int .i64 ((j + 1 : Nat) : Int)), (some 123, .int .i64 (j : Nat)), (some 124, .pointer (some ⟨gB, oB + j, none⟩)), (some 125, .string sy), (some 126, .bool false), (some 127, .bool false), (some 128, .bool false), (some 129, .bool false), (some 130, .bool true), (some 131, .bool false), (some 132, .bool false), (some 133, .bool false), (some 134, .int .i64 (nk : Nat)), (some 135, .bool false), (some 136, .bool false), (some 137, .bool false), (some 138, .int .i64 (nk : Nat)), (some 139, .bool false), (some 140, .bool false)] := ⟨_, rfl⟩
  have vv0 : vals LL 0 = .slice (some ⟨gB, oB, none⟩) n8 c8_ := by rw [hLe]; rfl
  have vv1 : vals LL 1 = .int .i64 ((j + 1 : Nat) : Int) := by rw [hLe]; rfl
  have vv2 : vals LL 2 = .pointer (some ⟨gB, oB + (j + 1), none⟩) := by rw [hLe]; rfl
  have vv3 : vals LL 3 = .string sx := by rw [hLe]; rfl
  have vv4 : vals LL 4 = .int .i64 0 := by rw [hLe]; rfl
  have vv5 : vals LL 5 = .bool false := by rw [hLe]; rfl
  have vv6 : vals LL 6 = .bool false := by rw [hLe]; rfl
  have vv7 : vals LL 7 = .int .i64 ((j + 1 : Nat) : Int) := by rw [hLe]; rfl
  have vv8 : vals LL 8 = .bool true := by rw [hLe]; rfl
  have vv9 : vals LL 9 = .bool true := by rw [hLe]; rfl
  have vv10 : vals LL 10 = .slice (some ⟨gB, oB, none⟩) n8 c8_ := by rw [hLe]; rfl
  have vv11 : vals LL 11 = .int .i64 ((j + 1 : Nat) : Int) := by rw [hLe]; rfl
  have vv12 : vals LL 12 = .pointer (some ⟨gB, oB + (j + 1), none⟩) := by rw [hLe]; rfl
  have vv13 : vals LL 13 = .string sx := by rw [hLe]; rfl
  have vv14 : vals LL 14 = .slice (some ⟨gB, oB, none⟩) n8 c8_ := by rw [hLe]; rfl
  have vv15 : vals LL 15 = .int .i64 ((j + 1 : Nat) : Int) := by rw [hLe]; rfl
  have vv16 : vals LL 16 = .int .i64 (j : Nat) := by rw [hLe]; rfl
  have vv17 : vals LL 17 = .pointer (some ⟨gB, oB + j, none⟩) := by rw [hLe]; rfl
  have vv18 : vals LL 18 = .string sy := by rw [hLe]; rfl
  have vv19 : vals LL 19 = .bool false := by rw [hLe]; rfl
  have vv20 : vals LL 20 = .bool false := by rw [hLe]; rfl
  have vv21 : vals LL 21 = .bool false := by rw [hLe]; rfl
  have vv22 : vals LL 22 = .bool false := by rw [hLe]; rfl
  have vv23 : vals LL 23 = .bool true := by rw [hLe]; rfl
  have vv24 : vals LL 24 = .bool false := by rw [hLe]; rfl
  have vv25 : vals LL 25 = .bool false := by rw [hLe]; rfl
  have vv26 : vals LL 26 = .bool false := by rw [hLe]; rfl
  have vv27 : vals LL 27 = .int .i64 (nk : Nat) := by rw [hLe]; rfl
  have vv28 : vals LL 28 = .bool false := by rw [hLe]; rfl
  have vv29 : vals LL 29 = .bool false := by rw [hLe]; rfl
  have vv30 : vals LL 30 = .bool false := by rw [hLe]; rfl
  have vv31 : vals LL 31 = .int .i64 (nk : Nat) := by rw [hLe]; rfl
  have vv32 : vals LL 32 = .bool false := by rw [hLe]; rfl
  have vv33 : vals LL 33 = .bool false := by rw [hLe]; rfl
  refine region_laid hmix (by kernel_rfl) 142 hsz (by kernel_rfl) LL (by rw [hLe]; rfl) (fun _ W => Below w9.heap.size w9 W) below9 ?_ ?_
  · intro b W i o a hS hcl ho hb hd ev kp yl
    match i with
    | 0 =>
      simp only [List.getElem?_toArray, List.getElem?_cons_zero, Option.some.injEq] at ho
      subst ho
      have e15 : a.tmps[15]?.getD undef = .slice (some ⟨gB, oB, none⟩) n8 c8_ := (kp 15 (by kernel_rfl)).trans b15
      rw [vv0]
      refine does_value rfl (by intro c h; cases h) (w' := W) ?_ (hS)
      · simp [execOp, go_sem, e15]
    | 1 =>
      simp only [List.getElem?_toArray, List.getElem?_cons_zero, List.getElem?_cons_succ, Option.some.injEq] at ho
      subst ho
      have e16 : a.tmps[16]?.getD undef = .int .i64 ((j + 1 : Nat) : Int) := (kp 16 (by kernel_rfl)).trans b16
      rw [vv1]
      refine does_value rfl (by intro c h; cases h) (w' := W) ?_ (hS)
      · simp [execOp, go_sem, e16]
    | 2 =>
      simp only [List.getElem?_toArray, List.getElem?_cons_zero, List.getElem?_cons_succ, Option.some.injEq] at ho
      subst ho
      have p0 : b 0 = true := hd ⟨0, .data⟩ (by simp) rfl
      have p1 : b 1 = true := hd ⟨1, .data⟩ (by simp) rfl
      have e107 := (ev 0 107 rfl p0).trans vv0
      have e108 := (ev 1 108 rfl p1).trans vv1
      rw [vv2]
      refine does_value rfl (by intro c h; cases h) (w' := W) ?_ (hS)
      · simp [execOp, go_sem, e107, e108, hltJ]; intro h; omega
    | 3 =>
      simp only [List.getElem?_toArray, List.getElem?_cons_zero, List.getElem?_cons_succ, Option.some.injEq] at ho
      subst ho
      have p2 : b 2 = true := hd ⟨2, .data⟩ (by simp) rfl
      have e109 := (ev 2 109 rfl p2).trans vv2
      have hl := (hS.cell (p := ⟨gB, oB + (j + 1), none⟩) (cell_lt c9)).trans c9
      rw [vv3]
      refine does_value rfl (by intro c h; cases h) (w' := W) ?_ (hS)
      · simp [execOp, go_sem, e109, hl]
    | 4 =>
      simp only [List.getElem?_toArray, List.getElem?_cons_zero, List.getElem?_cons_succ, Option.some.injEq] at ho
      subst ho
      have p3 : b 3 = true := hd ⟨3, .data⟩ (by simp) rfl
      have e110 := (ev 3 110 rfl p3).trans vv3
      rw [vv4]
      refine does_call rfl (by intro c h; cases h) (f := 9) (args := #[.string sx]) ?_ ?_
      · simp [go_sem, e110]
      · exact (cL W).mono (fun e w' h => by obtain ⟨rfl, rfl⟩ := h; exact ⟨rfl, hS⟩)
    | 5 =>
      simp only [List.getElem?_toArray, List.getElem?_cons_zero, List.getElem?_cons_succ, Option.some.injEq] at ho
      subst ho
      have p4 : b 4 = true := hd ⟨4, .data⟩ (by simp) rfl
      have e111 := (ev 4 111 rfl p4).trans vv4
      rw [vv5]
      refine does_value rfl (by intro c h; cases h) (w' := W) ?_ (hS)
      · simp [execOp, go_sem, e111]
    | 6 =>
      simp only [List.getElem?_toArray, List.getElem?_cons_zero, List.getElem?_cons_succ, Option.some.injEq] at ho
      subst ho
      have p5 : b 5 = true := hd ⟨5, .data⟩ (by simp) rfl
      have e112 := (ev 5 112 rfl p5).trans vv5
      rw [vv6]
      refine does_value rfl (by intro c h; cases h) (w' := W) ?_ (hS)
      · simp [execOp, go_sem, e112]
    | 7 =>
      simp only [List.getElem?_toArray, List.getElem?_cons_zero, List.getElem?_cons_succ, Option.some.injEq] at ho
      subst ho
      have p6 : b 6 = true := hd ⟨6, .guard⟩ (by simp) rfl
      have e16 : a.tmps[16]?.getD undef = .int .i64 ((j + 1 : Nat) : Int) := (kp 16 (by kernel_rfl)).trans b16
      rw [vv7]
      refine does_value_g rfl (yl 6 113 false rfl p6 vv6) (by intro c h; cases h) (w' := W) ?_ (hS)
      · simp [execOp, go_sem, e16]
    | 8 =>
      simp only [List.getElem?_toArray, List.getElem?_cons_zero, List.getElem?_cons_succ, Option.some.injEq] at ho
      subst ho
      have p7 : b 7 = true := hd ⟨7, .data⟩ (by simp) rfl
      have p6 : b 6 = true := hd ⟨6, .guard⟩ (by simp) rfl
      have e114 := (ev 7 114 rfl p7).trans vv7
      rw [vv8]
      refine does_value_g rfl (yl 6 113 false rfl p6 vv6) (by intro c h; cases h) (w' := W) ?_ (hS)
      · simp [execOp, go_sem, e114, hpJ]
    | 9 =>
      simp only [List.getElem?_toArray, List.getElem?_cons_zero, List.getElem?_cons_succ, Option.some.injEq] at ho
      subst ho
      have p8 : b 8 = true := hd ⟨8, .data⟩ (by simp) rfl
      have p6 : b 6 = true := hd ⟨6, .guard⟩ (by simp) rfl
      have e115 := (ev 8 115 rfl p8).trans vv8
      rw [vv9]
      refine does_value_g rfl (yl 6 113 false rfl p6 vv6) (by intro c h; cases h) (w' := W) ?_ (hS)
      · simp [execOp, go_sem, e115]
    | 10 =>
      simp only [List.getElem?_toArray, List.getElem?_cons_zero, List.getElem?_cons_succ, Option.some.injEq] at ho
      subst ho
      have p9 : b 9 = true := hd ⟨9, .guard⟩ (by simp) rfl
      have e15 : a.tmps[15]?.getD undef = .slice (some ⟨gB, oB, none⟩) n8 c8_ := (kp 15 (by kernel_rfl)).trans b15
      rw [vv10]
      refine does_value_g rfl (yl 9 116 true rfl p9 vv9) (by intro c h; cases h) (w' := W) ?_ (hS)
      · simp [execOp, go_sem, e15]
    | 11 =>
      simp only [List.getElem?_toArray, List.getElem?_cons_zero, List.getElem?_cons_succ, Option.some.injEq] at ho
      subst ho
      have p9 : b 9 = true := hd ⟨9, .guard⟩ (by simp) rfl
      have e16 : a.tmps[16]?.getD undef = .int .i64 ((j + 1 : Nat) : Int) := (kp 16 (by kernel_rfl)).trans b16
      rw [vv11]
      refine does_value_g rfl (yl 9 116 true rfl p9 vv9) (by intro c h; cases h) (w' := W) ?_ (hS)
      · simp [execOp, go_sem, e16]
    | 12 =>
      simp only [List.getElem?_toArray, List.getElem?_cons_zero, List.getElem?_cons_succ, Option.some.injEq] at ho
      subst ho
      have p10 : b 10 = true := hd ⟨10, .data⟩ (by simp) rfl
      have p11 : b 11 = true := hd ⟨11, .data⟩ (by simp) rfl
      have p9 : b 9 = true := hd ⟨9, .guard⟩ (by simp) rfl
      have e117 := (ev 10 117 rfl p10).trans vv10
      have e118 := (ev 11 118 rfl p11).trans vv11
      rw [vv12]
      refine does_value_g rfl (yl 9 116 true rfl p9 vv9) (by intro c h; cases h) (w' := W) ?_ (hS)
      · simp [execOp, go_sem, e117, e118, hltJ]; intro h; omega
    | 13 =>
      simp only [List.getElem?_toArray, List.getElem?_cons_zero, List.getElem?_cons_succ, Option.some.injEq] at ho
      subst ho
      have p12 : b 12 = true := hd ⟨12, .data⟩ (by simp) rfl
      have p9 : b 9 = true := hd ⟨9, .guard⟩ (by simp) rfl
      have e119 := (ev 12 119 rfl p12).trans vv12
      have hl := (hS.cell (p := ⟨gB, oB + (j + 1), none⟩) (cell_lt c9)).trans c9
      rw [vv13]
      refine does_value_g rfl (yl 9 116 true rfl p9 vv9) (by intro c h; cases h) (w' := W) ?_ (hS)
      · simp [execOp, go_sem, e119, hl]
    | 14 =>
      simp only [List.getElem?_toArray, List.getElem?_cons_zero, List.getElem?_cons_succ, Option.some.injEq] at ho
      subst ho
      have p9 : b 9 = true := hd ⟨9, .guard⟩ (by simp) rfl
      have e15 : a.tmps[15]?.getD undef = .slice (some ⟨gB, oB, none⟩) n8 c8_ := (kp 15 (by kernel_rfl)).trans b15
      rw [vv14]
      refine does_value_g rfl (yl 9 116 true rfl p9 vv9) (by intro c h; cases h) (w' := W) ?_ (hS)
      · simp [execOp, go_sem, e15]
    | 15 =>
      simp only [List.getElem?_toArray, List.getElem?_cons_zero, List.getElem?_cons_succ, Option.some.injEq] at ho
      subst ho
      have p9 : b 9 = true := hd ⟨9, .guard⟩ (by simp) rfl
      have e16 : a.tmps[16]?.getD undef = .int .i64 ((j + 1 : Nat) : Int) := (kp 16 (by kernel_rfl)).trans b16
      rw [vv15]
      refine does_value_g rfl (yl 9 116 true rfl p9 vv9) (by intro c h; cases h) (w' := W) ?_ (hS)
      · simp [execOp, go_sem, e16]
    | 16 =>
      simp only [List.getElem?_toArray, List.getElem?_cons_zero, List.getElem?_cons_succ, Option.some.injEq] at ho
      subst ho
      have p15 : b 15 = true := hd ⟨15, .data⟩ (by simp) rfl
      have p9 : b 9 = true := hd ⟨9, .guard⟩ (by simp) rfl
      have e122 := (ev 15 122 rfl p15).trans vv15
      rw [vv16]
      refine does_value_g rfl (yl 9 116 true rfl p9 vv9) (by intro c h; cases h) (w' := W) ?_ (hS)
      · simp [execOp, go_sem, e122]; rw [IntKind.wrap_i64] <;> omega
    | 17 =>
      simp only [List.getElem?_toArray, List.getElem?_cons_zero, List.getElem?_cons_succ, Option.some.injEq] at ho
      subst ho
      have p14 : b 14 = true := hd ⟨14, .data⟩ (by simp) rfl
      have p16 : b 16 = true := hd ⟨16, .data⟩ (by simp) rfl
      have p9 : b 9 = true := hd ⟨9, .guard⟩ (by simp) rfl
      have e121 := (ev 14 121 rfl p14).trans vv14
      have e123 := (ev 16 123 rfl p16).trans vv16
      rw [vv17]
      refine does_value_g rfl (yl 9 116 true rfl p9 vv9) (by intro c h; cases h) (w' := W) ?_ (hS)
      · simp [execOp, go_sem, e121, e123, hjI]
    | 18 =>
      simp only [List.getElem?_toArray, List.getElem?_cons_zero, List.getElem?_cons_succ, Option.some.injEq] at ho
      subst ho
      have p17 : b 17 = true := hd ⟨17, .data⟩ (by simp) rfl
      have p9 : b 9 = true := hd ⟨9, .guard⟩ (by simp) rfl
      have e124 := (ev 17 124 rfl p17).trans vv17
      have hl := (hS.cell (p := ⟨gB, oB + j, none⟩) (cell_lt c8)).trans c8
      rw [vv18]
      refine does_value_g rfl (yl 9 116 true rfl p9 vv9) (by intro c h; cases h) (w' := W) ?_ (hS)
      · simp [execOp, go_sem, e124, hl]
    | 19 =>
      simp only [List.getElem?_toArray, List.getElem?_cons_zero, List.getElem?_cons_succ, Option.some.injEq] at ho
      subst ho
      have p13 : b 13 = true := hd ⟨13, .data⟩ (by simp) rfl
      have p18 : b 18 = true := hd ⟨18, .data⟩ (by simp) rfl
      have p9 : b 9 = true := hd ⟨9, .guard⟩ (by simp) rfl
      have e120 := (ev 13 120 rfl p13).trans vv13
      have e125 := (ev 18 125 rfl p18).trans vv18
      rw [vv19]
      refine does_value_g rfl (yl 9 116 true rfl p9 vv9) (by intro c h; cases h) (w' := W) ?_ (hS)
      · simp [execOp, go_sem, e120, e125, hle1, hle2]
    | 20 =>
      simp only [List.getElem?_toArray, List.getElem?_cons_zero, List.getElem?_cons_succ, Option.some.injEq] at ho
      subst ho
      have p9 : b 9 = true := hd ⟨9, .data⟩ (by simp) rfl
      have p19 : b 19 = true := hd ⟨19, .data⟩ (by simp) rfl
      have p6 : b 6 = true := hd ⟨6, .guard⟩ (by simp) rfl
      have e116 := (ev 9 116 rfl p9).trans vv9
      have e126 := (ev 19 126 rfl p19).trans vv19
      rw [vv20]
      refine does_value_g rfl (yl 6 113 false rfl p6 vv6) (by intro c h; cases h) (w' := W) ?_ (hS)
      · simp [execOp, go_sem, e116, e126]
    | 21 =>
      simp only [List.getElem?_toArray, List.getElem?_cons_zero, List.getElem?_cons_succ, Option.some.injEq] at ho
      subst ho
      have p6 : b 6 = true := hd ⟨6, .data⟩ (by simp) rfl
      have p20 : b 20 = true := hd ⟨20, .data⟩ (by simp) rfl
      have e113 := (ev 6 113 rfl p6).trans vv6
      have e127 := (ev 20 127 rfl p20).trans vv20
      rw [vv21]
      refine does_value rfl (by intro c h; cases h) (w' := W) ?_ (hS)
      · simp [execOp, go_sem, e113, e127]
    | 22 =>
      simp only [List.getElem?_toArray, List.getElem?_cons_zero, List.getElem?_cons_succ, Option.some.injEq] at ho
      subst ho
      have p21 : b 21 = true := hd ⟨21, .data⟩ (by simp) rfl
      have e128 := (ev 21 128 rfl p21).trans vv21
      rw [vv22]
      refine does_value rfl (by intro c h; cases h) (w' := W) ?_ (hS)
      · simp [execOp, go_sem, e128]
    | 23 =>
      simp only [List.getElem?_toArray, List.getElem?_cons_zero, List.getElem?_cons_succ, Option.some.injEq] at ho
      subst ho
      have p22 : b 22 = true := hd ⟨22, .guard⟩ (by simp) rfl
      have e18 : a.tmps[18]?.getD undef = .bool true := (kp 18 (by kernel_rfl)).trans b18
      rw [vv23]
      refine does_value_g rfl (yl 22 129 false rfl p22 vv22) (by intro c h; cases h) (w' := W) ?_ (hS)
      · simp [execOp, go_sem, e18]
    | 24 =>
      simp only [List.getElem?_toArray, List.getElem?_cons_zero, List.getElem?_cons_succ, Option.some.injEq] at ho
      subst ho
      have p23 : b 23 = true := hd ⟨23, .data⟩ (by simp) rfl
      have p22 : b 22 = true := hd ⟨22, .guard⟩ (by simp) rfl
      have e130 := (ev 23 130 rfl p23).trans vv23
      rw [vv24]
      refine does_value_g rfl (yl 22 129 false rfl p22 vv22) (by intro c h; cases h) (w' := W) ?_ (hS)
      · simp [execOp, go_sem, e130]
    | 25 =>
      simp only [List.getElem?_toArray, List.getElem?_cons_zero, List.getElem?_cons_succ, Option.some.injEq] at ho
      subst ho
      have p22 : b 22 = true := hd ⟨22, .data⟩ (by simp) rfl
      have p24 : b 24 = true := hd ⟨24, .data⟩ (by simp) rfl
      have e129 := (ev 22 129 rfl p22).trans vv22
      have e131 := (ev 24 131 rfl p24).trans vv24
      rw [vv25]
      refine does_value rfl (by intro c h; cases h) (w' := W) ?_ (hS)
      · simp [execOp, go_sem, e129, e131]
    | 26 =>
      simp only [List.getElem?_toArray, List.getElem?_cons_zero, List.getElem?_cons_succ, Option.some.injEq] at ho
      subst ho
      have p25 : b 25 = true := hd ⟨25, .data⟩ (by simp) rfl
      have e132 := (ev 25 132 rfl p25).trans vv25
      rw [vv26]
      refine does_value rfl (by intro c h; cases h) (w' := W) ?_ (hS)
      · simp [execOp, go_sem, e132]
    | 27 =>
      simp only [List.getElem?_toArray, List.getElem?_cons_zero, List.getElem?_cons_succ, Option.some.injEq] at ho
      subst ho
      have p26 : b 26 = true := hd ⟨26, .guard⟩ (by simp) rfl
      have e17 : a.tmps[17]?.getD undef = .int .i64 (nk : Nat) := (kp 17 (by kernel_rfl)).trans b17
      rw [vv27]
      refine does_value_g rfl (yl 26 133 false rfl p26 vv26) (by intro c h; cases h) (w' := W) ?_ (hS)
      · simp [execOp, go_sem, e17]
    | 28 =>
      simp only [List.getElem?_toArray, List.getElem?_cons_zero, List.getElem?_cons_succ, Option.some.injEq] at ho
      subst ho
      have p27 : b 27 = true := hd ⟨27, .data⟩ (by simp) rfl
      have p26 : b 26 = true := hd ⟨26, .guard⟩ (by simp) rfl
      have e134 := (ev 27 134 rfl p27).trans vv27
      rw [vv28]
      refine does_value_g rfl (yl 26 133 false rfl p26 vv26) (by intro c h; cases h) (w' := W) ?_ (hS)
      · simp [execOp, go_sem, e134, q1]
    | 29 =>
      simp only [List.getElem?_toArray, List.getElem?_cons_zero, List.getElem?_cons_succ, Option.some.injEq] at ho
      subst ho
      have p26 : b 26 = true := hd ⟨26, .data⟩ (by simp) rfl
      have p28 : b 28 = true := hd ⟨28, .data⟩ (by simp) rfl
      have e133 := (ev 26 133 rfl p26).trans vv26
      have e135 := (ev 28 135 rfl p28).trans vv28
      rw [vv29]
      refine does_value rfl (by intro c h; cases h) (w' := W) ?_ (hS)
      · simp [execOp, go_sem, e133, e135]
    | 30 =>
      simp only [List.getElem?_toArray, List.getElem?_cons_zero, List.getElem?_cons_succ, Option.some.injEq] at ho
      subst ho
      have p29 : b 29 = true := hd ⟨29, .data⟩ (by simp) rfl
      have e136 := (ev 29 136 rfl p29).trans vv29
      rw [vv30]
      refine does_value rfl (by intro c h; cases h) (w' := W) ?_ (hS)
      · simp [execOp, go_sem, e136]
    | 31 =>
      simp only [List.getElem?_toArray, List.getElem?_cons_zero, List.getElem?_cons_succ, Option.some.injEq] at ho
      subst ho
      have p30 : b 30 = true := hd ⟨30, .guard⟩ (by simp) rfl
      have e17 : a.tmps[17]?.getD undef = .int .i64 (nk : Nat) := (kp 17 (by kernel_rfl)).trans b17
      rw [vv31]
      refine does_value_g rfl (yl 30 137 false rfl p30 vv30) (by intro c h; cases h) (w' := W) ?_ (hS)
      · simp [execOp, go_sem, e17]
    | 32 =>
      simp only [List.getElem?_toArray, List.getElem?_cons_zero, List.getElem?_cons_succ, Option.some.injEq] at ho
      subst ho
      have p31 : b 31 = true := hd ⟨31, .data⟩ (by simp) rfl
      have p30 : b 30 = true := hd ⟨30, .guard⟩ (by simp) rfl
      have e138 := (ev 31 138 rfl p31).trans vv31
      rw [vv32]
      refine does_value_g rfl (yl 30 137 false rfl p30 vv30) (by intro c h; cases h) (w' := W) ?_ (hS)
      · simp [execOp, go_sem, e138, q2]
    | 33 =>
      simp only [List.getElem?_toArray, List.getElem?_cons_zero, List.getElem?_cons_succ, Option.some.injEq] at ho
      subst ho
      have p30 : b 30 = true := hd ⟨30, .data⟩ (by simp) rfl
      have p32 : b 32 = true := hd ⟨32, .data⟩ (by simp) rfl
      have e137 := (ev 30 137 rfl p30).trans vv30
      have e139 := (ev 32 139 rfl p32).trans vv32
      rw [vv33]
      refine does_value rfl (by intro c h; cases h) (w' := W) ?_ (hS)
      · simp [execOp, go_sem, e137, e139]
    | k + 34 => simp at ho
  · intro b' W hS _
    subst hLe
    exact hQ W hS

end Go.Proofs.YtdocablbkafkiaaDoor.Cd

/-
  The law of DirLoad: names are put, a byte is turned, bytes are laid behind; what Load makes of it.
-/
namespace Go.Proofs.YtdocablbkafkiaaDoor.Cd
open Go.RowKit Go.Maps

attribute [local go_sem] Oper.semAt_some

/-- A slice of texts that came in. -/
def Strs (w : World) (p : Option Addr) (ss : List ByteArray) : Prop := ∀ (j : Nat) s, ss[j]? = some s → ∃ b o, p = some ⟨b, o, none⟩ ∧ w.cell? ⟨b, o + j, none⟩ = some (.string s)
theorem Strs.below {w w' : World} {p : Option Addr} {ss : List ByteArray} (h : Strs w p ss) (hb : Below w.heap.size w w') : Strs w' p ss := fun j s hj => by
  obtain ⟨b, o, e, hc⟩ := h j s hj
  exact ⟨b, o, e, (hb.cell (p := ⟨b, o + j, none⟩) (cell_lt hc)).trans hc⟩
theorem short2_any (p : Option Addr) (bs : List (BitVec 8)) (c : Nat) (w : World) (hb : Bytes w p bs) (hl : bs.length < 1000000000000000) (hc : bs.length ≤ c) :
    Calls Tryd.prog 20 #[.slice p bs.length c, .int .i64 40] w fun e w' => (∃ c', e = .returned (.slice p (bs.take 40).length c') ∧ Bytes w p (bs.take 40)) ∧ w' = w := by
  have hbt := bytes_take hb 40
  by_cases h : 40 < bs.length
  · have hI : (40 : Int) < (bs.length : Int) := by omega
    have e : (bs.take 40).length = 40 := by rw [List.length_take]; omega
    rw [e]
    have hc40 : 40 ≤ c := by omega
    have HB : Hid (Bytes w p (bs.take 40)) := hbt
    rcases p with _ | ad
    · exfalso
      obtain ⟨b, o, e, _⟩ := hb (by omega)
      cases e
    · clear hb hbt e
      generalize bs.length = n at *
      go_enter Tryd.func20, Tryd.ntmps20
      go_wp2
      go_ret
      exact ⟨⟨_, rfl, HB.out⟩, rfl⟩
  · have hI : ¬ (40 : Int) < (bs.length : Int) := by omega
    have e : bs.take 40 = bs := List.take_of_length_le (by omega)
    rw [e]
    have HB : Hid (Bytes w p bs) := hb
    clear hb hbt e
    generalize bs.length = n at *
    go_enter Tryd.func20, Tryd.ntmps20
    go_wp2
    go_ret
    exact ⟨⟨⟨_, rfl⟩, HB.out⟩, rfl⟩
/-- Whatever is put: a directory. -/
theorem put_keeps (base a : Nat) (D : List (List En)) (s : ByteArray) (k : Int) (w : World) (ht : Tab w) (hgb : 1 < base) (h : DirOk w base a D) (hx : s.size < 1000000) :
    Calls Tryd.prog 10 #[.pointer (some ⟨a, 0, none⟩), .string s, .int .i64 k] w fun e w' => (∃ E, e = .returned (.int .i64 E)) ∧ (∃ D', DirOk w' base a D') ∧ Fr base w w' := by
  refine (put_any base a D s k w ht hgb h hx).mono ?_
  rintro e w' ⟨hf, ⟨_, rfl, h3⟩ | ⟨_, _, rfl, h3⟩ | ⟨_, _, _, _, rfl, h3⟩ | ⟨_, _, _, rfl, D', h3, _⟩⟩
  · exact ⟨⟨_, rfl⟩, ⟨D, h3⟩, hf⟩
  · exact ⟨⟨_, rfl⟩, ⟨D, h3⟩, hf⟩
  · exact ⟨⟨_, rfl⟩, ⟨D, h3⟩, hf⟩
  · exact ⟨⟨_, rfl⟩, ⟨D', h3⟩, hf⟩

theorem xor8 (a b : BitVec 8) : bits .xor .u8 (a.toNat : Int) (b.toNat : Int) = ((a ^^^ b).toNat : Int) := by
  rw [u8_xor_nat _ _ a.isLt b.isLt, BitVec.toNat_xor]
/-- One byte of a row is turned. -/
theorem RowB.turn {w : World} {q : Nat} {bs : List (BitVec 8)} (h : RowB w q bs) (k : Nat) (y : BitVec 8) : RowB (w.setCell ⟨q, k, none⟩ (.int .u8 (y.toNat : Int))) q (bs.set k y) := by
  have h' : w.heap[q]? = some (.cells (bs.map u8v).toArray 5 (0, 0)) := h
  unfold RowB
  simp only [World.setCell, Array.getElem?_modify, h']
  simp [List.map_set, u8v]

theorem RowB.own {w : World} {q base L : Nat} {bs : List (BitVec 8)} (h : RowB w q bs) (hb : base ≤ q) (hl : bs.length = L) (hL : L ≤ 1000000) : w.ownsRow base 5 1 (.slice (some ⟨q, 0, none⟩) L L) L (bs.map u8v) := by
  refine ⟨by simp [hl], .inr ⟨q, L, (bs.map u8v).toArray, rfl, hb, h, Nat.le_refl _, by unfold maxLen; omega, by simp [hl], ?_⟩⟩
  rw [List.take_of_length_le (by simp [hl])]

theorem own_form {w : World} {base n m : Nat} {v : Value} {bs : List (BitVec 8)} (h : w.ownsRow base 5 1 v n (bs.map u8v)) (ho : v.ownBlock = some m) : ∃ g c, v = .slice (some ⟨g, 0, none⟩) n c ∧ n ≤ c ∧ bs.length = n ∧ base ≤ g ∧ Bytes w (some ⟨g, 0, none⟩) bs := by
  have hl : bs.length = n := by have := h.1; simpa using this
  rcases h.2 with ⟨e1, _⟩ | ⟨g, c, cur, e1, e2, e3, e4, e5, e6, e7⟩
  · rw [e1] at ho; simp [Value.ownBlock] at ho
  · refine ⟨g, c, e1, e4, hl, e2, fun _ => ⟨g, 0, rfl, fun j x hj => ?_⟩⟩
    rw [Nat.zero_add, cellOf e3]
    have hjl := (List.getElem?_eq_some_iff.1 hj).1
    have := congrArg (fun l => l[j]?) e7
    simp only [List.getElem?_take, List.getElem?_map, hj, Option.map_some] at this
    rw [if_pos (by omega), Array.getElem?_toList] at this
    exact this

theorem LB.strs {w : World} {base kb : Nat} {v : Value} {L : List ByteArray} (h : LB w base kb v L) : ∃ p c, v = .slice p L.length c ∧ Strs w p L := by
  rcases h.row.2 with ⟨e1, e2⟩ | ⟨g, c, cur, e1, e2, e3, e4, e5, e6, e7⟩
  · have : L = [] := by simpa using e2
    subst this
    exact ⟨none, 0, e1, fun j s hj => by simp at hj⟩
  · refine ⟨_, _, e1, fun j s hj => ⟨g, 0, rfl, ?_⟩⟩
    rw [Nat.zero_add, cellOf e3]
    have hjl := (List.getElem?_eq_some_iff.1 hj).1
    have := congrArg (fun l => l[j]?) e7
    simp only [List.getElem?_take, List.getElem?_map, hj, Option.map_some] at this
    rw [if_pos (by omega), Array.getElem?_toList] at this
    exact this

theorem srt_name {E : List En} (hs : Srt E) {x y : En} (hx : x ∈ E) (hy : y ∈ E) (h : x.name = y.name) : x = y := by
  obtain ⟨a, ha, rfl⟩ := Uof_mem hx
  obtain ⟨b, hb, rfl⟩ := Uof_mem hy
  rcases Nat.lt_trichotomy a b with h1 | h1 | h1
  · exact absurd h (less_ne (Uof_lt hs ha hb h1))
  · rw [h1]
  · exact absurd h.symm (less_ne (Uof_lt hs hb ha h1))
theorem srt_prev {E : List En} (hs : Srt E) {i : Nat} {x y : En} (hy : E[i]? = some y) (hx : E[i + 1]? = some x) : Op.bytesLess y.name x.name = true := by
  have h1 := List.getElem?_eq_some_iff.1 hy
  have h2 := List.getElem?_eq_some_iff.1 hx
  have := List.pairwise_iff_getElem.1 hs i (i + 1) h1.1 h2.1 (by omega)
  rw [h1.2, h2.2] at this
  exact this

set_option maxRecDepth 8000 in
set_option maxHeartbeats 4000000 in
theorem load_law (pn : Option Addr) (ss : List ByteArray) (cn : Nat) (at_ : Int) (x : BitVec 8) (pr : Option Addr) (raw : List (BitVec 8)) (cr : Nat) (w : World) (ht : Tab w)
    (hns : Strs w pn ss) (hnl : ss.length < 1000000000000000) (hnb : ∀ s ∈ ss, s.size < 1000000000000000) (hr : Bytes w pr raw) (hrl : raw.length < 1000000000000000) (hrc : raw.length ≤ cr) (hat1 : -9223372036854775808 ≤ at_) (hat2 : at_ < 9223372036854775808) :
    Calls Tryd.prog 4 #[.slice pn ss.length cn, .int .i64 at_, .int .u8 (x.toNat : Int), .slice pr raw.length cr] w fun e w' => e = .returned (.bool true) ∧ Below w.heap.size w w' := by
  have cB := begun10_true w ht
  have HA : Hid (Tab w ∧ Strs w pn ss ∧ (∀ s ∈ ss, s.size < 1000000000000000) ∧ Bytes w pr raw) := ⟨ht, hns, hnb, hr⟩
  obtain ⟨N, hN⟩ : ∃ N, ss.length = N := ⟨_, rfl⟩
  rw [hN] at hnl
  rw [hN]
  obtain ⟨M, hM⟩ : ∃ M, raw.length = M := ⟨_, rfl⟩
  rw [hM] at hrl hrc
  rw [hM]
  clear ht hns hnb hr
  go_enter Tryd.func4, Tryd.ntmps4
  go_wp2_with fail
  refine cB.mono ?_
  rintro e w1 ⟨rfl, hb1⟩
  have cN := new_dir w1
  obtain ⟨w2, hw2⟩ : ∃ w2, w2 = w1.alloc (.cells #[.int .i64 0, .slice none 0 0] 49) := ⟨_, rfl⟩
  rw [← hw2] at cN
  have hb2 : Below w1.heap.size w1 w2 := by rw [hw2]; exact (Below.refl _ w1).alloc (Nat.le_refl _) _
  have hd2 : DirOk w2 w1.heap.size w1.heap.size [] := dir_new (Nat.le_refl _) (by rw [hw2]; exact heap_alloc_new w1 _)
  obtain ⟨a0, ha0⟩ : ∃ a0, w1.heap.size = a0 := ⟨_, rfl⟩
  rw [ha0] at hd2 cN hb2
  have H2 : Hid (w.heap.size ≤ a0 ∧ Below w.heap.size w w2 ∧ ∃ D, DirOk w2 a0 a0 D) := ⟨by rw [← ha0]; exact hb1.size, hb1.trans (hb2.mono (by rw [← ha0]; exact hb1.size)), [], hd2⟩
  clear cB hb1 hw2 hd2 hb2
  go_wp2_with fail
  refine cN.mono ?_
  rintro e w2' ⟨rfl, rfl⟩
  clear cN
  go_wp2_with fail
  go_loopw [11] (fun ii wr => ∃ i : Nat, ii = .int .i64 i ∧ i ≤ N ∧ i ≤ 12 ∧ Hid (Below w.heap.size w wr ∧ ∃ D, DirOk wr a0 a0 D)) (fun ii _ => 12 - (intOf ii).toNat)
  case atStart => exact ⟨0, rfl, by omega, by omega, H2.out.2⟩
  case round =>
    obtain ⟨i, rfl, hiN, hi12, HI⟩ := hrel
    by_cases hlt : i < N ∧ i < 12
    · have hltI : (i : Int) < (N : Int) := by omega
      have hltJ : (i : Int) < 12 := by omega
      obtain ⟨s, hs⟩ : ∃ s, ss[i]? = some s := ⟨_, List.getElem?_eq_getElem (by omega)⟩
      obtain ⟨D, hD⟩ := HI.out.2
      obtain ⟨b, o, rfl, hc⟩ := (HA.out.2.1.below HI.out.1) i s hs
      have hsz := HA.out.2.2.1 s (List.mem_of_getElem? hs)
      have cS := short10_any s wr hsz
      have cP : ∀ s' : ByteArray, s'.size < 1000000 → Calls Tryd.prog 10 #[.pointer (some ⟨a0, 0, none⟩), .string s', .int .i64 (1 + (i : Int))] wr fun e w' => (∃ E, e = .returned (.int .i64 E)) ∧ (∃ D', DirOk w' a0 a0 D') ∧ Fr a0 wr w' := fun s' hs' =>
        put_keeps a0 a0 D s' (1 + (i : Int)) wr (below_tab HI.out.1 HA.out.1.lt HA.out.1) (Nat.lt_of_lt_of_le HA.out.1.lt H2.out.1) hD hs'
      have hao : a0 ≤ wr.heap.size := by have := hD.lt; omega
      have HI1 : Hid (Below w.heap.size w wr) := HI.out.1
      clear hD hs HI hsz
      go_wp2_with fail
      refine cS.mono ?_
      rintro e w3 ⟨⟨s', rfl, hs'⟩, rfl⟩
      have hz : s'.size < 1000000 := by
        rw [Lib.size_eq, hs', List.length_take]; omega
      have cP' := cP s' hz
      clear cP cS
      go_wp2_with fail
      refine cP'.mono ?_
      rintro e w4 ⟨⟨E, rfl⟩, hD4, hf4⟩
      have H4 : Hid (Below w.heap.size w w4 ∧ ∃ D, DirOk w4 a0 a0 D) := ⟨HI1.out.trans ((hf4.toBelow hao).mono H2.out.1), hD4⟩
      clear hD4 hf4 cP'
      go_wp2_with fail
      exact ⟨⟨i + 1, by simp, by omega, by omega, H4⟩, by simp [intOf]; omega⟩
    · obtain ⟨D, hD⟩ := HI.out.2
      have hbr := HI.out.1
      have cBy := dbytes_any a0 a0 D wr hD
      have hgood := hD.2
      have hcase : ((i : Int) < (N : Int) ∧ ¬ (i : Int) < 12) ∨ ¬ (i : Int) < (N : Int) := by omega
      clear hD HI hlt hiN hi12
      rcases hcase with ⟨g1, g2⟩ | g1
      all_goals
        go_wp2_with fail
        refine cBy.mono ?_
        rintro e w3 ⟨rfl, hrow, hb3⟩
        clear cBy
        obtain ⟨L, hL⟩ : ∃ L, D.length * 512 = L := ⟨_, rfl⟩
        have hbl := dirB_len hgood
        have hsm := hgood.small
        rw [hL] at hbl
        rw [hL]
        obtain ⟨q, hq⟩ : ∃ q, wr.heap.size = q := ⟨_, rfl⟩
        rw [hq] at hrow hb3
        rw [hq]
        have hbq : Below w.heap.size w w3 := hbr.trans (hb3.mono (by rw [← hq]; exact hbr.size))
        have H3 : Hid (RowB w3 q (dirB D) ∧ Below w.heap.size w w3 ∧ (dirB D).length = L ∧ w.heap.size ≤ q) := ⟨hrow, hbq, hbl, by rw [← hq]; exact hbr.size⟩
        clear hrow hb3 hbl hbq
        have h3w : L = 0 ∨ (∃ m : Nat, at_ = -(m : Int) - 1 ∧ 0 < L) ∨ (∃ m : Nat, at_ = (m : Int) ∧ 0 < L) := by
          by_cases h0 : L = 0
          · exact .inl h0
          · by_cases hneg : at_ < 0
            · exact .inr (.inl ⟨(-(at_ + 1)).toNat, by omega, by omega⟩)
            · exact .inr (.inr ⟨at_.toNat, by omega, by omega⟩)
        rcases h3w with hL0 | ⟨m, hm, hL0⟩ | ⟨m, hm, hL0⟩
        all_goals
          first
            | (have hL0I : ¬ (0 : Int) < (L : Int) := by rw [hL0]; decide
               obtain ⟨w4, rfl⟩ : ∃ w4, w4 = w3 := ⟨_, rfl⟩
               have H4 : Hid (∃ bs', RowB w4 q bs' ∧ bs'.length = L ∧ Below w.heap.size w w4) := ⟨dirB D, H3.out.1, H3.out.2.2.1, H3.out.2.1⟩
               clear hL0
               go_wp2_with fail)
            | (have hm' : at_ = -(m : Int) - 1 := hm
               clear hm
               subst hm'
               have e1 : -(-(m : Int) - 1 + 1) = (m : Int) := by omega
               have e2 : -(m : Int) - 1 < 0 := by omega
               have hmk : m % L < L := Nat.mod_lt _ hL0
               obtain ⟨k, hk⟩ : ∃ k, m % L = k := ⟨_, rfl⟩
               have hkI : (m : Int) % (L : Int) = (k : Nat) := by rw [← hk]; rfl
               rw [hk] at hmk
               have hkL : (k : Int) < (L : Int) := by omega
               have hL0I : (0 : Int) < (L : Int) := by omega
               obtain ⟨y, hy⟩ : ∃ y, (dirB D)[k]? = some y := ⟨_, List.getElem?_eq_getElem (by rw [H3.out.2.2.1]; exact hmk)⟩
               have c0 : w3.cell? ⟨q, k, none⟩ = some (.int .u8 (y.toNat : Int)) := by rw [cellOf H3.out.1]; simp [hy, u8v]
               have f0 := frozenOf H3.out.1 k
               obtain ⟨z, hz⟩ : ∃ z : BitVec 8, bits .xor .u8 (y.toNat : Int) (x.toNat : Int) = (z.toNat : Int) := ⟨_, xor8 y x⟩
               obtain ⟨w4, hw4⟩ : ∃ w4, w4 = w3.setCell ⟨q, k, none⟩ (.int .u8 (z.toNat : Int)) := ⟨_, rfl⟩
               have H4 : Hid (∃ bs', RowB w4 q bs' ∧ bs'.length = L ∧ Below w.heap.size w w4) := ⟨(dirB D).set k z, by rw [hw4]; exact H3.out.1.turn k z, by rw [List.length_set]; exact H3.out.2.2.1, by rw [hw4]; exact H3.out.2.1.setCell (p := ⟨q, k, none⟩) H3.out.2.2.2 _⟩
               clear hy hk
               go_wp2_with fail
               rw [← hw4]
               clear hw4 c0 f0 hz)
            | (have hm' : at_ = (m : Int) := hm
               clear hm
               have e2 : ¬ at_ < 0 := by omega
               have e3 : 0 ≤ at_ := by omega
               have hmk : m % L < L := Nat.mod_lt _ hL0
               obtain ⟨k, hk⟩ : ∃ k, m % L = k := ⟨_, rfl⟩
               have hkI : at_ % (L : Int) = (k : Nat) := by rw [hm', ← hk]; rfl
               clear hm' hat1 hat2
               rw [hk] at hmk
               have hkL : (k : Int) < (L : Int) := by omega
               have hL0I : (0 : Int) < (L : Int) := by omega
               obtain ⟨y, hy⟩ : ∃ y, (dirB D)[k]? = some y := ⟨_, List.getElem?_eq_getElem (by rw [H3.out.2.2.1]; exact hmk)⟩
               have c0 : w3.cell? ⟨q, k, none⟩ = some (.int .u8 (y.toNat : Int)) := by rw [cellOf H3.out.1]; simp [hy, u8v]
               have f0 := frozenOf H3.out.1 k
               obtain ⟨z, hz⟩ : ∃ z : BitVec 8, bits .xor .u8 (y.toNat : Int) (x.toNat : Int) = (z.toNat : Int) := ⟨_, xor8 y x⟩
               obtain ⟨w4, hw4⟩ : ∃ w4, w4 = w3.setCell ⟨q, k, none⟩ (.int .u8 (z.toNat : Int)) := ⟨_, rfl⟩
               have H4 : Hid (∃ bs', RowB w4 q bs' ∧ bs'.length = L ∧ Below w.heap.size w w4) := ⟨(dirB D).set k z, by rw [hw4]; exact H3.out.1.turn k z, by rw [List.length_set]; exact H3.out.2.2.1, by rw [hw4]; exact H3.out.2.1.setCell (p := ⟨q, k, none⟩) H3.out.2.2.2 _⟩
               clear hy hk m
               go_wp2_with fail
               rw [← hw4]
               clear hw4 c0 f0 hz)
        all_goals
          obtain ⟨bs', hrow4, hbl4, hb4⟩ := H4.out
          have hown := hrow4.own (base := w.heap.size) H3.out.2.2.2 hbl4 (by omega)
          have cS := short2_any pr raw cr w4 (below_bytes hb4 HA.out.2.2.2) (by omega) (by omega)
          rw [hM] at cS
          have hb4s := hb4.size
          have hqw : w.heap.size ≤ q := H3.out.2.2.2
          have H4b : Hid (Below w.heap.size w w4) := hb4
          clear hrow4 hb4 H3 H4
          have ht40 : (raw.take 40).length ≤ 40 := by rw [List.length_take]; omega
          generalize raw.take 40 = R at *
          obtain ⟨K, hK⟩ : ∃ K, R.length = K := ⟨_, rfl⟩
          rw [hK] at cS ht40
          refine cS.mono ?_
          rintro e w5 ⟨⟨c', rfl, hbr5⟩, rfl⟩
          clear cS
          go_wp2_with (at_builtin; refine wpList_append_bytes rfl _ _ rfl w.heap.size _ L _ rfl hown _ R c' (by rw [hK]; rfl) hbr5 (by omega) hb4s ?_; intro v6 w6 hown6 hg6 hpl6; have HO6 : Hid (w6.ownsRow w.heap.size 5 1 v6 (L + R.length) (bs'.map u8v ++ R.map u8v) ∧ w5.grownBy w6 (Value.slice (some ⟨q, 0, none⟩) L L).ownBlock ∧ (v6.ownBlock = (Value.slice (some ⟨q, 0, none⟩) L L).ownBlock ∨ v6.ownBlock = some w5.heap.size)) := ⟨hown6, hg6, hpl6⟩; clear hown6 hg6 hpl6)
          obtain ⟨ho6, hg6, hp6⟩ := HO6.out
          rw [← List.map_append] at ho6
          obtain ⟨m6, hm6⟩ : ∃ m6, v6.ownBlock = some m6 := by
            rcases hp6 with e | e
            · exact ⟨q, by rw [e]; rfl⟩
            · exact ⟨_, e⟩
          obtain ⟨g6, c6, rfl, hc6, hl6, hg6b, hby6⟩ := own_form ho6 hm6
          have hb6 : Below w.heap.size w w6 := H4b.out.grown hg6 hb4s (fun j hj => by simp [Value.ownBlock] at hj; omega)
          have ht6 := below_tab hb6 HA.out.1.lt HA.out.1
          have cLd := load_all g6 0 c6 (bs' ++ R) w6 ht6 hby6 (by rw [hl6, hK]; omega) (by rw [hl6]; exact hc6)
          rw [hl6, hK] at cLd
          rw [hK] at hl6 hc6
          have H6 : Hid (Below w.heap.size w w6) := hb6
          clear ho6 hg6 hp6 hm6 hg6b hby6 hb6 ht6 HO6 hown hbr5
          simp only [hK]
          refine cLd.mono ?_
          rintro e w7 ⟨hb7, ⟨_, rfl⟩ | ⟨D2, rfl, hd7, hbs⟩⟩
          · have H7 : Hid (Below w.heap.size w w7) := H6.out.trans (hb7.mono H6.out.size)
            clear hb7 cLd
            go_wp2
            go_ret
            exact ⟨rfl, H7.out⟩
          · have H7 : Hid (Below w.heap.size w w7 ∧ DirOk w7 w6.heap.size (w6.heap.size + 2) D2) := ⟨H6.out.trans (hb7.mono H6.out.size), hd7⟩
            have hmod : ((L + K : Nat) : Int) % 512 = 0 := by
              have := congrArg List.length hbs
              rw [hl6, dirB_len hd7.2] at this
              omega
            obtain ⟨E, hEp, hEs⟩ := sorted_of D2.flatten hd7.2.wf.names
            have cI := list_any w6.heap.size (w6.heap.size + 2) D2 E hEp hEs w7 hd7
            clear hb7 cLd hd7
            go_wp2_with fail
            refine cI.mono ?_
            rintro e w8 ⟨⟨v8, kb, rfl, hv8⟩, hb8⟩
            obtain ⟨p8, c8, rfl, hst8⟩ := hv8.strs
            obtain ⟨n8, hn8⟩ : ∃ n8, (namesOf E).length = n8 := ⟨_, rfl⟩
            rw [hn8]
            have hnE : E.length = n8 := by rw [← hn8]; simp [namesOf]
            have hn2 : n8 ≤ 2048 := by
              have h1 := hEp.length_eq
              have h2 := H7.out.2.2.most
              unfold total at h2
              omega
            have H8 : Hid (Below w.heap.size w w8 ∧ DirOk w8 w6.heap.size (w6.heap.size + 2) D2 ∧ Strs w8 p8 (namesOf E) ∧ E.Perm D2.flatten ∧ Srt E) := ⟨H7.out.1.trans (hb8.mono H7.out.1.size), H7.out.2.below hb8, hst8, hEp, hEs⟩
            clear cI hv8 hb8 hst8 hEp hEs
            go_wp2_with fail
            go_loopw [16] (fun ii wr => ∃ i : Nat, ii = .int .i64 i ∧ i ≤ n8 ∧ Hid (Below w8.heap.size w8 wr)) (fun ii _ => n8 - (intOf ii).toNat)
            case atStart => exact ⟨0, rfl, by omega, Below.refl _ _⟩
            case round =>
              obtain ⟨i, rfl, hin, HI⟩ := hrel
              by_cases hlt : i < n8
              · have hltI : (i : Int) < (n8 : Int) := by omega
                obtain ⟨x, hx⟩ : ∃ x, E[i]? = some x := ⟨_, List.getElem?_eq_getElem (by omega)⟩
                obtain ⟨hb8, hd8, hst8, hEp, hEs⟩ := H8.out
                have hxE : x ∈ E := List.mem_of_getElem? hx
                have hxD : x ∈ D2.flatten := hEp.mem_iff.1 hxE
                obtain ⟨hxf, hx1, hx2⟩ := hd8.2.fine x hxD
                have hsh := fine_short hxf
                have hbr := hb8.trans (HI.out.mono hb8.size)
                have hxs : (bas x.name).size < 1000000 := by rw [bas_size]; omega
                obtain ⟨b, o, rfl, hc⟩ := (hst8.below HI.out) i (bas x.name) (by simp [namesOf, hx])
                have hlt6 : 1 < w6.heap.size := Nat.lt_of_lt_of_le HA.out.1.lt H6.out.size
                have cG := get_any w6.heap.size (w6.heap.size + 2) D2 (bas x.name) wr (below_tab hbr HA.out.1.lt HA.out.1) hlt6 (hd8.below HI.out) hxs
                have cG' : Calls Tryd.prog 12 #[.pointer (some ⟨w6.heap.size + 2, 0, none⟩), .string (bas x.name)] wr fun e w' => e = .returned (.tuple #[.int .i64 (x.num : Nat), .bool true]) ∧ Below wr.heap.size wr w' := by
                  refine cG.mono ?_
                  rintro e w9 ⟨hb9, ⟨y, hy, hn, rfl⟩ | ⟨hA, _⟩⟩
                  · have := srt_name hEs (hEp.mem_iff.2 hy) hxE hn
                    rw [this]; exact ⟨rfl, hb9⟩
                  · obtain ⟨l, hl, hxl⟩ := List.mem_flatten.1 hxD
                    obtain ⟨j, hj⟩ := List.getElem?_of_mem hl
                    exact absurd rfl (hA j l hj x hxl)
                have HX : Hid (E[i]? = some x ∧ Srt E ∧ Strs w8 (some ⟨b, o, none⟩) (namesOf E) ∧ fineN x.name = 0) := ⟨hx, hEs, hst8, hxf⟩
                clear cG hb8 hd8 hst8 hEp hEs hxE hxD hbr hx hxf
                go_wp2_with fail
                refine cG'.mono ?_
                rintro e w9 ⟨rfl, hb9⟩
                have H9 : Hid (Below w8.heap.size w8 w9) := HI.out.trans (hb9.mono HI.out.size)
                have c9 : w9.cell? ⟨b, o + i, none⟩ = some (.string (bas x.name)) := (hb9.cell (p := ⟨b, o + i, none⟩) (cell_lt hc)).trans hc
                have cL : ∀ W, Calls Tryd.prog 9 #[.string (bas x.name)] W fun e w' => e = .returned (.int .i64 0) ∧ w' = W := fun W => by
                  have := local_any (bas x.name) W (by omega)
                  rw [bas_data, HX.out.2.2.2] at this
                  exact this
                have q1 : ¬ (x.num : Int) < 1 := by omega
                have q2 : ¬ (2147483647 : Int) < (x.num : Int) := by omega
                clear cG' hb9 hc
                have bt : ∀ l, (bas l).toList = l := bas_toList
                by_cases hi0 : i = 0
                · subst hi0
                  rw [Nat.add_zero] at c9
                  go_wp2_with fail
                  refine reg25_zero (by kernel_rfl) b o n8 c8 x.num (bas x.name) w9 rfl rfl rfl rfl rfl (by omega) c9 cL (by omega) (by omega) ?_
                  intro W hS
                  have HS : Hid (Below w8.heap.size w8 W) := H9.out.trans (hS.mono H9.out.size)
                  clear hS
                  simp only [putAll, List.setIfInBounds_toArray, List.set_cons_zero, List.set_cons_succ]
                  go_wp2_with fail
                  exact ⟨⟨0 + 1, by simp, by omega, HS⟩, by simp [intOf]; omega⟩
                · obtain ⟨j, rfl⟩ : ∃ j, i = j + 1 := ⟨i - 1, by omega⟩
                  obtain ⟨y, hy⟩ : ∃ y, E[j]? = some y := ⟨_, List.getElem?_eq_getElem (by omega)⟩
                  have hless := srt_prev HX.out.2.1 hy HX.out.1
                  obtain ⟨b', o', e', hc'⟩ := (HX.out.2.2.1.below H9.out) j (bas y.name) (by simp [namesOf, hy])
                  injection e' with e'
                  injection e' with e1 e2
                  subst e1 e2
                  have e1 : ((j + 1 : Nat) : Int) - 1 = (j : Nat) := by omega
                  have hjI : (j : Int) < (n8 : Int) := by omega
                  have hpI : (0 : Int) < ((j + 1 : Nat) : Int) := by omega
                  have hpJ : (0 : Int) < (j : Int) + 1 := by omega
                  have hjJ : (j : Int) + 1 < (n8 : Int) := by omega
                  have e2 : (j : Int) + 1 - 1 = (j : Nat) := by omega
                  clear hy hi0
                  go_wp2_with fail
                  refine reg25_succ (by kernel_rfl) b o n8 c8 j x.num (bas x.name) (bas y.name) w9 rfl rfl rfl rfl rfl (by omega) c9 cL (by omega) (by omega) hc' (by rw [bas_toList, bas_toList]; exact less_asymm hless) (by rw [bas_toList, bas_toList]; exact fun h => less_ne hless h.symm) hn2 ?_
                  intro W hS
                  have HS : Hid (Below w8.heap.size w8 W) := H9.out.trans (hS.mono H9.out.size)
                  clear hS
                  simp only [putAll, List.setIfInBounds_toArray, List.set_cons_zero, List.set_cons_succ]
                  go_wp2_with fail
                  exact ⟨⟨j + 1 + 1, by simp, by omega, HS⟩, by simp [intOf]; omega⟩
              · obtain rfl : i = n8 := by omega
                have H9 : Hid (Below w.heap.size w wr) := H8.out.1.trans (HI.out.mono H8.out.1.size)
                go_wp2_with fail
                go_ret
                exact ⟨rfl, H9.out⟩

end Go.Proofs.YtdocablbkafkiaaDoor.Cd

namespace Go.Proofs.YtdocablbkafkiaaDoor
open Go.ChangeShapes Go.WideShapes Go.ChangeAt Go.RowKit Go.Deep

/-- Texts that came in. -/
theorem strs_at {H : Type} {enc : TypeId × Value → H} {W : World} {fuel : Nat} {a : Option Addr} {len cap : Nat} {y : DataW H × List MemPlace} (h : DataW.trod enc Tryd.prog W 0 (fun _ => true) true fuel 26 [.slice a len cap] = some y) (hwt : ∀ n ∈ y.1.weights Tryd.prog 26, n ≤ reachBytes) :
    ∃ ss : List ByteArray, ss.length = len ∧ len < 1000000000000000 ∧ (∀ (j : Nat) s, ss[j]? = some s → ∃ b o, a = some ⟨b, o, none⟩ ∧ W.cell? ⟨b, o + j, none⟩ = some (.string s)) ∧ ∀ s ∈ ss, s.size < 1000000000000000 := by
  obtain ⟨l, hl, _, hb, hr⟩ := elems_at (S := 1) Tryd.underlying26 Tryd.cells9c (by decide) ByteArray.empty (fun g o s => W.cell? ⟨g, o, none⟩ = some (.string s) ∧ s.size < 1000000000000000) h hwt
    (fun b o cs n x hc ht hw => by
      obtain ⟨s, rfl, rfl, _⟩ := DataW.trod_string Tryd.underlying9 ht
      obtain ⟨_, _, hcell⟩ := World.cells?_some hc
      have c0 := hcell 0 (by omega)
      simp only [Addr.add_lit, Nat.add_zero] at c0
      refine ⟨s, c0, ?_⟩
      have := hw s.data.toList.length (by rw [DataW.weights]; exact List.mem_singleton.2 rfl)
      unfold reachBytes at this
      have hsz : s.size = s.data.toList.length := Lib.size_eq s
      omega)
  rw [show Tryd.prog.bytesOf 9 = 16 by kernel_rfl] at hb
  unfold reachBytes at hb
  refine ⟨l, hl, by omega, fun j s hj => ?_, fun s hs => ?_⟩
  · obtain ⟨g, o, e, hx⟩ := hr (by have := (List.getElem?_eq_some_iff.1 hj).1; omega)
    have := (hx j s hj).1
    rw [Nat.mul_one] at this
    exact ⟨g, o, e, this⟩
  · obtain ⟨j, hj⟩ := List.getElem?_of_mem hs
    obtain ⟨g, o, e, hx⟩ := hr (by have := (List.getElem?_eq_some_iff.1 hj).1; omega)
    exact (hx j s hj).2

set_option maxRecDepth 100000 in
theorem dload_contract (H : Type) (enc : TypeId × Value → H) (W : World) (base : Nat) (args : Array Value) (ds gs : List (DataW H)) (before : List MemPlace)
    (hval : ∀ (j : Nat) t v, Tryd.f4.params[j]? = some t → args[j]? = some v → Value.okWide Tryd.prog W .any base t v)
    (hW : DataW.Whole enc Tryd.prog Tryd.f4.params.toList Rows.dirLoadSpec.vars false W args.toList ds gs before)
    (hz : (DataW.weightsEach Tryd.prog (Tryd.f4.params.toList ++ (OpenSpec.ofChange Rows.dirLoadSpec).bare.plain.varTypes Tryd.prog) (ds ++ gs)).all (· ≤ reachBytes) = true) (hL : laidMetH Tryd.prog Rows.dirLoadRow.laid W) :
    Calls Tryd.prog 4 args W fun e W' => ∃ v, e = .returned v ∧ Rows.dirLoadSpec.post enc Tryd.prog Tryd.f4 false true false false W args v W' := by
  have hW' := hW
  obtain ⟨p, q, hA0, hV, rfl, hfz, hnd⟩ := hW
  have hA : DataW.TrodAll enc Tryd.prog W 0 (fun _ => true) true Tryd.f4.params.toList args.toList ds p := hA0
  rw [Tryd.params4] at hA hval hz
  obtain ⟨v0, vs0, d0, ds0, p0, q0, hargs, rfl, rfl, h0, r0⟩ := trodAll_cons hA
  obtain ⟨v1, vs1, d1, ds1, p1, q1, rfl, rfl, rfl, h1, r1⟩ := trodAll_cons r0
  obtain ⟨v2, vs2, d2, ds2, p2, q2, rfl, rfl, rfl, h2, r2⟩ := trodAll_cons r1
  obtain ⟨v3, vs3, d3, ds3, p3, q3, rfl, rfl, rfl, h3, r3⟩ := trodAll_cons r2
  obtain ⟨rfl, rfl, rfl⟩ := trodAll_nil r3
  obtain rfl : args = #[v0, v1, v2, v3] := by cases args; simp_all
  obtain ⟨rfl, rfl⟩ := trodVars_none hV
  obtain ⟨a0, len0, cap0, rfl⟩ := okWide_slice Tryd.underlying26 (hval 0 26 v0 rfl rfl)
  have k0 := h0
  have lt0 : ∀ x ∈ p0, x.block < W.heap.size := by obtain ⟨m, hm⟩ := k0; exact DataW.trod_lt m _ _ _ hm
  have hw0 : ∀ n ∈ d0.weights Tryd.prog 26, n ≤ reachBytes := fun n hn => by
    have := List.all_eq_true.1 hz n (DataW.weights_mem_each (j := 0) (t := 26) (d := d0) rfl rfl n hn)
    simpa using this
  obtain ⟨ss, rfl, hsl, hns, hnb⟩ : ∃ ss : List ByteArray, ss.length = len0 ∧ len0 < 1000000000000000 ∧ Cd.Strs W a0 ss ∧ ∀ s ∈ ss, s.size < 1000000000000000 := by
    obtain ⟨fuel, hf⟩ := h0
    obtain ⟨ss, h1, h2, h3, h4⟩ := strs_at (y := (d0, p0)) (by simpa [Value.cells] using hf) hw0
    exact ⟨ss, h1, h2, fun j s hj => by obtain ⟨b, o, e, hc⟩ := h3 j s hj; exact ⟨b, o, e, hc⟩, h4⟩
  obtain ⟨a1, rfl, rfl, rfl, w1⟩ := open_int Tryd.underlying3 (hval 1 3 v1 rfl rfl) h1
  obtain ⟨a2, rfl, rfl, rfl, w2⟩ := open_int Tryd.underlying5 (hval 2 5 v2 rfl rfl) h2
  obtain ⟨a3, len3, cap3, hv3⟩ := okWide_slice Tryd.underlying36 (hval 3 36 v3 rfl rfl)
  have k3 := h3
  have lt3 : ∀ x ∈ p3, x.block < W.heap.size := by obtain ⟨m, hm⟩ := k3; exact DataW.trod_lt m _ _ _ hm
  obtain ⟨bp, bc, bs, hv, hbl, hb, hy⟩ := bytes_at_sized h3 (by rw [hv3]; rfl)
  have hsz : bs.length < 1000000000000000 := by
    rcases hy with ⟨_, h⟩ | ⟨elems, spare, rfl, h⟩
    · omega
    · have := sized_slice hz (j := 3) (t := 36) (e := 5) (elems := elems) (spare := spare) rfl rfl Tryd.underlying36
      rw [show Tryd.prog.bytesOf 5 = 1 by kernel_rfl] at this
      unfold reachBytes at this
      omega
  subst hv
  clear hA0 hv3 hw0
  have hx := byteOf_val w2
  unfold u8v at hx
  have hc := Cd.load_law a0 ss cap0 a1 (byteOf a2) bp bs bc W (tab_of_laid hL) hns hsl hnb hb hsz hbl (i64_wf w1).1 (i64_wf w1).2
  rw [hx] at hc
  refine hc.mono fun e W' ⟨he, bel⟩ => ?_
  subst he
  exact ⟨_, rfl, _, _, _, [], _, [], hW', trodAll_mk1 (shut_bool Tryd.underlying4 _),
    (trodAll_cons_mk (Below.trod laidOut (by kernel_rfl) (of_decide_eq_true (by kernel_rfl)) k0 bel lt0) (trodAll_cons_mk (shut_int Tryd.underlying3 w1) (trodAll_cons_mk (shut_int Tryd.underlying5 w2) (trodAll_cons_mk (Below.trod laidOut (by kernel_rfl) (of_decide_eq_true (by kernel_rfl)) k3 bel lt3) trodAll_mk0)))), rfl, bel.frame _, fun h => by cases h⟩

theorem dload_laid_met (os : Os) : laidMet Tryd.prog Rows.dirLoadRow.laid ((World.doorLaid Tryd.prog 400 os).forCall (fun _ _ => 0) ⟨#[], #[.slice none 0 0, .int .i64 0, .int .u8 0, .slice none 0 0], []⟩).memory :=
  laidMet_of_run' 20 (by kernel_rfl) (by kernel_rfl)
theorem dload_reads (os : Os) {H : Type} (enc : TypeId × Value → H) : ∃ places, DataW.whole enc Tryd.prog ((World.doorLaid Tryd.prog 400 os).forCall (fun _ _ => 0) ⟨#[], #[.slice none 0 0, .int .i64 0, .int .u8 0, .slice none 0 0], []⟩).memory Tryd.f4.params.toList Rows.dirLoadSpec.vars false (#[.slice none 0 0, .int .i64 0, .int .u8 0, .slice none 0 0] : Array Value).toList 8 = some ([.nil, .lit (.int .i64 0), .lit (.int .u8 0), .nil], [], places) :=
  ⟨[], by kernel_rfl⟩

set_option maxRecDepth 100000 in
theorem dload_lifted (os : Os) (started : os.Started) (H : Type) (enc : TypeId × Value → H) (F : Stop.Interp) :
    ReturnsInHanded {} Tryd.checked os 4 .any ((OpenSpec.ofChange Rows.dirLoadSpec).preRow enc Tryd.prog Tryd.f4 Rows.dirLoadRow.domain false Rows.dirLoadRow.laid) (((OpenSpec.ofChange Rows.dirLoadSpec).at F).post enc Tryd.prog Tryd.f4 false true false false) := by
  obtain ⟨places, hx⟩ := dload_reads os enc
  refine returnsInHanded_of_row (C := Tryd.checked) (s := OpenSpec.ofChange Rows.dirLoadSpec) own started (by kernel_rfl) Tryd.func4
    (witness_row_at (enc := enc) (C := Tryd.checked) false (World.doorLaid Tryd.prog 400 os) #[.slice none 0 0, .int .i64 0, .int .u8 0, .slice none 0 0] rfl (by kernel_rfl) (by kernel_rfl) (by kernel_rfl)
      (OpenSpec.preRow_of_cond 8 hx (by kernel_rfl) (fun k hk => by cases hk) (by kernel_rfl) (dload_laid_met os))) ?_
  intro W base args ds gs before hval hW _ _ hz hL _ _
  exact dload_contract H enc W base args ds gs before hval hW hz hL

theorem dload_said : Rows.DirLoadSaid :=
  OpenClaim.holds_of_cond 4 Tryd.f4 rfl rfl rfl rfl rfl rfl rfl ⟨rfl, rfl, rfl, rfl, rfl⟩ rfl rfl rfl rfl rfl (by kernel_rfl) Tryd.func4 (by kernel_rfl)
    (of_decide_eq_true (by kernel_rfl)) (by unfold Func.isWrapper; first | (rw [if_pos (by decide +kernel)]; kernel_rfl) | (rw [if_neg (by decide +kernel)]; exact ⟨rfl, rfl⟩))
    (fun os started H enc _ F => by rw [OpenClaim.pre_eq_preRow]; exact dload_lifted os started H enc F)

theorem dload_plain (f : FuncId) (fn : Func) (hf : Tryd.pinned.checked.prog.funcNamed "lagoon/lagoonlaw10.DirLoad" = some f) (hfn : Tryd.pinned.checked.prog.funcs[f]? = some fn) :
    true = Tryd.pinned.checked.prog.looks [] ∧ ∀ (j : Nat) t, fn.params[j]? = some t → Tryd.pinned.checked.prog.wantsStandIn t = false := by
  obtain rfl : f = 4 := Option.some.inj ((show Tryd.prog.funcNamed "lagoon/lagoonlaw10.DirLoad" = some 4 by kernel_rfl).symm.trans hf) |>.symm
  obtain rfl : fn = Tryd.f4 := (Option.some.inj (Tryd.func4.symm.trans hfn)).symm
  refine ⟨by kernel_rfl, fun j t ht => ?_⟩
  rw [Tryd.params4] at ht
  have hm : t ∈ [26, 3, 5, 36] := by simpa using Array.mem_of_getElem? ht
  have hall : ([26, 3, 5, 36].all fun u => !Tryd.prog.wantsStandIn u) = true := by kernel_rfl
  exact (show Tryd.prog.wantsStandIn t = false by simpa using List.all_eq_true.1 hall t hm)

theorem dirLoad_holds : Rows.DirLoadCardSaid :=
  Claim7.holds_tied_plain_at .later [] _ _ _ _ dload_said (fun _ h => by cases h) (by kernel_rfl) (fun _ h => by cases h) dirLoad_row_tie rfl ⟨rfl, rfl⟩ (by kernel_rfl) rfl dload_plain (by kernel_rfl)

#print axioms dirLoad_holds
end Go.Proofs.YtdocablbkafkiaaDoor
