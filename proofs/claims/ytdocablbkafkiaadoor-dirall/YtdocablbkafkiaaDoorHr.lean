/-
  One round of DirLoad's last loop: the condition, drawn in any order.
-/
import Derived.Test.YtdocablbkafkiaaDoorDc
import Derived.Test.YtdocablbkafkiaaDoorRg
namespace Go.Proofs.YtdocablbkafkiaaDoor.Cd
open Go.RowKit Go.Maps

/-- A region of a body, by its number. -/
def regs (n : Nat) : Code → Option (Array Oper)
  | .region k ops _ => if k = n then some ops else none
  | .seq a b => match regs n a with | some x => some x | none => regs n b
  | .cond _ a b => match regs n a with | some x => some x | none => regs n b
  | .block _ b => regs n b
  | .loop b => regs n b
  | .scope b => regs n b
  | .rangeFunc _ _ a b => match regs n a with | some x => some x | none => regs n b
  | _ => none

set_option maxRecDepth 8000 in
set_option maxHeartbeats 4000000 in
theorem reg25_zero {Q : Exit → Act → World → Prop} {base : Array Value} {d : List Deferred} {ops : Array Oper} (hops : Tryd.f4.body.bind (regs 25) = some ops) (gB oB n8 c8_ nk : Nat) (sx : ByteArray) (w9 : World) (hsz : base.size = 142)
    (b15 : base.getD 15 undef = .slice (some ⟨gB, oB, none⟩) n8 c8_) (b16 : base.getD 16 undef = .int .i64 (0 : Nat)) (b17 : base.getD 17 undef = .int .i64 (nk : Nat)) (b18 : base.getD 18 undef = .bool true)
    (hlt : 0 < n8) (c9 : w9.cell? ⟨gB, oB, none⟩ = some (.string sx)) (cL : ∀ W, Calls Tryd.prog 9 #[.string sx] W fun e w' => e = .returned (.int .i64 0) ∧ w' = W) (q1 : ¬ (nk : Int) < 1) (q2 : ¬ (2147483647 : Int) < (nk : Int))
    (hQ : ∀ W, Below w9.heap.size w9 W → Q .normal ⟨putAll base [(some 107, .slice (some ⟨gB, oB, none⟩) n8 c8_), (some 108, .int .i64 (0 : Nat)), (some 109, .pointer (some ⟨gB, oB, none⟩)), (some 110, .string sx), (some 111, .int .i64 0), (some 112, .bool false), (some 113, .bool false), (some 114, .int .i64 (0 : Nat)), (some 115, .bool false), (some 116, .bool false), (some 117, undef), (some 118, undef), (some 119, undef), (some 120, undef), (some 121, undef), (some 122, undef), (some 123, undef), (some 124, undef), (some 125, undef), (some 126, undef), (some 127, .bool false), (some 128, .bool false), (some 129, .bool false), (some 130, .bool true), (some 131, .bool false), (some 132, .bool false), (some 133, .bool false), (some 134, .int .i64 (nk : Nat)), (some 135, .bool false), (some 136, .bool false), (some 137, .bool false), (some 138, .int .i64 (nk : Nat)), (some 139, .bool false), (some 140, .bool false)], d⟩ W) :
    (Code.region 25 ops true).wp Tryd.prog Q ⟨base, d⟩ w9 := by
  have hmix : Tryd.prog.follows .mixedOrders = true := by kernel_rfl
  have h2 := (show Tryd.f4.body.bind (regs 25) = some _ from rfl).symm.trans hops
  obtain rfl := Option.some.inj h2
  clear h2 hops
  have below9 : Below w9.heap.size w9 w9.drew := (Below.refl _ _).drew
  have hltJ : 0 < n8 := hlt
  obtain ⟨LL, hLe⟩ : ∃ LL : List (Option Tmp × Value), LL = [(some 107, .slice (some ⟨gB, oB, none⟩) n8 c8_), (some 108, .int .i64 (0 : Nat)), (some 109, .pointer (some ⟨gB, oB, none⟩)), (some 110, .string sx), (some 111, .int .i64 0), (some 112, .bool false), (some 113, .bool false), (some 114, .int .i64 (0 : Nat)), (some 115, .bool false), (some 116, .bool false), (some 117, undef), (some 118, undef), (some 119, undef), (some 120, undef), (some 121, undef), (some 122, undef), (some 123, undef), (some 124, undef), (some 125, undef), (some 126, undef), (some 127, .bool false), (some 128, .bool false), (some 129, .bool false), (some 130, .bool true), (some 131, .bool false), (some 132, .bool false), (some 133, .bool false), (some 134, .int .i64 (nk : Nat)), (some 135, .bool false), (some 136, .bool false), (some 137, .bool false), (some 138, .int .i64 (nk : Nat)), (some 139, .bool false), (some 140, .bool false)] := ⟨_, rfl⟩
  have vv0 : vals LL 0 = .slice (some ⟨gB, oB, none⟩) n8 c8_ := by rw [hLe]; rfl
  have vv1 : vals LL 1 = .int .i64 (0 : Nat) := by rw [hLe]; rfl
  have vv2 : vals LL 2 = .pointer (some ⟨gB, oB, none⟩) := by rw [hLe]; rfl
  have vv3 : vals LL 3 = .string sx := by rw [hLe]; rfl
  have vv4 : vals LL 4 = .int .i64 0 := by rw [hLe]; rfl
  have vv5 : vals LL 5 = .bool false := by rw [hLe]; rfl
  have vv6 : vals LL 6 = .bool false := by rw [hLe]; rfl
  have vv7 : vals LL 7 = .int .i64 (0 : Nat) := by rw [hLe]; rfl
  have vv8 : vals LL 8 = .bool false := by rw [hLe]; rfl
  have vv9 : vals LL 9 = .bool false := by rw [hLe]; rfl
  have vv10 : vals LL 10 = undef := by rw [hLe]; rfl
  have vv11 : vals LL 11 = undef := by rw [hLe]; rfl
  have vv12 : vals LL 12 = undef := by rw [hLe]; rfl
  have vv13 : vals LL 13 = undef := by rw [hLe]; rfl
  have vv14 : vals LL 14 = undef := by rw [hLe]; rfl
  have vv15 : vals LL 15 = undef := by rw [hLe]; rfl
  have vv16 : vals LL 16 = undef := by rw [hLe]; rfl
  have vv17 : vals LL 17 = undef := by rw [hLe]; rfl
  have vv18 : vals LL 18 = undef := by rw [hLe]; rfl
  have vv19 : vals LL 19 = undef := by rw [hLe]; rfl
  have vv20 : vals LL 20 = .bool false := by rw [hLe]; rfl
  have vv21 : vals LL 21 = .bool false := by rw [hLe]; rfl
  have vv22 : vals LL 22 = .bool false := by rw [hLe]; rfl
  have vv23 : vals LL 23 = .bool true := by rw [hLe]; rfl
  have vv24 : vals LL 24 = .bool false := by rw [hLe]; rfl
  have vv25 : vals LL 25 = .bool false := by rw [hLe]; rfl
  have vv26 : vals LL 26 = .bool false := by rw [hLe]; rfl
  have vv27 : vals LL 27 = .int .i64 (nk : Nat) := by rw [hLe]; rfl
  have vv28 : vals LL 28 = .bool false := by rw [hLe]; rfl
  have vv29 : vals LL 29 = .bool false := by rw [hLe]; rfl
  have vv30 : vals LL 30 = .bool false := by rw [hLe]; rfl
  have vv31 : vals LL 31 = .int .i64 (nk : Nat) := by rw [hLe]; rfl
  have vv32 : vals LL 32 = .bool false := by rw [hLe]; rfl
  have vv33 : vals LL 33 = .bool false := by rw [hLe]; rfl
  refine region_laid hmix (by kernel_rfl) 142 hsz (by kernel_rfl) LL (by rw [hLe]; rfl) (fun _ W => Below w9.heap.size w9 W) below9 ?_ ?_
  · intro b W i o a hS hcl ho hb hd ev kp yl
    match i with
    | 0 =>
      simp only [List.getElem?_toArray, List.getElem?_cons_zero, Option.some.injEq] at ho
      subst ho
      have e15 : a.tmps[15]?.getD undef = .slice (some ⟨gB, oB, none⟩) n8 c8_ := (kp 15 (by kernel_rfl)).trans b15
      rw [vv0]
      refine does_value rfl (by intro c h; cases h) (w' := W) ?_ (hS)
      · simp [execOp, go_sem, e15]
    | 1 =>
      simp only [List.getElem?_toArray, List.getElem?_cons_zero, List.getElem?_cons_succ, Option.some.injEq] at ho
      subst ho
      have e16 : a.tmps[16]?.getD undef = .int .i64 (0 : Nat) := (kp 16 (by kernel_rfl)).trans b16
      rw [vv1]
      refine does_value rfl (by intro c h; cases h) (w' := W) ?_ (hS)
      · simp [execOp, go_sem, e16]
    | 2 =>
      simp only [List.getElem?_toArray, List.getElem?_cons_zero, List.getElem?_cons_succ, Option.some.injEq] at ho
      subst ho
      have p0 : b 0 = true := hd ⟨0, .data⟩ (by simp) rfl
      have p1 : b 1 = true := hd ⟨1, .data⟩ (by simp) rfl
      have e107 := (ev 0 107 rfl p0).trans vv0
      have e108 := (ev 1 108 rfl p1).trans vv1
      rw [vv2]
      refine does_value rfl (by intro c h; cases h) (w' := W) ?_ (hS)
      · simp [execOp, go_sem, e107, e108, hltJ]
    | 3 =>
      simp only [List.getElem?_toArray, List.getElem?_cons_zero, List.getElem?_cons_succ, Option.some.injEq] at ho
      subst ho
      have p2 : b 2 = true := hd ⟨2, .data⟩ (by simp) rfl
      have e109 := (ev 2 109 rfl p2).trans vv2
      have hl := (hS.cell (p := ⟨gB, oB, none⟩) (cell_lt c9)).trans c9
      rw [vv3]
      refine does_value rfl (by intro c h; cases h) (w' := W) ?_ (hS)
      · simp [execOp, go_sem, e109, hl]
    | 4 =>
      simp only [List.getElem?_toArray, List.getElem?_cons_zero, List.getElem?_cons_succ, Option.some.injEq] at ho
      subst ho
      have p3 : b 3 = true := hd ⟨3, .data⟩ (by simp) rfl
      have e110 := (ev 3 110 rfl p3).trans vv3
      rw [vv4]
      refine does_call rfl (by intro c h; cases h) (f := 9) (args := #[.string sx]) ?_ ?_
      · simp [go_sem, e110]
      · exact (cL W).mono (fun e w' h => by obtain ⟨rfl, rfl⟩ := h; exact ⟨rfl, hS⟩)
    | 5 =>
      simp only [List.getElem?_toArray, List.getElem?_cons_zero, List.getElem?_cons_succ, Option.some.injEq] at ho
      subst ho
      have p4 : b 4 = true := hd ⟨4, .data⟩ (by simp) rfl
      have e111 := (ev 4 111 rfl p4).trans vv4
      rw [vv5]
      refine does_value rfl (by intro c h; cases h) (w' := W) ?_ (hS)
      · simp [execOp, go_sem, e111]
    | 6 =>
      simp only [List.getElem?_toArray, List.getElem?_cons_zero, List.getElem?_cons_succ, Option.some.injEq] at ho
      subst ho
      have p5 : b 5 = true := hd ⟨5, .data⟩ (by simp) rfl
      have e112 := (ev 5 112 rfl p5).trans vv5
      rw [vv6]
      refine does_value rfl (by intro c h; cases h) (w' := W) ?_ (hS)
      · simp [execOp, go_sem, e112]
    | 7 =>
      simp only [List.getElem?_toArray, List.getElem?_cons_zero, List.getElem?_cons_succ, Option.some.injEq] at ho
      subst ho
      have p6 : b 6 = true := hd ⟨6, .guard⟩ (by simp) rfl
      have e16 : a.tmps[16]?.getD undef = .int .i64 (0 : Nat) := (kp 16 (by kernel_rfl)).trans b16
      rw [vv7]
      refine does_value_g rfl (yl 6 113 false rfl p6 vv6) (by intro c h; cases h) (w' := W) ?_ (hS)
      · simp [execOp, go_sem, e16]
    | 8 =>
      simp only [List.getElem?_toArray, List.getElem?_cons_zero, List.getElem?_cons_succ, Option.some.injEq] at ho
      subst ho
      have p7 : b 7 = true := hd ⟨7, .data⟩ (by simp) rfl
      have p6 : b 6 = true := hd ⟨6, .guard⟩ (by simp) rfl
      have e114 := (ev 7 114 rfl p7).trans vv7
      rw [vv8]
      refine does_value_g rfl (yl 6 113 false rfl p6 vv6) (by intro c h; cases h) (w' := W) ?_ (hS)
      · simp [execOp, go_sem, e114]
    | 9 =>
      simp only [List.getElem?_toArray, List.getElem?_cons_zero, List.getElem?_cons_succ, Option.some.injEq] at ho
      subst ho
      have p8 : b 8 = true := hd ⟨8, .data⟩ (by simp) rfl
      have p6 : b 6 = true := hd ⟨6, .guard⟩ (by simp) rfl
      have e115 := (ev 8 115 rfl p8).trans vv8
      rw [vv9]
      refine does_value_g rfl (yl 6 113 false rfl p6 vv6) (by intro c h; cases h) (w' := W) ?_ (hS)
      · simp [execOp, go_sem, e115]
    | 10 =>
      simp only [List.getElem?_toArray, List.getElem?_cons_zero, List.getElem?_cons_succ, Option.some.injEq] at ho
      subst ho
      have p9 : b 9 = true := hd ⟨9, .guard⟩ (by simp) rfl
      exact does_pass rfl (yl 9 116 false rfl p9 vv9) (by decide) vv10 (hS)
    | 11 =>
      simp only [List.getElem?_toArray, List.getElem?_cons_zero, List.getElem?_cons_succ, Option.some.injEq] at ho
      subst ho
      have p9 : b 9 = true := hd ⟨9, .guard⟩ (by simp) rfl
      exact does_pass rfl (yl 9 116 false rfl p9 vv9) (by decide) vv11 (hS)
    | 12 =>
      simp only [List.getElem?_toArray, List.getElem?_cons_zero, List.getElem?_cons_succ, Option.some.injEq] at ho
      subst ho
      have p10 : b 10 = true := hd ⟨10, .data⟩ (by simp) rfl
      have p11 : b 11 = true := hd ⟨11, .data⟩ (by simp) rfl
      have p9 : b 9 = true := hd ⟨9, .guard⟩ (by simp) rfl
      exact does_pass rfl (yl 9 116 false rfl p9 vv9) (by decide) vv12 (hS)
    | 13 =>
      simp only [List.getElem?_toArray, List.getElem?_cons_zero, List.getElem?_cons_succ, Option.some.injEq] at ho
      subst ho
      have p12 : b 12 = true := hd ⟨12, .data⟩ (by simp) rfl
      have p9 : b 9 = true := hd ⟨9, .guard⟩ (by simp) rfl
      exact does_pass rfl (yl 9 116 false rfl p9 vv9) (by decide) vv13 (hS)
    | 14 =>
      simp only [List.getElem?_toArray, List.getElem?_cons_zero, List.getElem?_cons_succ, Option.some.injEq] at ho
      subst ho
      have p9 : b 9 = true := hd ⟨9, .guard⟩ (by simp) rfl
      exact does_pass rfl (yl 9 116 false rfl p9 vv9) (by decide) vv14 (hS)
    | 15 =>
      simp only [List.getElem?_toArray, List.getElem?_cons_zero, List.getElem?_cons_succ, Option.some.injEq] at ho
      subst ho
      have p9 : b 9 = true := hd ⟨9, .guard⟩ (by simp) rfl
      exact does_pass rfl (yl 9 116 false rfl p9 vv9) (by decide) vv15 (hS)
    | 16 =>
      simp only [List.getElem?_toArray, List.getElem?_cons_zero, List.getElem?_cons_succ, Option.some.injEq] at ho
      subst ho
      have p15 : b 15 = true := hd ⟨15, .data⟩ (by simp) rfl
      have p9 : b 9 = true := hd ⟨9, .guard⟩ (by simp) rfl
      exact does_pass rfl (yl 9 116 false rfl p9 vv9) (by decide) vv16 (hS)
    | 17 =>
      simp only [List.getElem?_toArray, List.getElem?_cons_zero, List.getElem?_cons_succ, Option.some.injEq] at ho
      subst ho
      have p14 : b 14 = true := hd ⟨14, .data⟩ (by simp) rfl
      have p16 : b 16 = true := hd ⟨16, .data⟩ (by simp) rfl
      have p9 : b 9 = true := hd ⟨9, .guard⟩ (by simp) rfl
      exact does_pass rfl (yl 9 116 false rfl p9 vv9) (by decide) vv17 (hS)
    | 18 =>
      simp only [List.getElem?_toArray, List.getElem?_cons_zero, List.getElem?_cons_succ, Option.some.injEq] at ho
      subst ho
      have p17 : b 17 = true := hd ⟨17, .data⟩ (by simp) rfl
      have p9 : b 9 = true := hd ⟨9, .guard⟩ (by simp) rfl
      exact does_pass rfl (yl 9 116 false rfl p9 vv9) (by decide) vv18 (hS)
    | 19 =>
      simp only [List.getElem?_toArray, List.getElem?_cons_zero, List.getElem?_cons_succ, Option.some.injEq] at ho
      subst ho
      have p13 : b 13 = true := hd ⟨13, .data⟩ (by simp) rfl
      have p18 : b 18 = true := hd ⟨18, .data⟩ (by simp) rfl
      have p9 : b 9 = true := hd ⟨9, .guard⟩ (by simp) rfl
      exact does_pass rfl (yl 9 116 false rfl p9 vv9) (by decide) vv19 (hS)
    | 20 =>
      simp only [List.getElem?_toArray, List.getElem?_cons_zero, List.getElem?_cons_succ, Option.some.injEq] at ho
      subst ho
      have p9 : b 9 = true := hd ⟨9, .data⟩ (by simp) rfl
      have p19 : b 19 = true := hd ⟨19, .data⟩ (by simp) rfl
      have p6 : b 6 = true := hd ⟨6, .guard⟩ (by simp) rfl
      have e116 := (ev 9 116 rfl p9).trans vv9
      rw [vv20]
      refine does_value_g rfl (yl 6 113 false rfl p6 vv6) (by intro c h; cases h) (w' := W) ?_ (hS)
      · simp [execOp, go_sem, e116]
    | 21 =>
      simp only [List.getElem?_toArray, List.getElem?_cons_zero, List.getElem?_cons_succ, Option.some.injEq] at ho
      subst ho
      have p6 : b 6 = true := hd ⟨6, .data⟩ (by simp) rfl
      have p20 : b 20 = true := hd ⟨20, .data⟩ (by simp) rfl
      have e113 := (ev 6 113 rfl p6).trans vv6
      have e127 := (ev 20 127 rfl p20).trans vv20
      rw [vv21]
      refine does_value rfl (by intro c h; cases h) (w' := W) ?_ (hS)
      · simp [execOp, go_sem, e113, e127]
    | 22 =>
      simp only [List.getElem?_toArray, List.getElem?_cons_zero, List.getElem?_cons_succ, Option.some.injEq] at ho
      subst ho
      have p21 : b 21 = true := hd ⟨21, .data⟩ (by simp) rfl
      have e128 := (ev 21 128 rfl p21).trans vv21
      rw [vv22]
      refine does_value rfl (by intro c h; cases h) (w' := W) ?_ (hS)
      · simp [execOp, go_sem, e128]
    | 23 =>
      simp only [List.getElem?_toArray, List.getElem?_cons_zero, List.getElem?_cons_succ, Option.some.injEq] at ho
      subst ho
      have p22 : b 22 = true := hd ⟨22, .guard⟩ (by simp) rfl
      have e18 : a.tmps[18]?.getD undef = .bool true := (kp 18 (by kernel_rfl)).trans b18
      rw [vv23]
      refine does_value_g rfl (yl 22 129 false rfl p22 vv22) (by intro c h; cases h) (w' := W) ?_ (hS)
      · simp [execOp, go_sem, e18]
    | 24 =>
      simp only [List.getElem?_toArray, List.getElem?_cons_zero, List.getElem?_cons_succ, Option.some.injEq] at ho
      subst ho
      have p23 : b 23 = true := hd ⟨23, .data⟩ (by simp) rfl
      have p22 : b 22 = true := hd ⟨22, .guard⟩ (by simp) rfl
      have e130 := (ev 23 130 rfl p23).trans vv23
      rw [vv24]
      refine does_value_g rfl (yl 22 129 false rfl p22 vv22) (by intro c h; cases h) (w' := W) ?_ (hS)
      · simp [execOp, go_sem, e130]
    | 25 =>
      simp only [List.getElem?_toArray, List.getElem?_cons_zero, List.getElem?_cons_succ, Option.some.injEq] at ho
      subst ho
      have p22 : b 22 = true := hd ⟨22, .data⟩ (by simp) rfl
      have p24 : b 24 = true := hd ⟨24, .data⟩ (by simp) rfl
      have e129 := (ev 22 129 rfl p22).trans vv22
      have e131 := (ev 24 131 rfl p24).trans vv24
      rw [vv25]
      refine does_value rfl (by intro c h; cases h) (w' := W) ?_ (hS)
      · simp [execOp, go_sem, e129, e131]
    | 26 =>
      simp only [List.getElem?_toArray, List.getElem?_cons_zero, List.getElem?_cons_succ, Option.some.injEq] at ho
      subst ho
      have p25 : b 25 = true := hd ⟨25, .data⟩ (by simp) rfl
      have e132 := (ev 25 132 rfl p25).trans vv25
      rw [vv26]
      refine does_value rfl (by intro c h; cases h) (w' := W) ?_ (hS)
      · simp [execOp, go_sem, e132]
    | 27 =>
      simp only [List.getElem?_toArray, List.getElem?_cons_zero, List.getElem?_cons_succ, Option.some.injEq] at ho
      subst ho
      have p26 : b 26 = true := hd ⟨26, .guard⟩ (by simp) rfl
      have e17 : a.tmps[17]?.getD undef = .int .i64 (nk : Nat) := (kp 17 (by kernel_rfl)).trans b17
      rw [vv27]
      refine does_value_g rfl (yl 26 133 false rfl p26 vv26) (by intro c h; cases h) (w' := W) ?_ (hS)
      · simp [execOp, go_sem, e17]
    | 28 =>
      simp only [List.getElem?_toArray, List.getElem?_cons_zero, List.getElem?_cons_succ, Option.some.injEq] at ho
      subst ho
      have p27 : b 27 = true := hd ⟨27, .data⟩ (by simp) rfl
      have p26 : b 26 = true := hd ⟨26, .guard⟩ (by simp) rfl
      have e134 := (ev 27 134 rfl p27).trans vv27
      rw [vv28]
      refine does_value_g rfl (yl 26 133 false rfl p26 vv26) (by intro c h; cases h) (w' := W) ?_ (hS)
      · simp [execOp, go_sem, e134, q1]
    | 29 =>
      simp only [List.getElem?_toArray, List.getElem?_cons_zero, List.getElem?_cons_succ, Option.some.injEq] at ho
      subst ho
      have p26 : b 26 = true := hd ⟨26, .data⟩ (by simp) rfl
      have p28 : b 28 = true := hd ⟨28, .data⟩ (by simp) rfl
      have e133 := (ev 26 133 rfl p26).trans vv26
      have e135 := (ev 28 135 rfl p28).trans vv28
      rw [vv29]
      refine does_value rfl (by intro c h; cases h) (w' := W) ?_ (hS)
      · simp [execOp, go_sem, e133, e135]
    | 30 =>
      simp only [List.getElem?_toArray, List.getElem?_cons_zero, List.getElem?_cons_succ, Option.some.injEq] at ho
      subst ho
      have p29 : b 29 = true := hd ⟨29, .data⟩ (by simp) rfl
      have e136 := (ev 29 136 rfl p29).trans vv29
      rw [vv30]
      refine does_value rfl (by intro c h; cases h) (w' := W) ?_ (hS)
      · simp [execOp, go_sem, e136]
    | 31 =>
      simp only [List.getElem?_toArray, List.getElem?_cons_zero, List.getElem?_cons_succ, Option.some.injEq] at ho
      subst ho
      have p30 : b 30 = true := hd ⟨30, .guard⟩ (by simp) rfl
      have e17 : a.tmps[17]?.getD undef = .int .i64 (nk : Nat) := (kp 17 (by kernel_rfl)).trans b17
      rw [vv31]
      refine does_value_g rfl (yl 30 137 false rfl p30 vv30) (by intro c h; cases h) (w' := W) ?_ (hS)
      · simp [execOp, go_sem, e17]
    | 32 =>
      simp only [List.getElem?_toArray, List.getElem?_cons_zero, List.getElem?_cons_succ, Option.some.injEq] at ho
      subst ho
      have p31 : b 31 = true := hd ⟨31, .data⟩ (by simp) rfl
      have p30 : b 30 = true := hd ⟨30, .guard⟩ (by simp) rfl
      have e138 := (ev 31 138 rfl p31).trans vv31
      rw [vv32]
      refine does_value_g rfl (yl 30 137 false rfl p30 vv30) (by intro c h; cases h) (w' := W) ?_ (hS)
      · simp [execOp, go_sem, e138, q2]
    | 33 =>
      simp only [List.getElem?_toArray, List.getElem?_cons_zero, List.getElem?_cons_succ, Option.some.injEq] at ho
      subst ho
      have p30 : b 30 = true := hd ⟨30, .data⟩ (by simp) rfl
      have p32 : b 32 = true := hd ⟨32, .data⟩ (by simp) rfl
      have e137 := (ev 30 137 rfl p30).trans vv30
      have e139 := (ev 32 139 rfl p32).trans vv32
      rw [vv33]
      refine does_value rfl (by intro c h; cases h) (w' := W) ?_ (hS)
      · simp [execOp, go_sem, e137, e139]
    | k + 34 => simp at ho
  · intro b' W hS _
    subst hLe
    exact hQ W hS

set_option maxRecDepth 8000 in
set_option maxHeartbeats 4000000 in
theorem reg25_succ {Q : Exit → Act → World → Prop} {base : Array Value} {d : List Deferred} {ops : Array Oper} (hops : Tryd.f4.body.bind (regs 25) = some ops) (gB oB n8 c8_ j nk : Nat) (sx sy : ByteArray) (w9 : World) (hsz : base.size = 142)
    (b15 : base.getD 15 undef = .slice (some ⟨gB, oB, none⟩) n8 c8_) (b16 : base.getD 16 undef = .int .i64 ((j + 1 : Nat) : Int)) (b17 : base.getD 17 undef = .int .i64 (nk : Nat)) (b18 : base.getD 18 undef = .bool true)
    (hlt : j + 1 < n8) (c9 : w9.cell? ⟨gB, oB + (j + 1), none⟩ = some (.string sx)) (cL : ∀ W, Calls Tryd.prog 9 #[.string sx] W fun e w' => e = .returned (.int .i64 0) ∧ w' = W) (q1 : ¬ (nk : Int) < 1) (q2 : ¬ (2147483647 : Int) < (nk : Int))
    (c8 : w9.cell? ⟨gB, oB + j, none⟩ = some (.string sy)) (hle1 : Op.bytesLess sx.toList sy.toList = false) (hle2 : ¬ sx.toList = sy.toList) (hn8 : n8 ≤ 2048)
    (hQ : ∀ W, Below w9.heap.size w9 W → Q .normal ⟨putAll base [(some 107, .slice (some ⟨gB, oB, none⟩) n8 c8_), (some 108, .int .i64 ((j + 1 : Nat) : Int)), (some 109, .pointer (some ⟨gB, oB + (j + 1), none⟩)), (some 110, .string sx), (some 111, .int .i64 0), (some 112, .bool false), (some 113, .bool false), (some 114, .int .i64 ((j + 1 : Nat) : Int)), (some 115, .bool true), (some 116, .bool true), (some 117, .slice (some ⟨gB, oB, none⟩) n8 c8_), (some 118, .int .i64 ((j + 1 : Nat) : Int)), (some 119, .pointer (some ⟨gB, oB + (j + 1), none⟩)), (some 120, .string sx), (some 121, .slice (some ⟨gB, oB, none⟩) n8 c8_), (some 122, .int .i64 ((j + 1 : Nat) : Int)), (some 123, .int .i64 (j : Nat)), (some 124, .pointer (some ⟨gB, oB + j, none⟩)), (some 125, .string sy), (some 126, .bool false), (some 127, .bool false), (some 128, .bool false), (some 129, .bool false), (some 130, .bool true), (some 131, .bool false), (some 132, .bool false), (some 133, .bool false), (some 134, .int .i64 (nk : Nat)), (some 135, .bool false), (some 136, .bool false), (some 137, .bool false), (some 138, .int .i64 (nk : Nat)), (some 139, .bool false), (some 140, .bool false)], d⟩ W) :
    (Code.region 25 ops true).wp Tryd.prog Q ⟨base, d⟩ w9 := by
  have hmix : Tryd.prog.follows .mixedOrders = true := by kernel_rfl
  have h2 := (show Tryd.f4.body.bind (regs 25) = some _ from rfl).symm.trans hops
  obtain rfl := Option.some.inj h2
  clear h2 hops
  have below9 : Below w9.heap.size w9 w9.drew := (Below.refl _ _).drew
  have hltJ : (j : Int) + 1 < (n8 : Int) := by omega
  have hjI : (j : Int) < (n8 : Int) := by omega
  have hpJ : (0 : Int) < (j : Int) + 1 := by omega
  obtain ⟨LL, hLe⟩ : ∃ LL : List (Option Tmp × Value), LL = [(some 107, .slice (some ⟨gB, oB, none⟩) n8 c8_), (some 108, .int .i64 ((j + 1 : Nat) : Int)), (some 109, .pointer (some ⟨gB, oB + (j + 1), none⟩)), (some 110, .string sx), (some 111, .int .i64 0), (some 112, .bool false), (some 113, .bool false), (some 114, .int .i64 ((j + 1 : Nat) : Int)), (some 115, .bool true), (some 116, .bool true), (some 117, .slice (some ⟨gB, oB, none⟩) n8 c8_), (some 118, .int .i64 ((j + 1 : Nat) : Int)), (some 119, .pointer (some ⟨gB, oB + (j + 1), none⟩)), (some 120, .string sx), (some 121, .slice (some ⟨gB, oB, none⟩) n8 c8_), (some 122, .int .i64 ((j + 1 : Nat) : Int)), (some 123, .int .i64 (j : Nat)), (some 124, .pointer (some ⟨gB, oB + j, none⟩)), (some 125, .string sy), (some 126, .bool false), (some 127, .bool false), (some 128, .bool false), (some 129, .bool false), (some 130, .bool true), (some 131, .bool false), (some 132, .bool false), (some 133, .bool false), (some 134, .int .i64 (nk : Nat)), (some 135, .bool false), (some 136, .bool false), (some 137, .bool false), (some 138, .int .i64 (nk : Nat)), (some 139, .bool false), (some 140, .bool false)] := ⟨_, rfl⟩
  have vv0 : vals LL 0 = .slice (some ⟨gB, oB, none⟩) n8 c8_ := by rw [hLe]; rfl
  have vv1 : vals LL 1 = .int .i64 ((j + 1 : Nat) : Int) := by rw [hLe]; rfl
  have vv2 : vals LL 2 = .pointer (some ⟨gB, oB + (j + 1), none⟩) := by rw [hLe]; rfl
  have vv3 : vals LL 3 = .string sx := by rw [hLe]; rfl
  have vv4 : vals LL 4 = .int .i64 0 := by rw [hLe]; rfl
  have vv5 : vals LL 5 = .bool false := by rw [hLe]; rfl
  have vv6 : vals LL 6 = .bool false := by rw [hLe]; rfl
  have vv7 : vals LL 7 = .int .i64 ((j + 1 : Nat) : Int) := by rw [hLe]; rfl
  have vv8 : vals LL 8 = .bool true := by rw [hLe]; rfl
  have vv9 : vals LL 9 = .bool true := by rw [hLe]; rfl
  have vv10 : vals LL 10 = .slice (some ⟨gB, oB, none⟩) n8 c8_ := by rw [hLe]; rfl
  have vv11 : vals LL 11 = .int .i64 ((j + 1 : Nat) : Int) := by rw [hLe]; rfl
  have vv12 : vals LL 12 = .pointer (some ⟨gB, oB + (j + 1), none⟩) := by rw [hLe]; rfl
  have vv13 : vals LL 13 = .string sx := by rw [hLe]; rfl
  have vv14 : vals LL 14 = .slice (some ⟨gB, oB, none⟩) n8 c8_ := by rw [hLe]; rfl
  have vv15 : vals LL 15 = .int .i64 ((j + 1 : Nat) : Int) := by rw [hLe]; rfl
  have vv16 : vals LL 16 = .int .i64 (j : Nat) := by rw [hLe]; rfl
  have vv17 : vals LL 17 = .pointer (some ⟨gB, oB + j, none⟩) := by rw [hLe]; rfl
  have vv18 : vals LL 18 = .string sy := by rw [hLe]; rfl
  have vv19 : vals LL 19 = .bool false := by rw [hLe]; rfl
  have vv20 : vals LL 20 = .bool false := by rw [hLe]; rfl
  have vv21 : vals LL 21 = .bool false := by rw [hLe]; rfl
  have vv22 : vals LL 22 = .bool false := by rw [hLe]; rfl
  have vv23 : vals LL 23 = .bool true := by rw [hLe]; rfl
  have vv24 : vals LL 24 = .bool false := by rw [hLe]; rfl
  have vv25 : vals LL 25 = .bool false := by rw [hLe]; rfl
  have vv26 : vals LL 26 = .bool false := by rw [hLe]; rfl
  have vv27 : vals LL 27 = .int .i64 (nk : Nat) := by rw [hLe]; rfl
  have vv28 : vals LL 28 = .bool false := by rw [hLe]; rfl
  have vv29 : vals LL 29 = .bool false := by rw [hLe]; rfl
  have vv30 : vals LL 30 = .bool false := by rw [hLe]; rfl
  have vv31 : vals LL 31 = .int .i64 (nk : Nat) := by rw [hLe]; rfl
  have vv32 : vals LL 32 = .bool false := by rw [hLe]; rfl
  have vv33 : vals LL 33 = .bool false := by rw [hLe]; rfl
  refine region_laid hmix (by kernel_rfl) 142 hsz (by kernel_rfl) LL (by rw [hLe]; rfl) (fun _ W => Below w9.heap.size w9 W) below9 ?_ ?_
  · intro b W i o a hS hcl ho hb hd ev kp yl
    match i with
    | 0 =>
      simp only [List.getElem?_toArray, List.getElem?_cons_zero, Option.some.injEq] at ho
      subst ho
      have e15 : a.tmps[15]?.getD undef = .slice (some ⟨gB, oB, none⟩) n8 c8_ := (kp 15 (by kernel_rfl)).trans b15
      rw [vv0]
      refine does_value rfl (by intro c h; cases h) (w' := W) ?_ (hS)
      · simp [execOp, go_sem, e15]
    | 1 =>
      simp only [List.getElem?_toArray, List.getElem?_cons_zero, List.getElem?_cons_succ, Option.some.injEq] at ho
      subst ho
      have e16 : a.tmps[16]?.getD undef = .int .i64 ((j + 1 : Nat) : Int) := (kp 16 (by kernel_rfl)).trans b16
      rw [vv1]
      refine does_value rfl (by intro c h; cases h) (w' := W) ?_ (hS)
      · simp [execOp, go_sem, e16]
    | 2 =>
      simp only [List.getElem?_toArray, List.getElem?_cons_zero, List.getElem?_cons_succ, Option.some.injEq] at ho
      subst ho
      have p0 : b 0 = true := hd ⟨0, .data⟩ (by simp) rfl
      have p1 : b 1 = true := hd ⟨1, .data⟩ (by simp) rfl
      have e107 := (ev 0 107 rfl p0).trans vv0
      have e108 := (ev 1 108 rfl p1).trans vv1
      rw [vv2]
      refine does_value rfl (by intro c h; cases h) (w' := W) ?_ (hS)
      · simp [execOp, go_sem, e107, e108, hltJ]; intro h; omega
    | 3 =>
      simp only [List.getElem?_toArray, List.getElem?_cons_zero, List.getElem?_cons_succ, Option.some.injEq] at ho
      subst ho
      have p2 : b 2 = true := hd ⟨2, .data⟩ (by simp) rfl
      have e109 := (ev 2 109 rfl p2).trans vv2
      have hl := (hS.cell (p := ⟨gB, oB + (j + 1), none⟩) (cell_lt c9)).trans c9
      rw [vv3]
      refine does_value rfl (by intro c h; cases h) (w' := W) ?_ (hS)
      · simp [execOp, go_sem, e109, hl]
    | 4 =>
      simp only [List.getElem?_toArray, List.getElem?_cons_zero, List.getElem?_cons_succ, Option.some.injEq] at ho
      subst ho
      have p3 : b 3 = true := hd ⟨3, .data⟩ (by simp) rfl
      have e110 := (ev 3 110 rfl p3).trans vv3
      rw [vv4]
      refine does_call rfl (by intro c h; cases h) (f := 9) (args := #[.string sx]) ?_ ?_
      · simp [go_sem, e110]
      · exact (cL W).mono (fun e w' h => by obtain ⟨rfl, rfl⟩ := h; exact ⟨rfl, hS⟩)
    | 5 =>
      simp only [List.getElem?_toArray, List.getElem?_cons_zero, List.getElem?_cons_succ, Option.some.injEq] at ho
      subst ho
      have p4 : b 4 = true := hd ⟨4, .data⟩ (by simp) rfl
      have e111 := (ev 4 111 rfl p4).trans vv4
      rw [vv5]
      refine does_value rfl (by intro c h; cases h) (w' := W) ?_ (hS)
      · simp [execOp, go_sem, e111]
    | 6 =>
      simp only [List.getElem?_toArray, List.getElem?_cons_zero, List.getElem?_cons_succ, Option.some.injEq] at ho
      subst ho
      have p5 : b 5 = true := hd ⟨5, .data⟩ (by simp) rfl
      have e112 := (ev 5 112 rfl p5).trans vv5
      rw [vv6]
      refine does_value rfl (by intro c h; cases h) (w' := W) ?_ (hS)
      · simp [execOp, go_sem, e112]
    | 7 =>
      simp only [List.getElem?_toArray, List.getElem?_cons_zero, List.getElem?_cons_succ, Option.some.injEq] at ho
      subst ho
      have p6 : b 6 = true := hd ⟨6, .guard⟩ (by simp) rfl
      have e16 : a.tmps[16]?.getD undef = .int .i64 ((j + 1 : Nat) : Int) := (kp 16 (by kernel_rfl)).trans b16
      rw [vv7]
      refine does_value_g rfl (yl 6 113 false rfl p6 vv6) (by intro c h; cases h) (w' := W) ?_ (hS)
      · simp [execOp, go_sem, e16]
    | 8 =>
      simp only [List.getElem?_toArray, List.getElem?_cons_zero, List.getElem?_cons_succ, Option.some.injEq] at ho
      subst ho
      have p7 : b 7 = true := hd ⟨7, .data⟩ (by simp) rfl
      have p6 : b 6 = true := hd ⟨6, .guard⟩ (by simp) rfl
      have e114 := (ev 7 114 rfl p7).trans vv7
      rw [vv8]
      refine does_value_g rfl (yl 6 113 false rfl p6 vv6) (by intro c h; cases h) (w' := W) ?_ (hS)
      · simp [execOp, go_sem, e114, hpJ]
    | 9 =>
      simp only [List.getElem?_toArray, List.getElem?_cons_zero, List.getElem?_cons_succ, Option.some.injEq] at ho
      subst ho
      have p8 : b 8 = true := hd ⟨8, .data⟩ (by simp) rfl
      have p6 : b 6 = true := hd ⟨6, .guard⟩ (by simp) rfl
      have e115 := (ev 8 115 rfl p8).trans vv8
      rw [vv9]
      refine does_value_g rfl (yl 6 113 false rfl p6 vv6) (by intro c h; cases h) (w' := W) ?_ (hS)
      · simp [execOp, go_sem, e115]
    | 10 =>
      simp only [List.getElem?_toArray, List.getElem?_cons_zero, List.getElem?_cons_succ, Option.some.injEq] at ho
      subst ho
      have p9 : b 9 = true := hd ⟨9, .guard⟩ (by simp) rfl
      have e15 : a.tmps[15]?.getD undef = .slice (some ⟨gB, oB, none⟩) n8 c8_ := (kp 15 (by kernel_rfl)).trans b15
      rw [vv10]
      refine does_value_g rfl (yl 9 116 true rfl p9 vv9) (by intro c h; cases h) (w' := W) ?_ (hS)
      · simp [execOp, go_sem, e15]
    | 11 =>
      simp only [List.getElem?_toArray, List.getElem?_cons_zero, List.getElem?_cons_succ, Option.some.injEq] at ho
      subst ho
      have p9 : b 9 = true := hd ⟨9, .guard⟩ (by simp) rfl
      have e16 : a.tmps[16]?.getD undef = .int .i64 ((j + 1 : Nat) : Int) := (kp 16 (by kernel_rfl)).trans b16
      rw [vv11]
      refine does_value_g rfl (yl 9 116 true rfl p9 vv9) (by intro c h; cases h) (w' := W) ?_ (hS)
      · simp [execOp, go_sem, e16]
    | 12 =>
      simp only [List.getElem?_toArray, List.getElem?_cons_zero, List.getElem?_cons_succ, Option.some.injEq] at ho
      subst ho
      have p10 : b 10 = true := hd ⟨10, .data⟩ (by simp) rfl
      have p11 : b 11 = true := hd ⟨11, .data⟩ (by simp) rfl
      have p9 : b 9 = true := hd ⟨9, .guard⟩ (by simp) rfl
      have e117 := (ev 10 117 rfl p10).trans vv10
      have e118 := (ev 11 118 rfl p11).trans vv11
      rw [vv12]
      refine does_value_g rfl (yl 9 116 true rfl p9 vv9) (by intro c h; cases h) (w' := W) ?_ (hS)
      · simp [execOp, go_sem, e117, e118, hltJ]; intro h; omega
    | 13 =>
      simp only [List.getElem?_toArray, List.getElem?_cons_zero, List.getElem?_cons_succ, Option.some.injEq] at ho
      subst ho
      have p12 : b 12 = true := hd ⟨12, .data⟩ (by simp) rfl
      have p9 : b 9 = true := hd ⟨9, .guard⟩ (by simp) rfl
      have e119 := (ev 12 119 rfl p12).trans vv12
      have hl := (hS.cell (p := ⟨gB, oB + (j + 1), none⟩) (cell_lt c9)).trans c9
      rw [vv13]
      refine does_value_g rfl (yl 9 116 true rfl p9 vv9) (by intro c h; cases h) (w' := W) ?_ (hS)
      · simp [execOp, go_sem, e119, hl]
    | 14 =>
      simp only [List.getElem?_toArray, List.getElem?_cons_zero, List.getElem?_cons_succ, Option.some.injEq] at ho
      subst ho
      have p9 : b 9 = true := hd ⟨9, .guard⟩ (by simp) rfl
      have e15 : a.tmps[15]?.getD undef = .slice (some ⟨gB, oB, none⟩) n8 c8_ := (kp 15 (by kernel_rfl)).trans b15
      rw [vv14]
      refine does_value_g rfl (yl 9 116 true rfl p9 vv9) (by intro c h; cases h) (w' := W) ?_ (hS)
      · simp [execOp, go_sem, e15]
    | 15 =>
      simp only [List.getElem?_toArray, List.getElem?_cons_zero, List.getElem?_cons_succ, Option.some.injEq] at ho
      subst ho
      have p9 : b 9 = true := hd ⟨9, .guard⟩ (by simp) rfl
      have e16 : a.tmps[16]?.getD undef = .int .i64 ((j + 1 : Nat) : Int) := (kp 16 (by kernel_rfl)).trans b16
      rw [vv15]
      refine does_value_g rfl (yl 9 116 true rfl p9 vv9) (by intro c h; cases h) (w' := W) ?_ (hS)
      · simp [execOp, go_sem, e16]
    | 16 =>
      simp only [List.getElem?_toArray, List.getElem?_cons_zero, List.getElem?_cons_succ, Option.some.injEq] at ho
      subst ho
      have p15 : b 15 = true := hd ⟨15, .data⟩ (by simp) rfl
      have p9 : b 9 = true := hd ⟨9, .guard⟩ (by simp) rfl
      have e122 := (ev 15 122 rfl p15).trans vv15
      rw [vv16]
      refine does_value_g rfl (yl 9 116 true rfl p9 vv9) (by intro c h; cases h) (w' := W) ?_ (hS)
      · simp [execOp, go_sem, e122]; rw [IntKind.wrap_i64] <;> omega
    | 17 =>
      simp only [List.getElem?_toArray, List.getElem?_cons_zero, List.getElem?_cons_succ, Option.some.injEq] at ho
      subst ho
      have p14 : b 14 = true := hd ⟨14, .data⟩ (by simp) rfl
      have p16 : b 16 = true := hd ⟨16, .data⟩ (by simp) rfl
      have p9 : b 9 = true := hd ⟨9, .guard⟩ (by simp) rfl
      have e121 := (ev 14 121 rfl p14).trans vv14
      have e123 := (ev 16 123 rfl p16).trans vv16
      rw [vv17]
      refine does_value_g rfl (yl 9 116 true rfl p9 vv9) (by intro c h; cases h) (w' := W) ?_ (hS)
      · simp [execOp, go_sem, e121, e123, hjI]
    | 18 =>
      simp only [List.getElem?_toArray, List.getElem?_cons_zero, List.getElem?_cons_succ, Option.some.injEq] at ho
      subst ho
      have p17 : b 17 = true := hd ⟨17, .data⟩ (by simp) rfl
      have p9 : b 9 = true := hd ⟨9, .guard⟩ (by simp) rfl
      have e124 := (ev 17 124 rfl p17).trans vv17
      have hl := (hS.cell (p := ⟨gB, oB + j, none⟩) (cell_lt c8)).trans c8
      rw [vv18]
      refine does_value_g rfl (yl 9 116 true rfl p9 vv9) (by intro c h; cases h) (w' := W) ?_ (hS)
      · simp [execOp, go_sem, e124, hl]
    | 19 =>
      simp only [List.getElem?_toArray, List.getElem?_cons_zero, List.getElem?_cons_succ, Option.some.injEq] at ho
      subst ho
      have p13 : b 13 = true := hd ⟨13, .data⟩ (by simp) rfl
      have p18 : b 18 = true := hd ⟨18, .data⟩ (by simp) rfl
      have p9 : b 9 = true := hd ⟨9, .guard⟩ (by simp) rfl
      have e120 := (ev 13 120 rfl p13).trans vv13
      have e125 := (ev 18 125 rfl p18).trans vv18
      rw [vv19]
      refine does_value_g rfl (yl 9 116 true rfl p9 vv9) (by intro c h; cases h) (w' := W) ?_ (hS)
      · simp [execOp, go_sem, e120, e125, hle1, hle2]
    | 20 =>
      simp only [List.getElem?_toArray, List.getElem?_cons_zero, List.getElem?_cons_succ, Option.some.injEq] at ho
      subst ho
      have p9 : b 9 = true := hd ⟨9, .data⟩ (by simp) rfl
      have p19 : b 19 = true := hd ⟨19, .data⟩ (by simp) rfl
      have p6 : b 6 = true := hd ⟨6, .guard⟩ (by simp) rfl
      have e116 := (ev 9 116 rfl p9).trans vv9
      have e126 := (ev 19 126 rfl p19).trans vv19
      rw [vv20]
      refine does_value_g rfl (yl 6 113 false rfl p6 vv6) (by intro c h; cases h) (w' := W) ?_ (hS)
      · simp [execOp, go_sem, e116, e126]
    | 21 =>
      simp only [List.getElem?_toArray, List.getElem?_cons_zero, List.getElem?_cons_succ, Option.some.injEq] at ho
      subst ho
      have p6 : b 6 = true := hd ⟨6, .data⟩ (by simp) rfl
      have p20 : b 20 = true := hd ⟨20, .data⟩ (by simp) rfl
      have e113 := (ev 6 113 rfl p6).trans vv6
      have e127 := (ev 20 127 rfl p20).trans vv20
      rw [vv21]
      refine does_value rfl (by intro c h; cases h) (w' := W) ?_ (hS)
      · simp [execOp, go_sem, e113, e127]
    | 22 =>
      simp only [List.getElem?_toArray, List.getElem?_cons_zero, List.getElem?_cons_succ, Option.some.injEq] at ho
      subst ho
      have p21 : b 21 = true := hd ⟨21, .data⟩ (by simp) rfl
      have e128 := (ev 21 128 rfl p21).trans vv21
      rw [vv22]
      refine does_value rfl (by intro c h; cases h) (w' := W) ?_ (hS)
      · simp [execOp, go_sem, e128]
    | 23 =>
      simp only [List.getElem?_toArray, List.getElem?_cons_zero, List.getElem?_cons_succ, Option.some.injEq] at ho
      subst ho
      have p22 : b 22 = true := hd ⟨22, .guard⟩ (by simp) rfl
      have e18 : a.tmps[18]?.getD undef = .bool true := (kp 18 (by kernel_rfl)).trans b18
      rw [vv23]
      refine does_value_g rfl (yl 22 129 false rfl p22 vv22) (by intro c h; cases h) (w' := W) ?_ (hS)
      · simp [execOp, go_sem, e18]
    | 24 =>
      simp only [List.getElem?_toArray, List.getElem?_cons_zero, List.getElem?_cons_succ, Option.some.injEq] at ho
      subst ho
      have p23 : b 23 = true := hd ⟨23, .data⟩ (by simp) rfl
      have p22 : b 22 = true := hd ⟨22, .guard⟩ (by simp) rfl
      have e130 := (ev 23 130 rfl p23).trans vv23
      rw [vv24]
      refine does_value_g rfl (yl 22 129 false rfl p22 vv22) (by intro c h; cases h) (w' := W) ?_ (hS)
      · simp [execOp, go_sem, e130]
    | 25 =>
      simp only [List.getElem?_toArray, List.getElem?_cons_zero, List.getElem?_cons_succ, Option.some.injEq] at ho
      subst ho
      have p22 : b 22 = true := hd ⟨22, .data⟩ (by simp) rfl
      have p24 : b 24 = true := hd ⟨24, .data⟩ (by simp) rfl
      have e129 := (ev 22 129 rfl p22).trans vv22
      have e131 := (ev 24 131 rfl p24).trans vv24
      rw [vv25]
      refine does_value rfl (by intro c h; cases h) (w' := W) ?_ (hS)
      · simp [execOp, go_sem, e129, e131]
    | 26 =>
      simp only [List.getElem?_toArray, List.getElem?_cons_zero, List.getElem?_cons_succ, Option.some.injEq] at ho
      subst ho
      have p25 : b 25 = true := hd ⟨25, .data⟩ (by simp) rfl
      have e132 := (ev 25 132 rfl p25).trans vv25
      rw [vv26]
      refine does_value rfl (by intro c h; cases h) (w' := W) ?_ (hS)
      · simp [execOp, go_sem, e132]
    | 27 =>
      simp only [List.getElem?_toArray, List.getElem?_cons_zero, List.getElem?_cons_succ, Option.some.injEq] at ho
      subst ho
      have p26 : b 26 = true := hd ⟨26, .guard⟩ (by simp) rfl
      have e17 : a.tmps[17]?.getD undef = .int .i64 (nk : Nat) := (kp 17 (by kernel_rfl)).trans b17
      rw [vv27]
      refine does_value_g rfl (yl 26 133 false rfl p26 vv26) (by intro c h; cases h) (w' := W) ?_ (hS)
      · simp [execOp, go_sem, e17]
    | 28 =>
      simp only [List.getElem?_toArray, List.getElem?_cons_zero, List.getElem?_cons_succ, Option.some.injEq] at ho
      subst ho
      have p27 : b 27 = true := hd ⟨27, .data⟩ (by simp) rfl
      have p26 : b 26 = true := hd ⟨26, .guard⟩ (by simp) rfl
      have e134 := (ev 27 134 rfl p27).trans vv27
      rw [vv28]
      refine does_value_g rfl (yl 26 133 false rfl p26 vv26) (by intro c h; cases h) (w' := W) ?_ (hS)
      · simp [execOp, go_sem, e134, q1]
    | 29 =>
      simp only [List.getElem?_toArray, List.getElem?_cons_zero, List.getElem?_cons_succ, Option.some.injEq] at ho
      subst ho
      have p26 : b 26 = true := hd ⟨26, .data⟩ (by simp) rfl
      have p28 : b 28 = true := hd ⟨28, .data⟩ (by simp) rfl
      have e133 := (ev 26 133 rfl p26).trans vv26
      have e135 := (ev 28 135 rfl p28).trans vv28
      rw [vv29]
      refine does_value rfl (by intro c h; cases h) (w' := W) ?_ (hS)
      · simp [execOp, go_sem, e133, e135]
    | 30 =>
      simp only [List.getElem?_toArray, List.getElem?_cons_zero, List.getElem?_cons_succ, Option.some.injEq] at ho
      subst ho
      have p29 : b 29 = true := hd ⟨29, .data⟩ (by simp) rfl
      have e136 := (ev 29 136 rfl p29).trans vv29
      rw [vv30]
      refine does_value rfl (by intro c h; cases h) (w' := W) ?_ (hS)
      · simp [execOp, go_sem, e136]
    | 31 =>
      simp only [List.getElem?_toArray, List.getElem?_cons_zero, List.getElem?_cons_succ, Option.some.injEq] at ho
      subst ho
      have p30 : b 30 = true := hd ⟨30, .guard⟩ (by simp) rfl
      have e17 : a.tmps[17]?.getD undef = .int .i64 (nk : Nat) := (kp 17 (by kernel_rfl)).trans b17
      rw [vv31]
      refine does_value_g rfl (yl 30 137 false rfl p30 vv30) (by intro c h; cases h) (w' := W) ?_ (hS)
      · simp [execOp, go_sem, e17]
    | 32 =>
      simp only [List.getElem?_toArray, List.getElem?_cons_zero, List.getElem?_cons_succ, Option.some.injEq] at ho
      subst ho
      have p31 : b 31 = true := hd ⟨31, .data⟩ (by simp) rfl
      have p30 : b 30 = true := hd ⟨30, .guard⟩ (by simp) rfl
      have e138 := (ev 31 138 rfl p31).trans vv31
      rw [vv32]
      refine does_value_g rfl (yl 30 137 false rfl p30 vv30) (by intro c h; cases h) (w' := W) ?_ (hS)
      · simp [execOp, go_sem, e138, q2]
    | 33 =>
      simp only [List.getElem?_toArray, List.getElem?_cons_zero, List.getElem?_cons_succ, Option.some.injEq] at ho
      subst ho
      have p30 : b 30 = true := hd ⟨30, .data⟩ (by simp) rfl
      have p32 : b 32 = true := hd ⟨32, .data⟩ (by simp) rfl
      have e137 := (ev 30 137 rfl p30).trans vv30
      have e139 := (ev 32 139 rfl p32).trans vv32
      rw [vv33]
      refine does_value rfl (by intro c h; cases h) (w' := W) ?_ (hS)
      · simp [execOp, go_sem, e137, e139]
    | k + 34 => simp at ho
  · intro b' W hS _
    subst hLe
    exact hQ W hS

end Go.Proofs.YtdocablbkafkiaaDoor.Cd
