/-
  The drawn region of the document's Shown.
-/
import Derived.Test.YtjajbhpcjickbaaDoorKAl
import Derived.Test.YtjajbhpcjickbaaDoorKZr

namespace Go.Proofs.YtjajbhpcjickbaaDoor.Ck.Sh
open Go.RowKit Go.Lib Go.Maps

attribute [local go_sem] Oper.semAt_some

set_option maxRecDepth 8000 in
set_option maxHeartbeats 4000000 in
theorem rs12_n {Q : Exit → Act → World → Prop} {base : Array Value} {dd : List Deferred} {ops : Array Oper} (hops : Tryd.f9.body.bind (regs 12) = some ops) (g2 O2 L2 c2 J K : Nat) (nj ni : List UInt8) (w9 : World) (hsz : base.size = 83)
    (b1 : base.getD 1 undef = .slice (some ⟨g2, O2, none⟩) L2 c2)
    (b7 : base.getD 7 undef = .int .i64 (K : Nat))
    (b9 : base.getD 9 undef = .int .i64 (J : Nat))
    (hj2 : J < L2) (hk2 : K < L2)
    (hn1 : w9.cell? ⟨g2, O2 + J, none⟩ = some (.string (bas nj))) (hn2 : w9.cell? ⟨g2, O2 + K, none⟩ = some (.string (bas ni)))
    (hq : ((bas nj).toList == (bas ni).toList) = false)
    (hQ : ∀ W, Below w9.heap.size w9 W → Q .normal ⟨putAll base [(some 32, .slice (some ⟨g2, O2, none⟩) L2 c2), (some 33, .int .i64 (J : Nat)), (some 34, .pointer (some ⟨g2, O2 + J, none⟩)), (some 35, .string (bas nj)), (some 36, .slice (some ⟨g2, O2, none⟩) L2 c2), (some 37, .int .i64 (K : Nat)), (some 38, .pointer (some ⟨g2, O2 + K, none⟩)), (some 39, .string (bas ni)), (some 40, .bool false), (some 41, .bool false), (some 42, undef), (some 43, undef), (some 44, undef), (some 45, undef), (some 46, undef), (some 47, undef), (some 48, undef), (some 49, undef), (some 50, undef), (some 51, undef), (some 52, undef), (some 53, undef), (some 54, undef), (some 55, undef), (some 56, undef), (some 57, undef), (some 58, undef), (some 59, undef), (some 60, undef), (some 61, undef), (some 62, undef), (some 63, undef), (some 64, undef), (some 65, undef), (some 66, undef), (some 67, .bool false)], dd⟩ W) :
    (Code.region 12 ops true).wp Tryd.prog Q ⟨base, dd⟩ w9 := by
  have hmix : Tryd.prog.follows .mixedOrders = true := by kernel_rfl
  have h2 := (show Tryd.f9.body.bind (regs 12) = some _ from rfl).symm.trans hops
  obtain rfl := Option.some.inj h2
  clear h2 hops
  have below9 : Below w9.heap.size w9 w9.drew := (Below.refl _ _).drew
  obtain ⟨LL, hLe⟩ : ∃ LL : List (Option Tmp × Value), LL = [(some 32, .slice (some ⟨g2, O2, none⟩) L2 c2), (some 33, .int .i64 (J : Nat)), (some 34, .pointer (some ⟨g2, O2 + J, none⟩)), (some 35, .string (bas nj)), (some 36, .slice (some ⟨g2, O2, none⟩) L2 c2), (some 37, .int .i64 (K : Nat)), (some 38, .pointer (some ⟨g2, O2 + K, none⟩)), (some 39, .string (bas ni)), (some 40, .bool false), (some 41, .bool false), (some 42, undef), (some 43, undef), (some 44, undef), (some 45, undef), (some 46, undef), (some 47, undef), (some 48, undef), (some 49, undef), (some 50, undef), (some 51, undef), (some 52, undef), (some 53, undef), (some 54, undef), (some 55, undef), (some 56, undef), (some 57, undef), (some 58, undef), (some 59, undef), (some 60, undef), (some 61, undef), (some 62, undef), (some 63, undef), (some 64, undef), (some 65, undef), (some 66, undef), (some 67, .bool false)] := ⟨_, rfl⟩
  have vv0 : vals LL 0 = .slice (some ⟨g2, O2, none⟩) L2 c2 := by rw [hLe]; rfl
  have vv1 : vals LL 1 = .int .i64 (J : Nat) := by rw [hLe]; rfl
  have vv2 : vals LL 2 = .pointer (some ⟨g2, O2 + J, none⟩) := by rw [hLe]; rfl
  have vv3 : vals LL 3 = .string (bas nj) := by rw [hLe]; rfl
  have vv4 : vals LL 4 = .slice (some ⟨g2, O2, none⟩) L2 c2 := by rw [hLe]; rfl
  have vv5 : vals LL 5 = .int .i64 (K : Nat) := by rw [hLe]; rfl
  have vv6 : vals LL 6 = .pointer (some ⟨g2, O2 + K, none⟩) := by rw [hLe]; rfl
  have vv7 : vals LL 7 = .string (bas ni) := by rw [hLe]; rfl
  have vv8 : vals LL 8 = .bool false := by rw [hLe]; rfl
  have vv9 : vals LL 9 = .bool false := by rw [hLe]; rfl
  have vv10 : vals LL 10 = undef := by rw [hLe]; rfl
  have vv11 : vals LL 11 = undef := by rw [hLe]; rfl
  have vv12 : vals LL 12 = undef := by rw [hLe]; rfl
  have vv13 : vals LL 13 = undef := by rw [hLe]; rfl
  have vv14 : vals LL 14 = undef := by rw [hLe]; rfl
  have vv15 : vals LL 15 = undef := by rw [hLe]; rfl
  have vv16 : vals LL 16 = undef := by rw [hLe]; rfl
  have vv17 : vals LL 17 = undef := by rw [hLe]; rfl
  have vv18 : vals LL 18 = undef := by rw [hLe]; rfl
  have vv19 : vals LL 19 = undef := by rw [hLe]; rfl
  have vv20 : vals LL 20 = undef := by rw [hLe]; rfl
  have vv21 : vals LL 21 = undef := by rw [hLe]; rfl
  have vv22 : vals LL 22 = undef := by rw [hLe]; rfl
  have vv23 : vals LL 23 = undef := by rw [hLe]; rfl
  have vv24 : vals LL 24 = undef := by rw [hLe]; rfl
  have vv25 : vals LL 25 = undef := by rw [hLe]; rfl
  have vv26 : vals LL 26 = undef := by rw [hLe]; rfl
  have vv27 : vals LL 27 = undef := by rw [hLe]; rfl
  have vv28 : vals LL 28 = undef := by rw [hLe]; rfl
  have vv29 : vals LL 29 = undef := by rw [hLe]; rfl
  have vv30 : vals LL 30 = undef := by rw [hLe]; rfl
  have vv31 : vals LL 31 = undef := by rw [hLe]; rfl
  have vv32 : vals LL 32 = undef := by rw [hLe]; rfl
  have vv33 : vals LL 33 = undef := by rw [hLe]; rfl
  have vv34 : vals LL 34 = undef := by rw [hLe]; rfl
  have vv35 : vals LL 35 = .bool false := by rw [hLe]; rfl
  refine region_laid hmix (by kernel_rfl) 83 hsz (by kernel_rfl) LL (by rw [hLe]; rfl) (fun _ W => Below w9.heap.size w9 W) below9 ?_ ?_
  · intro b W i o a hS hcl ho hb hd ev kp yl
    match i with
    | 0 =>
      simp only [List.getElem?_toArray, List.getElem?_cons_zero, Option.some.injEq] at ho
      subst ho
      have e1 : a.tmps[1]?.getD undef = .slice (some ⟨g2, O2, none⟩) L2 c2 := (kp 1 (by kernel_rfl)).trans b1
      rw [vv0]
      refine does_value rfl (by intro c h; cases h) (w' := W) ?_ (hS)
      · simp [execOp, go_sem, e1]
    | 1 =>
      simp only [List.getElem?_toArray, List.getElem?_cons_zero, List.getElem?_cons_succ, Option.some.injEq] at ho
      subst ho
      have e9 : a.tmps[9]?.getD undef = .int .i64 (J : Nat) := (kp 9 (by kernel_rfl)).trans b9
      rw [vv1]
      refine does_value rfl (by intro c h; cases h) (w' := W) ?_ (hS)
      · simp [execOp, go_sem, e9]
    | 2 =>
      simp only [List.getElem?_toArray, List.getElem?_cons_zero, List.getElem?_cons_succ, Option.some.injEq] at ho
      subst ho
      have p0 : b 0 = true := hd ⟨0, .data⟩ (by simp) rfl
      have p1 : b 1 = true := hd ⟨1, .data⟩ (by simp) rfl
      have e32 := (ev 0 32 rfl p0).trans vv0
      have e33 := (ev 1 33 rfl p1).trans vv1
      rw [vv2]
      refine does_value rfl (by intro c h; cases h) (w' := W) ?_ (hS)
      · simp [execOp, go_sem, e32, e33, hj2]
    | 3 =>
      simp only [List.getElem?_toArray, List.getElem?_cons_zero, List.getElem?_cons_succ, Option.some.injEq] at ho
      subst ho
      have p2 : b 2 = true := hd ⟨2, .data⟩ (by simp) rfl
      have e34 := (ev 2 34 rfl p2).trans vv2
      have d9_0 := (hS.cell (p := ⟨g2, O2 + J, none⟩) (cell_lt hn1)).trans hn1
      rw [vv3]
      refine does_value rfl (by intro c h; cases h) (w' := W) ?_ (hS)
      · simp [execOp, go_sem, e34, d9_0]
    | 4 =>
      simp only [List.getElem?_toArray, List.getElem?_cons_zero, List.getElem?_cons_succ, Option.some.injEq] at ho
      subst ho
      have e1 : a.tmps[1]?.getD undef = .slice (some ⟨g2, O2, none⟩) L2 c2 := (kp 1 (by kernel_rfl)).trans b1
      rw [vv4]
      refine does_value rfl (by intro c h; cases h) (w' := W) ?_ (hS)
      · simp [execOp, go_sem, e1]
    | 5 =>
      simp only [List.getElem?_toArray, List.getElem?_cons_zero, List.getElem?_cons_succ, Option.some.injEq] at ho
      subst ho
      have e7 : a.tmps[7]?.getD undef = .int .i64 (K : Nat) := (kp 7 (by kernel_rfl)).trans b7
      rw [vv5]
      refine does_value rfl (by intro c h; cases h) (w' := W) ?_ (hS)
      · simp [execOp, go_sem, e7]
    | 6 =>
      simp only [List.getElem?_toArray, List.getElem?_cons_zero, List.getElem?_cons_succ, Option.some.injEq] at ho
      subst ho
      have p4 : b 4 = true := hd ⟨4, .data⟩ (by simp) rfl
      have p5 : b 5 = true := hd ⟨5, .data⟩ (by simp) rfl
      have e36 := (ev 4 36 rfl p4).trans vv4
      have e37 := (ev 5 37 rfl p5).trans vv5
      rw [vv6]
      refine does_value rfl (by intro c h; cases h) (w' := W) ?_ (hS)
      · simp [execOp, go_sem, e36, e37, hk2]
    | 7 =>
      simp only [List.getElem?_toArray, List.getElem?_cons_zero, List.getElem?_cons_succ, Option.some.injEq] at ho
      subst ho
      have p6 : b 6 = true := hd ⟨6, .data⟩ (by simp) rfl
      have e38 := (ev 6 38 rfl p6).trans vv6
      have d9_0 := (hS.cell (p := ⟨g2, O2 + K, none⟩) (cell_lt hn2)).trans hn2
      rw [vv7]
      refine does_value rfl (by intro c h; cases h) (w' := W) ?_ (hS)
      · simp [execOp, go_sem, e38, d9_0]
    | 8 =>
      simp only [List.getElem?_toArray, List.getElem?_cons_zero, List.getElem?_cons_succ, Option.some.injEq] at ho
      subst ho
      have p3 : b 3 = true := hd ⟨3, .data⟩ (by simp) rfl
      have p7 : b 7 = true := hd ⟨7, .data⟩ (by simp) rfl
      have e35 := (ev 3 35 rfl p3).trans vv3
      have e39 := (ev 7 39 rfl p7).trans vv7
      rw [vv8]
      refine does_value rfl (by intro c h; cases h) (w' := W) ?_ (hS)
      · simp [execOp, go_sem, e35, e39, hq]
    | 9 =>
      simp only [List.getElem?_toArray, List.getElem?_cons_zero, List.getElem?_cons_succ, Option.some.injEq] at ho
      subst ho
      have p8 : b 8 = true := hd ⟨8, .data⟩ (by simp) rfl
      have e40 := (ev 8 40 rfl p8).trans vv8
      rw [vv9]
      refine does_value rfl (by intro c h; cases h) (w' := W) ?_ (hS)
      · simp [execOp, go_sem, e40]
    | 10 =>
      simp only [List.getElem?_toArray, List.getElem?_cons_zero, List.getElem?_cons_succ, Option.some.injEq] at ho
      subst ho
      have p9 : b 9 = true := hd ⟨9, .guard⟩ (by simp) rfl
      exact does_pass rfl (yl 9 41 false rfl p9 vv9) (by decide) vv10 (hS)
    | 11 =>
      simp only [List.getElem?_toArray, List.getElem?_cons_zero, List.getElem?_cons_succ, Option.some.injEq] at ho
      subst ho
      have p9 : b 9 = true := hd ⟨9, .guard⟩ (by simp) rfl
      exact does_pass rfl (yl 9 41 false rfl p9 vv9) (by decide) vv11 (hS)
    | 12 =>
      simp only [List.getElem?_toArray, List.getElem?_cons_zero, List.getElem?_cons_succ, Option.some.injEq] at ho
      subst ho
      have p10 : b 10 = true := hd ⟨10, .data⟩ (by simp) rfl
      have p11 : b 11 = true := hd ⟨11, .data⟩ (by simp) rfl
      have p9 : b 9 = true := hd ⟨9, .guard⟩ (by simp) rfl
      exact does_pass rfl (yl 9 41 false rfl p9 vv9) (by decide) vv12 (hS)
    | 13 =>
      simp only [List.getElem?_toArray, List.getElem?_cons_zero, List.getElem?_cons_succ, Option.some.injEq] at ho
      subst ho
      have p12 : b 12 = true := hd ⟨12, .data⟩ (by simp) rfl
      have p9 : b 9 = true := hd ⟨9, .guard⟩ (by simp) rfl
      exact does_pass rfl (yl 9 41 false rfl p9 vv9) (by decide) vv13 (hS)
    | 14 =>
      simp only [List.getElem?_toArray, List.getElem?_cons_zero, List.getElem?_cons_succ, Option.some.injEq] at ho
      subst ho
      have p9 : b 9 = true := hd ⟨9, .guard⟩ (by simp) rfl
      exact does_pass rfl (yl 9 41 false rfl p9 vv9) (by decide) vv14 (hS)
    | 15 =>
      simp only [List.getElem?_toArray, List.getElem?_cons_zero, List.getElem?_cons_succ, Option.some.injEq] at ho
      subst ho
      have p9 : b 9 = true := hd ⟨9, .guard⟩ (by simp) rfl
      exact does_pass rfl (yl 9 41 false rfl p9 vv9) (by decide) vv15 (hS)
    | 16 =>
      simp only [List.getElem?_toArray, List.getElem?_cons_zero, List.getElem?_cons_succ, Option.some.injEq] at ho
      subst ho
      have p14 : b 14 = true := hd ⟨14, .data⟩ (by simp) rfl
      have p15 : b 15 = true := hd ⟨15, .data⟩ (by simp) rfl
      have p9 : b 9 = true := hd ⟨9, .guard⟩ (by simp) rfl
      exact does_pass rfl (yl 9 41 false rfl p9 vv9) (by decide) vv16 (hS)
    | 17 =>
      simp only [List.getElem?_toArray, List.getElem?_cons_zero, List.getElem?_cons_succ, Option.some.injEq] at ho
      subst ho
      have p16 : b 16 = true := hd ⟨16, .data⟩ (by simp) rfl
      have p9 : b 9 = true := hd ⟨9, .guard⟩ (by simp) rfl
      exact does_pass rfl (yl 9 41 false rfl p9 vv9) (by decide) vv17 (hS)
    | 18 =>
      simp only [List.getElem?_toArray, List.getElem?_cons_zero, List.getElem?_cons_succ, Option.some.injEq] at ho
      subst ho
      have p13 : b 13 = true := hd ⟨13, .data⟩ (by simp) rfl
      have p17 : b 17 = true := hd ⟨17, .data⟩ (by simp) rfl
      have p9 : b 9 = true := hd ⟨9, .guard⟩ (by simp) rfl
      exact does_pass rfl (yl 9 41 false rfl p9 vv9) (by decide) vv18 (hS)
    | 19 =>
      simp only [List.getElem?_toArray, List.getElem?_cons_zero, List.getElem?_cons_succ, Option.some.injEq] at ho
      subst ho
      have p18 : b 18 = true := hd ⟨18, .data⟩ (by simp) rfl
      have p9 : b 9 = true := hd ⟨9, .guard⟩ (by simp) rfl
      exact does_pass rfl (yl 9 41 false rfl p9 vv9) (by decide) vv19 (hS)
    | 20 =>
      simp only [List.getElem?_toArray, List.getElem?_cons_zero, List.getElem?_cons_succ, Option.some.injEq] at ho
      subst ho
      have p19 : b 19 = true := hd ⟨19, .guard⟩ (by simp) rfl
      exact does_pass_none rfl (yielded_undef (j := 19) (s := 51) rfl ((ev 19 51 rfl p19).trans vv19)) vv20 (hS)
    | 21 =>
      simp only [List.getElem?_toArray, List.getElem?_cons_zero, List.getElem?_cons_succ, Option.some.injEq] at ho
      subst ho
      have p19 : b 19 = true := hd ⟨19, .guard⟩ (by simp) rfl
      exact does_pass_none rfl (yielded_undef (j := 19) (s := 51) rfl ((ev 19 51 rfl p19).trans vv19)) vv21 (hS)
    | 22 =>
      simp only [List.getElem?_toArray, List.getElem?_cons_zero, List.getElem?_cons_succ, Option.some.injEq] at ho
      subst ho
      have p20 : b 20 = true := hd ⟨20, .data⟩ (by simp) rfl
      have p21 : b 21 = true := hd ⟨21, .data⟩ (by simp) rfl
      have p19 : b 19 = true := hd ⟨19, .guard⟩ (by simp) rfl
      exact does_pass_none rfl (yielded_undef (j := 19) (s := 51) rfl ((ev 19 51 rfl p19).trans vv19)) vv22 (hS)
    | 23 =>
      simp only [List.getElem?_toArray, List.getElem?_cons_zero, List.getElem?_cons_succ, Option.some.injEq] at ho
      subst ho
      have p22 : b 22 = true := hd ⟨22, .data⟩ (by simp) rfl
      have p19 : b 19 = true := hd ⟨19, .guard⟩ (by simp) rfl
      exact does_pass_none rfl (yielded_undef (j := 19) (s := 51) rfl ((ev 19 51 rfl p19).trans vv19)) vv23 (hS)
    | 24 =>
      simp only [List.getElem?_toArray, List.getElem?_cons_zero, List.getElem?_cons_succ, Option.some.injEq] at ho
      subst ho
      have p23 : b 23 = true := hd ⟨23, .guard⟩ (by simp) rfl
      exact does_pass_none rfl (yielded_undef (j := 23) (s := 55) rfl ((ev 23 55 rfl p23).trans vv23)) vv24 (hS)
    | 25 =>
      simp only [List.getElem?_toArray, List.getElem?_cons_zero, List.getElem?_cons_succ, Option.some.injEq] at ho
      subst ho
      have p23 : b 23 = true := hd ⟨23, .guard⟩ (by simp) rfl
      exact does_pass_none rfl (yielded_undef (j := 23) (s := 55) rfl ((ev 23 55 rfl p23).trans vv23)) vv25 (hS)
    | 26 =>
      simp only [List.getElem?_toArray, List.getElem?_cons_zero, List.getElem?_cons_succ, Option.some.injEq] at ho
      subst ho
      have p24 : b 24 = true := hd ⟨24, .data⟩ (by simp) rfl
      have p25 : b 25 = true := hd ⟨25, .data⟩ (by simp) rfl
      have p23 : b 23 = true := hd ⟨23, .guard⟩ (by simp) rfl
      exact does_pass_none rfl (yielded_undef (j := 23) (s := 55) rfl ((ev 23 55 rfl p23).trans vv23)) vv26 (hS)
    | 27 =>
      simp only [List.getElem?_toArray, List.getElem?_cons_zero, List.getElem?_cons_succ, Option.some.injEq] at ho
      subst ho
      have p26 : b 26 = true := hd ⟨26, .data⟩ (by simp) rfl
      have p23 : b 23 = true := hd ⟨23, .guard⟩ (by simp) rfl
      exact does_pass_none rfl (yielded_undef (j := 23) (s := 55) rfl ((ev 23 55 rfl p23).trans vv23)) vv27 (hS)
    | 28 =>
      simp only [List.getElem?_toArray, List.getElem?_cons_zero, List.getElem?_cons_succ, Option.some.injEq] at ho
      subst ho
      have p23 : b 23 = true := hd ⟨23, .guard⟩ (by simp) rfl
      exact does_pass_none rfl (yielded_undef (j := 23) (s := 55) rfl ((ev 23 55 rfl p23).trans vv23)) vv28 (hS)
    | 29 =>
      simp only [List.getElem?_toArray, List.getElem?_cons_zero, List.getElem?_cons_succ, Option.some.injEq] at ho
      subst ho
      have p23 : b 23 = true := hd ⟨23, .guard⟩ (by simp) rfl
      exact does_pass_none rfl (yielded_undef (j := 23) (s := 55) rfl ((ev 23 55 rfl p23).trans vv23)) vv29 (hS)
    | 30 =>
      simp only [List.getElem?_toArray, List.getElem?_cons_zero, List.getElem?_cons_succ, Option.some.injEq] at ho
      subst ho
      have p28 : b 28 = true := hd ⟨28, .data⟩ (by simp) rfl
      have p29 : b 29 = true := hd ⟨29, .data⟩ (by simp) rfl
      have p23 : b 23 = true := hd ⟨23, .guard⟩ (by simp) rfl
      exact does_pass_none rfl (yielded_undef (j := 23) (s := 55) rfl ((ev 23 55 rfl p23).trans vv23)) vv30 (hS)
    | 31 =>
      simp only [List.getElem?_toArray, List.getElem?_cons_zero, List.getElem?_cons_succ, Option.some.injEq] at ho
      subst ho
      have p30 : b 30 = true := hd ⟨30, .data⟩ (by simp) rfl
      have p23 : b 23 = true := hd ⟨23, .guard⟩ (by simp) rfl
      exact does_pass_none rfl (yielded_undef (j := 23) (s := 55) rfl ((ev 23 55 rfl p23).trans vv23)) vv31 (hS)
    | 32 =>
      simp only [List.getElem?_toArray, List.getElem?_cons_zero, List.getElem?_cons_succ, Option.some.injEq] at ho
      subst ho
      have p27 : b 27 = true := hd ⟨27, .data⟩ (by simp) rfl
      have p31 : b 31 = true := hd ⟨31, .data⟩ (by simp) rfl
      have p23 : b 23 = true := hd ⟨23, .guard⟩ (by simp) rfl
      exact does_pass_none rfl (yielded_undef (j := 23) (s := 55) rfl ((ev 23 55 rfl p23).trans vv23)) vv32 (hS)
    | 33 =>
      simp only [List.getElem?_toArray, List.getElem?_cons_zero, List.getElem?_cons_succ, Option.some.injEq] at ho
      subst ho
      have p23 : b 23 = true := hd ⟨23, .data⟩ (by simp) rfl
      have p32 : b 32 = true := hd ⟨32, .data⟩ (by simp) rfl
      have p19 : b 19 = true := hd ⟨19, .guard⟩ (by simp) rfl
      exact does_pass_none rfl (yielded_undef (j := 19) (s := 51) rfl ((ev 19 51 rfl p19).trans vv19)) vv33 (hS)
    | 34 =>
      simp only [List.getElem?_toArray, List.getElem?_cons_zero, List.getElem?_cons_succ, Option.some.injEq] at ho
      subst ho
      have p19 : b 19 = true := hd ⟨19, .data⟩ (by simp) rfl
      have p33 : b 33 = true := hd ⟨33, .data⟩ (by simp) rfl
      have p9 : b 9 = true := hd ⟨9, .guard⟩ (by simp) rfl
      exact does_pass rfl (yl 9 41 false rfl p9 vv9) (by decide) vv34 (hS)
    | 35 =>
      simp only [List.getElem?_toArray, List.getElem?_cons_zero, List.getElem?_cons_succ, Option.some.injEq] at ho
      subst ho
      have p9 : b 9 = true := hd ⟨9, .data⟩ (by simp) rfl
      have p34 : b 34 = true := hd ⟨34, .data⟩ (by simp) rfl
      have e41 := (ev 9 41 rfl p9).trans vv9
      rw [vv35]
      refine does_value rfl (by intro c h; cases h) (w' := W) ?_ (hS)
      · simp [execOp, go_sem, e41]
    | k + 36 => simp at ho
  · intro b' W hS _
    subst hLe
    exact hQ W hS

set_option maxRecDepth 8000 in
set_option maxHeartbeats 4000000 in
theorem rs12_y {Q : Exit → Act → World → Prop} {base : Array Value} {dd : List Deferred} {ops : Array Oper} (hops : Tryd.f9.body.bind (regs 12) = some ops) (g1 g2 O1 O2 L1 L2 c1 c2 J K : Nat) (nj ni : List UInt8) (t u t' u' : Int) (w9 : World) (hsz : base.size = 83)
    (b0 : base.getD 0 undef = .slice (some ⟨g1, O1, none⟩) L1 c1)
    (b1 : base.getD 1 undef = .slice (some ⟨g2, O2, none⟩) L2 c2)
    (b7 : base.getD 7 undef = .int .i64 (K : Nat))
    (b9 : base.getD 9 undef = .int .i64 (J : Nat))
    (hj1 : J < L1) (hk1 : K < L1) (hj2 : J < L2) (hk2 : K < L2)
    (hn1 : w9.cell? ⟨g2, O2 + J, none⟩ = some (.string (bas nj))) (hn2 : w9.cell? ⟨g2, O2 + K, none⟩ = some (.string (bas ni)))
    (hq : ((bas nj).toList == (bas ni).toList) = true)
    (hx0 : w9.cell? ⟨g1, O1 + J * 2, none⟩ = some (.int .i64 t)) (hx1 : w9.cell? ⟨g1, O1 + J * 2 + 1, none⟩ = some (.int .i64 u)) (hy0 : w9.cell? ⟨g1, O1 + K * 2, none⟩ = some (.int .i64 t')) (hy1 : w9.cell? ⟨g1, O1 + K * 2 + 1, none⟩ = some (.int .i64 u'))
    (cB : ∀ W, Below w9.heap.size w9 W → Calls Tryd.prog 17 #[idv t u, idv t' u'] W fun e w' => e = .returned (.bool true) ∧ Below W.heap.size W w')
    (hQ : ∀ W, Below w9.heap.size w9 W → Q .normal ⟨putAll base [(some 32, .slice (some ⟨g2, O2, none⟩) L2 c2), (some 33, .int .i64 (J : Nat)), (some 34, .pointer (some ⟨g2, O2 + J, none⟩)), (some 35, .string (bas nj)), (some 36, .slice (some ⟨g2, O2, none⟩) L2 c2), (some 37, .int .i64 (K : Nat)), (some 38, .pointer (some ⟨g2, O2 + K, none⟩)), (some 39, .string (bas ni)), (some 40, .bool true), (some 41, .bool true), (some 42, .slice (some ⟨g1, O1, none⟩) L1 c1), (some 43, .int .i64 (J : Nat)), (some 44, .pointer (some ⟨g1, O1 + J * 2, none⟩)), (some 45, .agg #[.int .i64 t, .int .i64 u]), (some 46, .slice (some ⟨g1, O1, none⟩) L1 c1), (some 47, .int .i64 (K : Nat)), (some 48, .pointer (some ⟨g1, O1 + K * 2, none⟩)), (some 49, .agg #[.int .i64 t', .int .i64 u']), (some 50, .bool true), (some 51, .bool true), (some 52, undef), (some 53, undef), (some 54, undef), (some 55, undef), (some 56, undef), (some 57, undef), (some 58, undef), (some 59, undef), (some 60, undef), (some 61, undef), (some 62, undef), (some 63, undef), (some 64, undef), (some 65, undef), (some 66, .bool true), (some 67, .bool true)], dd⟩ W) :
    (Code.region 12 ops true).wp Tryd.prog Q ⟨base, dd⟩ w9 := by
  have hmix : Tryd.prog.follows .mixedOrders = true := by kernel_rfl
  have h2 := (show Tryd.f9.body.bind (regs 12) = some _ from rfl).symm.trans hops
  obtain rfl := Option.some.inj h2
  clear h2 hops
  have below9 : Below w9.heap.size w9 w9.drew := (Below.refl _ _).drew
  obtain ⟨LL, hLe⟩ : ∃ LL : List (Option Tmp × Value), LL = [(some 32, .slice (some ⟨g2, O2, none⟩) L2 c2), (some 33, .int .i64 (J : Nat)), (some 34, .pointer (some ⟨g2, O2 + J, none⟩)), (some 35, .string (bas nj)), (some 36, .slice (some ⟨g2, O2, none⟩) L2 c2), (some 37, .int .i64 (K : Nat)), (some 38, .pointer (some ⟨g2, O2 + K, none⟩)), (some 39, .string (bas ni)), (some 40, .bool true), (some 41, .bool true), (some 42, .slice (some ⟨g1, O1, none⟩) L1 c1), (some 43, .int .i64 (J : Nat)), (some 44, .pointer (some ⟨g1, O1 + J * 2, none⟩)), (some 45, .agg #[.int .i64 t, .int .i64 u]), (some 46, .slice (some ⟨g1, O1, none⟩) L1 c1), (some 47, .int .i64 (K : Nat)), (some 48, .pointer (some ⟨g1, O1 + K * 2, none⟩)), (some 49, .agg #[.int .i64 t', .int .i64 u']), (some 50, .bool true), (some 51, .bool true), (some 52, undef), (some 53, undef), (some 54, undef), (some 55, undef), (some 56, undef), (some 57, undef), (some 58, undef), (some 59, undef), (some 60, undef), (some 61, undef), (some 62, undef), (some 63, undef), (some 64, undef), (some 65, undef), (some 66, .bool true), (some 67, .bool true)] := ⟨_, rfl⟩
  have vv0 : vals LL 0 = .slice (some ⟨g2, O2, none⟩) L2 c2 := by rw [hLe]; rfl
  have vv1 : vals LL 1 = .int .i64 (J : Nat) := by rw [hLe]; rfl
  have vv2 : vals LL 2 = .pointer (some ⟨g2, O2 + J, none⟩) := by rw [hLe]; rfl
  have vv3 : vals LL 3 = .string (bas nj) := by rw [hLe]; rfl
  have vv4 : vals LL 4 = .slice (some ⟨g2, O2, none⟩) L2 c2 := by rw [hLe]; rfl
  have vv5 : vals LL 5 = .int .i64 (K : Nat) := by rw [hLe]; rfl
  have vv6 : vals LL 6 = .pointer (some ⟨g2, O2 + K, none⟩) := by rw [hLe]; rfl
  have vv7 : vals LL 7 = .string (bas ni) := by rw [hLe]; rfl
  have vv8 : vals LL 8 = .bool true := by rw [hLe]; rfl
  have vv9 : vals LL 9 = .bool true := by rw [hLe]; rfl
  have vv10 : vals LL 10 = .slice (some ⟨g1, O1, none⟩) L1 c1 := by rw [hLe]; rfl
  have vv11 : vals LL 11 = .int .i64 (J : Nat) := by rw [hLe]; rfl
  have vv12 : vals LL 12 = .pointer (some ⟨g1, O1 + J * 2, none⟩) := by rw [hLe]; rfl
  have vv13 : vals LL 13 = .agg #[.int .i64 t, .int .i64 u] := by rw [hLe]; rfl
  have vv14 : vals LL 14 = .slice (some ⟨g1, O1, none⟩) L1 c1 := by rw [hLe]; rfl
  have vv15 : vals LL 15 = .int .i64 (K : Nat) := by rw [hLe]; rfl
  have vv16 : vals LL 16 = .pointer (some ⟨g1, O1 + K * 2, none⟩) := by rw [hLe]; rfl
  have vv17 : vals LL 17 = .agg #[.int .i64 t', .int .i64 u'] := by rw [hLe]; rfl
  have vv18 : vals LL 18 = .bool true := by rw [hLe]; rfl
  have vv19 : vals LL 19 = .bool true := by rw [hLe]; rfl
  have vv20 : vals LL 20 = undef := by rw [hLe]; rfl
  have vv21 : vals LL 21 = undef := by rw [hLe]; rfl
  have vv22 : vals LL 22 = undef := by rw [hLe]; rfl
  have vv23 : vals LL 23 = undef := by rw [hLe]; rfl
  have vv24 : vals LL 24 = undef := by rw [hLe]; rfl
  have vv25 : vals LL 25 = undef := by rw [hLe]; rfl
  have vv26 : vals LL 26 = undef := by rw [hLe]; rfl
  have vv27 : vals LL 27 = undef := by rw [hLe]; rfl
  have vv28 : vals LL 28 = undef := by rw [hLe]; rfl
  have vv29 : vals LL 29 = undef := by rw [hLe]; rfl
  have vv30 : vals LL 30 = undef := by rw [hLe]; rfl
  have vv31 : vals LL 31 = undef := by rw [hLe]; rfl
  have vv32 : vals LL 32 = undef := by rw [hLe]; rfl
  have vv33 : vals LL 33 = undef := by rw [hLe]; rfl
  have vv34 : vals LL 34 = .bool true := by rw [hLe]; rfl
  have vv35 : vals LL 35 = .bool true := by rw [hLe]; rfl
  refine region_laid hmix (by kernel_rfl) 83 hsz (by kernel_rfl) LL (by rw [hLe]; rfl) (fun _ W => Below w9.heap.size w9 W) below9 ?_ ?_
  · intro b W i o a hS hcl ho hb hd ev kp yl
    match i with
    | 0 =>
      simp only [List.getElem?_toArray, List.getElem?_cons_zero, Option.some.injEq] at ho
      subst ho
      have e1 : a.tmps[1]?.getD undef = .slice (some ⟨g2, O2, none⟩) L2 c2 := (kp 1 (by kernel_rfl)).trans b1
      rw [vv0]
      refine does_value rfl (by intro c h; cases h) (w' := W) ?_ (hS)
      · simp [execOp, go_sem, e1]
    | 1 =>
      simp only [List.getElem?_toArray, List.getElem?_cons_zero, List.getElem?_cons_succ, Option.some.injEq] at ho
      subst ho
      have e9 : a.tmps[9]?.getD undef = .int .i64 (J : Nat) := (kp 9 (by kernel_rfl)).trans b9
      rw [vv1]
      refine does_value rfl (by intro c h; cases h) (w' := W) ?_ (hS)
      · simp [execOp, go_sem, e9]
    | 2 =>
      simp only [List.getElem?_toArray, List.getElem?_cons_zero, List.getElem?_cons_succ, Option.some.injEq] at ho
      subst ho
      have p0 : b 0 = true := hd ⟨0, .data⟩ (by simp) rfl
      have p1 : b 1 = true := hd ⟨1, .data⟩ (by simp) rfl
      have e32 := (ev 0 32 rfl p0).trans vv0
      have e33 := (ev 1 33 rfl p1).trans vv1
      rw [vv2]
      refine does_value rfl (by intro c h; cases h) (w' := W) ?_ (hS)
      · simp [execOp, go_sem, e32, e33, hj2]
    | 3 =>
      simp only [List.getElem?_toArray, List.getElem?_cons_zero, List.getElem?_cons_succ, Option.some.injEq] at ho
      subst ho
      have p2 : b 2 = true := hd ⟨2, .data⟩ (by simp) rfl
      have e34 := (ev 2 34 rfl p2).trans vv2
      have d9_0 := (hS.cell (p := ⟨g2, O2 + J, none⟩) (cell_lt hn1)).trans hn1
      rw [vv3]
      refine does_value rfl (by intro c h; cases h) (w' := W) ?_ (hS)
      · simp [execOp, go_sem, e34, d9_0]
    | 4 =>
      simp only [List.getElem?_toArray, List.getElem?_cons_zero, List.getElem?_cons_succ, Option.some.injEq] at ho
      subst ho
      have e1 : a.tmps[1]?.getD undef = .slice (some ⟨g2, O2, none⟩) L2 c2 := (kp 1 (by kernel_rfl)).trans b1
      rw [vv4]
      refine does_value rfl (by intro c h; cases h) (w' := W) ?_ (hS)
      · simp [execOp, go_sem, e1]
    | 5 =>
      simp only [List.getElem?_toArray, List.getElem?_cons_zero, List.getElem?_cons_succ, Option.some.injEq] at ho
      subst ho
      have e7 : a.tmps[7]?.getD undef = .int .i64 (K : Nat) := (kp 7 (by kernel_rfl)).trans b7
      rw [vv5]
      refine does_value rfl (by intro c h; cases h) (w' := W) ?_ (hS)
      · simp [execOp, go_sem, e7]
    | 6 =>
      simp only [List.getElem?_toArray, List.getElem?_cons_zero, List.getElem?_cons_succ, Option.some.injEq] at ho
      subst ho
      have p4 : b 4 = true := hd ⟨4, .data⟩ (by simp) rfl
      have p5 : b 5 = true := hd ⟨5, .data⟩ (by simp) rfl
      have e36 := (ev 4 36 rfl p4).trans vv4
      have e37 := (ev 5 37 rfl p5).trans vv5
      rw [vv6]
      refine does_value rfl (by intro c h; cases h) (w' := W) ?_ (hS)
      · simp [execOp, go_sem, e36, e37, hk2]
    | 7 =>
      simp only [List.getElem?_toArray, List.getElem?_cons_zero, List.getElem?_cons_succ, Option.some.injEq] at ho
      subst ho
      have p6 : b 6 = true := hd ⟨6, .data⟩ (by simp) rfl
      have e38 := (ev 6 38 rfl p6).trans vv6
      have d9_0 := (hS.cell (p := ⟨g2, O2 + K, none⟩) (cell_lt hn2)).trans hn2
      rw [vv7]
      refine does_value rfl (by intro c h; cases h) (w' := W) ?_ (hS)
      · simp [execOp, go_sem, e38, d9_0]
    | 8 =>
      simp only [List.getElem?_toArray, List.getElem?_cons_zero, List.getElem?_cons_succ, Option.some.injEq] at ho
      subst ho
      have p3 : b 3 = true := hd ⟨3, .data⟩ (by simp) rfl
      have p7 : b 7 = true := hd ⟨7, .data⟩ (by simp) rfl
      have e35 := (ev 3 35 rfl p3).trans vv3
      have e39 := (ev 7 39 rfl p7).trans vv7
      rw [vv8]
      refine does_value rfl (by intro c h; cases h) (w' := W) ?_ (hS)
      · simp [execOp, go_sem, e35, e39, hq]
    | 9 =>
      simp only [List.getElem?_toArray, List.getElem?_cons_zero, List.getElem?_cons_succ, Option.some.injEq] at ho
      subst ho
      have p8 : b 8 = true := hd ⟨8, .data⟩ (by simp) rfl
      have e40 := (ev 8 40 rfl p8).trans vv8
      rw [vv9]
      refine does_value rfl (by intro c h; cases h) (w' := W) ?_ (hS)
      · simp [execOp, go_sem, e40]
    | 10 =>
      simp only [List.getElem?_toArray, List.getElem?_cons_zero, List.getElem?_cons_succ, Option.some.injEq] at ho
      subst ho
      have p9 : b 9 = true := hd ⟨9, .guard⟩ (by simp) rfl
      have e0 : a.tmps[0]?.getD undef = .slice (some ⟨g1, O1, none⟩) L1 c1 := (kp 0 (by kernel_rfl)).trans b0
      rw [vv10]
      refine does_value_g rfl (yl 9 41 true rfl p9 vv9) (by intro c h; cases h) (w' := W) ?_ (hS)
      · simp [execOp, go_sem, e0]
    | 11 =>
      simp only [List.getElem?_toArray, List.getElem?_cons_zero, List.getElem?_cons_succ, Option.some.injEq] at ho
      subst ho
      have p9 : b 9 = true := hd ⟨9, .guard⟩ (by simp) rfl
      have e9 : a.tmps[9]?.getD undef = .int .i64 (J : Nat) := (kp 9 (by kernel_rfl)).trans b9
      rw [vv11]
      refine does_value_g rfl (yl 9 41 true rfl p9 vv9) (by intro c h; cases h) (w' := W) ?_ (hS)
      · simp [execOp, go_sem, e9]
    | 12 =>
      simp only [List.getElem?_toArray, List.getElem?_cons_zero, List.getElem?_cons_succ, Option.some.injEq] at ho
      subst ho
      have p10 : b 10 = true := hd ⟨10, .data⟩ (by simp) rfl
      have p11 : b 11 = true := hd ⟨11, .data⟩ (by simp) rfl
      have p9 : b 9 = true := hd ⟨9, .guard⟩ (by simp) rfl
      have e42 := (ev 10 42 rfl p10).trans vv10
      have e43 := (ev 11 43 rfl p11).trans vv11
      rw [vv12]
      refine does_value_g rfl (yl 9 41 true rfl p9 vv9) (by intro c h; cases h) (w' := W) ?_ (hS)
      · simp [execOp, go_sem, e42, e43, hj1]
    | 13 =>
      simp only [List.getElem?_toArray, List.getElem?_cons_zero, List.getElem?_cons_succ, Option.some.injEq] at ho
      subst ho
      have p12 : b 12 = true := hd ⟨12, .data⟩ (by simp) rfl
      have p9 : b 9 = true := hd ⟨9, .guard⟩ (by simp) rfl
      have e44 := (ev 12 44 rfl p12).trans vv12
      have d9_0 := (hS.cell (p := ⟨g1, O1 + J * 2, none⟩) (cell_lt hx0)).trans hx0
      have d9_1 := (hS.cell (p := ⟨g1, O1 + J * 2 + 1, none⟩) (cell_lt hx1)).trans hx1
      rw [vv13]
      refine does_value_g rfl (yl 9 41 true rfl p9 vv9) (by intro c h; cases h) (w' := W) ?_ (hS)
      · simp [execOp, go_sem, e44, d9_0, d9_1]
    | 14 =>
      simp only [List.getElem?_toArray, List.getElem?_cons_zero, List.getElem?_cons_succ, Option.some.injEq] at ho
      subst ho
      have p9 : b 9 = true := hd ⟨9, .guard⟩ (by simp) rfl
      have e0 : a.tmps[0]?.getD undef = .slice (some ⟨g1, O1, none⟩) L1 c1 := (kp 0 (by kernel_rfl)).trans b0
      rw [vv14]
      refine does_value_g rfl (yl 9 41 true rfl p9 vv9) (by intro c h; cases h) (w' := W) ?_ (hS)
      · simp [execOp, go_sem, e0]
    | 15 =>
      simp only [List.getElem?_toArray, List.getElem?_cons_zero, List.getElem?_cons_succ, Option.some.injEq] at ho
      subst ho
      have p9 : b 9 = true := hd ⟨9, .guard⟩ (by simp) rfl
      have e7 : a.tmps[7]?.getD undef = .int .i64 (K : Nat) := (kp 7 (by kernel_rfl)).trans b7
      rw [vv15]
      refine does_value_g rfl (yl 9 41 true rfl p9 vv9) (by intro c h; cases h) (w' := W) ?_ (hS)
      · simp [execOp, go_sem, e7]
    | 16 =>
      simp only [List.getElem?_toArray, List.getElem?_cons_zero, List.getElem?_cons_succ, Option.some.injEq] at ho
      subst ho
      have p14 : b 14 = true := hd ⟨14, .data⟩ (by simp) rfl
      have p15 : b 15 = true := hd ⟨15, .data⟩ (by simp) rfl
      have p9 : b 9 = true := hd ⟨9, .guard⟩ (by simp) rfl
      have e46 := (ev 14 46 rfl p14).trans vv14
      have e47 := (ev 15 47 rfl p15).trans vv15
      rw [vv16]
      refine does_value_g rfl (yl 9 41 true rfl p9 vv9) (by intro c h; cases h) (w' := W) ?_ (hS)
      · simp [execOp, go_sem, e46, e47, hk1]
    | 17 =>
      simp only [List.getElem?_toArray, List.getElem?_cons_zero, List.getElem?_cons_succ, Option.some.injEq] at ho
      subst ho
      have p16 : b 16 = true := hd ⟨16, .data⟩ (by simp) rfl
      have p9 : b 9 = true := hd ⟨9, .guard⟩ (by simp) rfl
      have e48 := (ev 16 48 rfl p16).trans vv16
      have d9_0 := (hS.cell (p := ⟨g1, O1 + K * 2, none⟩) (cell_lt hy0)).trans hy0
      have d9_1 := (hS.cell (p := ⟨g1, O1 + K * 2 + 1, none⟩) (cell_lt hy1)).trans hy1
      rw [vv17]
      refine does_value_g rfl (yl 9 41 true rfl p9 vv9) (by intro c h; cases h) (w' := W) ?_ (hS)
      · simp [execOp, go_sem, e48, d9_0, d9_1]
    | 18 =>
      simp only [List.getElem?_toArray, List.getElem?_cons_zero, List.getElem?_cons_succ, Option.some.injEq] at ho
      subst ho
      have p13 : b 13 = true := hd ⟨13, .data⟩ (by simp) rfl
      have p17 : b 17 = true := hd ⟨17, .data⟩ (by simp) rfl
      have p9 : b 9 = true := hd ⟨9, .guard⟩ (by simp) rfl
      have e45 := (ev 13 45 rfl p13).trans vv13
      have e49 := (ev 17 49 rfl p17).trans vv17
      rw [vv18]
      refine does_call_g rfl (yl 9 41 true rfl p9 vv9) (by intro c h; cases h) (f := 17) (args := #[.agg #[.int .i64 t, .int .i64 u], .agg #[.int .i64 t', .int .i64 u']]) ?_ ?_
      · simp [go_sem, e45, e49]
      · exact (cB W hS).mono (fun e w' h => ⟨h.1, hS.trans (h.2.mono hS.size)⟩)
    | 19 =>
      simp only [List.getElem?_toArray, List.getElem?_cons_zero, List.getElem?_cons_succ, Option.some.injEq] at ho
      subst ho
      have p18 : b 18 = true := hd ⟨18, .data⟩ (by simp) rfl
      have p9 : b 9 = true := hd ⟨9, .guard⟩ (by simp) rfl
      have e50 := (ev 18 50 rfl p18).trans vv18
      rw [vv19]
      refine does_value_g rfl (yl 9 41 true rfl p9 vv9) (by intro c h; cases h) (w' := W) ?_ (hS)
      · simp [execOp, go_sem, e50]
    | 20 =>
      simp only [List.getElem?_toArray, List.getElem?_cons_zero, List.getElem?_cons_succ, Option.some.injEq] at ho
      subst ho
      have p19 : b 19 = true := hd ⟨19, .guard⟩ (by simp) rfl
      exact does_pass rfl (yl 19 51 true rfl p19 vv19) (by decide) vv20 (hS)
    | 21 =>
      simp only [List.getElem?_toArray, List.getElem?_cons_zero, List.getElem?_cons_succ, Option.some.injEq] at ho
      subst ho
      have p19 : b 19 = true := hd ⟨19, .guard⟩ (by simp) rfl
      exact does_pass rfl (yl 19 51 true rfl p19 vv19) (by decide) vv21 (hS)
    | 22 =>
      simp only [List.getElem?_toArray, List.getElem?_cons_zero, List.getElem?_cons_succ, Option.some.injEq] at ho
      subst ho
      have p20 : b 20 = true := hd ⟨20, .data⟩ (by simp) rfl
      have p21 : b 21 = true := hd ⟨21, .data⟩ (by simp) rfl
      have p19 : b 19 = true := hd ⟨19, .guard⟩ (by simp) rfl
      exact does_pass rfl (yl 19 51 true rfl p19 vv19) (by decide) vv22 (hS)
    | 23 =>
      simp only [List.getElem?_toArray, List.getElem?_cons_zero, List.getElem?_cons_succ, Option.some.injEq] at ho
      subst ho
      have p22 : b 22 = true := hd ⟨22, .data⟩ (by simp) rfl
      have p19 : b 19 = true := hd ⟨19, .guard⟩ (by simp) rfl
      exact does_pass rfl (yl 19 51 true rfl p19 vv19) (by decide) vv23 (hS)
    | 24 =>
      simp only [List.getElem?_toArray, List.getElem?_cons_zero, List.getElem?_cons_succ, Option.some.injEq] at ho
      subst ho
      have p23 : b 23 = true := hd ⟨23, .guard⟩ (by simp) rfl
      exact does_pass_none rfl (yielded_undef (j := 23) (s := 55) rfl ((ev 23 55 rfl p23).trans vv23)) vv24 (hS)
    | 25 =>
      simp only [List.getElem?_toArray, List.getElem?_cons_zero, List.getElem?_cons_succ, Option.some.injEq] at ho
      subst ho
      have p23 : b 23 = true := hd ⟨23, .guard⟩ (by simp) rfl
      exact does_pass_none rfl (yielded_undef (j := 23) (s := 55) rfl ((ev 23 55 rfl p23).trans vv23)) vv25 (hS)
    | 26 =>
      simp only [List.getElem?_toArray, List.getElem?_cons_zero, List.getElem?_cons_succ, Option.some.injEq] at ho
      subst ho
      have p24 : b 24 = true := hd ⟨24, .data⟩ (by simp) rfl
      have p25 : b 25 = true := hd ⟨25, .data⟩ (by simp) rfl
      have p23 : b 23 = true := hd ⟨23, .guard⟩ (by simp) rfl
      exact does_pass_none rfl (yielded_undef (j := 23) (s := 55) rfl ((ev 23 55 rfl p23).trans vv23)) vv26 (hS)
    | 27 =>
      simp only [List.getElem?_toArray, List.getElem?_cons_zero, List.getElem?_cons_succ, Option.some.injEq] at ho
      subst ho
      have p26 : b 26 = true := hd ⟨26, .data⟩ (by simp) rfl
      have p23 : b 23 = true := hd ⟨23, .guard⟩ (by simp) rfl
      exact does_pass_none rfl (yielded_undef (j := 23) (s := 55) rfl ((ev 23 55 rfl p23).trans vv23)) vv27 (hS)
    | 28 =>
      simp only [List.getElem?_toArray, List.getElem?_cons_zero, List.getElem?_cons_succ, Option.some.injEq] at ho
      subst ho
      have p23 : b 23 = true := hd ⟨23, .guard⟩ (by simp) rfl
      exact does_pass_none rfl (yielded_undef (j := 23) (s := 55) rfl ((ev 23 55 rfl p23).trans vv23)) vv28 (hS)
    | 29 =>
      simp only [List.getElem?_toArray, List.getElem?_cons_zero, List.getElem?_cons_succ, Option.some.injEq] at ho
      subst ho
      have p23 : b 23 = true := hd ⟨23, .guard⟩ (by simp) rfl
      exact does_pass_none rfl (yielded_undef (j := 23) (s := 55) rfl ((ev 23 55 rfl p23).trans vv23)) vv29 (hS)
    | 30 =>
      simp only [List.getElem?_toArray, List.getElem?_cons_zero, List.getElem?_cons_succ, Option.some.injEq] at ho
      subst ho
      have p28 : b 28 = true := hd ⟨28, .data⟩ (by simp) rfl
      have p29 : b 29 = true := hd ⟨29, .data⟩ (by simp) rfl
      have p23 : b 23 = true := hd ⟨23, .guard⟩ (by simp) rfl
      exact does_pass_none rfl (yielded_undef (j := 23) (s := 55) rfl ((ev 23 55 rfl p23).trans vv23)) vv30 (hS)
    | 31 =>
      simp only [List.getElem?_toArray, List.getElem?_cons_zero, List.getElem?_cons_succ, Option.some.injEq] at ho
      subst ho
      have p30 : b 30 = true := hd ⟨30, .data⟩ (by simp) rfl
      have p23 : b 23 = true := hd ⟨23, .guard⟩ (by simp) rfl
      exact does_pass_none rfl (yielded_undef (j := 23) (s := 55) rfl ((ev 23 55 rfl p23).trans vv23)) vv31 (hS)
    | 32 =>
      simp only [List.getElem?_toArray, List.getElem?_cons_zero, List.getElem?_cons_succ, Option.some.injEq] at ho
      subst ho
      have p27 : b 27 = true := hd ⟨27, .data⟩ (by simp) rfl
      have p31 : b 31 = true := hd ⟨31, .data⟩ (by simp) rfl
      have p23 : b 23 = true := hd ⟨23, .guard⟩ (by simp) rfl
      exact does_pass_none rfl (yielded_undef (j := 23) (s := 55) rfl ((ev 23 55 rfl p23).trans vv23)) vv32 (hS)
    | 33 =>
      simp only [List.getElem?_toArray, List.getElem?_cons_zero, List.getElem?_cons_succ, Option.some.injEq] at ho
      subst ho
      have p23 : b 23 = true := hd ⟨23, .data⟩ (by simp) rfl
      have p32 : b 32 = true := hd ⟨32, .data⟩ (by simp) rfl
      have p19 : b 19 = true := hd ⟨19, .guard⟩ (by simp) rfl
      exact does_pass rfl (yl 19 51 true rfl p19 vv19) (by decide) vv33 (hS)
    | 34 =>
      simp only [List.getElem?_toArray, List.getElem?_cons_zero, List.getElem?_cons_succ, Option.some.injEq] at ho
      subst ho
      have p19 : b 19 = true := hd ⟨19, .data⟩ (by simp) rfl
      have p33 : b 33 = true := hd ⟨33, .data⟩ (by simp) rfl
      have p9 : b 9 = true := hd ⟨9, .guard⟩ (by simp) rfl
      have e51 := (ev 19 51 rfl p19).trans vv19
      rw [vv34]
      refine does_value_g rfl (yl 9 41 true rfl p9 vv9) (by intro c h; cases h) (w' := W) ?_ (hS)
      · simp [execOp, go_sem, e51]
    | 35 =>
      simp only [List.getElem?_toArray, List.getElem?_cons_zero, List.getElem?_cons_succ, Option.some.injEq] at ho
      subst ho
      have p9 : b 9 = true := hd ⟨9, .data⟩ (by simp) rfl
      have p34 : b 34 = true := hd ⟨34, .data⟩ (by simp) rfl
      have e41 := (ev 9 41 rfl p9).trans vv9
      have e66 := (ev 34 66 rfl p34).trans vv34
      rw [vv35]
      refine does_value rfl (by intro c h; cases h) (w' := W) ?_ (hS)
      · simp [execOp, go_sem, e41, e66]
    | k + 36 => simp at ho
  · intro b' W hS _
    subst hLe
    exact hQ W hS

set_option maxRecDepth 8000 in
set_option maxHeartbeats 4000000 in
theorem rs12_nb {Q : Exit → Act → World → Prop} {base : Array Value} {dd : List Deferred} {ops : Array Oper} (hops : Tryd.f9.body.bind (regs 12) = some ops) (g1 g2 O1 O2 L1 L2 c1 c2 J K : Nat) (nj ni : List UInt8) (t u t' u' : Int) (w9 : World) (hsz : base.size = 83)
    (b0 : base.getD 0 undef = .slice (some ⟨g1, O1, none⟩) L1 c1)
    (b1 : base.getD 1 undef = .slice (some ⟨g2, O2, none⟩) L2 c2)
    (b7 : base.getD 7 undef = .int .i64 (K : Nat))
    (b9 : base.getD 9 undef = .int .i64 (J : Nat))
    (hj1 : J < L1) (hk1 : K < L1) (hj2 : J < L2) (hk2 : K < L2)
    (hn1 : w9.cell? ⟨g2, O2 + J, none⟩ = some (.string (bas nj))) (hn2 : w9.cell? ⟨g2, O2 + K, none⟩ = some (.string (bas ni)))
    (hq : ((bas nj).toList == (bas ni).toList) = true)
    (hx0 : w9.cell? ⟨g1, O1 + J * 2, none⟩ = some (.int .i64 t)) (hx1 : w9.cell? ⟨g1, O1 + J * 2 + 1, none⟩ = some (.int .i64 u)) (hy0 : w9.cell? ⟨g1, O1 + K * 2, none⟩ = some (.int .i64 t')) (hy1 : w9.cell? ⟨g1, O1 + K * 2 + 1, none⟩ = some (.int .i64 u'))
    (cB : ∀ W, Below w9.heap.size w9 W → Calls Tryd.prog 17 #[idv t u, idv t' u'] W fun e w' => e = .returned (.bool false) ∧ Below W.heap.size W w')
    (hC : ¬ J < K)
    (hQ : ∀ W, Below w9.heap.size w9 W → Q .normal ⟨putAll base [(some 32, .slice (some ⟨g2, O2, none⟩) L2 c2), (some 33, .int .i64 (J : Nat)), (some 34, .pointer (some ⟨g2, O2 + J, none⟩)), (some 35, .string (bas nj)), (some 36, .slice (some ⟨g2, O2, none⟩) L2 c2), (some 37, .int .i64 (K : Nat)), (some 38, .pointer (some ⟨g2, O2 + K, none⟩)), (some 39, .string (bas ni)), (some 40, .bool true), (some 41, .bool true), (some 42, .slice (some ⟨g1, O1, none⟩) L1 c1), (some 43, .int .i64 (J : Nat)), (some 44, .pointer (some ⟨g1, O1 + J * 2, none⟩)), (some 45, .agg #[.int .i64 t, .int .i64 u]), (some 46, .slice (some ⟨g1, O1, none⟩) L1 c1), (some 47, .int .i64 (K : Nat)), (some 48, .pointer (some ⟨g1, O1 + K * 2, none⟩)), (some 49, .agg #[.int .i64 t', .int .i64 u']), (some 50, .bool false), (some 51, .bool false), (some 52, .int .i64 (J : Nat)), (some 53, .int .i64 (K : Nat)), (some 54, .bool false), (some 55, .bool false), (some 56, undef), (some 57, undef), (some 58, undef), (some 59, undef), (some 60, undef), (some 61, undef), (some 62, undef), (some 63, undef), (some 64, undef), (some 65, .bool false), (some 66, .bool false), (some 67, .bool false)], dd⟩ W) :
    (Code.region 12 ops true).wp Tryd.prog Q ⟨base, dd⟩ w9 := by
  have hmix : Tryd.prog.follows .mixedOrders = true := by kernel_rfl
  have h2 := (show Tryd.f9.body.bind (regs 12) = some _ from rfl).symm.trans hops
  obtain rfl := Option.some.inj h2
  clear h2 hops
  have below9 : Below w9.heap.size w9 w9.drew := (Below.refl _ _).drew
  obtain ⟨LL, hLe⟩ : ∃ LL : List (Option Tmp × Value), LL = [(some 32, .slice (some ⟨g2, O2, none⟩) L2 c2), (some 33, .int .i64 (J : Nat)), (some 34, .pointer (some ⟨g2, O2 + J, none⟩)), (some 35, .string (bas nj)), (some 36, .slice (some ⟨g2, O2, none⟩) L2 c2), (some 37, .int .i64 (K : Nat)), (some 38, .pointer (some ⟨g2, O2 + K, none⟩)), (some 39, .string (bas ni)), (some 40, .bool true), (some 41, .bool true), (some 42, .slice (some ⟨g1, O1, none⟩) L1 c1), (some 43, .int .i64 (J : Nat)), (some 44, .pointer (some ⟨g1, O1 + J * 2, none⟩)), (some 45, .agg #[.int .i64 t, .int .i64 u]), (some 46, .slice (some ⟨g1, O1, none⟩) L1 c1), (some 47, .int .i64 (K : Nat)), (some 48, .pointer (some ⟨g1, O1 + K * 2, none⟩)), (some 49, .agg #[.int .i64 t', .int .i64 u']), (some 50, .bool false), (some 51, .bool false), (some 52, .int .i64 (J : Nat)), (some 53, .int .i64 (K : Nat)), (some 54, .bool false), (some 55, .bool false), (some 56, undef), (some 57, undef), (some 58, undef), (some 59, undef), (some 60, undef), (some 61, undef), (some 62, undef), (some 63, undef), (some 64, undef), (some 65, .bool false), (some 66, .bool false), (some 67, .bool false)] := ⟨_, rfl⟩
  have vv0 : vals LL 0 = .slice (some ⟨g2, O2, none⟩) L2 c2 := by rw [hLe]; rfl
  have vv1 : vals LL 1 = .int .i64 (J : Nat) := by rw [hLe]; rfl
  have vv2 : vals LL 2 = .pointer (some ⟨g2, O2 + J, none⟩) := by rw [hLe]; rfl
  have vv3 : vals LL 3 = .string (bas nj) := by rw [hLe]; rfl
  have vv4 : vals LL 4 = .slice (some ⟨g2, O2, none⟩) L2 c2 := by rw [hLe]; rfl
  have vv5 : vals LL 5 = .int .i64 (K : Nat) := by rw [hLe]; rfl
  have vv6 : vals LL 6 = .pointer (some ⟨g2, O2 + K, none⟩) := by rw [hLe]; rfl
  have vv7 : vals LL 7 = .string (bas ni) := by rw [hLe]; rfl
  have vv8 : vals LL 8 = .bool true := by rw [hLe]; rfl
  have vv9 : vals LL 9 = .bool true := by rw [hLe]; rfl
  have vv10 : vals LL 10 = .slice (some ⟨g1, O1, none⟩) L1 c1 := by rw [hLe]; rfl
  have vv11 : vals LL 11 = .int .i64 (J : Nat) := by rw [hLe]; rfl
  have vv12 : vals LL 12 = .pointer (some ⟨g1, O1 + J * 2, none⟩) := by rw [hLe]; rfl
  have vv13 : vals LL 13 = .agg #[.int .i64 t, .int .i64 u] := by rw [hLe]; rfl
  have vv14 : vals LL 14 = .slice (some ⟨g1, O1, none⟩) L1 c1 := by rw [hLe]; rfl
  have vv15 : vals LL 15 = .int .i64 (K : Nat) := by rw [hLe]; rfl
  have vv16 : vals LL 16 = .pointer (some ⟨g1, O1 + K * 2, none⟩) := by rw [hLe]; rfl
  have vv17 : vals LL 17 = .agg #[.int .i64 t', .int .i64 u'] := by rw [hLe]; rfl
  have vv18 : vals LL 18 = .bool false := by rw [hLe]; rfl
  have vv19 : vals LL 19 = .bool false := by rw [hLe]; rfl
  have vv20 : vals LL 20 = .int .i64 (J : Nat) := by rw [hLe]; rfl
  have vv21 : vals LL 21 = .int .i64 (K : Nat) := by rw [hLe]; rfl
  have vv22 : vals LL 22 = .bool false := by rw [hLe]; rfl
  have vv23 : vals LL 23 = .bool false := by rw [hLe]; rfl
  have vv24 : vals LL 24 = undef := by rw [hLe]; rfl
  have vv25 : vals LL 25 = undef := by rw [hLe]; rfl
  have vv26 : vals LL 26 = undef := by rw [hLe]; rfl
  have vv27 : vals LL 27 = undef := by rw [hLe]; rfl
  have vv28 : vals LL 28 = undef := by rw [hLe]; rfl
  have vv29 : vals LL 29 = undef := by rw [hLe]; rfl
  have vv30 : vals LL 30 = undef := by rw [hLe]; rfl
  have vv31 : vals LL 31 = undef := by rw [hLe]; rfl
  have vv32 : vals LL 32 = undef := by rw [hLe]; rfl
  have vv33 : vals LL 33 = .bool false := by rw [hLe]; rfl
  have vv34 : vals LL 34 = .bool false := by rw [hLe]; rfl
  have vv35 : vals LL 35 = .bool false := by rw [hLe]; rfl
  refine region_laid hmix (by kernel_rfl) 83 hsz (by kernel_rfl) LL (by rw [hLe]; rfl) (fun _ W => Below w9.heap.size w9 W) below9 ?_ ?_
  · intro b W i o a hS hcl ho hb hd ev kp yl
    match i with
    | 0 =>
      simp only [List.getElem?_toArray, List.getElem?_cons_zero, Option.some.injEq] at ho
      subst ho
      have e1 : a.tmps[1]?.getD undef = .slice (some ⟨g2, O2, none⟩) L2 c2 := (kp 1 (by kernel_rfl)).trans b1
      rw [vv0]
      refine does_value rfl (by intro c h; cases h) (w' := W) ?_ (hS)
      · simp [execOp, go_sem, e1]
    | 1 =>
      simp only [List.getElem?_toArray, List.getElem?_cons_zero, List.getElem?_cons_succ, Option.some.injEq] at ho
      subst ho
      have e9 : a.tmps[9]?.getD undef = .int .i64 (J : Nat) := (kp 9 (by kernel_rfl)).trans b9
      rw [vv1]
      refine does_value rfl (by intro c h; cases h) (w' := W) ?_ (hS)
      · simp [execOp, go_sem, e9]
    | 2 =>
      simp only [List.getElem?_toArray, List.getElem?_cons_zero, List.getElem?_cons_succ, Option.some.injEq] at ho
      subst ho
      have p0 : b 0 = true := hd ⟨0, .data⟩ (by simp) rfl
      have p1 : b 1 = true := hd ⟨1, .data⟩ (by simp) rfl
      have e32 := (ev 0 32 rfl p0).trans vv0
      have e33 := (ev 1 33 rfl p1).trans vv1
      rw [vv2]
      refine does_value rfl (by intro c h; cases h) (w' := W) ?_ (hS)
      · simp [execOp, go_sem, e32, e33, hj2]
    | 3 =>
      simp only [List.getElem?_toArray, List.getElem?_cons_zero, List.getElem?_cons_succ, Option.some.injEq] at ho
      subst ho
      have p2 : b 2 = true := hd ⟨2, .data⟩ (by simp) rfl
      have e34 := (ev 2 34 rfl p2).trans vv2
      have d9_0 := (hS.cell (p := ⟨g2, O2 + J, none⟩) (cell_lt hn1)).trans hn1
      rw [vv3]
      refine does_value rfl (by intro c h; cases h) (w' := W) ?_ (hS)
      · simp [execOp, go_sem, e34, d9_0]
    | 4 =>
      simp only [List.getElem?_toArray, List.getElem?_cons_zero, List.getElem?_cons_succ, Option.some.injEq] at ho
      subst ho
      have e1 : a.tmps[1]?.getD undef = .slice (some ⟨g2, O2, none⟩) L2 c2 := (kp 1 (by kernel_rfl)).trans b1
      rw [vv4]
      refine does_value rfl (by intro c h; cases h) (w' := W) ?_ (hS)
      · simp [execOp, go_sem, e1]
    | 5 =>
      simp only [List.getElem?_toArray, List.getElem?_cons_zero, List.getElem?_cons_succ, Option.some.injEq] at ho
      subst ho
      have e7 : a.tmps[7]?.getD undef = .int .i64 (K : Nat) := (kp 7 (by kernel_rfl)).trans b7
      rw [vv5]
      refine does_value rfl (by intro c h; cases h) (w' := W) ?_ (hS)
      · simp [execOp, go_sem, e7]
    | 6 =>
      simp only [List.getElem?_toArray, List.getElem?_cons_zero, List.getElem?_cons_succ, Option.some.injEq] at ho
      subst ho
      have p4 : b 4 = true := hd ⟨4, .data⟩ (by simp) rfl
      have p5 : b 5 = true := hd ⟨5, .data⟩ (by simp) rfl
      have e36 := (ev 4 36 rfl p4).trans vv4
      have e37 := (ev 5 37 rfl p5).trans vv5
      rw [vv6]
      refine does_value rfl (by intro c h; cases h) (w' := W) ?_ (hS)
      · simp [execOp, go_sem, e36, e37, hk2]
    | 7 =>
      simp only [List.getElem?_toArray, List.getElem?_cons_zero, List.getElem?_cons_succ, Option.some.injEq] at ho
      subst ho
      have p6 : b 6 = true := hd ⟨6, .data⟩ (by simp) rfl
      have e38 := (ev 6 38 rfl p6).trans vv6
      have d9_0 := (hS.cell (p := ⟨g2, O2 + K, none⟩) (cell_lt hn2)).trans hn2
      rw [vv7]
      refine does_value rfl (by intro c h; cases h) (w' := W) ?_ (hS)
      · simp [execOp, go_sem, e38, d9_0]
    | 8 =>
      simp only [List.getElem?_toArray, List.getElem?_cons_zero, List.getElem?_cons_succ, Option.some.injEq] at ho
      subst ho
      have p3 : b 3 = true := hd ⟨3, .data⟩ (by simp) rfl
      have p7 : b 7 = true := hd ⟨7, .data⟩ (by simp) rfl
      have e35 := (ev 3 35 rfl p3).trans vv3
      have e39 := (ev 7 39 rfl p7).trans vv7
      rw [vv8]
      refine does_value rfl (by intro c h; cases h) (w' := W) ?_ (hS)
      · simp [execOp, go_sem, e35, e39, hq]
    | 9 =>
      simp only [List.getElem?_toArray, List.getElem?_cons_zero, List.getElem?_cons_succ, Option.some.injEq] at ho
      subst ho
      have p8 : b 8 = true := hd ⟨8, .data⟩ (by simp) rfl
      have e40 := (ev 8 40 rfl p8).trans vv8
      rw [vv9]
      refine does_value rfl (by intro c h; cases h) (w' := W) ?_ (hS)
      · simp [execOp, go_sem, e40]
    | 10 =>
      simp only [List.getElem?_toArray, List.getElem?_cons_zero, List.getElem?_cons_succ, Option.some.injEq] at ho
      subst ho
      have p9 : b 9 = true := hd ⟨9, .guard⟩ (by simp) rfl
      have e0 : a.tmps[0]?.getD undef = .slice (some ⟨g1, O1, none⟩) L1 c1 := (kp 0 (by kernel_rfl)).trans b0
      rw [vv10]
      refine does_value_g rfl (yl 9 41 true rfl p9 vv9) (by intro c h; cases h) (w' := W) ?_ (hS)
      · simp [execOp, go_sem, e0]
    | 11 =>
      simp only [List.getElem?_toArray, List.getElem?_cons_zero, List.getElem?_cons_succ, Option.some.injEq] at ho
      subst ho
      have p9 : b 9 = true := hd ⟨9, .guard⟩ (by simp) rfl
      have e9 : a.tmps[9]?.getD undef = .int .i64 (J : Nat) := (kp 9 (by kernel_rfl)).trans b9
      rw [vv11]
      refine does_value_g rfl (yl 9 41 true rfl p9 vv9) (by intro c h; cases h) (w' := W) ?_ (hS)
      · simp [execOp, go_sem, e9]
    | 12 =>
      simp only [List.getElem?_toArray, List.getElem?_cons_zero, List.getElem?_cons_succ, Option.some.injEq] at ho
      subst ho
      have p10 : b 10 = true := hd ⟨10, .data⟩ (by simp) rfl
      have p11 : b 11 = true := hd ⟨11, .data⟩ (by simp) rfl
      have p9 : b 9 = true := hd ⟨9, .guard⟩ (by simp) rfl
      have e42 := (ev 10 42 rfl p10).trans vv10
      have e43 := (ev 11 43 rfl p11).trans vv11
      rw [vv12]
      refine does_value_g rfl (yl 9 41 true rfl p9 vv9) (by intro c h; cases h) (w' := W) ?_ (hS)
      · simp [execOp, go_sem, e42, e43, hj1]
    | 13 =>
      simp only [List.getElem?_toArray, List.getElem?_cons_zero, List.getElem?_cons_succ, Option.some.injEq] at ho
      subst ho
      have p12 : b 12 = true := hd ⟨12, .data⟩ (by simp) rfl
      have p9 : b 9 = true := hd ⟨9, .guard⟩ (by simp) rfl
      have e44 := (ev 12 44 rfl p12).trans vv12
      have d9_0 := (hS.cell (p := ⟨g1, O1 + J * 2, none⟩) (cell_lt hx0)).trans hx0
      have d9_1 := (hS.cell (p := ⟨g1, O1 + J * 2 + 1, none⟩) (cell_lt hx1)).trans hx1
      rw [vv13]
      refine does_value_g rfl (yl 9 41 true rfl p9 vv9) (by intro c h; cases h) (w' := W) ?_ (hS)
      · simp [execOp, go_sem, e44, d9_0, d9_1]
    | 14 =>
      simp only [List.getElem?_toArray, List.getElem?_cons_zero, List.getElem?_cons_succ, Option.some.injEq] at ho
      subst ho
      have p9 : b 9 = true := hd ⟨9, .guard⟩ (by simp) rfl
      have e0 : a.tmps[0]?.getD undef = .slice (some ⟨g1, O1, none⟩) L1 c1 := (kp 0 (by kernel_rfl)).trans b0
      rw [vv14]
      refine does_value_g rfl (yl 9 41 true rfl p9 vv9) (by intro c h; cases h) (w' := W) ?_ (hS)
      · simp [execOp, go_sem, e0]
    | 15 =>
      simp only [List.getElem?_toArray, List.getElem?_cons_zero, List.getElem?_cons_succ, Option.some.injEq] at ho
      subst ho
      have p9 : b 9 = true := hd ⟨9, .guard⟩ (by simp) rfl
      have e7 : a.tmps[7]?.getD undef = .int .i64 (K : Nat) := (kp 7 (by kernel_rfl)).trans b7
      rw [vv15]
      refine does_value_g rfl (yl 9 41 true rfl p9 vv9) (by intro c h; cases h) (w' := W) ?_ (hS)
      · simp [execOp, go_sem, e7]
    | 16 =>
      simp only [List.getElem?_toArray, List.getElem?_cons_zero, List.getElem?_cons_succ, Option.some.injEq] at ho
      subst ho
      have p14 : b 14 = true := hd ⟨14, .data⟩ (by simp) rfl
      have p15 : b 15 = true := hd ⟨15, .data⟩ (by simp) rfl
      have p9 : b 9 = true := hd ⟨9, .guard⟩ (by simp) rfl
      have e46 := (ev 14 46 rfl p14).trans vv14
      have e47 := (ev 15 47 rfl p15).trans vv15
      rw [vv16]
      refine does_value_g rfl (yl 9 41 true rfl p9 vv9) (by intro c h; cases h) (w' := W) ?_ (hS)
      · simp [execOp, go_sem, e46, e47, hk1]
    | 17 =>
      simp only [List.getElem?_toArray, List.getElem?_cons_zero, List.getElem?_cons_succ, Option.some.injEq] at ho
      subst ho
      have p16 : b 16 = true := hd ⟨16, .data⟩ (by simp) rfl
      have p9 : b 9 = true := hd ⟨9, .guard⟩ (by simp) rfl
      have e48 := (ev 16 48 rfl p16).trans vv16
      have d9_0 := (hS.cell (p := ⟨g1, O1 + K * 2, none⟩) (cell_lt hy0)).trans hy0
      have d9_1 := (hS.cell (p := ⟨g1, O1 + K * 2 + 1, none⟩) (cell_lt hy1)).trans hy1
      rw [vv17]
      refine does_value_g rfl (yl 9 41 true rfl p9 vv9) (by intro c h; cases h) (w' := W) ?_ (hS)
      · simp [execOp, go_sem, e48, d9_0, d9_1]
    | 18 =>
      simp only [List.getElem?_toArray, List.getElem?_cons_zero, List.getElem?_cons_succ, Option.some.injEq] at ho
      subst ho
      have p13 : b 13 = true := hd ⟨13, .data⟩ (by simp) rfl
      have p17 : b 17 = true := hd ⟨17, .data⟩ (by simp) rfl
      have p9 : b 9 = true := hd ⟨9, .guard⟩ (by simp) rfl
      have e45 := (ev 13 45 rfl p13).trans vv13
      have e49 := (ev 17 49 rfl p17).trans vv17
      rw [vv18]
      refine does_call_g rfl (yl 9 41 true rfl p9 vv9) (by intro c h; cases h) (f := 17) (args := #[.agg #[.int .i64 t, .int .i64 u], .agg #[.int .i64 t', .int .i64 u']]) ?_ ?_
      · simp [go_sem, e45, e49]
      · exact (cB W hS).mono (fun e w' h => ⟨h.1, hS.trans (h.2.mono hS.size)⟩)
    | 19 =>
      simp only [List.getElem?_toArray, List.getElem?_cons_zero, List.getElem?_cons_succ, Option.some.injEq] at ho
      subst ho
      have p18 : b 18 = true := hd ⟨18, .data⟩ (by simp) rfl
      have p9 : b 9 = true := hd ⟨9, .guard⟩ (by simp) rfl
      have e50 := (ev 18 50 rfl p18).trans vv18
      rw [vv19]
      refine does_value_g rfl (yl 9 41 true rfl p9 vv9) (by intro c h; cases h) (w' := W) ?_ (hS)
      · simp [execOp, go_sem, e50]
    | 20 =>
      simp only [List.getElem?_toArray, List.getElem?_cons_zero, List.getElem?_cons_succ, Option.some.injEq] at ho
      subst ho
      have p19 : b 19 = true := hd ⟨19, .guard⟩ (by simp) rfl
      have e9 : a.tmps[9]?.getD undef = .int .i64 (J : Nat) := (kp 9 (by kernel_rfl)).trans b9
      rw [vv20]
      refine does_value_g rfl (yl 19 51 false rfl p19 vv19) (by intro c h; cases h) (w' := W) ?_ (hS)
      · simp [execOp, go_sem, e9]
    | 21 =>
      simp only [List.getElem?_toArray, List.getElem?_cons_zero, List.getElem?_cons_succ, Option.some.injEq] at ho
      subst ho
      have p19 : b 19 = true := hd ⟨19, .guard⟩ (by simp) rfl
      have e7 : a.tmps[7]?.getD undef = .int .i64 (K : Nat) := (kp 7 (by kernel_rfl)).trans b7
      rw [vv21]
      refine does_value_g rfl (yl 19 51 false rfl p19 vv19) (by intro c h; cases h) (w' := W) ?_ (hS)
      · simp [execOp, go_sem, e7]
    | 22 =>
      simp only [List.getElem?_toArray, List.getElem?_cons_zero, List.getElem?_cons_succ, Option.some.injEq] at ho
      subst ho
      have p20 : b 20 = true := hd ⟨20, .data⟩ (by simp) rfl
      have p21 : b 21 = true := hd ⟨21, .data⟩ (by simp) rfl
      have p19 : b 19 = true := hd ⟨19, .guard⟩ (by simp) rfl
      have e52 := (ev 20 52 rfl p20).trans vv20
      have e53 := (ev 21 53 rfl p21).trans vv21
      rw [vv22]
      refine does_value_g rfl (yl 19 51 false rfl p19 vv19) (by intro c h; cases h) (w' := W) ?_ (hS)
      · simp [execOp, go_sem, e52, e53, hC]
    | 23 =>
      simp only [List.getElem?_toArray, List.getElem?_cons_zero, List.getElem?_cons_succ, Option.some.injEq] at ho
      subst ho
      have p22 : b 22 = true := hd ⟨22, .data⟩ (by simp) rfl
      have p19 : b 19 = true := hd ⟨19, .guard⟩ (by simp) rfl
      have e54 := (ev 22 54 rfl p22).trans vv22
      rw [vv23]
      refine does_value_g rfl (yl 19 51 false rfl p19 vv19) (by intro c h; cases h) (w' := W) ?_ (hS)
      · simp [execOp, go_sem, e54]
    | 24 =>
      simp only [List.getElem?_toArray, List.getElem?_cons_zero, List.getElem?_cons_succ, Option.some.injEq] at ho
      subst ho
      have p23 : b 23 = true := hd ⟨23, .guard⟩ (by simp) rfl
      exact does_pass rfl (yl 23 55 false rfl p23 vv23) (by decide) vv24 (hS)
    | 25 =>
      simp only [List.getElem?_toArray, List.getElem?_cons_zero, List.getElem?_cons_succ, Option.some.injEq] at ho
      subst ho
      have p23 : b 23 = true := hd ⟨23, .guard⟩ (by simp) rfl
      exact does_pass rfl (yl 23 55 false rfl p23 vv23) (by decide) vv25 (hS)
    | 26 =>
      simp only [List.getElem?_toArray, List.getElem?_cons_zero, List.getElem?_cons_succ, Option.some.injEq] at ho
      subst ho
      have p24 : b 24 = true := hd ⟨24, .data⟩ (by simp) rfl
      have p25 : b 25 = true := hd ⟨25, .data⟩ (by simp) rfl
      have p23 : b 23 = true := hd ⟨23, .guard⟩ (by simp) rfl
      exact does_pass rfl (yl 23 55 false rfl p23 vv23) (by decide) vv26 (hS)
    | 27 =>
      simp only [List.getElem?_toArray, List.getElem?_cons_zero, List.getElem?_cons_succ, Option.some.injEq] at ho
      subst ho
      have p26 : b 26 = true := hd ⟨26, .data⟩ (by simp) rfl
      have p23 : b 23 = true := hd ⟨23, .guard⟩ (by simp) rfl
      exact does_pass rfl (yl 23 55 false rfl p23 vv23) (by decide) vv27 (hS)
    | 28 =>
      simp only [List.getElem?_toArray, List.getElem?_cons_zero, List.getElem?_cons_succ, Option.some.injEq] at ho
      subst ho
      have p23 : b 23 = true := hd ⟨23, .guard⟩ (by simp) rfl
      exact does_pass rfl (yl 23 55 false rfl p23 vv23) (by decide) vv28 (hS)
    | 29 =>
      simp only [List.getElem?_toArray, List.getElem?_cons_zero, List.getElem?_cons_succ, Option.some.injEq] at ho
      subst ho
      have p23 : b 23 = true := hd ⟨23, .guard⟩ (by simp) rfl
      exact does_pass rfl (yl 23 55 false rfl p23 vv23) (by decide) vv29 (hS)
    | 30 =>
      simp only [List.getElem?_toArray, List.getElem?_cons_zero, List.getElem?_cons_succ, Option.some.injEq] at ho
      subst ho
      have p28 : b 28 = true := hd ⟨28, .data⟩ (by simp) rfl
      have p29 : b 29 = true := hd ⟨29, .data⟩ (by simp) rfl
      have p23 : b 23 = true := hd ⟨23, .guard⟩ (by simp) rfl
      exact does_pass rfl (yl 23 55 false rfl p23 vv23) (by decide) vv30 (hS)
    | 31 =>
      simp only [List.getElem?_toArray, List.getElem?_cons_zero, List.getElem?_cons_succ, Option.some.injEq] at ho
      subst ho
      have p30 : b 30 = true := hd ⟨30, .data⟩ (by simp) rfl
      have p23 : b 23 = true := hd ⟨23, .guard⟩ (by simp) rfl
      exact does_pass rfl (yl 23 55 false rfl p23 vv23) (by decide) vv31 (hS)
    | 32 =>
      simp only [List.getElem?_toArray, List.getElem?_cons_zero, List.getElem?_cons_succ, Option.some.injEq] at ho
      subst ho
      have p27 : b 27 = true := hd ⟨27, .data⟩ (by simp) rfl
      have p31 : b 31 = true := hd ⟨31, .data⟩ (by simp) rfl
      have p23 : b 23 = true := hd ⟨23, .guard⟩ (by simp) rfl
      exact does_pass rfl (yl 23 55 false rfl p23 vv23) (by decide) vv32 (hS)
    | 33 =>
      simp only [List.getElem?_toArray, List.getElem?_cons_zero, List.getElem?_cons_succ, Option.some.injEq] at ho
      subst ho
      have p23 : b 23 = true := hd ⟨23, .data⟩ (by simp) rfl
      have p32 : b 32 = true := hd ⟨32, .data⟩ (by simp) rfl
      have p19 : b 19 = true := hd ⟨19, .guard⟩ (by simp) rfl
      have e55 := (ev 23 55 rfl p23).trans vv23
      rw [vv33]
      refine does_value_g rfl (yl 19 51 false rfl p19 vv19) (by intro c h; cases h) (w' := W) ?_ (hS)
      · simp [execOp, go_sem, e55]
    | 34 =>
      simp only [List.getElem?_toArray, List.getElem?_cons_zero, List.getElem?_cons_succ, Option.some.injEq] at ho
      subst ho
      have p19 : b 19 = true := hd ⟨19, .data⟩ (by simp) rfl
      have p33 : b 33 = true := hd ⟨33, .data⟩ (by simp) rfl
      have p9 : b 9 = true := hd ⟨9, .guard⟩ (by simp) rfl
      have e51 := (ev 19 51 rfl p19).trans vv19
      have e65 := (ev 33 65 rfl p33).trans vv33
      rw [vv34]
      refine does_value_g rfl (yl 9 41 true rfl p9 vv9) (by intro c h; cases h) (w' := W) ?_ (hS)
      · simp [execOp, go_sem, e51, e65]
    | 35 =>
      simp only [List.getElem?_toArray, List.getElem?_cons_zero, List.getElem?_cons_succ, Option.some.injEq] at ho
      subst ho
      have p9 : b 9 = true := hd ⟨9, .data⟩ (by simp) rfl
      have p34 : b 34 = true := hd ⟨34, .data⟩ (by simp) rfl
      have e41 := (ev 9 41 rfl p9).trans vv9
      have e66 := (ev 34 66 rfl p34).trans vv34
      rw [vv35]
      refine does_value rfl (by intro c h; cases h) (w' := W) ?_ (hS)
      · simp [execOp, go_sem, e41, e66]
    | k + 36 => simp at ho
  · intro b' W hS _
    subst hLe
    exact hQ W hS

set_option maxRecDepth 8000 in
set_option maxHeartbeats 4000000 in
theorem rs12_yc {Q : Exit → Act → World → Prop} {base : Array Value} {dd : List Deferred} {ops : Array Oper} (hops : Tryd.f9.body.bind (regs 12) = some ops) (g1 g2 O1 O2 L1 L2 c1 c2 J K : Nat) (nj ni : List UInt8) (t u t' u' : Int) (w9 : World) (hsz : base.size = 83)
    (b0 : base.getD 0 undef = .slice (some ⟨g1, O1, none⟩) L1 c1)
    (b1 : base.getD 1 undef = .slice (some ⟨g2, O2, none⟩) L2 c2)
    (b7 : base.getD 7 undef = .int .i64 (K : Nat))
    (b9 : base.getD 9 undef = .int .i64 (J : Nat))
    (hj1 : J < L1) (hk1 : K < L1) (hj2 : J < L2) (hk2 : K < L2)
    (hn1 : w9.cell? ⟨g2, O2 + J, none⟩ = some (.string (bas nj))) (hn2 : w9.cell? ⟨g2, O2 + K, none⟩ = some (.string (bas ni)))
    (hq : ((bas nj).toList == (bas ni).toList) = true)
    (hx0 : w9.cell? ⟨g1, O1 + J * 2, none⟩ = some (.int .i64 t)) (hx1 : w9.cell? ⟨g1, O1 + J * 2 + 1, none⟩ = some (.int .i64 u)) (hy0 : w9.cell? ⟨g1, O1 + K * 2, none⟩ = some (.int .i64 t')) (hy1 : w9.cell? ⟨g1, O1 + K * 2 + 1, none⟩ = some (.int .i64 u'))
    (cB : ∀ W, Below w9.heap.size w9 W → Calls Tryd.prog 17 #[idv t u, idv t' u'] W fun e w' => e = .returned (.bool false) ∧ Below W.heap.size W w')
    (hC : J < K)
    (cD : ∀ W, Below w9.heap.size w9 W → Calls Tryd.prog 12 #[idv t u, idv t' u'] W fun e w' => e = .returned (.bool true) ∧ Below W.heap.size W w')
    (hQ : ∀ W, Below w9.heap.size w9 W → Q .normal ⟨putAll base [(some 32, .slice (some ⟨g2, O2, none⟩) L2 c2), (some 33, .int .i64 (J : Nat)), (some 34, .pointer (some ⟨g2, O2 + J, none⟩)), (some 35, .string (bas nj)), (some 36, .slice (some ⟨g2, O2, none⟩) L2 c2), (some 37, .int .i64 (K : Nat)), (some 38, .pointer (some ⟨g2, O2 + K, none⟩)), (some 39, .string (bas ni)), (some 40, .bool true), (some 41, .bool true), (some 42, .slice (some ⟨g1, O1, none⟩) L1 c1), (some 43, .int .i64 (J : Nat)), (some 44, .pointer (some ⟨g1, O1 + J * 2, none⟩)), (some 45, .agg #[.int .i64 t, .int .i64 u]), (some 46, .slice (some ⟨g1, O1, none⟩) L1 c1), (some 47, .int .i64 (K : Nat)), (some 48, .pointer (some ⟨g1, O1 + K * 2, none⟩)), (some 49, .agg #[.int .i64 t', .int .i64 u']), (some 50, .bool false), (some 51, .bool false), (some 52, .int .i64 (J : Nat)), (some 53, .int .i64 (K : Nat)), (some 54, .bool true), (some 55, .bool true), (some 56, .slice (some ⟨g1, O1, none⟩) L1 c1), (some 57, .int .i64 (J : Nat)), (some 58, .pointer (some ⟨g1, O1 + J * 2, none⟩)), (some 59, .agg #[.int .i64 t, .int .i64 u]), (some 60, .slice (some ⟨g1, O1, none⟩) L1 c1), (some 61, .int .i64 (K : Nat)), (some 62, .pointer (some ⟨g1, O1 + K * 2, none⟩)), (some 63, .agg #[.int .i64 t', .int .i64 u']), (some 64, .bool true), (some 65, .bool true), (some 66, .bool true), (some 67, .bool true)], dd⟩ W) :
    (Code.region 12 ops true).wp Tryd.prog Q ⟨base, dd⟩ w9 := by
  have hmix : Tryd.prog.follows .mixedOrders = true := by kernel_rfl
  have h2 := (show Tryd.f9.body.bind (regs 12) = some _ from rfl).symm.trans hops
  obtain rfl := Option.some.inj h2
  clear h2 hops
  have below9 : Below w9.heap.size w9 w9.drew := (Below.refl _ _).drew
  obtain ⟨LL, hLe⟩ : ∃ LL : List (Option Tmp × Value), LL = [(some 32, .slice (some ⟨g2, O2, none⟩) L2 c2), (some 33, .int .i64 (J : Nat)), (some 34, .pointer (some ⟨g2, O2 + J, none⟩)), (some 35, .string (bas nj)), (some 36, .slice (some ⟨g2, O2, none⟩) L2 c2), (some 37, .int .i64 (K : Nat)), (some 38, .pointer (some ⟨g2, O2 + K, none⟩)), (some 39, .string (bas ni)), (some 40, .bool true), (some 41, .bool true), (some 42, .slice (some ⟨g1, O1, none⟩) L1 c1), (some 43, .int .i64 (J : Nat)), (some 44, .pointer (some ⟨g1, O1 + J * 2, none⟩)), (some 45, .agg #[.int .i64 t, .int .i64 u]), (some 46, .slice (some ⟨g1, O1, none⟩) L1 c1), (some 47, .int .i64 (K : Nat)), (some 48, .pointer (some ⟨g1, O1 + K * 2, none⟩)), (some 49, .agg #[.int .i64 t', .int .i64 u']), (some 50, .bool false), (some 51, .bool false), (some 52, .int .i64 (J : Nat)), (some 53, .int .i64 (K : Nat)), (some 54, .bool true), (some 55, .bool true), (some 56, .slice (some ⟨g1, O1, none⟩) L1 c1), (some 57, .int .i64 (J : Nat)), (some 58, .pointer (some ⟨g1, O1 + J * 2, none⟩)), (some 59, .agg #[.int .i64 t, .int .i64 u]), (some 60, .slice (some ⟨g1, O1, none⟩) L1 c1), (some 61, .int .i64 (K : Nat)), (some 62, .pointer (some ⟨g1, O1 + K * 2, none⟩)), (some 63, .agg #[.int .i64 t', .int .i64 u']), (some 64, .bool true), (some 65, .bool true), (some 66, .bool true), (some 67, .bool true)] := ⟨_, rfl⟩
  have vv0 : vals LL 0 = .slice (some ⟨g2, O2, none⟩) L2 c2 := by rw [hLe]; rfl
  have vv1 : vals LL 1 = .int .i64 (J : Nat) := by rw [hLe]; rfl
  have vv2 : vals LL 2 = .pointer (some ⟨g2, O2 + J, none⟩) := by rw [hLe]; rfl
  have vv3 : vals LL 3 = .string (bas nj) := by rw [hLe]; rfl
  have vv4 : vals LL 4 = .slice (some ⟨g2, O2, none⟩) L2 c2 := by rw [hLe]; rfl
  have vv5 : vals LL 5 = .int .i64 (K : Nat) := by rw [hLe]; rfl
  have vv6 : vals LL 6 = .pointer (some ⟨g2, O2 + K, none⟩) := by rw [hLe]; rfl
  have vv7 : vals LL 7 = .string (bas ni) := by rw [hLe]; rfl
  have vv8 : vals LL 8 = .bool true := by rw [hLe]; rfl
  have vv9 : vals LL 9 = .bool true := by rw [hLe]; rfl
  have vv10 : vals LL 10 = .slice (some ⟨g1, O1, none⟩) L1 c1 := by rw [hLe]; rfl
  have vv11 : vals LL 11 = .int .i64 (J : Nat) := by rw [hLe]; rfl
  have vv12 : vals LL 12 = .pointer (some ⟨g1, O1 + J * 2, none⟩) := by rw [hLe]; rfl
  have vv13 : vals LL 13 = .agg #[.int .i64 t, .int .i64 u] := by rw [hLe]; rfl
  have vv14 : vals LL 14 = .slice (some ⟨g1, O1, none⟩) L1 c1 := by rw [hLe]; rfl
  have vv15 : vals LL 15 = .int .i64 (K : Nat) := by rw [hLe]; rfl
  have vv16 : vals LL 16 = .pointer (some ⟨g1, O1 + K * 2, none⟩) := by rw [hLe]; rfl
  have vv17 : vals LL 17 = .agg #[.int .i64 t', .int .i64 u'] := by rw [hLe]; rfl
  have vv18 : vals LL 18 = .bool false := by rw [hLe]; rfl
  have vv19 : vals LL 19 = .bool false := by rw [hLe]; rfl
  have vv20 : vals LL 20 = .int .i64 (J : Nat) := by rw [hLe]; rfl
  have vv21 : vals LL 21 = .int .i64 (K : Nat) := by rw [hLe]; rfl
  have vv22 : vals LL 22 = .bool true := by rw [hLe]; rfl
  have vv23 : vals LL 23 = .bool true := by rw [hLe]; rfl
  have vv24 : vals LL 24 = .slice (some ⟨g1, O1, none⟩) L1 c1 := by rw [hLe]; rfl
  have vv25 : vals LL 25 = .int .i64 (J : Nat) := by rw [hLe]; rfl
  have vv26 : vals LL 26 = .pointer (some ⟨g1, O1 + J * 2, none⟩) := by rw [hLe]; rfl
  have vv27 : vals LL 27 = .agg #[.int .i64 t, .int .i64 u] := by rw [hLe]; rfl
  have vv28 : vals LL 28 = .slice (some ⟨g1, O1, none⟩) L1 c1 := by rw [hLe]; rfl
  have vv29 : vals LL 29 = .int .i64 (K : Nat) := by rw [hLe]; rfl
  have vv30 : vals LL 30 = .pointer (some ⟨g1, O1 + K * 2, none⟩) := by rw [hLe]; rfl
  have vv31 : vals LL 31 = .agg #[.int .i64 t', .int .i64 u'] := by rw [hLe]; rfl
  have vv32 : vals LL 32 = .bool true := by rw [hLe]; rfl
  have vv33 : vals LL 33 = .bool true := by rw [hLe]; rfl
  have vv34 : vals LL 34 = .bool true := by rw [hLe]; rfl
  have vv35 : vals LL 35 = .bool true := by rw [hLe]; rfl
  refine region_laid hmix (by kernel_rfl) 83 hsz (by kernel_rfl) LL (by rw [hLe]; rfl) (fun _ W => Below w9.heap.size w9 W) below9 ?_ ?_
  · intro b W i o a hS hcl ho hb hd ev kp yl
    match i with
    | 0 =>
      simp only [List.getElem?_toArray, List.getElem?_cons_zero, Option.some.injEq] at ho
      subst ho
      have e1 : a.tmps[1]?.getD undef = .slice (some ⟨g2, O2, none⟩) L2 c2 := (kp 1 (by kernel_rfl)).trans b1
      rw [vv0]
      refine does_value rfl (by intro c h; cases h) (w' := W) ?_ (hS)
      · simp [execOp, go_sem, e1]
    | 1 =>
      simp only [List.getElem?_toArray, List.getElem?_cons_zero, List.getElem?_cons_succ, Option.some.injEq] at ho
      subst ho
      have e9 : a.tmps[9]?.getD undef = .int .i64 (J : Nat) := (kp 9 (by kernel_rfl)).trans b9
      rw [vv1]
      refine does_value rfl (by intro c h; cases h) (w' := W) ?_ (hS)
      · simp [execOp, go_sem, e9]
    | 2 =>
      simp only [List.getElem?_toArray, List.getElem?_cons_zero, List.getElem?_cons_succ, Option.some.injEq] at ho
      subst ho
      have p0 : b 0 = true := hd ⟨0, .data⟩ (by simp) rfl
      have p1 : b 1 = true := hd ⟨1, .data⟩ (by simp) rfl
      have e32 := (ev 0 32 rfl p0).trans vv0
      have e33 := (ev 1 33 rfl p1).trans vv1
      rw [vv2]
      refine does_value rfl (by intro c h; cases h) (w' := W) ?_ (hS)
      · simp [execOp, go_sem, e32, e33, hj2]
    | 3 =>
      simp only [List.getElem?_toArray, List.getElem?_cons_zero, List.getElem?_cons_succ, Option.some.injEq] at ho
      subst ho
      have p2 : b 2 = true := hd ⟨2, .data⟩ (by simp) rfl
      have e34 := (ev 2 34 rfl p2).trans vv2
      have d9_0 := (hS.cell (p := ⟨g2, O2 + J, none⟩) (cell_lt hn1)).trans hn1
      rw [vv3]
      refine does_value rfl (by intro c h; cases h) (w' := W) ?_ (hS)
      · simp [execOp, go_sem, e34, d9_0]
    | 4 =>
      simp only [List.getElem?_toArray, List.getElem?_cons_zero, List.getElem?_cons_succ, Option.some.injEq] at ho
      subst ho
      have e1 : a.tmps[1]?.getD undef = .slice (some ⟨g2, O2, none⟩) L2 c2 := (kp 1 (by kernel_rfl)).trans b1
      rw [vv4]
      refine does_value rfl (by intro c h; cases h) (w' := W) ?_ (hS)
      · simp [execOp, go_sem, e1]
    | 5 =>
      simp only [List.getElem?_toArray, List.getElem?_cons_zero, List.getElem?_cons_succ, Option.some.injEq] at ho
      subst ho
      have e7 : a.tmps[7]?.getD undef = .int .i64 (K : Nat) := (kp 7 (by kernel_rfl)).trans b7
      rw [vv5]
      refine does_value rfl (by intro c h; cases h) (w' := W) ?_ (hS)
      · simp [execOp, go_sem, e7]
    | 6 =>
      simp only [List.getElem?_toArray, List.getElem?_cons_zero, List.getElem?_cons_succ, Option.some.injEq] at ho
      subst ho
      have p4 : b 4 = true := hd ⟨4, .data⟩ (by simp) rfl
      have p5 : b 5 = true := hd ⟨5, .data⟩ (by simp) rfl
      have e36 := (ev 4 36 rfl p4).trans vv4
      have e37 := (ev 5 37 rfl p5).trans vv5
      rw [vv6]
      refine does_value rfl (by intro c h; cases h) (w' := W) ?_ (hS)
      · simp [execOp, go_sem, e36, e37, hk2]
    | 7 =>
      simp only [List.getElem?_toArray, List.getElem?_cons_zero, List.getElem?_cons_succ, Option.some.injEq] at ho
      subst ho
      have p6 : b 6 = true := hd ⟨6, .data⟩ (by simp) rfl
      have e38 := (ev 6 38 rfl p6).trans vv6
      have d9_0 := (hS.cell (p := ⟨g2, O2 + K, none⟩) (cell_lt hn2)).trans hn2
      rw [vv7]
      refine does_value rfl (by intro c h; cases h) (w' := W) ?_ (hS)
      · simp [execOp, go_sem, e38, d9_0]
    | 8 =>
      simp only [List.getElem?_toArray, List.getElem?_cons_zero, List.getElem?_cons_succ, Option.some.injEq] at ho
      subst ho
      have p3 : b 3 = true := hd ⟨3, .data⟩ (by simp) rfl
      have p7 : b 7 = true := hd ⟨7, .data⟩ (by simp) rfl
      have e35 := (ev 3 35 rfl p3).trans vv3
      have e39 := (ev 7 39 rfl p7).trans vv7
      rw [vv8]
      refine does_value rfl (by intro c h; cases h) (w' := W) ?_ (hS)
      · simp [execOp, go_sem, e35, e39, hq]
    | 9 =>
      simp only [List.getElem?_toArray, List.getElem?_cons_zero, List.getElem?_cons_succ, Option.some.injEq] at ho
      subst ho
      have p8 : b 8 = true := hd ⟨8, .data⟩ (by simp) rfl
      have e40 := (ev 8 40 rfl p8).trans vv8
      rw [vv9]
      refine does_value rfl (by intro c h; cases h) (w' := W) ?_ (hS)
      · simp [execOp, go_sem, e40]
    | 10 =>
      simp only [List.getElem?_toArray, List.getElem?_cons_zero, List.getElem?_cons_succ, Option.some.injEq] at ho
      subst ho
      have p9 : b 9 = true := hd ⟨9, .guard⟩ (by simp) rfl
      have e0 : a.tmps[0]?.getD undef = .slice (some ⟨g1, O1, none⟩) L1 c1 := (kp 0 (by kernel_rfl)).trans b0
      rw [vv10]
      refine does_value_g rfl (yl 9 41 true rfl p9 vv9) (by intro c h; cases h) (w' := W) ?_ (hS)
      · simp [execOp, go_sem, e0]
    | 11 =>
      simp only [List.getElem?_toArray, List.getElem?_cons_zero, List.getElem?_cons_succ, Option.some.injEq] at ho
      subst ho
      have p9 : b 9 = true := hd ⟨9, .guard⟩ (by simp) rfl
      have e9 : a.tmps[9]?.getD undef = .int .i64 (J : Nat) := (kp 9 (by kernel_rfl)).trans b9
      rw [vv11]
      refine does_value_g rfl (yl 9 41 true rfl p9 vv9) (by intro c h; cases h) (w' := W) ?_ (hS)
      · simp [execOp, go_sem, e9]
    | 12 =>
      simp only [List.getElem?_toArray, List.getElem?_cons_zero, List.getElem?_cons_succ, Option.some.injEq] at ho
      subst ho
      have p10 : b 10 = true := hd ⟨10, .data⟩ (by simp) rfl
      have p11 : b 11 = true := hd ⟨11, .data⟩ (by simp) rfl
      have p9 : b 9 = true := hd ⟨9, .guard⟩ (by simp) rfl
      have e42 := (ev 10 42 rfl p10).trans vv10
      have e43 := (ev 11 43 rfl p11).trans vv11
      rw [vv12]
      refine does_value_g rfl (yl 9 41 true rfl p9 vv9) (by intro c h; cases h) (w' := W) ?_ (hS)
      · simp [execOp, go_sem, e42, e43, hj1]
    | 13 =>
      simp only [List.getElem?_toArray, List.getElem?_cons_zero, List.getElem?_cons_succ, Option.some.injEq] at ho
      subst ho
      have p12 : b 12 = true := hd ⟨12, .data⟩ (by simp) rfl
      have p9 : b 9 = true := hd ⟨9, .guard⟩ (by simp) rfl
      have e44 := (ev 12 44 rfl p12).trans vv12
      have d9_0 := (hS.cell (p := ⟨g1, O1 + J * 2, none⟩) (cell_lt hx0)).trans hx0
      have d9_1 := (hS.cell (p := ⟨g1, O1 + J * 2 + 1, none⟩) (cell_lt hx1)).trans hx1
      rw [vv13]
      refine does_value_g rfl (yl 9 41 true rfl p9 vv9) (by intro c h; cases h) (w' := W) ?_ (hS)
      · simp [execOp, go_sem, e44, d9_0, d9_1]
    | 14 =>
      simp only [List.getElem?_toArray, List.getElem?_cons_zero, List.getElem?_cons_succ, Option.some.injEq] at ho
      subst ho
      have p9 : b 9 = true := hd ⟨9, .guard⟩ (by simp) rfl
      have e0 : a.tmps[0]?.getD undef = .slice (some ⟨g1, O1, none⟩) L1 c1 := (kp 0 (by kernel_rfl)).trans b0
      rw [vv14]
      refine does_value_g rfl (yl 9 41 true rfl p9 vv9) (by intro c h; cases h) (w' := W) ?_ (hS)
      · simp [execOp, go_sem, e0]
    | 15 =>
      simp only [List.getElem?_toArray, List.getElem?_cons_zero, List.getElem?_cons_succ, Option.some.injEq] at ho
      subst ho
      have p9 : b 9 = true := hd ⟨9, .guard⟩ (by simp) rfl
      have e7 : a.tmps[7]?.getD undef = .int .i64 (K : Nat) := (kp 7 (by kernel_rfl)).trans b7
      rw [vv15]
      refine does_value_g rfl (yl 9 41 true rfl p9 vv9) (by intro c h; cases h) (w' := W) ?_ (hS)
      · simp [execOp, go_sem, e7]
    | 16 =>
      simp only [List.getElem?_toArray, List.getElem?_cons_zero, List.getElem?_cons_succ, Option.some.injEq] at ho
      subst ho
      have p14 : b 14 = true := hd ⟨14, .data⟩ (by simp) rfl
      have p15 : b 15 = true := hd ⟨15, .data⟩ (by simp) rfl
      have p9 : b 9 = true := hd ⟨9, .guard⟩ (by simp) rfl
      have e46 := (ev 14 46 rfl p14).trans vv14
      have e47 := (ev 15 47 rfl p15).trans vv15
      rw [vv16]
      refine does_value_g rfl (yl 9 41 true rfl p9 vv9) (by intro c h; cases h) (w' := W) ?_ (hS)
      · simp [execOp, go_sem, e46, e47, hk1]
    | 17 =>
      simp only [List.getElem?_toArray, List.getElem?_cons_zero, List.getElem?_cons_succ, Option.some.injEq] at ho
      subst ho
      have p16 : b 16 = true := hd ⟨16, .data⟩ (by simp) rfl
      have p9 : b 9 = true := hd ⟨9, .guard⟩ (by simp) rfl
      have e48 := (ev 16 48 rfl p16).trans vv16
      have d9_0 := (hS.cell (p := ⟨g1, O1 + K * 2, none⟩) (cell_lt hy0)).trans hy0
      have d9_1 := (hS.cell (p := ⟨g1, O1 + K * 2 + 1, none⟩) (cell_lt hy1)).trans hy1
      rw [vv17]
      refine does_value_g rfl (yl 9 41 true rfl p9 vv9) (by intro c h; cases h) (w' := W) ?_ (hS)
      · simp [execOp, go_sem, e48, d9_0, d9_1]
    | 18 =>
      simp only [List.getElem?_toArray, List.getElem?_cons_zero, List.getElem?_cons_succ, Option.some.injEq] at ho
      subst ho
      have p13 : b 13 = true := hd ⟨13, .data⟩ (by simp) rfl
      have p17 : b 17 = true := hd ⟨17, .data⟩ (by simp) rfl
      have p9 : b 9 = true := hd ⟨9, .guard⟩ (by simp) rfl
      have e45 := (ev 13 45 rfl p13).trans vv13
      have e49 := (ev 17 49 rfl p17).trans vv17
      rw [vv18]
      refine does_call_g rfl (yl 9 41 true rfl p9 vv9) (by intro c h; cases h) (f := 17) (args := #[.agg #[.int .i64 t, .int .i64 u], .agg #[.int .i64 t', .int .i64 u']]) ?_ ?_
      · simp [go_sem, e45, e49]
      · exact (cB W hS).mono (fun e w' h => ⟨h.1, hS.trans (h.2.mono hS.size)⟩)
    | 19 =>
      simp only [List.getElem?_toArray, List.getElem?_cons_zero, List.getElem?_cons_succ, Option.some.injEq] at ho
      subst ho
      have p18 : b 18 = true := hd ⟨18, .data⟩ (by simp) rfl
      have p9 : b 9 = true := hd ⟨9, .guard⟩ (by simp) rfl
      have e50 := (ev 18 50 rfl p18).trans vv18
      rw [vv19]
      refine does_value_g rfl (yl 9 41 true rfl p9 vv9) (by intro c h; cases h) (w' := W) ?_ (hS)
      · simp [execOp, go_sem, e50]
    | 20 =>
      simp only [List.getElem?_toArray, List.getElem?_cons_zero, List.getElem?_cons_succ, Option.some.injEq] at ho
      subst ho
      have p19 : b 19 = true := hd ⟨19, .guard⟩ (by simp) rfl
      have e9 : a.tmps[9]?.getD undef = .int .i64 (J : Nat) := (kp 9 (by kernel_rfl)).trans b9
      rw [vv20]
      refine does_value_g rfl (yl 19 51 false rfl p19 vv19) (by intro c h; cases h) (w' := W) ?_ (hS)
      · simp [execOp, go_sem, e9]
    | 21 =>
      simp only [List.getElem?_toArray, List.getElem?_cons_zero, List.getElem?_cons_succ, Option.some.injEq] at ho
      subst ho
      have p19 : b 19 = true := hd ⟨19, .guard⟩ (by simp) rfl
      have e7 : a.tmps[7]?.getD undef = .int .i64 (K : Nat) := (kp 7 (by kernel_rfl)).trans b7
      rw [vv21]
      refine does_value_g rfl (yl 19 51 false rfl p19 vv19) (by intro c h; cases h) (w' := W) ?_ (hS)
      · simp [execOp, go_sem, e7]
    | 22 =>
      simp only [List.getElem?_toArray, List.getElem?_cons_zero, List.getElem?_cons_succ, Option.some.injEq] at ho
      subst ho
      have p20 : b 20 = true := hd ⟨20, .data⟩ (by simp) rfl
      have p21 : b 21 = true := hd ⟨21, .data⟩ (by simp) rfl
      have p19 : b 19 = true := hd ⟨19, .guard⟩ (by simp) rfl
      have e52 := (ev 20 52 rfl p20).trans vv20
      have e53 := (ev 21 53 rfl p21).trans vv21
      rw [vv22]
      refine does_value_g rfl (yl 19 51 false rfl p19 vv19) (by intro c h; cases h) (w' := W) ?_ (hS)
      · simp [execOp, go_sem, e52, e53, hC]
    | 23 =>
      simp only [List.getElem?_toArray, List.getElem?_cons_zero, List.getElem?_cons_succ, Option.some.injEq] at ho
      subst ho
      have p22 : b 22 = true := hd ⟨22, .data⟩ (by simp) rfl
      have p19 : b 19 = true := hd ⟨19, .guard⟩ (by simp) rfl
      have e54 := (ev 22 54 rfl p22).trans vv22
      rw [vv23]
      refine does_value_g rfl (yl 19 51 false rfl p19 vv19) (by intro c h; cases h) (w' := W) ?_ (hS)
      · simp [execOp, go_sem, e54]
    | 24 =>
      simp only [List.getElem?_toArray, List.getElem?_cons_zero, List.getElem?_cons_succ, Option.some.injEq] at ho
      subst ho
      have p23 : b 23 = true := hd ⟨23, .guard⟩ (by simp) rfl
      have e0 : a.tmps[0]?.getD undef = .slice (some ⟨g1, O1, none⟩) L1 c1 := (kp 0 (by kernel_rfl)).trans b0
      rw [vv24]
      refine does_value_g rfl (yl 23 55 true rfl p23 vv23) (by intro c h; cases h) (w' := W) ?_ (hS)
      · simp [execOp, go_sem, e0]
    | 25 =>
      simp only [List.getElem?_toArray, List.getElem?_cons_zero, List.getElem?_cons_succ, Option.some.injEq] at ho
      subst ho
      have p23 : b 23 = true := hd ⟨23, .guard⟩ (by simp) rfl
      have e9 : a.tmps[9]?.getD undef = .int .i64 (J : Nat) := (kp 9 (by kernel_rfl)).trans b9
      rw [vv25]
      refine does_value_g rfl (yl 23 55 true rfl p23 vv23) (by intro c h; cases h) (w' := W) ?_ (hS)
      · simp [execOp, go_sem, e9]
    | 26 =>
      simp only [List.getElem?_toArray, List.getElem?_cons_zero, List.getElem?_cons_succ, Option.some.injEq] at ho
      subst ho
      have p24 : b 24 = true := hd ⟨24, .data⟩ (by simp) rfl
      have p25 : b 25 = true := hd ⟨25, .data⟩ (by simp) rfl
      have p23 : b 23 = true := hd ⟨23, .guard⟩ (by simp) rfl
      have e56 := (ev 24 56 rfl p24).trans vv24
      have e57 := (ev 25 57 rfl p25).trans vv25
      rw [vv26]
      refine does_value_g rfl (yl 23 55 true rfl p23 vv23) (by intro c h; cases h) (w' := W) ?_ (hS)
      · simp [execOp, go_sem, e56, e57, hj1]
    | 27 =>
      simp only [List.getElem?_toArray, List.getElem?_cons_zero, List.getElem?_cons_succ, Option.some.injEq] at ho
      subst ho
      have p26 : b 26 = true := hd ⟨26, .data⟩ (by simp) rfl
      have p23 : b 23 = true := hd ⟨23, .guard⟩ (by simp) rfl
      have e58 := (ev 26 58 rfl p26).trans vv26
      have d9_0 := (hS.cell (p := ⟨g1, O1 + J * 2, none⟩) (cell_lt hx0)).trans hx0
      have d9_1 := (hS.cell (p := ⟨g1, O1 + J * 2 + 1, none⟩) (cell_lt hx1)).trans hx1
      rw [vv27]
      refine does_value_g rfl (yl 23 55 true rfl p23 vv23) (by intro c h; cases h) (w' := W) ?_ (hS)
      · simp [execOp, go_sem, e58, d9_0, d9_1]
    | 28 =>
      simp only [List.getElem?_toArray, List.getElem?_cons_zero, List.getElem?_cons_succ, Option.some.injEq] at ho
      subst ho
      have p23 : b 23 = true := hd ⟨23, .guard⟩ (by simp) rfl
      have e0 : a.tmps[0]?.getD undef = .slice (some ⟨g1, O1, none⟩) L1 c1 := (kp 0 (by kernel_rfl)).trans b0
      rw [vv28]
      refine does_value_g rfl (yl 23 55 true rfl p23 vv23) (by intro c h; cases h) (w' := W) ?_ (hS)
      · simp [execOp, go_sem, e0]
    | 29 =>
      simp only [List.getElem?_toArray, List.getElem?_cons_zero, List.getElem?_cons_succ, Option.some.injEq] at ho
      subst ho
      have p23 : b 23 = true := hd ⟨23, .guard⟩ (by simp) rfl
      have e7 : a.tmps[7]?.getD undef = .int .i64 (K : Nat) := (kp 7 (by kernel_rfl)).trans b7
      rw [vv29]
      refine does_value_g rfl (yl 23 55 true rfl p23 vv23) (by intro c h; cases h) (w' := W) ?_ (hS)
      · simp [execOp, go_sem, e7]
    | 30 =>
      simp only [List.getElem?_toArray, List.getElem?_cons_zero, List.getElem?_cons_succ, Option.some.injEq] at ho
      subst ho
      have p28 : b 28 = true := hd ⟨28, .data⟩ (by simp) rfl
      have p29 : b 29 = true := hd ⟨29, .data⟩ (by simp) rfl
      have p23 : b 23 = true := hd ⟨23, .guard⟩ (by simp) rfl
      have e60 := (ev 28 60 rfl p28).trans vv28
      have e61 := (ev 29 61 rfl p29).trans vv29
      rw [vv30]
      refine does_value_g rfl (yl 23 55 true rfl p23 vv23) (by intro c h; cases h) (w' := W) ?_ (hS)
      · simp [execOp, go_sem, e60, e61, hk1]
    | 31 =>
      simp only [List.getElem?_toArray, List.getElem?_cons_zero, List.getElem?_cons_succ, Option.some.injEq] at ho
      subst ho
      have p30 : b 30 = true := hd ⟨30, .data⟩ (by simp) rfl
      have p23 : b 23 = true := hd ⟨23, .guard⟩ (by simp) rfl
      have e62 := (ev 30 62 rfl p30).trans vv30
      have d9_0 := (hS.cell (p := ⟨g1, O1 + K * 2, none⟩) (cell_lt hy0)).trans hy0
      have d9_1 := (hS.cell (p := ⟨g1, O1 + K * 2 + 1, none⟩) (cell_lt hy1)).trans hy1
      rw [vv31]
      refine does_value_g rfl (yl 23 55 true rfl p23 vv23) (by intro c h; cases h) (w' := W) ?_ (hS)
      · simp [execOp, go_sem, e62, d9_0, d9_1]
    | 32 =>
      simp only [List.getElem?_toArray, List.getElem?_cons_zero, List.getElem?_cons_succ, Option.some.injEq] at ho
      subst ho
      have p27 : b 27 = true := hd ⟨27, .data⟩ (by simp) rfl
      have p31 : b 31 = true := hd ⟨31, .data⟩ (by simp) rfl
      have p23 : b 23 = true := hd ⟨23, .guard⟩ (by simp) rfl
      have e59 := (ev 27 59 rfl p27).trans vv27
      have e63 := (ev 31 63 rfl p31).trans vv31
      rw [vv32]
      refine does_call_g rfl (yl 23 55 true rfl p23 vv23) (by intro c h; cases h) (f := 12) (args := #[.agg #[.int .i64 t, .int .i64 u], .agg #[.int .i64 t', .int .i64 u']]) ?_ ?_
      · simp [go_sem, e59, e63]
      · exact (cD W hS).mono (fun e w' h => ⟨h.1, hS.trans (h.2.mono hS.size)⟩)
    | 33 =>
      simp only [List.getElem?_toArray, List.getElem?_cons_zero, List.getElem?_cons_succ, Option.some.injEq] at ho
      subst ho
      have p23 : b 23 = true := hd ⟨23, .data⟩ (by simp) rfl
      have p32 : b 32 = true := hd ⟨32, .data⟩ (by simp) rfl
      have p19 : b 19 = true := hd ⟨19, .guard⟩ (by simp) rfl
      have e55 := (ev 23 55 rfl p23).trans vv23
      have e64 := (ev 32 64 rfl p32).trans vv32
      rw [vv33]
      refine does_value_g rfl (yl 19 51 false rfl p19 vv19) (by intro c h; cases h) (w' := W) ?_ (hS)
      · simp [execOp, go_sem, e55, e64]
    | 34 =>
      simp only [List.getElem?_toArray, List.getElem?_cons_zero, List.getElem?_cons_succ, Option.some.injEq] at ho
      subst ho
      have p19 : b 19 = true := hd ⟨19, .data⟩ (by simp) rfl
      have p33 : b 33 = true := hd ⟨33, .data⟩ (by simp) rfl
      have p9 : b 9 = true := hd ⟨9, .guard⟩ (by simp) rfl
      have e51 := (ev 19 51 rfl p19).trans vv19
      have e65 := (ev 33 65 rfl p33).trans vv33
      rw [vv34]
      refine does_value_g rfl (yl 9 41 true rfl p9 vv9) (by intro c h; cases h) (w' := W) ?_ (hS)
      · simp [execOp, go_sem, e51, e65]
    | 35 =>
      simp only [List.getElem?_toArray, List.getElem?_cons_zero, List.getElem?_cons_succ, Option.some.injEq] at ho
      subst ho
      have p9 : b 9 = true := hd ⟨9, .data⟩ (by simp) rfl
      have p34 : b 34 = true := hd ⟨34, .data⟩ (by simp) rfl
      have e41 := (ev 9 41 rfl p9).trans vv9
      have e66 := (ev 34 66 rfl p34).trans vv34
      rw [vv35]
      refine does_value rfl (by intro c h; cases h) (w' := W) ?_ (hS)
      · simp [execOp, go_sem, e41, e66]
    | k + 36 => simp at ho
  · intro b' W hS _
    subst hLe
    exact hQ W hS

set_option maxRecDepth 8000 in
set_option maxHeartbeats 4000000 in
theorem rs12_nd {Q : Exit → Act → World → Prop} {base : Array Value} {dd : List Deferred} {ops : Array Oper} (hops : Tryd.f9.body.bind (regs 12) = some ops) (g1 g2 O1 O2 L1 L2 c1 c2 J K : Nat) (nj ni : List UInt8) (t u t' u' : Int) (w9 : World) (hsz : base.size = 83)
    (b0 : base.getD 0 undef = .slice (some ⟨g1, O1, none⟩) L1 c1)
    (b1 : base.getD 1 undef = .slice (some ⟨g2, O2, none⟩) L2 c2)
    (b7 : base.getD 7 undef = .int .i64 (K : Nat))
    (b9 : base.getD 9 undef = .int .i64 (J : Nat))
    (hj1 : J < L1) (hk1 : K < L1) (hj2 : J < L2) (hk2 : K < L2)
    (hn1 : w9.cell? ⟨g2, O2 + J, none⟩ = some (.string (bas nj))) (hn2 : w9.cell? ⟨g2, O2 + K, none⟩ = some (.string (bas ni)))
    (hq : ((bas nj).toList == (bas ni).toList) = true)
    (hx0 : w9.cell? ⟨g1, O1 + J * 2, none⟩ = some (.int .i64 t)) (hx1 : w9.cell? ⟨g1, O1 + J * 2 + 1, none⟩ = some (.int .i64 u)) (hy0 : w9.cell? ⟨g1, O1 + K * 2, none⟩ = some (.int .i64 t')) (hy1 : w9.cell? ⟨g1, O1 + K * 2 + 1, none⟩ = some (.int .i64 u'))
    (cB : ∀ W, Below w9.heap.size w9 W → Calls Tryd.prog 17 #[idv t u, idv t' u'] W fun e w' => e = .returned (.bool false) ∧ Below W.heap.size W w')
    (hC : J < K)
    (cD : ∀ W, Below w9.heap.size w9 W → Calls Tryd.prog 12 #[idv t u, idv t' u'] W fun e w' => e = .returned (.bool false) ∧ Below W.heap.size W w')
    (hQ : ∀ W, Below w9.heap.size w9 W → Q .normal ⟨putAll base [(some 32, .slice (some ⟨g2, O2, none⟩) L2 c2), (some 33, .int .i64 (J : Nat)), (some 34, .pointer (some ⟨g2, O2 + J, none⟩)), (some 35, .string (bas nj)), (some 36, .slice (some ⟨g2, O2, none⟩) L2 c2), (some 37, .int .i64 (K : Nat)), (some 38, .pointer (some ⟨g2, O2 + K, none⟩)), (some 39, .string (bas ni)), (some 40, .bool true), (some 41, .bool true), (some 42, .slice (some ⟨g1, O1, none⟩) L1 c1), (some 43, .int .i64 (J : Nat)), (some 44, .pointer (some ⟨g1, O1 + J * 2, none⟩)), (some 45, .agg #[.int .i64 t, .int .i64 u]), (some 46, .slice (some ⟨g1, O1, none⟩) L1 c1), (some 47, .int .i64 (K : Nat)), (some 48, .pointer (some ⟨g1, O1 + K * 2, none⟩)), (some 49, .agg #[.int .i64 t', .int .i64 u']), (some 50, .bool false), (some 51, .bool false), (some 52, .int .i64 (J : Nat)), (some 53, .int .i64 (K : Nat)), (some 54, .bool true), (some 55, .bool true), (some 56, .slice (some ⟨g1, O1, none⟩) L1 c1), (some 57, .int .i64 (J : Nat)), (some 58, .pointer (some ⟨g1, O1 + J * 2, none⟩)), (some 59, .agg #[.int .i64 t, .int .i64 u]), (some 60, .slice (some ⟨g1, O1, none⟩) L1 c1), (some 61, .int .i64 (K : Nat)), (some 62, .pointer (some ⟨g1, O1 + K * 2, none⟩)), (some 63, .agg #[.int .i64 t', .int .i64 u']), (some 64, .bool false), (some 65, .bool false), (some 66, .bool false), (some 67, .bool false)], dd⟩ W) :
    (Code.region 12 ops true).wp Tryd.prog Q ⟨base, dd⟩ w9 := by
  have hmix : Tryd.prog.follows .mixedOrders = true := by kernel_rfl
  have h2 := (show Tryd.f9.body.bind (regs 12) = some _ from rfl).symm.trans hops
  obtain rfl := Option.some.inj h2
  clear h2 hops
  have below9 : Below w9.heap.size w9 w9.drew := (Below.refl _ _).drew
  obtain ⟨LL, hLe⟩ : ∃ LL : List (Option Tmp × Value), LL = [(some 32, .slice (some ⟨g2, O2, none⟩) L2 c2), (some 33, .int .i64 (J : Nat)), (some 34, .pointer (some ⟨g2, O2 + J, none⟩)), (some 35, .string (bas nj)), (some 36, .slice (some ⟨g2, O2, none⟩) L2 c2), (some 37, .int .i64 (K : Nat)), (some 38, .pointer (some ⟨g2, O2 + K, none⟩)), (some 39, .string (bas ni)), (some 40, .bool true), (some 41, .bool true), (some 42, .slice (some ⟨g1, O1, none⟩) L1 c1), (some 43, .int .i64 (J : Nat)), (some 44, .pointer (some ⟨g1, O1 + J * 2, none⟩)), (some 45, .agg #[.int .i64 t, .int .i64 u]), (some 46, .slice (some ⟨g1, O1, none⟩) L1 c1), (some 47, .int .i64 (K : Nat)), (some 48, .pointer (some ⟨g1, O1 + K * 2, none⟩)), (some 49, .agg #[.int .i64 t', .int .i64 u']), (some 50, .bool false), (some 51, .bool false), (some 52, .int .i64 (J : Nat)), (some 53, .int .i64 (K : Nat)), (some 54, .bool true), (some 55, .bool true), (some 56, .slice (some ⟨g1, O1, none⟩) L1 c1), (some 57, .int .i64 (J : Nat)), (some 58, .pointer (some ⟨g1, O1 + J * 2, none⟩)), (some 59, .agg #[.int .i64 t, .int .i64 u]), (some 60, .slice (some ⟨g1, O1, none⟩) L1 c1), (some 61, .int .i64 (K : Nat)), (some 62, .pointer (some ⟨g1, O1 + K * 2, none⟩)), (some 63, .agg #[.int .i64 t', .int .i64 u']), (some 64, .bool false), (some 65, .bool false), (some 66, .bool false), (some 67, .bool false)] := ⟨_, rfl⟩
  have vv0 : vals LL 0 = .slice (some ⟨g2, O2, none⟩) L2 c2 := by rw [hLe]; rfl
  have vv1 : vals LL 1 = .int .i64 (J : Nat) := by rw [hLe]; rfl
  have vv2 : vals LL 2 = .pointer (some ⟨g2, O2 + J, none⟩) := by rw [hLe]; rfl
  have vv3 : vals LL 3 = .string (bas nj) := by rw [hLe]; rfl
  have vv4 : vals LL 4 = .slice (some ⟨g2, O2, none⟩) L2 c2 := by rw [hLe]; rfl
  have vv5 : vals LL 5 = .int .i64 (K : Nat) := by rw [hLe]; rfl
  have vv6 : vals LL 6 = .pointer (some ⟨g2, O2 + K, none⟩) := by rw [hLe]; rfl
  have vv7 : vals LL 7 = .string (bas ni) := by rw [hLe]; rfl
  have vv8 : vals LL 8 = .bool true := by rw [hLe]; rfl
  have vv9 : vals LL 9 = .bool true := by rw [hLe]; rfl
  have vv10 : vals LL 10 = .slice (some ⟨g1, O1, none⟩) L1 c1 := by rw [hLe]; rfl
  have vv11 : vals LL 11 = .int .i64 (J : Nat) := by rw [hLe]; rfl
  have vv12 : vals LL 12 = .pointer (some ⟨g1, O1 + J * 2, none⟩) := by rw [hLe]; rfl
  have vv13 : vals LL 13 = .agg #[.int .i64 t, .int .i64 u] := by rw [hLe]; rfl
  have vv14 : vals LL 14 = .slice (some ⟨g1, O1, none⟩) L1 c1 := by rw [hLe]; rfl
  have vv15 : vals LL 15 = .int .i64 (K : Nat) := by rw [hLe]; rfl
  have vv16 : vals LL 16 = .pointer (some ⟨g1, O1 + K * 2, none⟩) := by rw [hLe]; rfl
  have vv17 : vals LL 17 = .agg #[.int .i64 t', .int .i64 u'] := by rw [hLe]; rfl
  have vv18 : vals LL 18 = .bool false := by rw [hLe]; rfl
  have vv19 : vals LL 19 = .bool false := by rw [hLe]; rfl
  have vv20 : vals LL 20 = .int .i64 (J : Nat) := by rw [hLe]; rfl
  have vv21 : vals LL 21 = .int .i64 (K : Nat) := by rw [hLe]; rfl
  have vv22 : vals LL 22 = .bool true := by rw [hLe]; rfl
  have vv23 : vals LL 23 = .bool true := by rw [hLe]; rfl
  have vv24 : vals LL 24 = .slice (some ⟨g1, O1, none⟩) L1 c1 := by rw [hLe]; rfl
  have vv25 : vals LL 25 = .int .i64 (J : Nat) := by rw [hLe]; rfl
  have vv26 : vals LL 26 = .pointer (some ⟨g1, O1 + J * 2, none⟩) := by rw [hLe]; rfl
  have vv27 : vals LL 27 = .agg #[.int .i64 t, .int .i64 u] := by rw [hLe]; rfl
  have vv28 : vals LL 28 = .slice (some ⟨g1, O1, none⟩) L1 c1 := by rw [hLe]; rfl
  have vv29 : vals LL 29 = .int .i64 (K : Nat) := by rw [hLe]; rfl
  have vv30 : vals LL 30 = .pointer (some ⟨g1, O1 + K * 2, none⟩) := by rw [hLe]; rfl
  have vv31 : vals LL 31 = .agg #[.int .i64 t', .int .i64 u'] := by rw [hLe]; rfl
  have vv32 : vals LL 32 = .bool false := by rw [hLe]; rfl
  have vv33 : vals LL 33 = .bool false := by rw [hLe]; rfl
  have vv34 : vals LL 34 = .bool false := by rw [hLe]; rfl
  have vv35 : vals LL 35 = .bool false := by rw [hLe]; rfl
  refine region_laid hmix (by kernel_rfl) 83 hsz (by kernel_rfl) LL (by rw [hLe]; rfl) (fun _ W => Below w9.heap.size w9 W) below9 ?_ ?_
  · intro b W i o a hS hcl ho hb hd ev kp yl
    match i with
    | 0 =>
      simp only [List.getElem?_toArray, List.getElem?_cons_zero, Option.some.injEq] at ho
      subst ho
      have e1 : a.tmps[1]?.getD undef = .slice (some ⟨g2, O2, none⟩) L2 c2 := (kp 1 (by kernel_rfl)).trans b1
      rw [vv0]
      refine does_value rfl (by intro c h; cases h) (w' := W) ?_ (hS)
      · simp [execOp, go_sem, e1]
    | 1 =>
      simp only [List.getElem?_toArray, List.getElem?_cons_zero, List.getElem?_cons_succ, Option.some.injEq] at ho
      subst ho
      have e9 : a.tmps[9]?.getD undef = .int .i64 (J : Nat) := (kp 9 (by kernel_rfl)).trans b9
      rw [vv1]
      refine does_value rfl (by intro c h; cases h) (w' := W) ?_ (hS)
      · simp [execOp, go_sem, e9]
    | 2 =>
      simp only [List.getElem?_toArray, List.getElem?_cons_zero, List.getElem?_cons_succ, Option.some.injEq] at ho
      subst ho
      have p0 : b 0 = true := hd ⟨0, .data⟩ (by simp) rfl
      have p1 : b 1 = true := hd ⟨1, .data⟩ (by simp) rfl
      have e32 := (ev 0 32 rfl p0).trans vv0
      have e33 := (ev 1 33 rfl p1).trans vv1
      rw [vv2]
      refine does_value rfl (by intro c h; cases h) (w' := W) ?_ (hS)
      · simp [execOp, go_sem, e32, e33, hj2]
    | 3 =>
      simp only [List.getElem?_toArray, List.getElem?_cons_zero, List.getElem?_cons_succ, Option.some.injEq] at ho
      subst ho
      have p2 : b 2 = true := hd ⟨2, .data⟩ (by simp) rfl
      have e34 := (ev 2 34 rfl p2).trans vv2
      have d9_0 := (hS.cell (p := ⟨g2, O2 + J, none⟩) (cell_lt hn1)).trans hn1
      rw [vv3]
      refine does_value rfl (by intro c h; cases h) (w' := W) ?_ (hS)
      · simp [execOp, go_sem, e34, d9_0]
    | 4 =>
      simp only [List.getElem?_toArray, List.getElem?_cons_zero, List.getElem?_cons_succ, Option.some.injEq] at ho
      subst ho
      have e1 : a.tmps[1]?.getD undef = .slice (some ⟨g2, O2, none⟩) L2 c2 := (kp 1 (by kernel_rfl)).trans b1
      rw [vv4]
      refine does_value rfl (by intro c h; cases h) (w' := W) ?_ (hS)
      · simp [execOp, go_sem, e1]
    | 5 =>
      simp only [List.getElem?_toArray, List.getElem?_cons_zero, List.getElem?_cons_succ, Option.some.injEq] at ho
      subst ho
      have e7 : a.tmps[7]?.getD undef = .int .i64 (K : Nat) := (kp 7 (by kernel_rfl)).trans b7
      rw [vv5]
      refine does_value rfl (by intro c h; cases h) (w' := W) ?_ (hS)
      · simp [execOp, go_sem, e7]
    | 6 =>
      simp only [List.getElem?_toArray, List.getElem?_cons_zero, List.getElem?_cons_succ, Option.some.injEq] at ho
      subst ho
      have p4 : b 4 = true := hd ⟨4, .data⟩ (by simp) rfl
      have p5 : b 5 = true := hd ⟨5, .data⟩ (by simp) rfl
      have e36 := (ev 4 36 rfl p4).trans vv4
      have e37 := (ev 5 37 rfl p5).trans vv5
      rw [vv6]
      refine does_value rfl (by intro c h; cases h) (w' := W) ?_ (hS)
      · simp [execOp, go_sem, e36, e37, hk2]
    | 7 =>
      simp only [List.getElem?_toArray, List.getElem?_cons_zero, List.getElem?_cons_succ, Option.some.injEq] at ho
      subst ho
      have p6 : b 6 = true := hd ⟨6, .data⟩ (by simp) rfl
      have e38 := (ev 6 38 rfl p6).trans vv6
      have d9_0 := (hS.cell (p := ⟨g2, O2 + K, none⟩) (cell_lt hn2)).trans hn2
      rw [vv7]
      refine does_value rfl (by intro c h; cases h) (w' := W) ?_ (hS)
      · simp [execOp, go_sem, e38, d9_0]
    | 8 =>
      simp only [List.getElem?_toArray, List.getElem?_cons_zero, List.getElem?_cons_succ, Option.some.injEq] at ho
      subst ho
      have p3 : b 3 = true := hd ⟨3, .data⟩ (by simp) rfl
      have p7 : b 7 = true := hd ⟨7, .data⟩ (by simp) rfl
      have e35 := (ev 3 35 rfl p3).trans vv3
      have e39 := (ev 7 39 rfl p7).trans vv7
      rw [vv8]
      refine does_value rfl (by intro c h; cases h) (w' := W) ?_ (hS)
      · simp [execOp, go_sem, e35, e39, hq]
    | 9 =>
      simp only [List.getElem?_toArray, List.getElem?_cons_zero, List.getElem?_cons_succ, Option.some.injEq] at ho
      subst ho
      have p8 : b 8 = true := hd ⟨8, .data⟩ (by simp) rfl
      have e40 := (ev 8 40 rfl p8).trans vv8
      rw [vv9]
      refine does_value rfl (by intro c h; cases h) (w' := W) ?_ (hS)
      · simp [execOp, go_sem, e40]
    | 10 =>
      simp only [List.getElem?_toArray, List.getElem?_cons_zero, List.getElem?_cons_succ, Option.some.injEq] at ho
      subst ho
      have p9 : b 9 = true := hd ⟨9, .guard⟩ (by simp) rfl
      have e0 : a.tmps[0]?.getD undef = .slice (some ⟨g1, O1, none⟩) L1 c1 := (kp 0 (by kernel_rfl)).trans b0
      rw [vv10]
      refine does_value_g rfl (yl 9 41 true rfl p9 vv9) (by intro c h; cases h) (w' := W) ?_ (hS)
      · simp [execOp, go_sem, e0]
    | 11 =>
      simp only [List.getElem?_toArray, List.getElem?_cons_zero, List.getElem?_cons_succ, Option.some.injEq] at ho
      subst ho
      have p9 : b 9 = true := hd ⟨9, .guard⟩ (by simp) rfl
      have e9 : a.tmps[9]?.getD undef = .int .i64 (J : Nat) := (kp 9 (by kernel_rfl)).trans b9
      rw [vv11]
      refine does_value_g rfl (yl 9 41 true rfl p9 vv9) (by intro c h; cases h) (w' := W) ?_ (hS)
      · simp [execOp, go_sem, e9]
    | 12 =>
      simp only [List.getElem?_toArray, List.getElem?_cons_zero, List.getElem?_cons_succ, Option.some.injEq] at ho
      subst ho
      have p10 : b 10 = true := hd ⟨10, .data⟩ (by simp) rfl
      have p11 : b 11 = true := hd ⟨11, .data⟩ (by simp) rfl
      have p9 : b 9 = true := hd ⟨9, .guard⟩ (by simp) rfl
      have e42 := (ev 10 42 rfl p10).trans vv10
      have e43 := (ev 11 43 rfl p11).trans vv11
      rw [vv12]
      refine does_value_g rfl (yl 9 41 true rfl p9 vv9) (by intro c h; cases h) (w' := W) ?_ (hS)
      · simp [execOp, go_sem, e42, e43, hj1]
    | 13 =>
      simp only [List.getElem?_toArray, List.getElem?_cons_zero, List.getElem?_cons_succ, Option.some.injEq] at ho
      subst ho
      have p12 : b 12 = true := hd ⟨12, .data⟩ (by simp) rfl
      have p9 : b 9 = true := hd ⟨9, .guard⟩ (by simp) rfl
      have e44 := (ev 12 44 rfl p12).trans vv12
      have d9_0 := (hS.cell (p := ⟨g1, O1 + J * 2, none⟩) (cell_lt hx0)).trans hx0
      have d9_1 := (hS.cell (p := ⟨g1, O1 + J * 2 + 1, none⟩) (cell_lt hx1)).trans hx1
      rw [vv13]
      refine does_value_g rfl (yl 9 41 true rfl p9 vv9) (by intro c h; cases h) (w' := W) ?_ (hS)
      · simp [execOp, go_sem, e44, d9_0, d9_1]
    | 14 =>
      simp only [List.getElem?_toArray, List.getElem?_cons_zero, List.getElem?_cons_succ, Option.some.injEq] at ho
      subst ho
      have p9 : b 9 = true := hd ⟨9, .guard⟩ (by simp) rfl
      have e0 : a.tmps[0]?.getD undef = .slice (some ⟨g1, O1, none⟩) L1 c1 := (kp 0 (by kernel_rfl)).trans b0
      rw [vv14]
      refine does_value_g rfl (yl 9 41 true rfl p9 vv9) (by intro c h; cases h) (w' := W) ?_ (hS)
      · simp [execOp, go_sem, e0]
    | 15 =>
      simp only [List.getElem?_toArray, List.getElem?_cons_zero, List.getElem?_cons_succ, Option.some.injEq] at ho
      subst ho
      have p9 : b 9 = true := hd ⟨9, .guard⟩ (by simp) rfl
      have e7 : a.tmps[7]?.getD undef = .int .i64 (K : Nat) := (kp 7 (by kernel_rfl)).trans b7
      rw [vv15]
      refine does_value_g rfl (yl 9 41 true rfl p9 vv9) (by intro c h; cases h) (w' := W) ?_ (hS)
      · simp [execOp, go_sem, e7]
    | 16 =>
      simp only [List.getElem?_toArray, List.getElem?_cons_zero, List.getElem?_cons_succ, Option.some.injEq] at ho
      subst ho
      have p14 : b 14 = true := hd ⟨14, .data⟩ (by simp) rfl
      have p15 : b 15 = true := hd ⟨15, .data⟩ (by simp) rfl
      have p9 : b 9 = true := hd ⟨9, .guard⟩ (by simp) rfl
      have e46 := (ev 14 46 rfl p14).trans vv14
      have e47 := (ev 15 47 rfl p15).trans vv15
      rw [vv16]
      refine does_value_g rfl (yl 9 41 true rfl p9 vv9) (by intro c h; cases h) (w' := W) ?_ (hS)
      · simp [execOp, go_sem, e46, e47, hk1]
    | 17 =>
      simp only [List.getElem?_toArray, List.getElem?_cons_zero, List.getElem?_cons_succ, Option.some.injEq] at ho
      subst ho
      have p16 : b 16 = true := hd ⟨16, .data⟩ (by simp) rfl
      have p9 : b 9 = true := hd ⟨9, .guard⟩ (by simp) rfl
      have e48 := (ev 16 48 rfl p16).trans vv16
      have d9_0 := (hS.cell (p := ⟨g1, O1 + K * 2, none⟩) (cell_lt hy0)).trans hy0
      have d9_1 := (hS.cell (p := ⟨g1, O1 + K * 2 + 1, none⟩) (cell_lt hy1)).trans hy1
      rw [vv17]
      refine does_value_g rfl (yl 9 41 true rfl p9 vv9) (by intro c h; cases h) (w' := W) ?_ (hS)
      · simp [execOp, go_sem, e48, d9_0, d9_1]
    | 18 =>
      simp only [List.getElem?_toArray, List.getElem?_cons_zero, List.getElem?_cons_succ, Option.some.injEq] at ho
      subst ho
      have p13 : b 13 = true := hd ⟨13, .data⟩ (by simp) rfl
      have p17 : b 17 = true := hd ⟨17, .data⟩ (by simp) rfl
      have p9 : b 9 = true := hd ⟨9, .guard⟩ (by simp) rfl
      have e45 := (ev 13 45 rfl p13).trans vv13
      have e49 := (ev 17 49 rfl p17).trans vv17
      rw [vv18]
      refine does_call_g rfl (yl 9 41 true rfl p9 vv9) (by intro c h; cases h) (f := 17) (args := #[.agg #[.int .i64 t, .int .i64 u], .agg #[.int .i64 t', .int .i64 u']]) ?_ ?_
      · simp [go_sem, e45, e49]
      · exact (cB W hS).mono (fun e w' h => ⟨h.1, hS.trans (h.2.mono hS.size)⟩)
    | 19 =>
      simp only [List.getElem?_toArray, List.getElem?_cons_zero, List.getElem?_cons_succ, Option.some.injEq] at ho
      subst ho
      have p18 : b 18 = true := hd ⟨18, .data⟩ (by simp) rfl
      have p9 : b 9 = true := hd ⟨9, .guard⟩ (by simp) rfl
      have e50 := (ev 18 50 rfl p18).trans vv18
      rw [vv19]
      refine does_value_g rfl (yl 9 41 true rfl p9 vv9) (by intro c h; cases h) (w' := W) ?_ (hS)
      · simp [execOp, go_sem, e50]
    | 20 =>
      simp only [List.getElem?_toArray, List.getElem?_cons_zero, List.getElem?_cons_succ, Option.some.injEq] at ho
      subst ho
      have p19 : b 19 = true := hd ⟨19, .guard⟩ (by simp) rfl
      have e9 : a.tmps[9]?.getD undef = .int .i64 (J : Nat) := (kp 9 (by kernel_rfl)).trans b9
      rw [vv20]
      refine does_value_g rfl (yl 19 51 false rfl p19 vv19) (by intro c h; cases h) (w' := W) ?_ (hS)
      · simp [execOp, go_sem, e9]
    | 21 =>
      simp only [List.getElem?_toArray, List.getElem?_cons_zero, List.getElem?_cons_succ, Option.some.injEq] at ho
      subst ho
      have p19 : b 19 = true := hd ⟨19, .guard⟩ (by simp) rfl
      have e7 : a.tmps[7]?.getD undef = .int .i64 (K : Nat) := (kp 7 (by kernel_rfl)).trans b7
      rw [vv21]
      refine does_value_g rfl (yl 19 51 false rfl p19 vv19) (by intro c h; cases h) (w' := W) ?_ (hS)
      · simp [execOp, go_sem, e7]
    | 22 =>
      simp only [List.getElem?_toArray, List.getElem?_cons_zero, List.getElem?_cons_succ, Option.some.injEq] at ho
      subst ho
      have p20 : b 20 = true := hd ⟨20, .data⟩ (by simp) rfl
      have p21 : b 21 = true := hd ⟨21, .data⟩ (by simp) rfl
      have p19 : b 19 = true := hd ⟨19, .guard⟩ (by simp) rfl
      have e52 := (ev 20 52 rfl p20).trans vv20
      have e53 := (ev 21 53 rfl p21).trans vv21
      rw [vv22]
      refine does_value_g rfl (yl 19 51 false rfl p19 vv19) (by intro c h; cases h) (w' := W) ?_ (hS)
      · simp [execOp, go_sem, e52, e53, hC]
    | 23 =>
      simp only [List.getElem?_toArray, List.getElem?_cons_zero, List.getElem?_cons_succ, Option.some.injEq] at ho
      subst ho
      have p22 : b 22 = true := hd ⟨22, .data⟩ (by simp) rfl
      have p19 : b 19 = true := hd ⟨19, .guard⟩ (by simp) rfl
      have e54 := (ev 22 54 rfl p22).trans vv22
      rw [vv23]
      refine does_value_g rfl (yl 19 51 false rfl p19 vv19) (by intro c h; cases h) (w' := W) ?_ (hS)
      · simp [execOp, go_sem, e54]
    | 24 =>
      simp only [List.getElem?_toArray, List.getElem?_cons_zero, List.getElem?_cons_succ, Option.some.injEq] at ho
      subst ho
      have p23 : b 23 = true := hd ⟨23, .guard⟩ (by simp) rfl
      have e0 : a.tmps[0]?.getD undef = .slice (some ⟨g1, O1, none⟩) L1 c1 := (kp 0 (by kernel_rfl)).trans b0
      rw [vv24]
      refine does_value_g rfl (yl 23 55 true rfl p23 vv23) (by intro c h; cases h) (w' := W) ?_ (hS)
      · simp [execOp, go_sem, e0]
    | 25 =>
      simp only [List.getElem?_toArray, List.getElem?_cons_zero, List.getElem?_cons_succ, Option.some.injEq] at ho
      subst ho
      have p23 : b 23 = true := hd ⟨23, .guard⟩ (by simp) rfl
      have e9 : a.tmps[9]?.getD undef = .int .i64 (J : Nat) := (kp 9 (by kernel_rfl)).trans b9
      rw [vv25]
      refine does_value_g rfl (yl 23 55 true rfl p23 vv23) (by intro c h; cases h) (w' := W) ?_ (hS)
      · simp [execOp, go_sem, e9]
    | 26 =>
      simp only [List.getElem?_toArray, List.getElem?_cons_zero, List.getElem?_cons_succ, Option.some.injEq] at ho
      subst ho
      have p24 : b 24 = true := hd ⟨24, .data⟩ (by simp) rfl
      have p25 : b 25 = true := hd ⟨25, .data⟩ (by simp) rfl
      have p23 : b 23 = true := hd ⟨23, .guard⟩ (by simp) rfl
      have e56 := (ev 24 56 rfl p24).trans vv24
      have e57 := (ev 25 57 rfl p25).trans vv25
      rw [vv26]
      refine does_value_g rfl (yl 23 55 true rfl p23 vv23) (by intro c h; cases h) (w' := W) ?_ (hS)
      · simp [execOp, go_sem, e56, e57, hj1]
    | 27 =>
      simp only [List.getElem?_toArray, List.getElem?_cons_zero, List.getElem?_cons_succ, Option.some.injEq] at ho
      subst ho
      have p26 : b 26 = true := hd ⟨26, .data⟩ (by simp) rfl
      have p23 : b 23 = true := hd ⟨23, .guard⟩ (by simp) rfl
      have e58 := (ev 26 58 rfl p26).trans vv26
      have d9_0 := (hS.cell (p := ⟨g1, O1 + J * 2, none⟩) (cell_lt hx0)).trans hx0
      have d9_1 := (hS.cell (p := ⟨g1, O1 + J * 2 + 1, none⟩) (cell_lt hx1)).trans hx1
      rw [vv27]
      refine does_value_g rfl (yl 23 55 true rfl p23 vv23) (by intro c h; cases h) (w' := W) ?_ (hS)
      · simp [execOp, go_sem, e58, d9_0, d9_1]
    | 28 =>
      simp only [List.getElem?_toArray, List.getElem?_cons_zero, List.getElem?_cons_succ, Option.some.injEq] at ho
      subst ho
      have p23 : b 23 = true := hd ⟨23, .guard⟩ (by simp) rfl
      have e0 : a.tmps[0]?.getD undef = .slice (some ⟨g1, O1, none⟩) L1 c1 := (kp 0 (by kernel_rfl)).trans b0
      rw [vv28]
      refine does_value_g rfl (yl 23 55 true rfl p23 vv23) (by intro c h; cases h) (w' := W) ?_ (hS)
      · simp [execOp, go_sem, e0]
    | 29 =>
      simp only [List.getElem?_toArray, List.getElem?_cons_zero, List.getElem?_cons_succ, Option.some.injEq] at ho
      subst ho
      have p23 : b 23 = true := hd ⟨23, .guard⟩ (by simp) rfl
      have e7 : a.tmps[7]?.getD undef = .int .i64 (K : Nat) := (kp 7 (by kernel_rfl)).trans b7
      rw [vv29]
      refine does_value_g rfl (yl 23 55 true rfl p23 vv23) (by intro c h; cases h) (w' := W) ?_ (hS)
      · simp [execOp, go_sem, e7]
    | 30 =>
      simp only [List.getElem?_toArray, List.getElem?_cons_zero, List.getElem?_cons_succ, Option.some.injEq] at ho
      subst ho
      have p28 : b 28 = true := hd ⟨28, .data⟩ (by simp) rfl
      have p29 : b 29 = true := hd ⟨29, .data⟩ (by simp) rfl
      have p23 : b 23 = true := hd ⟨23, .guard⟩ (by simp) rfl
      have e60 := (ev 28 60 rfl p28).trans vv28
      have e61 := (ev 29 61 rfl p29).trans vv29
      rw [vv30]
      refine does_value_g rfl (yl 23 55 true rfl p23 vv23) (by intro c h; cases h) (w' := W) ?_ (hS)
      · simp [execOp, go_sem, e60, e61, hk1]
    | 31 =>
      simp only [List.getElem?_toArray, List.getElem?_cons_zero, List.getElem?_cons_succ, Option.some.injEq] at ho
      subst ho
      have p30 : b 30 = true := hd ⟨30, .data⟩ (by simp) rfl
      have p23 : b 23 = true := hd ⟨23, .guard⟩ (by simp) rfl
      have e62 := (ev 30 62 rfl p30).trans vv30
      have d9_0 := (hS.cell (p := ⟨g1, O1 + K * 2, none⟩) (cell_lt hy0)).trans hy0
      have d9_1 := (hS.cell (p := ⟨g1, O1 + K * 2 + 1, none⟩) (cell_lt hy1)).trans hy1
      rw [vv31]
      refine does_value_g rfl (yl 23 55 true rfl p23 vv23) (by intro c h; cases h) (w' := W) ?_ (hS)
      · simp [execOp, go_sem, e62, d9_0, d9_1]
    | 32 =>
      simp only [List.getElem?_toArray, List.getElem?_cons_zero, List.getElem?_cons_succ, Option.some.injEq] at ho
      subst ho
      have p27 : b 27 = true := hd ⟨27, .data⟩ (by simp) rfl
      have p31 : b 31 = true := hd ⟨31, .data⟩ (by simp) rfl
      have p23 : b 23 = true := hd ⟨23, .guard⟩ (by simp) rfl
      have e59 := (ev 27 59 rfl p27).trans vv27
      have e63 := (ev 31 63 rfl p31).trans vv31
      rw [vv32]
      refine does_call_g rfl (yl 23 55 true rfl p23 vv23) (by intro c h; cases h) (f := 12) (args := #[.agg #[.int .i64 t, .int .i64 u], .agg #[.int .i64 t', .int .i64 u']]) ?_ ?_
      · simp [go_sem, e59, e63]
      · exact (cD W hS).mono (fun e w' h => ⟨h.1, hS.trans (h.2.mono hS.size)⟩)
    | 33 =>
      simp only [List.getElem?_toArray, List.getElem?_cons_zero, List.getElem?_cons_succ, Option.some.injEq] at ho
      subst ho
      have p23 : b 23 = true := hd ⟨23, .data⟩ (by simp) rfl
      have p32 : b 32 = true := hd ⟨32, .data⟩ (by simp) rfl
      have p19 : b 19 = true := hd ⟨19, .guard⟩ (by simp) rfl
      have e55 := (ev 23 55 rfl p23).trans vv23
      have e64 := (ev 32 64 rfl p32).trans vv32
      rw [vv33]
      refine does_value_g rfl (yl 19 51 false rfl p19 vv19) (by intro c h; cases h) (w' := W) ?_ (hS)
      · simp [execOp, go_sem, e55, e64]
    | 34 =>
      simp only [List.getElem?_toArray, List.getElem?_cons_zero, List.getElem?_cons_succ, Option.some.injEq] at ho
      subst ho
      have p19 : b 19 = true := hd ⟨19, .data⟩ (by simp) rfl
      have p33 : b 33 = true := hd ⟨33, .data⟩ (by simp) rfl
      have p9 : b 9 = true := hd ⟨9, .guard⟩ (by simp) rfl
      have e51 := (ev 19 51 rfl p19).trans vv19
      have e65 := (ev 33 65 rfl p33).trans vv33
      rw [vv34]
      refine does_value_g rfl (yl 9 41 true rfl p9 vv9) (by intro c h; cases h) (w' := W) ?_ (hS)
      · simp [execOp, go_sem, e51, e65]
    | 35 =>
      simp only [List.getElem?_toArray, List.getElem?_cons_zero, List.getElem?_cons_succ, Option.some.injEq] at ho
      subst ho
      have p9 : b 9 = true := hd ⟨9, .data⟩ (by simp) rfl
      have p34 : b 34 = true := hd ⟨34, .data⟩ (by simp) rfl
      have e41 := (ev 9 41 rfl p9).trans vv9
      have e66 := (ev 34 66 rfl p34).trans vv34
      rw [vv35]
      refine does_value rfl (by intro c h; cases h) (w' := W) ?_ (hS)
      · simp [execOp, go_sem, e41, e66]
    | k + 36 => simp at ho
  · intro b' W hS _
    subst hLe
    exact hQ W hS

end Go.Proofs.YtjajbhpcjickbaaDoor.Ck.Sh
