/-
  The drawn regions of MergeQueue.
-/
import Derived.Test.YtgophojgofmkeaaZs
namespace Go.Proofs.Ytgophojgofmkeaa.Ck
open Go.RowKit Go.Maps

set_option maxRecDepth 8000 in
set_option maxHeartbeats 4000000 in
theorem q_reg22_neg {Q : Exit → Act → World → Prop} {base : Array Value} {dd : List Deferred} {ops : Array Oper} (hops : Try.f4.body.bind (regs 22) = some ops)  (w9 : World) (hsz : base.size = 156)
    (b14 : base.getD 14 undef = .int .i64 (-1))
    (hQ : ∀ W, Below w9.heap.size w9 W → Q .normal ⟨putAll base [(some 71, .int .i64 (-1)), (some 72, .bool true), (some 73, .bool true), (some 74, undef), (some 75, undef), (some 76, undef), (some 77, undef), (some 78, undef), (some 79, undef), (some 80, undef), (some 81, undef), (some 82, undef), (some 83, undef), (some 84, undef), (some 85, undef), (some 86, .bool true)], dd⟩ W) :
    (Code.region 22 ops true).wp Try.prog Q ⟨base, dd⟩ w9 := by
  have hmix : Try.prog.follows .mixedOrders = true := by kernel_rfl
  have h2 := (show Try.f4.body.bind (regs 22) = some _ from rfl).symm.trans hops
  obtain rfl := Option.some.inj h2
  clear h2 hops
  have below9 : Below w9.heap.size w9 w9.drew := (Below.refl _ _).drew
  obtain ⟨LL, hLe⟩ : ∃ LL : List (Option Tmp × Value), LL = [(some 71, .int .i64 (-1)), (some 72, .bool true), (some 73, .bool true), (some 74, undef), (some 75, undef), (some 76, undef), (some 77, undef), (some 78, undef), (some 79, undef), (some 80, undef), (some 81, undef), (some 82, undef), (some 83, undef), (some 84, undef), (some 85, undef), (some 86, .bool true)] := ⟨_, rfl⟩
  have vv0 : vals LL 0 = .int .i64 (-1) := by rw [hLe]; rfl
  have vv1 : vals LL 1 = .bool true := by rw [hLe]; rfl
  have vv2 : vals LL 2 = .bool true := by rw [hLe]; rfl
  have vv3 : vals LL 3 = undef := by rw [hLe]; rfl
  have vv4 : vals LL 4 = undef := by rw [hLe]; rfl
  have vv5 : vals LL 5 = undef := by rw [hLe]; rfl
  have vv6 : vals LL 6 = undef := by rw [hLe]; rfl
  have vv7 : vals LL 7 = undef := by rw [hLe]; rfl
  have vv8 : vals LL 8 = undef := by rw [hLe]; rfl
  have vv9 : vals LL 9 = undef := by rw [hLe]; rfl
  have vv10 : vals LL 10 = undef := by rw [hLe]; rfl
  have vv11 : vals LL 11 = undef := by rw [hLe]; rfl
  have vv12 : vals LL 12 = undef := by rw [hLe]; rfl
  have vv13 : vals LL 13 = undef := by rw [hLe]; rfl
  have vv14 : vals LL 14 = undef := by rw [hLe]; rfl
  have vv15 : vals LL 15 = .bool true := by rw [hLe]; rfl
  refine region_laid hmix (by kernel_rfl) 156 hsz (by kernel_rfl) LL (by rw [hLe]; rfl) (fun _ W => Below w9.heap.size w9 W) below9 ?_ ?_
  · intro b W i o a hS hcl ho hb hd ev kp yl
    match i with
    | 0 =>
      simp only [List.getElem?_toArray, List.getElem?_cons_zero, Option.some.injEq] at ho
      subst ho
      have e14 : a.tmps[14]?.getD undef = .int .i64 (-1) := (kp 14 (by kernel_rfl)).trans b14
      rw [vv0]
      refine does_value rfl (by intro c h; cases h) (w' := W) ?_ (hS)
      · simp [execOp, go_sem, e14]
    | 1 =>
      simp only [List.getElem?_toArray, List.getElem?_cons_zero, List.getElem?_cons_succ, Option.some.injEq] at ho
      subst ho
      have p0 : b 0 = true := hd ⟨0, .data⟩ (by simp) rfl
      have e71 := (ev 0 71 rfl p0).trans vv0
      rw [vv1]
      refine does_value rfl (by intro c h; cases h) (w' := W) ?_ (hS)
      · simp [execOp, go_sem, e71]
    | 2 =>
      simp only [List.getElem?_toArray, List.getElem?_cons_zero, List.getElem?_cons_succ, Option.some.injEq] at ho
      subst ho
      have p1 : b 1 = true := hd ⟨1, .data⟩ (by simp) rfl
      have e72 := (ev 1 72 rfl p1).trans vv1
      rw [vv2]
      refine does_value rfl (by intro c h; cases h) (w' := W) ?_ (hS)
      · simp [execOp, go_sem, e72]
    | 3 =>
      simp only [List.getElem?_toArray, List.getElem?_cons_zero, List.getElem?_cons_succ, Option.some.injEq] at ho
      subst ho
      have p2 : b 2 = true := hd ⟨2, .guard⟩ (by simp) rfl
      exact does_pass rfl (yl 2 73 true rfl p2 vv2) (by decide) vv3 (hS)
    | 4 =>
      simp only [List.getElem?_toArray, List.getElem?_cons_zero, List.getElem?_cons_succ, Option.some.injEq] at ho
      subst ho
      have p2 : b 2 = true := hd ⟨2, .guard⟩ (by simp) rfl
      exact does_pass rfl (yl 2 73 true rfl p2 vv2) (by decide) vv4 (hS)
    | 5 =>
      simp only [List.getElem?_toArray, List.getElem?_cons_zero, List.getElem?_cons_succ, Option.some.injEq] at ho
      subst ho
      have p2 : b 2 = true := hd ⟨2, .guard⟩ (by simp) rfl
      exact does_pass rfl (yl 2 73 true rfl p2 vv2) (by decide) vv5 (hS)
    | 6 =>
      simp only [List.getElem?_toArray, List.getElem?_cons_zero, List.getElem?_cons_succ, Option.some.injEq] at ho
      subst ho
      have p4 : b 4 = true := hd ⟨4, .data⟩ (by simp) rfl
      have p5 : b 5 = true := hd ⟨5, .data⟩ (by simp) rfl
      have p2 : b 2 = true := hd ⟨2, .guard⟩ (by simp) rfl
      exact does_pass rfl (yl 2 73 true rfl p2 vv2) (by decide) vv6 (hS)
    | 7 =>
      simp only [List.getElem?_toArray, List.getElem?_cons_zero, List.getElem?_cons_succ, Option.some.injEq] at ho
      subst ho
      have p6 : b 6 = true := hd ⟨6, .data⟩ (by simp) rfl
      have p2 : b 2 = true := hd ⟨2, .guard⟩ (by simp) rfl
      exact does_pass rfl (yl 2 73 true rfl p2 vv2) (by decide) vv7 (hS)
    | 8 =>
      simp only [List.getElem?_toArray, List.getElem?_cons_zero, List.getElem?_cons_succ, Option.some.injEq] at ho
      subst ho
      have p7 : b 7 = true := hd ⟨7, .data⟩ (by simp) rfl
      have p2 : b 2 = true := hd ⟨2, .guard⟩ (by simp) rfl
      exact does_pass rfl (yl 2 73 true rfl p2 vv2) (by decide) vv8 (hS)
    | 9 =>
      simp only [List.getElem?_toArray, List.getElem?_cons_zero, List.getElem?_cons_succ, Option.some.injEq] at ho
      subst ho
      have p2 : b 2 = true := hd ⟨2, .guard⟩ (by simp) rfl
      exact does_pass rfl (yl 2 73 true rfl p2 vv2) (by decide) vv9 (hS)
    | 10 =>
      simp only [List.getElem?_toArray, List.getElem?_cons_zero, List.getElem?_cons_succ, Option.some.injEq] at ho
      subst ho
      have p2 : b 2 = true := hd ⟨2, .guard⟩ (by simp) rfl
      exact does_pass rfl (yl 2 73 true rfl p2 vv2) (by decide) vv10 (hS)
    | 11 =>
      simp only [List.getElem?_toArray, List.getElem?_cons_zero, List.getElem?_cons_succ, Option.some.injEq] at ho
      subst ho
      have p9 : b 9 = true := hd ⟨9, .data⟩ (by simp) rfl
      have p10 : b 10 = true := hd ⟨10, .data⟩ (by simp) rfl
      have p2 : b 2 = true := hd ⟨2, .guard⟩ (by simp) rfl
      exact does_pass rfl (yl 2 73 true rfl p2 vv2) (by decide) vv11 (hS)
    | 12 =>
      simp only [List.getElem?_toArray, List.getElem?_cons_zero, List.getElem?_cons_succ, Option.some.injEq] at ho
      subst ho
      have p11 : b 11 = true := hd ⟨11, .data⟩ (by simp) rfl
      have p2 : b 2 = true := hd ⟨2, .guard⟩ (by simp) rfl
      exact does_pass rfl (yl 2 73 true rfl p2 vv2) (by decide) vv12 (hS)
    | 13 =>
      simp only [List.getElem?_toArray, List.getElem?_cons_zero, List.getElem?_cons_succ, Option.some.injEq] at ho
      subst ho
      have p12 : b 12 = true := hd ⟨12, .data⟩ (by simp) rfl
      have p2 : b 2 = true := hd ⟨2, .guard⟩ (by simp) rfl
      exact does_pass rfl (yl 2 73 true rfl p2 vv2) (by decide) vv13 (hS)
    | 14 =>
      simp only [List.getElem?_toArray, List.getElem?_cons_zero, List.getElem?_cons_succ, Option.some.injEq] at ho
      subst ho
      have p3 : b 3 = true := hd ⟨3, .data⟩ (by simp) rfl
      have p8 : b 8 = true := hd ⟨8, .data⟩ (by simp) rfl
      have p13 : b 13 = true := hd ⟨13, .data⟩ (by simp) rfl
      have p2 : b 2 = true := hd ⟨2, .guard⟩ (by simp) rfl
      exact does_pass rfl (yl 2 73 true rfl p2 vv2) (by decide) vv14 (hS)
    | 15 =>
      simp only [List.getElem?_toArray, List.getElem?_cons_zero, List.getElem?_cons_succ, Option.some.injEq] at ho
      subst ho
      have p2 : b 2 = true := hd ⟨2, .data⟩ (by simp) rfl
      have p14 : b 14 = true := hd ⟨14, .data⟩ (by simp) rfl
      have e73 := (ev 2 73 rfl p2).trans vv2
      rw [vv15]
      refine does_value rfl (by intro c h; cases h) (w' := W) ?_ (hS)
      · simp [execOp, go_sem, e73]
    | k + 16 => simp at ho
  · intro b' W hS _
    subst hLe
    exact hQ W hS

set_option maxRecDepth 8000 in
set_option maxHeartbeats 4000000 in
theorem q_reg22 {Q : Exit → Act → World → Prop} {base : Array Value} {dd : List Deferred} {ops : Array Oper} (hops : Try.f4.body.bind (regs 22) = some ops) (gl m cl K bb F : Nat) (xt xn yt yn : Int) (r : Bool) (w9 : World) (hsz : base.size = 156)
    (b8 : base.getD 8 undef = .func (.func F) #[] #[])
    (b10 : base.getD 10 undef = .slice (some ⟨gl, 0, none⟩) m cl)
    (b14 : base.getD 14 undef = .int .i64 (bb : Nat))
    (b15 : base.getD 15 undef = .int .i64 (K : Nat))
    (hb0 : ¬ (bb : Int) < 0) (hKm : K < m) (hbm : bb < m)
    (hx0 : w9.cell? ⟨gl, K * 11, none⟩ = some (.int .i64 xt)) (hx1 : w9.cell? ⟨gl, K * 11 + 1, none⟩ = some (.int .i64 xn)) (hy0 : w9.cell? ⟨gl, bb * 11, none⟩ = some (.int .i64 yt)) (hy1 : w9.cell? ⟨gl, bb * 11 + 1, none⟩ = some (.int .i64 yn))
    (hen : ∀ args w, (callFunc F args).run Try.prog w = .ok (.enter F args) w)
    (cK : ∀ W, Below w9.heap.size w9 W → Calls Try.prog F #[idv xt xn, idv yt yn] W fun e w' => e = .returned (.bool r) ∧ Below W.heap.size W w')
    (hQ : ∀ W, Below w9.heap.size w9 W → Q .normal ⟨putAll base [(some 71, .int .i64 (bb : Nat)), (some 72, .bool false), (some 73, .bool false), (some 74, .func (.func F) #[] #[]), (some 75, .slice (some ⟨gl, 0, none⟩) m cl), (some 76, .int .i64 (K : Nat)), (some 77, .pointer (some ⟨gl, K * 11, none⟩)), (some 78, .pointer (some ⟨gl, K * 11, none⟩)), (some 79, .agg #[.int .i64 xt, .int .i64 xn]), (some 80, .slice (some ⟨gl, 0, none⟩) m cl), (some 81, .int .i64 (bb : Nat)), (some 82, .pointer (some ⟨gl, bb * 11, none⟩)), (some 83, .pointer (some ⟨gl, bb * 11, none⟩)), (some 84, .agg #[.int .i64 yt, .int .i64 yn]), (some 85, .bool r), (some 86, .bool r)], dd⟩ W) :
    (Code.region 22 ops true).wp Try.prog Q ⟨base, dd⟩ w9 := by
  have hmix : Try.prog.follows .mixedOrders = true := by kernel_rfl
  have h2 := (show Try.f4.body.bind (regs 22) = some _ from rfl).symm.trans hops
  obtain rfl := Option.some.inj h2
  clear h2 hops
  have below9 : Below w9.heap.size w9 w9.drew := (Below.refl _ _).drew
  obtain ⟨LL, hLe⟩ : ∃ LL : List (Option Tmp × Value), LL = [(some 71, .int .i64 (bb : Nat)), (some 72, .bool false), (some 73, .bool false), (some 74, .func (.func F) #[] #[]), (some 75, .slice (some ⟨gl, 0, none⟩) m cl), (some 76, .int .i64 (K : Nat)), (some 77, .pointer (some ⟨gl, K * 11, none⟩)), (some 78, .pointer (some ⟨gl, K * 11, none⟩)), (some 79, .agg #[.int .i64 xt, .int .i64 xn]), (some 80, .slice (some ⟨gl, 0, none⟩) m cl), (some 81, .int .i64 (bb : Nat)), (some 82, .pointer (some ⟨gl, bb * 11, none⟩)), (some 83, .pointer (some ⟨gl, bb * 11, none⟩)), (some 84, .agg #[.int .i64 yt, .int .i64 yn]), (some 85, .bool r), (some 86, .bool r)] := ⟨_, rfl⟩
  have vv0 : vals LL 0 = .int .i64 (bb : Nat) := by rw [hLe]; rfl
  have vv1 : vals LL 1 = .bool false := by rw [hLe]; rfl
  have vv2 : vals LL 2 = .bool false := by rw [hLe]; rfl
  have vv3 : vals LL 3 = .func (.func F) #[] #[] := by rw [hLe]; rfl
  have vv4 : vals LL 4 = .slice (some ⟨gl, 0, none⟩) m cl := by rw [hLe]; rfl
  have vv5 : vals LL 5 = .int .i64 (K : Nat) := by rw [hLe]; rfl
  have vv6 : vals LL 6 = .pointer (some ⟨gl, K * 11, none⟩) := by rw [hLe]; rfl
  have vv7 : vals LL 7 = .pointer (some ⟨gl, K * 11, none⟩) := by rw [hLe]; rfl
  have vv8 : vals LL 8 = .agg #[.int .i64 xt, .int .i64 xn] := by rw [hLe]; rfl
  have vv9 : vals LL 9 = .slice (some ⟨gl, 0, none⟩) m cl := by rw [hLe]; rfl
  have vv10 : vals LL 10 = .int .i64 (bb : Nat) := by rw [hLe]; rfl
  have vv11 : vals LL 11 = .pointer (some ⟨gl, bb * 11, none⟩) := by rw [hLe]; rfl
  have vv12 : vals LL 12 = .pointer (some ⟨gl, bb * 11, none⟩) := by rw [hLe]; rfl
  have vv13 : vals LL 13 = .agg #[.int .i64 yt, .int .i64 yn] := by rw [hLe]; rfl
  have vv14 : vals LL 14 = .bool r := by rw [hLe]; rfl
  have vv15 : vals LL 15 = .bool r := by rw [hLe]; rfl
  refine region_laid hmix (by kernel_rfl) 156 hsz (by kernel_rfl) LL (by rw [hLe]; rfl) (fun _ W => Below w9.heap.size w9 W) below9 ?_ ?_
  · intro b W i o a hS hcl ho hb hd ev kp yl
    match i with
    | 0 =>
      simp only [List.getElem?_toArray, List.getElem?_cons_zero, Option.some.injEq] at ho
      subst ho
      have e14 : a.tmps[14]?.getD undef = .int .i64 (bb : Nat) := (kp 14 (by kernel_rfl)).trans b14
      rw [vv0]
      refine does_value rfl (by intro c h; cases h) (w' := W) ?_ (hS)
      · simp [execOp, go_sem, e14]
    | 1 =>
      simp only [List.getElem?_toArray, List.getElem?_cons_zero, List.getElem?_cons_succ, Option.some.injEq] at ho
      subst ho
      have p0 : b 0 = true := hd ⟨0, .data⟩ (by simp) rfl
      have e71 := (ev 0 71 rfl p0).trans vv0
      rw [vv1]
      refine does_value rfl (by intro c h; cases h) (w' := W) ?_ (hS)
      · simp [execOp, go_sem, e71, hb0]
    | 2 =>
      simp only [List.getElem?_toArray, List.getElem?_cons_zero, List.getElem?_cons_succ, Option.some.injEq] at ho
      subst ho
      have p1 : b 1 = true := hd ⟨1, .data⟩ (by simp) rfl
      have e72 := (ev 1 72 rfl p1).trans vv1
      rw [vv2]
      refine does_value rfl (by intro c h; cases h) (w' := W) ?_ (hS)
      · simp [execOp, go_sem, e72]
    | 3 =>
      simp only [List.getElem?_toArray, List.getElem?_cons_zero, List.getElem?_cons_succ, Option.some.injEq] at ho
      subst ho
      have p2 : b 2 = true := hd ⟨2, .guard⟩ (by simp) rfl
      have e8 : a.tmps[8]?.getD undef = .func (.func F) #[] #[] := (kp 8 (by kernel_rfl)).trans b8
      rw [vv3]
      refine does_value_g rfl (yl 2 73 false rfl p2 vv2) (by intro c h; cases h) (w' := W) ?_ (hS)
      · simp [execOp, go_sem, e8]
    | 4 =>
      simp only [List.getElem?_toArray, List.getElem?_cons_zero, List.getElem?_cons_succ, Option.some.injEq] at ho
      subst ho
      have p2 : b 2 = true := hd ⟨2, .guard⟩ (by simp) rfl
      have e10 : a.tmps[10]?.getD undef = .slice (some ⟨gl, 0, none⟩) m cl := (kp 10 (by kernel_rfl)).trans b10
      rw [vv4]
      refine does_value_g rfl (yl 2 73 false rfl p2 vv2) (by intro c h; cases h) (w' := W) ?_ (hS)
      · simp [execOp, go_sem, e10]
    | 5 =>
      simp only [List.getElem?_toArray, List.getElem?_cons_zero, List.getElem?_cons_succ, Option.some.injEq] at ho
      subst ho
      have p2 : b 2 = true := hd ⟨2, .guard⟩ (by simp) rfl
      have e15 : a.tmps[15]?.getD undef = .int .i64 (K : Nat) := (kp 15 (by kernel_rfl)).trans b15
      rw [vv5]
      refine does_value_g rfl (yl 2 73 false rfl p2 vv2) (by intro c h; cases h) (w' := W) ?_ (hS)
      · simp [execOp, go_sem, e15]
    | 6 =>
      simp only [List.getElem?_toArray, List.getElem?_cons_zero, List.getElem?_cons_succ, Option.some.injEq] at ho
      subst ho
      have p4 : b 4 = true := hd ⟨4, .data⟩ (by simp) rfl
      have p5 : b 5 = true := hd ⟨5, .data⟩ (by simp) rfl
      have p2 : b 2 = true := hd ⟨2, .guard⟩ (by simp) rfl
      have e75 := (ev 4 75 rfl p4).trans vv4
      have e76 := (ev 5 76 rfl p5).trans vv5
      rw [vv6]
      refine does_value_g rfl (yl 2 73 false rfl p2 vv2) (by intro c h; cases h) (w' := W) ?_ (hS)
      · simp [execOp, go_sem, e75, e76, hKm]
    | 7 =>
      simp only [List.getElem?_toArray, List.getElem?_cons_zero, List.getElem?_cons_succ, Option.some.injEq] at ho
      subst ho
      have p6 : b 6 = true := hd ⟨6, .data⟩ (by simp) rfl
      have p2 : b 2 = true := hd ⟨2, .guard⟩ (by simp) rfl
      have e77 := (ev 6 77 rfl p6).trans vv6
      rw [vv7]
      refine does_value_g rfl (yl 2 73 false rfl p2 vv2) (by intro c h; cases h) (w' := W) ?_ (hS)
      · simp [execOp, go_sem, e77]
    | 8 =>
      simp only [List.getElem?_toArray, List.getElem?_cons_zero, List.getElem?_cons_succ, Option.some.injEq] at ho
      subst ho
      have p7 : b 7 = true := hd ⟨7, .data⟩ (by simp) rfl
      have p2 : b 2 = true := hd ⟨2, .guard⟩ (by simp) rfl
      have e78 := (ev 7 78 rfl p7).trans vv7
      have d9_0 := (hS.cell (p := ⟨gl, K * 11, none⟩) (cell_lt hx0)).trans hx0
      have d9_1 := (hS.cell (p := ⟨gl, K * 11 + 1, none⟩) (cell_lt hx1)).trans hx1
      rw [vv8]
      refine does_value_g rfl (yl 2 73 false rfl p2 vv2) (by intro c h; cases h) (w' := W) ?_ (hS)
      · simp [execOp, go_sem, e78, d9_0, d9_1]
    | 9 =>
      simp only [List.getElem?_toArray, List.getElem?_cons_zero, List.getElem?_cons_succ, Option.some.injEq] at ho
      subst ho
      have p2 : b 2 = true := hd ⟨2, .guard⟩ (by simp) rfl
      have e10 : a.tmps[10]?.getD undef = .slice (some ⟨gl, 0, none⟩) m cl := (kp 10 (by kernel_rfl)).trans b10
      rw [vv9]
      refine does_value_g rfl (yl 2 73 false rfl p2 vv2) (by intro c h; cases h) (w' := W) ?_ (hS)
      · simp [execOp, go_sem, e10]
    | 10 =>
      simp only [List.getElem?_toArray, List.getElem?_cons_zero, List.getElem?_cons_succ, Option.some.injEq] at ho
      subst ho
      have p2 : b 2 = true := hd ⟨2, .guard⟩ (by simp) rfl
      have e14 : a.tmps[14]?.getD undef = .int .i64 (bb : Nat) := (kp 14 (by kernel_rfl)).trans b14
      rw [vv10]
      refine does_value_g rfl (yl 2 73 false rfl p2 vv2) (by intro c h; cases h) (w' := W) ?_ (hS)
      · simp [execOp, go_sem, e14]
    | 11 =>
      simp only [List.getElem?_toArray, List.getElem?_cons_zero, List.getElem?_cons_succ, Option.some.injEq] at ho
      subst ho
      have p9 : b 9 = true := hd ⟨9, .data⟩ (by simp) rfl
      have p10 : b 10 = true := hd ⟨10, .data⟩ (by simp) rfl
      have p2 : b 2 = true := hd ⟨2, .guard⟩ (by simp) rfl
      have e80 := (ev 9 80 rfl p9).trans vv9
      have e81 := (ev 10 81 rfl p10).trans vv10
      rw [vv11]
      refine does_value_g rfl (yl 2 73 false rfl p2 vv2) (by intro c h; cases h) (w' := W) ?_ (hS)
      · simp [execOp, go_sem, e80, e81, hbm]
    | 12 =>
      simp only [List.getElem?_toArray, List.getElem?_cons_zero, List.getElem?_cons_succ, Option.some.injEq] at ho
      subst ho
      have p11 : b 11 = true := hd ⟨11, .data⟩ (by simp) rfl
      have p2 : b 2 = true := hd ⟨2, .guard⟩ (by simp) rfl
      have e82 := (ev 11 82 rfl p11).trans vv11
      rw [vv12]
      refine does_value_g rfl (yl 2 73 false rfl p2 vv2) (by intro c h; cases h) (w' := W) ?_ (hS)
      · simp [execOp, go_sem, e82]
    | 13 =>
      simp only [List.getElem?_toArray, List.getElem?_cons_zero, List.getElem?_cons_succ, Option.some.injEq] at ho
      subst ho
      have p12 : b 12 = true := hd ⟨12, .data⟩ (by simp) rfl
      have p2 : b 2 = true := hd ⟨2, .guard⟩ (by simp) rfl
      have e83 := (ev 12 83 rfl p12).trans vv12
      have d9_0 := (hS.cell (p := ⟨gl, bb * 11, none⟩) (cell_lt hy0)).trans hy0
      have d9_1 := (hS.cell (p := ⟨gl, bb * 11 + 1, none⟩) (cell_lt hy1)).trans hy1
      rw [vv13]
      refine does_value_g rfl (yl 2 73 false rfl p2 vv2) (by intro c h; cases h) (w' := W) ?_ (hS)
      · simp [execOp, go_sem, e83, d9_0, d9_1]
    | 14 =>
      simp only [List.getElem?_toArray, List.getElem?_cons_zero, List.getElem?_cons_succ, Option.some.injEq] at ho
      subst ho
      have p3 : b 3 = true := hd ⟨3, .data⟩ (by simp) rfl
      have p8 : b 8 = true := hd ⟨8, .data⟩ (by simp) rfl
      have p13 : b 13 = true := hd ⟨13, .data⟩ (by simp) rfl
      have p2 : b 2 = true := hd ⟨2, .guard⟩ (by simp) rfl
      have e74 := (ev 3 74 rfl p3).trans vv3
      have e79 := (ev 8 79 rfl p8).trans vv8
      have e84 := (ev 13 84 rfl p13).trans vv13
      rw [vv14]
      refine does_call_g rfl (yl 2 73 false rfl p2 vv2) (by intro c h; cases h) (f := F) (args := #[.agg #[.int .i64 xt, .int .i64 xn], .agg #[.int .i64 yt, .int .i64 yn]]) ?_ ?_
      · simp [go_sem, e74, e79, e84, hen]
      · exact (cK W hS).mono (fun e w' h => ⟨h.1, hS.trans (h.2.mono hS.size)⟩)
    | 15 =>
      simp only [List.getElem?_toArray, List.getElem?_cons_zero, List.getElem?_cons_succ, Option.some.injEq] at ho
      subst ho
      have p2 : b 2 = true := hd ⟨2, .data⟩ (by simp) rfl
      have p14 : b 14 = true := hd ⟨14, .data⟩ (by simp) rfl
      have e73 := (ev 2 73 rfl p2).trans vv2
      have e85 := (ev 14 85 rfl p14).trans vv14
      rw [vv15]
      refine does_value rfl (by intro c h; cases h) (w' := W) ?_ (hS)
      · simp [execOp, go_sem, e73, e85]
    | k + 16 => simp at ho
  · intro b' W hS _
    subst hLe
    exact hQ W hS

set_option maxRecDepth 8000 in
set_option maxHeartbeats 4000000 in
theorem q_reg29 {Q : Exit → Act → World → Prop} {base : Array Value} {dd : List Deferred} {ops : Array Oper} (hops : Try.f4.body.bind (regs 29) = some ops) (gl gy m cl bb : Nat) (yt yn yk : Int) (w9 : World) (hsz : base.size = 156)
    (b10 : base.getD 10 undef = .slice (some ⟨gl, 0, none⟩) m cl)
    (b14 : base.getD 14 undef = .int .i64 (bb : Nat))
    (b18 : base.getD 18 undef = .pointer (some ⟨gy, 0, none⟩))
    (hbm : bb < m) (hgy : w9.heap[gy]? = some (.cells (opC yt yn yk) 33 (0, 0))) (hk3 : w9.cell? ⟨gl, bb * 11 + 3, none⟩ = some (.int .i64 yk))
    (hQ : ∀ W, Below w9.heap.size w9 W → Q .normal ⟨putAll base [(some 116, .pointer (some ⟨gy, 3, none⟩)), (some 117, .int .i64 yk), (some 118, .slice (some ⟨gl, 0, none⟩) m cl), (some 119, .int .i64 (bb : Nat)), (some 120, .pointer (some ⟨gl, bb * 11, none⟩)), (some 121, .pointer (some ⟨gl, bb * 11 + 3, none⟩)), (some 122, .int .i64 yk), (some 123, .bool false)], dd⟩ W) :
    (Code.region 29 ops true).wp Try.prog Q ⟨base, dd⟩ w9 := by
  have hmix : Try.prog.follows .mixedOrders = true := by kernel_rfl
  have h2 := (show Try.f4.body.bind (regs 29) = some _ from rfl).symm.trans hops
  obtain rfl := Option.some.inj h2
  clear h2 hops
  have below9 : Below w9.heap.size w9 w9.drew := (Below.refl _ _).drew
  obtain ⟨LL, hLe⟩ : ∃ LL : List (Option Tmp × Value), LL = [(some 116, .pointer (some ⟨gy, 3, none⟩)), (some 117, .int .i64 yk), (some 118, .slice (some ⟨gl, 0, none⟩) m cl), (some 119, .int .i64 (bb : Nat)), (some 120, .pointer (some ⟨gl, bb * 11, none⟩)), (some 121, .pointer (some ⟨gl, bb * 11 + 3, none⟩)), (some 122, .int .i64 yk), (some 123, .bool false)] := ⟨_, rfl⟩
  have vv0 : vals LL 0 = .pointer (some ⟨gy, 3, none⟩) := by rw [hLe]; rfl
  have vv1 : vals LL 1 = .int .i64 yk := by rw [hLe]; rfl
  have vv2 : vals LL 2 = .slice (some ⟨gl, 0, none⟩) m cl := by rw [hLe]; rfl
  have vv3 : vals LL 3 = .int .i64 (bb : Nat) := by rw [hLe]; rfl
  have vv4 : vals LL 4 = .pointer (some ⟨gl, bb * 11, none⟩) := by rw [hLe]; rfl
  have vv5 : vals LL 5 = .pointer (some ⟨gl, bb * 11 + 3, none⟩) := by rw [hLe]; rfl
  have vv6 : vals LL 6 = .int .i64 yk := by rw [hLe]; rfl
  have vv7 : vals LL 7 = .bool false := by rw [hLe]; rfl
  refine region_laid hmix (by kernel_rfl) 156 hsz (by kernel_rfl) LL (by rw [hLe]; rfl) (fun _ W => Below w9.heap.size w9 W) below9 ?_ ?_
  · intro b W i o a hS hcl ho hb hd ev kp yl
    match i with
    | 0 =>
      simp only [List.getElem?_toArray, List.getElem?_cons_zero, Option.some.injEq] at ho
      subst ho
      have e18 : a.tmps[18]?.getD undef = .pointer (some ⟨gy, 0, none⟩) := (kp 18 (by kernel_rfl)).trans b18
      rw [vv0]
      refine does_value rfl (by intro c h; cases h) (w' := W) ?_ (hS)
      · simp [execOp, go_sem, e18]
    | 1 =>
      simp only [List.getElem?_toArray, List.getElem?_cons_zero, List.getElem?_cons_succ, Option.some.injEq] at ho
      subst ho
      have p0 : b 0 = true := hd ⟨0, .data⟩ (by simp) rfl
      have e116 := (ev 0 116 rfl p0).trans vv0
      have hB9 := (hS.block _ (block_lt hgy)).trans hgy
      have d3 : W.cell? ⟨gy, 3, none⟩ = some (.int .i64 yk) := (cellOf hB9 3).trans rfl
      rw [vv1]
      refine does_value rfl (by intro c h; cases h) (w' := W) ?_ (hS)
      · simp [execOp, go_sem, e116, d3]
    | 2 =>
      simp only [List.getElem?_toArray, List.getElem?_cons_zero, List.getElem?_cons_succ, Option.some.injEq] at ho
      subst ho
      have e10 : a.tmps[10]?.getD undef = .slice (some ⟨gl, 0, none⟩) m cl := (kp 10 (by kernel_rfl)).trans b10
      rw [vv2]
      refine does_value rfl (by intro c h; cases h) (w' := W) ?_ (hS)
      · simp [execOp, go_sem, e10]
    | 3 =>
      simp only [List.getElem?_toArray, List.getElem?_cons_zero, List.getElem?_cons_succ, Option.some.injEq] at ho
      subst ho
      have e14 : a.tmps[14]?.getD undef = .int .i64 (bb : Nat) := (kp 14 (by kernel_rfl)).trans b14
      rw [vv3]
      refine does_value rfl (by intro c h; cases h) (w' := W) ?_ (hS)
      · simp [execOp, go_sem, e14]
    | 4 =>
      simp only [List.getElem?_toArray, List.getElem?_cons_zero, List.getElem?_cons_succ, Option.some.injEq] at ho
      subst ho
      have p2 : b 2 = true := hd ⟨2, .data⟩ (by simp) rfl
      have p3 : b 3 = true := hd ⟨3, .data⟩ (by simp) rfl
      have e118 := (ev 2 118 rfl p2).trans vv2
      have e119 := (ev 3 119 rfl p3).trans vv3
      rw [vv4]
      refine does_value rfl (by intro c h; cases h) (w' := W) ?_ (hS)
      · simp [execOp, go_sem, e118, e119, hbm]
    | 5 =>
      simp only [List.getElem?_toArray, List.getElem?_cons_zero, List.getElem?_cons_succ, Option.some.injEq] at ho
      subst ho
      have p4 : b 4 = true := hd ⟨4, .data⟩ (by simp) rfl
      have e120 := (ev 4 120 rfl p4).trans vv4
      rw [vv5]
      refine does_value rfl (by intro c h; cases h) (w' := W) ?_ (hS)
      · simp [execOp, go_sem, e120]
    | 6 =>
      simp only [List.getElem?_toArray, List.getElem?_cons_zero, List.getElem?_cons_succ, Option.some.injEq] at ho
      subst ho
      have p5 : b 5 = true := hd ⟨5, .data⟩ (by simp) rfl
      have e121 := (ev 5 121 rfl p5).trans vv5
      have d9_0 := (hS.cell (p := ⟨gl, bb * 11 + 3, none⟩) (cell_lt hk3)).trans hk3
      rw [vv6]
      refine does_value rfl (by intro c h; cases h) (w' := W) ?_ (hS)
      · simp [execOp, go_sem, e121, d9_0]
    | 7 =>
      simp only [List.getElem?_toArray, List.getElem?_cons_zero, List.getElem?_cons_succ, Option.some.injEq] at ho
      subst ho
      have p1 : b 1 = true := hd ⟨1, .data⟩ (by simp) rfl
      have p6 : b 6 = true := hd ⟨6, .data⟩ (by simp) rfl
      have e117 := (ev 1 117 rfl p1).trans vv1
      have e122 := (ev 6 122 rfl p6).trans vv6
      rw [vv7]
      refine does_value rfl (by intro c h; cases h) (w' := W) ?_ (hS)
      · simp [execOp, go_sem, e117, e122]
    | k + 8 => simp at ho
  · intro b' W hS _
    subst hLe
    exact hQ W hS

set_option maxRecDepth 8000 in
set_option maxHeartbeats 4000000 in
theorem q_reg31 {Q : Exit → Act → World → Prop} {base : Array Value} {d : List Deferred} {ops : Array Oper} (hops : Try.f4.body.bind (regs 31) = some ops) (gl m cl bb b1 tn tc : Nat) (tp : Option Addr) (v2 : Value) (w9 W2 : World) (hsz : base.size = 156)
    (b10 : base.getD 10 undef = .slice (some ⟨gl, 0, none⟩) m cl) (b14 : base.getD 14 undef = .int .i64 (bb : Nat))
    (hb1 : (bb : Int) + 1 = (b1 : Nat)) (hwr : IntKind.i64.wrap (b1 : Int) = (b1 : Int))
    (hH : ∀ W, (Instr.sliceAt 25 (.slice (some ⟨gl, 0, none⟩) m cl) none (some (.int .i64 (bb : Nat))) (some (.int .i64 (bb : Nat)))).run Try.prog W = .ok (.slice (some ⟨gl, 0, none⟩) bb bb) W)
    (hT : ∀ W, (Instr.sliceAt 25 (.slice (some ⟨gl, 0, none⟩) m cl) (some (.int .i64 (b1 : Nat))) none none).run Try.prog W = .ok (.slice tp tn tc) W)
    (hr : ∀ ty, (Builtin.append_ #[25, 25] ty #[.slice (some ⟨gl, 0, none⟩) bb bb, .slice tp tn tc]).run Try.prog w9.drew = .ok v2 W2)
    (hQ : Q .normal ⟨putAll base [(some 124, .slice (some ⟨gl, 0, none⟩) m cl), (some 125, .int .i64 (bb : Nat)), (some 126, .int .i64 (bb : Nat)), (some 127, .slice (some ⟨gl, 0, none⟩) bb bb), (some 128, .slice (some ⟨gl, 0, none⟩) m cl), (some 129, .int .i64 (bb : Nat)), (some 130, .int .i64 (b1 : Nat)), (some 131, .slice tp tn tc), (some 132, v2), (some 10, v2)], d⟩ W2) :
    (Code.region 31 ops true).wp Try.prog Q ⟨base, d⟩ w9 := by
  have hmix : Try.prog.follows .mixedOrders = true := by kernel_rfl
  have h2 := (show Try.f4.body.bind (regs 31) = some _ from rfl).symm.trans hops
  obtain rfl := Option.some.inj h2
  clear h2 hops
  obtain ⟨LL, hLe⟩ : ∃ LL : Unit → List (Option Tmp × Value), LL = fun _ => [(some 124, .slice (some ⟨gl, 0, none⟩) m cl), (some 125, .int .i64 (bb : Nat)), (some 126, .int .i64 (bb : Nat)), (some 127, .slice (some ⟨gl, 0, none⟩) bb bb), (some 128, .slice (some ⟨gl, 0, none⟩) m cl), (some 129, .int .i64 (bb : Nat)), (some 130, .int .i64 (b1 : Nat)), (some 131, .slice tp tn tc), (some 132, v2), (some 10, v2)] := ⟨_, rfl⟩
  have vv0 : ∀ g, vals (LL g) 0 = .slice (some ⟨gl, 0, none⟩) m cl := fun g => by rw [hLe]; rfl
  have vv1 : ∀ g, vals (LL g) 1 = .int .i64 (bb : Nat) := fun g => by rw [hLe]; rfl
  have vv2 : ∀ g, vals (LL g) 2 = .int .i64 (bb : Nat) := fun g => by rw [hLe]; rfl
  have vv3 : ∀ g, vals (LL g) 3 = .slice (some ⟨gl, 0, none⟩) bb bb := fun g => by rw [hLe]; rfl
  have vv4 : ∀ g, vals (LL g) 4 = .slice (some ⟨gl, 0, none⟩) m cl := fun g => by rw [hLe]; rfl
  have vv5 : ∀ g, vals (LL g) 5 = .int .i64 (bb : Nat) := fun g => by rw [hLe]; rfl
  have vv6 : ∀ g, vals (LL g) 6 = .int .i64 (b1 : Nat) := fun g => by rw [hLe]; rfl
  have vv7 : ∀ g, vals (LL g) 7 = .slice tp tn tc := fun g => by rw [hLe]; rfl
  have vv8 : ∀ g, vals (LL g) 8 = v2 := fun g => by rw [hLe]; rfl
  have vv9 : ∀ g, vals (LL g) 9 = v2 := fun g => by rw [hLe]; rfl
  refine region_laidg hmix (by kernel_rfl) 156 hsz (by kernel_rfl) () LL (fun g => by rw [hLe]; rfl) (fun (_ : Unit) b W => W = if b 8 = true then W2 else w9.drew) rfl ?_ ?_
  · intro g b W io o a hS hcl ho hb hd ev kp yl
    match io with
    | 0 =>
      simp only [List.getElem?_toArray, List.getElem?_cons_zero, Option.some.injEq] at ho
      subst ho
      have e10 : a.tmps[10]?.getD undef = .slice (some ⟨gl, 0, none⟩) m cl := (kp 10 (one_till (j := 9) (by kernel_rfl) (by cases hq : b 9 with | false => rfl | true => (exfalso; have q8 := hcl 9 _ rfl hq ⟨8, .data⟩ (by simp) rfl; have q3 := hcl 8 _ rfl q8 ⟨3, .data⟩ (by simp) rfl; have q0 := hcl 3 _ rfl q3 ⟨0, .data⟩ (by simp) rfl; rw [hb] at q0; cases q0)))).trans b10
      refine doesg_value rfl (by intro c h; cases h) (v := .slice (some ⟨gl, 0, none⟩) m cl) (w' := W) ?_ ⟨g, fun _ _ => rfl, (vv0 g).symm, ?_⟩
      · simp [execOp, go_sem, e10]
      · simpa [did] using hS
    | 1 =>
      simp only [List.getElem?_toArray, List.getElem?_cons_zero, List.getElem?_cons_succ, Option.some.injEq] at ho
      subst ho
      have e14 : a.tmps[14]?.getD undef = .int .i64 (bb : Nat) := (kp 14 (none_till (by kernel_rfl))).trans b14
      refine doesg_value rfl (by intro c h; cases h) (v := .int .i64 (bb : Nat)) (w' := W) ?_ ⟨g, fun _ _ => rfl, (vv1 g).symm, ?_⟩
      · simp [execOp, go_sem, e14]
      · simpa [did] using hS
    | 2 =>
      simp only [List.getElem?_toArray, List.getElem?_cons_zero, List.getElem?_cons_succ, Option.some.injEq] at ho
      subst ho
      have e14 : a.tmps[14]?.getD undef = .int .i64 (bb : Nat) := (kp 14 (none_till (by kernel_rfl))).trans b14
      refine doesg_value rfl (by intro c h; cases h) (v := .int .i64 (bb : Nat)) (w' := W) ?_ ⟨g, fun _ _ => rfl, (vv2 g).symm, ?_⟩
      · simp [execOp, go_sem, e14]
      · simpa [did] using hS
    | 3 =>
      simp only [List.getElem?_toArray, List.getElem?_cons_zero, List.getElem?_cons_succ, Option.some.injEq] at ho
      subst ho
      have p0 : b 0 = true := hd ⟨0, .data⟩ (by simp) rfl
      have p1 : b 1 = true := hd ⟨1, .data⟩ (by simp) rfl
      have p2 : b 2 = true := hd ⟨2, .data⟩ (by simp) rfl
      have e124 := (ev 0 124 rfl p0).trans (vv0 g)
      have e125 := (ev 1 125 rfl p1).trans (vv1 g)
      have e126 := (ev 2 126 rfl p2).trans (vv2 g)
      refine doesg_value rfl (by intro c h; cases h) (v := .slice (some ⟨gl, 0, none⟩) bb bb) (w' := W) ?_ ⟨g, fun _ _ => rfl, (vv3 g).symm, ?_⟩
      · simp [execOp, Act.eval, e124, e125, e126, hH W]
      · simpa [did] using hS
    | 4 =>
      simp only [List.getElem?_toArray, List.getElem?_cons_zero, List.getElem?_cons_succ, Option.some.injEq] at ho
      subst ho
      have e10 : a.tmps[10]?.getD undef = .slice (some ⟨gl, 0, none⟩) m cl := (kp 10 (one_till (j := 9) (by kernel_rfl) (by cases hq : b 9 with | false => rfl | true => (exfalso; have q8 := hcl 9 _ rfl hq ⟨8, .data⟩ (by simp) rfl; have q7 := hcl 8 _ rfl q8 ⟨7, .data⟩ (by simp) rfl; have q4 := hcl 7 _ rfl q7 ⟨4, .data⟩ (by simp) rfl; rw [hb] at q4; cases q4)))).trans b10
      refine doesg_value rfl (by intro c h; cases h) (v := .slice (some ⟨gl, 0, none⟩) m cl) (w' := W) ?_ ⟨g, fun _ _ => rfl, (vv4 g).symm, ?_⟩
      · simp [execOp, go_sem, e10]
      · simpa [did] using hS
    | 5 =>
      simp only [List.getElem?_toArray, List.getElem?_cons_zero, List.getElem?_cons_succ, Option.some.injEq] at ho
      subst ho
      have e14 : a.tmps[14]?.getD undef = .int .i64 (bb : Nat) := (kp 14 (none_till (by kernel_rfl))).trans b14
      refine doesg_value rfl (by intro c h; cases h) (v := .int .i64 (bb : Nat)) (w' := W) ?_ ⟨g, fun _ _ => rfl, (vv5 g).symm, ?_⟩
      · simp [execOp, go_sem, e14]
      · simpa [did] using hS
    | 6 =>
      simp only [List.getElem?_toArray, List.getElem?_cons_zero, List.getElem?_cons_succ, Option.some.injEq] at ho
      subst ho
      have p5 : b 5 = true := hd ⟨5, .data⟩ (by simp) rfl
      have e129 := (ev 5 129 rfl p5).trans (vv5 g)
      refine doesg_value rfl (by intro c h; cases h) (v := .int .i64 (b1 : Nat)) (w' := W) ?_ ⟨g, fun _ _ => rfl, (vv6 g).symm, ?_⟩
      · simp [execOp, go_sem, e129, hb1, hwr]
      · simpa [did] using hS
    | 7 =>
      simp only [List.getElem?_toArray, List.getElem?_cons_zero, List.getElem?_cons_succ, Option.some.injEq] at ho
      subst ho
      have p4 : b 4 = true := hd ⟨4, .data⟩ (by simp) rfl
      have p6 : b 6 = true := hd ⟨6, .data⟩ (by simp) rfl
      have e128 := (ev 4 128 rfl p4).trans (vv4 g)
      have e130 := (ev 6 130 rfl p6).trans (vv6 g)
      refine doesg_value rfl (by intro c h; cases h) (v := .slice tp tn tc) (w' := W) ?_ ⟨g, fun _ _ => rfl, (vv7 g).symm, ?_⟩
      · simp [execOp, Act.eval, e128, e130, hT W]
      · simpa [did] using hS
    | 8 =>
      simp only [List.getElem?_toArray, List.getElem?_cons_zero, List.getElem?_cons_succ, Option.some.injEq] at ho
      subst ho
      have p3 : b 3 = true := hd ⟨3, .data⟩ (by simp) rfl
      have p7 : b 7 = true := hd ⟨7, .data⟩ (by simp) rfl
      have e127 := (ev 3 127 rfl p3).trans (vv3 g)
      have e131 := (ev 7 131 rfl p7).trans (vv7 g)
      rw [hb] at hS
      have hW : W = w9.drew := hS
      subst hW
      have hs127 := (show a.eval (.tmp 127) = a.tmps[127]?.getD undef by simp [Act.eval]).trans e127
      have hs131 := (show a.eval (.tmp 131) = a.tmps[131]?.getD undef by simp [Act.eval]).trans e131
      refine doesg_value rfl (by intro c h; cases h) (v := v2) (w' := W2) ?_ ⟨g, fun _ _ => rfl, (vv8 g).symm, ?_⟩
      · simp only [execOp, resolve, invoke, builtin, Sem.run_bind, Sem.run_pure, Result.andThen_ok, List.map_toArray, List.map_cons, List.map_nil, hs127, hs131, hr]
      · simp [did]
    | 9 =>
      simp only [List.getElem?_toArray, List.getElem?_cons_zero, List.getElem?_cons_succ, Option.some.injEq] at ho
      subst ho
      have p8 : b 8 = true := hd ⟨8, .data⟩ (by simp) rfl
      have e132 := (ev 8 132 rfl p8).trans (vv8 g)
      refine doesg_value rfl (by intro c h; cases h) (v := v2) (w' := W) ?_ ⟨g, fun _ _ => rfl, (vv9 g).symm, ?_⟩
      · simp [execOp, go_sem, e132]
      · simpa [did] using hS
    | k + 10 => simp at ho
  · intro g b W hS hall
    rw [hall 8 (by decide)] at hS
    have hW : W = W2 := hS
    clear hS
    subst hW
    subst hLe
    exact hQ

end Go.Proofs.Ytgophojgofmkeaa.Ck
