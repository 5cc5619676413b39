/-
  Drawn regions of TreeSound.
-/
import Derived.Test.YtgpbphjplbhfmaaQPsb
import Derived.Test.YtgpbphjplbhfmaaKRgh

namespace Go.Proofs.Ytgpbphjplbhfmaa.Ck.Y.S
open Go.RowKit Go.Lib Go.Maps

attribute [local go_sem] Oper.semAt_some

set_option maxRecDepth 8000 in
set_option maxHeartbeats 4000000 in
theorem ts23 {Q : Exit → Act → World → Prop} {base : Array Value} {dd : List Deferred} {ops : Array Oper} (hops : Try.f3.body.bind (regs 23) = some ops) (gk m cm K ib : Nat) (a1 a2 b1 b2 : Int) (r : Bool) (w9 : World) (hsz : base.size = 132)
    (b13 : base.getD 13 undef = .slice (some ⟨gk, 0, none⟩) m cm)
    (b14 : base.getD 14 undef = .int .i64 (K : Nat))
    (b8 : base.getD 8 undef = .pointer (some ⟨ib, 0, none⟩))
    (hK : K < m) (hk0 : w9.cell? ⟨gk, K * 2, none⟩ = some (.int .i64 a1)) (hk1 : w9.cell? ⟨gk, K * 2 + 1, none⟩ = some (.int .i64 a2)) (hi0 : w9.cell? ⟨ib, 0, none⟩ = some (.int .i64 b1)) (hi1 : w9.cell? ⟨ib, 1, none⟩ = some (.int .i64 b2))
    (cS : ∀ W, Below w9.heap.size w9 W → Calls Try.prog 16 #[.agg #[.int .i64 a1, .int .i64 a2], .agg #[.int .i64 b1, .int .i64 b2]] W fun e w' => e = .returned (.bool r) ∧ Below W.heap.size W w')
    (hQ : ∀ W, Below w9.heap.size w9 W → Q .normal ⟨putAll base [(some 87, .slice (some ⟨gk, 0, none⟩) m cm), (some 88, .int .i64 (K : Nat)), (some 89, .pointer (some ⟨gk, K * 2, none⟩)), (some 90, .agg #[.int .i64 a1, .int .i64 a2]), (some 91, .agg #[.int .i64 b1, .int .i64 b2]), (some 92, .bool r)], dd⟩ W) :
    (Code.region 23 ops true).wp Try.prog Q ⟨base, dd⟩ w9 := by
  have hmix : Try.prog.follows .mixedOrders = true := by kernel_rfl
  have h2 := (show Try.f3.body.bind (regs 23) = some _ from rfl).symm.trans hops
  obtain rfl := Option.some.inj h2
  clear h2 hops
  obtain ⟨LL, hLe⟩ : ∃ LL : List (Option Tmp × Option Value), LL = [(some 87, some (.slice (some ⟨gk, 0, none⟩) m cm)), (some 88, some (.int .i64 (K : Nat))), (some 89, some (.pointer (some ⟨gk, K * 2, none⟩))), (some 90, some (.agg #[.int .i64 a1, .int .i64 a2])), (some 91, some (.agg #[.int .i64 b1, .int .i64 b2])), (some 92, some (.bool r))] := ⟨_, rfl⟩
  have tv0 : tv LL 0 = some (.slice (some ⟨gk, 0, none⟩) m cm) := by rw [hLe]; rfl
  have tv1 : tv LL 1 = some (.int .i64 (K : Nat)) := by rw [hLe]; rfl
  have tv2 : tv LL 2 = some (.pointer (some ⟨gk, K * 2, none⟩)) := by rw [hLe]; rfl
  have tv3 : tv LL 3 = some (.agg #[.int .i64 a1, .int .i64 a2]) := by rw [hLe]; rfl
  have tv4 : tv LL 4 = some (.agg #[.int .i64 b1, .int .i64 b2]) := by rw [hLe]; rfl
  have tv5 : tv LL 5 = some (.bool r) := by rw [hLe]; rfl
  refine region_gh hmix (by kernel_rfl) 132 hsz (by kernel_rfl) LL (by rw [hLe]; rfl) (fun i v W => True) ?_ ?_ ?_
  · intro i v W W' h hb
    exact trivial
  · intro g b W io o a hS hF hcl ho hb hd ev kp yl
    match io with
    | 0 =>
      simp only [List.getElem?_toArray, List.getElem?_cons_zero, Option.some.injEq] at ho
      subst ho
      rw [tv0]
      show Does Try.prog _ a W _ (.slice (some ⟨gk, 0, none⟩) m cm) (Below W.heap.size W)
      have e13 : a.tmps[13]?.getD undef = .slice (some ⟨gk, 0, none⟩) m cm := (kp 13 (none_till (by kernel_rfl))).trans b13
      refine does_value rfl (by intro c h; cases h) (w' := W) ?_ (Below.refl _ _)
      · simp [execOp, go_sem, e13]
    | 1 =>
      simp only [List.getElem?_toArray, List.getElem?_cons_zero, List.getElem?_cons_succ, Option.some.injEq] at ho
      subst ho
      rw [tv1]
      show Does Try.prog _ a W _ (.int .i64 (K : Nat)) (Below W.heap.size W)
      have e14 : a.tmps[14]?.getD undef = .int .i64 (K : Nat) := (kp 14 (none_till (by kernel_rfl))).trans b14
      refine does_value rfl (by intro c h; cases h) (w' := W) ?_ (Below.refl _ _)
      · simp [execOp, go_sem, e14]
    | 2 =>
      simp only [List.getElem?_toArray, List.getElem?_cons_zero, List.getElem?_cons_succ, Option.some.injEq] at ho
      subst ho
      have p0 : b 0 = true := hd ⟨0, .data⟩ (by simp) rfl
      have p1 : b 1 = true := hd ⟨1, .data⟩ (by simp) rfl
      rw [tv2]
      show Does Try.prog _ a W _ (.pointer (some ⟨gk, K * 2, none⟩)) (Below W.heap.size W)
      have e87 : a.tmps[87]?.getD undef = .slice (some ⟨gk, 0, none⟩) m cm := (ev 0 87 rfl p0).trans (by rw [tv0]; rfl)
      have e88 : a.tmps[88]?.getD undef = .int .i64 (K : Nat) := (ev 1 88 rfl p1).trans (by rw [tv1]; rfl)
      refine does_value rfl (by intro c h; cases h) (w' := W) ?_ (Below.refl _ _)
      · simp [execOp, go_sem, e87, e88, hK]
    | 3 =>
      simp only [List.getElem?_toArray, List.getElem?_cons_zero, List.getElem?_cons_succ, Option.some.injEq] at ho
      subst ho
      have p2 : b 2 = true := hd ⟨2, .data⟩ (by simp) rfl
      rw [tv3]
      show Does Try.prog _ a W _ (.agg #[.int .i64 a1, .int .i64 a2]) (Below W.heap.size W)
      have e89 : a.tmps[89]?.getD undef = .pointer (some ⟨gk, K * 2, none⟩) := (ev 2 89 rfl p2).trans (by rw [tv2]; rfl)
      have d9_0 := (hS.cell (p := ⟨gk, K * 2, none⟩) (cell_lt hk0)).trans hk0
      have d9_1 := (hS.cell (p := ⟨gk, K * 2 + 1, none⟩) (cell_lt hk1)).trans hk1
      refine does_value rfl (by intro c h; cases h) (w' := W) ?_ (Below.refl _ _)
      · simp [execOp, go_sem, e89, d9_0, d9_1]
    | 4 =>
      simp only [List.getElem?_toArray, List.getElem?_cons_zero, List.getElem?_cons_succ, Option.some.injEq] at ho
      subst ho
      rw [tv4]
      show Does Try.prog _ a W _ (.agg #[.int .i64 b1, .int .i64 b2]) (Below W.heap.size W)
      have e8 : a.tmps[8]?.getD undef = .pointer (some ⟨ib, 0, none⟩) := (kp 8 (none_till (by kernel_rfl))).trans b8
      have d9_0 := (hS.cell (p := ⟨ib, 0, none⟩) (cell_lt hi0)).trans hi0
      have d9_1 := (hS.cell (p := ⟨ib, 1, none⟩) (cell_lt hi1)).trans hi1
      refine does_value rfl (by intro c h; cases h) (w' := W) ?_ (Below.refl _ _)
      · simp [execOp, go_sem, e8, d9_0, d9_1]
    | 5 =>
      simp only [List.getElem?_toArray, List.getElem?_cons_zero, List.getElem?_cons_succ, Option.some.injEq] at ho
      subst ho
      have p3 : b 3 = true := hd ⟨3, .data⟩ (by simp) rfl
      have p4 : b 4 = true := hd ⟨4, .data⟩ (by simp) rfl
      rw [tv5]
      show Does Try.prog _ a W _ (.bool r) (Below W.heap.size W)
      have e90 : a.tmps[90]?.getD undef = .agg #[.int .i64 a1, .int .i64 a2] := (ev 3 90 rfl p3).trans (by rw [tv3]; rfl)
      have e91 : a.tmps[91]?.getD undef = .agg #[.int .i64 b1, .int .i64 b2] := (ev 4 91 rfl p4).trans (by rw [tv4]; rfl)
      refine does_call rfl (by intro c h; cases h) (f := 16) (args := #[.agg #[.int .i64 a1, .int .i64 a2], .agg #[.int .i64 b1, .int .i64 b2]]) ?_ ?_
      · simp [go_sem, e90, e91]
      · exact cS W hS 
    | k + 6 => simp at ho
  · intro g W hS hF
    subst hLe
    exact hQ  W hS 

set_option maxRecDepth 8000 in
set_option maxHeartbeats 4000000 in
theorem ts30 {Q : Exit → Act → World → Prop} {base : Array Value} {dd : List Deferred} {ops : Array Oper} (hops : Try.f3.body.bind (regs 30) = some ops) (J : World → Prop) (g0 m cm K gt ib ab : Nat) (b1 b2 n : Int) (r : Bool) (w9 : World) (hsz : base.size = 132)
    (b12 : base.getD 12 undef = .int .i64 1)
    (b15 : base.getD 15 undef = .int .i64 (K : Nat))
    (b5 : base.getD 5 undef = .slice (some ⟨g0, 0, none⟩) m cm)
    (b4 : base.getD 4 undef = .pointer (some ⟨gt, 0, none⟩))
    (b8 : base.getD 8 undef = .pointer (some ⟨ib, 0, none⟩))
    (b16 : base.getD 16 undef = .pointer (some ⟨ab, 0, none⟩))
    (hJ0 : (J) w9.drew)
    (hle : ¬ (m : Int) < (K : Int)) (hr : (n == 0) = r)
    (hi0 : ∀ W, J W → W.cell? ⟨ib, 0, none⟩ = some (.int .i64 b1)) (hi1 : ∀ W, J W → W.cell? ⟨ib, 1, none⟩ = some (.int .i64 b2)) (ha1 : ∀ W, J W → W.cell? ⟨ab, 1, none⟩ = some (.int .i64 n))
    (cL : ∀ W, (J) W → Calls Try.prog 17 #[.pointer (some ⟨gt, 0, none⟩), .agg #[.int .i64 b1, .int .i64 b2]] W fun e w' => e = .returned (.bool r) ∧ (J) w')
    (hQ : ∀ W, (J) W → Q .normal ⟨putAll base [(some 114, .int .i64 1), (some 115, .bool false), (some 116, .bool false), (some 117, .int .i64 (K : Nat)), (some 118, .slice (some ⟨g0, 0, none⟩) m cm), (some 119, .int .i64 (m : Nat)), (some 120, .bool false), (some 121, .bool false), (some 122, .bool false), (some 123, .pointer (some ⟨gt, 0, none⟩)), (some 124, .agg #[.int .i64 b1, .int .i64 b2]), (some 125, .bool r), (some 126, .pointer (some ⟨ab, 1, none⟩)), (some 127, .int .i64 n), (some 128, .bool r), (some 129, .bool false), (some 130, .bool false)], dd⟩ W) :
    (Code.region 30 ops true).wp Try.prog Q ⟨base, dd⟩ w9 := by
  have hmix : Try.prog.follows .mixedOrders = true := by kernel_rfl
  have h2 := (show Try.f3.body.bind (regs 30) = some _ from rfl).symm.trans hops
  obtain rfl := Option.some.inj h2
  clear h2 hops
  obtain ⟨LL, hLe⟩ : ∃ LL : List (Option Tmp × Option Value), LL = [(some 114, some (.int .i64 1)), (some 115, some (.bool false)), (some 116, some (.bool false)), (some 117, some (.int .i64 (K : Nat))), (some 118, some (.slice (some ⟨g0, 0, none⟩) m cm)), (some 119, some (.int .i64 (m : Nat))), (some 120, some (.bool false)), (some 121, some (.bool false)), (some 122, some (.bool false)), (some 123, some (.pointer (some ⟨gt, 0, none⟩))), (some 124, some (.agg #[.int .i64 b1, .int .i64 b2])), (some 125, some (.bool r)), (some 126, some (.pointer (some ⟨ab, 1, none⟩))), (some 127, some (.int .i64 n)), (some 128, some (.bool r)), (some 129, some (.bool false)), (some 130, some (.bool false))] := ⟨_, rfl⟩
  have tv0 : tv LL 0 = some (.int .i64 1) := by rw [hLe]; rfl
  have tv1 : tv LL 1 = some (.bool false) := by rw [hLe]; rfl
  have tv2 : tv LL 2 = some (.bool false) := by rw [hLe]; rfl
  have tv3 : tv LL 3 = some (.int .i64 (K : Nat)) := by rw [hLe]; rfl
  have tv4 : tv LL 4 = some (.slice (some ⟨g0, 0, none⟩) m cm) := by rw [hLe]; rfl
  have tv5 : tv LL 5 = some (.int .i64 (m : Nat)) := by rw [hLe]; rfl
  have tv6 : tv LL 6 = some (.bool false) := by rw [hLe]; rfl
  have tv7 : tv LL 7 = some (.bool false) := by rw [hLe]; rfl
  have tv8 : tv LL 8 = some (.bool false) := by rw [hLe]; rfl
  have tv9 : tv LL 9 = some (.pointer (some ⟨gt, 0, none⟩)) := by rw [hLe]; rfl
  have tv10 : tv LL 10 = some (.agg #[.int .i64 b1, .int .i64 b2]) := by rw [hLe]; rfl
  have tv11 : tv LL 11 = some (.bool r) := by rw [hLe]; rfl
  have tv12 : tv LL 12 = some (.pointer (some ⟨ab, 1, none⟩)) := by rw [hLe]; rfl
  have tv13 : tv LL 13 = some (.int .i64 n) := by rw [hLe]; rfl
  have tv14 : tv LL 14 = some (.bool r) := by rw [hLe]; rfl
  have tv15 : tv LL 15 = some (.bool false) := by rw [hLe]; rfl
  have tv16 : tv LL 16 = some (.bool false) := by rw [hLe]; rfl
  refine region_gj hmix (by kernel_rfl) 132 hsz (by kernel_rfl) LL (by rw [hLe]; rfl) (J) ((fun (_ _ : World) => True)) hJ0 (fun i v W => True) ?_ ?_ ?_
  · intro i v W W' h hb
    exact trivial
  · intro g b W io o a hS hF hcl ho hb hd ev kp yl
    match io with
    | 0 =>
      simp only [List.getElem?_toArray, List.getElem?_cons_zero, Option.some.injEq] at ho
      subst ho
      rw [tv0]
      show Does Try.prog _ a W _ (.int .i64 1) (fun W' => (J) W' ∧ ((fun (_ _ : World) => True)) W W')
      have e12 : a.tmps[12]?.getD undef = .int .i64 1 := (kp 12 (none_till (by kernel_rfl))).trans b12
      refine does_value rfl (by intro c h; cases h) (w' := W) ?_ ⟨hS, trivial⟩
      · simp [execOp, go_sem, e12]
    | 1 =>
      simp only [List.getElem?_toArray, List.getElem?_cons_zero, List.getElem?_cons_succ, Option.some.injEq] at ho
      subst ho
      have p0 : b 0 = true := hd ⟨0, .data⟩ (by simp) rfl
      rw [tv1]
      show Does Try.prog _ a W _ (.bool false) (fun W' => (J) W' ∧ ((fun (_ _ : World) => True)) W W')
      have e114 : a.tmps[114]?.getD undef = .int .i64 1 := (ev 0 114 rfl p0).trans (by rw [tv0]; rfl)
      refine does_value rfl (by intro c h; cases h) (w' := W) ?_ ⟨hS, trivial⟩
      · simp [execOp, go_sem, e114]
    | 2 =>
      simp only [List.getElem?_toArray, List.getElem?_cons_zero, List.getElem?_cons_succ, Option.some.injEq] at ho
      subst ho
      have p1 : b 1 = true := hd ⟨1, .data⟩ (by simp) rfl
      rw [tv2]
      show Does Try.prog _ a W _ (.bool false) (fun W' => (J) W' ∧ ((fun (_ _ : World) => True)) W W')
      have e115 : a.tmps[115]?.getD undef = .bool false := (ev 1 115 rfl p1).trans (by rw [tv1]; rfl)
      refine does_value rfl (by intro c h; cases h) (w' := W) ?_ ⟨hS, trivial⟩
      · simp [execOp, go_sem, e115]
    | 3 =>
      simp only [List.getElem?_toArray, List.getElem?_cons_zero, List.getElem?_cons_succ, Option.some.injEq] at ho
      subst ho
      have p2 : b 2 = true := hd ⟨2, .guard⟩ (by simp) rfl
      rw [tv3]
      show Does Try.prog _ a W _ (.int .i64 (K : Nat)) (fun W' => (J) W' ∧ ((fun (_ _ : World) => True)) W W')
      have e15 : a.tmps[15]?.getD undef = .int .i64 (K : Nat) := (kp 15 (none_till (by kernel_rfl))).trans b15
      refine does_value_g rfl (yl 2 116 false rfl p2 tv2) (by intro c h; cases h) (w' := W) ?_ ⟨hS, trivial⟩
      · simp [execOp, go_sem, e15]
    | 4 =>
      simp only [List.getElem?_toArray, List.getElem?_cons_zero, List.getElem?_cons_succ, Option.some.injEq] at ho
      subst ho
      have p2 : b 2 = true := hd ⟨2, .guard⟩ (by simp) rfl
      rw [tv4]
      show Does Try.prog _ a W _ (.slice (some ⟨g0, 0, none⟩) m cm) (fun W' => (J) W' ∧ ((fun (_ _ : World) => True)) W W')
      have e5 : a.tmps[5]?.getD undef = .slice (some ⟨g0, 0, none⟩) m cm := (kp 5 (none_till (by kernel_rfl))).trans b5
      refine does_value_g rfl (yl 2 116 false rfl p2 tv2) (by intro c h; cases h) (w' := W) ?_ ⟨hS, trivial⟩
      · simp [execOp, go_sem, e5]
    | 5 =>
      simp only [List.getElem?_toArray, List.getElem?_cons_zero, List.getElem?_cons_succ, Option.some.injEq] at ho
      subst ho
      have p4 : b 4 = true := hd ⟨4, .data⟩ (by simp) rfl
      have p2 : b 2 = true := hd ⟨2, .guard⟩ (by simp) rfl
      rw [tv5]
      show Does Try.prog _ a W _ (.int .i64 (m : Nat)) (fun W' => (J) W' ∧ ((fun (_ _ : World) => True)) W W')
      have e118 : a.tmps[118]?.getD undef = .slice (some ⟨g0, 0, none⟩) m cm := (ev 4 118 rfl p4).trans (by rw [tv4]; rfl)
      refine does_value_g rfl (yl 2 116 false rfl p2 tv2) (by intro c h; cases h) (w' := W) ?_ ⟨hS, trivial⟩
      · simp [go_sem, e118]
    | 6 =>
      simp only [List.getElem?_toArray, List.getElem?_cons_zero, List.getElem?_cons_succ, Option.some.injEq] at ho
      subst ho
      have p3 : b 3 = true := hd ⟨3, .data⟩ (by simp) rfl
      have p5 : b 5 = true := hd ⟨5, .data⟩ (by simp) rfl
      have p2 : b 2 = true := hd ⟨2, .guard⟩ (by simp) rfl
      rw [tv6]
      show Does Try.prog _ a W _ (.bool false) (fun W' => (J) W' ∧ ((fun (_ _ : World) => True)) W W')
      have e117 : a.tmps[117]?.getD undef = .int .i64 (K : Nat) := (ev 3 117 rfl p3).trans (by rw [tv3]; rfl)
      have e119 : a.tmps[119]?.getD undef = .int .i64 (m : Nat) := (ev 5 119 rfl p5).trans (by rw [tv5]; rfl)
      refine does_value_g rfl (yl 2 116 false rfl p2 tv2) (by intro c h; cases h) (w' := W) ?_ ⟨hS, trivial⟩
      · simp [execOp, go_sem, e117, e119, hle]
    | 7 =>
      simp only [List.getElem?_toArray, List.getElem?_cons_zero, List.getElem?_cons_succ, Option.some.injEq] at ho
      subst ho
      have p2 : b 2 = true := hd ⟨2, .data⟩ (by simp) rfl
      have p6 : b 6 = true := hd ⟨6, .data⟩ (by simp) rfl
      rw [tv7]
      show Does Try.prog _ a W _ (.bool false) (fun W' => (J) W' ∧ ((fun (_ _ : World) => True)) W W')
      have e116 : a.tmps[116]?.getD undef = .bool false := (ev 2 116 rfl p2).trans (by rw [tv2]; rfl)
      have e120 : a.tmps[120]?.getD undef = .bool false := (ev 6 120 rfl p6).trans (by rw [tv6]; rfl)
      refine does_value rfl (by intro c h; cases h) (w' := W) ?_ ⟨hS, trivial⟩
      · simp [execOp, go_sem, e116, e120]
    | 8 =>
      simp only [List.getElem?_toArray, List.getElem?_cons_zero, List.getElem?_cons_succ, Option.some.injEq] at ho
      subst ho
      have p7 : b 7 = true := hd ⟨7, .data⟩ (by simp) rfl
      rw [tv8]
      show Does Try.prog _ a W _ (.bool false) (fun W' => (J) W' ∧ ((fun (_ _ : World) => True)) W W')
      have e121 : a.tmps[121]?.getD undef = .bool false := (ev 7 121 rfl p7).trans (by rw [tv7]; rfl)
      refine does_value rfl (by intro c h; cases h) (w' := W) ?_ ⟨hS, trivial⟩
      · simp [execOp, go_sem, e121]
    | 9 =>
      simp only [List.getElem?_toArray, List.getElem?_cons_zero, List.getElem?_cons_succ, Option.some.injEq] at ho
      subst ho
      have p8 : b 8 = true := hd ⟨8, .guard⟩ (by simp) rfl
      rw [tv9]
      show Does Try.prog _ a W _ (.pointer (some ⟨gt, 0, none⟩)) (fun W' => (J) W' ∧ ((fun (_ _ : World) => True)) W W')
      have e4 : a.tmps[4]?.getD undef = .pointer (some ⟨gt, 0, none⟩) := (kp 4 (none_till (by kernel_rfl))).trans b4
      refine does_value_g rfl (yl 8 122 false rfl p8 tv8) (by intro c h; cases h) (w' := W) ?_ ⟨hS, trivial⟩
      · simp [execOp, go_sem, e4]
    | 10 =>
      simp only [List.getElem?_toArray, List.getElem?_cons_zero, List.getElem?_cons_succ, Option.some.injEq] at ho
      subst ho
      have p8 : b 8 = true := hd ⟨8, .guard⟩ (by simp) rfl
      rw [tv10]
      show Does Try.prog _ a W _ (.agg #[.int .i64 b1, .int .i64 b2]) (fun W' => (J) W' ∧ ((fun (_ _ : World) => True)) W W')
      have e8 : a.tmps[8]?.getD undef = .pointer (some ⟨ib, 0, none⟩) := (kp 8 (none_till (by kernel_rfl))).trans b8
      have d9_0 := hi0 W hS
      have d9_1 := hi1 W hS
      refine does_value_g rfl (yl 8 122 false rfl p8 tv8) (by intro c h; cases h) (w' := W) ?_ ⟨hS, trivial⟩
      · simp [execOp, go_sem, e8, d9_0, d9_1]
    | 11 =>
      simp only [List.getElem?_toArray, List.getElem?_cons_zero, List.getElem?_cons_succ, Option.some.injEq] at ho
      subst ho
      have p9 : b 9 = true := hd ⟨9, .data⟩ (by simp) rfl
      have p10 : b 10 = true := hd ⟨10, .data⟩ (by simp) rfl
      have p8 : b 8 = true := hd ⟨8, .guard⟩ (by simp) rfl
      rw [tv11]
      show Does Try.prog _ a W _ (.bool r) (fun W' => (J) W' ∧ ((fun (_ _ : World) => True)) W W')
      have e123 : a.tmps[123]?.getD undef = .pointer (some ⟨gt, 0, none⟩) := (ev 9 123 rfl p9).trans (by rw [tv9]; rfl)
      have e124 : a.tmps[124]?.getD undef = .agg #[.int .i64 b1, .int .i64 b2] := (ev 10 124 rfl p10).trans (by rw [tv10]; rfl)
      refine does_call_g rfl (yl 8 122 false rfl p8 tv8) (by intro c h; cases h) (f := 17) (args := #[.pointer (some ⟨gt, 0, none⟩), .agg #[.int .i64 b1, .int .i64 b2]]) ?_ ?_
      · simp [go_sem, e123, e124]
      · exact (cL W hS ).mono fun e w' h => ⟨h.1, h.2, trivial⟩
    | 12 =>
      simp only [List.getElem?_toArray, List.getElem?_cons_zero, List.getElem?_cons_succ, Option.some.injEq] at ho
      subst ho
      have p8 : b 8 = true := hd ⟨8, .guard⟩ (by simp) rfl
      rw [tv12]
      show Does Try.prog _ a W _ (.pointer (some ⟨ab, 1, none⟩)) (fun W' => (J) W' ∧ ((fun (_ _ : World) => True)) W W')
      have e16 : a.tmps[16]?.getD undef = .pointer (some ⟨ab, 0, none⟩) := (kp 16 (none_till (by kernel_rfl))).trans b16
      refine does_value_g rfl (yl 8 122 false rfl p8 tv8) (by intro c h; cases h) (w' := W) ?_ ⟨hS, trivial⟩
      · simp [execOp, go_sem, e16]
    | 13 =>
      simp only [List.getElem?_toArray, List.getElem?_cons_zero, List.getElem?_cons_succ, Option.some.injEq] at ho
      subst ho
      have p12 : b 12 = true := hd ⟨12, .data⟩ (by simp) rfl
      have p8 : b 8 = true := hd ⟨8, .guard⟩ (by simp) rfl
      rw [tv13]
      show Does Try.prog _ a W _ (.int .i64 n) (fun W' => (J) W' ∧ ((fun (_ _ : World) => True)) W W')
      have e126 : a.tmps[126]?.getD undef = .pointer (some ⟨ab, 1, none⟩) := (ev 12 126 rfl p12).trans (by rw [tv12]; rfl)
      have d9_0 := ha1 W hS
      refine does_value_g rfl (yl 8 122 false rfl p8 tv8) (by intro c h; cases h) (w' := W) ?_ ⟨hS, trivial⟩
      · simp [execOp, go_sem, e126, d9_0]
    | 14 =>
      simp only [List.getElem?_toArray, List.getElem?_cons_zero, List.getElem?_cons_succ, Option.some.injEq] at ho
      subst ho
      have p13 : b 13 = true := hd ⟨13, .data⟩ (by simp) rfl
      have p8 : b 8 = true := hd ⟨8, .guard⟩ (by simp) rfl
      rw [tv14]
      show Does Try.prog _ a W _ (.bool r) (fun W' => (J) W' ∧ ((fun (_ _ : World) => True)) W W')
      have e127 : a.tmps[127]?.getD undef = .int .i64 n := (ev 13 127 rfl p13).trans (by rw [tv13]; rfl)
      refine does_value_g rfl (yl 8 122 false rfl p8 tv8) (by intro c h; cases h) (w' := W) ?_ ⟨hS, trivial⟩
      · simp [execOp, go_sem, e127, hr]
    | 15 =>
      simp only [List.getElem?_toArray, List.getElem?_cons_zero, List.getElem?_cons_succ, Option.some.injEq] at ho
      subst ho
      have p11 : b 11 = true := hd ⟨11, .data⟩ (by simp) rfl
      have p14 : b 14 = true := hd ⟨14, .data⟩ (by simp) rfl
      have p8 : b 8 = true := hd ⟨8, .guard⟩ (by simp) rfl
      rw [tv15]
      show Does Try.prog _ a W _ (.bool false) (fun W' => (J) W' ∧ ((fun (_ _ : World) => True)) W W')
      have e125 : a.tmps[125]?.getD undef = .bool r := (ev 11 125 rfl p11).trans (by rw [tv11]; rfl)
      have e128 : a.tmps[128]?.getD undef = .bool r := (ev 14 128 rfl p14).trans (by rw [tv14]; rfl)
      refine does_value_g rfl (yl 8 122 false rfl p8 tv8) (by intro c h; cases h) (w' := W) ?_ ⟨hS, trivial⟩
      · simp [execOp, go_sem, e125, e128]
    | 16 =>
      simp only [List.getElem?_toArray, List.getElem?_cons_zero, List.getElem?_cons_succ, Option.some.injEq] at ho
      subst ho
      have p8 : b 8 = true := hd ⟨8, .data⟩ (by simp) rfl
      have p15 : b 15 = true := hd ⟨15, .data⟩ (by simp) rfl
      rw [tv16]
      show Does Try.prog _ a W _ (.bool false) (fun W' => (J) W' ∧ ((fun (_ _ : World) => True)) W W')
      have e122 : a.tmps[122]?.getD undef = .bool false := (ev 8 122 rfl p8).trans (by rw [tv8]; rfl)
      have e129 : a.tmps[129]?.getD undef = .bool false := (ev 15 129 rfl p15).trans (by rw [tv15]; rfl)
      refine does_value rfl (by intro c h; cases h) (w' := W) ?_ ⟨hS, trivial⟩
      · simp [execOp, go_sem, e122, e129]
    | k + 17 => simp at ho
  · intro g W hS hF
    subst hLe
    exact hQ  W hS 

end Go.Proofs.Ytgpbphjplbhfmaa.Ck.Y.S
