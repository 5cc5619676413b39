/-
  An entry is taken out: the drawn regions of takeOut.
-/
import Derived.Test.YtdocablbkafkiaaDoorJa
import Derived.Test.YtdocablbkafkiaaDoorHr
namespace Go.Proofs.YtdocablbkafkiaaDoor.Cd
open Go.RowKit

set_option maxRecDepth 8000 in
set_option maxHeartbeats 4000000 in
theorem take_reg1 {Q : Exit → Act → World → Prop} {base : Array Value} {d : List Deferred} {ops : Array Oper} (hops : Tryd.f25.body.bind (regs 1) = some ops) (aD Bk nD cD xi hx nv cv : Nat) (pv : Option Addr) (full : Bool) (w1 : World) (hsz : base.size = 55)
    (b0 : base.getD 0 undef = .pointer (some ⟨aD, 0, none⟩)) (b3 : base.getD 3 undef = .pointer (some ⟨hx, 0, none⟩))
    (dA : w1.cell? ⟨aD, 1, none⟩ = some (.slice (some ⟨Bk, 0, none⟩) nD cD)) (x0 : w1.cell? ⟨hx, 0, none⟩ = some (.int .i64 (xi : Nat))) (dB : w1.cell? ⟨Bk, xi, none⟩ = some (.slice pv nv cv)) (hxi : xi < nD) (hfull : ((nv : Int) == 7) = full)
    (hQ : ∀ W, Below w1.heap.size w1 W → Q .normal ⟨putAll base [(some 7, .pointer (some ⟨aD, 0, none⟩)), (some 8, .pointer (some ⟨aD, 0, none⟩)), (some 9, .pointer (some ⟨aD, 1, none⟩)), (some 10, .slice (some ⟨Bk, 0, none⟩) nD cD), (some 11, .pointer (some ⟨hx, 0, none⟩)), (some 12, .int .i64 (xi : Nat)), (some 13, .pointer (some ⟨Bk, xi, none⟩)), (some 14, .slice pv nv cv), (some 15, .int .i64 (nv : Nat)), (some 16, .bool full), (some 4, .bool full)], d⟩ W) :
    (Code.region 1 ops true).wp Tryd.prog Q ⟨base, d⟩ w1 := by
  have hmix : Tryd.prog.follows .mixedOrders = true := by kernel_rfl
  have h2 := (show Tryd.f25.body.bind (regs 1) = some _ from rfl).symm.trans hops
  obtain rfl := Option.some.inj h2
  clear h2 hops
  have below1 : Below w1.heap.size w1 w1.drew := (Below.refl _ _).drew
  obtain ⟨LL, hLe⟩ : ∃ LL : List (Option Tmp × Value), LL = [(some 7, .pointer (some ⟨aD, 0, none⟩)), (some 8, .pointer (some ⟨aD, 0, none⟩)), (some 9, .pointer (some ⟨aD, 1, none⟩)), (some 10, .slice (some ⟨Bk, 0, none⟩) nD cD), (some 11, .pointer (some ⟨hx, 0, none⟩)), (some 12, .int .i64 (xi : Nat)), (some 13, .pointer (some ⟨Bk, xi, none⟩)), (some 14, .slice pv nv cv), (some 15, .int .i64 (nv : Nat)), (some 16, .bool full), (some 4, .bool full)] := ⟨_, rfl⟩
  have vv0 : vals LL 0 = .pointer (some ⟨aD, 0, none⟩) := by rw [hLe]; rfl
  have vv1 : vals LL 1 = .pointer (some ⟨aD, 0, none⟩) := by rw [hLe]; rfl
  have vv2 : vals LL 2 = .pointer (some ⟨aD, 1, none⟩) := by rw [hLe]; rfl
  have vv3 : vals LL 3 = .slice (some ⟨Bk, 0, none⟩) nD cD := by rw [hLe]; rfl
  have vv4 : vals LL 4 = .pointer (some ⟨hx, 0, none⟩) := by rw [hLe]; rfl
  have vv5 : vals LL 5 = .int .i64 (xi : Nat) := by rw [hLe]; rfl
  have vv6 : vals LL 6 = .pointer (some ⟨Bk, xi, none⟩) := by rw [hLe]; rfl
  have vv7 : vals LL 7 = .slice pv nv cv := by rw [hLe]; rfl
  have vv8 : vals LL 8 = .int .i64 (nv : Nat) := by rw [hLe]; rfl
  have vv9 : vals LL 9 = .bool full := by rw [hLe]; rfl
  have vv10 : vals LL 10 = .bool full := by rw [hLe]; rfl
  refine region_laid hmix (by kernel_rfl) 55 hsz (by kernel_rfl) LL (by rw [hLe]; rfl) (fun _ W => Below w1.heap.size w1 W) below1 ?_ ?_
  · intro b W i o a hS hcl ho hb hd ev kp yl
    match i with
    | 0 =>
      simp only [List.getElem?_toArray, List.getElem?_cons_zero, Option.some.injEq] at ho
      subst ho
      have e0 : a.tmps[0]?.getD undef = .pointer (some ⟨aD, 0, none⟩) := (kp 0 (by kernel_rfl)).trans b0
      rw [vv0]
      refine does_value rfl (by intro c h; cases h) (w' := W) ?_ (hS)
      · simp [execOp, go_sem, e0]
    | 1 =>
      simp only [List.getElem?_toArray, List.getElem?_cons_zero, List.getElem?_cons_succ, Option.some.injEq] at ho
      subst ho
      have p0 : b 0 = true := hd ⟨0, .data⟩ (by simp) rfl
      have e7 := (ev 0 7 rfl p0).trans vv0
      rw [vv1]
      refine does_value rfl (by intro c h; cases h) (w' := W) ?_ (hS)
      · simp [execOp, go_sem, e7]
    | 2 =>
      simp only [List.getElem?_toArray, List.getElem?_cons_zero, List.getElem?_cons_succ, Option.some.injEq] at ho
      subst ho
      have p1 : b 1 = true := hd ⟨1, .data⟩ (by simp) rfl
      have e8 := (ev 1 8 rfl p1).trans vv1
      rw [vv2]
      refine does_value rfl (by intro c h; cases h) (w' := W) ?_ (hS)
      · simp [execOp, go_sem, e8]
    | 3 =>
      simp only [List.getElem?_toArray, List.getElem?_cons_zero, List.getElem?_cons_succ, Option.some.injEq] at ho
      subst ho
      have p2 : b 2 = true := hd ⟨2, .data⟩ (by simp) rfl
      have e9 := (ev 2 9 rfl p2).trans vv2
      have hl := (hS.cell (p := ⟨aD, 1, none⟩) (cell_lt dA)).trans dA
      rw [vv3]
      refine does_value rfl (by intro c h; cases h) (w' := W) ?_ (hS)
      · simp [execOp, go_sem, e9, hl]
    | 4 =>
      simp only [List.getElem?_toArray, List.getElem?_cons_zero, List.getElem?_cons_succ, Option.some.injEq] at ho
      subst ho
      have e3 : a.tmps[3]?.getD undef = .pointer (some ⟨hx, 0, none⟩) := (kp 3 (by kernel_rfl)).trans b3
      rw [vv4]
      refine does_value rfl (by intro c h; cases h) (w' := W) ?_ (hS)
      · simp [execOp, go_sem, e3]
    | 5 =>
      simp only [List.getElem?_toArray, List.getElem?_cons_zero, List.getElem?_cons_succ, Option.some.injEq] at ho
      subst ho
      have p4 : b 4 = true := hd ⟨4, .data⟩ (by simp) rfl
      have e11 := (ev 4 11 rfl p4).trans vv4
      have hl := (hS.cell (p := ⟨hx, 0, none⟩) (cell_lt x0)).trans x0
      rw [vv5]
      refine does_value rfl (by intro c h; cases h) (w' := W) ?_ (hS)
      · simp [execOp, go_sem, e11, hl]
    | 6 =>
      simp only [List.getElem?_toArray, List.getElem?_cons_zero, List.getElem?_cons_succ, Option.some.injEq] at ho
      subst ho
      have p3 : b 3 = true := hd ⟨3, .data⟩ (by simp) rfl
      have p5 : b 5 = true := hd ⟨5, .data⟩ (by simp) rfl
      have e10 := (ev 3 10 rfl p3).trans vv3
      have e12 := (ev 5 12 rfl p5).trans vv5
      rw [vv6]
      refine does_value rfl (by intro c h; cases h) (w' := W) ?_ (hS)
      · simp [execOp, go_sem, e10, e12, hxi]
    | 7 =>
      simp only [List.getElem?_toArray, List.getElem?_cons_zero, List.getElem?_cons_succ, Option.some.injEq] at ho
      subst ho
      have p6 : b 6 = true := hd ⟨6, .data⟩ (by simp) rfl
      have e13 := (ev 6 13 rfl p6).trans vv6
      have hl := (hS.cell (p := ⟨Bk, xi, none⟩) (cell_lt dB)).trans dB
      rw [vv7]
      refine does_value rfl (by intro c h; cases h) (w' := W) ?_ (hS)
      · simp [execOp, go_sem, e13, hl]
    | 8 =>
      simp only [List.getElem?_toArray, List.getElem?_cons_zero, List.getElem?_cons_succ, Option.some.injEq] at ho
      subst ho
      have p7 : b 7 = true := hd ⟨7, .data⟩ (by simp) rfl
      have e14 := (ev 7 14 rfl p7).trans vv7
      rw [vv8]
      refine does_value rfl (by intro c h; cases h) (w' := W) ?_ (hS)
      · simp [go_sem, e14]
    | 9 =>
      simp only [List.getElem?_toArray, List.getElem?_cons_zero, List.getElem?_cons_succ, Option.some.injEq] at ho
      subst ho
      have p8 : b 8 = true := hd ⟨8, .data⟩ (by simp) rfl
      have e15 := (ev 8 15 rfl p8).trans vv8
      rw [vv9]
      refine does_value rfl (by intro c h; cases h) (w' := W) ?_ (hS)
      · simp [execOp, go_sem, e15, hfull]
    | 10 =>
      simp only [List.getElem?_toArray, List.getElem?_cons_zero, List.getElem?_cons_succ, Option.some.injEq] at ho
      subst ho
      have p9 : b 9 = true := hd ⟨9, .data⟩ (by simp) rfl
      have e16 := (ev 9 16 rfl p9).trans vv9
      rw [vv10]
      refine does_value rfl (by intro c h; cases h) (w' := W) ?_ (hS)
      · simp [execOp, go_sem, e16]
    | k + 11 => simp at ho
  · intro b' W hS _
    subst hLe
    exact hQ W hS

set_option maxRecDepth 8000 in
set_option maxHeartbeats 4000000 in
theorem take_reg2 {Q : Exit → Act → World → Prop} {base : Array Value} {d : List Deferred} {ops : Array Oper} (hops : Tryd.f25.body.bind (regs 2) = some ops) (aD Bk nD cD xi xj hx nv cv lo : Nat) (pv : Option Addr) (cur : Array Value) (M : List En) (w1 : World) (hsz : base.size = 55)
    (b0 : base.getD 0 undef = .pointer (some ⟨aD, 0, none⟩)) (b3 : base.getD 3 undef = .pointer (some ⟨hx, 0, none⟩))
    (dA : w1.cell? ⟨aD, 1, none⟩ = some (.slice (some ⟨Bk, 0, none⟩) nD cD)) (x0 : w1.cell? ⟨hx, 0, none⟩ = some (.int .i64 (xi : Nat))) (x1 : w1.cell? ⟨hx, 1, none⟩ = some (.int .i64 (xj : Nat))) (dB : w1.cell? ⟨Bk, xi, none⟩ = some (.slice pv nv cv)) (hB : w1.heap[Bk]? = some (.cells cur 57 (0, 0))) (hcur : cur[xi]? = some (.slice pv nv cv)) (hxi : xi < nD) (hxj : xj < 100)
    (nA : ¬ (.slice pv nv cv : Value).ownBlock = some aD) (nAB : ¬ aD = Bk) (nX : ¬ (.slice pv nv cv : Value).ownBlock = some hx) (nXB : ¬ hx = Bk) (nB : ¬ (.slice pv nv cv : Value).ownBlock = some Bk)
    (cD_ : ∀ W, Below w1.heap.size w1 W → Calls Tryd.prog 43 #[.slice pv nv cv, .int .i64 (xj : Nat), .int .i64 ((xj : Int) + 1)] W (Deld lo (.slice pv nv cv) M W))
    (hQ : ∀ g W, Only (fun k => (.slice pv nv cv : Value).ownBlock = some k ∨ k = Bk) w1 W → g.ownBlock = (.slice pv nv cv : Value).ownBlock → Blk W lo g M → W.heap[Bk]? = some (.cells (cur.setIfInBounds xi g) 57 (0, 0)) → Q .normal ⟨putAll base ((fun g : Value => [(some 17, .pointer (some ⟨aD, 0, none⟩)), (some 18, .pointer (some ⟨aD, 0, none⟩)), (some 19, .pointer (some ⟨aD, 1, none⟩)), (some 20, .slice (some ⟨Bk, 0, none⟩) nD cD), (some 21, .pointer (some ⟨hx, 0, none⟩)), (some 22, .int .i64 (xi : Nat)), (some 23, .pointer (some ⟨aD, 0, none⟩)), (some 24, .pointer (some ⟨aD, 0, none⟩)), (some 25, .pointer (some ⟨aD, 1, none⟩)), (some 26, .slice (some ⟨Bk, 0, none⟩) nD cD), (some 27, .pointer (some ⟨hx, 0, none⟩)), (some 28, .int .i64 (xi : Nat)), (some 29, .pointer (some ⟨Bk, xi, none⟩)), (some 30, .slice pv nv cv), (some 31, .pointer (some ⟨hx, 1, none⟩)), (some 32, .int .i64 (xj : Nat)), (some 33, .pointer (some ⟨hx, 1, none⟩)), (some 34, .int .i64 (xj : Nat)), (some 35, .int .i64 ((xj : Int) + 1)), (some 36, g), (some 37, .pointer (some ⟨Bk, xi, none⟩)), (none, undef)]) g), d⟩ W) :
    (Code.region 2 ops true).wp Tryd.prog Q ⟨base, d⟩ w1 := by
  have hmix : Tryd.prog.follows .mixedOrders = true := by kernel_rfl
  have h2 := (show Tryd.f25.body.bind (regs 2) = some _ from rfl).symm.trans hops
  obtain rfl := Option.some.inj h2
  clear h2 hops
  have below1 : Below w1.heap.size w1 w1.drew := (Below.refl _ _).drew
  obtain ⟨LL, hLe⟩ : ∃ LL : Value → List (Option Tmp × Value), LL = fun g : Value => [(some 17, .pointer (some ⟨aD, 0, none⟩)), (some 18, .pointer (some ⟨aD, 0, none⟩)), (some 19, .pointer (some ⟨aD, 1, none⟩)), (some 20, .slice (some ⟨Bk, 0, none⟩) nD cD), (some 21, .pointer (some ⟨hx, 0, none⟩)), (some 22, .int .i64 (xi : Nat)), (some 23, .pointer (some ⟨aD, 0, none⟩)), (some 24, .pointer (some ⟨aD, 0, none⟩)), (some 25, .pointer (some ⟨aD, 1, none⟩)), (some 26, .slice (some ⟨Bk, 0, none⟩) nD cD), (some 27, .pointer (some ⟨hx, 0, none⟩)), (some 28, .int .i64 (xi : Nat)), (some 29, .pointer (some ⟨Bk, xi, none⟩)), (some 30, .slice pv nv cv), (some 31, .pointer (some ⟨hx, 1, none⟩)), (some 32, .int .i64 (xj : Nat)), (some 33, .pointer (some ⟨hx, 1, none⟩)), (some 34, .int .i64 (xj : Nat)), (some 35, .int .i64 ((xj : Int) + 1)), (some 36, g), (some 37, .pointer (some ⟨Bk, xi, none⟩)), (none, undef)] := ⟨_, rfl⟩
  have vv0 : ∀ g, vals (LL g) 0 = .pointer (some ⟨aD, 0, none⟩) := fun g => by rw [hLe]; rfl
  have vv1 : ∀ g, vals (LL g) 1 = .pointer (some ⟨aD, 0, none⟩) := fun g => by rw [hLe]; rfl
  have vv2 : ∀ g, vals (LL g) 2 = .pointer (some ⟨aD, 1, none⟩) := fun g => by rw [hLe]; rfl
  have vv3 : ∀ g, vals (LL g) 3 = .slice (some ⟨Bk, 0, none⟩) nD cD := fun g => by rw [hLe]; rfl
  have vv4 : ∀ g, vals (LL g) 4 = .pointer (some ⟨hx, 0, none⟩) := fun g => by rw [hLe]; rfl
  have vv5 : ∀ g, vals (LL g) 5 = .int .i64 (xi : Nat) := fun g => by rw [hLe]; rfl
  have vv6 : ∀ g, vals (LL g) 6 = .pointer (some ⟨aD, 0, none⟩) := fun g => by rw [hLe]; rfl
  have vv7 : ∀ g, vals (LL g) 7 = .pointer (some ⟨aD, 0, none⟩) := fun g => by rw [hLe]; rfl
  have vv8 : ∀ g, vals (LL g) 8 = .pointer (some ⟨aD, 1, none⟩) := fun g => by rw [hLe]; rfl
  have vv9 : ∀ g, vals (LL g) 9 = .slice (some ⟨Bk, 0, none⟩) nD cD := fun g => by rw [hLe]; rfl
  have vv10 : ∀ g, vals (LL g) 10 = .pointer (some ⟨hx, 0, none⟩) := fun g => by rw [hLe]; rfl
  have vv11 : ∀ g, vals (LL g) 11 = .int .i64 (xi : Nat) := fun g => by rw [hLe]; rfl
  have vv12 : ∀ g, vals (LL g) 12 = .pointer (some ⟨Bk, xi, none⟩) := fun g => by rw [hLe]; rfl
  have vv13 : ∀ g, vals (LL g) 13 = .slice pv nv cv := fun g => by rw [hLe]; rfl
  have vv14 : ∀ g, vals (LL g) 14 = .pointer (some ⟨hx, 1, none⟩) := fun g => by rw [hLe]; rfl
  have vv15 : ∀ g, vals (LL g) 15 = .int .i64 (xj : Nat) := fun g => by rw [hLe]; rfl
  have vv16 : ∀ g, vals (LL g) 16 = .pointer (some ⟨hx, 1, none⟩) := fun g => by rw [hLe]; rfl
  have vv17 : ∀ g, vals (LL g) 17 = .int .i64 (xj : Nat) := fun g => by rw [hLe]; rfl
  have vv18 : ∀ g, vals (LL g) 18 = .int .i64 ((xj : Int) + 1) := fun g => by rw [hLe]; rfl
  have vv19 : ∀ g, vals (LL g) 19 = g := fun g => by rw [hLe]; rfl
  have vv20 : ∀ g, vals (LL g) 20 = .pointer (some ⟨Bk, xi, none⟩) := fun g => by rw [hLe]; rfl
  have vv21 : ∀ g, vals (LL g) 21 = undef := fun g => by rw [hLe]; rfl
  refine region_laidg hmix (by kernel_rfl) 55 hsz (by kernel_rfl) (.slice none 0 0) LL (fun g => by rw [hLe]; rfl) (fun g b W => Only (fun k => (.slice pv nv cv : Value).ownBlock = some k ∨ (k = Bk ∧ b 21 = true)) w1 W ∧ (b 19 = true → g.ownBlock = (.slice pv nv cv : Value).ownBlock ∧ Blk W lo g M) ∧ (b 21 = true → W.heap[Bk]? = some (.cells (cur.setIfInBounds xi g) 57 (0, 0))) ∧ (b 19 = false → Below w1.heap.size w1 W)) ⟨Below.only below1 _, fun h => (by cases h), fun h => (by cases h), fun _ => below1⟩ ?_ ?_
  · intro g b W io o a hS hcl ho hb hd ev kp yl
    match io with
    | 0 =>
      simp only [List.getElem?_toArray, List.getElem?_cons_zero, Option.some.injEq] at ho
      subst ho
      have e0 : a.tmps[0]?.getD undef = .pointer (some ⟨aD, 0, none⟩) := (kp 0 (none_till (by kernel_rfl))).trans b0
      refine doesg_value rfl (by intro c h; cases h) (v := .pointer (some ⟨aD, 0, none⟩)) (w' := W) ?_ ⟨g, fun _ _ => rfl, (vv0 g).symm, ?_⟩
      · simp [execOp, go_sem, e0]
      · simpa [did] using hS
    | 1 =>
      simp only [List.getElem?_toArray, List.getElem?_cons_zero, List.getElem?_cons_succ, Option.some.injEq] at ho
      subst ho
      have p0 : b 0 = true := hd ⟨0, .data⟩ (by simp) rfl
      have e17 := (ev 0 17 rfl p0).trans (vv0 g)
      refine doesg_value rfl (by intro c h; cases h) (v := .pointer (some ⟨aD, 0, none⟩)) (w' := W) ?_ ⟨g, fun _ _ => rfl, (vv1 g).symm, ?_⟩
      · simp [execOp, go_sem, e17]
      · simpa [did] using hS
    | 2 =>
      simp only [List.getElem?_toArray, List.getElem?_cons_zero, List.getElem?_cons_succ, Option.some.injEq] at ho
      subst ho
      have p1 : b 1 = true := hd ⟨1, .data⟩ (by simp) rfl
      have e18 := (ev 1 18 rfl p1).trans (vv1 g)
      refine doesg_value rfl (by intro c h; cases h) (v := .pointer (some ⟨aD, 1, none⟩)) (w' := W) ?_ ⟨g, fun _ _ => rfl, (vv2 g).symm, ?_⟩
      · simp [execOp, go_sem, e18]
      · simpa [did] using hS
    | 3 =>
      simp only [List.getElem?_toArray, List.getElem?_cons_zero, List.getElem?_cons_succ, Option.some.injEq] at ho
      subst ho
      have p2 : b 2 = true := hd ⟨2, .data⟩ (by simp) rfl
      have e19 := (ev 2 19 rfl p2).trans (vv2 g)
      have hl := hS.1.cell dA (by rintro (e | ⟨e, _⟩); exact nA e; exact nAB e)
      refine doesg_value rfl (by intro c h; cases h) (v := .slice (some ⟨Bk, 0, none⟩) nD cD) (w' := W) ?_ ⟨g, fun _ _ => rfl, (vv3 g).symm, ?_⟩
      · simp [execOp, go_sem, e19, hl]
      · simpa [did] using hS
    | 4 =>
      simp only [List.getElem?_toArray, List.getElem?_cons_zero, List.getElem?_cons_succ, Option.some.injEq] at ho
      subst ho
      have e3 : a.tmps[3]?.getD undef = .pointer (some ⟨hx, 0, none⟩) := (kp 3 (none_till (by kernel_rfl))).trans b3
      refine doesg_value rfl (by intro c h; cases h) (v := .pointer (some ⟨hx, 0, none⟩)) (w' := W) ?_ ⟨g, fun _ _ => rfl, (vv4 g).symm, ?_⟩
      · simp [execOp, go_sem, e3]
      · simpa [did] using hS
    | 5 =>
      simp only [List.getElem?_toArray, List.getElem?_cons_zero, List.getElem?_cons_succ, Option.some.injEq] at ho
      subst ho
      have p4 : b 4 = true := hd ⟨4, .data⟩ (by simp) rfl
      have e21 := (ev 4 21 rfl p4).trans (vv4 g)
      have hl := hS.1.cell x0 (by rintro (e | ⟨e, _⟩); exact nX e; exact nXB e)
      refine doesg_value rfl (by intro c h; cases h) (v := .int .i64 (xi : Nat)) (w' := W) ?_ ⟨g, fun _ _ => rfl, (vv5 g).symm, ?_⟩
      · simp [execOp, go_sem, e21, hl]
      · simpa [did] using hS
    | 6 =>
      simp only [List.getElem?_toArray, List.getElem?_cons_zero, List.getElem?_cons_succ, Option.some.injEq] at ho
      subst ho
      have e0 : a.tmps[0]?.getD undef = .pointer (some ⟨aD, 0, none⟩) := (kp 0 (none_till (by kernel_rfl))).trans b0
      refine doesg_value rfl (by intro c h; cases h) (v := .pointer (some ⟨aD, 0, none⟩)) (w' := W) ?_ ⟨g, fun _ _ => rfl, (vv6 g).symm, ?_⟩
      · simp [execOp, go_sem, e0]
      · simpa [did] using hS
    | 7 =>
      simp only [List.getElem?_toArray, List.getElem?_cons_zero, List.getElem?_cons_succ, Option.some.injEq] at ho
      subst ho
      have p6 : b 6 = true := hd ⟨6, .data⟩ (by simp) rfl
      have e23 := (ev 6 23 rfl p6).trans (vv6 g)
      refine doesg_value rfl (by intro c h; cases h) (v := .pointer (some ⟨aD, 0, none⟩)) (w' := W) ?_ ⟨g, fun _ _ => rfl, (vv7 g).symm, ?_⟩
      · simp [execOp, go_sem, e23]
      · simpa [did] using hS
    | 8 =>
      simp only [List.getElem?_toArray, List.getElem?_cons_zero, List.getElem?_cons_succ, Option.some.injEq] at ho
      subst ho
      have p7 : b 7 = true := hd ⟨7, .data⟩ (by simp) rfl
      have e24 := (ev 7 24 rfl p7).trans (vv7 g)
      refine doesg_value rfl (by intro c h; cases h) (v := .pointer (some ⟨aD, 1, none⟩)) (w' := W) ?_ ⟨g, fun _ _ => rfl, (vv8 g).symm, ?_⟩
      · simp [execOp, go_sem, e24]
      · simpa [did] using hS
    | 9 =>
      simp only [List.getElem?_toArray, List.getElem?_cons_zero, List.getElem?_cons_succ, Option.some.injEq] at ho
      subst ho
      have p8 : b 8 = true := hd ⟨8, .data⟩ (by simp) rfl
      have e25 := (ev 8 25 rfl p8).trans (vv8 g)
      have hl := hS.1.cell dA (by rintro (e | ⟨e, _⟩); exact nA e; exact nAB e)
      refine doesg_value rfl (by intro c h; cases h) (v := .slice (some ⟨Bk, 0, none⟩) nD cD) (w' := W) ?_ ⟨g, fun _ _ => rfl, (vv9 g).symm, ?_⟩
      · simp [execOp, go_sem, e25, hl]
      · simpa [did] using hS
    | 10 =>
      simp only [List.getElem?_toArray, List.getElem?_cons_zero, List.getElem?_cons_succ, Option.some.injEq] at ho
      subst ho
      have e3 : a.tmps[3]?.getD undef = .pointer (some ⟨hx, 0, none⟩) := (kp 3 (none_till (by kernel_rfl))).trans b3
      refine doesg_value rfl (by intro c h; cases h) (v := .pointer (some ⟨hx, 0, none⟩)) (w' := W) ?_ ⟨g, fun _ _ => rfl, (vv10 g).symm, ?_⟩
      · simp [execOp, go_sem, e3]
      · simpa [did] using hS
    | 11 =>
      simp only [List.getElem?_toArray, List.getElem?_cons_zero, List.getElem?_cons_succ, Option.some.injEq] at ho
      subst ho
      have p10 : b 10 = true := hd ⟨10, .data⟩ (by simp) rfl
      have e27 := (ev 10 27 rfl p10).trans (vv10 g)
      have hl := hS.1.cell x0 (by rintro (e | ⟨e, _⟩); exact nX e; exact nXB e)
      refine doesg_value rfl (by intro c h; cases h) (v := .int .i64 (xi : Nat)) (w' := W) ?_ ⟨g, fun _ _ => rfl, (vv11 g).symm, ?_⟩
      · simp [execOp, go_sem, e27, hl]
      · simpa [did] using hS
    | 12 =>
      simp only [List.getElem?_toArray, List.getElem?_cons_zero, List.getElem?_cons_succ, Option.some.injEq] at ho
      subst ho
      have p9 : b 9 = true := hd ⟨9, .data⟩ (by simp) rfl
      have p11 : b 11 = true := hd ⟨11, .data⟩ (by simp) rfl
      have e26 := (ev 9 26 rfl p9).trans (vv9 g)
      have e28 := (ev 11 28 rfl p11).trans (vv11 g)
      refine doesg_value rfl (by intro c h; cases h) (v := .pointer (some ⟨Bk, xi, none⟩)) (w' := W) ?_ ⟨g, fun _ _ => rfl, (vv12 g).symm, ?_⟩
      · simp [execOp, go_sem, e26, e28, hxi]
      · simpa [did] using hS
    | 13 =>
      simp only [List.getElem?_toArray, List.getElem?_cons_zero, List.getElem?_cons_succ, Option.some.injEq] at ho
      subst ho
      have p12 : b 12 = true := hd ⟨12, .data⟩ (by simp) rfl
      have e29 := (ev 12 29 rfl p12).trans (vv12 g)
      have q21 : b 21 = false := by cases hq : b 21 with | false => rfl | true => (exfalso; have q19 := hcl 21 _ rfl hq ⟨19, .data⟩ (by simp) rfl; have q13 := hcl 19 _ rfl q19 ⟨13, .data⟩ (by simp) rfl; rw [hb] at q13; cases q13)
      have hl := hS.1.cell dB (by rintro (e | ⟨_, e⟩); exact nB e; rw [q21] at e; cases e)
      refine doesg_value rfl (by intro c h; cases h) (v := .slice pv nv cv) (w' := W) ?_ ⟨g, fun _ _ => rfl, (vv13 g).symm, ?_⟩
      · simp [execOp, go_sem, e29, hl]
      · simpa [did] using hS
    | 14 =>
      simp only [List.getElem?_toArray, List.getElem?_cons_zero, List.getElem?_cons_succ, Option.some.injEq] at ho
      subst ho
      have e3 : a.tmps[3]?.getD undef = .pointer (some ⟨hx, 0, none⟩) := (kp 3 (none_till (by kernel_rfl))).trans b3
      refine doesg_value rfl (by intro c h; cases h) (v := .pointer (some ⟨hx, 1, none⟩)) (w' := W) ?_ ⟨g, fun _ _ => rfl, (vv14 g).symm, ?_⟩
      · simp [execOp, go_sem, e3]
      · simpa [did] using hS
    | 15 =>
      simp only [List.getElem?_toArray, List.getElem?_cons_zero, List.getElem?_cons_succ, Option.some.injEq] at ho
      subst ho
      have p14 : b 14 = true := hd ⟨14, .data⟩ (by simp) rfl
      have e31 := (ev 14 31 rfl p14).trans (vv14 g)
      have hl := hS.1.cell x1 (by rintro (e | ⟨e, _⟩); exact nX e; exact nXB e)
      refine doesg_value rfl (by intro c h; cases h) (v := .int .i64 (xj : Nat)) (w' := W) ?_ ⟨g, fun _ _ => rfl, (vv15 g).symm, ?_⟩
      · simp [execOp, go_sem, e31, hl]
      · simpa [did] using hS
    | 16 =>
      simp only [List.getElem?_toArray, List.getElem?_cons_zero, List.getElem?_cons_succ, Option.some.injEq] at ho
      subst ho
      have e3 : a.tmps[3]?.getD undef = .pointer (some ⟨hx, 0, none⟩) := (kp 3 (none_till (by kernel_rfl))).trans b3
      refine doesg_value rfl (by intro c h; cases h) (v := .pointer (some ⟨hx, 1, none⟩)) (w' := W) ?_ ⟨g, fun _ _ => rfl, (vv16 g).symm, ?_⟩
      · simp [execOp, go_sem, e3]
      · simpa [did] using hS
    | 17 =>
      simp only [List.getElem?_toArray, List.getElem?_cons_zero, List.getElem?_cons_succ, Option.some.injEq] at ho
      subst ho
      have p16 : b 16 = true := hd ⟨16, .data⟩ (by simp) rfl
      have e33 := (ev 16 33 rfl p16).trans (vv16 g)
      have hl := hS.1.cell x1 (by rintro (e | ⟨e, _⟩); exact nX e; exact nXB e)
      refine doesg_value rfl (by intro c h; cases h) (v := .int .i64 (xj : Nat)) (w' := W) ?_ ⟨g, fun _ _ => rfl, (vv17 g).symm, ?_⟩
      · simp [execOp, go_sem, e33, hl]
      · simpa [did] using hS
    | 18 =>
      simp only [List.getElem?_toArray, List.getElem?_cons_zero, List.getElem?_cons_succ, Option.some.injEq] at ho
      subst ho
      have p17 : b 17 = true := hd ⟨17, .data⟩ (by simp) rfl
      have e34 := (ev 17 34 rfl p17).trans (vv17 g)
      refine doesg_value rfl (by intro c h; cases h) (v := .int .i64 ((xj : Int) + 1)) (w' := W) ?_ ⟨g, fun _ _ => rfl, (vv18 g).symm, ?_⟩
      · simp [execOp, go_sem, e34]; rw [IntKind.wrap_i64] <;> omega
      · simpa [did] using hS
    | 19 =>
      simp only [List.getElem?_toArray, List.getElem?_cons_zero, List.getElem?_cons_succ, Option.some.injEq] at ho
      subst ho
      have p13 : b 13 = true := hd ⟨13, .data⟩ (by simp) rfl
      have p15 : b 15 = true := hd ⟨15, .data⟩ (by simp) rfl
      have p18 : b 18 = true := hd ⟨18, .data⟩ (by simp) rfl
      have e30 := (ev 13 30 rfl p13).trans (vv13 g)
      have e32 := (ev 15 32 rfl p15).trans (vv15 g)
      have e35 := (ev 18 35 rfl p18).trans (vv18 g)
      have q21 : b 21 = false := by cases hq : b 21 with | false => rfl | true => (exfalso; have q19 := hcl 21 _ rfl hq ⟨19, .data⟩ (by simp) rfl; rw [hb] at q19; cases q19)
      have hbl := hS.2.2.2 hb
      refine doesg_call rfl (by intro c h; cases h) (f := 43) (args := #[.slice pv nv cv, .int .i64 (xj : Nat), .int .i64 ((xj : Int) + 1)]) ?_ ?_
      · simp [go_sem, e30, e32, e35]
      · refine (cD_ W hbl).mono ?_
        rintro e w2 ⟨v2, rfl, hblk2, hg2, ho2⟩
        refine ⟨v2, rfl, v2, fun j hj => by match j, hj with | 0, _ => rw [vv0, vv0] | 1, _ => rw [vv1, vv1] | 2, _ => rw [vv2, vv2] | 3, _ => rw [vv3, vv3] | 4, _ => rw [vv4, vv4] | 5, _ => rw [vv5, vv5] | 6, _ => rw [vv6, vv6] | 7, _ => rw [vv7, vv7] | 8, _ => rw [vv8, vv8] | 9, _ => rw [vv9, vv9] | 10, _ => rw [vv10, vv10] | 11, _ => rw [vv11, vv11] | 12, _ => rw [vv12, vv12] | 13, _ => rw [vv13, vv13] | 14, _ => rw [vv14, vv14] | 15, _ => rw [vv15, vv15] | 16, _ => rw [vv16, vv16] | 17, _ => rw [vv17, vv17] | 18, _ => rw [vv18, vv18] | 19, h => rw [hb] at h; cases h | 20, _ => rw [vv20, vv20] | 21, _ => rw [vv21, vv21] | k + 22, _ => rw [hLe]; rfl, (vv19 v2).symm, ?_, fun _ => ⟨ho2, hblk2⟩, fun h => ?_, fun h => ?_⟩
        · exact hS.1.trans (grown_only hg2) (fun k hk => .inl (.inl hk)) |>.weak (fun k _ hk => hk.imp id (fun ⟨h1, h2⟩ => ⟨h1, by simpa [did] using h2⟩))
        · simp [did, q21] at h
        · simp [did] at h
    | 20 =>
      simp only [List.getElem?_toArray, List.getElem?_cons_zero, List.getElem?_cons_succ, Option.some.injEq] at ho
      subst ho
      have p3 : b 3 = true := hd ⟨3, .data⟩ (by simp) rfl
      have p5 : b 5 = true := hd ⟨5, .data⟩ (by simp) rfl
      have e20 := (ev 3 20 rfl p3).trans (vv3 g)
      have e22 := (ev 5 22 rfl p5).trans (vv5 g)
      refine doesg_value rfl (by intro c h; cases h) (v := .pointer (some ⟨Bk, xi, none⟩)) (w' := W) ?_ ⟨g, fun _ _ => rfl, (vv20 g).symm, ?_⟩
      · simp [execOp, go_sem, e20, e22, hxi]
      · simpa [did] using hS
    | 21 =>
      simp only [List.getElem?_toArray, List.getElem?_cons_zero, List.getElem?_cons_succ, Option.some.injEq] at ho
      subst ho
      have p20 : b 20 = true := hd ⟨20, .data⟩ (by simp) rfl
      have p19 : b 19 = true := hd ⟨19, .data⟩ (by simp) rfl
      have e37 := (ev 20 37 rfl p20).trans (vv20 g)
      have e36 := (ev 19 36 rfl p19).trans (vv19 g)
      obtain ⟨hog, hbg⟩ := hS.2.1 p19
      have hWB : W.heap[Bk]? = some (.cells cur 57 (0, 0)) := (hS.1.block Bk (block_lt hB) (by rintro (e | ⟨_, e⟩); exact nB e; rw [hb] at e; cases e)).trans hB
      obtain ⟨yv, hy⟩ : ∃ yv, W.cell? ⟨Bk, xi, none⟩ = some yv := ⟨_, by rw [cellOf hWB]; exact hcur⟩
      have hf := frozenOf hWB xi
      obtain ⟨p3, c3, hg3, _⟩ := hbg.form
      refine doesg_skip rfl (by intro c h; cases h) (w' := W.setCell ⟨Bk, xi, none⟩ g) ?_ ⟨g, fun _ _ => rfl, (vv21 g).symm, ?_⟩
      · simp [execOp, go_sem, e36, e37, hy, hf, hg3]
      · exact by
          have hoB : Only (fun k => k = Bk) W (W.setCell ⟨Bk, xi, none⟩ g) := Only.setCell W ⟨Bk, xi, none⟩ g rfl
          refine ⟨?_, fun _ => ⟨hog, hbg.kept hoB (fun q hq e => nB (by rw [← hog, hq, e]))⟩, fun _ => ?_, fun h => ?_⟩
          · exact (hS.1.weak (T := fun k => (.slice pv nv cv : Value).ownBlock = some k ∨ (k = Bk ∧ did b 21 21 = true)) (fun k _ hk => hk.imp id (fun ⟨h1, _⟩ => ⟨h1, by simp [did]⟩))).trans hoB (fun k hk => .inl (.inr ⟨hk, by simp [did]⟩))
          · simp only [World.setCell, Array.getElem?_modify, hWB]
            simp
          · simp [did, p19] at h
    | k + 22 => simp at ho
  · intro g b W hS hall
    subst hLe
    obtain ⟨h1, h2, h3, _⟩ := hS
    exact hQ g W (h1.weak (fun k _ hk => hk.imp id And.left)) (h2 (hall 19 (by decide))).1 (h2 (hall 19 (by decide))).2 (h3 (hall 21 (by decide)))

end Go.Proofs.YtdocablbkafkiaaDoor.Cd
