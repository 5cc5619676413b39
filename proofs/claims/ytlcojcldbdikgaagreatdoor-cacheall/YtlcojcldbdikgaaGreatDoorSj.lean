/-
  The document's own cache: the drawn regions of Commit and Put.
-/
import Derived.Test.YtlcojcldbdikgaaGreatDoorSi
namespace Go.Proofs.YtlcojcldbdikgaaGreatDoor.Rc
open Go.RowKit Go.Maps

set_option maxRecDepth 8000 in
set_option maxHeartbeats 4000000 in
theorem com_reg4 {Q : Exit → Act → World → Prop} {base : Array Value} {d : List Deferred} {ops : Array Oper} (hops : Tryz.f17.body.bind (regs 4) = some ops) (r k x nLn cL gL nV cV gV : Nat) (sv : SV) (yv : Value) (w1 : World) (hsz : base.size = 48)
    (b0 : base.getD 0 undef = .pointer (some ⟨r, 0, none⟩)) (b2 : base.getD 2 undef = .int .i64 (k : Nat))
    (c0 : w1.cell? ⟨r, 0, none⟩ = some (.slice (some ⟨gV, 0, none⟩) nV cV)) (c2 : w1.cell? ⟨r, 2, none⟩ = some (.slice (some ⟨gL, 0, none⟩) nLn cL)) (hk : k < nLn) (hx : x < nV) (d0 : w1.cell? ⟨gL, k * 5, none⟩ = some (.int .i64 (x : Nat))) (d4 : w1.cell? ⟨gL, k * 5 + 4, none⟩ = some sv.val) (cy : w1.cell? ⟨gV, x, none⟩ = some yv) (hg : ∃ cur, w1.heap[gV]? = some (.cells cur 33 (0, 0))) (nr : ¬ r = gV) (nL : ¬ gL = gV)
    (hQ : ∀ W0, Below w1.heap.size w1 W0 → Q .normal ⟨putAll base [(some 20, .pointer (some ⟨r, 0, none⟩)), (some 21, .pointer (some ⟨r, 0, none⟩)), (some 22, .pointer (some ⟨r, 0, none⟩)), (some 23, .slice (some ⟨gV, 0, none⟩) nV cV), (some 24, .pointer (some ⟨r, 0, none⟩)), (some 25, .pointer (some ⟨r, 0, none⟩)), (some 26, .pointer (some ⟨r, 2, none⟩)), (some 27, .slice (some ⟨gL, 0, none⟩) nLn cL), (some 28, .int .i64 (k : Nat)), (some 29, .pointer (some ⟨gL, k * 5, none⟩)), (some 30, .pointer (some ⟨gL, k * 5, none⟩)), (some 31, .int .i64 (x : Nat)), (some 32, .pointer (some ⟨r, 0, none⟩)), (some 33, .pointer (some ⟨r, 0, none⟩)), (some 34, .pointer (some ⟨r, 2, none⟩)), (some 35, .slice (some ⟨gL, 0, none⟩) nLn cL), (some 36, .int .i64 (k : Nat)), (some 37, .pointer (some ⟨gL, k * 5, none⟩)), (some 38, .pointer (some ⟨gL, k * 5 + 4, none⟩)), (some 39, sv.val), (some 40, .pointer (some ⟨gV, x, none⟩)), (none, undef)], d⟩ (W0.setCell ⟨gV, x, none⟩ sv.val)) :
    (Code.region 4 ops true).wp Tryz.prog Q ⟨base, d⟩ w1 := by
  have hmix : Tryz.prog.follows .mixedOrders = true := by kernel_rfl
  have h2 := (show Tryz.f17.body.bind (regs 4) = some _ from rfl).symm.trans hops
  obtain rfl := Option.some.inj h2
  clear h2 hops
  have below1 : Below w1.heap.size w1 w1.drew := (Below.refl _ _).drew
  obtain ⟨LL, hLe⟩ : ∃ LL : Unit → List (Option Tmp × Value), LL = fun _ => [(some 20, .pointer (some ⟨r, 0, none⟩)), (some 21, .pointer (some ⟨r, 0, none⟩)), (some 22, .pointer (some ⟨r, 0, none⟩)), (some 23, .slice (some ⟨gV, 0, none⟩) nV cV), (some 24, .pointer (some ⟨r, 0, none⟩)), (some 25, .pointer (some ⟨r, 0, none⟩)), (some 26, .pointer (some ⟨r, 2, none⟩)), (some 27, .slice (some ⟨gL, 0, none⟩) nLn cL), (some 28, .int .i64 (k : Nat)), (some 29, .pointer (some ⟨gL, k * 5, none⟩)), (some 30, .pointer (some ⟨gL, k * 5, none⟩)), (some 31, .int .i64 (x : Nat)), (some 32, .pointer (some ⟨r, 0, none⟩)), (some 33, .pointer (some ⟨r, 0, none⟩)), (some 34, .pointer (some ⟨r, 2, none⟩)), (some 35, .slice (some ⟨gL, 0, none⟩) nLn cL), (some 36, .int .i64 (k : Nat)), (some 37, .pointer (some ⟨gL, k * 5, none⟩)), (some 38, .pointer (some ⟨gL, k * 5 + 4, none⟩)), (some 39, sv.val), (some 40, .pointer (some ⟨gV, x, none⟩)), (none, undef)] := ⟨_, rfl⟩
  have vv0 : ∀ g, vals (LL g) 0 = .pointer (some ⟨r, 0, none⟩) := fun g => by rw [hLe]; rfl
  have vv1 : ∀ g, vals (LL g) 1 = .pointer (some ⟨r, 0, none⟩) := fun g => by rw [hLe]; rfl
  have vv2 : ∀ g, vals (LL g) 2 = .pointer (some ⟨r, 0, none⟩) := fun g => by rw [hLe]; rfl
  have vv3 : ∀ g, vals (LL g) 3 = .slice (some ⟨gV, 0, none⟩) nV cV := fun g => by rw [hLe]; rfl
  have vv4 : ∀ g, vals (LL g) 4 = .pointer (some ⟨r, 0, none⟩) := fun g => by rw [hLe]; rfl
  have vv5 : ∀ g, vals (LL g) 5 = .pointer (some ⟨r, 0, none⟩) := fun g => by rw [hLe]; rfl
  have vv6 : ∀ g, vals (LL g) 6 = .pointer (some ⟨r, 2, none⟩) := fun g => by rw [hLe]; rfl
  have vv7 : ∀ g, vals (LL g) 7 = .slice (some ⟨gL, 0, none⟩) nLn cL := fun g => by rw [hLe]; rfl
  have vv8 : ∀ g, vals (LL g) 8 = .int .i64 (k : Nat) := fun g => by rw [hLe]; rfl
  have vv9 : ∀ g, vals (LL g) 9 = .pointer (some ⟨gL, k * 5, none⟩) := fun g => by rw [hLe]; rfl
  have vv10 : ∀ g, vals (LL g) 10 = .pointer (some ⟨gL, k * 5, none⟩) := fun g => by rw [hLe]; rfl
  have vv11 : ∀ g, vals (LL g) 11 = .int .i64 (x : Nat) := fun g => by rw [hLe]; rfl
  have vv12 : ∀ g, vals (LL g) 12 = .pointer (some ⟨r, 0, none⟩) := fun g => by rw [hLe]; rfl
  have vv13 : ∀ g, vals (LL g) 13 = .pointer (some ⟨r, 0, none⟩) := fun g => by rw [hLe]; rfl
  have vv14 : ∀ g, vals (LL g) 14 = .pointer (some ⟨r, 2, none⟩) := fun g => by rw [hLe]; rfl
  have vv15 : ∀ g, vals (LL g) 15 = .slice (some ⟨gL, 0, none⟩) nLn cL := fun g => by rw [hLe]; rfl
  have vv16 : ∀ g, vals (LL g) 16 = .int .i64 (k : Nat) := fun g => by rw [hLe]; rfl
  have vv17 : ∀ g, vals (LL g) 17 = .pointer (some ⟨gL, k * 5, none⟩) := fun g => by rw [hLe]; rfl
  have vv18 : ∀ g, vals (LL g) 18 = .pointer (some ⟨gL, k * 5 + 4, none⟩) := fun g => by rw [hLe]; rfl
  have vv19 : ∀ g, vals (LL g) 19 = sv.val := fun g => by rw [hLe]; rfl
  have vv20 : ∀ g, vals (LL g) 20 = .pointer (some ⟨gV, x, none⟩) := fun g => by rw [hLe]; rfl
  have vv21 : ∀ g, vals (LL g) 21 = undef := fun g => by rw [hLe]; rfl
  refine region_laidg hmix (by kernel_rfl) 48 hsz (by kernel_rfl) () LL (fun g => by rw [hLe]; rfl) (fun _ b W => Only (fun k => k = gV ∧ b 21 = true) w1 W ∧ (b 21 = true → ∃ W0, Below w1.heap.size w1 W0 ∧ W = W0.setCell ⟨gV, x, none⟩ sv.val) ∧ (b 21 = false → Below w1.heap.size w1 W)) ⟨only_below below1 _, fun h => (by cases h), fun _ => below1⟩ ?_ ?_
  · intro g b W io o a hS hcl ho hb hd ev kp yl
    match io with
    | 0 =>
      simp only [List.getElem?_toArray, List.getElem?_cons_zero, Option.some.injEq] at ho
      subst ho
      have e0 : a.tmps[0]?.getD undef = .pointer (some ⟨r, 0, none⟩) := (kp 0 (none_till (by kernel_rfl))).trans b0
      refine doesg_value rfl (by intro c h; cases h) (v := .pointer (some ⟨r, 0, none⟩)) (w' := W) ?_ ⟨g, fun _ _ => rfl, (vv0 g).symm, ?_⟩
      · simp [execOp, go_sem, e0]
      · simpa [did] using hS
    | 1 =>
      simp only [List.getElem?_toArray, List.getElem?_cons_zero, List.getElem?_cons_succ, Option.some.injEq] at ho
      subst ho
      have p0 : b 0 = true := hd ⟨0, .data⟩ (by simp) rfl
      have e20 := (ev 0 20 rfl p0).trans (vv0 g)
      refine doesg_value rfl (by intro c h; cases h) (v := .pointer (some ⟨r, 0, none⟩)) (w' := W) ?_ ⟨g, fun _ _ => rfl, (vv1 g).symm, ?_⟩
      · simp [execOp, go_sem, e20]
      · simpa [did] using hS
    | 2 =>
      simp only [List.getElem?_toArray, List.getElem?_cons_zero, List.getElem?_cons_succ, Option.some.injEq] at ho
      subst ho
      have p1 : b 1 = true := hd ⟨1, .data⟩ (by simp) rfl
      have e21 := (ev 1 21 rfl p1).trans (vv1 g)
      refine doesg_value rfl (by intro c h; cases h) (v := .pointer (some ⟨r, 0, none⟩)) (w' := W) ?_ ⟨g, fun _ _ => rfl, (vv2 g).symm, ?_⟩
      · simp [execOp, go_sem, e21]
      · simpa [did] using hS
    | 3 =>
      simp only [List.getElem?_toArray, List.getElem?_cons_zero, List.getElem?_cons_succ, Option.some.injEq] at ho
      subst ho
      have p2 : b 2 = true := hd ⟨2, .data⟩ (by simp) rfl
      have e22 := (ev 2 22 rfl p2).trans (vv2 g)
      have hl := hS.1.cell c0 (by rintro ⟨e, _⟩; exact nr e)
      refine doesg_value rfl (by intro c h; cases h) (v := .slice (some ⟨gV, 0, none⟩) nV cV) (w' := W) ?_ ⟨g, fun _ _ => rfl, (vv3 g).symm, ?_⟩
      · simp [execOp, go_sem, e22, hl]
      · simpa [did] using hS
    | 4 =>
      simp only [List.getElem?_toArray, List.getElem?_cons_zero, List.getElem?_cons_succ, Option.some.injEq] at ho
      subst ho
      have e0 : a.tmps[0]?.getD undef = .pointer (some ⟨r, 0, none⟩) := (kp 0 (none_till (by kernel_rfl))).trans b0
      refine doesg_value rfl (by intro c h; cases h) (v := .pointer (some ⟨r, 0, none⟩)) (w' := W) ?_ ⟨g, fun _ _ => rfl, (vv4 g).symm, ?_⟩
      · simp [execOp, go_sem, e0]
      · simpa [did] using hS
    | 5 =>
      simp only [List.getElem?_toArray, List.getElem?_cons_zero, List.getElem?_cons_succ, Option.some.injEq] at ho
      subst ho
      have p4 : b 4 = true := hd ⟨4, .data⟩ (by simp) rfl
      have e24 := (ev 4 24 rfl p4).trans (vv4 g)
      refine doesg_value rfl (by intro c h; cases h) (v := .pointer (some ⟨r, 0, none⟩)) (w' := W) ?_ ⟨g, fun _ _ => rfl, (vv5 g).symm, ?_⟩
      · simp [execOp, go_sem, e24]
      · simpa [did] using hS
    | 6 =>
      simp only [List.getElem?_toArray, List.getElem?_cons_zero, List.getElem?_cons_succ, Option.some.injEq] at ho
      subst ho
      have p5 : b 5 = true := hd ⟨5, .data⟩ (by simp) rfl
      have e25 := (ev 5 25 rfl p5).trans (vv5 g)
      refine doesg_value rfl (by intro c h; cases h) (v := .pointer (some ⟨r, 2, none⟩)) (w' := W) ?_ ⟨g, fun _ _ => rfl, (vv6 g).symm, ?_⟩
      · simp [execOp, go_sem, e25]
      · simpa [did] using hS
    | 7 =>
      simp only [List.getElem?_toArray, List.getElem?_cons_zero, List.getElem?_cons_succ, Option.some.injEq] at ho
      subst ho
      have p6 : b 6 = true := hd ⟨6, .data⟩ (by simp) rfl
      have e26 := (ev 6 26 rfl p6).trans (vv6 g)
      have hl := hS.1.cell c2 (by rintro ⟨e, _⟩; exact nr e)
      refine doesg_value rfl (by intro c h; cases h) (v := .slice (some ⟨gL, 0, none⟩) nLn cL) (w' := W) ?_ ⟨g, fun _ _ => rfl, (vv7 g).symm, ?_⟩
      · simp [execOp, go_sem, e26, hl]
      · simpa [did] using hS
    | 8 =>
      simp only [List.getElem?_toArray, List.getElem?_cons_zero, List.getElem?_cons_succ, Option.some.injEq] at ho
      subst ho
      have e2 : a.tmps[2]?.getD undef = .int .i64 (k : Nat) := (kp 2 (none_till (by kernel_rfl))).trans b2
      refine doesg_value rfl (by intro c h; cases h) (v := .int .i64 (k : Nat)) (w' := W) ?_ ⟨g, fun _ _ => rfl, (vv8 g).symm, ?_⟩
      · simp [execOp, go_sem, e2]
      · simpa [did] using hS
    | 9 =>
      simp only [List.getElem?_toArray, List.getElem?_cons_zero, List.getElem?_cons_succ, Option.some.injEq] at ho
      subst ho
      have p7 : b 7 = true := hd ⟨7, .data⟩ (by simp) rfl
      have p8 : b 8 = true := hd ⟨8, .data⟩ (by simp) rfl
      have e27 := (ev 7 27 rfl p7).trans (vv7 g)
      have e28 := (ev 8 28 rfl p8).trans (vv8 g)
      refine doesg_value rfl (by intro c h; cases h) (v := .pointer (some ⟨gL, k * 5, none⟩)) (w' := W) ?_ ⟨g, fun _ _ => rfl, (vv9 g).symm, ?_⟩
      · simp [execOp, go_sem, e27, e28, hk]
      · simpa [did] using hS
    | 10 =>
      simp only [List.getElem?_toArray, List.getElem?_cons_zero, List.getElem?_cons_succ, Option.some.injEq] at ho
      subst ho
      have p9 : b 9 = true := hd ⟨9, .data⟩ (by simp) rfl
      have e29 := (ev 9 29 rfl p9).trans (vv9 g)
      refine doesg_value rfl (by intro c h; cases h) (v := .pointer (some ⟨gL, k * 5, none⟩)) (w' := W) ?_ ⟨g, fun _ _ => rfl, (vv10 g).symm, ?_⟩
      · simp [execOp, go_sem, e29]
      · simpa [did] using hS
    | 11 =>
      simp only [List.getElem?_toArray, List.getElem?_cons_zero, List.getElem?_cons_succ, Option.some.injEq] at ho
      subst ho
      have p10 : b 10 = true := hd ⟨10, .data⟩ (by simp) rfl
      have e30 := (ev 10 30 rfl p10).trans (vv10 g)
      have hl := hS.1.cell d0 (by rintro ⟨e, _⟩; exact nL e)
      refine doesg_value rfl (by intro c h; cases h) (v := .int .i64 (x : Nat)) (w' := W) ?_ ⟨g, fun _ _ => rfl, (vv11 g).symm, ?_⟩
      · simp [execOp, go_sem, e30, hl]
      · simpa [did] using hS
    | 12 =>
      simp only [List.getElem?_toArray, List.getElem?_cons_zero, List.getElem?_cons_succ, Option.some.injEq] at ho
      subst ho
      have e0 : a.tmps[0]?.getD undef = .pointer (some ⟨r, 0, none⟩) := (kp 0 (none_till (by kernel_rfl))).trans b0
      refine doesg_value rfl (by intro c h; cases h) (v := .pointer (some ⟨r, 0, none⟩)) (w' := W) ?_ ⟨g, fun _ _ => rfl, (vv12 g).symm, ?_⟩
      · simp [execOp, go_sem, e0]
      · simpa [did] using hS
    | 13 =>
      simp only [List.getElem?_toArray, List.getElem?_cons_zero, List.getElem?_cons_succ, Option.some.injEq] at ho
      subst ho
      have p12 : b 12 = true := hd ⟨12, .data⟩ (by simp) rfl
      have e32 := (ev 12 32 rfl p12).trans (vv12 g)
      refine doesg_value rfl (by intro c h; cases h) (v := .pointer (some ⟨r, 0, none⟩)) (w' := W) ?_ ⟨g, fun _ _ => rfl, (vv13 g).symm, ?_⟩
      · simp [execOp, go_sem, e32]
      · simpa [did] using hS
    | 14 =>
      simp only [List.getElem?_toArray, List.getElem?_cons_zero, List.getElem?_cons_succ, Option.some.injEq] at ho
      subst ho
      have p13 : b 13 = true := hd ⟨13, .data⟩ (by simp) rfl
      have e33 := (ev 13 33 rfl p13).trans (vv13 g)
      refine doesg_value rfl (by intro c h; cases h) (v := .pointer (some ⟨r, 2, none⟩)) (w' := W) ?_ ⟨g, fun _ _ => rfl, (vv14 g).symm, ?_⟩
      · simp [execOp, go_sem, e33]
      · simpa [did] using hS
    | 15 =>
      simp only [List.getElem?_toArray, List.getElem?_cons_zero, List.getElem?_cons_succ, Option.some.injEq] at ho
      subst ho
      have p14 : b 14 = true := hd ⟨14, .data⟩ (by simp) rfl
      have e34 := (ev 14 34 rfl p14).trans (vv14 g)
      have hl := hS.1.cell c2 (by rintro ⟨e, _⟩; exact nr e)
      refine doesg_value rfl (by intro c h; cases h) (v := .slice (some ⟨gL, 0, none⟩) nLn cL) (w' := W) ?_ ⟨g, fun _ _ => rfl, (vv15 g).symm, ?_⟩
      · simp [execOp, go_sem, e34, hl]
      · simpa [did] using hS
    | 16 =>
      simp only [List.getElem?_toArray, List.getElem?_cons_zero, List.getElem?_cons_succ, Option.some.injEq] at ho
      subst ho
      have e2 : a.tmps[2]?.getD undef = .int .i64 (k : Nat) := (kp 2 (none_till (by kernel_rfl))).trans b2
      refine doesg_value rfl (by intro c h; cases h) (v := .int .i64 (k : Nat)) (w' := W) ?_ ⟨g, fun _ _ => rfl, (vv16 g).symm, ?_⟩
      · simp [execOp, go_sem, e2]
      · simpa [did] using hS
    | 17 =>
      simp only [List.getElem?_toArray, List.getElem?_cons_zero, List.getElem?_cons_succ, Option.some.injEq] at ho
      subst ho
      have p15 : b 15 = true := hd ⟨15, .data⟩ (by simp) rfl
      have p16 : b 16 = true := hd ⟨16, .data⟩ (by simp) rfl
      have e35 := (ev 15 35 rfl p15).trans (vv15 g)
      have e36 := (ev 16 36 rfl p16).trans (vv16 g)
      refine doesg_value rfl (by intro c h; cases h) (v := .pointer (some ⟨gL, k * 5, none⟩)) (w' := W) ?_ ⟨g, fun _ _ => rfl, (vv17 g).symm, ?_⟩
      · simp [execOp, go_sem, e35, e36, hk]
      · simpa [did] using hS
    | 18 =>
      simp only [List.getElem?_toArray, List.getElem?_cons_zero, List.getElem?_cons_succ, Option.some.injEq] at ho
      subst ho
      have p17 : b 17 = true := hd ⟨17, .data⟩ (by simp) rfl
      have e37 := (ev 17 37 rfl p17).trans (vv17 g)
      refine doesg_value rfl (by intro c h; cases h) (v := .pointer (some ⟨gL, k * 5 + 4, none⟩)) (w' := W) ?_ ⟨g, fun _ _ => rfl, (vv18 g).symm, ?_⟩
      · simp [execOp, go_sem, e37]
      · simpa [did] using hS
    | 19 =>
      simp only [List.getElem?_toArray, List.getElem?_cons_zero, List.getElem?_cons_succ, Option.some.injEq] at ho
      subst ho
      have p18 : b 18 = true := hd ⟨18, .data⟩ (by simp) rfl
      have e38 := (ev 18 38 rfl p18).trans (vv18 g)
      have hl := hS.1.cell d4 (by rintro ⟨e, _⟩; exact nL e)
      unfold SV.val at hl
      refine doesg_value rfl (by intro c h; cases h) (v := sv.val) (w' := W) ?_ ⟨g, fun _ _ => rfl, (vv19 g).symm, ?_⟩
      · unfold SV.val; simp [execOp, go_sem, e38, hl]
      · simpa [did] using hS
    | 20 =>
      simp only [List.getElem?_toArray, List.getElem?_cons_zero, List.getElem?_cons_succ, Option.some.injEq] at ho
      subst ho
      have p3 : b 3 = true := hd ⟨3, .data⟩ (by simp) rfl
      have p11 : b 11 = true := hd ⟨11, .data⟩ (by simp) rfl
      have e23 := (ev 3 23 rfl p3).trans (vv3 g)
      have e31 := (ev 11 31 rfl p11).trans (vv11 g)
      refine doesg_value rfl (by intro c h; cases h) (v := .pointer (some ⟨gV, x, none⟩)) (w' := W) ?_ ⟨g, fun _ _ => rfl, (vv20 g).symm, ?_⟩
      · simp [execOp, go_sem, e23, e31, hx]
      · simpa [did] using hS
    | 21 =>
      simp only [List.getElem?_toArray, List.getElem?_cons_zero, List.getElem?_cons_succ, Option.some.injEq] at ho
      subst ho
      have p20 : b 20 = true := hd ⟨20, .data⟩ (by simp) rfl
      have p19 : b 19 = true := hd ⟨19, .data⟩ (by simp) rfl
      have e40 := (ev 20 40 rfl p20).trans (vv20 g)
      have e39 := (ev 19 39 rfl p19).trans (vv19 g)
      have hbl := hS.2.2 hb
      have hy : W.cell? ⟨gV, x, none⟩ = some yv := (hbl.cell (p := ⟨gV, x, none⟩) (cell_lt cy)).trans cy
      have hf : W.frozen? ⟨gV, x, none⟩ = false := by
        obtain ⟨cur, hcur⟩ := hg
        exact frozenOf ((hbl.block gV (block_lt hcur)).trans hcur) _
      refine doesg_skip rfl (by intro c h; cases h) (w' := W.setCell ⟨gV, x, none⟩ sv.val) ?_ ⟨g, fun _ _ => rfl, (vv21 g).symm, ?_⟩
      · unfold SV.val at e39 ⊢; simp [execOp, go_sem, e39, e40, hy, hf]
      · refine ⟨((only_below hbl (fun k => k = gV)).next (Only.setCell W ⟨gV, x, none⟩ _ rfl)).weak (fun q _ hq => ⟨hq, by simp [did]⟩), fun _ => ⟨W, hbl, rfl⟩, fun h => ?_⟩
        simp [did] at h
    | k + 22 => simp at ho
  · intro g b W hS hall
    obtain ⟨_, h2, _⟩ := hS
    obtain ⟨W0, h3, rfl⟩ := h2 (hall 21 (by decide))
    subst hLe
    exact hQ W0 h3

end Go.Proofs.YtlcojcldbdikgaaGreatDoor.Rc
