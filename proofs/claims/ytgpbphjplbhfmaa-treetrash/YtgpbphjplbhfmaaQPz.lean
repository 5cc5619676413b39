/-
  TreeTrash: out of the trash, and the last looks.
-/
import Derived.Test.YtgpbphjplbhfmaaQPs
import Derived.Laws.MakeOwn
import Derived.Test.YtgpbphjplbhfmaaQVvecm
import Derived.Deep.RegionHeld3

/-
  A tree is looked at: Below, Live; New.
-/
namespace Go.Proofs.Ytgpbphjplbhfmaa.Ck.Y
open Go.RowKit Go.Maps Go.Lib

set_option maxRecDepth 8000 in
set_option maxHeartbeats 4000000 in
theorem below_r1 {Q : Exit → Act → World → Prop} {base : Array Value} {dd : List Deferred} {ops : Array Oper} (hops : Try.f13.body.bind (regs 1) = some ops) (vt : Value) (bx_ by_ : Nat) (t n t2 n2 : Int) (P1 : Value → World → Prop) (P2 : Value → Value → World → Prop) (w9 : World) (hsz : base.size = 26)
    (b0 : base.getD 0 undef = vt)
    (b4 : base.getD 4 undef = .pointer (some ⟨bx_, 0, none⟩))
    (b5 : base.getD 5 undef = .pointer (some ⟨by_, 0, none⟩))
    (x0 : w9.cell? ⟨bx_, 0, none⟩ = some (.int .i64 t)) (x1 : w9.cell? ⟨bx_, 1, none⟩ = some (.int .i64 n)) (y0 : w9.cell? ⟨by_, 0, none⟩ = some (.int .i64 t2)) (y1 : w9.cell? ⟨by_, 1, none⟩ = some (.int .i64 n2))
    (hc1 : Calls Try.prog 31 #[vt, idv t n] w9.drew fun e W' => ∃ x, e = .returned x ∧ P1 x W') (hk : ∀ x W, P1 x W → W.cell? ⟨by_, 0, none⟩ = some (.int .i64 t2) ∧ W.cell? ⟨by_, 1, none⟩ = some (.int .i64 n2))
    (hc2 : ∀ x W, P1 x W → Calls Try.prog 31 #[vt, idv t2 n2] W fun e W' => ∃ y, e = .returned y ∧ P2 x y W')
    (hQ : ∀ (g : Value × Value) (W : World), (P2 g.1 g.2 W) → Q .normal ⟨putAll base ((fun g : Value × Value => ([(some 9, vt), (some 10, .agg #[.int .i64 t, .int .i64 n]), (some 11, g.1), (some 12, vt), (some 13, .agg #[.int .i64 t2, .int .i64 n2]), (some 14, g.2), (some 7, g.1), (some 8, g.2)] : List (Option Tmp × Value))) g), dd⟩ W) :
    (Code.region 1 ops true).wp Try.prog Q ⟨base, dd⟩ w9 := by
  have hmix : Try.prog.follows .mixedOrders = true := by kernel_rfl
  have h2 := (show Try.f13.body.bind (regs 1) = some _ from rfl).symm.trans hops
  obtain rfl := Option.some.inj h2
  clear h2 hops
  have cK : ∀ (g : Value × Value) (W : World), W = w9.drew → Calls Try.prog 31 #[vt, idv t n] W fun e W' => ∃ x, e = .returned x ∧ P1 x W' := fun g W hW => by rw [hW]; exact hc1
  have cK2 : ∀ (g : Value × Value) (W : World), P1 g.1 W → Calls Try.prog 31 #[vt, idv t2 n2] W fun e W' => ∃ y, e = .returned y ∧ P2 g.1 y W' := fun g W hW => hc2 _ _ hW
  obtain ⟨LL, hLe⟩ : ∃ LL : Value × Value → List (Option Tmp × Value), LL = (fun g : Value × Value => ([(some 9, vt), (some 10, .agg #[.int .i64 t, .int .i64 n]), (some 11, g.1), (some 12, vt), (some 13, .agg #[.int .i64 t2, .int .i64 n2]), (some 14, g.2), (some 7, g.1), (some 8, g.2)] : List (Option Tmp × Value))) := ⟨_, rfl⟩
  have vv0 : ∀ g, vals (LL g) 0 = vt := fun g => by rw [hLe]; rfl
  have vv1 : ∀ g, vals (LL g) 1 = .agg #[.int .i64 t, .int .i64 n] := fun g => by rw [hLe]; rfl
  have vv2 : ∀ g, vals (LL g) 2 = g.1 := fun g => by rw [hLe]; rfl
  have vv3 : ∀ g, vals (LL g) 3 = vt := fun g => by rw [hLe]; rfl
  have vv4 : ∀ g, vals (LL g) 4 = .agg #[.int .i64 t2, .int .i64 n2] := fun g => by rw [hLe]; rfl
  have vv5 : ∀ g, vals (LL g) 5 = g.2 := fun g => by rw [hLe]; rfl
  have vv6 : ∀ g, vals (LL g) 6 = g.1 := fun g => by rw [hLe]; rfl
  have vv7 : ∀ g, vals (LL g) 7 = g.2 := fun g => by rw [hLe]; rfl
  refine region_laidg hmix (by kernel_rfl) 26 hsz (by kernel_rfl) (undef, undef) LL (fun g => by rw [hLe]; rfl) (fun (g : Value × Value) (b : Nat → Bool) (W : World) => if b 5 = true then (P2 g.1 g.2 W) else if b 2 = true then (P1 g.1 W) else (W = w9.drew)) ?_ ?_ ?_
  · simp only [Bool.false_eq_true, if_false]
  · intro g b W io o a hS hcl ho hb hd ev kp yl
    have ch0 : b 5 = true → b 2 = true := fun h => hcl 5 _ rfl h ⟨2, .chain⟩ (by simp) rfl
    match io with
    | 0 =>
      simp only [List.getElem?_toArray, List.getElem?_cons_zero, Option.some.injEq] at ho
      subst ho
      have e0 : a.tmps[0]?.getD undef = vt := (kp 0 (none_till (by kernel_rfl))).trans b0
      have n2 : b 2 = false := by
        cases h : b 2
        · rfl
        · rw [hcl 2 _ rfl (h) ⟨0, .data⟩ (by simp) rfl] at hb; cases hb
      have n5 : b 5 = false := by
        cases h : b 5
        · rfl
        · rw [hcl 2 _ rfl (hcl 5 _ rfl (h) ⟨2, .chain⟩ (by simp) rfl) ⟨0, .data⟩ (by simp) rfl] at hb; cases hb
      refine Doesg.value (vt) W (by unfold Region.wanted; rfl) (by intro c h; cases h) ?_ ⟨g, fun _ _ => rfl, (vv0 g).symm, by simpa [did] using hS⟩
      · simp [execOp, go_sem, e0]
    | 1 =>
      simp only [List.getElem?_toArray, List.getElem?_cons_zero, List.getElem?_cons_succ, Option.some.injEq] at ho
      subst ho
      have e4 : a.tmps[4]?.getD undef = .pointer (some ⟨bx_, 0, none⟩) := (kp 4 (none_till (by kernel_rfl))).trans b4
      have n2 : b 2 = false := by
        cases h : b 2
        · rfl
        · rw [hcl 2 _ rfl (h) ⟨1, .data⟩ (by simp) rfl] at hb; cases hb
      have n5 : b 5 = false := by
        cases h : b 5
        · rfl
        · rw [hcl 2 _ rfl (hcl 5 _ rfl (h) ⟨2, .chain⟩ (by simp) rfl) ⟨1, .data⟩ (by simp) rfl] at hb; cases hb
      have hW : W = w9.drew := by simpa [n2, n5] using hS
      have hl : W.cell? ⟨bx_, 0, none⟩ = some (.int .i64 t) := by rw [hW]; exact x0
      have hl2 : W.cell? ⟨bx_, 1, none⟩ = some (.int .i64 n) := by rw [hW]; exact x1
      refine Doesg.value (.agg #[.int .i64 t, .int .i64 n]) W (by unfold Region.wanted; rfl) (by intro c h; cases h) ?_ ⟨g, fun _ _ => rfl, (vv1 g).symm, by simpa [did] using hS⟩
      · simp [execOp, go_sem, e4, hl, hl2]
    | 2 =>
      simp only [List.getElem?_toArray, List.getElem?_cons_zero, List.getElem?_cons_succ, Option.some.injEq] at ho
      subst ho
      have p0 : b 0 = true := hd ⟨0, .data⟩ (by simp) rfl
      have p1 : b 1 = true := hd ⟨1, .data⟩ (by simp) rfl
      have e9 := (ev 0 9 rfl p0).trans (vv0 g)
      have e10 := (ev 1 10 rfl p1).trans (vv1 g)
      have n5 : b 5 = false := by
        cases h : b 5
        · rfl
        · rw [hcl 5 _ rfl (h) ⟨2, .chain⟩ (by simp) rfl] at hb; cases hb
      have hS9 : W = w9.drew := by simpa [n5, hb] using hS
      refine Doesg.call 31 (#[vt, idv t n]) (by unfold Region.wanted; rfl) (by intro c h; cases h) ?_ ?_
      · simp [go_sem, e9, e10]
      · refine (cK g W hS9).mono ?_
        rintro e W' ⟨x, rfl, hP⟩
        refine ⟨_, rfl, (x, g.2), ?_, (vv2 (x, g.2)).symm, ?_⟩
        · intro j hj
          match j, hj with
          | 0, h => exact (vv0 _).trans (vv0 g).symm
          | 1, h => exact (vv1 _).trans (vv1 g).symm
          | 2, h => exact absurd (h.symm.trans hb) (by decide)
          | 3, h => exact (vv3 _).trans (vv3 g).symm
          | 4, h => exact (vv4 _).trans (vv4 g).symm
          | 5, h => exact (vv5 _).trans (vv5 g).symm
          | 6, h => exact absurd ((hcl 6 _ rfl (h) ⟨2, .data⟩ (by simp) rfl).symm.trans hb) (by decide)
          | 7, h => exact (vv7 _).trans (vv7 g).symm
          | j + 8, _ => subst hLe; rfl
        · simpa [did, n5] using hP
    | 3 =>
      simp only [List.getElem?_toArray, List.getElem?_cons_zero, List.getElem?_cons_succ, Option.some.injEq] at ho
      subst ho
      have e0 : a.tmps[0]?.getD undef = vt := (kp 0 (none_till (by kernel_rfl))).trans b0
      have n5 : b 5 = false := by
        cases h : b 5
        · rfl
        · rw [hcl 5 _ rfl (h) ⟨3, .data⟩ (by simp) rfl] at hb; cases hb
      refine Doesg.value (vt) W (by unfold Region.wanted; rfl) (by intro c h; cases h) ?_ ⟨g, fun _ _ => rfl, (vv3 g).symm, by simpa [did] using hS⟩
      · simp [execOp, go_sem, e0]
    | 4 =>
      simp only [List.getElem?_toArray, List.getElem?_cons_zero, List.getElem?_cons_succ, Option.some.injEq] at ho
      subst ho
      have e5 : a.tmps[5]?.getD undef = .pointer (some ⟨by_, 0, none⟩) := (kp 5 (none_till (by kernel_rfl))).trans b5
      have n5 : b 5 = false := by
        cases h : b 5
        · rfl
        · rw [hcl 5 _ rfl (h) ⟨4, .data⟩ (by simp) rfl] at hb; cases hb
      have hl : W.cell? ⟨by_, 0, none⟩ = some (.int .i64 t2) ∧ W.cell? ⟨by_, 1, none⟩ = some (.int .i64 n2) := by
        have hS2 : if b 2 = true then (P1 g.1 W) else W = w9.drew := by simpa [n5] using hS
        split at hS2
        · exact hk _ _ hS2
        · rw [hS2]; exact ⟨y0, y1⟩
      refine Doesg.value (.agg #[.int .i64 t2, .int .i64 n2]) W (by unfold Region.wanted; rfl) (by intro c h; cases h) ?_ ⟨g, fun _ _ => rfl, (vv4 g).symm, by simpa [did] using hS⟩
      · simp [execOp, go_sem, e5, hl.1, hl.2]
    | 5 =>
      simp only [List.getElem?_toArray, List.getElem?_cons_zero, List.getElem?_cons_succ, Option.some.injEq] at ho
      subst ho
      have p3 : b 3 = true := hd ⟨3, .data⟩ (by simp) rfl
      have p4 : b 4 = true := hd ⟨4, .data⟩ (by simp) rfl
      have e12 := (ev 3 12 rfl p3).trans (vv3 g)
      have e13 := (ev 4 13 rfl p4).trans (vv4 g)
      have p2 : b 2 = true := hd ⟨2, .chain⟩ (by simp) rfl
      have hS9 : P1 g.1 W := by simpa [hb, p2] using hS
      refine Doesg.call 31 (#[vt, idv t2 n2]) (by unfold Region.wanted; rfl) (by intro c h; cases h) ?_ ?_
      · simp [go_sem, e12, e13]
      · refine (cK2 g W hS9).mono ?_
        rintro e W' ⟨x, rfl, hP⟩
        refine ⟨_, rfl, (g.1, x), ?_, (vv5 (g.1, x)).symm, ?_⟩
        · intro j hj
          match j, hj with
          | 0, h => exact (vv0 _).trans (vv0 g).symm
          | 1, h => exact (vv1 _).trans (vv1 g).symm
          | 2, h => exact (vv2 _).trans (vv2 g).symm
          | 3, h => exact (vv3 _).trans (vv3 g).symm
          | 4, h => exact (vv4 _).trans (vv4 g).symm
          | 5, h => exact absurd (h.symm.trans hb) (by decide)
          | 6, h => exact (vv6 _).trans (vv6 g).symm
          | 7, h => exact absurd ((hcl 7 _ rfl (h) ⟨5, .data⟩ (by simp) rfl).symm.trans hb) (by decide)
          | j + 8, _ => subst hLe; rfl
        · simpa [did] using hP
    | 6 =>
      simp only [List.getElem?_toArray, List.getElem?_cons_zero, List.getElem?_cons_succ, Option.some.injEq] at ho
      subst ho
      have p2 : b 2 = true := hd ⟨2, .data⟩ (by simp) rfl
      have e11 := (ev 2 11 rfl p2).trans (vv2 g)
      refine Doesg.value (g.1) W (by unfold Region.wanted; rfl) (by intro c h; cases h) ?_ ⟨g, fun _ _ => rfl, (vv6 g).symm, by simpa [did] using hS⟩
      · simp [execOp, go_sem, e11]
    | 7 =>
      simp only [List.getElem?_toArray, List.getElem?_cons_zero, List.getElem?_cons_succ, Option.some.injEq] at ho
      subst ho
      have p5 : b 5 = true := hd ⟨5, .data⟩ (by simp) rfl
      have e14 := (ev 5 14 rfl p5).trans (vv5 g)
      refine Doesg.value (g.2) W (by unfold Region.wanted; rfl) (by intro c h; cases h) ?_ ⟨g, fun _ _ => rfl, (vv7 g).symm, by simpa [did] using hS⟩
      · simp [execOp, go_sem, e14]
    | k + 8 => simp at ho
  · intro g b W hS hall
    have hl9 : b 5 = true := hall 5 (by decide)
    subst hLe
    exact hQ g W (by simpa [hl9] using hS)

set_option maxRecDepth 8000 in
set_option maxHeartbeats 4000000 in
theorem live_yes {Q : Exit → Act → World → Prop} {base : Array Value} {dd : List Deferred} {ops : Array Oper} (hops : Try.f17.body.bind (regs 1) = some ops) (gt bx : Nat) (w9 : World) (hsz : base.size = 18)
    (b0 : base.getD 0 undef = .pointer (some ⟨gt, 0, none⟩))
    (b3 : base.getD 3 undef = .pointer (some ⟨bx, 0, none⟩))
    (x0 : w9.cell? ⟨bx, 0, none⟩ = some (.int .i64 0)) (x1 : w9.cell? ⟨bx, 1, none⟩ = some (.int .i64 0))
    (cK : ∀ W, Below w9.heap.size w9 W → Calls Try.prog 33 #[] W fun e w' => e = .returned (.agg #[.int .i64 0, .int .i64 0]) ∧ Below W.heap.size W w')
    (hQ : ∀ W, Below w9.heap.size w9 W → Q .normal ⟨putAll base [(some 5, .agg #[.int .i64 0, .int .i64 0]), (some 6, .agg #[.int .i64 0, .int .i64 0]), (some 7, .bool true), (some 8, .bool true), (some 9, .pointer (some ⟨gt, 0, none⟩)), (some 10, .bool true), (some 11, .bool true), (some 12, .bool true), (some 13, undef), (some 14, undef), (some 15, undef), (some 16, undef), (some 17, .bool true), (some 4, .bool true)], dd⟩ W) :
    (Code.region 1 ops true).wp Try.prog Q ⟨base, dd⟩ w9 := by
  have hmix : Try.prog.follows .mixedOrders = true := by kernel_rfl
  have h2 := (show Try.f17.body.bind (regs 1) = some _ from rfl).symm.trans hops
  obtain rfl := Option.some.inj h2
  clear h2 hops
  have below9 : Below w9.heap.size w9 w9.drew := (Below.refl _ _).drew
  obtain ⟨LL, hLe⟩ : ∃ LL : List (Option Tmp × Value), LL = [(some 5, .agg #[.int .i64 0, .int .i64 0]), (some 6, .agg #[.int .i64 0, .int .i64 0]), (some 7, .bool true), (some 8, .bool true), (some 9, .pointer (some ⟨gt, 0, none⟩)), (some 10, .bool true), (some 11, .bool true), (some 12, .bool true), (some 13, undef), (some 14, undef), (some 15, undef), (some 16, undef), (some 17, .bool true), (some 4, .bool true)] := ⟨_, rfl⟩
  have vv0 : vals LL 0 = .agg #[.int .i64 0, .int .i64 0] := by rw [hLe]; rfl
  have vv1 : vals LL 1 = .agg #[.int .i64 0, .int .i64 0] := by rw [hLe]; rfl
  have vv2 : vals LL 2 = .bool true := by rw [hLe]; rfl
  have vv3 : vals LL 3 = .bool true := by rw [hLe]; rfl
  have vv4 : vals LL 4 = .pointer (some ⟨gt, 0, none⟩) := by rw [hLe]; rfl
  have vv5 : vals LL 5 = .bool true := by rw [hLe]; rfl
  have vv6 : vals LL 6 = .bool true := by rw [hLe]; rfl
  have vv7 : vals LL 7 = .bool true := by rw [hLe]; rfl
  have vv8 : vals LL 8 = undef := by rw [hLe]; rfl
  have vv9 : vals LL 9 = undef := by rw [hLe]; rfl
  have vv10 : vals LL 10 = undef := by rw [hLe]; rfl
  have vv11 : vals LL 11 = undef := by rw [hLe]; rfl
  have vv12 : vals LL 12 = .bool true := by rw [hLe]; rfl
  have vv13 : vals LL 13 = .bool true := by rw [hLe]; rfl
  refine region_laid hmix (by kernel_rfl) 18 hsz (by kernel_rfl) LL (by rw [hLe]; rfl) (fun _ W => Below w9.heap.size w9 W) below9 ?_ ?_
  · intro b W i o a hS hcl ho hb hd ev kp yl
    match i with
    | 0 =>
      simp only [List.getElem?_toArray, List.getElem?_cons_zero, Option.some.injEq] at ho
      subst ho
      have e3 : a.tmps[3]?.getD undef = .pointer (some ⟨bx, 0, none⟩) := (kp 3 (by kernel_rfl)).trans b3
      have d0 := (hS.cell (p := ⟨bx, 0, none⟩) (cell_lt x0)).trans x0
      have d1 := (hS.cell (p := ⟨bx, 1, none⟩) (cell_lt x1)).trans x1
      rw [vv0]
      refine does_value rfl (by intro c h; cases h) (w' := W) ?_ (hS)
      · simp [execOp, go_sem, e3, d0, d1]
    | 1 =>
      simp only [List.getElem?_toArray, List.getElem?_cons_zero, List.getElem?_cons_succ, Option.some.injEq] at ho
      subst ho
      rw [vv1]
      refine does_call rfl (by intro c h; cases h) (f := 33) (args := #[]) ?_ ?_
      · simp [go_sem, ]
      · exact (cK W hS).mono (fun e w' h => ⟨h.1, hS.trans (h.2.mono hS.size)⟩)
    | 2 =>
      simp only [List.getElem?_toArray, List.getElem?_cons_zero, List.getElem?_cons_succ, Option.some.injEq] at ho
      subst ho
      have p0 : b 0 = true := hd ⟨0, .data⟩ (by simp) rfl
      have p1 : b 1 = true := hd ⟨1, .data⟩ (by simp) rfl
      have e5 := (ev 0 5 rfl p0).trans vv0
      have e6 := (ev 1 6 rfl p1).trans vv1
      rw [vv2]
      refine does_value rfl (by intro c h; cases h) (w' := W) ?_ (hS)
      · (simp [execOp, go_sem, e5, e6, binOp, equal_id (0, 0) (0, 0)])
    | 3 =>
      simp only [List.getElem?_toArray, List.getElem?_cons_zero, List.getElem?_cons_succ, Option.some.injEq] at ho
      subst ho
      have p2 : b 2 = true := hd ⟨2, .data⟩ (by simp) rfl
      have e7 := (ev 2 7 rfl p2).trans vv2
      rw [vv3]
      refine does_value rfl (by intro c h; cases h) (w' := W) ?_ (hS)
      · simp [execOp, go_sem, e7]
    | 4 =>
      simp only [List.getElem?_toArray, List.getElem?_cons_zero, List.getElem?_cons_succ, Option.some.injEq] at ho
      subst ho
      have p3 : b 3 = true := hd ⟨3, .guard⟩ (by simp) rfl
      have e0 : a.tmps[0]?.getD undef = .pointer (some ⟨gt, 0, none⟩) := (kp 0 (by kernel_rfl)).trans b0
      rw [vv4]
      refine does_value_g rfl (yl 3 8 true rfl p3 vv3) (by intro c h; cases h) (w' := W) ?_ (hS)
      · simp [execOp, go_sem, e0]
    | 5 =>
      simp only [List.getElem?_toArray, List.getElem?_cons_zero, List.getElem?_cons_succ, Option.some.injEq] at ho
      subst ho
      have p4 : b 4 = true := hd ⟨4, .data⟩ (by simp) rfl
      have p3 : b 3 = true := hd ⟨3, .guard⟩ (by simp) rfl
      have e9 := (ev 4 9 rfl p4).trans vv4
      rw [vv5]
      refine does_value_g rfl (yl 3 8 true rfl p3 vv3) (by intro c h; cases h) (w' := W) ?_ (hS)
      · simp [execOp, go_sem, e9]
    | 6 =>
      simp only [List.getElem?_toArray, List.getElem?_cons_zero, List.getElem?_cons_succ, Option.some.injEq] at ho
      subst ho
      have p3 : b 3 = true := hd ⟨3, .data⟩ (by simp) rfl
      have p5 : b 5 = true := hd ⟨5, .data⟩ (by simp) rfl
      have e8 := (ev 3 8 rfl p3).trans vv3
      have e10 := (ev 5 10 rfl p5).trans vv5
      rw [vv6]
      refine does_value rfl (by intro c h; cases h) (w' := W) ?_ (hS)
      · simp [execOp, go_sem, e8, e10]
    | 7 =>
      simp only [List.getElem?_toArray, List.getElem?_cons_zero, List.getElem?_cons_succ, Option.some.injEq] at ho
      subst ho
      have p6 : b 6 = true := hd ⟨6, .data⟩ (by simp) rfl
      have e11 := (ev 6 11 rfl p6).trans vv6
      rw [vv7]
      refine does_value rfl (by intro c h; cases h) (w' := W) ?_ (hS)
      · simp [execOp, go_sem, e11]
    | 8 =>
      simp only [List.getElem?_toArray, List.getElem?_cons_zero, List.getElem?_cons_succ, Option.some.injEq] at ho
      subst ho
      have p7 : b 7 = true := hd ⟨7, .guard⟩ (by simp) rfl
      exact does_pass rfl (yl 7 12 true rfl p7 vv7) (by decide) vv8 (hS)
    | 9 =>
      simp only [List.getElem?_toArray, List.getElem?_cons_zero, List.getElem?_cons_succ, Option.some.injEq] at ho
      subst ho
      have p7 : b 7 = true := hd ⟨7, .guard⟩ (by simp) rfl
      exact does_pass rfl (yl 7 12 true rfl p7 vv7) (by decide) vv9 (hS)
    | 10 =>
      simp only [List.getElem?_toArray, List.getElem?_cons_zero, List.getElem?_cons_succ, Option.some.injEq] at ho
      subst ho
      have p7 : b 7 = true := hd ⟨7, .guard⟩ (by simp) rfl
      exact does_pass rfl (yl 7 12 true rfl p7 vv7) (by decide) vv10 (hS)
    | 11 =>
      simp only [List.getElem?_toArray, List.getElem?_cons_zero, List.getElem?_cons_succ, Option.some.injEq] at ho
      subst ho
      have p8 : b 8 = true := hd ⟨8, .data⟩ (by simp) rfl
      have p9 : b 9 = true := hd ⟨9, .data⟩ (by simp) rfl
      have p10 : b 10 = true := hd ⟨10, .data⟩ (by simp) rfl
      have p7 : b 7 = true := hd ⟨7, .guard⟩ (by simp) rfl
      exact does_pass rfl (yl 7 12 true rfl p7 vv7) (by decide) vv11 (hS)
    | 12 =>
      simp only [List.getElem?_toArray, List.getElem?_cons_zero, List.getElem?_cons_succ, Option.some.injEq] at ho
      subst ho
      have p7 : b 7 = true := hd ⟨7, .data⟩ (by simp) rfl
      have p11 : b 11 = true := hd ⟨11, .data⟩ (by simp) rfl
      have e12 := (ev 7 12 rfl p7).trans vv7
      rw [vv12]
      refine does_value rfl (by intro c h; cases h) (w' := W) ?_ (hS)
      · simp [execOp, go_sem, e12]
    | 13 =>
      simp only [List.getElem?_toArray, List.getElem?_cons_zero, List.getElem?_cons_succ, Option.some.injEq] at ho
      subst ho
      have p12 : b 12 = true := hd ⟨12, .data⟩ (by simp) rfl
      have e17 := (ev 12 17 rfl p12).trans vv12
      rw [vv13]
      refine does_value rfl (by intro c h; cases h) (w' := W) ?_ (hS)
      · simp [execOp, go_sem, e17]
    | k + 14 => simp at ho
  · intro b' W hS _
    subst hLe
    exact hQ W hS

set_option maxRecDepth 8000 in
set_option maxHeartbeats 4000000 in
theorem live_no {Q : Exit → Act → World → Prop} {base : Array Value} {dd : List Deferred} {ops : Array Oper} (hops : Try.f17.body.bind (regs 1) = some ops) (vt : Value) (bx : Nat) (t n : Int) (rb : Bool) (Post : World → Prop) (w9 : World) (hsz : base.size = 18)
    (b0 : base.getD 0 undef = vt)
    (b3 : base.getD 3 undef = .pointer (some ⟨bx, 0, none⟩))
    (hne : ¬ (t = 0 ∧ n = 0))
    (x0 : w9.cell? ⟨bx, 0, none⟩ = some (.int .i64 t)) (x1 : w9.cell? ⟨bx, 1, none⟩ = some (.int .i64 n))
    (cR : ∀ W, Calls Try.prog 33 #[] W fun e W' => e = .returned (.agg #[.int .i64 0, .int .i64 0]) ∧ Below W.heap.size W W')
    (hc1 : ∀ W, Below w9.heap.size w9 W → Calls Try.prog 13 #[vt, idv t n, idv 0 0] W fun e W' => e = .returned (.bool rb) ∧ Post W')
    (hQ : ∀ (g : Unit) (W : World), (Post W) → Q .normal ⟨putAll base ((fun _g : Unit => ([(some 5, .agg #[.int .i64 t, .int .i64 n]), (some 6, .agg #[.int .i64 0, .int .i64 0]), (some 7, .bool false), (some 8, .bool false), (some 9, undef), (some 10, undef), (some 11, .bool false), (some 12, .bool false), (some 13, vt), (some 14, .agg #[.int .i64 t, .int .i64 n]), (some 15, .agg #[.int .i64 0, .int .i64 0]), (some 16, .bool rb), (some 17, .bool rb), (some 4, .bool rb)] : List (Option Tmp × Value))) g), dd⟩ W) :
    (Code.region 1 ops true).wp Try.prog Q ⟨base, dd⟩ w9 := by
  have hmix : Try.prog.follows .mixedOrders = true := by kernel_rfl
  have h2 := (show Try.f17.body.bind (regs 1) = some _ from rfl).symm.trans hops
  obtain rfl := Option.some.inj h2
  clear h2 hops
  have heq : (decide (t = 0) && decide (n = 0)) = false := by
    by_cases h : t = 0
    · have : ¬ n = 0 := fun e => hne ⟨h, e⟩
      simp [this]
    · simp [h]
  have cK : ∀ (g : Unit) (W : World), Below w9.heap.size w9 W → Calls Try.prog 13 #[vt, idv t n, idv 0 0] W fun e W' => ∃ x : Unit, e = .returned (.bool rb) ∧ Post W' := fun g W hW => (hc1 W hW).mono fun e W' h => ⟨(), h.1, h.2⟩
  obtain ⟨LL, hLe⟩ : ∃ LL : Unit → List (Option Tmp × Value), LL = (fun _g : Unit => ([(some 5, .agg #[.int .i64 t, .int .i64 n]), (some 6, .agg #[.int .i64 0, .int .i64 0]), (some 7, .bool false), (some 8, .bool false), (some 9, undef), (some 10, undef), (some 11, .bool false), (some 12, .bool false), (some 13, vt), (some 14, .agg #[.int .i64 t, .int .i64 n]), (some 15, .agg #[.int .i64 0, .int .i64 0]), (some 16, .bool rb), (some 17, .bool rb), (some 4, .bool rb)] : List (Option Tmp × Value))) := ⟨_, rfl⟩
  have vv0 : ∀ g, vals (LL g) 0 = .agg #[.int .i64 t, .int .i64 n] := fun g => by rw [hLe]; rfl
  have vv1 : ∀ g, vals (LL g) 1 = .agg #[.int .i64 0, .int .i64 0] := fun g => by rw [hLe]; rfl
  have vv2 : ∀ g, vals (LL g) 2 = .bool false := fun g => by rw [hLe]; rfl
  have vv3 : ∀ g, vals (LL g) 3 = .bool false := fun g => by rw [hLe]; rfl
  have vv4 : ∀ g, vals (LL g) 4 = undef := fun g => by rw [hLe]; rfl
  have vv5 : ∀ g, vals (LL g) 5 = undef := fun g => by rw [hLe]; rfl
  have vv6 : ∀ g, vals (LL g) 6 = .bool false := fun g => by rw [hLe]; rfl
  have vv7 : ∀ g, vals (LL g) 7 = .bool false := fun g => by rw [hLe]; rfl
  have vv8 : ∀ g, vals (LL g) 8 = vt := fun g => by rw [hLe]; rfl
  have vv9 : ∀ g, vals (LL g) 9 = .agg #[.int .i64 t, .int .i64 n] := fun g => by rw [hLe]; rfl
  have vv10 : ∀ g, vals (LL g) 10 = .agg #[.int .i64 0, .int .i64 0] := fun g => by rw [hLe]; rfl
  have vv11 : ∀ g, vals (LL g) 11 = .bool rb := fun g => by rw [hLe]; rfl
  have vv12 : ∀ g, vals (LL g) 12 = .bool rb := fun g => by rw [hLe]; rfl
  have vv13 : ∀ g, vals (LL g) 13 = .bool rb := fun g => by rw [hLe]; rfl
  refine region_laidg hmix (by kernel_rfl) 18 hsz (by kernel_rfl) () LL (fun g => by rw [hLe]; rfl) (fun (_g : Unit) (b : Nat → Bool) (W : World) => if b 11 = true then (Post W) else (Below w9.heap.size w9 W)) ?_ ?_ ?_
  · simp only [Bool.false_eq_true, if_false]
    exact (Below.refl _ _).drew
  · intro g b W io o a hS hcl ho hb hd ev kp yl
    match io with
    | 0 =>
      simp only [List.getElem?_toArray, List.getElem?_cons_zero, Option.some.injEq] at ho
      subst ho
      have e3 : a.tmps[3]?.getD undef = .pointer (some ⟨bx, 0, none⟩) := (kp 3 (none_till (by kernel_rfl))).trans b3
      have n11 : b 11 = false := by
        cases h : b 11
        · rfl
        · rw [hcl 2 _ rfl (hcl 3 _ rfl (hcl 6 _ rfl (hcl 7 _ rfl (hcl 8 _ rfl (hcl 11 _ rfl (h) ⟨8, .data⟩ (by simp) rfl) ⟨7, .guard⟩ (by simp) rfl) ⟨6, .data⟩ (by simp) rfl) ⟨3, .data⟩ (by simp) rfl) ⟨2, .data⟩ (by simp) rfl) ⟨0, .data⟩ (by simp) rfl] at hb; cases hb
      have hB9 : Below w9.heap.size w9 W := by simpa [n11] using hS
      have hl := (hB9.cell (p := ⟨bx, 0, none⟩) (cell_lt x0)).trans x0
      have hl2 := (hB9.cell (p := ⟨bx, 1, none⟩) (cell_lt x1)).trans x1
      refine Doesg.value (.agg #[.int .i64 t, .int .i64 n]) W (by unfold Region.wanted; rfl) (by intro c h; cases h) ?_ ⟨g, fun _ _ => rfl, (vv0 g).symm, by simpa [did] using hS⟩
      · simp [execOp, go_sem, e3, hl, hl2]
    | 1 =>
      simp only [List.getElem?_toArray, List.getElem?_cons_zero, List.getElem?_cons_succ, Option.some.injEq] at ho
      subst ho
      have n11 : b 11 = false := by
        cases h : b 11
        · rfl
        · rw [hcl 2 _ rfl (hcl 3 _ rfl (hcl 6 _ rfl (hcl 7 _ rfl (hcl 8 _ rfl (hcl 11 _ rfl (h) ⟨8, .data⟩ (by simp) rfl) ⟨7, .guard⟩ (by simp) rfl) ⟨6, .data⟩ (by simp) rfl) ⟨3, .data⟩ (by simp) rfl) ⟨2, .data⟩ (by simp) rfl) ⟨1, .data⟩ (by simp) rfl] at hb; cases hb
      refine Doesg.call 33 (#[]) (by unfold Region.wanted; rfl) (by intro c h; cases h) ?_ ?_
      · simp [go_sem]
      · exact (cR W).mono fun e W' h => ⟨_, h.1, g, fun _ _ => rfl, (vv1 g).symm, by simpa [did, n11] using (show Below w9.heap.size w9 W from by simpa [n11] using hS).trans (h.2.mono (show Below w9.heap.size w9 W from by simpa [n11] using hS).size)⟩
    | 2 =>
      simp only [List.getElem?_toArray, List.getElem?_cons_zero, List.getElem?_cons_succ, Option.some.injEq] at ho
      subst ho
      have p0 : b 0 = true := hd ⟨0, .data⟩ (by simp) rfl
      have p1 : b 1 = true := hd ⟨1, .data⟩ (by simp) rfl
      have e5 := (ev 0 5 rfl p0).trans (vv0 g)
      have e6 := (ev 1 6 rfl p1).trans (vv1 g)
      have n11 : b 11 = false := by
        cases h : b 11
        · rfl
        · rw [hcl 3 _ rfl (hcl 6 _ rfl (hcl 7 _ rfl (hcl 8 _ rfl (hcl 11 _ rfl (h) ⟨8, .data⟩ (by simp) rfl) ⟨7, .guard⟩ (by simp) rfl) ⟨6, .data⟩ (by simp) rfl) ⟨3, .data⟩ (by simp) rfl) ⟨2, .data⟩ (by simp) rfl] at hb; cases hb
      refine Doesg.value (.bool false) W (by unfold Region.wanted; rfl) (by intro c h; cases h) ?_ ⟨g, fun _ _ => rfl, (vv2 g).symm, by simpa [did] using hS⟩
      · (simp [execOp, go_sem, e5, e6, binOp, equal_id (t, n) (0, 0), heq])
    | 3 =>
      simp only [List.getElem?_toArray, List.getElem?_cons_zero, List.getElem?_cons_succ, Option.some.injEq] at ho
      subst ho
      have p2 : b 2 = true := hd ⟨2, .data⟩ (by simp) rfl
      have e7 := (ev 2 7 rfl p2).trans (vv2 g)
      have n11 : b 11 = false := by
        cases h : b 11
        · rfl
        · rw [hcl 6 _ rfl (hcl 7 _ rfl (hcl 8 _ rfl (hcl 11 _ rfl (h) ⟨8, .data⟩ (by simp) rfl) ⟨7, .guard⟩ (by simp) rfl) ⟨6, .data⟩ (by simp) rfl) ⟨3, .data⟩ (by simp) rfl] at hb; cases hb
      refine Doesg.value (.bool false) W (by unfold Region.wanted; rfl) (by intro c h; cases h) ?_ ⟨g, fun _ _ => rfl, (vv3 g).symm, by simpa [did] using hS⟩
      · simp [execOp, go_sem, e7]
    | 4 =>
      simp only [List.getElem?_toArray, List.getElem?_cons_zero, List.getElem?_cons_succ, Option.some.injEq] at ho
      subst ho
      have p3 : b 3 = true := hd ⟨3, .guard⟩ (by simp) rfl
      exact Doesg.pass (by unfold Region.wanted; simp [(yl 3 8 false rfl p3 (vv3 g))]) ⟨g, fun _ _ => rfl, (vv4 g).symm, by simpa [did] using hS⟩
    | 5 =>
      simp only [List.getElem?_toArray, List.getElem?_cons_zero, List.getElem?_cons_succ, Option.some.injEq] at ho
      subst ho
      have p4 : b 4 = true := hd ⟨4, .data⟩ (by simp) rfl
      have p3 : b 3 = true := hd ⟨3, .guard⟩ (by simp) rfl
      exact Doesg.pass (by unfold Region.wanted; simp [(yl 3 8 false rfl p3 (vv3 g))]) ⟨g, fun _ _ => rfl, (vv5 g).symm, by simpa [did] using hS⟩
    | 6 =>
      simp only [List.getElem?_toArray, List.getElem?_cons_zero, List.getElem?_cons_succ, Option.some.injEq] at ho
      subst ho
      have p3 : b 3 = true := hd ⟨3, .data⟩ (by simp) rfl
      have p5 : b 5 = true := hd ⟨5, .data⟩ (by simp) rfl
      have e8 := (ev 3 8 rfl p3).trans (vv3 g)
      have n11 : b 11 = false := by
        cases h : b 11
        · rfl
        · rw [hcl 7 _ rfl (hcl 8 _ rfl (hcl 11 _ rfl (h) ⟨8, .data⟩ (by simp) rfl) ⟨7, .guard⟩ (by simp) rfl) ⟨6, .data⟩ (by simp) rfl] at hb; cases hb
      refine Doesg.value (.bool false) W (by unfold Region.wanted; rfl) (by intro c h; cases h) ?_ ⟨g, fun _ _ => rfl, (vv6 g).symm, by simpa [did] using hS⟩
      · simp [execOp, go_sem, e8]
    | 7 =>
      simp only [List.getElem?_toArray, List.getElem?_cons_zero, List.getElem?_cons_succ, Option.some.injEq] at ho
      subst ho
      have p6 : b 6 = true := hd ⟨6, .data⟩ (by simp) rfl
      have e11 := (ev 6 11 rfl p6).trans (vv6 g)
      have n11 : b 11 = false := by
        cases h : b 11
        · rfl
        · rw [hcl 8 _ rfl (hcl 11 _ rfl (h) ⟨8, .data⟩ (by simp) rfl) ⟨7, .guard⟩ (by simp) rfl] at hb; cases hb
      refine Doesg.value (.bool false) W (by unfold Region.wanted; rfl) (by intro c h; cases h) ?_ ⟨g, fun _ _ => rfl, (vv7 g).symm, by simpa [did] using hS⟩
      · simp [execOp, go_sem, e11]
    | 8 =>
      simp only [List.getElem?_toArray, List.getElem?_cons_zero, List.getElem?_cons_succ, Option.some.injEq] at ho
      subst ho
      have p7 : b 7 = true := hd ⟨7, .guard⟩ (by simp) rfl
      have e0 : a.tmps[0]?.getD undef = vt := (kp 0 (none_till (by kernel_rfl))).trans b0
      have n11 : b 11 = false := by
        cases h : b 11
        · rfl
        · rw [hcl 11 _ rfl (h) ⟨8, .data⟩ (by simp) rfl] at hb; cases hb
      refine Doesg.value (vt) W (by unfold Region.wanted; simp [(yl 7 12 false rfl p7 (vv7 g))]) (by intro c h; cases h) ?_ ⟨g, fun _ _ => rfl, (vv8 g).symm, by simpa [did] using hS⟩
      · simp [execOp, go_sem, e0]
    | 9 =>
      simp only [List.getElem?_toArray, List.getElem?_cons_zero, List.getElem?_cons_succ, Option.some.injEq] at ho
      subst ho
      have p7 : b 7 = true := hd ⟨7, .guard⟩ (by simp) rfl
      have e3 : a.tmps[3]?.getD undef = .pointer (some ⟨bx, 0, none⟩) := (kp 3 (none_till (by kernel_rfl))).trans b3
      have n11 : b 11 = false := by
        cases h : b 11
        · rfl
        · rw [hcl 11 _ rfl (h) ⟨9, .data⟩ (by simp) rfl] at hb; cases hb
      have hB9 : Below w9.heap.size w9 W := by simpa [n11] using hS
      have hl := (hB9.cell (p := ⟨bx, 0, none⟩) (cell_lt x0)).trans x0
      have hl2 := (hB9.cell (p := ⟨bx, 1, none⟩) (cell_lt x1)).trans x1
      refine Doesg.value (.agg #[.int .i64 t, .int .i64 n]) W (by unfold Region.wanted; simp [(yl 7 12 false rfl p7 (vv7 g))]) (by intro c h; cases h) ?_ ⟨g, fun _ _ => rfl, (vv9 g).symm, by simpa [did] using hS⟩
      · simp [execOp, go_sem, e3, hl, hl2]
    | 10 =>
      simp only [List.getElem?_toArray, List.getElem?_cons_zero, List.getElem?_cons_succ, Option.some.injEq] at ho
      subst ho
      have p7 : b 7 = true := hd ⟨7, .guard⟩ (by simp) rfl
      have n11 : b 11 = false := by
        cases h : b 11
        · rfl
        · rw [hcl 11 _ rfl (h) ⟨10, .data⟩ (by simp) rfl] at hb; cases hb
      refine Doesg.call 33 (#[]) (by unfold Region.wanted; simp [(yl 7 12 false rfl p7 (vv7 g))]) (by intro c h; cases h) ?_ ?_
      · simp [go_sem]
      · exact (cR W).mono fun e W' h => ⟨_, h.1, g, fun _ _ => rfl, (vv10 g).symm, by simpa [did, n11] using (show Below w9.heap.size w9 W from by simpa [n11] using hS).trans (h.2.mono (show Below w9.heap.size w9 W from by simpa [n11] using hS).size)⟩
    | 11 =>
      simp only [List.getElem?_toArray, List.getElem?_cons_zero, List.getElem?_cons_succ, Option.some.injEq] at ho
      subst ho
      have p8 : b 8 = true := hd ⟨8, .data⟩ (by simp) rfl
      have p9 : b 9 = true := hd ⟨9, .data⟩ (by simp) rfl
      have p10 : b 10 = true := hd ⟨10, .data⟩ (by simp) rfl
      have p7 : b 7 = true := hd ⟨7, .guard⟩ (by simp) rfl
      have e13 := (ev 8 13 rfl p8).trans (vv8 g)
      have e14 := (ev 9 14 rfl p9).trans (vv9 g)
      have e15 := (ev 10 15 rfl p10).trans (vv10 g)
      have hS9 : Below w9.heap.size w9 W := by simpa [hb] using hS
      refine Doesg.call 13 (#[vt, idv t n, idv 0 0]) (by unfold Region.wanted; simp [(yl 7 12 false rfl p7 (vv7 g))]) (by intro c h; cases h) ?_ ?_
      · simp [go_sem, e13, e14, e15]
      · refine (cK g W hS9).mono ?_
        rintro e W' ⟨x, rfl, hP⟩
        refine ⟨_, rfl, g, ?_, (vv11 g).symm, ?_⟩
        · exact fun _ _ => rfl
        · simpa [did] using hP
    | 12 =>
      simp only [List.getElem?_toArray, List.getElem?_cons_zero, List.getElem?_cons_succ, Option.some.injEq] at ho
      subst ho
      have p7 : b 7 = true := hd ⟨7, .data⟩ (by simp) rfl
      have p11 : b 11 = true := hd ⟨11, .data⟩ (by simp) rfl
      have e12 := (ev 7 12 rfl p7).trans (vv7 g)
      have e16 := (ev 11 16 rfl p11).trans (vv11 g)
      refine Doesg.value (.bool rb) W (by unfold Region.wanted; rfl) (by intro c h; cases h) ?_ ⟨g, fun _ _ => rfl, (vv12 g).symm, by simpa [did] using hS⟩
      · simp [execOp, go_sem, e12, e16]
    | 13 =>
      simp only [List.getElem?_toArray, List.getElem?_cons_zero, List.getElem?_cons_succ, Option.some.injEq] at ho
      subst ho
      have p12 : b 12 = true := hd ⟨12, .data⟩ (by simp) rfl
      have e17 := (ev 12 17 rfl p12).trans (vv12 g)
      refine Doesg.value (.bool rb) W (by unfold Region.wanted; rfl) (by intro c h; cases h) ?_ ⟨g, fun _ _ => rfl, (vv13 g).symm, by simpa [did] using hS⟩
      · simp [execOp, go_sem, e17]
    | k + 14 => simp at ho
  · intro g b W hS hall
    have hl9 : b 11 = true := hall 11 (by decide)
    subst hLe
    exact hQ g W (by simpa [hl9] using hS)

theorem new_any (w : World) : Calls Try.prog 8 #[] w fun e w' => e = .returned (.pointer (some ⟨w.heap.size, 0, none⟩)) ∧ TW (· = w.heap.size) w' w.heap.size [] ∧ Below w.heap.size w w' := by
  have HR : Hid (TW (· = w.heap.size) (w.alloc (.cells #[.map none, .slice none 0 0, .int .i64 0, .int .i64 0] 52)) w.heap.size [] ∧ Below w.heap.size w (w.alloc (.cells #[.map none, .slice none 0 0, .int .i64 0, .int .i64 0] 52))) := by
    refine ⟨.inl ⟨[], fun _ => 0, fun _ => false, ⟨fun _ => False, fun _ => .slice none 0 0, [], .slice none 0 0, ⟨RowP.nil _ _ _, (fun e he => by simp at he), List.Pairwise.nil, List.Pairwise.nil, (fun e he => by simp at he), Nat.zero_le _, (fun b hb => hb.elim), ⟨rfl, fun f => f⟩, (fun g hg => by cases hg), (fun e he => by simp at he), fun b hb => by rw [hb]; simp⟩, rfl, heap_alloc_new w _, ?_⟩, (fun q hq => by simp at hq), Nat.le_refl _⟩, (Below.refl w.heap.size w).alloc (Nat.le_refl _) _⟩
    exact ⟨(fun q hq => by simp at hq), (fun q hq => by simp at hq), (fun q hq => by simp at hq), (fun q hq => by simp at hq), (fun q hq => by simp at hq), Nat.zero_le _⟩
  go_enter Try.func8, Try.ntmps8
  go_wp2
  go_ret
  exact ⟨rfl, HR.out⟩
section
variable {F : Nat → Prop} {w : World} {gt s : Nat} {l : List OG} {T : List OB}
/-- The object by its ID, if it is there. -/
def obV (T : List OB) (bl : PI → Nat) (q : PI) : Value := if hasT T q = true then .pointer (some ⟨bl q, 0, none⟩) else .pointer none
theorem bel_has {F : Nat → Prop} {w : World} {mb : Nat} {B U : List PI} {bl : PI → Nat} {kv : PI → Value} {dr : PI → Bool} (h : TreeM F w mb B U bl kv dr T) {a b : PI} (hb : Bel T a b) : hasT T a = true ∧ hasT T b = true := by
  have up_has : ∀ {a b : PI}, upT T a = some b → hasT T a = true ∧ hasT T b = true := fun {a b} hu => by
    obtain ⟨k, o, hf, ho, _, _, e⟩ := upT_some hu
    refine ⟨by unfold hasT; rw [hf]; simp, ?_⟩
    have hd := h.wf.home o (List.mem_of_getElem? ho)
    have := h.isdir (o.pt, o.pn)
    rw [hd] at this
    rw [e]
    exact (Bool.and_eq_true_iff.1 this.symm).1
  induction hb with
  | one h1 => exact up_has h1
  | far h1 _ ih => exact ⟨(up_has h1).1, ih.2⟩
theorem Seen.again {w1 w2 : World} {mb mb2 : Nat} {B U B2 U2 : List PI} {bl bl2 : PI → Nat} {dr dr2 : PI → Bool} (h : Seen F w w1 gt l T s mb B U bl dr) (h2 : Seen (growF F w w1) w1 w2 gt l T s mb2 B2 U2 bl2 dr2) (hl : ∀ b, F b → b < w.heap.size) : Seen F w w2 gt l T s mb2 B2 U2 bl2 dr2 := by
  have s1 := h.only.size
  have s2 := h2.only.size
  refine ⟨h2.ts.mono (fun b hb => growF_trans s1 s2 hb) (fun b hb => ?_), only_grow h.only h2.only⟩
  rcases hb with hb | hb
  · have := hl b hb; omega
  · exact hb.2
end

end Go.Proofs.Ytgpbphjplbhfmaa.Ck.Y

/-
  A tree is looked at: Below, Live.
-/
namespace Go.Proofs.Ytgpbphjplbhfmaa.Ck.Y
open Go.RowKit Go.Maps Go.Lib

theorem TW.wide {F F' : Nat → Prop} {w : World} {gt : Nat} {l : List OG} (h : TW F w gt l) (hF : ∀ b, F b → F' b) (hl : ∀ b, F' b → b < w.heap.size) : TW F' w gt l := by
  rcases h with ⟨U, bl, dr, hn⟩ | ⟨d, T, s, mb, B, U, bl, dr, hn⟩
  · obtain ⟨FO, kv, L, v, hS, hr⟩ := hn.out
    exact .inl ⟨U, bl, dr, ⟨FO, kv, L, v, hS.mono hF hl, hr⟩, hn.uid, hn.ul⟩
  · exact .inr ⟨d, T, s, mb, B, U, bl, dr, hn.mono hF hl⟩
section
variable {F : Nat → Prop} {w : World} {gt s : Nat} {l : List OG} {T : List OB}
theorem caught_m {mb : Nat} {B U : List PI} {bl : PI → Nat} {dr : PI → Bool} (h : TSm F w gt l l.length T s mb B U bl dr) :
    Calls Try.prog 34 #[.pointer (some ⟨gt, 0, none⟩)] w fun e w' => e = .returned (.tuple #[]) ∧ Seen F w w' gt l T s mb B U bl dr := by
  refine (catch_some h).mono ?_
  rintro e w' ⟨rfl, ⟨T', s', h1⟩, h2⟩
  obtain ⟨rfl, rfl⟩ := h1.fold.unique h.fold
  exact ⟨rfl, h1, h2⟩
def LookedS (F : Nat → Prop) (w : World) (gt : Nat) (l : List OG) (T : List OB) (s mb : Nat) (B U : List PI) (bl : PI → Nat) (dr : PI → Bool) (t n : Int) (e : Ending) (w' : World) : Prop :=
  e = .returned (if hasT T (t, n) = true then .pointer (some ⟨bl (t, n), 0, none⟩) else .pointer none) ∧ Seen F w w' gt l T s mb B U bl dr
set_option maxRecDepth 8000 in
set_option maxHeartbeats 4000000 in
theorem look_seen {mb : Nat} {B U : List PI} {bl : PI → Nat} {dr : PI → Bool} (h : TSm F w gt l l.length T s mb B U bl dr) (t n : Int) :
    Calls Try.prog 31 #[.pointer (some ⟨gt, 0, none⟩), idv t n] w (LookedS F w gt l T s mb B U bl dr t n) := by
  have hlow : ∀ b, F b → b < w.heap.size := by obtain ⟨FO, kv, L, v, hS, _⟩ := h.out; exact hS.low
  have hB1 : Below w.heap.size w (w.alloc (.cells #[.int .i64 t, .int .i64 n] 31)) := (Below.refl w.heap.size w).alloc (Nat.le_refl _) _
  have hc := caught_m (h.below hB1)
  have hbx := heap_alloc_new w (.cells #[.int .i64 t, .int .i64 n] 31)
  have HH : Hid (Below w.heap.size w (w.alloc (.cells #[.int .i64 t, .int .i64 n] 31)) ∧ (w.alloc (.cells #[.int .i64 t, .int .i64 n] 31)).heap[w.heap.size]? = some (.cells #[.int .i64 t, .int .i64 n] 31 (0, 0)) ∧ ∀ b, F b → b < w.heap.size) := ⟨hB1, hbx, hlow⟩
  clear h hlow hB1 hbx
  go_enter Try.func31, Try.ntmps31
  go_wp2_with (go_at_call 34; refine hc.mono ?_; rintro e W ⟨rfl, hs⟩; have HS : Hid (Seen F (w.alloc (.cells #[.int .i64 t, .int .i64 n] 31)) W gt l T s mb B U bl dr) := hs; clear hs hc)
  obtain ⟨FO, kv, L, v, hS, hL, hg, hD, hM⟩ := HS.out.ts.out
  have hbx : W.heap[w.heap.size]? = _ := (HS.out.only.block _ (block_lt HH.out.2.1) (fun e => by have := HH.out.2.2 _ e; omega)).trans HH.out.2.1
  have g0 : W.cell? ⟨gt, 0, none⟩ = some (.map (some mb)) := cellOf hg 0
  have x0 : W.cell? ⟨w.heap.size, 0, none⟩ = some (.int .i64 t) := cellOf hbx 0
  have x1 : W.cell? ⟨w.heap.size, 1, none⟩ = some (.int .i64 n) := cellOf hbx 1
  refine look_r4 (by kernel_rfl) gt w.heap.size mb t n _ W rfl rfl rfl g0 x0 x1 (fun W' hW' => (hM.below hW').look t n) ?_
  intro W2 hB2
  have HR : Hid (Seen F w W2 gt l T s mb B U bl dr) := (HS.out.of_below HH.out.1 HH.out.2.2).below hB2 HH.out.2.2
  clear hB2 g0 x0 x1 hbx hS hL hg hD hM HS
  simp only [putAll, List.setIfInBounds_toArray, List.set_cons_zero, List.set_cons_succ]
  generalize hvv : (if hasT T (t, n) = true then Value.pointer (some ⟨bl (t, n), 0, none⟩) else .pointer none) = vv
  have HV : Hid (vv = if hasT T (t, n) = true then Value.pointer (some ⟨bl (t, n), 0, none⟩) else .pointer none) := hvv.symm
  clear hvv
  go_wp2_with fail
  go_ret
  exact ⟨congrArg Ending.returned HV.out, HR.out⟩
set_option maxRecDepth 8000 in
set_option maxHeartbeats 4000000 in
theorem pbelow_any (h : TW F w gt l) (hf : FoldT [] 0 l T s) (t n t2 n2 : Int) :
    Calls Try.prog 13 #[.pointer (some ⟨gt, 0, none⟩), idv t n, idv t2 n2] w fun e w' => ∃ r, e = .returned (.bool r) ∧ (r = true ↔ Bel T (t, n) (t2, n2)) ∧ TW (growF F w w') w' gt l ∧ Only F w w' := by
  have hlow := h.low
  obtain ⟨w1, hw1⟩ : ∃ w1, w1 = (w.alloc (.cells #[.int .i64 t, .int .i64 n] 31)).alloc (.cells #[.int .i64 t2, .int .i64 n2] 31) := ⟨_, rfl⟩
  have hB1 : Below w.heap.size w w1 := by rw [hw1]; exact ((Below.refl w.heap.size w).alloc (Nat.le_refl _) _).alloc (by simp) _
  have hx : w1.heap[w.heap.size]? = some (.cells #[.int .i64 t, .int .i64 n] 31 (0, 0)) := by rw [hw1, heap_alloc_old _ _ (by simp)]; exact heap_alloc_new w _
  have hy : w1.heap[w.heap.size + 1]? = some (.cells #[.int .i64 t2, .int .i64 n2] 31 (0, 0)) := by
    rw [hw1]
    have := heap_alloc_new (w.alloc (.cells #[.int .i64 t, .int .i64 n] 31)) (.cells #[.int .i64 t2, .int .i64 n2] 31)
    simpa using this
  have hs1 : w1.heap.size = w.heap.size + 2 := by rw [hw1]; simp
  have HH : Hid (TW F w1 gt l ∧ FoldT [] 0 l T s ∧ Below w.heap.size w w1 ∧ (∀ b, F b → b < w.heap.size) ∧ w1.heap[w.heap.size + 1]? = some (.cells #[.int .i64 t2, .int .i64 n2] 31 (0, 0)) ∧ w1.heap[w.heap.size]? = some (.cells #[.int .i64 t, .int .i64 n] 31 (0, 0)) ∧ w1.heap.size = w.heap.size + 2) := ⟨h.below hB1, hf, hB1, hlow, hy, hx, hs1⟩
  have HW : Hid (w1 = (w.alloc (.cells #[.int .i64 t, .int .i64 n] 31)).alloc (.cells #[.int .i64 t2, .int .i64 n2] 31)) := hw1
  clear h hf hlow hw1 hB1 hx hy hs1
  go_enter Try.func13, Try.ntmps13
  go_wp2_with fail
  rw [← HW.out]
  clear HW
  refine below_r1 (by kernel_rfl) (.pointer (some ⟨gt, 0, none⟩)) w.heap.size (w.heap.size + 1) t n t2 n2
    (fun x W => ∃ mb B U bl dr, x = obV T bl (t, n) ∧ Seen F w1 W gt l T s mb B U bl dr)
    (fun x y W => ∃ mb B U bl dr, x = obV T bl (t, n) ∧ y = obV T bl (t2, n2) ∧ Seen F w1 W gt l T s mb B U bl dr) w1 rfl rfl rfl (by simp) (cellOf HH.out.2.2.2.2.2.1 0) (cellOf HH.out.2.2.2.2.2.1 1) (cellOf HH.out.2.2.2.2.1 0) (cellOf HH.out.2.2.2.2.1 1) ?_ ?_ ?_ ?_
  · have hd : Below w1.heap.size w1 w1.drew := ⟨rfl, rfl, rfl, Nat.le_refl _, fun _ _ => rfl⟩
    have hl1 : ∀ b, F b → b < w1.heap.size := fun b hb => by have := HH.out.2.2.2.1 b hb; have := HH.out.2.2.2.2.2.2; omega
    refine (look_any (HH.out.1.below hd) HH.out.2.1 t n).mono ?_
    rintro e W ⟨mb, B, U, bl, dr, rfl, hs⟩
    exact ⟨_, rfl, mb, B, U, bl, dr, rfl, hs.of_below hd hl1⟩
  · rintro x W ⟨mb, B, U, bl, dr, rfl, hs⟩
    have := (hs.only.block _ (block_lt HH.out.2.2.2.2.1) (fun e => by have := HH.out.2.2.2.1 _ e; omega)).trans HH.out.2.2.2.2.1
    exact ⟨cellOf this 0, cellOf this 1⟩
  · rintro x W ⟨mb, B, U, bl, dr, rfl, hs⟩
    have hl1 : ∀ b, F b → b < w1.heap.size := fun b hb => by have := HH.out.2.2.2.1 b hb; have := HH.out.2.2.2.2.2.2; omega
    refine (look_seen hs.ts t2 n2).mono ?_
    rintro e W' ⟨rfl, hs2⟩
    exact ⟨_, rfl, mb, B, U, bl, dr, rfl, rfl, hs.again hs2 hl1⟩
  · rintro ⟨x, y⟩ W ⟨mb, B, U, bl, dr, hxv, hyv, hs⟩
    simp only at hxv hyv
    subst hxv
    subst hyv
    have hs' := hs.of_below HH.out.2.2.1 HH.out.2.2.2.1
    obtain ⟨FO, kv, L, v, hS, hL, hg, hD, hM⟩ := hs'.ts.out
    have HR : Hid (TW (growF F w W) W gt l ∧ Only F w W) := ⟨hs'.tw, hs'.only⟩
    simp only [putAll, List.setIfInBounds_toArray, List.set_cons_zero, List.set_cons_succ]
    cases hh1 : hasT T (t, n) with
    | false =>
      have e1 : obV T bl (t, n) = .pointer none := by unfold obV; rw [hh1]; rfl
      have HN : Hid (¬ Bel T (t, n) (t2, n2)) := fun hb => by rw [(bel_has hM hb).1] at hh1; cases hh1
      rw [e1]
      generalize obV T bl (t2, n2) = v2
      clear hs hs' hS hL hg hD hM
      go_wp2_with fail
      go_ret
      exact ⟨false, rfl, ⟨(fun e => by cases e), fun e => absurd e HN.out⟩, HR.out⟩
    | true =>
      have e1 : obV T bl (t, n) = .pointer (some ⟨bl (t, n), 0, none⟩) := by unfold obV; rw [hh1]; rfl
      rw [e1]
      cases hh2 : hasT T (t2, n2) with
      | false =>
        have e2 : obV T bl (t2, n2) = .pointer none := by unfold obV; rw [hh2]; rfl
        have HN : Hid (¬ Bel T (t, n) (t2, n2)) := fun hb => by rw [(bel_has hM hb).2] at hh2; cases hh2
        rw [e2]
        clear hs hs' hS hL hg hD hM
        go_wp2_with fail
        go_ret
        exact ⟨false, rfl, ⟨(fun e => by cases e), fun e => absurd e HN.out⟩, HR.out⟩
      | true =>
        have e2 : obV T bl (t2, n2) = .pointer (some ⟨bl (t2, n2), 0, none⟩) := by unfold obV; rw [hh2]; rfl
        rw [e2]
        have hbel := obelow_any hM.objs hM.par hM.wf.rank (hM.inU hh1) (hM.inU hh2)
        clear hs hs' hS hL hg hD hM
        go_wp2_with (go_at_call 32; refine hbel.mono ?_; rintro e W' ⟨r, rfl, hr, rfl⟩; clear hbel; have HQ : Hid (r = true ↔ Bel T (t, n) (t2, n2)) := hr; clear hr)
        go_ret
        exact ⟨r, rfl, HQ.out, HR.out⟩
set_option maxRecDepth 8000 in
set_option maxHeartbeats 4000000 in
theorem plive_any (h : TW F w gt l) (hf : FoldT [] 0 l T s) (t n : Int) :
    Calls Try.prog 17 #[.pointer (some ⟨gt, 0, none⟩), idv t n] w fun e w' => ∃ r, e = .returned (.bool r) ∧ (r = true ↔ (t = 0 ∧ n = 0) ∨ Bel T (t, n) (0, 0)) ∧ TW (growF F w w') w' gt l ∧ Only F w w' := by
  have hlow := h.low
  have hB1 : Below w.heap.size w (w.alloc (.cells #[.int .i64 t, .int .i64 n] 31)) := (Below.refl w.heap.size w).alloc (Nat.le_refl _) _
  have hx := heap_alloc_new w (.cells #[.int .i64 t, .int .i64 n] 31)
  have HH : Hid (TW F w gt l ∧ FoldT [] 0 l T s ∧ Below w.heap.size w (w.alloc (.cells #[.int .i64 t, .int .i64 n] 31)) ∧ (∀ b, F b → b < w.heap.size) ∧ (w.alloc (.cells #[.int .i64 t, .int .i64 n] 31)).heap[w.heap.size]? = some (.cells #[.int .i64 t, .int .i64 n] 31 (0, 0))) := ⟨h, hf, hB1, hlow, hx⟩
  clear h hf hlow hB1 hx
  by_cases h0 : t = 0 ∧ n = 0
  · obtain ⟨rfl, rfl⟩ := h0
    go_enter Try.func17, Try.ntmps17
    go_wp2_with fail
    refine live_yes (by kernel_rfl) gt w.heap.size _ rfl rfl rfl (cellOf HH.out.2.2.2.2 0) (cellOf HH.out.2.2.2.2 1) (fun W _ => Cd.root_any W) ?_
    intro W hB
    have HB : Hid (Below w.heap.size w W) := HH.out.2.2.1.trans (hB.mono HH.out.2.2.1.size)
    clear hB
    simp only [putAll, List.setIfInBounds_toArray, List.set_cons_zero, List.set_cons_succ]
    go_wp2_with fail
    go_ret
    refine ⟨true, rfl, ⟨fun _ => .inl (by simp), fun _ => rfl⟩, ?_, Below.only HB.out F⟩
    have ht := HH.out.1.below HB.out
    have z := HB.out.size
    rcases ht with ⟨U, bl, dr, hn⟩ | ⟨d, T, s, mb, B, U, bl, dr, hn⟩
    · obtain ⟨FO, kv, L, v, hS, hr⟩ := hn.out
      exact .inl ⟨U, bl, dr, ⟨FO, kv, L, v, hS.mono (fun b hb => .inl hb) (fun b hb => hb.elim (hS.low b) fun e => e.2), hr⟩, hn.uid, hn.ul⟩
    · have hlw : ∀ b, F b → b < W.heap.size := fun b hb => by have := HH.out.2.2.2.1 b hb; omega
      exact .inr ⟨d, T, s, mb, B, U, bl, dr, hn.mono (fun b hb => .inl hb) fun b hb => hb.elim (hlw b) fun e => e.2⟩
  · obtain ⟨rb, hrb⟩ : ∃ rb : Bool, rb = true ↔ Bel T (t, n) (0, 0) := by
      by_cases hB : Bel T (t, n) (0, 0)
      · exact ⟨true, ⟨fun _ => hB, fun _ => rfl⟩⟩
      · exact ⟨false, ⟨(fun e => by cases e), fun e => absurd e hB⟩⟩
    have HRB : Hid (rb = true ↔ Bel T (t, n) (0, 0)) := hrb
    clear hrb
    go_enter Try.func17, Try.ntmps17
    go_wp2_with fail
    refine live_no (by kernel_rfl) (.pointer (some ⟨gt, 0, none⟩)) w.heap.size t n rb (fun W => TW (growF F w W) W gt l ∧ Only F w W) _ rfl rfl rfl h0 (cellOf HH.out.2.2.2.2 0) (cellOf HH.out.2.2.2.2 1) (fun W => Cd.root_any W) (fun W hW => ?_) ?_
    · have hb := HH.out.2.2.1.trans (hW.mono HH.out.2.2.1.size)
      refine (pbelow_any (HH.out.1.below hb) HH.out.2.1 t n 0 0).mono ?_
      rintro e W' ⟨r, rfl, hr, h1, h2⟩
      have er : r = rb := by
        have := hr.trans HRB.out.symm
        cases r <;> cases rb <;> simp_all
      rw [er]
      have z1 := hb.size
      have z2 := h2.size
      refine ⟨rfl, h1.wide (fun b hb' => ?_) (fun b hb' => ?_), (Below.only hb F).next h2⟩
      · rcases hb' with hb' | hb'
        · exact .inl hb'
        · exact .inr ⟨by omega, hb'.2⟩
      · rcases hb' with hb' | hb'
        · have := HH.out.2.2.2.1 b hb'; omega
        · exact hb'.2
    · intro _ W hW
      have HWW : Hid (TW (growF F w W) W gt l ∧ Only F w W) := hW
      clear hW
      simp only [putAll, List.setIfInBounds_toArray, List.set_cons_zero, List.set_cons_succ]
      go_wp2_with fail
      go_ret
      refine ⟨rb, rfl, ⟨fun e => .inr (HRB.out.1 e), fun e => ?_⟩, HWW.out⟩
      rcases e with e | e
      · exact absurd e h0
      · exact HRB.out.2 e
/-- What Parent answers. -/
def parV (T : List OB) (q : PI) : Value := match placeT T q with
  | some (p, nm) => .tuple #[idv p.1 p.2, .string nm, .bool true]
  | none => .tuple #[idv 0 0, .string ⟨#[]⟩, .bool false]
set_option maxRecDepth 8000 in
set_option maxHeartbeats 4000000 in
theorem parent_any (h : TW F w gt l) (hf : FoldT [] 0 l T s) (t n : Int) :
    Calls Try.prog 12 #[.pointer (some ⟨gt, 0, none⟩), idv t n] w fun e w' => e = .returned (parV T (t, n)) ∧ TW (growF F w w') w' gt l ∧ Only F w w' := by
  have hlow := h.low
  obtain ⟨w1, hw1⟩ : ∃ w1, w1 = (w.alloc (.cells #[.int .i64 t, .int .i64 n] 31)).alloc (.cells #[.int .i64 0, .int .i64 0] 31) := ⟨_, rfl⟩
  have hB1 : Below w.heap.size w w1 := by rw [hw1]; exact ((Below.refl w.heap.size w).alloc (Nat.le_refl _) _).alloc (by simp) _
  have hy : w1.heap[w.heap.size + 1]? = some (.cells #[.int .i64 0, .int .i64 0] 31 (0, 0)) := by
    rw [hw1]
    have := heap_alloc_new (w.alloc (.cells #[.int .i64 t, .int .i64 n] 31)) (.cells #[.int .i64 0, .int .i64 0] 31)
    simpa using this
  have hs1 : w1.heap.size = w.heap.size + 2 := by rw [hw1]; simp
  have fin : ∀ {W : World} {mb : Nat} {B U : List PI} {bl : PI → Nat} {dr : PI → Bool} (u v : Value), Seen F w1 W gt l T s mb B U bl dr → Hid (TW (growF F w ((W.setCell ⟨w.heap.size + 1, 0, none⟩ u).setCell ⟨w.heap.size + 1, 1, none⟩ v)) ((W.setCell ⟨w.heap.size + 1, 0, none⟩ u).setCell ⟨w.heap.size + 1, 1, none⟩ v) gt l ∧ Only F w ((W.setCell ⟨w.heap.size + 1, 0, none⟩ u).setCell ⟨w.heap.size + 1, 1, none⟩ v)) := fun {W mb B U bl dr} u v hs => by
    have ho := two_only W (w.heap.size + 1) 0 1 u v
    have z1 := hs.only.size
    have z2 := ho.size
    refine ⟨(hs.tw.kept ho fun b hb e => ?_).wide (fun b hb => ?_) (fun b hb => ?_), ((Below.only hB1 F).next hs.only).trans ho fun j hj => .inr (by omega)⟩
    · rcases hb with hb | hb
      · have := hlow b hb; omega
      · omega
    · rcases hb with hb | hb
      · exact .inl hb
      · exact .inr ⟨by omega, by omega⟩
    · rcases hb with hb | hb
      · have := hlow b hb; omega
      · exact hb.2
  cases hpl : placeT T (t, n) with
  | none =>
    have hpv : parV T (t, n) = .tuple #[idv 0 0, .string ⟨#[]⟩, .bool false] := by unfold parV; rw [hpl]
    rw [hpv]
    cases hh : hasT T (t, n) with
    | false =>
      have hc : Calls Try.prog 31 #[.pointer (some ⟨gt, 0, none⟩), idv t n] w1 fun e W => e = .returned (.pointer none) ∧ W.cell? ⟨w.heap.size + 1, 0, none⟩ = some (.int .i64 0) ∧ W.cell? ⟨w.heap.size + 1, 1, none⟩ = some (.int .i64 0) ∧ W.frozen? ⟨w.heap.size + 1, 0, none⟩ = false ∧ W.frozen? ⟨w.heap.size + 1, 1, none⟩ = false ∧ Hid (∀ (u v : Value), TW (growF F w ((W.setCell ⟨w.heap.size + 1, 0, none⟩ u).setCell ⟨w.heap.size + 1, 1, none⟩ v)) ((W.setCell ⟨w.heap.size + 1, 0, none⟩ u).setCell ⟨w.heap.size + 1, 1, none⟩ v) gt l ∧ Only F w ((W.setCell ⟨w.heap.size + 1, 0, none⟩ u).setCell ⟨w.heap.size + 1, 1, none⟩ v)) := by
        refine (look_any (h.below hB1) hf t n).mono ?_
        rintro e W ⟨mb, B, U, bl, dr, rfl, hs⟩
        have hrb := (hs.only.block _ (block_lt hy) (fun e => by have := hlow _ e; omega)).trans hy
        rw [if_neg (by rw [hh]; decide)]
        exact ⟨rfl, cellOf hrb 0, cellOf hrb 1, frozenOf hrb 0, frozenOf hrb 1, fun u v => (fin u v hs).out⟩
      rw [hw1] at hc
      clear h hf hlow hw1 hB1 hy hs1 fin hpl hpv hh
      go_enter Try.func12, Try.ntmps12
      go_wp2_with (go_at_call 31; refine hc.mono ?_; rintro e W ⟨rfl, r0, r1, f0, f1, HF⟩; clear hc)
      refine bodyPost_ret (v := .tuple #[idv 0 0, .string ⟨#[]⟩, .bool false]) (by simp [results, Try.results12, go_sem, r0, r1]) rfl ?_
      exact ⟨rfl, HF.out _ _⟩
    | true =>
      have hc : Calls Try.prog 31 #[.pointer (some ⟨gt, 0, none⟩), idv t n] w1 fun e W => ∃ b : Nat, e = .returned (.pointer (some ⟨b, 0, none⟩)) ∧ W.cell? ⟨b, 0, none⟩ = some (.pointer none) ∧ W.cell? ⟨w.heap.size + 1, 0, none⟩ = some (.int .i64 0) ∧ W.cell? ⟨w.heap.size + 1, 1, none⟩ = some (.int .i64 0) ∧ W.frozen? ⟨w.heap.size + 1, 0, none⟩ = false ∧ W.frozen? ⟨w.heap.size + 1, 1, none⟩ = false ∧ Hid (∀ (u v : Value), TW (growF F w ((W.setCell ⟨w.heap.size + 1, 0, none⟩ u).setCell ⟨w.heap.size + 1, 1, none⟩ v)) ((W.setCell ⟨w.heap.size + 1, 0, none⟩ u).setCell ⟨w.heap.size + 1, 1, none⟩ v) gt l ∧ Only F w ((W.setCell ⟨w.heap.size + 1, 0, none⟩ u).setCell ⟨w.heap.size + 1, 1, none⟩ v)) := by
        refine (look_any (h.below hB1) hf t n).mono ?_
        rintro e W ⟨mb, B, U, bl, dr, rfl, hs⟩
        have hrb := (hs.only.block _ (block_lt hy) (fun e => by have := hlow _ e; omega)).trans hy
        rw [if_pos hh]
        obtain ⟨FO, kv, L, v, hS, hL, hg, hD, hM⟩ := hs.ts.out
        refine ⟨bl (t, n), rfl, ?_, cellOf hrb 0, cellOf hrb 1, frozenOf hrb 0, frozenOf hrb 1, fun u v => (fin u v hs).out⟩
        rw [hM.objs.cell (hM.inU hh) 0, hpl]
        rfl
      rw [hw1] at hc
      clear h hf hlow hw1 hB1 hy hs1 fin hpl hpv hh
      go_enter Try.func12, Try.ntmps12
      go_wp2_with (go_at_call 31; refine hc.mono ?_; rintro e W ⟨b, rfl, c0, r0, r1, f0, f1, HF⟩; clear hc)
      refine bodyPost_ret (v := .tuple #[idv 0 0, .string ⟨#[]⟩, .bool false]) (by simp [results, Try.results12, go_sem, r0, r1]) rfl ?_
      exact ⟨rfl, HF.out _ _⟩
  | some pn =>
    obtain ⟨p, nm⟩ := pn
    have hpv : parV T (t, n) = .tuple #[idv p.1 p.2, .string nm, .bool true] := by unfold parV; rw [hpl]
    rw [hpv]
    have hh : hasT T (t, n) = true := by
      obtain ⟨k, o, hk, _⟩ := placeT_some hpl
      unfold hasT
      rw [hk]
      simp
    have hc : Calls Try.prog 31 #[.pointer (some ⟨gt, 0, none⟩), idv t n] w1 fun e W => ∃ b u : Nat, e = .returned (.pointer (some ⟨b, 0, none⟩)) ∧ W.cell? ⟨b, 0, none⟩ = some (.pointer (some ⟨u, 0, none⟩)) ∧ W.cell? ⟨b, 1, none⟩ = some (.string nm) ∧ W.cell? ⟨u, 2, none⟩ = some (.int .i64 p.1) ∧ W.cell? ⟨u, 3, none⟩ = some (.int .i64 p.2) ∧ b ≠ w.heap.size + 1 ∧ u ≠ w.heap.size + 1 ∧ W.cell? ⟨w.heap.size + 1, 0, none⟩ = some (.int .i64 0) ∧ W.cell? ⟨w.heap.size + 1, 1, none⟩ = some (.int .i64 0) ∧ W.frozen? ⟨w.heap.size + 1, 0, none⟩ = false ∧ W.frozen? ⟨w.heap.size + 1, 1, none⟩ = false ∧ Hid (∀ (u v : Value), TW (growF F w ((W.setCell ⟨w.heap.size + 1, 0, none⟩ u).setCell ⟨w.heap.size + 1, 1, none⟩ v)) ((W.setCell ⟨w.heap.size + 1, 0, none⟩ u).setCell ⟨w.heap.size + 1, 1, none⟩ v) gt l ∧ Only F w ((W.setCell ⟨w.heap.size + 1, 0, none⟩ u).setCell ⟨w.heap.size + 1, 1, none⟩ v)) := by
      refine (look_any (h.below hB1) hf t n).mono ?_
      rintro e W ⟨mb, B, U, bl, dr, rfl, hs⟩
      have hrb := (hs.only.block _ (block_lt hy) (fun e => by have := hlow _ e; omega)).trans hy
      rw [if_pos hh]
      obtain ⟨FO, kv, L, v, hS, hL, hg, hD, hM⟩ := hs.ts.out
      have hU := hM.inU hh
      have hpU := hM.par _ hU _ _ hpl
      refine ⟨bl (t, n), bl p, rfl, ?_, ?_, hM.objs.cell hpU 2, hM.objs.cell hpU 3, apart_tags (hM.objs.obj _ hU) hrb (by decide), apart_tags (hM.objs.obj _ hpU) hrb (by decide), cellOf hrb 0, cellOf hrb 1, frozenOf hrb 0, frozenOf hrb 1, fun u v => (fin u v hs).out⟩
      · rw [hM.objs.cell hU 0, hpl]; rfl
      · rw [hM.objs.cell hU 1, hpl]; rfl
    rw [hw1] at hc
    clear h hf hlow hw1 hB1 hy hs1 fin hpl hpv hh
    go_enter Try.func12, Try.ntmps12
    go_wp2_with (go_at_call 31; refine hc.mono ?_; rintro e W ⟨b, u, rfl, c0, c1, c2, c3, hbn, hun, r0, r1, f0, f1, HF⟩; clear hc)
    refine parent_r4 (by kernel_rfl) (w.heap.size + 1) b u p.1 p.2 nm _ _ W rfl rfl rfl hbn hun c0 c1 c2 c3 r0 r1 f0 f1 ?_
    intro _ W4 hW4
    rw [hW4]
    clear hW4 W4 c0 c1 c2 c3
    simp only [putAll, List.setIfInBounds_toArray, List.set_cons_zero, List.set_cons_succ]
    go_wp2_with fail
    refine bodyPost_ret (v := .tuple #[idv p.1 p.2, .string nm, .bool true]) (by simp [results, Try.results12, go_sem, r0, r1]) rfl ?_
    have hd : Only (fun _ => False) ((W.setCell ⟨w.heap.size + 1, 0, none⟩ (.int .i64 p.1)).setCell ⟨w.heap.size + 1, 1, none⟩ (.int .i64 p.2)) ((W.drew.setCell ⟨w.heap.size + 1, 0, none⟩ (.int .i64 p.1)).setCell ⟨w.heap.size + 1, 1, none⟩ (.int .i64 p.2)) := ⟨rfl, rfl, rfl, Nat.le_refl _, fun _ _ _ => rfl⟩
    exact ⟨rfl, (HF.out _ _).1.kept hd (fun _ _ f => f), (HF.out _ _).2.next (only_sub hd fun _ f => f.elim)⟩
end

end Go.Proofs.Ytgpbphjplbhfmaa.Ck.Y

/-
  A tree is looked at: Kids.
-/
namespace Go.Proofs.Ytgpbphjplbhfmaa.Ck.Y
open Go.RowKit Go.Maps Go.Lib

/-- The first i stamps of m stand in the block. -/
def KidR (w : World) (ib len : Nat) (m : List PI) (i : Nat) : Prop := ∃ cur, w.heap[ib]? = some (.cells cur 31 (0, 0)) ∧ cur.size = len * 2 ∧ cur.toList.take (i * 2) = flatI (m.take i)
theorem KidR.step {w : World} {ib len : Nat} {m : List PI} {i : Nat} {x : PI} (h : KidR w ib len m i) (hx : m[i]? = some x) (hl : m.length = len) : KidR ((w.setCell ⟨ib, i * 2, none⟩ (.int .i64 x.1)).setCell ⟨ib, i * 2 + 1, none⟩ (.int .i64 x.2)) ib len m (i + 1) := by
  obtain ⟨cur, hb, hs, ht⟩ := h
  have hil := (List.getElem?_eq_some_iff.1 hx).1
  refine ⟨_, heap_set_same (k := i * 2 + 1) (heap_set_same (k := i * 2) hb _) _, by simp [hs], ?_⟩
  have hcl : cur.toList.length = len * 2 := by rw [Array.length_toList, hs]
  rw [Array.toList_setIfInBounds, Array.toList_setIfInBounds, List.take_add_one, hx]
  have e1 : flatI (m.take i ++ (some x).toList) = flatI (m.take i) ++ [.int .i64 x.1, .int .i64 x.2] := by
    rw [flatI_append]
    rfl
  rw [e1, ← ht]
  apply List.ext_getElem?
  intro k
  rw [List.getElem?_take]
  by_cases hk : k < i * 2
  · rw [if_pos (by omega), List.getElem?_append_left (by rw [List.length_take]; omega), List.getElem?_take_of_lt hk, List.getElem?_set_ne (by omega), List.getElem?_set_ne (by omega)]
  · rw [List.getElem?_append_right (by rw [List.length_take]; omega), List.length_take, Nat.min_eq_left (by omega)]
    by_cases h0 : k = i * 2
    · subst h0
      rw [if_pos (by omega), List.getElem?_set_ne (by omega), List.getElem?_set_self (by rw [hcl]; omega), Nat.sub_self]
      rfl
    · by_cases h1 : k = i * 2 + 1
      · subst h1
        rw [if_pos (by omega), List.getElem?_set_self (by rw [List.length_set, hcl]; omega), show i * 2 + 1 - i * 2 = 1 by omega]
        rfl
      · rw [if_neg (by omega), List.getElem?_eq_none (by simp; omega)]
theorem KidR.cells {w : World} {ib len : Nat} {m : List PI} {i k : Nat} (h : KidR w ib len m i) (hk : k < len * 2) : ∃ y, w.cell? ⟨ib, k, none⟩ = some y ∧ w.frozen? ⟨ib, k, none⟩ = false := by
  obtain ⟨cur, hb, hs, _⟩ := h
  exact ⟨_, (cellOf hb k).trans (Array.getElem?_eq_getElem (by omega)), frozenOf hb k⟩
/-- The kids by the places are the document's. -/
theorem kids_doc {F : Nat → Prop} {w : World} {mb : Nat} {B U : List PI} {bl : PI → Nat} {kv : PI → Value} {dr : PI → Bool} {T : List OB} (h : TreeM F w mb B U bl kv dr T) {q : PI} {m : List PI} (hm : KidsP U (placeT T) q m) : IsKids T q.1 q.2 m := by
  refine ⟨(List.perm_ext_iff_of_nodup hm.nodup ?_).2 fun r => ?_, hm.rise⟩
  · unfold kidsL
    have hn : (T.map idp).Nodup := (apartT_ids.1 h.wf.apart).imp fun {a b} hab e => hab ⟨congrArg Prod.fst e, congrArg Prod.snd e⟩
    exact List.Nodup.sublist (List.Sublist.map idp List.filter_sublist) hn
  · rw [hm.mem]
    unfold kidsL
    rw [List.mem_map]
    constructor
    · rintro ⟨_, nm, hp⟩
      obtain ⟨k, o, hf, ho, e1, e2, e3⟩ := placeT_some hp
      refine ⟨o, List.mem_filter.2 ⟨List.mem_of_getElem? ho, ?_⟩, e1⟩
      exact sameB_iff.2 ⟨congrArg Prod.fst e2, congrArg Prod.snd e2⟩
    · rintro ⟨o, ho, e⟩
      obtain ⟨hoT, hs⟩ := List.mem_filter.1 ho
      obtain ⟨s1, s2⟩ := sameB_iff.1 hs
      obtain ⟨k, hk, ek⟩ := List.getElem_of_mem hoT
      have hk' : T[k]? = some o := by rw [List.getElem?_eq_getElem hk, ek]
      refine ⟨by rw [← e]; exact h.ids o hoT, o.nm, ?_⟩
      rw [← e]
      have := placeT_at (q := idp o) (findT_at h.wf.apart hk') hk'
      rw [this, s1, s2]
theorem kids_no {F : Nat → Prop} {w : World} {mb : Nat} {B U : List PI} {bl : PI → Nat} {kv : PI → Value} {dr : PI → Bool} {T : List OB} (h : TreeM F w mb B U bl kv dr T) {t n : Int} (hh : hasT T (t, n) = false) : IsKids T t n [] := by
  refine ⟨?_, List.Pairwise.nil⟩
  have : kidsL T t n = [] := by
    unfold kidsL
    rw [List.map_eq_nil_iff, List.filter_eq_nil_iff]
    intro o ho hs
    obtain ⟨s1, s2⟩ := sameB_iff.1 hs
    have hd := h.wf.home o ho
    have := h.isdir (o.pt, o.pn)
    rw [hd] at this
    have h2 := (Bool.and_eq_true_iff.1 this.symm).1
    rw [s1, s2, hh] at h2
    cases h2
  rw [this]
/-- What Kids leaves. -/
def KidsOut (F : Nat → Prop) (w : World) (gt : Nat) (l : List OG) (T : List OB) (t n : Int) (e : Ending) (w' : World) : Prop := ∃ v m, e = .returned v ∧ RowI w' 0 v m ∧ IsKids T t n m ∧ m.length ≤ 900 ∧ TW (growF F w w') w' gt l ∧ Only F w w'
section
variable {F : Nat → Prop} {w : World} {gt s : Nat} {l : List OG} {T : List OB}
set_option maxRecDepth 8000 in
set_option maxHeartbeats 4000000 in
theorem pkids_any (h : TW F w gt l) (hf : FoldT [] 0 l T s) (t n : Int) :
    Calls Try.prog 15 #[.pointer (some ⟨gt, 0, none⟩), idv t n] w (KidsOut F w gt l T t n) := by
  have hlow := h.low
  have hB1 : Below w.heap.size w (w.alloc (.cells #[.int .i64 t, .int .i64 n] 31)) := (Below.refl w.heap.size w).alloc (Nat.le_refl _) _
  cases hh : hasT T (t, n) with
  | false =>
    have hc : Calls Try.prog 31 #[.pointer (some ⟨gt, 0, none⟩), idv t n] (w.alloc (.cells #[.int .i64 t, .int .i64 n] 31)) fun e W => e = .returned (.pointer none) ∧ Hid (IsKids T t n [] ∧ TW (growF F w W) W gt l ∧ Only F w W) := by
      refine (look_any (h.below hB1) hf t n).mono ?_
      rintro e W ⟨mb, B, U, bl, dr, rfl, hs⟩
      rw [if_neg (by rw [hh]; decide)]
      have hs' := hs.of_below hB1 hlow
      obtain ⟨FO, kv, L, v, hS, hL, hg, hD, hM⟩ := hs'.ts.out
      exact ⟨rfl, kids_no hM hh, hs'.tw, hs'.only⟩
    clear h hf hlow hB1 hh
    go_enter Try.func15, Try.ntmps15
    go_wp2_with (go_at_call 31; refine hc.mono ?_; rintro e W ⟨rfl, HR⟩; clear hc)
    go_ret
    exact ⟨.slice none 0 0, [], rfl, RowI.nil _ _, HR.out.1, Nat.zero_le _, HR.out.2⟩
  | true =>
    have hc : Calls Try.prog 31 #[.pointer (some ⟨gt, 0, none⟩), idv t n] (w.alloc (.cells #[.int .i64 t, .int .i64 n] 31)) fun e W => ∃ b p len cp, e = .returned (.pointer (some ⟨b, 0, none⟩)) ∧ W.cell? ⟨b, 5, none⟩ = some (.slice p len cp) ∧ len ≤ 900 ∧ len ≤ cp ∧
        Hid (∃ m, IsKids T t n m ∧ m.length = len ∧ TW (growF F w W) W gt l ∧ Only F w W ∧ ∀ i x, m[i]? = some x → ∃ g k : Nat, p = some ⟨g, 0, none⟩ ∧ W.cell? ⟨g, i, none⟩ = some (.pointer (some ⟨k, 0, none⟩)) ∧ W.cell? ⟨k, 2, none⟩ = some (.int .i64 x.1) ∧ W.cell? ⟨k, 3, none⟩ = some (.int .i64 x.2)) := by
      refine (look_any (h.below hB1) hf t n).mono ?_
      rintro e W ⟨mb, B, U, bl, dr, rfl, hs⟩
      rw [if_pos hh]
      have hs' := hs.of_below hB1 hlow
      obtain ⟨FO, kv, L, v, hS, hL, hg, hD, hM⟩ := hs'.ts.out
      have hU := hM.inU hh
      obtain ⟨m, hm, hr⟩ := hM.objs.kid _ hU
      obtain ⟨p, cp, e, hlc, _, hpp⟩ := hr.form
      have hml := hm.len
      have hul := hM.objs.len
      rw [List.length_map] at e hlc hpp
      refine ⟨bl (t, n), p, m.length, cp, rfl, ?_, by omega, hlc, m, kids_doc hM hm, rfl, hs'.tw, hs'.only, fun i x hx => ?_⟩
      · rw [hM.objs.cell hU 5, ← e]; rfl
      · have hil := (List.getElem?_eq_some_iff.1 hx).1
        obtain ⟨g, hpg, hcell⟩ := hpp (by omega)
        have hxU := ((hm.mem x).1 (List.mem_of_getElem? hx)).1
        exact ⟨g, bl x, hpg, hcell i (bl x) (by rw [List.getElem?_map, hx]; rfl), hM.objs.cell hxU 2, hM.objs.cell hxU 3⟩
    have HL : Hid (∀ b, F b → b < w.heap.size) := hlow
    clear h hf hlow hB1 hh
    obtain ⟨i0, hi0, hz0, hz1, hz2⟩ := infoIdA
    have hmk : ∀ (W : World) (len : Nat), len ≤ 900 → ∃ M : Array Value, (Instr.makeSlice 41 (.int .i64 (len : Nat)) (.int .i64 (len : Nat))).run Try.prog W = .ok (.slice (some ⟨W.heap.size, 0, none⟩) len len) (W.alloc (.cells M 31)) ∧ M.size = len * 2 := fun W len hl => by
      have h := run_make (P := Try.prog) W 41 31 i0 _ Try.underlying41 hi0 hz0 .i64 .i64 (len : Nat) (len : Nat) (by omega) (by omega) (by rw [hz2]; omega) (by omega)
      refine ⟨_, by simpa using h, ?_⟩
      rw [size_madeCells, hz1]
    clear hi0 hz0 hz1 hz2
    go_enter Try.func15, Try.ntmps15
    go_wp2_with (go_at_call 31; refine hc.mono ?_; rintro e W ⟨b, p, len, cp, rfl, c5, hl9, hlc, HR⟩; clear hc; obtain ⟨M, hmk1, hMs⟩ := hmk W len hl9; clear hmk; have c5b := cell_alloc c5 (.cells M 31))
    clear c5 c5b hmk1
    obtain ⟨m, HM⟩ : ∃ m, Hid (IsKids T t n m ∧ m.length = len ∧ TW (growF F w W) W gt l ∧ Only F w W ∧ ∀ i x, m[i]? = some x → ∃ g k : Nat, p = some ⟨g, 0, none⟩ ∧ W.cell? ⟨g, i, none⟩ = some (.pointer (some ⟨k, 0, none⟩)) ∧ W.cell? ⟨k, 2, none⟩ = some (.int .i64 x.1) ∧ W.cell? ⟨k, 3, none⟩ = some (.int .i64 x.2)) := by
      obtain ⟨m, hm⟩ := HR.out
      exact ⟨m, hm⟩
    clear HR
    have hK0 : Hid (KidR (W.alloc (.cells M 31)) W.heap.size len m 0) := ⟨M, heap_alloc_new W _, hMs, by simp [flatI]⟩
    clear hMs
    obtain ⟨ib, hib⟩ : ∃ ib, ib = W.heap.size := ⟨_, rfl⟩
    have HIB : Hid (ib = W.heap.size) := hib
    rw [← hib] at hK0 ⊢
    clear hib
    go_loopw [25] (fun vi wr => ∃ i : Nat, vi = .int .i64 i ∧ i ≤ len ∧ Hid (Only (· = ib) (W.alloc (.cells M 31)) wr ∧ KidR wr ib len m i)) (fun vi _ => len - (RowKit.intOf vi).toNat)
    case atStart => exact ⟨0, rfl, Nat.zero_le _, Only.refl _ _, hK0.out⟩
    case round =>
      obtain ⟨i, rfl, hil, HI⟩ := hrel
      by_cases hlt : i < len
      · have hltI : (i : Int) < (len : Int) := by omega
        obtain ⟨x, hx⟩ : ∃ x, m[i]? = some x := ⟨_, List.getElem?_eq_getElem (by rw [HM.out.2.1]; exact hlt)⟩
        obtain ⟨g, k, rfl, d1, d2, d3⟩ := HM.out.2.2.2.2 i x hx
        have up : ∀ {a c : Nat} {v : Value}, W.cell? ⟨a, c, none⟩ = some v → wr.cell? ⟨a, c, none⟩ = some v := fun {a c v} hv => only_cell HI.out.1 (cell_alloc hv _) (fun e => by have := cell_lt hv; have := HIB.out; omega)
        have e1 := up d1
        have e2 := up d2
        have e3 := up d3
        obtain ⟨y0, r0, f0⟩ := HI.out.2.cells (k := i * 2) (by omega)
        obtain ⟨y1, r1, f1⟩ := HI.out.2.cells (k := i * 2 + 1) (by omega)
        have HN : Hid (Only (· = ib) (W.alloc (.cells M 31)) ((wr.setCell ⟨ib, i * 2, none⟩ (.int .i64 x.1)).setCell ⟨ib, i * 2 + 1, none⟩ (.int .i64 x.2)) ∧ KidR ((wr.setCell ⟨ib, i * 2, none⟩ (.int .i64 x.1)).setCell ⟨ib, i * 2 + 1, none⟩ (.int .i64 x.2)) ib len m (i + 1)) := ⟨HI.out.1.next (two_only _ _ _ _ _ _), HI.out.2.step hx HM.out.2.1⟩
        clear d1 d2 d3 hx up
        go_wp2_with fail
        go_roundw
        case rel => exact ⟨i + 1, by go_num, by omega, HN.out⟩
        case measure => simp [RowKit.intOf]; omega
      · have hltI : ¬ (i : Int) < (len : Int) := by omega
        have hie : i = len := by omega
        have HE : Hid (KidsOut F w gt l T t n (.returned (.slice (some ⟨ib, 0, none⟩) len len)) wr) := by
          obtain ⟨cur, hb, hs, ht⟩ := HI.out.2
          obtain ⟨m1, m2, m3, m4, _⟩ := HM.out
          have hib := HIB.out
          have hBa : Below W.heap.size W (W.alloc (.cells M 31)) := (Below.refl W.heap.size W).alloc (Nat.le_refl _) _
          have ho : Only (fun b => b = ib) W wr := (Below.only hBa _).next HI.out.1
          have z1 := m4.size
          have z2 := ho.size
          refine ⟨_, m, rfl, ?_, m1, by omega, (m3.kept ho fun b hb' e => ?_).wide (fun b hb' => ?_) (fun b hb' => ?_), m4.trans ho fun j hj => .inr (by omega)⟩
          · refine ⟨flatI_length m, .inr ⟨ib, len, cur, by rw [m2], Nat.zero_le _, hb, by omega, by unfold maxLen; omega, hs, ?_⟩⟩
            rw [m2, ← hie, ht, List.take_of_length_le (by omega)]
          · rcases hb' with hb' | hb'
            · have := HL.out b hb'; omega
            · omega
          · rcases hb' with hb' | hb'
            · exact .inl hb'
            · exact .inr ⟨hb'.1, by omega⟩
          · rcases hb' with hb' | hb'
            · have := HL.out b hb'; omega
            · exact hb'.2
        go_wp2_with fail
        go_ret
        exact HE.out
end

end Go.Proofs.Ytgpbphjplbhfmaa.Ck.Y

/-
  begun: one object is made and moved.
-/
namespace Go.Proofs.Ytgpbphjplbhfmaa.Ck.Y
open Go.RowKit Go.Maps Go.Lib

def bo1 (vb : Nat) : OG := ⟨2, 0, 2, 2, 2, 0, 1, 0, ⟨#[102]⟩, none, 0, 0, some ⟨vb, 0, none⟩, 1, 1⟩
def bo2 : OG := ⟨1, 0, 1, 1, 1, 0, 0, 0, ⟨#[100]⟩, none, 0, 0, none, 0, 0⟩
theorem may1 (vb : Nat) : mayG (bo1 vb) [1] = true := by kernel_rfl
theorem may2 : mayG bo2 [] = true := by kernel_rfl
def bT : List OB := [⟨1, 0, 0, 0, ⟨#[100]⟩, true⟩, ⟨2, 0, 1, 0, ⟨#[102]⟩, false⟩]
theorem bfold (vb : Nat) : FoldT [] 0 [bo2, bo1 vb] bT 0 := by
  refine .cons (StepT.make (.inl rfl) rfl rfl rfl) (.cons (StepT.make (T := [madeO bo2]) (.inr rfl) rfl rfl rfl) ?_)
  exact .nil _ _
theorem bbel1 : Bel bT (2, 0) (1, 0) := .one rfl
theorem bbel0 : Bel bT (2, 0) (0, 0) := Bel.far (show upT bT (2, 0) = some (1, 0) from rfl) (Bel.one rfl)
theorem bpar : parV bT (2, 0) = .tuple #[idv 1 0, .string ⟨#[102]⟩, .bool true] := rfl
theorem bdir : dirT bT 1 0 = true := rfl
theorem bhas : hasT bT (2, 0) = true := rfl
theorem bkids {m : List PI} (h : IsKids bT 1 0 m) : m.length = 1 := by
  have := h.perm.length_eq
  exact this

/-- begun's tree and its two stamps. -/
structure BG (w : World) (F : Nat → Prop) (W : World) (gt A B : Nat) (l : List OG) : Prop where
  tw : TW F W gt l
  a : W.heap[A]? = some (.cells #[.int .i64 1, .int .i64 0] 31 (0, 0))
  b : W.heap[B]? = some (.cells #[.int .i64 2, .int .i64 0] 31 (0, 0))
  na : ¬ F A
  nb : ¬ F B
  lo : ∀ b, F b → w.heap.size ≤ b
  bel : Below w.heap.size w W
section
variable {w : World} {gt A B : Nat} {l : List OG}
theorem BG.next {F : Nat → Prop} {W W' : World} {l' : List OG} (h : BG w F W gt A B l) (ht : TW (growF F W W') W' gt l') (ho : Only F W W') : BG w (growF F W W') W' gt A B l' := by
  have z1 := h.bel.size
  have la := block_lt h.a
  have lb := block_lt h.b
  refine ⟨ht, (ho.block _ la h.na).trans h.a, (ho.block _ lb h.nb).trans h.b, ?_, ?_, fun b hb => ?_, h.bel.trans (ho.below z1 h.lo)⟩
  · rintro (e | e)
    · exact h.na e
    · omega
  · rintro (e | e)
    · exact h.nb e
    · omega
  · rcases hb with hb | hb
    · exact h.lo b hb
    · omega
theorem BG.below {F : Nat → Prop} {W W' : World} (h : BG w F W gt A B l) (hb : Below W.heap.size W W') : BG w F W' gt A B l :=
  ⟨h.tw.below hb, (hb.block _ (block_lt h.a)).trans h.a, (hb.block _ (block_lt h.b)).trans h.b, h.na, h.nb, h.lo, h.bel.trans (hb.mono h.bel.size)⟩
theorem BG.out {F : Nat → Prop} {W' : World} (h : BG w F W' gt A B l) : W'.cell? ⟨A, 0, none⟩ = some (.int .i64 1) ∧ W'.cell? ⟨A, 1, none⟩ = some (.int .i64 0) ∧ W'.cell? ⟨B, 0, none⟩ = some (.int .i64 2) ∧ W'.cell? ⟨B, 1, none⟩ = some (.int .i64 0) ∧ A < W'.heap.size ∧ B < W'.heap.size ∧ Hid (∃ F, BG w F W' gt A B l) := ⟨cellOf h.a 0, cellOf h.a 1, cellOf h.b 0, cellOf h.b 1, block_lt h.a, block_lt h.b, F, h⟩
end
def BGo (w : World) (gt A B : Nat) (l : List OG) (W' : World) : Prop := W'.cell? ⟨A, 0, none⟩ = some (.int .i64 1) ∧ W'.cell? ⟨A, 1, none⟩ = some (.int .i64 0) ∧ W'.cell? ⟨B, 0, none⟩ = some (.int .i64 2) ∧ W'.cell? ⟨B, 1, none⟩ = some (.int .i64 0) ∧ A < W'.heap.size ∧ B < W'.heap.size ∧ Hid (∃ F, BG w F W' gt A B l)
section
variable {w W : World} {gt A B V : Nat}
theorem bg_apply1 {F : Nat → Prop} (h : BG w F W gt A B []) (hv : W.heap[V]? = some (.cells #[.int .i64 1] 2 (0, 0))) : Calls Try.prog 10 #[.pointer (some ⟨gt, 0, none⟩), opgv (bo1 V)] W fun e W' => e = .returned (.tuple #[.int .i64 0, .int .i64 0]) ∧ BGo w gt A B [bo1 V] W' := by
  have hin : OpIn W (bo1 V) [1] := ⟨fun _ => ⟨V, 0, rfl, fun j x hj => by
    have := cellOf hv j
    rw [Nat.zero_add, this]
    simpa using hj⟩, rfl, Nat.le_refl _, by decide, (show (0 : Nat) < 9000000000000000000 by decide), (show (⟨#[102]⟩ : ByteArray).size ≤ 1000000 by decide)⟩
  refine (apply_new h.tw hin (may1 V) (fun x hx => by simp at hx) (Nat.zero_le _)).mono ?_
  rintro e W' ⟨i, rfl, hi, h1, h2⟩
  have h0 : i = 0 := by have := hi.le; simpa using this
  subst h0
  exact ⟨rfl, (h.next h1 h2).out⟩
theorem bg_apply2 (h : Hid (∃ F, BG w F W gt A B [bo1 V])) : Calls Try.prog 10 #[.pointer (some ⟨gt, 0, none⟩), opgv bo2] W fun e W' => e = .returned (.tuple #[.int .i64 1, .int .i64 0]) ∧ BGo w gt A B [bo2, bo1 V] W' := by
  obtain ⟨F, h⟩ := h.out
  have hin : OpIn W bo2 [] := ⟨Cd.lies_nil _ _, rfl, Nat.le_refl _, by decide, by decide, by decide⟩
  refine (apply_new h.tw hin may2 (fun x hx => by rw [List.mem_singleton.1 hx]; intro e; cases e) (show 1 ≤ 700 by decide)).mono ?_
  rintro e W' ⟨i, rfl, hi, h1, h2⟩
  have h0 : i = 0 := by
    have hle := hi.le
    by_cases h0 : i = 0
    · exact h0
    · have := hi.lo 0 (bo1 V) (by omega) rfl
      exact absurd this (show ¬ lessB 2 0 1 0 = true by decide)
  subst h0
  exact ⟨rfl, (h.next h1 h2).out⟩
theorem bg_parent (h : Hid (∃ F, BG w F W gt A B [bo2, bo1 V])) : Calls Try.prog 12 #[.pointer (some ⟨gt, 0, none⟩), idv 2 0] W fun e W' => e = .returned (.tuple #[idv 1 0, .string ⟨#[102]⟩, .bool true]) ∧ BGo w gt A B [bo2, bo1 V] W' := by
  obtain ⟨F, h⟩ := h.out
  refine (parent_any h.tw (bfold V) 2 0).mono ?_
  rintro e W' ⟨rfl, h1, h2⟩
  exact ⟨by rw [bpar], (h.next h1 h2).out⟩
theorem bg_same (h : Hid (∃ F, BG w F W gt A B [bo2, bo1 V])) : Calls Try.prog 16 #[idv 1 0, idv 1 0] (W.alloc (.cells #[.int .i64 1, .int .i64 0] 31)) fun e W' => e = .returned (.bool true) ∧ BGo w gt A B [bo2, bo1 V] W' := by
  obtain ⟨F, h⟩ := h.out
  refine (same_any 1 0 1 0 _).mono ?_
  rintro e W' ⟨rfl, hb⟩
  have h1 := h.below (W' := W.alloc (.cells #[.int .i64 1, .int .i64 0] 31)) ((Below.refl W.heap.size W).alloc (Nat.le_refl _) _)
  exact ⟨rfl, (h1.below hb).out⟩
theorem bg_live (h : Hid (∃ F, BG w F W gt A B [bo2, bo1 V])) : Calls Try.prog 17 #[.pointer (some ⟨gt, 0, none⟩), idv 2 0] W fun e W' => e = .returned (.bool true) ∧ BGo w gt A B [bo2, bo1 V] W' := by
  obtain ⟨F, h⟩ := h.out
  refine (plive_any h.tw (bfold V) 2 0).mono ?_
  rintro e W' ⟨r, rfl, hr, h1, h2⟩
  exact ⟨by rw [hr.2 (.inr bbel0)], (h.next h1 h2).out⟩
theorem bg_below (h : Hid (∃ F, BG w F W gt A B [bo2, bo1 V])) : Calls Try.prog 13 #[.pointer (some ⟨gt, 0, none⟩), idv 2 0, idv 1 0] W fun e W' => e = .returned (.bool true) ∧ BGo w gt A B [bo2, bo1 V] W' := by
  obtain ⟨F, h⟩ := h.out
  refine (pbelow_any h.tw (bfold V) 2 0 1 0).mono ?_
  rintro e W' ⟨r, rfl, hr, h1, h2⟩
  exact ⟨by rw [hr.2 bbel1], (h.next h1 h2).out⟩
theorem bg_len (h : Hid (∃ F, BG w F W gt A B [bo2, bo1 V])) : Calls Try.prog 18 #[.pointer (some ⟨gt, 0, none⟩)] W fun e W' => e = .returned (.int .i64 2) ∧ BGo w gt A B [bo2, bo1 V] W' := by
  obtain ⟨F, h⟩ := h.out
  refine (len_any h.tw (bfold V)).mono ?_
  rintro e W' ⟨rfl, h1, h2⟩
  exact ⟨rfl, (h.next h1 h2).out⟩
theorem bg_kids (h : Hid (∃ F, BG w F W gt A B [bo2, bo1 V])) : Calls Try.prog 15 #[.pointer (some ⟨gt, 0, none⟩), idv 1 0] W fun e W' => ∃ p c, e = .returned (.slice p 1 c) ∧ BGo w gt A B [bo2, bo1 V] W' := by
  obtain ⟨F, h⟩ := h.out
  refine (pkids_any h.tw (bfold V) 1 0).mono ?_
  rintro e W' ⟨v, m, rfl, hr, hk, _, h1, h2⟩
  obtain ⟨p, c, rfl⟩ := hr.slice
  rw [bkids hk]
  exact ⟨p, c, rfl, (h.next h1 h2).out⟩
theorem bg_dir (h : Hid (∃ F, BG w F W gt A B [bo2, bo1 V])) : Calls Try.prog 14 #[.pointer (some ⟨gt, 0, none⟩), idv 1 0] W fun e W' => e = .returned (.bool true) ∧ BGo w gt A B [bo2, bo1 V] W' := by
  obtain ⟨F, h⟩ := h.out
  refine (dir_any h.tw (bfold V) 1 0).mono ?_
  rintro e W' ⟨rfl, h1, h2⟩
  exact ⟨by rw [bdir], (h.next h1 h2).out⟩
theorem bg_has (h : Hid (∃ F, BG w F W gt A B [bo2, bo1 V])) : Calls Try.prog 11 #[.pointer (some ⟨gt, 0, none⟩), idv 2 0] W fun e W' => e = .returned (.bool true) ∧ BGo w gt A B [bo2, bo1 V] W' := by
  obtain ⟨F, h⟩ := h.out
  refine (has_any h.tw (bfold V) 2 0).mono ?_
  rintro e W' ⟨rfl, h1, h2⟩
  exact ⟨by rw [bhas], (h.next h1 h2).out⟩
theorem bg_skipped (h : Hid (∃ F, BG w F W gt A B [bo2, bo1 V])) : Calls Try.prog 20 #[.pointer (some ⟨gt, 0, none⟩)] W fun e W' => e = .returned (.int .i64 0) ∧ BGo w gt A B [bo2, bo1 V] W' := by
  obtain ⟨F, h⟩ := h.out
  refine (skipped_any h.tw (bfold V)).mono ?_
  rintro e W' ⟨rfl, h1, h2⟩
  exact ⟨rfl, (h.next h1 h2).out⟩
end
set_option maxRecDepth 8000 in
set_option maxHeartbeats 4000000 in
theorem begun_any (w : World) : Calls Try.prog 7 #[] w fun e w' => e = .returned (.bool true) ∧ Below w.heap.size w w' := by
  have hN : Calls Try.prog 8 #[] w fun e W0 => e = .returned (.pointer (some ⟨w.heap.size, 0, none⟩)) ∧ Calls Try.prog 10 #[.pointer (some ⟨w.heap.size, 0, none⟩), opgv (bo1 (W0.heap.size + 1 + 1))] (((W0.alloc (.cells #[.int .i64 1, .int .i64 0] 31)).alloc (.cells #[.int .i64 2, .int .i64 0] 31)).alloc (.cells #[.int .i64 1] 2)) fun e W' => e = .returned (.tuple #[.int .i64 0, .int .i64 0]) ∧ BGo w w.heap.size W0.heap.size (W0.heap.size + 1) [bo1 (W0.heap.size + 1 + 1)] W' := by
    refine (new_any w).mono ?_
    rintro e W0 ⟨rfl, hT, hb⟩
    refine ⟨rfl, ?_⟩
    have hB : Below W0.heap.size W0 (((W0.alloc (.cells #[.int .i64 1, .int .i64 0] 31)).alloc (.cells #[.int .i64 2, .int .i64 0] 31)).alloc (.cells #[.int .i64 1] 2)) := (((Below.refl W0.heap.size W0).alloc (Nat.le_refl _) _).alloc (by simp) _).alloc (by simp; omega) _
    have hl := hT.low
    have z := hb.size
    have hlt := hl w.heap.size rfl
    refine bg_apply1 (F := (· = w.heap.size)) ⟨hT.below hB, ?_, ?_, fun e => by omega, fun e => by omega, fun b hb => by omega, hb.trans (hB.mono z)⟩ ?_
    · rw [heap_alloc_old _ _ (by simp; omega), heap_alloc_old _ _ (by simp)]; exact heap_alloc_new W0 _
    · rw [heap_alloc_old _ _ (by simp)]
      have := heap_alloc_new (W0.alloc (.cells #[.int .i64 1, .int .i64 0] 31)) (.cells #[.int .i64 2, .int .i64 0] 31)
      simpa using this
    · have := heap_alloc_new ((W0.alloc (.cells #[.int .i64 1, .int .i64 0] 31)).alloc (.cells #[.int .i64 2, .int .i64 0] 31)) (.cells #[.int .i64 1] 2)
      simpa using this
  unfold bo1 at hN
  go_enter Try.func7, Try.ntmps7
  go_wp2_with (first
    | (go_at_call 8; refine hN.mono ?_; rintro e W0 ⟨rfl, hA1⟩; clear hN; obtain ⟨A, hA⟩ : ∃ A, A = W0.heap.size := ⟨_, rfl⟩; have HA0 : Hid (A = W0.heap.size) := hA; clear hA)
    | (go_at_call 10; refine hA1.mono ?_; rintro e W1 ⟨rfl, a0, a1, b0, b1, la, lb, hB1⟩; clear hA1; have hA2 := bg_apply2 (V := W0.heap.size + 1 + 1) hB1; unfold bo2 at hA2; clear hB1)
    | (go_at_call 10; refine hA2.mono ?_; rintro e W2 ⟨rfl, a20, a21, b20, b21, la2, lb2, hB2⟩; clear hA2 a0 a1 b0 b1 la lb)
    | (go_at_call 12; refine (bg_parent (V := W0.heap.size + 1 + 1) hB2).mono ?_; rintro e W3 ⟨rfl, a30, a31, b30, b31, la3, lb3, hB3⟩; clear hB2 a20 a21 b20 b21 la2 lb2)
    | (go_at_call 16; refine (bg_same (V := W0.heap.size + 1 + 1) hB3).mono ?_; rintro e W4 ⟨rfl, a40, a41, b40, b41, la4, lb4, hB4⟩; clear hB3 a30 a31 b30 b31 la3 lb3)
    | (go_at_call 17; refine (bg_live (V := W0.heap.size + 1 + 1) hB4).mono ?_; rintro e W5 ⟨rfl, a50, a51, b50, b51, la5, lb5, hB5⟩; clear hB4 a40 a41 b40 b41 la4 lb4)
    | (go_at_call 13; refine (bg_below (V := W0.heap.size + 1 + 1) hB5).mono ?_; rintro e W6 ⟨rfl, a60, a61, b60, b61, la6, lb6, hB6⟩; clear hB5 a50 a51 b50 b51 la5 lb5)
    | (go_at_call 18; refine (bg_len (V := W0.heap.size + 1 + 1) hB6).mono ?_; rintro e W7 ⟨rfl, a70, a71, b70, b71, la7, lb7, hB7⟩; clear hB6 a60 a61 b60 b61 la6 lb6)
    | (go_at_call 15; refine (bg_kids (V := W0.heap.size + 1 + 1) hB7).mono ?_; rintro e W8 ⟨p8, c8, rfl, a80, a81, b80, b81, la8, lb8, hB8⟩; clear hB7 a70 a71 b70 b71 la7 lb7)
    | (go_at_call 14; refine (bg_dir (V := W0.heap.size + 1 + 1) hB8).mono ?_; rintro e W9 ⟨rfl, a90, a91, b90, b91, la9, lb9, hB9⟩; clear hB8 a80 a81 b80 b81 la8 lb8)
    | (go_at_call 11; refine (bg_has (V := W0.heap.size + 1 + 1) hB9).mono ?_; rintro e Wa ⟨rfl, aa0, aa1, ba0, ba1, laa, lba, hBa⟩; clear hB9 a90 a91 b90 b91 la9 lb9)
    | (go_at_call 20; refine (bg_skipped (V := W0.heap.size + 1 + 1) hBa).mono ?_; rintro e Wb ⟨rfl, ab0, ab1, bb0, bb1, lab, lbb, hBb⟩; clear hBa aa0 aa1 ba0 ba1 laa lba))
  go_ret
  obtain ⟨F, hF⟩ := hBb.out
  exact ⟨rfl, hF.bel⟩

end Go.Proofs.Ytgpbphjplbhfmaa.Ck.Y

/-
  The document's With at node 2.
-/
namespace Go.Proofs.Ytgpbphjplbhfmaa.Vc
open Go.RowKit

attribute [local go_sem] Oper.semAt_some

/-- A vector in new memory. -/
def AnsN (w : World) (ns : List Int) (e : Ending) (w' : World) : Prop := ∃ b, e = .returned (.slice (some ⟨b, 0, none⟩) ns.length ns.length) ∧ w.heap.size ≤ b ∧ Lies w' (some ⟨b, 0, none⟩) (ns.map iv) ∧ Below w.heap.size w w'
theorem short_new {W w : World} {vv : Value} {n : Nat} {f : Nat → Int} (hb : Below W.heap.size W w) (ho : w.ownsRow W.heap.size 2 1 vv n ((nums f).map iv)) : Calls Try.prog 37 #[vv] w (AnsN W (vec f)) := by
  obtain ⟨_, p, c, rfl, hc, hl⟩ := owns_lies ho
  rw [List.length_map] at hc ⊢
  obtain ⟨b, o, rfl, hx⟩ := hl (by rw [List.length_map, nums_length]; decide)
  have hb0 : o = 0 ∧ W.heap.size ≤ b := by
    rcases ho.2 with ⟨e, _⟩ | ⟨g, cap, cur, e, hg, _⟩
    · cases e
    · cases e; exact ⟨rfl, hg⟩
  obtain ⟨rfl, hge⟩ := hb0
  refine (short_any b (nums f) c w hc (by rw [nums_length]; decide) hl).mono ?_
  rintro e w' ⟨rfl, rfl⟩
  rw [nums_length]
  have hlv := vec_length f
  rw [← hlv]
  refine ⟨b, rfl, hge, ?_, hb⟩
  unfold vec
  exact lies_take hl _

def w2F (ns : List Int) (q : Int) (k : Nat) : Int := if k = 2 then q else atOf ns k
set_option maxRecDepth 8000 in
set_option maxRecDepth 8000 in
set_option maxHeartbeats 1000000 in
theorem rwith_two (p : Option Addr) (ns : List Int) (cp : Nat) (q : Int) (hq0 : 0 ≤ q) (hq1 : q ≤ 1000) (w : World) (hp : Lies w p (ns.map iv)) :
    Calls Try.prog 21 #[.slice p ns.length cp, .int .i64 2, .int .i64 q] w (AnsN w (vec (w2F ns q))) := by
  have C : Hid (∀ (w' : World) (k : Nat), Below w.heap.size w w' → k < 64 → Calls Try.prog 36 #[.slice p ns.length cp, .int .i64 k] w' fun e w'' => e = .returned (.int .i64 (atOf ns k)) ∧ w'' = w') :=
    fun w' k hB hk => rat_nat p ns cp k w' (below_lies hB hp) hk
  have HF : Hid (w2F ns q 2 = q ∧ ∀ k, k ≠ 2 → w2F ns q k = atOf ns k) := ⟨by simp [w2F], fun k hk => by simp [w2F, hk]⟩
  have g0 : ¬ q < 0 := by omega
  have g1 : ¬ (1152921504606846976 : Int) < q := by omega
  clear hp hq0 hq1
  generalize w2F ns q = f at *
  go_enter Try.func21, Try.ntmps21
  go_wp2_with fail
  go_loopw [7, 8] (fun vv ii wr => ∃ i : Nat, ii = .int .i64 i ∧ i ≤ 64 ∧ Hid (wr.ownsRow w.heap.size 2 1 vv i ((numsTo f i).map iv)) ∧ Hid (Below w.heap.size w wr)) (fun _ ii _ => 64 - (intOf ii).toNat)
  case atStart => exact ⟨0, rfl, by omega, World.ownsRow_nil _ _ _ _, Below.refl _ _⟩
  case round =>
    obtain ⟨i, rfl, hi, HO, HB⟩ := hrel
    by_cases hlt : i < 64
    · have hltI : (i : Int) < 64 := by omega
      have H1 : Hid (i ≤ 1000000) := by show _ ≤ _; omega
      have H2 : Hid (w.heap.size ≤ wr.heap.size) := HB.out.size
      by_cases h2 : i = 2
      · have h2I : ((i : Int) == 2) = true := by rw [h2]; rfl
        have HY : Hid (f i = q) := by rw [h2]; exact HF.out.1
        have tok : True := trivial
        clear h2
        go_wp2_with (have tk := tok; refine wpList_append_num rfl _ _ 34 2 rfl Try.underlying34 Try.info2 w.heap.size _ i _ rfl wr q rfl HO rfl H1 H2 ?_; clear tk tok; intro v' w1 K1 K2)
        go_roundw
        case rel =>
          refine ⟨i + 1, by go_num, by omega, ?_, below_grown HB.out (Nat.le_refl _) HO.out K2.out⟩
          rw [numsTo_succ, List.map_append, HY.out]; exact K1
        case measure => simp [intOf]; omega
      · have h2I : ((i : Int) == 2) = false := by rw [beq_eq_false_iff_ne]; omega
        have h2J : ¬ (i : Int) = 2 := by omega
        have c7 := C.out wr i HB.out hlt
        have hy := HF.out.2 i h2
        generalize atOf ns i = y at c7 hy
        have HY : Hid (f i = y) := hy
        have tok : True := trivial
        clear hy h2
        go_wp2_with (first
          | (go_at_call 36; refine Calls_on c7 ?_)
          | (have tk := tok; refine wpList_append_num rfl _ _ 34 2 rfl Try.underlying34 Try.info2 w.heap.size _ i _ rfl wr y rfl HO rfl H1 H2 ?_; clear tk tok; intro v' w1 K1 K2))
        go_roundw
        case rel =>
          refine ⟨i + 1, by go_num, by omega, ?_, below_grown HB.out (Nat.le_refl _) HO.out K2.out⟩
          rw [numsTo_succ, List.map_append, HY.out]; exact K1
        case measure => simp [intOf]; omega
    · obtain rfl : i = 64 := by omega
      have c31 := short_new (f := f) HB.out HO.out
      obtain ⟨_, p', c', rfl, _, _⟩ := owns_lies HO.out
      clear hlt HO C
      generalize (List.map iv (numsTo f 64)).length = m at *
      go_wp2_with (go_at_call 37; refine Calls.mono c31 ?_; rintro e w2 ⟨p2, rfl, hge, hl2, hb2⟩; have HL : Hid (Lies w2 (some ⟨p2, 0, none⟩) ((vec f).map iv)) := hl2; have HGE : Hid (w.heap.size ≤ p2) := hge; clear hge; have HB2 : Hid (Below w.heap.size w w2) := hb2; clear hl2 hb2)
      go_ret
      exact ⟨p2, rfl, HGE.out, HL.out, HB2.out⟩
theorem atOf_nil (k : Nat) : atOf [] k = 0 := by simp [atOf]
theorem atOf_three (x : Int) (k : Nat) (h : k ≠ 2) : atOf [0, 0, x] k = 0 := by
  match k, h with
  | 0, _ => simp [atOf]
  | 1, _ => simp [atOf]
  | k + 3, _ => simp [atOf]
theorem vec_two {ns : List Int} {q : Int} (hq : 1 ≤ q) (hn : ns = [] ∨ ∃ x, ns = [0, 0, x]) : vec (w2F ns q) = [0, 0, q] := by
  have h0 : ∀ k, k ≠ 2 → w2F ns q k = 0 := fun k hk => by
    unfold w2F
    rw [if_neg hk]
    rcases hn with rfl | ⟨x, rfl⟩
    · exact atOf_nil k
    · exact atOf_three x k hk
  have h2 : w2F ns q 2 = q := by simp [w2F]
  have hg : ∀ k, k < 64 → (nums (w2F ns q))[k]? = some (w2F ns q k) := fun k hk => numsTo_get _ hk
  have ht : ∀ j, j + 3 ≤ 64 → tl (nums (w2F ns q)) (j + 3) = 3 := by
    intro j
    induction j with
    | zero =>
      intro _
      show tl _ (2 + 1) = 3
      unfold tl
      rw [hg 2 (by decide), h2, if_neg (by intro e; injection e with e; omega)]
    | succ j ih =>
      intro hj
      show tl _ ((j + 3) + 1) = 3
      unfold tl
      rw [hg (j + 3) (by omega), h0 (j + 3) (by omega), if_pos rfl]
      exact ih (by omega)
  unfold vec
  rw [ht 61 (by decide)]
  apply List.ext_getElem?
  intro i
  rw [List.getElem?_take]
  by_cases hi : i < 3
  · rw [if_pos hi, hg i (by omega)]
    match i, hi with
    | 0, _ => rw [h0 0 (by decide)]; rfl
    | 1, _ => rw [h0 1 (by decide)]; rfl
    | 2, _ => rw [h2]; rfl
  · rw [if_neg hi, List.getElem?_eq_none (by simp; omega)]

end Go.Proofs.Ytgpbphjplbhfmaa.Vc

/-
  TreeTrash: a chain of directories, moved into the trash and out of it (pure).
-/
namespace Go.Proofs.Ytgpbphjplbhfmaa.Ck.Y
open Go.RowKit Go.Maps Go.Lib

/-- The parent of the i-th of the chain. -/
def parN (i : Nat) : Int := if i = 0 then 0 else 2
def chO (i : Nat) : OB := ⟨(i : Int) + 1, 2, i, parN i, ⟨#[100]⟩, true⟩
def chT (k : Nat) : List OB := (List.range k).map chO
def chOp (i : Nat) (sp : Option Addr) (sl sc : Nat) : OG := ⟨(i : Int) + 1, 2, (i : Int) + 1, 1, (i : Int) + 1, 2, i, parN i, ⟨#[100]⟩, none, 0, 0, sp, sl, sc⟩
def IsCh (l : List OG) : Prop := ∀ i o, l[i]? = some o → ∃ sp sl sc, o = chOp i sp sl sc
theorem chT_length (k : Nat) : (chT k).length = k := by simp [chT]
theorem chT_at {k i : Nat} (h : i < k) : (chT k)[i]? = some (chO i) := by
  unfold chT
  rw [List.getElem?_map, List.getElem?_range h]; rfl
theorem chT_snoc (k : Nat) : chT (k + 1) = chT k ++ [chO k] := by simp [chT, List.range_succ]
/-- The chain, its first one in (0, z). -/
def gT (d : Nat) (z : Int) : List OB := (chT d).set 0 ⟨1, 2, 0, z, ⟨#[100]⟩, true⟩
theorem gT_length (d : Nat) (z : Int) : (gT d z).length = d := by unfold gT; rw [List.length_set, chT_length]
theorem gT_at {d i : Nat} (z : Int) (h : i < d) : (gT d z)[i]? = some ⟨(i : Int) + 1, 2, i, if i = 0 then z else 2, ⟨#[100]⟩, true⟩ := by
  unfold gT
  rw [List.getElem?_set]
  by_cases h0 : 0 = i
  · subst h0
    rw [if_pos rfl, if_pos (by rw [chT_length]; exact h)]
    rfl
  · rw [if_neg h0, chT_at h]
    have : ¬ i = 0 := fun e => h0 e.symm
    simp [chO, parN, this]
theorem gT_ch (d : Nat) : gT d 0 = chT d := by
  apply List.ext_getElem?
  intro i
  by_cases h : i < d
  · rw [gT_at 0 h, chT_at h]; rfl
  · rw [List.getElem?_eq_none (by rw [gT_length]; omega), List.getElem?_eq_none (by rw [chT_length]; omega)]
theorem gT_apart (d : Nat) (z : Int) : ApartT (gT d z) := by
  unfold ApartT
  rw [List.pairwise_iff_getElem]
  intro i j hi hj hij
  rw [gT_length] at hi hj
  have a := gT_at z hi
  have b := gT_at z hj
  rw [List.getElem?_eq_getElem (by rw [gT_length]; exact hi)] at a
  rw [List.getElem?_eq_getElem (by rw [gT_length]; exact hj)] at b
  injection a with a
  injection b with b
  rw [a, b]
  rintro ⟨e, _⟩
  simp only at e
  omega
theorem gT_find {d i : Nat} (z : Int) (h : i < d) : findT (gT d z) ((i : Int) + 1) 2 = some i := findT_at (gT_apart d z) (gT_at z h)
theorem gT_no {d : Nat} (z : Int) {t n : Int} (h : ∀ i : Nat, i < d → ¬ (t = (i : Int) + 1 ∧ n = 2)) : findT (gT d z) t n = none := by
  cases hf : findT (gT d z) t n with
  | none => rfl
  | some k =>
    obtain ⟨o, ho, e1, e2⟩ := findT_some hf
    have hk : k < d := by have := (List.getElem?_eq_some_iff.1 ho).1; rwa [gT_length] at this
    rw [gT_at z hk] at ho
    injection ho with ho
    subst ho
    exact absurd ⟨e1.symm, e2.symm⟩ (h k hk)
theorem gT_up {d i : Nat} (z : Int) (h : i < d) : upT (gT d z) ((i : Int) + 1, 2) = some ((i : Int), if i = 0 then z else 2) := upT_at (gT_find z h) (gT_at z h)
theorem gT_zero {d : Nat} (z n : Int) : upT (gT d z) (0, n) = none := upT_none (gT_no z (fun i _ h => by have := h.1; omega))
theorem gT_bel {d : Nat} (z : Int) : ∀ {i : Nat}, i < d → Bel (gT d z) ((i : Int) + 1, 2) (0, z)
  | 0, h => .one (by rw [gT_up z h]; rfl)
  | i + 1, h => by
    have hu := gT_up z h
    rw [if_neg (by omega)] at hu
    refine .far hu ?_
    have := gT_bel (d := d) z (i := i) (by omega)
    rw [show ((i + 1 : Nat) : Int) = (i : Int) + 1 by omega]
    exact this
theorem gT_nobel {d : Nat} : ∀ {i : Nat}, i < d → ¬ Bel (gT d 1) ((i : Int) + 1, 2) (0, 0)
  | 0, h => by
    have hu := gT_up 1 h
    rw [if_pos rfl] at hu
    rw [Bel.next hu (by intro e; cases e)]
    exact Bel.not (gT_zero 1 1)
  | i + 1, h => by
    have hu := gT_up 1 h
    rw [if_neg (by omega)] at hu
    rw [Bel.next hu (by intro e; injection e with e1 e2; cases e2)]
    have := gT_nobel (d := d) (i := i) (by omega)
    rw [show ((i + 1 : Nat) : Int) = (i : Int) + 1 by omega]
    exact this
theorem gT_has {d i : Nat} (z : Int) (h : i < d) : hasT (gT d z) ((i : Int) + 1, 2) = true := by
  unfold hasT
  rw [gT_find z h]
  simp
theorem gT_dir {d : Nat} (z : Int) (k : Nat) (h : k ≤ d) : dirT (gT d z) (k : Int) (parN k) = true := by
  unfold dirT
  cases k with
  | zero => rfl
  | succ i =>
    have hp : parN (i + 1) = 2 := by simp [parN]
    rw [hp, show ((i + 1 : Nat) : Int) = (i : Int) + 1 by omega, gT_find (d := d) z (i := i) (by omega)]
    have ha := gT_at z (d := d) (i := i) (by omega)
    simp [ha]
theorem gT_kids (d : Nat) (h : 1 ≤ d) (z : Int) : (kidsL (gT d z) 0 0).length = if z = 0 then 1 else 0 := by
  obtain ⟨e, rfl⟩ : ∃ e, d = e + 1 := ⟨d - 1, by omega⟩
  have hg : gT (e + 1) z = ⟨1, 2, 0, z, ⟨#[100]⟩, true⟩ :: (List.range e).map (fun i => chO (i + 1)) := by
    unfold gT chT
    rw [List.range_succ_eq_map]
    simp [List.map_map, Function.comp_def]
  have hn : ((List.range e).map (fun i => chO (i + 1))).filter (fun o => sameB o.pt o.pn 0 0) = [] := by
    rw [List.filter_eq_nil_iff]
    intro o ho
    obtain ⟨i, _, rfl⟩ := List.mem_map.1 ho
    have h1 : ¬ ((i : Int) + 1 = 0) := by omega
    simp [chO, sameB, h1]
  unfold kidsL
  rw [hg, List.filter_cons, hn]
  by_cases hz : z = 0
  · subst hz
    rw [if_pos (by decide), if_pos rfl]; rfl
  · rw [if_neg (by simp [sameB, hz]), if_neg hz]; rfl
theorem ch_step (k : Nat) (sp : Option Addr) (sl sc : Nat) : StepT (chT k) 0 (chOp k sp sl sc) (chT (k + 1)) 0 := by
  have hd := gT_dir (d := k) 0 k (Nat.le_refl _)
  rw [gT_ch] at hd
  have hf : findT (chT k) ((k : Int) + 1) 2 = none := by
    have := gT_no (d := k) 0 (t := (k : Int) + 1) (n := 2) (fun i hi h => by have := h.1; omega)
    rwa [gT_ch] at this
  have ht : trashB (k : Int) (parN k) = false := by
    unfold trashB parN
    split <;> simp
  have := StepT.make (T := chT k) (s := 0) (o := chOp k sp sl sc) (.inl rfl) ht hd hf
  rw [chT_snoc]
  exact this
theorem ch_fold : ∀ (k : Nat) (l : List OG), l.length = k → IsCh l → FoldT [] 0 l (chT k) 0
  | 0, l, hl, _ => by
    rw [List.length_eq_zero_iff.1 hl]
    exact .nil _ _
  | k + 1, l, hl, h => by
    rcases List.eq_nil_or_concat l with rfl | ⟨m, o, e⟩
    · simp at hl
    rw [List.concat_eq_append] at e
    subst e
    have hm : m.length = k := by simpa using hl
    obtain ⟨sp, sl, sc, rfl⟩ := h k o (by rw [List.getElem?_append_right (by omega), hm]; simp)
    refine FoldT.snoc (ch_fold k m hm (fun i o ho => h i o ?_)) (ch_step k sp sl sc)
    rw [List.getElem?_append_left (List.getElem?_eq_some_iff.1 ho).1]
    exact ho
/-- The move of the first one into (0, z). -/
def mvOp (t sq z : Int) (sp : Option Addr) (sl sc : Nat) : OG := ⟨t, 2, sq, 3, 1, 2, 0, z, ⟨#[100]⟩, none, 0, 0, sp, sl, sc⟩
theorem mv_step {d : Nat} (hd : 1 ≤ d) (z z' : Int) (hz : z' = 0 ∨ z' = 1) (t sq : Int) (sp : Option Addr) (sl sc : Nat) : StepT (gT d z) 0 (mvOp t sq z' sp sl sc) (gT d z') 0 := by
  have hf : findT (gT d z) 1 2 = some 0 := gT_find z (i := 0) (by omega)
  have hb := gT_at z (d := d) (i := 0) (by omega)
  have hdir : dirT (gT d z) 0 z' = true := by
    unfold dirT
    rcases hz with rfl | rfl <;> rfl
  have := StepT.move (T := gT d z) (s := 0) (o := mvOp t sq z' sp sl sc) (k := 0) rfl hf hb hdir (by simp [mvOp]) (Bel.not (gT_zero z z'))
  have e : (gT d z).set 0 (moveO (mvOp t sq z' sp sl sc) ⟨((0 : Nat) : Int) + 1, 2, ((0 : Nat) : Int), if (0 : Nat) = 0 then z else 2, ⟨#[100]⟩, true⟩) = gT d z' := by
    unfold gT
    rw [List.set_set]
    rfl
  rw [e] at this
  exact this
theorem tr_fold {d : Nat} (hd : 1 ≤ d) {l : List OG} (hl : l.length = d) (h : IsCh l) (t sq : Int) (sp : Option Addr) (sl sc : Nat) : FoldT [] 0 (l ++ [mvOp t sq 1 sp sl sc]) (gT d 1) 0 := by
  have := (ch_fold d l hl h)
  rw [← gT_ch] at this
  exact this.snoc (mv_step hd 0 1 (.inr rfl) t sq sp sl sc)
theorem out_fold {d : Nat} (hd : 1 ≤ d) {l : List OG} (hl : l.length = d) (h : IsCh l) (t sq t' sq' : Int) (sp sp' : Option Addr) (sl sc sl' sc' : Nat) : FoldT [] 0 (l ++ [mvOp t sq 1 sp sl sc] ++ [mvOp t' sq' 0 sp' sl' sc']) (gT d 0) 0 :=
  (tr_fold hd hl h t sq sp sl sc).snoc (mv_step hd 1 0 (.inl rfl) t' sq' sp' sl' sc')

end Go.Proofs.Ytgpbphjplbhfmaa.Ck.Y

/-
  TreeTrash: what the law holds beside its tree.
-/
namespace Go.Proofs.Ytgpbphjplbhfmaa.Ck.Y
open Go.RowKit Go.Maps Go.Lib

theorem lies_only {S : Nat → Prop} {w w' : World} {p : Option Addr} {ns : List Int} (h : Vc.Lies w p (ns.map Vc.iv)) (ho : Only S w w') (hn : ∀ b o, 0 < ns.length → p = some ⟨b, o, none⟩ → ¬ S b) : Vc.Lies w' p (ns.map Vc.iv) := fun hl => by
  obtain ⟨b, o, e, hx⟩ := h hl
  refine ⟨b, o, e, fun j x hj => ?_⟩
  have hc := hx j x hj
  have hb := cell_lt hc
  have hk := ho.block b hb (hn b o (by simpa using hl) e)
  unfold World.cell? at hc ⊢
  simp only at hc ⊢
  rw [hk]
  exact hc
theorem lies_lt {w : World} {p : Option Addr} {ns : List Int} (h : Vc.Lies w p (ns.map Vc.iv)) {b o : Nat} (hl : 0 < ns.length) (e : p = some ⟨b, o, none⟩) : b < w.heap.size := by
  obtain ⟨b', o', e', hx⟩ := h (by simpa using hl)
  rw [e] at e'
  cases e'
  exact cell_lt (hx 0 _ (List.getElem?_eq_getElem (by simpa using hl)))
/-- The tree, its list of stamps, its vector, and blocks that are kept. -/
structure TG (w : World) (F : Nat → Prop) (W : World) (gt : Nat) (l : List OG) (vL : Value) (m : List PI) (ps : Option Addr) (ns : List Int) (E : List (Nat × Obj)) : Prop where
  tw : TW F W gt l
  row : RowI W w.heap.size vL m
  nrow : ∀ g, vL.ownBlock = some g → ¬ F g
  seen : Vc.Lies W ps (ns.map Vc.iv)
  nseen : ∀ b o, 0 < ns.length → ps = some ⟨b, o, none⟩ → ¬ F b ∧ vL.ownBlock ≠ some b
  ex : ∀ p ∈ E, W.heap[p.1]? = some p.2 ∧ ¬ F p.1 ∧ vL.ownBlock ≠ some p.1 ∧ w.heap.size ≤ p.1 ∧ ∀ b o, 0 < ns.length → ps = some ⟨b, o, none⟩ → b ≠ p.1
  lo : ∀ b, F b → w.heap.size ≤ b
  bel : Below w.heap.size w W
section
variable {w : World} {F : Nat → Prop} {W W' : World} {gt : Nat} {l l' : List OG} {vL : Value} {m : List PI} {ps : Option Addr} {ns : List Int} {E : List (Nat × Obj)}
theorem TG.rowlt (h : TG w F W gt l vL m ps ns E) {g : Nat} (hg : vL.ownBlock = some g) : g < W.heap.size := by
  obtain ⟨cs, hc, _⟩ := h.row.tag hg
  exact block_lt hc
theorem TG.next (h : TG w F W gt l vL m ps ns E) (ht : TW (growF F W W') W' gt l') (ho : Only F W W') : TG w (growF F W W') W' gt l' vL m ps ns E := by
  have z1 := h.bel.size
  refine ⟨ht, h.row.kept ho h.nrow, fun g hg => ?_, lies_only h.seen ho (fun b o hl e => (h.nseen b o hl e).1), fun b o hl e => ⟨?_, (h.nseen b o hl e).2⟩, fun p hp => ?_, fun b hb => ?_, h.bel.trans (ho.below z1 h.lo)⟩
  · have := h.rowlt hg
    rintro (e | e)
    · exact h.nrow g hg e
    · omega
  · have := lies_lt h.seen hl e
    rintro (e' | e')
    · exact (h.nseen b o hl e).1 e'
    · omega
  · obtain ⟨k1, k2, k3, k4, k5⟩ := h.ex p hp
    have := block_lt k1
    refine ⟨(ho.block _ this k2).trans k1, ?_, k3, k4, k5⟩
    rintro (e | e)
    · exact k2 e
    · omega
  · rcases hb with e | e
    · exact h.lo b e
    · omega
theorem TG.below (h : TG w F W gt l vL m ps ns E) (hb : Below W.heap.size W W') : TG w F W' gt l vL m ps ns E :=
  ⟨h.tw.below hb, h.row.below hb, h.nrow, Vc.below_lies hb h.seen, h.nseen, fun p hp => by
    obtain ⟨k1, k2⟩ := h.ex p hp
    exact ⟨(hb.block _ (block_lt k1)).trans k1, k2⟩, h.lo, h.bel.trans (hb.mono h.bel.size)⟩
theorem TG.new (h : TG w F W gt l vL m ps ns E) (o : Obj) : TG w F (W.alloc o) gt l vL m ps ns ((W.heap.size, o) :: E) := by
  have h' := h.below (W' := W.alloc o) ((Below.refl W.heap.size W).alloc (Nat.le_refl _) _)
  refine ⟨h'.tw, h'.row, h'.nrow, h'.seen, h'.nseen, fun p hp => ?_, h'.lo, h'.bel⟩
  rcases List.mem_cons.1 hp with rfl | hp
  · refine ⟨heap_alloc_new W o, fun f => by have := h.tw.low _ f; simp at this, fun e => by have := h.rowlt e; simp at this, h.bel.size, fun b o hl e => ?_⟩
    have := lies_lt h.seen hl e
    simp only
    omega
  · exact h'.ex p hp
theorem TG.sub (h : TG w F W gt l vL m ps ns E) {E' : List (Nat × Obj)} (hs : ∀ p ∈ E', p ∈ E) : TG w F W gt l vL m ps ns E' :=
  ⟨h.tw, h.row, h.nrow, h.seen, h.nseen, fun p hp => h.ex p (hs p hp), h.lo, h.bel⟩
theorem TG.app (h : TG w F W gt l vL m ps ns E) {v' : Value} {m' : List PI} (hr : RowI W' w.heap.size v' m') (hg : W.grownBy W' vL.ownBlock) (hv : v'.ownBlock = vL.ownBlock ∨ v'.ownBlock = some W.heap.size) : TG w F W' gt l v' m' ps ns E := by
  have ho : Only (fun b => vL.ownBlock = some b) W W' := ⟨hg.os, hg.tape, hg.output, hg.size, fun k hk hn => hg.block k hk (fun e => hn e.symm)⟩
  have hlow : ∀ b, vL.ownBlock = some b → w.heap.size ≤ b := fun b hb => by
    obtain ⟨cs, hc, hl⟩ := h.row.tag hb
    exact hl
  refine ⟨h.tw.kept ho (fun b hb e => h.nrow b e hb), hr, fun g hg' => ?_, lies_only h.seen ho (fun b o hl e => (h.nseen b o hl e).2), fun b o hl e => ⟨(h.nseen b o hl e).1, ?_⟩, fun p hp => ?_, h.lo, h.bel.trans (ho.below h.bel.size hlow)⟩
  · rcases hv with e | e
    · rw [e] at hg'; exact h.nrow g hg'
    · rw [e] at hg'
      injection hg' with hg'
      subst hg'
      intro f
      have := h.tw.low _ f
      omega
  · rcases hv with e' | e'
    · rw [e']; exact (h.nseen b o hl e).2
    · rw [e']
      intro f
      injection f with f
      have := lies_lt h.seen hl e
      omega
  · obtain ⟨k1, k2, k3, k4, k5⟩ := h.ex p hp
    have hl := block_lt k1
    refine ⟨(ho.block _ hl k3).trans k1, k2, ?_, k4, k5⟩
    rcases hv with e' | e'
    · rw [e']; exact k3
    · rw [e']
      intro f
      injection f with f
      omega
theorem TG.set {pb : Nat} {o o' : Obj} (h : TG w F W gt l vL m ps ns ((pb, o) :: E)) (ho : Only (· = pb) W W') (hn : W'.heap[pb]? = some o') (hE : ∀ p ∈ E, p.1 ≠ pb) : TG w F W' gt l vL m ps ns ((pb, o') :: E) := by
  obtain ⟨k1, k2, k3, k4, k5⟩ := h.ex _ (List.mem_cons_self ..)
  refine ⟨h.tw.kept ho (fun b hb e => k2 (e ▸ hb)), h.row.kept ho (fun g hg e => k3 (e ▸ hg)), h.nrow, lies_only h.seen ho (fun b o hl e => k5 b o hl e), h.nseen, fun p hp => ?_, h.lo, h.bel.trans (ho.below h.bel.size (fun b hb => hb ▸ k4))⟩
  rcases List.mem_cons.1 hp with rfl | hp
  · exact ⟨hn, k2, k3, k4, k5⟩
  · obtain ⟨q1, q2⟩ := h.ex p (List.mem_cons_of_mem _ hp)
    exact ⟨(ho.block _ (block_lt q1) (hE p hp)).trans q1, q2⟩
theorem TG.see (h : TG w F W gt l vL m ps ns E) {b : Nat} {ns' : List Int} (hb : Below W.heap.size W W') (hl : Vc.Lies W' (some ⟨b, 0, none⟩) (ns'.map Vc.iv)) (hge : W.heap.size ≤ b) : TG w F W' gt l vL m (some ⟨b, 0, none⟩) ns' E := by
  have h' := h.below hb
  refine ⟨h'.tw, h'.row, h'.nrow, hl, fun b' o' _ e => ?_, fun p hp => ?_, h'.lo, h'.bel⟩
  · cases e
    exact ⟨fun f => by have := h.tw.low _ f; omega, fun e => by have := h.rowlt e; omega⟩
  · obtain ⟨k1, k2, k3, k4, k5⟩ := h'.ex p hp
    obtain ⟨q1, _⟩ := h.ex p hp
    have := block_lt q1
    refine ⟨k1, k2, k3, k4, fun b' o' _ e => ?_⟩
    cases e
    omega
end

end Go.Proofs.Ytgpbphjplbhfmaa.Ck.Y

/-
  TreeTrash: the law's calls.
-/
namespace Go.Proofs.Ytgpbphjplbhfmaa.Ck.Y
open Go.RowKit Go.Maps Go.Lib

/-- What has been seen ahead of the i-th operation. -/
def seenN (i : Nat) : List Int := if i = 0 then [] else [0, 0, (i : Int)]
theorem may_ch {i : Nat} (h : i < 20) (sp : Option Addr) (sl sc : Nat) : mayG (chOp i sp sl sc) (seenN i) = true := by
  have key : ∀ j : Fin 20, mayG (chOp j.1 none 0 0) (seenN j.1) = true := by decide +kernel
  exact key ⟨i, h⟩
theorem may_mv {d : Nat} (h0 : 1 ≤ d) (h : d ≤ 20) (sp : Option Addr) (sl sc : Nat) : mayG (mvOp 50 ((d : Int) + 1) 1 sp sl sc) (seenN d) = true := by
  have key : ∀ j : Fin 20, mayG (mvOp 50 (((j.1 + 1 : Nat) : Int) + 1) 1 none 0 0) (seenN (j.1 + 1)) = true := by decide +kernel
  have := key ⟨d - 1, by omega⟩
  simp only [show d - 1 + 1 = d by omega] at this
  exact this
theorem may_out {d : Nat} (h0 : 1 ≤ d) (h : d ≤ 20) (sp : Option Addr) (sl sc : Nat) : mayG (mvOp 51 ((d : Int) + 1 + 1) 0 sp sl sc) (seenN (d + 1)) = true := by
  have key : ∀ j : Fin 20, mayG (mvOp 51 (((j.1 + 1 : Nat) : Int) + 1 + 1) 0 none 0 0) (seenN (j.1 + 1 + 1)) = true := by decide +kernel
  have := key ⟨d - 1, by omega⟩
  simp only [show d - 1 + 1 = d by omega] at this
  exact this
theorem ins_last {l : List OG} {q : PI} {i : Nat} (hi : InsAt l q i) (h : ∀ x ∈ l, lessP (x.t, x.n) q) : i = l.length := by
  have hle := hi.le
  by_cases hlt : i < l.length
  · have hg := List.getElem?_eq_getElem hlt
    exact (lessP_asymm (h _ (List.getElem_mem hlt)) (hi.hi i _ (Nat.le_refl _) hg)).elim
  · omega
theorem lies_cd {w : World} {p : Option Addr} {ns : List Int} (h : Vc.Lies w p (ns.map Vc.iv)) : Cd.Lies w p (ns.map Cd.iv) := h
theorem ch_less {l : List OG} (h : IsCh l) {t : Int} (ht : (l.length : Int) < t) : ∀ x ∈ l, lessP (x.t, x.n) (t, 2) := fun x hx => by
  obtain ⟨i, hi⟩ := List.getElem?_of_mem hx
  obtain ⟨sp, sl, sc, rfl⟩ := h i x hi
  have hl := (List.getElem?_eq_some_iff.1 hi).1
  exact lessB_true.2 (.inl (by simp [chOp]; omega))
theorem IsCh.add {l : List OG} (h : IsCh l) (sp : Option Addr) (sl sc : Nat) : IsCh (l ++ [chOp l.length sp sl sc]) := fun i o ho => by
  by_cases hi : i < l.length
  · rw [List.getElem?_append_left hi] at ho
    exact h i o ho
  · rw [List.getElem?_append_right (by omega)] at ho
    have h0 : i - l.length = 0 := by
      by_cases e : i - l.length = 0
      · exact e
      · rw [List.getElem?_eq_none (by simp; omega)] at ho; cases ho
    rw [h0] at ho
    injection ho with ho
    have : i = l.length := by omega
    subst this
    exact ⟨sp, sl, sc, ho.symm⟩
/-- The tree with all that the law holds, whatever blocks are the tree's. -/
def TGo (w W : World) (gt : Nat) (l : List OG) (vL : Value) (m : List PI) (ps : Option Addr) (ns : List Int) (E : List (Nat × Obj)) : Prop := ∃ F, TG w F W gt l vL m ps ns E
section
variable {w W : World} {gt : Nat} {l : List OG} {vL : Value} {m : List PI} {ps : Option Addr} {ns : List Int} {E : List (Nat × Obj)} {T : List OB} {s : Nat}
theorem tg_apply (h : TGo w W gt l vL m ps ns E) {o : OG} (hsp : o.sp = ps) (hsl : ns.length = o.sl) (hsc : ns.length ≤ o.sc) (hns : ns.length ≤ 1000) (hdl : o.dl = 0) (hnm : o.nm.size ≤ 1000000) (hm : mayG o ns = true) (hlt : ∀ x ∈ l, lessP (x.t, x.n) (o.t, o.n)) (hl : l.length ≤ 700) :
    Calls Try.prog 10 #[.pointer (some ⟨gt, 0, none⟩), opgv o] W fun e W' => (∃ x, e = .returned (.tuple #[.int .i64 x, .int .i64 0])) ∧ TGo w W' gt (l ++ [o]) vL m ps ns E := by
  obtain ⟨F, h⟩ := h
  have hin : OpIn W o ns := ⟨by rw [hsp]; exact lies_cd h.seen, hsl, hsc, by omega, by rw [hdl]; decide, hnm⟩
  refine (apply_new h.tw hin hm (fun x hx e => ?_) hl).mono ?_
  · have := hlt x hx
    rw [e] at this
    exact lessP_asymm this this
  rintro e W' ⟨i, rfl, hi, h1, h2⟩
  have := ins_last hi hlt
  subst this
  rw [List.take_length, List.drop_length] at h1
  exact ⟨⟨_, rfl⟩, _, h.next h1 h2⟩
theorem tg_live (h : TGo w W gt l vL m ps ns E) (hf : FoldT [] 0 l T s) (t n : Int) {r : Bool} (hr : r = true ↔ ((t = 0 ∧ n = 0) ∨ Bel T (t, n) (0, 0))) :
    Calls Try.prog 17 #[.pointer (some ⟨gt, 0, none⟩), idv t n] W fun e W' => e = .returned (.bool r) ∧ TGo w W' gt l vL m ps ns E := by
  obtain ⟨F, h⟩ := h
  refine (plive_any h.tw hf t n).mono ?_
  rintro e W' ⟨r', rfl, hr', h1, h2⟩
  have : r' = r := by
    cases r <;> cases r' <;> simp_all
  exact ⟨by rw [this], _, h.next h1 h2⟩
theorem tg_below (h : TGo w W gt l vL m ps ns E) (hf : FoldT [] 0 l T s) (t n t2 n2 : Int) {r : Bool} (hr : r = true ↔ Bel T (t, n) (t2, n2)) :
    Calls Try.prog 13 #[.pointer (some ⟨gt, 0, none⟩), idv t n, idv t2 n2] W fun e W' => e = .returned (.bool r) ∧ TGo w W' gt l vL m ps ns E := by
  obtain ⟨F, h⟩ := h
  refine (pbelow_any h.tw hf t n t2 n2).mono ?_
  rintro e W' ⟨r', rfl, hr', h1, h2⟩
  have : r' = r := by
    cases r <;> cases r' <;> simp_all
  exact ⟨by rw [this], _, h.next h1 h2⟩
theorem tg_has (h : TGo w W gt l vL m ps ns E) (hf : FoldT [] 0 l T s) (t n : Int) :
    Calls Try.prog 11 #[.pointer (some ⟨gt, 0, none⟩), idv t n] W fun e W' => e = .returned (.bool (hasT T (t, n))) ∧ TGo w W' gt l vL m ps ns E := by
  obtain ⟨F, h⟩ := h
  refine (has_any h.tw hf t n).mono ?_
  rintro e W' ⟨rfl, h1, h2⟩
  exact ⟨rfl, _, h.next h1 h2⟩
theorem tg_len (h : TGo w W gt l vL m ps ns E) (hf : FoldT [] 0 l T s) :
    Calls Try.prog 18 #[.pointer (some ⟨gt, 0, none⟩)] W fun e W' => e = .returned (.int .i64 (T.length : Nat)) ∧ TGo w W' gt l vL m ps ns E := by
  obtain ⟨F, h⟩ := h
  refine (len_any h.tw hf).mono ?_
  rintro e W' ⟨rfl, h1, h2⟩
  exact ⟨rfl, _, h.next h1 h2⟩
theorem tg_kids (h : TGo w W gt l vL m ps ns E) (hf : FoldT [] 0 l T s) (t n : Int) {k : Nat} (hk : (kidsL T t n).length = k) :
    Calls Try.prog 15 #[.pointer (some ⟨gt, 0, none⟩), idv t n] W fun e W' => (∃ p c, e = .returned (.slice p k c)) ∧ TGo w W' gt l vL m ps ns E := by
  obtain ⟨F, h⟩ := h
  refine (pkids_any h.tw hf t n).mono ?_
  rintro e W' ⟨v, mm, rfl, hr, hi, _, h1, h2⟩
  obtain ⟨p, c, rfl⟩ := hr.slice
  rw [hi.perm.length_eq, hk]
  exact ⟨⟨p, c, rfl⟩, _, h.next h1 h2⟩
theorem tg_new (h : TGo w W gt l vL m ps ns E) (o : Obj) : TGo w (W.alloc o) gt l vL m ps ns ((W.heap.size, o) :: E) := by
  obtain ⟨F, h⟩ := h
  exact ⟨F, h.new o⟩
theorem tg_sub (h : TGo w W gt l vL m ps ns E) {E' : List (Nat × Obj)} (hs : ∀ p ∈ E', p ∈ E) : TGo w W gt l vL m ps ns E' := by
  obtain ⟨F, h⟩ := h
  exact ⟨F, h.sub hs⟩
theorem tg_low {W' : World} (h : TGo w W gt l vL m ps ns E) (hb : Below W.heap.size W W') : TGo w W' gt l vL m ps ns E := by
  obtain ⟨F, h⟩ := h
  exact ⟨F, h.below hb⟩
theorem tg_bel (h : TGo w W gt l vL m ps ns E) : Below w.heap.size w W := by
  obtain ⟨F, h⟩ := h
  exact h.bel
theorem tg_at (h : TGo w W gt l vL m ps ns E) {p : Nat × Obj} (hp : p ∈ E) : W.heap[p.1]? = some p.2 := by
  obtain ⟨F, h⟩ := h
  exact (h.ex p hp).1
theorem tg_row (h : TGo w W gt l vL m ps ns E) : RowI W w.heap.size vL m := by
  obtain ⟨F, h⟩ := h
  exact h.row
theorem tg_seen (h : TGo w W gt l vL m ps ns E) : Vc.Lies W ps (ns.map Vc.iv) := by
  obtain ⟨F, h⟩ := h
  exact h.seen
theorem tg_app {W' : World} {v' : Value} {m' : List PI} (h : TGo w W gt l vL m ps ns E) (hr : RowI W' w.heap.size v' m') (hg : W.grownBy W' vL.ownBlock) (hv : v'.ownBlock = vL.ownBlock ∨ v'.ownBlock = some W.heap.size) : TGo w W' gt l v' m' ps ns E := by
  obtain ⟨F, h⟩ := h
  exact ⟨F, h.app hr hg hv⟩
theorem tg_see {W' : World} {b : Nat} {ns' : List Int} (h : TGo w W gt l vL m ps ns E) (hb : Below W.heap.size W W') (hl : Vc.Lies W' (some ⟨b, 0, none⟩) (ns'.map Vc.iv)) (hge : W.heap.size ≤ b) : TGo w W' gt l vL m (some ⟨b, 0, none⟩) ns' E := by
  obtain ⟨F, h⟩ := h
  exact ⟨F, h.see hb hl hge⟩
theorem tg_set {W' : World} {pb : Nat} {o o' : Obj} (h : TGo w W gt l vL m ps ns ((pb, o) :: E)) (ho : Only (· = pb) W W') (hn : W'.heap[pb]? = some o') (hE : ∀ p ∈ E, p.1 ≠ pb) : TGo w W' gt l vL m ps ns ((pb, o') :: E) := by
  obtain ⟨F, h⟩ := h
  exact ⟨F, h.set ho hn hE⟩
end

end Go.Proofs.Ytgpbphjplbhfmaa.Ck.Y

/-
  TreeTrash: the walk.
-/
namespace Go.Proofs.Ytgpbphjplbhfmaa.Ck.Y
open Go.RowKit Go.Maps Go.Lib

theorem tg_start {w : World} (v : World) (hv : Hid (Below w.heap.size w v)) : Calls Try.prog 8 #[] v fun e W0 => e = .returned (.pointer (some ⟨v.heap.size, 0, none⟩)) ∧ Hid (TGo w W0 v.heap.size [] (.slice none 0 0) [] none [] []) := by
  refine (new_any v).mono ?_
  rintro e W0 ⟨rfl, hT, hb⟩
  refine ⟨rfl, _, hT, RowI.nil _ _, (fun g hg => by cases hg), (fun hl => by simp at hl), (fun b o hl => by simp at hl), (fun p hp => by simp at hp), (fun b hb' => ?_), hv.out.trans (hb.mono hv.out.size)⟩
  rw [hb']
  exact hv.out.size
/-- The stamps of the chain. -/
def chI (k : Nat) : List PI := (List.range k).map (fun j : Nat => ((j : Int) + 1, 2))
theorem chI_at {k i : Nat} (h : i < k) : (chI k)[i]? = some ((i : Int) + 1, 2) := by
  unfold chI
  rw [List.getElem?_map, List.getElem?_range h]; rfl
theorem chI_length (k : Nat) : (chI k).length = k := by simp [chI]
theorem chI_snoc (k : Nat) : chI k ++ [((k : Int) + 1, 2)] = chI (k + 1) := by simp [chI, List.range_succ]
/-- What the first loop holds. -/
def TR (w : World) (gt pb : Nat) (i : Nat) (vL vs : Value) (wr : World) : Prop := ∃ l ps c m, vs = .slice ps (seenN i).length c ∧ (seenN i).length ≤ c ∧ l.length = i ∧ IsCh l ∧ m = chI i ∧ TGo w wr gt l vL m ps (seenN i) [(pb, .cells #[.int .i64 i, .int .i64 (parN i)] 31 (0, 0))]
theorem tr_start {w W : World} {gt : Nat} (h : Hid (TGo w W gt [] (.slice none 0 0) [] none [] [])) : TR w gt W.heap.size 0 (.slice none 0 0) (.slice none 0 0) (W.alloc (.cells #[.int .i64 0, .int .i64 0] 31)) :=
  ⟨[], none, 0, [], rfl, Nat.le_refl _, rfl, (fun i o ho => by simp at ho), rfl, tg_new h.out _⟩
theorem seen_len (i : Nat) : (seenN i).length ≤ 3 := by
  unfold seenN
  split <;> simp
/-- What is held in the midst of a round. -/
def TM (w : World) (gt pb ib i : Nat) (l : List OG) (vL : Value) (m : List PI) (ps : Option Addr) (W : World) : Prop := TGo w W gt l vL m ps (seenN i) [(pb, .cells #[.int .i64 i, .int .i64 (parN i)] 31 (0, 0)), (ib, .cells #[.int .i64 ((i : Int) + 1), .int .i64 2] 31 (0, 0))]
theorem tr_apply {w wr : World} {gt pb i sl c : Nat} {l : List OG} {vL : Value} {ps : Option Addr} (hi : i < 20) (HT : Hid (TGo w wr gt l vL (chI i) ps (seenN i) [(pb, .cells #[.int .i64 i, .int .i64 (parN i)] 31 (0, 0))])) (HL : Hid (l.length = i ∧ IsCh l ∧ (seenN i).length ≤ c)) (HA : Hid ((seenN i).length = sl)) :
    Calls Try.prog 10 #[.pointer (some ⟨gt, 0, none⟩), opgv (chOp i ps sl c)] ((wr.alloc (.cells #[.int .i64 ((i : Int) + 1), .int .i64 2] 31)).alloc (.cells (opgC (chOp i ps sl c)) 36)) fun e W => (∃ x, e = .returned (.tuple #[.int .i64 x, .int .i64 0])) ∧ W.cell? ⟨wr.heap.size, 0, none⟩ = some (.int .i64 ((i : Int) + 1)) ∧ W.cell? ⟨wr.heap.size, 1, none⟩ = some (.int .i64 2) ∧ Hid (TM w gt pb wr.heap.size i (l ++ [chOp i ps sl c]) vL (chI i) ps W) := by
  have h2 := tg_new (tg_new HT.out (.cells #[.int .i64 ((i : Int) + 1), .int .i64 2] 31)) (.cells (opgC (chOp i ps sl c)) 36)
  refine (tg_apply (o := chOp i ps sl c) h2 rfl HA.out HL.out.2.2 (by have := seen_len i; omega) rfl (show (1 : Nat) ≤ 1000000 by decide) (may_ch hi _ _ _) (ch_less HL.out.2.1 (show (l.length : Int) < (i : Int) + 1 by rw [HL.out.1]; omega)) (by rw [HL.out.1]; omega)).mono ?_
  rintro e W ⟨h, hT⟩
  have hb := tg_at hT (p := (wr.heap.size, .cells #[.int .i64 ((i : Int) + 1), .int .i64 2] 31 (0, 0))) (by simp)
  refine ⟨h, cellOf hb 0, cellOf hb 1, tg_sub hT (fun p hp => ?_)⟩
  simp only [List.mem_cons, List.not_mem_nil, or_false] at hp ⊢
  rcases hp with rfl | rfl
  · exact .inr (.inr rfl)
  · exact .inr (.inl rfl)
theorem tm_row {w W : World} {gt pb ib i : Nat} {l : List OG} {vL : Value} {m : List PI} {ps : Option Addr} (h : Hid (TM w gt pb ib i l vL m ps W)) (hm : m.length < 1000) (z : PI) : Hid (RowI (W.alloc (.cells (idC z) 31)) w.heap.size vL m ∧ (W.alloc (.cells (idC z) 31)).heap[W.heap.size]? = some (.cells (idC z) 31 (0, 0)) ∧ m.length < 1000000 ∧ w.heap.size ≤ (W.alloc (.cells (idC z) 31)).heap.size) :=
  ⟨tg_row (tg_new h.out _), heap_alloc_new W _, by omega, (tg_bel (tg_new h.out (.cells (idC z) 31))).size⟩
theorem tm_app {w W W' : World} {gt pb ib i : Nat} {l : List OG} {vL : Value} {m : List PI} {ps p : Option Addr} {z : PI} {c : Nat} (h : Hid (TM w gt pb ib i l vL m ps W)) (hk : Hid (RowI W' w.heap.size (.slice p (m.length + 1) c) (m ++ [z]) ∧ (W.alloc (.cells (idC z) 31)).grownBy W' vL.ownBlock ∧ ((Value.slice p (m.length + 1) c).ownBlock = vL.ownBlock ∨ (Value.slice p (m.length + 1) c).ownBlock = some (W.alloc (.cells (idC z) 31)).heap.size))) :
    W'.cell? ⟨ib, 0, none⟩ = some (.int .i64 ((i : Int) + 1)) ∧ W'.cell? ⟨ib, 1, none⟩ = some (.int .i64 2) ∧ W'.heap[pb]? = some (.cells #[.int .i64 i, .int .i64 (parN i)] 31 (0, 0)) ∧ Hid (TM w gt pb ib i l (.slice p (m.length + 1) c) (m ++ [z]) ps W') := by
  have h2 := tg_app (tg_new h.out (.cells (idC z) 31)) hk.out.1 hk.out.2.1 hk.out.2.2
  have hb := tg_at h2 (p := (ib, .cells #[.int .i64 ((i : Int) + 1), .int .i64 2] 31 (0, 0))) (by simp)
  have hp := tg_at h2 (p := (pb, .cells #[.int .i64 i, .int .i64 (parN i)] 31 (0, 0))) (by simp)
  exact ⟨cellOf hb 0, cellOf hb 1, hp, tg_sub h2 (fun p hp => List.mem_cons_of_mem _ hp)⟩
theorem seenN_succ (i : Nat) : seenN (i + 1) = [0, 0, ((i + 1 : Nat) : Int)] := by simp [seenN]
theorem seenN_cases (i : Nat) : seenN i = [] ∨ ∃ x, seenN i = [0, 0, x] := by
  unfold seenN
  split
  · exact .inl rfl
  · exact .inr ⟨_, rfl⟩
theorem tg_with {w W : World} {gt i sl c : Nat} {l : List OG} {vL : Value} {m : List PI} {ps : Option Addr} {E : List (Nat × Obj)} (hi : i < 30) (h : TGo w W gt l vL m ps (seenN i) E) (HA : Hid ((seenN i).length = sl)) :
    Calls Try.prog 21 #[.slice ps sl c, .int .i64 2, .int .i64 ((i : Int) + 1)] W fun e W' => ∃ b, e = .returned (.slice (some ⟨b, 0, none⟩) 3 3) ∧ TGo w W' gt l vL m (some ⟨b, 0, none⟩) (seenN (i + 1)) E := by
  have hs := HA.out
  subst hs
  refine (Vc.rwith_two ps (seenN i) c ((i : Int) + 1) (by omega) (by omega) W (tg_seen h)).mono ?_
  rintro e W' ⟨b, rfl, hge, hl, hb⟩
  rw [Vc.vec_two (by omega) (seenN_cases i)] at hl ⊢
  refine ⟨b, rfl, ?_⟩
  rw [seenN_succ]
  exact tg_see h hb (by simpa using hl) hge
theorem tm_with {w W : World} {gt pb ib i sl c c2 : Nat} {l : List OG} {ps p2 : Option Addr} (hi : i < 20) (h : Hid (TM w gt pb ib i (l ++ [chOp i ps sl c]) (.slice p2 ((chI i).length + 1) c2) (chI i ++ [((i : Int) + 1, 2)]) ps W)) (HL : Hid (l.length = i ∧ IsCh l ∧ (seenN i).length ≤ c)) (HA : Hid ((seenN i).length = sl)) :
    Calls Try.prog 21 #[.slice ps sl c, .int .i64 2, .int .i64 ((i : Int) + 1)] ((W.setCell ⟨pb, 0, none⟩ (.int .i64 ((i : Int) + 1))).setCell ⟨pb, 1, none⟩ (.int .i64 2)) fun e W' => ∃ b, e = .returned (.slice (some ⟨b, 0, none⟩) 3 3) ∧ Hid (TR w gt pb (i + 1) (.slice p2 ((chI i).length + 1) c2) (.slice (some ⟨b, 0, none⟩) 3 3) W') := by
  have h1 : TGo w W gt (l ++ [chOp i ps sl c]) (.slice p2 ((chI i).length + 1) c2) (chI i ++ [((i : Int) + 1, 2)]) ps (seenN i) [(pb, .cells #[.int .i64 i, .int .i64 (parN i)] 31 (0, 0))] := tg_sub h.out (fun p hp => by
    simp only [List.mem_cons, List.not_mem_nil, or_false] at hp ⊢
    exact .inl hp)
  have hp := tg_at h1 (List.mem_cons_self ..)
  have h2 := tg_set h1 (W' := (W.setCell ⟨pb, 0, none⟩ (.int .i64 ((i : Int) + 1))).setCell ⟨pb, 1, none⟩ (.int .i64 2)) (o' := .cells #[.int .i64 ((i + 1 : Nat) : Int), .int .i64 (parN (i + 1))] 31 (0, 0)) ((Only.setCell (S := (· = pb)) _ _ _ rfl).trans (Only.setCell (S := (· = pb)) _ _ _ rfl) (fun i h => .inl h)) (by
    rw [heap_set_same (heap_set_same hp _)]; simp [parN]) (fun p hp => by simp at hp)
  refine (tg_with (c := c) (by omega) h2 HA).mono ?_
  rintro e W' ⟨b, rfl, hT⟩
  rw [chI_snoc] at hT
  have hll : (l ++ [chOp i ps sl c]).length = i + 1 := by simp [HL.out.1]
  have hcc : IsCh (l ++ [chOp i ps sl c]) := by
    have := HL.out.2.1.add ps sl c
    rw [HL.out.1] at this
    exact this
  exact ⟨b, rfl, _, _, _, _, by rw [seenN_succ]; rfl, by rw [seenN_succ]; exact Nat.le_refl _, hll, hcc, rfl, hT⟩

end Go.Proofs.Ytgpbphjplbhfmaa.Ck.Y

/-
  TreeTrash: the walk (b).
-/
namespace Go.Proofs.Ytgpbphjplbhfmaa.Ck.Y
open Go.RowKit Go.Maps Go.Lib

/-- What is held behind the first move. -/
def TX (w : World) (gt d g cap ob : Nat) (l : List OG) (ps : Option Addr) (sl c : Nat) (W : World) : Prop := l.length = d ∧ IsCh l ∧ TGo w W gt (l ++ [mvOp 50 ((d : Int) + 1) 1 ps sl c]) (.slice (some ⟨g, 0, none⟩) d cap) (chI d) ps (seenN d) [(ob, .cells (opgC (mvOp 50 ((d : Int) + 1) 1 ps sl c)) 36 (0, 0))]
theorem tr_move {w wr : World} {gt pb d g cap sl c : Nat} {l : List OG} {ps : Option Addr} (h1 : 1 ≤ d) (h2 : d ≤ 20) (HT : Hid (TGo w wr gt l (.slice (some ⟨g, 0, none⟩) d cap) (chI d) ps (seenN d) [(pb, .cells #[.int .i64 d, .int .i64 (parN d)] 31 (0, 0))])) (HL : Hid (l.length = d ∧ IsCh l ∧ (seenN d).length ≤ c)) (HA : Hid ((seenN d).length = sl)) :
    Calls Try.prog 10 #[.pointer (some ⟨gt, 0, none⟩), opgv (mvOp 50 ((d : Int) + 1) 1 ps sl c)] (wr.alloc (.cells (opgC (mvOp 50 ((d : Int) + 1) 1 ps sl c)) 36)) fun e W => (∃ x, e = .returned (.tuple #[.int .i64 x, .int .i64 0])) ∧ Hid (TX w gt d g cap wr.heap.size l ps sl c W) := by
  have h3 := tg_new HT.out (.cells (opgC (mvOp 50 ((d : Int) + 1) 1 ps sl c)) 36)
  refine (tg_apply (o := mvOp 50 ((d : Int) + 1) 1 ps sl c) h3 rfl HA.out HL.out.2.2 (by have := seen_len d; omega) rfl (show (1 : Nat) ≤ 1000000 by decide) (may_mv h1 h2 _ _ _) (ch_less HL.out.2.1 (show (l.length : Int) < 50 by rw [HL.out.1]; omega)) (by rw [HL.out.1]; omega)).mono ?_
  rintro e W ⟨h, hT⟩
  refine ⟨h, HL.out.1, HL.out.2.1, tg_sub hT (fun p hp => ?_)⟩
  simp only [List.mem_cons, List.not_mem_nil, or_false] at hp ⊢
  exact .inl hp
section
variable {w W : World} {gt d g cap ob i : Nat} {l : List OG} {ps : Option Addr} {sl c : Nat}
theorem TX.cells (h : TX w gt d g cap ob l ps sl c W) (hi : i < d) : W.cell? ⟨g, i * 2, none⟩ = some (.int .i64 ((i : Int) + 1)) ∧ W.cell? ⟨g, i * 2 + 1, none⟩ = some (.int .i64 2) := (tg_row h.2.2).cells (chI_at hi)
theorem tx_live (hi : i < d) (h : Hid (TX w gt d g cap ob l ps sl c W)) : Calls Try.prog 17 #[.pointer (some ⟨gt, 0, none⟩), idv ((i : Int) + 1) 2] W fun e W' => e = .returned (.bool false) ∧ W'.cell? ⟨g, i * 2, none⟩ = some (.int .i64 ((i : Int) + 1)) ∧ W'.cell? ⟨g, i * 2 + 1, none⟩ = some (.int .i64 2) ∧ Hid (TX w gt d g cap ob l ps sl c W') := by
  obtain ⟨k1, k2, k3⟩ := h.out
  refine (tg_live k3 (tr_fold (by omega) k1 k2 _ _ _ _ _) ((i : Int) + 1) 2 (r := false) ⟨(fun e => by cases e), fun e => ?_⟩).mono ?_
  · rcases e with ⟨e, _⟩ | e
    · omega
    · exact absurd e (gT_nobel hi)
  rintro e W' ⟨rfl, hT⟩
  have hX : TX w gt d g cap ob l ps sl c W' := ⟨k1, k2, hT⟩
  exact ⟨rfl, (hX.cells hi).1, (hX.cells hi).2, hX⟩
theorem tx_has (hi : i < d) (h : Hid (TX w gt d g cap ob l ps sl c W)) : Calls Try.prog 11 #[.pointer (some ⟨gt, 0, none⟩), idv ((i : Int) + 1) 2] W fun e W' => e = .returned (.bool true) ∧ W'.cell? ⟨g, i * 2, none⟩ = some (.int .i64 ((i : Int) + 1)) ∧ W'.cell? ⟨g, i * 2 + 1, none⟩ = some (.int .i64 2) ∧ Hid (TX w gt d g cap ob l ps sl c W') := by
  obtain ⟨k1, k2, k3⟩ := h.out
  refine (tg_has k3 (tr_fold (by omega) k1 k2 _ _ _ _ _) ((i : Int) + 1) 2).mono ?_
  rintro e W' ⟨rfl, hT⟩
  have hX : TX w gt d g cap ob l ps sl c W' := ⟨k1, k2, hT⟩
  exact ⟨by rw [gT_has 1 hi], (hX.cells hi).1, (hX.cells hi).2, hX⟩
theorem tx_below (hi : i < d) (h : Hid (TX w gt d g cap ob l ps sl c W)) : Calls Try.prog 13 #[.pointer (some ⟨gt, 0, none⟩), idv ((i : Int) + 1) 2, idv 0 1] W fun e W' => e = .returned (.bool true) ∧ Hid (TX w gt d g cap ob l ps sl c W') := by
  obtain ⟨k1, k2, k3⟩ := h.out
  refine (tg_below k3 (tr_fold (by omega) k1 k2 _ _ _ _ _) ((i : Int) + 1) 2 0 1 (r := true) ⟨fun _ => gT_bel 1 hi, fun _ => rfl⟩).mono ?_
  rintro e W' ⟨rfl, hT⟩
  exact ⟨rfl, k1, k2, hT⟩
end

end Go.Proofs.Ytgpbphjplbhfmaa.Ck.Y

namespace Go.Proofs.Ytgpbphjplbhfmaa.Ck.Y
open Go.RowKit Go.Maps Go.Lib

section
variable {w W : World} {gt d g cap ob : Nat} {l : List OG} {ps : Option Addr} {sl c : Nat}
/-- What is held once the operation's block has been changed. -/
def TV (w : World) (gt d g cap ob : Nat) (l : List OG) (ps : Option Addr) (sl c q : Nat) (W : World) : Prop := l.length = d ∧ IsCh l ∧ TGo w W gt (l ++ [mvOp 50 ((d : Int) + 1) 1 ps sl c]) (.slice (some ⟨g, 0, none⟩) d cap) (chI d) (some ⟨q, 0, none⟩) (seenN (d + 1)) [(ob, .cells (opgC (mvOp 51 ((d : Int) + 1 + 1) 1 ps sl c)) 36 (0, 0))]
theorem TX.block (h : TX w gt d g cap ob l ps sl c W) : W.heap[ob]? = some (.cells (opgC (mvOp 50 ((d : Int) + 1) 1 ps sl c)) 36 (0, 0)) := tg_at h.2.2 (List.mem_cons_self ..)
theorem TV.block {q : Nat} (h : TV w gt d g cap ob l ps sl c q W) : W.heap[ob]? = some (.cells (opgC (mvOp 51 ((d : Int) + 1 + 1) 1 ps sl c)) 36 (0, 0)) := tg_at h.2.2 (List.mem_cons_self ..)
theorem tx_with (hd : d ≤ 20) (h : Hid (TX w gt d g cap ob l ps sl c W)) (HA : Hid ((seenN d).length = sl)) :
    Calls Try.prog 21 #[.slice ps sl c, .int .i64 2, .int .i64 ((d : Int) + 1)] ((W.setCell ⟨ob, 0, none⟩ (.int .i64 51)).setCell ⟨ob, 2, none⟩ (.int .i64 ((d : Int) + 1 + 1))) fun e W' => ∃ q, e = .returned (.slice (some ⟨q, 0, none⟩) 3 3) ∧ Hid (TV w gt d g cap ob l ps sl c q W') := by
  obtain ⟨k1, k2, k3⟩ := h.out
  have hp := h.out.block
  have h2 := tg_set k3 (W' := (W.setCell ⟨ob, 0, none⟩ (.int .i64 51)).setCell ⟨ob, 2, none⟩ (.int .i64 ((d : Int) + 1 + 1))) (o' := .cells (opgC (mvOp 51 ((d : Int) + 1 + 1) 1 ps sl c)) 36 (0, 0)) ((Only.setCell (S := (· = ob)) _ _ _ rfl).trans (Only.setCell (S := (· = ob)) _ _ _ rfl) (fun i h => .inl h)) (by
    rw [heap_set_same (heap_set_same hp _)]; rfl) (fun p hp => by simp at hp)
  refine (tg_with (c := c) (by omega) h2 HA).mono ?_
  rintro e W' ⟨q, rfl, hT⟩
  exact ⟨q, rfl, k1, k2, hT⟩
/-- What is held ahead of the last looks. -/
def TZ (w : World) (gt d g cap : Nat) (b : Bool) (W : World) : Prop := ∃ L ps ns, FoldT [] 0 L (gT d (if b then 0 else 1)) 0 ∧ TGo w W gt L (.slice (some ⟨g, 0, none⟩) d cap) (chI d) ps ns []
abbrev outW (W : World) (ob q : Nat) : World := ((W.setCell ⟨ob, 10, none⟩ (.slice (some ⟨q, 0, none⟩) 3 3)).setCell ⟨ob, 6, none⟩ (.int .i64 0)).setCell ⟨ob, 7, none⟩ (.int .i64 0)
theorem TV.out {q : Nat} (h : TV w gt d g cap ob l ps sl c q W) : (outW W ob q).heap[ob]? = some (.cells (opgC (mvOp 51 ((d : Int) + 1 + 1) 0 (some ⟨q, 0, none⟩) 3 3)) 36 (0, 0)) := by
  rw [heap_set_same (heap_set_same (heap_set_same h.block _) _)]; rfl
theorem tv_out {q : Nat} (h1 : 1 ≤ d) (hd : d ≤ 20) (h : Hid (TV w gt d g cap ob l ps sl c q W)) :
    Calls Try.prog 10 #[.pointer (some ⟨gt, 0, none⟩), opgv (mvOp 51 ((d : Int) + 1 + 1) 0 (some ⟨q, 0, none⟩) 3 3)] (outW W ob q) fun e W' => (∃ x, e = .returned (.tuple #[.int .i64 x, .int .i64 0])) ∧ Hid (TZ w gt d g cap true W') := by
  obtain ⟨k1, k2, k3⟩ := h.out
  have h2 := tg_set k3 (W' := outW W ob q) (((Only.setCell (S := (· = ob)) _ _ _ rfl).trans (Only.setCell (S := (· = ob)) _ _ _ rfl) (fun i h => .inl h)).trans (Only.setCell (S := (· = ob)) _ _ _ rfl) (fun i h => .inl h)) h.out.out (fun p hp => by simp at hp)
  have hs3 : (seenN (d + 1)).length = 3 := by rw [seenN_succ]; rfl
  refine (tg_apply (o := mvOp 51 ((d : Int) + 1 + 1) 0 (some ⟨q, 0, none⟩) 3 3) h2 rfl hs3 (by rw [hs3]; exact Nat.le_refl _) (by omega) rfl (show (1 : Nat) ≤ 1000000 by decide) (may_out h1 hd _ _ _) (fun x hx => ?_) (by simp; omega)).mono ?_
  · rcases List.mem_append.1 hx with hx | hx
    · exact ch_less k2 (show (l.length : Int) < 51 by rw [k1]; omega) x hx
    · rw [List.mem_singleton.1 hx]
      exact lessB_true.2 (.inl (by simp [mvOp]))
  rintro e W' ⟨hx, hT⟩
  exact ⟨hx, _, _, _, out_fold h1 k1 k2 _ _ _ _ _ _ _ _ _ _, tg_sub hT (fun p hp => by simp at hp)⟩
theorem TX.last (h1 : 1 ≤ d) (h : TX w gt d g cap ob l ps sl c W) : TZ w gt d g cap false W := by
  obtain ⟨k1, k2, k3⟩ := h
  exact ⟨_, _, _, tr_fold h1 k1 k2 _ _ _ _ _, tg_sub k3 (fun p hp => by simp at hp)⟩
variable {b : Bool}
/-- The same, with the last of the row's stamps in sight. -/
abbrev TL (w : World) (gt d e g cap : Nat) (b : Bool) (W : World) : Prop := W.cell? ⟨g, e * 2, none⟩ = some (.int .i64 ((e : Int) + 1)) ∧ W.cell? ⟨g, e * 2 + 1, none⟩ = some (.int .i64 2) ∧ Hid (TZ w gt d g cap b W)
variable {e : Nat}
theorem TZ.tl (he : d = e + 1) (h : TZ w gt d g cap b W) : TL w gt d e g cap b W := by
  have h' := h
  obtain ⟨L, ps, ns, _, hT⟩ := h'
  have := (tg_row hT).cells (chI_at (i := e) (by omega))
  exact ⟨this.1, this.2, h⟩
theorem TL.drew (he : d = e + 1) (h : TL w gt d e g cap b W) : TL w gt d e g cap b W.drew := by
  obtain ⟨L, ps, ns, hF, hT⟩ := h.2.2.out
  exact TZ.tl he ⟨L, ps, ns, hF, tg_low hT (⟨rfl, rfl, rfl, Nat.le_refl _, fun _ _ => rfl⟩ : Below W.heap.size W W.drew)⟩
theorem tl_live (he : d = e + 1) (h : TL w gt d e g cap b W) : Calls Try.prog 17 #[.pointer (some ⟨gt, 0, none⟩), idv ((e : Int) + 1) 2] W fun en W' => en = .returned (.bool b) ∧ TL w gt d e g cap b W' := by
  obtain ⟨L, ps, ns, hF, hT⟩ := h.2.2.out
  refine (tg_live hT hF ((e : Int) + 1) 2 (r := b) ?_).mono ?_
  · cases b
    · refine ⟨(fun f => by cases f), fun f => ?_⟩
      rcases f with ⟨f, _⟩ | f
      · omega
      · exact absurd f (gT_nobel (i := e) (by omega))
    · exact ⟨fun _ => .inr (gT_bel 0 (i := e) (by omega)), fun _ => rfl⟩
  rintro en W' ⟨rfl, hT'⟩
  exact ⟨rfl, TZ.tl he ⟨L, ps, ns, hF, hT'⟩⟩
theorem tl_len (he : d = e + 1) (h : TL w gt d e g cap b W) : Calls Try.prog 18 #[.pointer (some ⟨gt, 0, none⟩)] W fun en W' => en = .returned (.int .i64 (d : Nat)) ∧ TL w gt d e g cap b W' := by
  obtain ⟨L, ps, ns, hF, hT⟩ := h.2.2.out
  refine (tg_len hT hF).mono ?_
  rintro en W' ⟨rfl, hT'⟩
  exact ⟨by rw [gT_length], TZ.tl he ⟨L, ps, ns, hF, hT'⟩⟩
theorem tl_kids (he : d = e + 1) (h : TL w gt d e g cap b W) : Calls Try.prog 15 #[.pointer (some ⟨gt, 0, none⟩), idv 0 0] W fun en W' => (∃ p c, en = .returned (.slice p (if b then 1 else 0) c)) ∧ TL w gt d e g cap b W' := by
  obtain ⟨L, ps, ns, hF, hT⟩ := h.2.2.out
  refine (tg_kids hT hF 0 0 (k := if b then 1 else 0) ?_).mono ?_
  · rw [gT_kids _ (by omega)]
    cases b <;> rfl
  rintro en W' ⟨hx, hT'⟩
  exact ⟨hx, TZ.tl he ⟨L, ps, ns, hF, hT'⟩⟩
theorem tl_kids0 (he : d = e + 1) (h : TL w gt d e g cap false W) : Calls Try.prog 15 #[.pointer (some ⟨gt, 0, none⟩), idv 0 0] W fun en W' => (∃ p c, en = .returned (.slice p 0 c)) ∧ TL w gt d e g cap false W' := tl_kids he h
theorem tl_kids1 (he : d = e + 1) (h : TL w gt d e g cap true W) : Calls Try.prog 15 #[.pointer (some ⟨gt, 0, none⟩), idv 0 0] W fun en W' => (∃ p c, en = .returned (.slice p 1 c)) ∧ TL w gt d e g cap true W' := tl_kids he h
theorem TZ.cap1 (he : d = e + 1) (h : TZ w gt d g cap b W) : 1 ≤ cap := by
  obtain ⟨L, ps, ns, _, hT⟩ := h
  obtain ⟨cur, _, _, _, hc, _⟩ := (tg_row hT).cur
  omega
theorem map01_any (b : Bool) (W : World) : Calls Try.prog 22 #[.bool b] W fun en W' => en = .returned (.int .i64 (if b then 1 else 0)) ∧ W' = W := by
  cases b <;> (go_enter Try.func22, Try.ntmps22; go_wp2_with fail; go_ret; exact ⟨rfl, rfl⟩)
theorem map01_f (W : World) : Calls Try.prog 22 #[.bool false] W fun en W' => en = .returned (.int .i64 0) ∧ W' = W := map01_any false W
theorem map01_t (W : World) : Calls Try.prog 22 #[.bool true] W fun en W' => en = .returned (.int .i64 1) ∧ W' = W := map01_any true W
theorem TL.bel (h : TL w gt d e g cap b W) : Below w.heap.size w W := by
  obtain ⟨L, ps, ns, hF, hT⟩ := h.2.2.out
  exact tg_bel hT
end

end Go.Proofs.Ytgpbphjplbhfmaa.Ck.Y
