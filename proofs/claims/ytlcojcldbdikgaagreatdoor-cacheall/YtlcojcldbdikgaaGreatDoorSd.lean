/-
  The document's own cache: the drawn regions of hold and use that write.
-/
import Derived.Test.YtlcojcldbdikgaaGreatDoorSc
import Derived.Maps.AppendAt
namespace Go.Proofs.YtlcojcldbdikgaaGreatDoor.Rc
open Go.RowKit Go.Maps

theorem heldInfo : ∃ i, Tryz.prog.info? 68 = some i ∧ i.zero = some (.agg #[.int .i64 0, .int .i64 0, .int .i64 0, .bool false, .slice none 0 0]) ∧ i.size = 5 ∧ i.bytes = 56 := by
  have e : (Tryz.prog.info? 68).map (fun i => (i.zero, i.size, i.bytes)) = some (some (.agg #[.int .i64 0, .int .i64 0, .int .i64 0, .bool false, .slice none 0 0]), 5, 56) := by kernel_rfl
  obtain ⟨i, hi, he⟩ := Option.map_eq_some_iff.1 e
  injection he with h1 h2
  injection h2 with h2 h3
  exact ⟨i, hi, h1, h2, h3⟩

set_option maxRecDepth 8000 in
set_option maxHeartbeats 4000000 in
theorem hold_reg16 {Q : Exit → Act → World → Prop} {base : Array Value} {d : List Deferred} {ops : Array Oper} (hops : Tryz.f58.body.bind (regs 16) = some ops) (r x nL cL gV nV cV lo : Nat) (pL : Option Addr) (cs : Array Value) (L : List RE) (sv : SV) (w1 : World) (hsz : base.size = 130)
    (b0 : base.getD 0 undef = .pointer (some ⟨r, 0, none⟩)) (b1 : base.getD 1 undef = .int .i64 (x : Nat))
    (hcs : w1.heap[r]? = some (.cells cs 32 (0, 0))) (hc0 : cs[0]? = some (.slice (some ⟨gV, 0, none⟩) nV cV)) (hc2 : cs[2]? = some (.slice pL nL cL)) (hR : w1.ownsRow lo 68 5 (.slice pL nL cL) nL (rows L)) (cS : w1.cell? ⟨gV, x, none⟩ = some sv.val) (hxV : x < nV) (hsm : nL ≤ 100000) (hlo : lo ≤ w1.heap.size)
    (nLr : ¬ (.slice pL nL cL : Value).ownBlock = some r) (nLV : ¬ (.slice pL nL cL : Value).ownBlock = some gV) (nVr : ¬ gV = r)
    (hQ : ∀ g W, Only (fun k => (.slice pL nL cL : Value).ownBlock = some k ∨ k = r) w1 W → W.ownsRow lo 68 5 g.2 (nL + 1) (rows (L ++ [⟨x, 0, 0, false, sv⟩])) → W.heap[r]? = some (.cells (cs.setIfInBounds 2 g.2) 32 (0, 0)) → (g.2.ownBlock = (.slice pL nL cL : Value).ownBlock ∨ ∃ q, g.2.ownBlock = some q ∧ w1.heap.size ≤ q) → Q .normal ⟨putAll base ((fun g : Value × Value => [(some 106, .pointer (some ⟨r, 0, none⟩)), (some 107, .pointer (some ⟨r, 0, none⟩)), (some 108, .pointer (some ⟨r, 0, none⟩)), (some 109, .pointer (some ⟨r, 2, none⟩)), (some 110, .slice pL nL cL), (some 111, .int .i64 (x : Nat)), (some 112, .pointer (some ⟨r, 0, none⟩)), (some 113, .pointer (some ⟨r, 0, none⟩)), (some 114, .pointer (some ⟨r, 0, none⟩)), (some 115, .slice (some ⟨gV, 0, none⟩) nV cV), (some 116, .int .i64 (x : Nat)), (some 117, .pointer (some ⟨gV, x, none⟩)), (some 118, sv.val), (some 119, .agg #[.int .i64 (x : Nat), .int .i64 0, .int .i64 0, .bool false, sv.val]), (some 120, g.1), (some 121, g.2), (some 122, .pointer (some ⟨r, 0, none⟩)), (some 123, .pointer (some ⟨r, 2, none⟩)), (none, undef)]) g), d⟩ W) :
    (Code.region 16 ops true).wp Tryz.prog Q ⟨base, d⟩ w1 := by
  have hmix : Tryz.prog.follows .mixedOrders = true := by kernel_rfl
  have h2 := (show Tryz.f58.body.bind (regs 16) = some _ from rfl).symm.trans hops
  obtain rfl := Option.some.inj h2
  clear h2 hops
  have below1 : Below w1.heap.size w1 w1.drew := (Below.refl _ _).drew
  obtain ⟨i0, hi, hz0, hz1, hz2⟩ := heldInfo
  have hu : Tryz.prog.underlying 30 = some (.slice 68) := Tryz.underlying30
  have c0 : w1.cell? ⟨r, 0, none⟩ = some (.slice (some ⟨gV, 0, none⟩) nV cV) := by rw [cellOf hcs]; exact hc0
  have c2 : w1.cell? ⟨r, 2, none⟩ = some (.slice pL nL cL) := by rw [cellOf hcs]; exact hc2
  obtain ⟨LL, hLe⟩ : ∃ LL : Value × Value → List (Option Tmp × Value), LL = fun g : Value × Value => [(some 106, .pointer (some ⟨r, 0, none⟩)), (some 107, .pointer (some ⟨r, 0, none⟩)), (some 108, .pointer (some ⟨r, 0, none⟩)), (some 109, .pointer (some ⟨r, 2, none⟩)), (some 110, .slice pL nL cL), (some 111, .int .i64 (x : Nat)), (some 112, .pointer (some ⟨r, 0, none⟩)), (some 113, .pointer (some ⟨r, 0, none⟩)), (some 114, .pointer (some ⟨r, 0, none⟩)), (some 115, .slice (some ⟨gV, 0, none⟩) nV cV), (some 116, .int .i64 (x : Nat)), (some 117, .pointer (some ⟨gV, x, none⟩)), (some 118, sv.val), (some 119, .agg #[.int .i64 (x : Nat), .int .i64 0, .int .i64 0, .bool false, sv.val]), (some 120, g.1), (some 121, g.2), (some 122, .pointer (some ⟨r, 0, none⟩)), (some 123, .pointer (some ⟨r, 2, none⟩)), (none, undef)] := ⟨_, rfl⟩
  have vv0 : ∀ g, vals (LL g) 0 = .pointer (some ⟨r, 0, none⟩) := fun g => by rw [hLe]; rfl
  have vv1 : ∀ g, vals (LL g) 1 = .pointer (some ⟨r, 0, none⟩) := fun g => by rw [hLe]; rfl
  have vv2 : ∀ g, vals (LL g) 2 = .pointer (some ⟨r, 0, none⟩) := fun g => by rw [hLe]; rfl
  have vv3 : ∀ g, vals (LL g) 3 = .pointer (some ⟨r, 2, none⟩) := fun g => by rw [hLe]; rfl
  have vv4 : ∀ g, vals (LL g) 4 = .slice pL nL cL := fun g => by rw [hLe]; rfl
  have vv5 : ∀ g, vals (LL g) 5 = .int .i64 (x : Nat) := fun g => by rw [hLe]; rfl
  have vv6 : ∀ g, vals (LL g) 6 = .pointer (some ⟨r, 0, none⟩) := fun g => by rw [hLe]; rfl
  have vv7 : ∀ g, vals (LL g) 7 = .pointer (some ⟨r, 0, none⟩) := fun g => by rw [hLe]; rfl
  have vv8 : ∀ g, vals (LL g) 8 = .pointer (some ⟨r, 0, none⟩) := fun g => by rw [hLe]; rfl
  have vv9 : ∀ g, vals (LL g) 9 = .slice (some ⟨gV, 0, none⟩) nV cV := fun g => by rw [hLe]; rfl
  have vv10 : ∀ g, vals (LL g) 10 = .int .i64 (x : Nat) := fun g => by rw [hLe]; rfl
  have vv11 : ∀ g, vals (LL g) 11 = .pointer (some ⟨gV, x, none⟩) := fun g => by rw [hLe]; rfl
  have vv12 : ∀ g, vals (LL g) 12 = sv.val := fun g => by rw [hLe]; rfl
  have vv13 : ∀ g, vals (LL g) 13 = .agg #[.int .i64 (x : Nat), .int .i64 0, .int .i64 0, .bool false, sv.val] := fun g => by rw [hLe]; rfl
  have vv14 : ∀ g, vals (LL g) 14 = g.1 := fun g => by rw [hLe]; rfl
  have vv15 : ∀ g, vals (LL g) 15 = g.2 := fun g => by rw [hLe]; rfl
  have vv16 : ∀ g, vals (LL g) 16 = .pointer (some ⟨r, 0, none⟩) := fun g => by rw [hLe]; rfl
  have vv17 : ∀ g, vals (LL g) 17 = .pointer (some ⟨r, 2, none⟩) := fun g => by rw [hLe]; rfl
  have vv18 : ∀ g, vals (LL g) 18 = undef := fun g => by rw [hLe]; rfl
  refine region_laidg hmix (by kernel_rfl) 130 hsz (by kernel_rfl) (.slice none 0 0, .slice none 0 0) LL (fun g => by rw [hLe]; rfl) (fun g b W => Only (fun k => ((.slice pL nL cL : Value).ownBlock = some k ∧ b 15 = true) ∨ (k = r ∧ b 18 = true)) w1 W ∧ (b 14 = true → ∃ q, g.1 = .slice (some ⟨q, 0, none⟩) 1 1 ∧ w1.heap.size ≤ q ∧ W.heap[q]? = some (.cells (reCells ⟨x, 0, 0, false, sv⟩).toArray 68 (0, 0))) ∧ (b 15 = true → W.ownsRow lo 68 5 g.2 (nL + 1) (rows (L ++ [⟨x, 0, 0, false, sv⟩])) ∧ (g.2.ownBlock = (.slice pL nL cL : Value).ownBlock ∨ ∃ q, g.2.ownBlock = some q ∧ w1.heap.size ≤ q)) ∧ (b 18 = true → W.heap[r]? = some (.cells (cs.setIfInBounds 2 g.2) 32 (0, 0))) ∧ (b 15 = false → b 18 = false)) ⟨only_below below1 _, fun h => (by cases h), fun h => (by cases h), fun h => (by cases h), fun _ => rfl⟩ ?_ ?_
  · intro g b W io o a hS hcl ho hb hd ev kp yl
    match io with
    | 0 =>
      simp only [List.getElem?_toArray, List.getElem?_cons_zero, Option.some.injEq] at ho
      subst ho
      have e0 : a.tmps[0]?.getD undef = .pointer (some ⟨r, 0, none⟩) := (kp 0 (none_till (by kernel_rfl))).trans b0
      refine doesg_value rfl (by intro c h; cases h) (v := .pointer (some ⟨r, 0, none⟩)) (w' := W) ?_ ⟨g, fun _ _ => rfl, (vv0 g).symm, ?_⟩
      · simp [execOp, go_sem, e0]
      · simpa [did] using hS
    | 1 =>
      simp only [List.getElem?_toArray, List.getElem?_cons_zero, List.getElem?_cons_succ, Option.some.injEq] at ho
      subst ho
      have e0 : a.tmps[0]?.getD undef = .pointer (some ⟨r, 0, none⟩) := (kp 0 (none_till (by kernel_rfl))).trans b0
      refine doesg_value rfl (by intro c h; cases h) (v := .pointer (some ⟨r, 0, none⟩)) (w' := W) ?_ ⟨g, fun _ _ => rfl, (vv1 g).symm, ?_⟩
      · simp [execOp, go_sem, e0]
      · simpa [did] using hS
    | 2 =>
      simp only [List.getElem?_toArray, List.getElem?_cons_zero, List.getElem?_cons_succ, Option.some.injEq] at ho
      subst ho
      have p1 : b 1 = true := hd ⟨1, .data⟩ (by simp) rfl
      have e107 := (ev 1 107 rfl p1).trans (vv1 g)
      refine doesg_value rfl (by intro c h; cases h) (v := .pointer (some ⟨r, 0, none⟩)) (w' := W) ?_ ⟨g, fun _ _ => rfl, (vv2 g).symm, ?_⟩
      · simp [execOp, go_sem, e107]
      · simpa [did] using hS
    | 3 =>
      simp only [List.getElem?_toArray, List.getElem?_cons_zero, List.getElem?_cons_succ, Option.some.injEq] at ho
      subst ho
      have p2 : b 2 = true := hd ⟨2, .data⟩ (by simp) rfl
      have e108 := (ev 2 108 rfl p2).trans (vv2 g)
      refine doesg_value rfl (by intro c h; cases h) (v := .pointer (some ⟨r, 2, none⟩)) (w' := W) ?_ ⟨g, fun _ _ => rfl, (vv3 g).symm, ?_⟩
      · simp [execOp, go_sem, e108]
      · simpa [did] using hS
    | 4 =>
      simp only [List.getElem?_toArray, List.getElem?_cons_zero, List.getElem?_cons_succ, Option.some.injEq] at ho
      subst ho
      have p3 : b 3 = true := hd ⟨3, .data⟩ (by simp) rfl
      have e109 := (ev 3 109 rfl p3).trans (vv3 g)
      have qST : b 18 = false := by cases hq : b 18 with | false => rfl | true => (exfalso; have q15 := hcl 18 _ rfl hq ⟨15, .data⟩ (by simp) rfl; have q4 := hcl 15 _ rfl q15 ⟨4, .data⟩ (by simp) rfl; rw [hb] at q4; cases q4)
      have hl := hS.1.cell c2 (by rintro (⟨e, _⟩ | ⟨_, e⟩); exact nLr e; rw [qST] at e; cases e)
      refine doesg_value rfl (by intro c h; cases h) (v := .slice pL nL cL) (w' := W) ?_ ⟨g, fun _ _ => rfl, (vv4 g).symm, ?_⟩
      · simp [execOp, go_sem, e109, hl]
      · simpa [did] using hS
    | 5 =>
      simp only [List.getElem?_toArray, List.getElem?_cons_zero, List.getElem?_cons_succ, Option.some.injEq] at ho
      subst ho
      have e1 : a.tmps[1]?.getD undef = .int .i64 (x : Nat) := (kp 1 (none_till (by kernel_rfl))).trans b1
      refine doesg_value rfl (by intro c h; cases h) (v := .int .i64 (x : Nat)) (w' := W) ?_ ⟨g, fun _ _ => rfl, (vv5 g).symm, ?_⟩
      · simp [execOp, go_sem, e1]
      · simpa [did] using hS
    | 6 =>
      simp only [List.getElem?_toArray, List.getElem?_cons_zero, List.getElem?_cons_succ, Option.some.injEq] at ho
      subst ho
      have e0 : a.tmps[0]?.getD undef = .pointer (some ⟨r, 0, none⟩) := (kp 0 (none_till (by kernel_rfl))).trans b0
      refine doesg_value rfl (by intro c h; cases h) (v := .pointer (some ⟨r, 0, none⟩)) (w' := W) ?_ ⟨g, fun _ _ => rfl, (vv6 g).symm, ?_⟩
      · simp [execOp, go_sem, e0]
      · simpa [did] using hS
    | 7 =>
      simp only [List.getElem?_toArray, List.getElem?_cons_zero, List.getElem?_cons_succ, Option.some.injEq] at ho
      subst ho
      have p6 : b 6 = true := hd ⟨6, .data⟩ (by simp) rfl
      have e112 := (ev 6 112 rfl p6).trans (vv6 g)
      refine doesg_value rfl (by intro c h; cases h) (v := .pointer (some ⟨r, 0, none⟩)) (w' := W) ?_ ⟨g, fun _ _ => rfl, (vv7 g).symm, ?_⟩
      · simp [execOp, go_sem, e112]
      · simpa [did] using hS
    | 8 =>
      simp only [List.getElem?_toArray, List.getElem?_cons_zero, List.getElem?_cons_succ, Option.some.injEq] at ho
      subst ho
      have p7 : b 7 = true := hd ⟨7, .data⟩ (by simp) rfl
      have e113 := (ev 7 113 rfl p7).trans (vv7 g)
      refine doesg_value rfl (by intro c h; cases h) (v := .pointer (some ⟨r, 0, none⟩)) (w' := W) ?_ ⟨g, fun _ _ => rfl, (vv8 g).symm, ?_⟩
      · simp [execOp, go_sem, e113]
      · simpa [did] using hS
    | 9 =>
      simp only [List.getElem?_toArray, List.getElem?_cons_zero, List.getElem?_cons_succ, Option.some.injEq] at ho
      subst ho
      have p8 : b 8 = true := hd ⟨8, .data⟩ (by simp) rfl
      have e114 := (ev 8 114 rfl p8).trans (vv8 g)
      have qST : b 18 = false := by cases hq : b 18 with | false => rfl | true => (exfalso; have q15 := hcl 18 _ rfl hq ⟨15, .data⟩ (by simp) rfl; have q14 := hcl 15 _ rfl q15 ⟨14, .data⟩ (by simp) rfl; have q13 := hcl 14 _ rfl q14 ⟨13, .data⟩ (by simp) rfl; have q12 := hcl 13 _ rfl q13 ⟨12, .data⟩ (by simp) rfl; have q11 := hcl 12 _ rfl q12 ⟨11, .data⟩ (by simp) rfl; have q9 := hcl 11 _ rfl q11 ⟨9, .data⟩ (by simp) rfl; rw [hb] at q9; cases q9)
      have hl := hS.1.cell c0 (by rintro (⟨e, _⟩ | ⟨_, e⟩); exact nLr e; rw [qST] at e; cases e)
      refine doesg_value rfl (by intro c h; cases h) (v := .slice (some ⟨gV, 0, none⟩) nV cV) (w' := W) ?_ ⟨g, fun _ _ => rfl, (vv9 g).symm, ?_⟩
      · simp [execOp, go_sem, e114, hl]
      · simpa [did] using hS
    | 10 =>
      simp only [List.getElem?_toArray, List.getElem?_cons_zero, List.getElem?_cons_succ, Option.some.injEq] at ho
      subst ho
      have e1 : a.tmps[1]?.getD undef = .int .i64 (x : Nat) := (kp 1 (none_till (by kernel_rfl))).trans b1
      refine doesg_value rfl (by intro c h; cases h) (v := .int .i64 (x : Nat)) (w' := W) ?_ ⟨g, fun _ _ => rfl, (vv10 g).symm, ?_⟩
      · simp [execOp, go_sem, e1]
      · simpa [did] using hS
    | 11 =>
      simp only [List.getElem?_toArray, List.getElem?_cons_zero, List.getElem?_cons_succ, Option.some.injEq] at ho
      subst ho
      have p9 : b 9 = true := hd ⟨9, .data⟩ (by simp) rfl
      have p10 : b 10 = true := hd ⟨10, .data⟩ (by simp) rfl
      have e115 := (ev 9 115 rfl p9).trans (vv9 g)
      have e116 := (ev 10 116 rfl p10).trans (vv10 g)
      refine doesg_value rfl (by intro c h; cases h) (v := .pointer (some ⟨gV, x, none⟩)) (w' := W) ?_ ⟨g, fun _ _ => rfl, (vv11 g).symm, ?_⟩
      · simp [execOp, go_sem, e115, e116, hxV]
      · simpa [did] using hS
    | 12 =>
      simp only [List.getElem?_toArray, List.getElem?_cons_zero, List.getElem?_cons_succ, Option.some.injEq] at ho
      subst ho
      have p11 : b 11 = true := hd ⟨11, .data⟩ (by simp) rfl
      have e117 := (ev 11 117 rfl p11).trans (vv11 g)
      have hl := hS.1.cell cS (by rintro (⟨e, _⟩ | ⟨e, _⟩); exact nLV e; exact nVr e)
      refine doesg_value rfl (by intro c h; cases h) (v := sv.val) (w' := W) ?_ ⟨g, fun _ _ => rfl, (vv12 g).symm, ?_⟩
      · simp [execOp, go_sem, e117, hl]
      · simpa [did] using hS
    | 13 =>
      simp only [List.getElem?_toArray, List.getElem?_cons_zero, List.getElem?_cons_succ, Option.some.injEq] at ho
      subst ho
      have p5 : b 5 = true := hd ⟨5, .data⟩ (by simp) rfl
      have p12 : b 12 = true := hd ⟨12, .data⟩ (by simp) rfl
      have e111 := (ev 5 111 rfl p5).trans (vv5 g)
      have e118 := (ev 12 118 rfl p12).trans (vv12 g)
      refine doesg_value rfl (by intro c h; cases h) (v := .agg #[.int .i64 (x : Nat), .int .i64 0, .int .i64 0, .bool false, sv.val]) (w' := W) ?_ ⟨g, fun _ _ => rfl, (vv13 g).symm, ?_⟩
      · unfold SV.val at e118 ⊢; simp [execOp, go_sem, e111, e118]
      · simpa [did] using hS
    | 14 =>
      simp only [List.getElem?_toArray, List.getElem?_cons_zero, List.getElem?_cons_succ, Option.some.injEq] at ho
      subst ho
      have p13 : b 13 = true := hd ⟨13, .data⟩ (by simp) rfl
      have e119 := (ev 13 119 rfl p13).trans (vv13 g)
      have hoF : Only (fun _ => False) W (W.alloc (.cells (reCells ⟨x, 0, 0, false, sv⟩).toArray 68)) := only_below ((Below.refl _ W).alloc (Nat.le_refl _) _) _
      have qAP : b 15 = false := by cases hq : b 15 with | false => rfl | true => (exfalso; have q14 := hcl 15 _ rfl hq ⟨14, .data⟩ (by simp) rfl; rw [hb] at q14; cases q14)
      have qST := hS.2.2.2.2 qAP
      refine doesg_value rfl (by intro c h; cases h) (v := .slice (some ⟨W.heap.size, 0, none⟩) 1 1) (w' := W.alloc (.cells (reCells ⟨x, 0, 0, false, sv⟩).toArray 68)) ?_ ⟨(.slice (some ⟨W.heap.size, 0, none⟩) 1 1, g.2), fun j hj => ?_, (vv14 (.slice (some ⟨W.heap.size, 0, none⟩) 1 1, g.2)).symm, ?_⟩
      · unfold reCells SV.val; unfold SV.val at e119; simp [execOp, go_sem, e119]
      · match j, hj with | 0, _ => rw [vv0, vv0] | 1, _ => rw [vv1, vv1] | 2, _ => rw [vv2, vv2] | 3, _ => rw [vv3, vv3] | 4, _ => rw [vv4, vv4] | 5, _ => rw [vv5, vv5] | 6, _ => rw [vv6, vv6] | 7, _ => rw [vv7, vv7] | 8, _ => rw [vv8, vv8] | 9, _ => rw [vv9, vv9] | 10, _ => rw [vv10, vv10] | 11, _ => rw [vv11, vv11] | 12, _ => rw [vv12, vv12] | 13, _ => rw [vv13, vv13] | 14, h => rw [hb] at h; cases h | 15, _ => rw [vv15, vv15] | 16, _ => rw [vv16, vv16] | 17, _ => rw [vv17, vv17] | 18, _ => rw [vv18, vv18] | k + 19, _ => rw [hLe]; rfl
      · refine ⟨(hS.1.trans hoF (fun _ f => f.elim)).weak (fun k _ hk => hk.imp (fun h => ⟨h.1, by simpa [did] using h.2⟩) (fun h => ⟨h.1, by simpa [did] using h.2⟩)), fun _ => ⟨W.heap.size, rfl, hS.1.size, heap_alloc_new W _⟩, fun h => ?_, fun h => ?_, fun _ => by simpa [did] using qST⟩
        · simp [did, qAP] at h
        · simp [did, qST] at h
    | 15 =>
      simp only [List.getElem?_toArray, List.getElem?_cons_zero, List.getElem?_cons_succ, Option.some.injEq] at ho
      subst ho
      have p4 : b 4 = true := hd ⟨4, .data⟩ (by simp) rfl
      have p14 : b 14 = true := hd ⟨14, .data⟩ (by simp) rfl
      have e110 := (ev 4 110 rfl p4).trans (vv4 g)
      have e120 := (ev 14 120 rfl p14).trans (vv14 g)
      obtain ⟨q, e1, hq1, hq2⟩ := hS.2.1 p14
      rw [e1] at e120
      have qST := hS.2.2.2.2 hb
      have hRW : W.ownsRow lo 68 5 (.slice pL nL cL) nL (rows L) := hS.1.owns hR (by rintro k hk (⟨_, e⟩ | ⟨_, e⟩); rw [hb] at e; cases e; rw [qST] at e; cases e)
      obtain ⟨v2, W2, hr, hown, hgr, _, hat⟩ := run_append_own_at (P := Tryz.prog) W lo 30 30 68 i0 _ 5 56 hu hi hz0 hz1 hz2 rfl (by decide) (.slice pL nL cL) nL (rows L) hRW ⟨q, 0, none⟩ 1 1 (reCells ⟨x, 0, 0, false, sv⟩) rfl (fun j u hj => by rw [Addr.add_lit, Nat.zero_add, cellOf hq2]; simpa using hj) (by intro u hu; simp [reCells, SV.val] at hu; rcases hu with rfl | rfl | rfl | rfl | rfl <;> rfl) (by unfold maxLen; omega) (by omega) (Nat.le_trans hlo hS.1.size)
      have hoG := only_grown hgr
      refine doesg_value rfl (by intro c h; cases h) (v := v2) (w' := W2) ?_ ⟨(g.1, v2), fun j hj => ?_, (vv15 (g.1, v2)).symm, ?_⟩
      · have hs110 := (show a.eval (.tmp 110) = a.tmps[110]?.getD undef by simp [Act.eval]).trans e110; have hs120 := (show a.eval (.tmp 120) = a.tmps[120]?.getD undef by simp [Act.eval]).trans e120; simp only [execOp, resolve, invoke, builtin, Sem.run_bind, Sem.run_pure, Result.andThen_ok, List.map_toArray, List.map_cons, List.map_nil, hs110, hs120, hr]
      · match j, hj with | 0, _ => rw [vv0, vv0] | 1, _ => rw [vv1, vv1] | 2, _ => rw [vv2, vv2] | 3, _ => rw [vv3, vv3] | 4, _ => rw [vv4, vv4] | 5, _ => rw [vv5, vv5] | 6, _ => rw [vv6, vv6] | 7, _ => rw [vv7, vv7] | 8, _ => rw [vv8, vv8] | 9, _ => rw [vv9, vv9] | 10, _ => rw [vv10, vv10] | 11, _ => rw [vv11, vv11] | 12, _ => rw [vv12, vv12] | 13, _ => rw [vv13, vv13] | 14, _ => rw [vv14, vv14] | 15, h => rw [hb] at h; cases h | 16, _ => rw [vv16, vv16] | 17, _ => rw [vv17, vv17] | 18, _ => rw [vv18, vv18] | k + 19, _ => rw [hLe]; rfl
      · have hrows : rows L ++ reCells ⟨x, 0, 0, false, sv⟩ = rows (L ++ [⟨x, 0, 0, false, sv⟩]) := by rw [rows_append]; simp [rows]
        rw [hrows] at hown
        refine ⟨(hS.1.weak (T := fun k => ((.slice pL nL cL : Value).ownBlock = some k ∧ did b 15 15 = true) ∨ (k = r ∧ did b 15 18 = true)) (fun k _ hk => hk.imp (fun h => ⟨h.1, by simp [did]⟩) (fun h => ⟨h.1, by simpa [did] using h.2⟩))).trans hoG (fun k hk => .inl (.inl ⟨hk, by simp [did]⟩)), fun h => ⟨q, e1, hq1, (hoG.block q (block_lt hq2) (fun e => ?_)).trans hq2⟩, fun _ => ⟨hown, hat.imp id (fun e => ⟨_, e, hS.1.size⟩)⟩, fun h => ?_, fun h => ?_⟩
        · obtain ⟨_, cur, hcur⟩ := own_tag hR e
          have := block_lt hcur
          omega
        · simp [did, qST] at h
        · simp [did] at h
    | 16 =>
      simp only [List.getElem?_toArray, List.getElem?_cons_zero, List.getElem?_cons_succ, Option.some.injEq] at ho
      subst ho
      have p0 : b 0 = true := hd ⟨0, .data⟩ (by simp) rfl
      have e106 := (ev 0 106 rfl p0).trans (vv0 g)
      refine doesg_value rfl (by intro c h; cases h) (v := .pointer (some ⟨r, 0, none⟩)) (w' := W) ?_ ⟨g, fun _ _ => rfl, (vv16 g).symm, ?_⟩
      · simp [execOp, go_sem, e106]
      · simpa [did] using hS
    | 17 =>
      simp only [List.getElem?_toArray, List.getElem?_cons_zero, List.getElem?_cons_succ, Option.some.injEq] at ho
      subst ho
      have p16 : b 16 = true := hd ⟨16, .data⟩ (by simp) rfl
      have e122 := (ev 16 122 rfl p16).trans (vv16 g)
      refine doesg_value rfl (by intro c h; cases h) (v := .pointer (some ⟨r, 2, none⟩)) (w' := W) ?_ ⟨g, fun _ _ => rfl, (vv17 g).symm, ?_⟩
      · simp [execOp, go_sem, e122]
      · simpa [did] using hS
    | 18 =>
      simp only [List.getElem?_toArray, List.getElem?_cons_zero, List.getElem?_cons_succ, Option.some.injEq] at ho
      subst ho
      have p17 : b 17 = true := hd ⟨17, .data⟩ (by simp) rfl
      have p15 : b 15 = true := hd ⟨15, .data⟩ (by simp) rfl
      have e123 := (ev 17 123 rfl p17).trans (vv17 g)
      have e121 := (ev 15 121 rfl p15).trans (vv15 g)
      obtain ⟨hown, hat⟩ := hS.2.2.1 p15
      have hWr : W.heap[r]? = some (.cells cs 32 (0, 0)) := (hS.1.block r (block_lt hcs) (by rintro (⟨e, _⟩ | ⟨_, e⟩); exact nLr e; rw [hb] at e; cases e)).trans hcs
      obtain ⟨yv, hy⟩ : ∃ yv, W.cell? ⟨r, 2, none⟩ = some yv := ⟨_, by rw [cellOf hWr]; exact hc2⟩
      have hf := frozenOf hWr 2
      have hoB : Only (fun k => k = r) W (W.setCell ⟨r, 2, none⟩ g.2) := Only.setCell W ⟨r, 2, none⟩ _ rfl
      have hgr : g.2.ownBlock ≠ some r := fun e => by
        rcases hat with h | ⟨q, h, hq⟩
        · exact nLr (by rw [← h]; exact e)
        · rw [h] at e; injection e with e; have := block_lt hcs; omega
      refine doesg_skip rfl (by intro c h; cases h) (w' := W.setCell ⟨r, 2, none⟩ g.2) ?_ ⟨g, fun _ _ => rfl, (vv18 g).symm, ?_⟩
      · obtain ⟨p3, c3, e3, _⟩ := own_form hown
        rw [e3] at e121 ⊢
        simp [execOp, go_sem, e121, e123, hy, hf]
      · refine ⟨(hS.1.weak (T := fun k => ((.slice pL nL cL : Value).ownBlock = some k ∧ did b 18 15 = true) ∨ (k = r ∧ did b 18 18 = true)) (fun k _ hk => hk.imp (fun h => ⟨h.1, by simpa [did] using h.2⟩) (fun h => ⟨h.1, by simp [did]⟩))).trans hoB (fun k hk => .inl (.inr ⟨hk, by simp [did]⟩)), fun h => ?_, fun _ => ⟨hoB.owns hown (fun k hk e => hgr (by rw [hk, e])), hat⟩, fun _ => ?_, fun h => ?_⟩
        · obtain ⟨q, h1, h2, h3⟩ := hS.2.1 (by simpa [did] using h)
          exact ⟨q, h1, h2, (hoB.block q (block_lt h3) (fun e => by have := block_lt hcs; omega)).trans h3⟩
        · rw [set_same hWr]
        · simp [did, p15] at h
    | k + 19 => simp at ho
  · intro g b W hS hall
    obtain ⟨h1, _, h3, h4, _⟩ := hS
    obtain ⟨h5, h6⟩ := h3 (hall 15 (by decide))
    subst hLe
    exact hQ g W (h1.weak (fun k _ hk => hk.imp And.left And.left)) h5 (h4 (hall 18 (by decide))) h6

end Go.Proofs.YtlcojcldbdikgaaGreatDoor.Rc
