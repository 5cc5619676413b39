/-
  The document's own cache: a field, an entry is set; region 12 of use.
-/
import Derived.Test.YtlcojcldbdikgaaGreatDoorSe
namespace Go.Proofs.YtlcojcldbdikgaaGreatDoor.Rc
open Go.RowKit Go.Maps

theorem own_set {w : World} {base e size g cap n i : Nat} {xs : List Value} (ho : w.ownsRow base e size (.slice (some ⟨g, 0, none⟩) n cap) n xs) (u : Value) : (w.setCell ⟨g, i, none⟩ u).ownsRow base e size (.slice (some ⟨g, 0, none⟩) n cap) n (xs.set i u) := by
  refine ⟨by rw [List.length_set]; exact ho.1, ?_⟩
  rcases ho.2 with ⟨h, _⟩ | ⟨g', cap', cur, h, hb, hg, hn, hm, hs, ht⟩
  · cases h
  · cases h
    refine .inr ⟨g, cap, cur.setIfInBounds i u, rfl, hb, set_same hg u, hn, hm, by simpa using hs, ?_⟩
    rw [Array.toList_setIfInBounds, List.take_set, ht]
/-- A cell of an entry is set. -/
theorem RF.setE {w : World} {base r gL cL k q : Nat} {vv u : Value} {S : RS} {y y' : RE} (h : RF w base r vv (.slice (some ⟨gL, 0, none⟩) S.L.length cL) S) (hy : S.L[k]? = some y) (hq : q < 5) (hc : reCells y' = (reCells y).set q u) : RF (w.setCell ⟨gL, k * 5 + q, none⟩ u) base r vv (.slice (some ⟨gL, 0, none⟩) S.L.length cL) { S with L := S.L.set k y' } ∧ Fr base w (w.setCell ⟨gL, k * 5 + q, none⟩ u) := by
  have ho : Only (fun j => j = gL) w (w.setCell ⟨gL, k * 5 + q, none⟩ u) := Only.setCell w ⟨gL, k * 5 + q, none⟩ u rfl
  have hne := h.ne
  obtain ⟨hb, cur, hg⟩ := own_tag h.row (g := gL) rfl
  refine ⟨⟨h.lo, (ho.block r (block_lt h.cell) (fun e => hne.1 (by rw [e]; rfl))).trans h.cell, ?_, ho.owns h.vrow (fun g hg' e => hne.2.2 g hg' (by rw [e]; rfl))⟩, Only.weak ho (fun j _ hj => by rw [hj]; exact ⟨hb, _, _, _, hg, .inr (.inl rfl)⟩)⟩
  show (w.setCell ⟨gL, k * 5 + q, none⟩ u).ownsRow base 68 5 (.slice (some ⟨gL, 0, none⟩) S.L.length cL) (S.L.set k y').length (rows (S.L.set k y'))
  rw [List.length_set, rows_set S.L k y y' q u hy hq hc]
  exact own_set h.row u
/-- A number of the struct is set. -/
theorem RF.setR {w : World} {base r q : Nat} {vv lv u : Value} {S S' : RS} (h : RF w base r vv lv S) (hS : S'.L = S.L ∧ S'.V = S.V) (hc : #[vv, .int .i64 (S.room : Nat), lv, .int .i64 (S.time : Nat), .int .i64 (S.hit : Nat), .int .i64 (S.miss : Nat), .int .i64 (S.outs : Nat)].setIfInBounds q u = #[vv, .int .i64 (S'.room : Nat), lv, .int .i64 (S'.time : Nat), .int .i64 (S'.hit : Nat), .int .i64 (S'.miss : Nat), .int .i64 (S'.outs : Nat)]) :
    RF (w.setCell ⟨r, q, none⟩ u) base r vv lv S' ∧ Fr base w (w.setCell ⟨r, q, none⟩ u) := by
  have ho : Only (fun j => j = r) w (w.setCell ⟨r, q, none⟩ u) := Only.setCell w ⟨r, q, none⟩ u rfl
  have hne := h.ne
  refine ⟨⟨h.lo, by rw [set_same h.cell, hc], ?_, ?_⟩, Only.weak ho (fun j _ hj => by rw [hj]; exact ⟨h.lo, _, _, _, h.cell, .inl rfl⟩)⟩
  · rw [hS.1]; exact ho.owns h.row (fun g hg e => hne.1 (by rw [hg, e]))
  · rw [hS.2]; exact ho.owns h.vrow (fun g hg e => hne.2.1 (by rw [hg, e]))

set_option maxRecDepth 8000 in
set_option maxHeartbeats 4000000 in
theorem use_reg12 {Q : Exit → Act → World → Prop} {base : Array Value} {d : List Deferred} {ops : Array Oper} (hops : Tryz.f30.body.bind (regs 12) = some ops) (r k nL cL gL tm : Nat) (yv : Value) (w1 : World) (hsz : base.size = 68)
    (b0 : base.getD 0 undef = .pointer (some ⟨r, 0, none⟩)) (b9 : base.getD 9 undef = .int .i64 (k : Nat))
    (c2 : w1.cell? ⟨r, 2, none⟩ = some (.slice (some ⟨gL, 0, none⟩) nL cL)) (c3 : w1.cell? ⟨r, 3, none⟩ = some (.int .i64 (tm : Nat))) (hk : k < nL) (cy : w1.cell? ⟨gL, k * 5 + 2, none⟩ = some yv) (hg : ∃ cur, w1.heap[gL]? = some (.cells cur 68 (0, 0))) (nr : ¬ r = gL)
    (hQ : ∀ W0, Below w1.heap.size w1 W0 → Q .normal ⟨putAll base [(some 56, .pointer (some ⟨r, 0, none⟩)), (some 57, .pointer (some ⟨r, 0, none⟩)), (some 58, .pointer (some ⟨r, 2, none⟩)), (some 59, .slice (some ⟨gL, 0, none⟩) nL cL), (some 60, .int .i64 (k : Nat)), (some 61, .pointer (some ⟨r, 0, none⟩)), (some 62, .pointer (some ⟨r, 0, none⟩)), (some 63, .pointer (some ⟨r, 3, none⟩)), (some 64, .int .i64 (tm : Nat)), (some 65, .pointer (some ⟨gL, k * 5, none⟩)), (some 66, .pointer (some ⟨gL, k * 5 + 2, none⟩)), (none, undef)], d⟩ (W0.setCell ⟨gL, k * 5 + 2, none⟩ (.int .i64 (tm : Nat)))) :
    (Code.region 12 ops true).wp Tryz.prog Q ⟨base, d⟩ w1 := by
  have hmix : Tryz.prog.follows .mixedOrders = true := by kernel_rfl
  have h2 := (show Tryz.f30.body.bind (regs 12) = some _ from rfl).symm.trans hops
  obtain rfl := Option.some.inj h2
  clear h2 hops
  have below1 : Below w1.heap.size w1 w1.drew := (Below.refl _ _).drew
  obtain ⟨LL, hLe⟩ : ∃ LL : Unit → List (Option Tmp × Value), LL = fun _ => [(some 56, .pointer (some ⟨r, 0, none⟩)), (some 57, .pointer (some ⟨r, 0, none⟩)), (some 58, .pointer (some ⟨r, 2, none⟩)), (some 59, .slice (some ⟨gL, 0, none⟩) nL cL), (some 60, .int .i64 (k : Nat)), (some 61, .pointer (some ⟨r, 0, none⟩)), (some 62, .pointer (some ⟨r, 0, none⟩)), (some 63, .pointer (some ⟨r, 3, none⟩)), (some 64, .int .i64 (tm : Nat)), (some 65, .pointer (some ⟨gL, k * 5, none⟩)), (some 66, .pointer (some ⟨gL, k * 5 + 2, none⟩)), (none, undef)] := ⟨_, rfl⟩
  have vv0 : ∀ g, vals (LL g) 0 = .pointer (some ⟨r, 0, none⟩) := fun g => by rw [hLe]; rfl
  have vv1 : ∀ g, vals (LL g) 1 = .pointer (some ⟨r, 0, none⟩) := fun g => by rw [hLe]; rfl
  have vv2 : ∀ g, vals (LL g) 2 = .pointer (some ⟨r, 2, none⟩) := fun g => by rw [hLe]; rfl
  have vv3 : ∀ g, vals (LL g) 3 = .slice (some ⟨gL, 0, none⟩) nL cL := fun g => by rw [hLe]; rfl
  have vv4 : ∀ g, vals (LL g) 4 = .int .i64 (k : Nat) := fun g => by rw [hLe]; rfl
  have vv5 : ∀ g, vals (LL g) 5 = .pointer (some ⟨r, 0, none⟩) := fun g => by rw [hLe]; rfl
  have vv6 : ∀ g, vals (LL g) 6 = .pointer (some ⟨r, 0, none⟩) := fun g => by rw [hLe]; rfl
  have vv7 : ∀ g, vals (LL g) 7 = .pointer (some ⟨r, 3, none⟩) := fun g => by rw [hLe]; rfl
  have vv8 : ∀ g, vals (LL g) 8 = .int .i64 (tm : Nat) := fun g => by rw [hLe]; rfl
  have vv9 : ∀ g, vals (LL g) 9 = .pointer (some ⟨gL, k * 5, none⟩) := fun g => by rw [hLe]; rfl
  have vv10 : ∀ g, vals (LL g) 10 = .pointer (some ⟨gL, k * 5 + 2, none⟩) := fun g => by rw [hLe]; rfl
  have vv11 : ∀ g, vals (LL g) 11 = undef := fun g => by rw [hLe]; rfl
  refine region_laidg hmix (by kernel_rfl) 68 hsz (by kernel_rfl) () LL (fun g => by rw [hLe]; rfl) (fun _ b W => Only (fun k => k = gL ∧ b 11 = true) w1 W ∧ (b 11 = true → ∃ W0, Below w1.heap.size w1 W0 ∧ W = W0.setCell ⟨gL, k * 5 + 2, none⟩ (.int .i64 (tm : Nat))) ∧ (b 11 = false → Below w1.heap.size w1 W)) ⟨only_below below1 _, fun h => (by cases h), fun _ => below1⟩ ?_ ?_
  · intro g b W io o a hS hcl ho hb hd ev kp yl
    match io with
    | 0 =>
      simp only [List.getElem?_toArray, List.getElem?_cons_zero, Option.some.injEq] at ho
      subst ho
      have e0 : a.tmps[0]?.getD undef = .pointer (some ⟨r, 0, none⟩) := (kp 0 (none_till (by kernel_rfl))).trans b0
      refine doesg_value rfl (by intro c h; cases h) (v := .pointer (some ⟨r, 0, none⟩)) (w' := W) ?_ ⟨g, fun _ _ => rfl, (vv0 g).symm, ?_⟩
      · simp [execOp, go_sem, e0]
      · simpa [did] using hS
    | 1 =>
      simp only [List.getElem?_toArray, List.getElem?_cons_zero, List.getElem?_cons_succ, Option.some.injEq] at ho
      subst ho
      have p0 : b 0 = true := hd ⟨0, .data⟩ (by simp) rfl
      have e56 := (ev 0 56 rfl p0).trans (vv0 g)
      refine doesg_value rfl (by intro c h; cases h) (v := .pointer (some ⟨r, 0, none⟩)) (w' := W) ?_ ⟨g, fun _ _ => rfl, (vv1 g).symm, ?_⟩
      · simp [execOp, go_sem, e56]
      · simpa [did] using hS
    | 2 =>
      simp only [List.getElem?_toArray, List.getElem?_cons_zero, List.getElem?_cons_succ, Option.some.injEq] at ho
      subst ho
      have p1 : b 1 = true := hd ⟨1, .data⟩ (by simp) rfl
      have e57 := (ev 1 57 rfl p1).trans (vv1 g)
      refine doesg_value rfl (by intro c h; cases h) (v := .pointer (some ⟨r, 2, none⟩)) (w' := W) ?_ ⟨g, fun _ _ => rfl, (vv2 g).symm, ?_⟩
      · simp [execOp, go_sem, e57]
      · simpa [did] using hS
    | 3 =>
      simp only [List.getElem?_toArray, List.getElem?_cons_zero, List.getElem?_cons_succ, Option.some.injEq] at ho
      subst ho
      have p2 : b 2 = true := hd ⟨2, .data⟩ (by simp) rfl
      have e58 := (ev 2 58 rfl p2).trans (vv2 g)
      have hl := hS.1.cell c2 (by rintro ⟨e, _⟩; exact nr e)
      refine doesg_value rfl (by intro c h; cases h) (v := .slice (some ⟨gL, 0, none⟩) nL cL) (w' := W) ?_ ⟨g, fun _ _ => rfl, (vv3 g).symm, ?_⟩
      · simp [execOp, go_sem, e58, hl]
      · simpa [did] using hS
    | 4 =>
      simp only [List.getElem?_toArray, List.getElem?_cons_zero, List.getElem?_cons_succ, Option.some.injEq] at ho
      subst ho
      have e9 : a.tmps[9]?.getD undef = .int .i64 (k : Nat) := (kp 9 (none_till (by kernel_rfl))).trans b9
      refine doesg_value rfl (by intro c h; cases h) (v := .int .i64 (k : Nat)) (w' := W) ?_ ⟨g, fun _ _ => rfl, (vv4 g).symm, ?_⟩
      · simp [execOp, go_sem, e9]
      · simpa [did] using hS
    | 5 =>
      simp only [List.getElem?_toArray, List.getElem?_cons_zero, List.getElem?_cons_succ, Option.some.injEq] at ho
      subst ho
      have e0 : a.tmps[0]?.getD undef = .pointer (some ⟨r, 0, none⟩) := (kp 0 (none_till (by kernel_rfl))).trans b0
      refine doesg_value rfl (by intro c h; cases h) (v := .pointer (some ⟨r, 0, none⟩)) (w' := W) ?_ ⟨g, fun _ _ => rfl, (vv5 g).symm, ?_⟩
      · simp [execOp, go_sem, e0]
      · simpa [did] using hS
    | 6 =>
      simp only [List.getElem?_toArray, List.getElem?_cons_zero, List.getElem?_cons_succ, Option.some.injEq] at ho
      subst ho
      have p5 : b 5 = true := hd ⟨5, .data⟩ (by simp) rfl
      have e61 := (ev 5 61 rfl p5).trans (vv5 g)
      refine doesg_value rfl (by intro c h; cases h) (v := .pointer (some ⟨r, 0, none⟩)) (w' := W) ?_ ⟨g, fun _ _ => rfl, (vv6 g).symm, ?_⟩
      · simp [execOp, go_sem, e61]
      · simpa [did] using hS
    | 7 =>
      simp only [List.getElem?_toArray, List.getElem?_cons_zero, List.getElem?_cons_succ, Option.some.injEq] at ho
      subst ho
      have p6 : b 6 = true := hd ⟨6, .data⟩ (by simp) rfl
      have e62 := (ev 6 62 rfl p6).trans (vv6 g)
      refine doesg_value rfl (by intro c h; cases h) (v := .pointer (some ⟨r, 3, none⟩)) (w' := W) ?_ ⟨g, fun _ _ => rfl, (vv7 g).symm, ?_⟩
      · simp [execOp, go_sem, e62]
      · simpa [did] using hS
    | 8 =>
      simp only [List.getElem?_toArray, List.getElem?_cons_zero, List.getElem?_cons_succ, Option.some.injEq] at ho
      subst ho
      have p7 : b 7 = true := hd ⟨7, .data⟩ (by simp) rfl
      have e63 := (ev 7 63 rfl p7).trans (vv7 g)
      have hl := hS.1.cell c3 (by rintro ⟨e, _⟩; exact nr e)
      refine doesg_value rfl (by intro c h; cases h) (v := .int .i64 (tm : Nat)) (w' := W) ?_ ⟨g, fun _ _ => rfl, (vv8 g).symm, ?_⟩
      · simp [execOp, go_sem, e63, hl]
      · simpa [did] using hS
    | 9 =>
      simp only [List.getElem?_toArray, List.getElem?_cons_zero, List.getElem?_cons_succ, Option.some.injEq] at ho
      subst ho
      have p3 : b 3 = true := hd ⟨3, .data⟩ (by simp) rfl
      have p4 : b 4 = true := hd ⟨4, .data⟩ (by simp) rfl
      have e59 := (ev 3 59 rfl p3).trans (vv3 g)
      have e60 := (ev 4 60 rfl p4).trans (vv4 g)
      refine doesg_value rfl (by intro c h; cases h) (v := .pointer (some ⟨gL, k * 5, none⟩)) (w' := W) ?_ ⟨g, fun _ _ => rfl, (vv9 g).symm, ?_⟩
      · simp [execOp, go_sem, e59, e60, hk]
      · simpa [did] using hS
    | 10 =>
      simp only [List.getElem?_toArray, List.getElem?_cons_zero, List.getElem?_cons_succ, Option.some.injEq] at ho
      subst ho
      have p9 : b 9 = true := hd ⟨9, .data⟩ (by simp) rfl
      have e65 := (ev 9 65 rfl p9).trans (vv9 g)
      refine doesg_value rfl (by intro c h; cases h) (v := .pointer (some ⟨gL, k * 5 + 2, none⟩)) (w' := W) ?_ ⟨g, fun _ _ => rfl, (vv10 g).symm, ?_⟩
      · simp [execOp, go_sem, e65]
      · simpa [did] using hS
    | 11 =>
      simp only [List.getElem?_toArray, List.getElem?_cons_zero, List.getElem?_cons_succ, Option.some.injEq] at ho
      subst ho
      have p10 : b 10 = true := hd ⟨10, .data⟩ (by simp) rfl
      have p8 : b 8 = true := hd ⟨8, .data⟩ (by simp) rfl
      have e66 := (ev 10 66 rfl p10).trans (vv10 g)
      have e64 := (ev 8 64 rfl p8).trans (vv8 g)
      have hbl := hS.2.2 hb
      have hy : W.cell? ⟨gL, k * 5 + 2, none⟩ = some yv := (hbl.cell (p := ⟨gL, k * 5 + 2, none⟩) (cell_lt cy)).trans cy
      have hf : W.frozen? ⟨gL, k * 5 + 2, none⟩ = false := by
        obtain ⟨cur, hcur⟩ := hg
        exact frozenOf ((hbl.block gL (block_lt hcur)).trans hcur) _
      refine doesg_skip rfl (by intro c h; cases h) (w' := W.setCell ⟨gL, k * 5 + 2, none⟩ (.int .i64 (tm : Nat))) ?_ ⟨g, fun _ _ => rfl, (vv11 g).symm, ?_⟩
      · simp [execOp, go_sem, e64, e66, hy, hf]
      · refine ⟨((only_below hbl (fun k => k = gL)).next (Only.setCell W ⟨gL, k * 5 + 2, none⟩ _ rfl)).weak (fun q _ hq => ⟨hq, by simp [did]⟩), fun _ => ⟨W, hbl, rfl⟩, fun h => ?_⟩
        simp [did] at h
    | k + 12 => simp at ho
  · intro g b W hS hall
    obtain ⟨_, h2, _⟩ := hS
    obtain ⟨W0, h3, rfl⟩ := h2 (hall 11 (by decide))
    subst hLe
    exact hQ W0 h3

end Go.Proofs.YtlcojcldbdikgaaGreatDoor.Rc
