/-
  CacheAll's law: the document's volume is made, block by block.
-/
import Derived.Test.YtlcojcldbdikgaaGreatDoorSp
import Derived.Maps.AppendAt
namespace Go.Proofs.YtlcojcldbdikgaaGreatDoor.Rc
open Go.RowKit Go.Maps

theorem bytesInfo : ∃ i, Tryz.prog.info? 33 = some i ∧ i.zero = some (.slice none 0 0) ∧ i.size = 1 ∧ i.bytes = 24 := by
  have e : (Tryz.prog.info? 33).map (fun i => (i.zero, i.size, i.bytes)) = some (some (.slice none 0 0), 1, 24) := by kernel_rfl
  obtain ⟨i, hi, he⟩ := Option.map_eq_some_iff.1 e
  injection he with h1 h2
  injection h2 with h2 h3
  exact ⟨i, hi, h1, h2, h3⟩
def zero512 : Array Value := (List.replicate 512 (.int .u8 0)).toArray
theorem make512 (w : World) : (Instr.makeSlice 33 (.int .i64 512) (.int .i64 512)).run Tryz.prog w = .ok (.slice (some ⟨w.heap.size, 0, none⟩) 512 512) (w.alloc (.cells zero512 5)) := by
  obtain ⟨i0, hi0, hz0, hz1, hz2⟩ := byteInfo
  have := run_make (P := Tryz.prog) w 33 5 i0 (.int .u8 0) Tryz.underlying33 hi0 hz0 .i64 .i64 512 512 (by omega) (Int.le_refl _) (by rw [hz2]; omega) (by omega)
  rw [this, hz1, show (Value.int .u8 0).cells = #[Value.int .u8 0] from rfl]
  unfold zero512
  rw [← toList_madeCells_one]
  rfl

set_option maxRecDepth 8000 in
set_option maxHeartbeats 4000000 in
theorem law_reg16 {Q : Exit → Act → World → Prop} {base : Array Value} {d : List Deferred} {ops : Array Oper} (hops : Tryz.f3.body.bind (regs 16) = some ops) (r nV cV lo : Nat) (pV : Option Addr) (cs : Array Value) (xs : List Value) (w1 : World) (hsz : base.size = 216)
    (b10 : base.getD 10 undef = .pointer (some ⟨r, 0, none⟩))
    (hcs : w1.heap[r]? = some (.cells cs 32 (0, 0))) (hc0 : cs[0]? = some (.slice pV nV cV)) (hR : w1.ownsRow lo 33 1 (.slice pV nV cV) nV xs) (hsm : nV ≤ 100000) (hlo : lo ≤ w1.heap.size) (nVr : ¬ (.slice pV nV cV : Value).ownBlock = some r)
    (hQ : ∀ g W q, Only (fun k => (.slice pV nV cV : Value).ownBlock = some k ∨ k = r) w1 W → g.1 = .slice (some ⟨q, 0, none⟩) 512 512 → w1.heap.size ≤ q → W.heap[q]? = some (.cells zero512 5 (0, 0)) → W.ownsRow lo 33 1 g.2.2 (nV + 1) (xs ++ [g.1]) → W.heap[r]? = some (.cells (cs.setIfInBounds 0 g.2.2) 32 (0, 0)) → (g.2.2.ownBlock = (.slice pV nV cV : Value).ownBlock ∨ ∃ q, g.2.2.ownBlock = some q ∧ w1.heap.size ≤ q) → Q .normal ⟨putAll base ((fun g : Value × Value × Value => [(some 67, .pointer (some ⟨r, 0, none⟩)), (some 68, .pointer (some ⟨r, 0, none⟩)), (some 69, .pointer (some ⟨r, 0, none⟩)), (some 70, .pointer (some ⟨r, 0, none⟩)), (some 71, .slice pV nV cV), (some 72, g.1), (some 73, g.2.1), (some 74, g.2.2), (some 75, .pointer (some ⟨r, 0, none⟩)), (some 76, .pointer (some ⟨r, 0, none⟩)), (none, undef)]) g), d⟩ W) :
    (Code.region 16 ops true).wp Tryz.prog Q ⟨base, d⟩ w1 := by
  have hmix : Tryz.prog.follows .mixedOrders = true := by kernel_rfl
  have h2 := (show Tryz.f3.body.bind (regs 16) = some _ from rfl).symm.trans hops
  obtain rfl := Option.some.inj h2
  clear h2 hops
  have below1 : Below w1.heap.size w1 w1.drew := (Below.refl _ _).drew
  obtain ⟨i0, hi, hz0, hz1, hz2⟩ := bytesInfo
  have hu : Tryz.prog.underlying 29 = some (.slice 33) := Tryz.underlying29
  have c0 : w1.cell? ⟨r, 0, none⟩ = some (.slice pV nV cV) := by rw [cellOf hcs]; exact hc0
  obtain ⟨LL, hLe⟩ : ∃ LL : Value × Value × Value → List (Option Tmp × Value), LL = fun g : Value × Value × Value => [(some 67, .pointer (some ⟨r, 0, none⟩)), (some 68, .pointer (some ⟨r, 0, none⟩)), (some 69, .pointer (some ⟨r, 0, none⟩)), (some 70, .pointer (some ⟨r, 0, none⟩)), (some 71, .slice pV nV cV), (some 72, g.1), (some 73, g.2.1), (some 74, g.2.2), (some 75, .pointer (some ⟨r, 0, none⟩)), (some 76, .pointer (some ⟨r, 0, none⟩)), (none, undef)] := ⟨_, rfl⟩
  have vv0 : ∀ g, vals (LL g) 0 = .pointer (some ⟨r, 0, none⟩) := fun g => by rw [hLe]; rfl
  have vv1 : ∀ g, vals (LL g) 1 = .pointer (some ⟨r, 0, none⟩) := fun g => by rw [hLe]; rfl
  have vv2 : ∀ g, vals (LL g) 2 = .pointer (some ⟨r, 0, none⟩) := fun g => by rw [hLe]; rfl
  have vv3 : ∀ g, vals (LL g) 3 = .pointer (some ⟨r, 0, none⟩) := fun g => by rw [hLe]; rfl
  have vv4 : ∀ g, vals (LL g) 4 = .slice pV nV cV := fun g => by rw [hLe]; rfl
  have vv5 : ∀ g, vals (LL g) 5 = g.1 := fun g => by rw [hLe]; rfl
  have vv6 : ∀ g, vals (LL g) 6 = g.2.1 := fun g => by rw [hLe]; rfl
  have vv7 : ∀ g, vals (LL g) 7 = g.2.2 := fun g => by rw [hLe]; rfl
  have vv8 : ∀ g, vals (LL g) 8 = .pointer (some ⟨r, 0, none⟩) := fun g => by rw [hLe]; rfl
  have vv9 : ∀ g, vals (LL g) 9 = .pointer (some ⟨r, 0, none⟩) := fun g => by rw [hLe]; rfl
  have vv10 : ∀ g, vals (LL g) 10 = undef := fun g => by rw [hLe]; rfl
  refine region_laidg hmix (by kernel_rfl) 216 hsz (by kernel_rfl) (.slice none 0 0, .slice none 0 0, .slice none 0 0) LL (fun g => by rw [hLe]; rfl) (fun g b W => Only (fun k => ((.slice pV nV cV : Value).ownBlock = some k ∧ b 7 = true) ∨ (k = r ∧ b 10 = true)) w1 W ∧ (b 5 = true → ∃ q, g.1 = .slice (some ⟨q, 0, none⟩) 512 512 ∧ w1.heap.size ≤ q ∧ W.heap[q]? = some (.cells zero512 5 (0, 0))) ∧ (b 6 = true → ∃ q, g.2.1 = .slice (some ⟨q, 0, none⟩) 1 1 ∧ w1.heap.size ≤ q ∧ W.heap[q]? = some (.cells #[g.1] 33 (0, 0))) ∧ (b 7 = true → W.ownsRow lo 33 1 g.2.2 (nV + 1) (xs ++ [g.1]) ∧ (g.2.2.ownBlock = (.slice pV nV cV : Value).ownBlock ∨ ∃ q, g.2.2.ownBlock = some q ∧ w1.heap.size ≤ q)) ∧ (b 10 = true → W.heap[r]? = some (.cells (cs.setIfInBounds 0 g.2.2) 32 (0, 0))) ∧ (b 7 = false → b 10 = false) ∧ (b 6 = false → b 7 = false) ∧ (b 5 = false → b 6 = false)) ⟨only_below below1 _, fun h => (by cases h), fun h => (by cases h), fun h => (by cases h), fun h => (by cases h), fun _ => rfl, fun _ => rfl, fun _ => rfl⟩ ?_ ?_
  · intro g b W io o a hS hcl ho hb hd ev kp yl
    match io with
    | 0 =>
      simp only [List.getElem?_toArray, List.getElem?_cons_zero, Option.some.injEq] at ho
      subst ho
      have e10 : a.tmps[10]?.getD undef = .pointer (some ⟨r, 0, none⟩) := (kp 10 (none_till (by kernel_rfl))).trans b10
      refine doesg_value rfl (by intro c h; cases h) (v := .pointer (some ⟨r, 0, none⟩)) (w' := W) ?_ ⟨g, fun _ _ => rfl, (vv0 g).symm, ?_⟩
      · simp [execOp, go_sem, e10]
      · simpa [did] using hS
    | 1 =>
      simp only [List.getElem?_toArray, List.getElem?_cons_zero, List.getElem?_cons_succ, Option.some.injEq] at ho
      subst ho
      have e10 : a.tmps[10]?.getD undef = .pointer (some ⟨r, 0, none⟩) := (kp 10 (none_till (by kernel_rfl))).trans b10
      refine doesg_value rfl (by intro c h; cases h) (v := .pointer (some ⟨r, 0, none⟩)) (w' := W) ?_ ⟨g, fun _ _ => rfl, (vv1 g).symm, ?_⟩
      · simp [execOp, go_sem, e10]
      · simpa [did] using hS
    | 2 =>
      simp only [List.getElem?_toArray, List.getElem?_cons_zero, List.getElem?_cons_succ, Option.some.injEq] at ho
      subst ho
      have p1 : b 1 = true := hd ⟨1, .data⟩ (by simp) rfl
      have e68 := (ev 1 68 rfl p1).trans (vv1 g)
      refine doesg_value rfl (by intro c h; cases h) (v := .pointer (some ⟨r, 0, none⟩)) (w' := W) ?_ ⟨g, fun _ _ => rfl, (vv2 g).symm, ?_⟩
      · simp [execOp, go_sem, e68]
      · simpa [did] using hS
    | 3 =>
      simp only [List.getElem?_toArray, List.getElem?_cons_zero, List.getElem?_cons_succ, Option.some.injEq] at ho
      subst ho
      have p2 : b 2 = true := hd ⟨2, .data⟩ (by simp) rfl
      have e69 := (ev 2 69 rfl p2).trans (vv2 g)
      refine doesg_value rfl (by intro c h; cases h) (v := .pointer (some ⟨r, 0, none⟩)) (w' := W) ?_ ⟨g, fun _ _ => rfl, (vv3 g).symm, ?_⟩
      · simp [execOp, go_sem, e69]
      · simpa [did] using hS
    | 4 =>
      simp only [List.getElem?_toArray, List.getElem?_cons_zero, List.getElem?_cons_succ, Option.some.injEq] at ho
      subst ho
      have p3 : b 3 = true := hd ⟨3, .data⟩ (by simp) rfl
      have e70 := (ev 3 70 rfl p3).trans (vv3 g)
      have qST : b 10 = false := by cases hq : b 10 with | false => rfl | true => (exfalso; have q7 := hcl 10 _ rfl hq ⟨7, .data⟩ (by simp) rfl; have q4 := hcl 7 _ rfl q7 ⟨4, .data⟩ (by simp) rfl; rw [hb] at q4; cases q4)
      have hl := hS.1.cell c0 (by rintro (⟨e, _⟩ | ⟨_, e⟩); exact nVr e; rw [qST] at e; cases e)
      refine doesg_value rfl (by intro c h; cases h) (v := .slice pV nV cV) (w' := W) ?_ ⟨g, fun _ _ => rfl, (vv4 g).symm, ?_⟩
      · simp [execOp, go_sem, e70, hl]
      · simpa [did] using hS
    | 5 =>
      simp only [List.getElem?_toArray, List.getElem?_cons_zero, List.getElem?_cons_succ, Option.some.injEq] at ho
      subst ho
      have hoF : Only (fun _ => False) W (W.alloc (.cells zero512 5)) := only_below ((Below.refl _ W).alloc (Nat.le_refl _) _) _
      have qBU := hS.2.2.2.2.2.2.2 hb
      have qAP := hS.2.2.2.2.2.2.1 qBU
      have qST := hS.2.2.2.2.2.1 qAP
      refine doesg_value rfl (by intro c h; cases h) (v := .slice (some ⟨W.heap.size, 0, none⟩) 512 512) (w' := W.alloc (.cells zero512 5)) ?_ ⟨(.slice (some ⟨W.heap.size, 0, none⟩) 512 512, g.2), fun j hj => ?_, (vv5 (.slice (some ⟨W.heap.size, 0, none⟩) 512 512, g.2)).symm, ?_⟩
      · simp [execOp, go_sem, make512]
      · match j, hj with | 0, _ => rw [vv0, vv0] | 1, _ => rw [vv1, vv1] | 2, _ => rw [vv2, vv2] | 3, _ => rw [vv3, vv3] | 4, _ => rw [vv4, vv4] | 5, h => rw [hb] at h; cases h | 6, _ => rw [vv6, vv6] | 7, _ => rw [vv7, vv7] | 8, _ => rw [vv8, vv8] | 9, _ => rw [vv9, vv9] | 10, _ => rw [vv10, vv10] | k + 11, _ => rw [hLe]; rfl
      · refine ⟨(hS.1.trans hoF (fun _ f => f.elim)).weak (fun k _ hk => hk.imp (fun h => ⟨h.1, by simpa [did] using h.2⟩) (fun h => ⟨h.1, by simpa [did] using h.2⟩)), fun _ => ⟨W.heap.size, rfl, hS.1.size, heap_alloc_new W _⟩, fun h => ?_, fun h => ?_, fun h => ?_, fun _ => by simpa [did] using qST, fun _ => by simpa [did] using qAP, fun h => by simp [did] at h⟩
        · simp [did, qBU] at h
        · simp [did, qAP] at h
        · simp [did, qST] at h
    | 6 =>
      simp only [List.getElem?_toArray, List.getElem?_cons_zero, List.getElem?_cons_succ, Option.some.injEq] at ho
      subst ho
      have p5 : b 5 = true := hd ⟨5, .data⟩ (by simp) rfl
      have e72 := (ev 5 72 rfl p5).trans (vv5 g)
      obtain ⟨q0, e1, hq1, hq2⟩ := hS.2.1 p5
      have qAP := hS.2.2.2.2.2.2.1 hb
      have qST := hS.2.2.2.2.2.1 qAP
      have hoF : Only (fun _ => False) W (W.alloc (.cells #[g.1] 33)) := only_below ((Below.refl _ W).alloc (Nat.le_refl _) _) _
      refine doesg_value rfl (by intro c h; cases h) (v := .slice (some ⟨W.heap.size, 0, none⟩) 1 1) (w' := W.alloc (.cells #[g.1] 33)) ?_ ⟨(g.1, .slice (some ⟨W.heap.size, 0, none⟩) 1 1, g.2.2), fun j hj => ?_, (vv6 (g.1, .slice (some ⟨W.heap.size, 0, none⟩) 1 1, g.2.2)).symm, ?_⟩
      · rw [e1] at e72 ⊢; simp [execOp, go_sem, e72]
      · match j, hj with | 0, _ => rw [vv0, vv0] | 1, _ => rw [vv1, vv1] | 2, _ => rw [vv2, vv2] | 3, _ => rw [vv3, vv3] | 4, _ => rw [vv4, vv4] | 5, _ => rw [vv5, vv5] | 6, h => rw [hb] at h; cases h | 7, _ => rw [vv7, vv7] | 8, _ => rw [vv8, vv8] | 9, _ => rw [vv9, vv9] | 10, _ => rw [vv10, vv10] | k + 11, _ => rw [hLe]; rfl
      · refine ⟨(hS.1.trans hoF (fun _ f => f.elim)).weak (fun k _ hk => hk.imp (fun h => ⟨h.1, by simpa [did] using h.2⟩) (fun h => ⟨h.1, by simpa [did] using h.2⟩)), fun _ => ⟨q0, e1, hq1, (hoF.block q0 (block_lt hq2) (fun f => f)).trans hq2⟩, fun _ => ⟨W.heap.size, rfl, hS.1.size, heap_alloc_new W _⟩, fun h => ?_, fun h => ?_, fun _ => by simpa [did] using qST, fun h => by simp [did] at h, fun h => by simp [did, p5] at h⟩
        · simp [did, qAP] at h
        · simp [did, qST] at h
    | 7 =>
      simp only [List.getElem?_toArray, List.getElem?_cons_zero, List.getElem?_cons_succ, Option.some.injEq] at ho
      subst ho
      have p4 : b 4 = true := hd ⟨4, .data⟩ (by simp) rfl
      have p6 : b 6 = true := hd ⟨6, .data⟩ (by simp) rfl
      have e71 := (ev 4 71 rfl p4).trans (vv4 g)
      have e73 := (ev 6 73 rfl p6).trans (vv6 g)
      obtain ⟨q, e1, hq1, hq2⟩ := hS.2.2.1 p6
      have pMK : b 5 = true := hcl 6 _ rfl p6 ⟨5, .data⟩ (by simp) rfl
      obtain ⟨q0, e2, hq3, hq4⟩ := hS.2.1 pMK
      rw [e1] at e73
      have qST := hS.2.2.2.2.2.1 hb
      have hRW : W.ownsRow lo 33 1 (.slice pV nV cV) nV xs := hS.1.owns hR (by rintro k hk (⟨_, e⟩ | ⟨_, e⟩); rw [hb] at e; cases e; rw [qST] at e; cases e)
      obtain ⟨v2, W2, hr, hown, hgr, _, hat⟩ := run_append_own_at (P := Tryz.prog) W lo 29 29 33 i0 _ 1 24 hu hi hz0 hz1 hz2 rfl (by decide) (.slice pV nV cV) nV xs hRW ⟨q, 0, none⟩ 1 1 [g.1] rfl (fun j u hj => by rw [Addr.add_lit, Nat.zero_add, cellOf hq2]; simpa using hj) (by intro u hu; simp at hu; rw [hu, e2]; rfl) (by unfold maxLen; omega) (by omega) (Nat.le_trans hlo hS.1.size)
      have hoG := only_grown hgr
      have hnew : ∀ z, w1.heap.size ≤ z → ¬ (.slice pV nV cV : Value).ownBlock = some z := fun z hz e => by
        obtain ⟨_, cur, hcur⟩ := own_tag hR e
        have := block_lt hcur
        omega
      refine doesg_value rfl (by intro c h; cases h) (v := v2) (w' := W2) ?_ ⟨(g.1, g.2.1, v2), fun j hj => ?_, (vv7 (g.1, g.2.1, v2)).symm, ?_⟩
      · have hs71 := (show a.eval (.tmp 71) = a.tmps[71]?.getD undef by simp [Act.eval]).trans e71; have hs73 := (show a.eval (.tmp 73) = a.tmps[73]?.getD undef by simp [Act.eval]).trans e73; simp only [execOp, resolve, invoke, builtin, Sem.run_bind, Sem.run_pure, Result.andThen_ok, List.map_toArray, List.map_cons, List.map_nil, hs71, hs73, hr]
      · match j, hj with | 0, _ => rw [vv0, vv0] | 1, _ => rw [vv1, vv1] | 2, _ => rw [vv2, vv2] | 3, _ => rw [vv3, vv3] | 4, _ => rw [vv4, vv4] | 5, _ => rw [vv5, vv5] | 6, _ => rw [vv6, vv6] | 7, h => rw [hb] at h; cases h | 8, _ => rw [vv8, vv8] | 9, _ => rw [vv9, vv9] | 10, _ => rw [vv10, vv10] | k + 11, _ => rw [hLe]; rfl
      · refine ⟨(hS.1.weak (T := fun k => ((.slice pV nV cV : Value).ownBlock = some k ∧ did b 7 7 = true) ∨ (k = r ∧ did b 7 10 = true)) (fun k _ hk => hk.imp (fun h => ⟨h.1, by simp [did]⟩) (fun h => ⟨h.1, by simpa [did] using h.2⟩))).trans hoG (fun k hk => .inl (.inl ⟨hk, by simp [did]⟩)), fun h => ⟨q0, e2, hq3, (hoG.block q0 (block_lt hq4) (hnew q0 hq3)).trans hq4⟩, fun h => ⟨q, e1, hq1, (hoG.block q (block_lt hq2) (hnew q hq1)).trans hq2⟩, fun _ => ⟨hown, hat.imp id (fun e => ⟨_, e, hS.1.size⟩)⟩, fun h => ?_, fun h => ?_, fun h => ?_, fun h => ?_⟩
        · simp [did, qST] at h
        · simp [did] at h
        · simp [did, p6] at h
        · simp [did, pMK] at h
    | 8 =>
      simp only [List.getElem?_toArray, List.getElem?_cons_zero, List.getElem?_cons_succ, Option.some.injEq] at ho
      subst ho
      have p0 : b 0 = true := hd ⟨0, .data⟩ (by simp) rfl
      have e67 := (ev 0 67 rfl p0).trans (vv0 g)
      refine doesg_value rfl (by intro c h; cases h) (v := .pointer (some ⟨r, 0, none⟩)) (w' := W) ?_ ⟨g, fun _ _ => rfl, (vv8 g).symm, ?_⟩
      · simp [execOp, go_sem, e67]
      · simpa [did] using hS
    | 9 =>
      simp only [List.getElem?_toArray, List.getElem?_cons_zero, List.getElem?_cons_succ, Option.some.injEq] at ho
      subst ho
      have p8 : b 8 = true := hd ⟨8, .data⟩ (by simp) rfl
      have e75 := (ev 8 75 rfl p8).trans (vv8 g)
      refine doesg_value rfl (by intro c h; cases h) (v := .pointer (some ⟨r, 0, none⟩)) (w' := W) ?_ ⟨g, fun _ _ => rfl, (vv9 g).symm, ?_⟩
      · simp [execOp, go_sem, e75]
      · simpa [did] using hS
    | 10 =>
      simp only [List.getElem?_toArray, List.getElem?_cons_zero, List.getElem?_cons_succ, Option.some.injEq] at ho
      subst ho
      have p9 : b 9 = true := hd ⟨9, .data⟩ (by simp) rfl
      have p7 : b 7 = true := hd ⟨7, .data⟩ (by simp) rfl
      have e76 := (ev 9 76 rfl p9).trans (vv9 g)
      have e74 := (ev 7 74 rfl p7).trans (vv7 g)
      obtain ⟨hown, hat⟩ := hS.2.2.2.1 p7
      have pBU : b 6 = true := hcl 7 _ rfl p7 ⟨6, .data⟩ (by simp) rfl
      have pMK : b 5 = true := hcl 6 _ rfl pBU ⟨5, .data⟩ (by simp) rfl
      have hWr : W.heap[r]? = some (.cells cs 32 (0, 0)) := (hS.1.block r (block_lt hcs) (by rintro (⟨e, _⟩ | ⟨_, e⟩); exact nVr e; rw [hb] at e; cases e)).trans hcs
      obtain ⟨yv, hy⟩ : ∃ yv, W.cell? ⟨r, 0, none⟩ = some yv := ⟨_, by rw [cellOf hWr]; exact hc0⟩
      have hf := frozenOf hWr 0
      have hoB : Only (fun k => k = r) W (W.setCell ⟨r, 0, none⟩ g.2.2) := Only.setCell W ⟨r, 0, none⟩ _ rfl
      have hgr : g.2.2.ownBlock ≠ some r := fun e => by
        rcases hat with h | ⟨q, h, hq⟩
        · exact nVr (by rw [← h]; exact e)
        · rw [h] at e; injection e with e; have := block_lt hcs; omega
      refine doesg_skip rfl (by intro c h; cases h) (w' := W.setCell ⟨r, 0, none⟩ g.2.2) ?_ ⟨g, fun _ _ => rfl, (vv10 g).symm, ?_⟩
      · obtain ⟨p3, c3, e3, _⟩ := own_form hown
        rw [e3] at e74 ⊢
        simp [execOp, go_sem, e74, e76, hy, hf]
      · refine ⟨(hS.1.weak (T := fun k => ((.slice pV nV cV : Value).ownBlock = some k ∧ did b 10 7 = true) ∨ (k = r ∧ did b 10 10 = true)) (fun k _ hk => hk.imp (fun h => ⟨h.1, by simpa [did] using h.2⟩) (fun h => ⟨h.1, by simp [did]⟩))).trans hoB (fun k hk => .inl (.inr ⟨hk, by simp [did]⟩)), fun h => ?_, fun h => ?_, fun _ => ⟨hoB.owns hown (fun k hk e => hgr (by rw [hk, e])), hat⟩, fun _ => ?_, fun h => ?_, fun h => ?_, fun h => ?_⟩
        · obtain ⟨q, h1, h2, h3⟩ := hS.2.1 pMK
          exact ⟨q, h1, h2, (hoB.block q (block_lt h3) (fun e => by have := block_lt hcs; omega)).trans h3⟩
        · obtain ⟨q, h1, h2, h3⟩ := hS.2.2.1 pBU
          exact ⟨q, h1, h2, (hoB.block q (block_lt h3) (fun e => by have := block_lt hcs; omega)).trans h3⟩
        · rw [set_same hWr]
        · simp [did, p7] at h
        · simp [did, pBU] at h
        · simp [did, pMK] at h
    | k + 11 => simp at ho
  · intro g b W hS hall
    obtain ⟨h1, h2, _, h3, h4, _⟩ := hS
    obtain ⟨h5, h6⟩ := h3 (hall 7 (by decide))
    obtain ⟨q, h7, h8, h9⟩ := h2 (hall 5 (by decide))
    subst hLe
    exact hQ g W q (h1.weak (fun k _ hk => hk.imp And.left And.left)) h7 h8 h9 h5 (h4 (hall 10 (by decide))) h6

end Go.Proofs.YtlcojcldbdikgaaGreatDoor.Rc
