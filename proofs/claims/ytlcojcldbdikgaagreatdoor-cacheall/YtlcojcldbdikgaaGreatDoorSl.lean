/-
  The document's own cache: Put.
-/
import Derived.Test.YtlcojcldbdikgaaGreatDoorSk
namespace Go.Proofs.YtlcojcldbdikgaaGreatDoor.Rc
open Go.RowKit Go.Maps

attribute [local go_sem] Oper.semAt_some

theorem byteInfo : ∃ i, Tryz.prog.info? 5 = some i ∧ i.zero = some (.int .u8 0) ∧ i.size = 1 ∧ i.bytes = 1 := by
  have e : (Tryz.prog.info? 5).map (fun i => (i.zero, i.size, i.bytes)) = some (some (.int .u8 0), 1, 1) := by kernel_rfl
  obtain ⟨i, hi, he⟩ := Option.map_eq_some_iff.1 e
  injection he with h1 h2
  injection h2 with h2 h3
  exact ⟨i, hi, h1, h2, h3⟩
/-- A row of bytes of its own. -/
def BRow (w : World) (lo : Nat) (sv : SV) (bs : List (BitVec 8)) : Prop := ∃ q cs, sv.p = some ⟨q, 0, none⟩ ∧ sv.n = bs.length ∧ lo ≤ q ∧ w.heap[q]? = some (.cells cs 5 (0, 0)) ∧ Bytes w sv.p bs
theorem BRow.only {w w' : World} {lo : Nat} {sv : SV} {bs : List (BitVec 8)} {T : Nat → Prop} (h : BRow w lo sv bs) (ho : Only T w w') (hn : ∀ q cs, w.heap[q]? = some (.cells cs 5 (0, 0)) → ¬ T q) : BRow w' lo sv bs := by
  obtain ⟨q, cs, e1, e2, e3, e4, e5⟩ := h
  refine ⟨q, cs, e1, e2, e3, (ho.block q (block_lt e4) (hn q cs e4)).trans e4, fun hl => ?_⟩
  obtain ⟨b, o, e, hc⟩ := e5 hl
  refine ⟨b, o, e, fun j x hj => ho.cell (hc j x hj) ?_⟩
  rw [e1] at e
  injection e with e
  injection e with e _
  rw [← e]
  exact hn q cs e4

set_option maxRecDepth 8000 in
set_option maxHeartbeats 4000000 in
theorem put_reg5 {Q : Exit → Act → World → Prop} {base : Array Value} {d : List Deferred} {ops : Array Oper} (hops : Tryz.f15.body.bind (regs 5) = some ops) (r k nLn cL gL bn bc : Nat) (bp : Option Addr) (bs : List (BitVec 8)) (yv : Value) (w1 : World) (hsz : base.size = 50)
    (b0 : base.getD 0 undef = .pointer (some ⟨r, 0, none⟩)) (b7 : base.getD 7 undef = .int .i64 (k : Nat)) (b2 : base.getD 2 undef = .slice bp bn bc)
    (c2 : w1.cell? ⟨r, 2, none⟩ = some (.slice (some ⟨gL, 0, none⟩) nLn cL)) (hk : k < nLn) (hby : Bytes w1 bp bs) (hbn : bs.length = bn) (hb0 : 0 < bn) (hb1 : bn ≤ 100000) (cy : w1.cell? ⟨gL, k * 5 + 4, none⟩ = some yv) (hg : ∃ cur, w1.heap[gL]? = some (.cells cur 68 (0, 0))) (nr : ¬ r = gL)
    (hQ : ∀ g W0 sv, Below w1.heap.size w1 W0 → BRow W0 w1.heap.size sv bs → Q .normal ⟨putAll base ((fun g : Value => [(some 33, .pointer (some ⟨r, 0, none⟩)), (some 34, .pointer (some ⟨r, 0, none⟩)), (some 35, .pointer (some ⟨r, 2, none⟩)), (some 36, .slice (some ⟨gL, 0, none⟩) nLn cL), (some 37, .int .i64 (k : Nat)), (some 38, .slice bp bn bc), (some 39, g), (some 40, .pointer (some ⟨gL, k * 5, none⟩)), (some 41, .pointer (some ⟨gL, k * 5 + 4, none⟩)), (none, undef)]) g), d⟩ (W0.setCell ⟨gL, k * 5 + 4, none⟩ sv.val)) :
    (Code.region 5 ops true).wp Tryz.prog Q ⟨base, d⟩ w1 := by
  have hmix : Tryz.prog.follows .mixedOrders = true := by kernel_rfl
  have h2 := (show Tryz.f15.body.bind (regs 5) = some _ from rfl).symm.trans hops
  obtain rfl := Option.some.inj h2
  clear h2 hops
  have below1 : Below w1.heap.size w1 w1.drew := (Below.refl _ _).drew
  obtain ⟨i0, hi, hz0, hz1, hz2⟩ := byteInfo
  have hu : Tryz.prog.underlying 33 = some (.slice 5) := Tryz.underlying33
  obtain ⟨LL, hLe⟩ : ∃ LL : Value → List (Option Tmp × Value), LL = fun g : Value => [(some 33, .pointer (some ⟨r, 0, none⟩)), (some 34, .pointer (some ⟨r, 0, none⟩)), (some 35, .pointer (some ⟨r, 2, none⟩)), (some 36, .slice (some ⟨gL, 0, none⟩) nLn cL), (some 37, .int .i64 (k : Nat)), (some 38, .slice bp bn bc), (some 39, g), (some 40, .pointer (some ⟨gL, k * 5, none⟩)), (some 41, .pointer (some ⟨gL, k * 5 + 4, none⟩)), (none, undef)] := ⟨_, rfl⟩
  have vv0 : ∀ g, vals (LL g) 0 = .pointer (some ⟨r, 0, none⟩) := fun g => by rw [hLe]; rfl
  have vv1 : ∀ g, vals (LL g) 1 = .pointer (some ⟨r, 0, none⟩) := fun g => by rw [hLe]; rfl
  have vv2 : ∀ g, vals (LL g) 2 = .pointer (some ⟨r, 2, none⟩) := fun g => by rw [hLe]; rfl
  have vv3 : ∀ g, vals (LL g) 3 = .slice (some ⟨gL, 0, none⟩) nLn cL := fun g => by rw [hLe]; rfl
  have vv4 : ∀ g, vals (LL g) 4 = .int .i64 (k : Nat) := fun g => by rw [hLe]; rfl
  have vv5 : ∀ g, vals (LL g) 5 = .slice bp bn bc := fun g => by rw [hLe]; rfl
  have vv6 : ∀ g, vals (LL g) 6 = g := fun g => by rw [hLe]; rfl
  have vv7 : ∀ g, vals (LL g) 7 = .pointer (some ⟨gL, k * 5, none⟩) := fun g => by rw [hLe]; rfl
  have vv8 : ∀ g, vals (LL g) 8 = .pointer (some ⟨gL, k * 5 + 4, none⟩) := fun g => by rw [hLe]; rfl
  have vv9 : ∀ g, vals (LL g) 9 = undef := fun g => by rw [hLe]; rfl
  refine region_laidg hmix (by kernel_rfl) 50 hsz (by kernel_rfl) (.slice none 0 0) LL (fun g => by rw [hLe]; rfl) (fun g b W => Only (fun k => k = gL ∧ b 9 = true) w1 W ∧ (b 9 = true → ∃ W0, Below w1.heap.size w1 W0 ∧ (∃ sv : SV, g = sv.val ∧ BRow W0 w1.heap.size sv bs) ∧ W = W0.setCell ⟨gL, k * 5 + 4, none⟩ g) ∧ (b 9 = false → Below w1.heap.size w1 W) ∧ (b 6 = true → b 9 = false → (∃ sv : SV, g = sv.val ∧ BRow W w1.heap.size sv bs))) ⟨only_below below1 _, fun h => (by cases h), fun _ => below1, fun h => (by cases h)⟩ ?_ ?_
  · intro g b W io o a hS hcl ho hb hd ev kp yl
    match io with
    | 0 =>
      simp only [List.getElem?_toArray, List.getElem?_cons_zero, Option.some.injEq] at ho
      subst ho
      have e0 : a.tmps[0]?.getD undef = .pointer (some ⟨r, 0, none⟩) := (kp 0 (none_till (by kernel_rfl))).trans b0
      refine doesg_value rfl (by intro c h; cases h) (v := .pointer (some ⟨r, 0, none⟩)) (w' := W) ?_ ⟨g, fun _ _ => rfl, (vv0 g).symm, ?_⟩
      · simp [execOp, go_sem, e0]
      · simpa [did] using hS
    | 1 =>
      simp only [List.getElem?_toArray, List.getElem?_cons_zero, List.getElem?_cons_succ, Option.some.injEq] at ho
      subst ho
      have p0 : b 0 = true := hd ⟨0, .data⟩ (by simp) rfl
      have e33 := (ev 0 33 rfl p0).trans (vv0 g)
      refine doesg_value rfl (by intro c h; cases h) (v := .pointer (some ⟨r, 0, none⟩)) (w' := W) ?_ ⟨g, fun _ _ => rfl, (vv1 g).symm, ?_⟩
      · simp [execOp, go_sem, e33]
      · simpa [did] using hS
    | 2 =>
      simp only [List.getElem?_toArray, List.getElem?_cons_zero, List.getElem?_cons_succ, Option.some.injEq] at ho
      subst ho
      have p1 : b 1 = true := hd ⟨1, .data⟩ (by simp) rfl
      have e34 := (ev 1 34 rfl p1).trans (vv1 g)
      refine doesg_value rfl (by intro c h; cases h) (v := .pointer (some ⟨r, 2, none⟩)) (w' := W) ?_ ⟨g, fun _ _ => rfl, (vv2 g).symm, ?_⟩
      · simp [execOp, go_sem, e34]
      · simpa [did] using hS
    | 3 =>
      simp only [List.getElem?_toArray, List.getElem?_cons_zero, List.getElem?_cons_succ, Option.some.injEq] at ho
      subst ho
      have p2 : b 2 = true := hd ⟨2, .data⟩ (by simp) rfl
      have e35 := (ev 2 35 rfl p2).trans (vv2 g)
      have hl := hS.1.cell c2 (by rintro ⟨e, _⟩; exact nr e)
      refine doesg_value rfl (by intro c h; cases h) (v := .slice (some ⟨gL, 0, none⟩) nLn cL) (w' := W) ?_ ⟨g, fun _ _ => rfl, (vv3 g).symm, ?_⟩
      · simp [execOp, go_sem, e35, hl]
      · simpa [did] using hS
    | 4 =>
      simp only [List.getElem?_toArray, List.getElem?_cons_zero, List.getElem?_cons_succ, Option.some.injEq] at ho
      subst ho
      have e7 : a.tmps[7]?.getD undef = .int .i64 (k : Nat) := (kp 7 (none_till (by kernel_rfl))).trans b7
      refine doesg_value rfl (by intro c h; cases h) (v := .int .i64 (k : Nat)) (w' := W) ?_ ⟨g, fun _ _ => rfl, (vv4 g).symm, ?_⟩
      · simp [execOp, go_sem, e7]
      · simpa [did] using hS
    | 5 =>
      simp only [List.getElem?_toArray, List.getElem?_cons_zero, List.getElem?_cons_succ, Option.some.injEq] at ho
      subst ho
      have e2 : a.tmps[2]?.getD undef = .slice bp bn bc := (kp 2 (none_till (by kernel_rfl))).trans b2
      refine doesg_value rfl (by intro c h; cases h) (v := .slice bp bn bc) (w' := W) ?_ ⟨g, fun _ _ => rfl, (vv5 g).symm, ?_⟩
      · simp [execOp, go_sem, e2]
      · simpa [did] using hS
    | 6 =>
      simp only [List.getElem?_toArray, List.getElem?_cons_zero, List.getElem?_cons_succ, Option.some.injEq] at ho
      subst ho
      have p5 : b 5 = true := hd ⟨5, .data⟩ (by simp) rfl
      have e38 := (ev 5 38 rfl p5).trans (vv5 g)
      have qST : b 9 = false := by cases hq : b 9 with | false => rfl | true => (exfalso; have q6 := hcl 9 _ rfl hq ⟨6, .data⟩ (by simp) rfl; rw [hb] at q6; cases q6)
      have hbl := hS.2.2.1 qST
      have hbW : Bytes W bp bs := below_bytes hbl hby
      obtain ⟨bb, bo, rfl, hbc⟩ := hbW (by omega)
      obtain ⟨v2, W2, hr, hown, hgr, _, hat⟩ := run_append_own_at (P := Tryz.prog) W w1.heap.size 33 33 5 i0 _ 1 1 hu hi hz0 hz1 hz2 rfl (by decide) (.slice none 0 0) 0 [] (World.ownsRow_nil _ _ _ _) ⟨bb, bo, none⟩ bn bc (bs.map u8v) (by simp; omega)
        (fun j u hj => by
          rw [List.getElem?_map] at hj
          obtain ⟨z, hz, rfl⟩ := Option.map_eq_some_iff.1 hj
          rw [Addr.add_lit]
          exact hbc j z hz) (by intro v hv; obtain ⟨z, _, rfl⟩ := List.mem_map.1 hv; rfl) (by unfold maxLen; omega) (by omega) hbl.size
      simp only [Nat.zero_add, List.nil_append] at hown
      have hb2 : Below W.heap.size W W2 := ⟨hgr.os, hgr.tape, hgr.output, hgr.size, fun q hq => hgr.block q hq (by simp [Value.ownBlock])⟩
      obtain ⟨p2, c2', rfl, _, hp2⟩ := own_form hown
      refine doesg_value rfl (by intro c h; cases h) (v := .slice p2 bn c2') (w' := W2) ?_ ⟨.slice p2 bn c2', fun j hj => ?_, (vv6 (.slice p2 bn c2')).symm, ?_⟩
      · have hsc : a.eval (.const (Value.slice none 0 0)) = .slice none 0 0 := by simp [Act.eval]
        have hs38 := (show a.eval (.tmp 38) = a.tmps[38]?.getD undef by simp [Act.eval]).trans e38; simp only [execOp, resolve, invoke, builtin, Sem.run_bind, Sem.run_pure, Result.andThen_ok, List.map_toArray, List.map_cons, List.map_nil, hsc, hs38, hr]
      · match j, hj with | 0, _ => rw [vv0, vv0] | 1, _ => rw [vv1, vv1] | 2, _ => rw [vv2, vv2] | 3, _ => rw [vv3, vv3] | 4, _ => rw [vv4, vv4] | 5, _ => rw [vv5, vv5] | 6, h => rw [hb] at h; cases h | 7, _ => rw [vv7, vv7] | 8, _ => rw [vv8, vv8] | 9, _ => rw [vv9, vv9] | k + 10, _ => rw [hLe]; rfl
      · refine ⟨(only_below (hbl.trans (hb2.mono hbl.size)) _), fun h => ?_, fun _ => hbl.trans (hb2.mono hbl.size), fun _ _ => ⟨⟨p2, bn, c2'⟩, rfl, ?_⟩⟩
        · simp [did, qST] at h
        · obtain ⟨q, rfl, hq, hqc⟩ := hp2 (by omega)
          obtain ⟨_, cur, hcur⟩ := own_tag hown rfl
          refine ⟨q, cur, rfl, hbn.symm, hq, hcur, fun _ => ⟨q, 0, rfl, fun j z hj => ?_⟩⟩
          have hjl := (List.getElem?_eq_some_iff.1 hj).1
          rw [Nat.zero_add, hqc j (by omega)]
          simp [hj]
    | 7 =>
      simp only [List.getElem?_toArray, List.getElem?_cons_zero, List.getElem?_cons_succ, Option.some.injEq] at ho
      subst ho
      have p3 : b 3 = true := hd ⟨3, .data⟩ (by simp) rfl
      have p4 : b 4 = true := hd ⟨4, .data⟩ (by simp) rfl
      have e36 := (ev 3 36 rfl p3).trans (vv3 g)
      have e37 := (ev 4 37 rfl p4).trans (vv4 g)
      refine doesg_value rfl (by intro c h; cases h) (v := .pointer (some ⟨gL, k * 5, none⟩)) (w' := W) ?_ ⟨g, fun _ _ => rfl, (vv7 g).symm, ?_⟩
      · simp [execOp, go_sem, e36, e37, hk]
      · simpa [did] using hS
    | 8 =>
      simp only [List.getElem?_toArray, List.getElem?_cons_zero, List.getElem?_cons_succ, Option.some.injEq] at ho
      subst ho
      have p7 : b 7 = true := hd ⟨7, .data⟩ (by simp) rfl
      have e40 := (ev 7 40 rfl p7).trans (vv7 g)
      refine doesg_value rfl (by intro c h; cases h) (v := .pointer (some ⟨gL, k * 5 + 4, none⟩)) (w' := W) ?_ ⟨g, fun _ _ => rfl, (vv8 g).symm, ?_⟩
      · simp [execOp, go_sem, e40]
      · simpa [did] using hS
    | 9 =>
      simp only [List.getElem?_toArray, List.getElem?_cons_zero, List.getElem?_cons_succ, Option.some.injEq] at ho
      subst ho
      have p8 : b 8 = true := hd ⟨8, .data⟩ (by simp) rfl
      have p6 : b 6 = true := hd ⟨6, .data⟩ (by simp) rfl
      have e41 := (ev 8 41 rfl p8).trans (vv8 g)
      have e39 := (ev 6 39 rfl p6).trans (vv6 g)
      have hbl := hS.2.2.1 hb
      obtain ⟨sv, e1, hbr⟩ := hS.2.2.2 p6 hb
      have hy : W.cell? ⟨gL, k * 5 + 4, none⟩ = some yv := (hbl.cell (p := ⟨gL, k * 5 + 4, none⟩) (cell_lt cy)).trans cy
      have hf : W.frozen? ⟨gL, k * 5 + 4, none⟩ = false := by
        obtain ⟨cur, hcur⟩ := hg
        exact frozenOf ((hbl.block gL (block_lt hcur)).trans hcur) _
      refine doesg_skip rfl (by intro c h; cases h) (w' := W.setCell ⟨gL, k * 5 + 4, none⟩ g) ?_ ⟨g, fun _ _ => rfl, (vv9 g).symm, ?_⟩
      · rw [e1] at e39 ⊢
        unfold SV.val at e39 ⊢
        simp [execOp, go_sem, e39, e41, hy, hf]
      · refine ⟨((only_below hbl (fun k => k = gL)).next (Only.setCell W ⟨gL, k * 5 + 4, none⟩ _ rfl)).weak (fun q _ hq => ⟨hq, by simp [did]⟩), fun _ => ⟨W, hbl, ⟨sv, e1, hbr⟩, rfl⟩, fun h => ?_, fun _ h => ?_⟩
        · simp [did] at h
        · simp [did] at h
    | k + 10 => simp at ho
  · intro g b W hS hall
    obtain ⟨_, h2, _, _⟩ := hS
    obtain ⟨W0, h3, ⟨sv, rfl, h4⟩, rfl⟩ := h2 (hall 9 (by decide))
    subst hLe
    exact hQ _ W0 sv h3 h4

/-- What Put leaves. -/
def Putd (base r : Nat) (vv lv : Value) (S : RS) (x : Int) (bs : List (BitVec 8)) (w : World) (e : Ending) (w' : World) : Prop :=
  Fr base w w' ∧ ((¬ (0 ≤ x ∧ x < S.V.length ∧ bs.length = 512) ∧ e = .returned (.int .i64 22) ∧ RF w' base r vv lv S) ∨
    (∃ b : Nat, x = (b : Nat) ∧ b < S.V.length ∧ bs.length = 512 ∧ placeR S.L b = -1 ∧ S.room ≤ S.L.length ∧ victimR S.L = none ∧ e = .returned (.int .i64 28) ∧ RF w' base r vv lv S) ∨
    (∃ (b k : Nat) (S1 : RS) (y : RE) (lv' : Value) (sv : SV), x = (b : Nat) ∧ b < S.V.length ∧ bs.length = 512 ∧ HoldsTo S b S1 k ∧ S1.L[k]? = some y ∧ e = .returned (.int .i64 0) ∧ BRow w' w.heap.size sv bs ∧
      RF w' base r vv lv' { useR S1 k y 0 0 with L := S1.L.set k { y with used := S1.time + 1, b := sv, dirty := true } }))
set_option maxRecDepth 8000 in
set_option maxHeartbeats 4000000 in
theorem rput_any (base r : Nat) (vv lv : Value) (S : RS) (x : Int) (bp : Option Addr) (bc : Nat) (bs : List (BitVec 8)) (w : World) (h : RF w base r vv lv S) (hs : Small S) (hby : Bytes w bp bs) (hbt : ∀ b o, 0 < bs.length → bp = some ⟨b, o, none⟩ → ¬ RT w.heap[b]?) :
    Calls Tryz.prog 15 #[.pointer (some ⟨r, 0, none⟩), .int .i64 x, .slice bp bs.length bc] w (Putd base r vv lv S x bs w) := by
  have cU := use_any base r vv lv S x false w h hs
  obtain ⟨pV, cV, rfl, _, _⟩ := own_form h.vrow
  have c0 : w.cell? ⟨r, 0, none⟩ = some (.slice pV S.V.length cV) := cellOf h.cell 0
  by_cases hx : 0 ≤ x ∧ x < S.V.length ∧ bs.length = 512
  · obtain ⟨hx0, hx1, hx2⟩ := hx
    have H0 : Hid (Bytes w bp bs ∧ (∀ b o, 0 < bs.length → bp = some ⟨b, o, none⟩ → ¬ RT w.heap[b]?) ∧ bs.length = 512) := ⟨hby, hbt, hx2⟩
    have hn1 : ¬ x < 0 := by omega
    have hn2 : ¬ (S.V.length : Int) ≤ x := by omega
    rw [hx2]
    clear h hs hby hbt
    go_enter Tryz.func15, Tryz.ntmps15
    go_wp2_with fail
    refine cU.mono ?_
    rintro e W1 ⟨hf, ⟨h1, rfl, hR⟩ | ⟨b, h1, h2, h3, h4, h5, rfl, hR⟩ | ⟨b, k, S1, y, lv', hh, mm, h1, h2, h3, hy, h5, h6, rfl, hR⟩⟩
    · exact absurd ⟨hx0, hx1⟩ h1
    · have HF : Hid (Putd base r (.slice pV S.V.length cV) lv S x bs w (.returned (.int .i64 28)) W1) := ⟨hf, .inr (.inl ⟨b, h1, h2, hx2, h3, h4, h5, rfl, hR⟩)⟩
      clear hf h1 h2 h3 h4 h5 hR cU
      go_wp2
      go_ret
      exact HF.out
    · obtain rfl : hh = 0 := by simpa using h5
      obtain rfl : mm = 0 := by simpa using h6
      obtain ⟨gL, cL, rfl, _, hc⟩ := hR.at_ (useR_at hy 0 0)
      obtain ⟨n, hn⟩ : ∃ n, (useR S1 k y 0 0).L.length = n := ⟨_, rfl⟩
      have c2 : W1.cell? ⟨r, 2, none⟩ = some (.slice (some ⟨gL, 0, none⟩) n cL) := by rw [← hn]; exact cellOf hR.cell 2
      have d4 : W1.cell? ⟨gL, k * 5 + 4, none⟩ = some y.b.val := hc 4 (by omega)
      have hkl : k < n := by rw [← hn]; exact (List.getElem?_eq_some_iff.1 (useR_at hy 0 0)).1
      have hg := (own_tag hR.row (g := gL) rfl).2
      have hnr : ¬ r = gL := fun e => hR.ne.1 (by rw [e]; rfl)
      have hby1 : Bytes W1 bp bs := fun hl => by
        obtain ⟨b0, o0, e0, hc0⟩ := H0.out.1 hl
        exact ⟨b0, o0, e0, fun j z hj => hf.cell (hc0 j z hj) (fun hk => H0.out.2.1 b0 o0 hl e0 hk.2)⟩
      have HN : Hid (∀ W0 sv, Below W1.heap.size W1 W0 → BRow W0 W1.heap.size sv bs → Putd base r (.slice pV S.V.length cV) lv S x bs w (.returned (.int .i64 0)) ((W0.setCell ⟨gL, k * 5 + 4, none⟩ sv.val).setCell ⟨gL, k * 5 + 3, none⟩ (.bool true)) ∧ (W0.setCell ⟨gL, k * 5 + 4, none⟩ sv.val).cell? ⟨r, 2, none⟩ = some (.slice (some ⟨gL, 0, none⟩) n cL) ∧ (∃ v, (W0.setCell ⟨gL, k * 5 + 4, none⟩ sv.val).cell? ⟨gL, k * 5 + 3, none⟩ = some v) ∧ (W0.setCell ⟨gL, k * 5 + 4, none⟩ sv.val).frozen? ⟨gL, k * 5 + 3, none⟩ = false) := fun W0 sv hb0 hbr => by
        have hR0 := hR.below hb0
        have hA := RF.setE (q := 4) (u := sv.val) (y' := { y with used := S1.time + 1, b := sv }) hR0 (useR_at hy 0 0) (by omega) rfl
        have hset : ({ useR S1 k y 0 0 with L := (useR S1 k y 0 0).L.set k { y with used := S1.time + 1, b := sv } } : RS).L[k]? = some { y with used := S1.time + 1, b := sv } := by
          show ((useR S1 k y 0 0).L.set k _)[k]? = _
          rw [List.getElem?_set_self (List.getElem?_eq_some_iff.1 (useR_at hy 0 0)).1]
        have hA1 := hA.1
        have hB := RF.setE (q := 3) (u := .bool true) (y' := { y with used := S1.time + 1, b := sv, dirty := true }) (S := { useR S1 k y 0 0 with L := (useR S1 k y 0 0).L.set k { y with used := S1.time + 1, b := sv } }) (gL := gL) (cL := cL) (by
          show RF _ base r _ (.slice (some ⟨gL, 0, none⟩) ((useR S1 k y 0 0).L.set k _).length cL) _
          rw [List.length_set]; exact hA1) hset (by omega) rfl
        refine ⟨⟨(hf.trans (Fr.below hb0)).trans (hA.2.trans hB.2), .inr (.inr ⟨b, k, S1, y, .slice (some ⟨gL, 0, none⟩) n cL, sv, h1, h2, hx2, h3, hy, rfl, ?_, ?_⟩)⟩, ?_, ?_, ?_⟩
        · have hbr2 := hbr.only (hA.2.trans hB.2) (fun q cs hq hk => ?_)
          · obtain ⟨q, cs, e1, e2, e3, e4, e5⟩ := hbr2
            exact ⟨q, cs, e1, e2, Nat.le_trans hf.size e3, e4, e5⟩
          · obtain ⟨cs', t', f', e, ht⟩ := hk.2
            rw [hq] at e
            injection e with e
            injection e with _ e _
            rcases ht with rfl | rfl | rfl <;> exact absurd e (by decide)
        · have hfin := hB.1
          have hLL : ((useR S1 k y 0 0).L.set k { y with used := S1.time + 1, b := sv }).set k { y with used := S1.time + 1, b := sv, dirty := true } = S1.L.set k { y with used := S1.time + 1, b := sv, dirty := true } := by
            show (((S1.L.set k _)).set k _).set k _ = _
            rw [List.set_set, List.set_set]
          have hl5 : ((useR S1 k y 0 0).L.set k { y with used := S1.time + 1, b := sv }).length = n := by rw [List.length_set]; exact hn
          simp only [hLL, hl5] at hfin
          exact hfin
        · have := cellOf hA1.cell 2
          rw [hn] at this
          exact this
        · obtain ⟨g5, c5, e5, _, hc5⟩ := hA1.at_ (i := k) (x := { y with used := S1.time + 1, b := sv }) hset
          injection e5 with e51 e52 e53
          injection e51 with e51
          injection e51 with e51
          subst e51
          exact ⟨_, hc5 3 (by omega)⟩
        · obtain ⟨_, cur, hg'⟩ := own_tag hA1.row rfl
          exact frozenOf hg' _
      have hkI : (k : Int) < (n : Int) := by omega
      clear hf h1 h2 h3 hy h5 h6 hR hc cU hn
      go_wp2_with fail
      refine put_reg5 (by kernel_rfl) r k n cL gL 512 bc bp bs _ W1 rfl rfl rfl rfl c2 hkl hby1 H0.out.2.2 (by omega) (by omega) d4 hg hnr ?_
      intro g W0 sv hb0 hbr
      simp only [putAll, List.setIfInBounds_toArray, List.set_cons_zero, List.set_cons_succ]
      obtain ⟨q1, q2, ⟨v3, q3⟩, q4⟩ := HN.out W0 sv hb0 hbr
      obtain ⟨W5, hW5⟩ : ∃ W5, W5 = W0.setCell ⟨gL, k * 5 + 4, none⟩ sv.val := ⟨_, rfl⟩
      rw [← hW5] at q1 q2 q3 q4
      rw [← hW5]
      have HF : Hid (Putd base r (.slice pV S.V.length cV) lv S x bs w (.returned (.int .i64 0)) (W5.setCell ⟨gL, k * 5 + 3, none⟩ (.bool true))) := q1
      clear q1 HN hb0 hbr hW5 hg hby1 c2 d4
      go_wp2
      go_ret
      exact HF.out
  · have HF : Hid (Putd base r (.slice pV S.V.length cV) lv S x bs w (.returned (.int .i64 22)) w) := ⟨Fr.refl _ _, .inl ⟨hx, rfl, h⟩⟩
    have hcase : x < 0 ∨ (¬ x < 0 ∧ (S.V.length : Int) ≤ x) ∨ (¬ x < 0 ∧ ¬ (S.V.length : Int) ≤ x ∧ ¬ (bs.length : Int) = 512) := by omega
    clear h hs hby hbt cU hx
    generalize bs.length = nb at *
    generalize S.V.length = nV at *
    rcases hcase with h1 | ⟨h1, h2⟩ | ⟨h1, h2, h3⟩
    · go_enter Tryz.func15, Tryz.ntmps15
      go_wp2
      go_ret
      exact HF.out
    · go_enter Tryz.func15, Tryz.ntmps15
      go_wp2
      go_ret
      exact HF.out
    · go_enter Tryz.func15, Tryz.ntmps15
      go_wp2
      go_ret
      exact HF.out

end Go.Proofs.YtlcojcldbdikgaaGreatDoor.Rc
