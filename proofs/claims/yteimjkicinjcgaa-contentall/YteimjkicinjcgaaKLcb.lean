/-
  Drawn regions of ContentAll.
-/
import Derived.Test.YteimjkicinjcgaaKLca
import Derived.Test.YteimjkicinjcgaaKRgh
import Derived.Test.YteimjkicinjcgaaQOmx

namespace Go.Proofs.Yteimjkicinjcgaa.Ck.Y.L
open Go.RowKit Go.Lib Go.Maps

attribute [local go_sem] Oper.semAt_some

/-- The heads, as they are answered. -/
def FinH (HC : List VC) (v : Value) (W : World) : Prop := ∃ bv M, RowV W bv v M ∧ M.map VG.c = HC ∧ ∀ x ∈ M, VIn W x
theorem FinH.below {HC : List VC} {v : Value} {W W' : World} (h : FinH HC v W) (hb : Below W.heap.size W W') : FinH HC v W' := by
  obtain ⟨bv, M, h1, h2, h3⟩ := h
  exact ⟨bv, M, h1.below hb, h2, fun x hx => (h3 x hx).below hb⟩
/-- The value, as it is answered. -/
def FinV (z : ByteArray) (v : Value) (W : World) : Prop := ∃ p n c, v = .slice p n c ∧ ∀ W', Below W.heap.size W W' → (convert 31 9 (.slice p n c)).run Try.prog W' = .ok (.string z) W'
theorem FinV.below {z : ByteArray} {v : Value} {W W' : World} (h : FinV z v W) (hb : Below W.heap.size W W') : FinV z v W' := by
  obtain ⟨p, n, c, e, h⟩ := h
  exact ⟨p, n, c, e, fun W2 h2 => h W2 (below_thenH hb h2)⟩
/-- A version, as it is answered. -/
def FinO (c : VC) (v : Value) (W : World) : Prop := ∃ y : VG, v = vgv y ∧ y.c = c ∧ VIn W y
theorem FinO.below {c : VC} {v : Value} {W W' : World} (h : FinO c v W) (hb : Below W.heap.size W W') : FinO c v W' := by
  obtain ⟨y, e, h1, h2⟩ := h
  exact ⟨y, e, h1, h2.below hb⟩
theorem rowV_later {b : Nat} {y : VG} {v : Value} {W W' : World} (h : RowV W b v [y]) (hb : Below W.heap.size W W') : RowV W' b v [y] := h.below hb
theorem rowG_later {b : Nat} {x : OG} {v : Value} {W W' : World} (h : RowG W b v [x]) (hb : Below W.heap.size W W') : RowG W' b v [x] := h.below hb
theorem rowV_one {b : Nat} {W : World} (y : VG) (hb : b ≤ W.heap.size) : RowV (W.alloc (.cells (vgC y) 43)) b (.slice (some ⟨W.heap.size, 0, none⟩) 1 1) [y] :=
  ⟨rfl, .inr ⟨W.heap.size, 1, _, rfl, hb, heap_alloc_new W _, Nat.le_refl _, by decide, rfl, rfl⟩⟩
theorem rowG_one {b : Nat} {W : World} (x : OG) (hb : b ≤ W.heap.size) : RowG (W.alloc (.cells (opgC x) 35)) b (.slice (some ⟨W.heap.size, 0, none⟩) 1 1) [x] :=
  ⟨rfl, .inr ⟨W.heap.size, 1, _, rfl, hb, heap_alloc_new W _, Nat.le_refl _, by decide, rfl, rfl⟩⟩

set_option maxRecDepth 8000 in
set_option maxHeartbeats 4000000 in
theorem ca19 {Q : Exit → Act → World → Prop} {base : Array Value} {dd : List Deferred} {ops : Array Oper} (hops : Try.f3.body.bind (regs 19) = some ops) (fb g0 m cm I nh ch N cd K cl : Nat) (ph pd pl : Option Addr) (x : OG) (HC : List VC) (z : ByteArray) (w9 : World) (hsz : base.size = 137)
    (b8 : base.getD 8 undef = .int .i64 0)
    (b4 : base.getD 4 undef = .pointer (some ⟨fb, 0, none⟩))
    (b6 : base.getD 6 undef = .slice (some ⟨g0, 0, none⟩) m cm)
    (b7 : base.getD 7 undef = .int .i64 (I : Nat))
    (b9 : base.getD 9 undef = .slice ph nh ch)
    (b10 : base.getD 10 undef = .slice pd N cd)
    (b5 : base.getD 5 undef = .slice pl K cl)
    (hI : I < m)
    (ha0 : w9.cell? ⟨g0, I * 11, none⟩ = some (.int .i64 x.t)) (ha1 : w9.cell? ⟨g0, I * 11 + 1, none⟩ = some (.int .i64 x.n)) (ha2 : w9.cell? ⟨g0, I * 11 + 2, none⟩ = some (.int .i64 x.sq)) (ha3 : w9.cell? ⟨g0, I * 11 + 3, none⟩ = some (.int .i64 x.kd)) (ha4 : w9.cell? ⟨g0, I * 11 + 4, none⟩ = some (.int .i64 x.ot)) (ha5 : w9.cell? ⟨g0, I * 11 + 5, none⟩ = some (.int .i64 x.on)) (ha6 : w9.cell? ⟨g0, I * 11 + 6, none⟩ = some (.int .i64 x.pt)) (ha7 : w9.cell? ⟨g0, I * 11 + 7, none⟩ = some (.int .i64 x.pn)) (ha8 : w9.cell? ⟨g0, I * 11 + 8, none⟩ = some (.string x.nm)) (ha9 : w9.cell? ⟨g0, I * 11 + 9, none⟩ = some (.slice x.dp x.dl x.dc)) (ha10 : w9.cell? ⟨g0, I * 11 + 10, none⟩ = some (.slice x.sp x.sl x.sc))
    (cA : ∀ W, Below w9.heap.size w9 W → Calls Try.prog 10 #[.pointer (some ⟨fb, 0, none⟩), .agg #[.int .i64 x.t, .int .i64 x.n, .int .i64 x.sq, .int .i64 x.kd, .int .i64 x.ot, .int .i64 x.on, .int .i64 x.pt, .int .i64 x.pn, .string x.nm, .slice x.dp x.dl x.dc, .slice x.sp x.sl x.sc]] W fun e w' => e = .returned (.int .i64 17) ∧ Below W.heap.size W w')
    (cH : ∀ W, Below w9.heap.size w9 W → Calls Try.prog 14 #[.pointer (some ⟨fb, 0, none⟩)] W fun e w' => ∃ v, e = .returned v ∧ Below W.heap.size W w' ∧ (FinH HC) v w')
    (cI : ∀ W, Below w9.heap.size w9 W → ∀ v, (FinH HC) v W → Calls Try.prog 13 #[v, .slice ph nh ch] W fun e w' => e = .returned (.bool true) ∧ Below W.heap.size W w')
    (cV : ∀ W, Below w9.heap.size w9 W → Calls Try.prog 15 #[.pointer (some ⟨fb, 0, none⟩)] W fun e w' => ∃ v, e = .returned v ∧ Below W.heap.size W w' ∧ (FinV z) v w')
    (cS : ∀ W, Below w9.heap.size w9 W → Calls Try.prog 16 #[.pointer (some ⟨fb, 0, none⟩)] W fun e w' => e = .returned (.int .i64 (N : Nat)) ∧ Below W.heap.size W w')
    (cL : ∀ W, Below w9.heap.size w9 W → Calls Try.prog 17 #[.pointer (some ⟨fb, 0, none⟩)] W fun e w' => e = .returned (.int .i64 (K : Nat)) ∧ Below W.heap.size W w')
    (cz : ∀ W, Below w9.heap.size w9 W → (convert 31 9 (.slice pd N cd)).run Try.prog W = .ok (.string z) W)
    (hQ : ∀ (g13 : Value) (g20 : Value) W, Below w9.heap.size w9 W → (FinH HC) g13 W → (FinV z) g20 W → Q .normal ⟨putAll base [(some 59, .int .i64 0), (some 60, .bool false), (some 61, .bool false), (some 62, .pointer (some ⟨fb, 0, none⟩)), (some 63, .slice (some ⟨g0, 0, none⟩) m cm), (some 64, .int .i64 (I : Nat)), (some 65, .pointer (some ⟨g0, I * 11, none⟩)), (some 66, .agg #[.int .i64 x.t, .int .i64 x.n, .int .i64 x.sq, .int .i64 x.kd, .int .i64 x.ot, .int .i64 x.on, .int .i64 x.pt, .int .i64 x.pn, .string x.nm, .slice x.dp x.dl x.dc, .slice x.sp x.sl x.sc]), (some 67, .int .i64 17), (some 68, .bool false), (some 69, .bool false), (some 70, .bool false), (some 71, .pointer (some ⟨fb, 0, none⟩)), (some 72, g13), (some 73, .slice ph nh ch), (some 74, .bool true), (some 75, .bool false), (some 76, .bool false), (some 77, .bool false), (some 78, .pointer (some ⟨fb, 0, none⟩)), (some 79, g20), (some 80, .string z), (some 81, .slice pd N cd), (some 82, .string z), (some 83, .bool false), (some 84, .bool false), (some 85, .bool false), (some 86, .pointer (some ⟨fb, 0, none⟩)), (some 87, .int .i64 (N : Nat)), (some 88, .slice pd N cd), (some 89, .int .i64 (N : Nat)), (some 90, .bool false), (some 91, .bool false), (some 92, .bool false), (some 93, .pointer (some ⟨fb, 0, none⟩)), (some 94, .int .i64 (K : Nat)), (some 95, .slice pl K cl), (some 96, .int .i64 (K : Nat)), (some 97, .bool false), (some 98, .bool false)], dd⟩ W) :
    (Code.region 19 ops true).wp Try.prog Q ⟨base, dd⟩ w9 := by
  have hmix : Try.prog.follows .mixedOrders = true := by kernel_rfl
  have h2 := (show Try.f3.body.bind (regs 19) = some _ from rfl).symm.trans hops
  obtain rfl := Option.some.inj h2
  clear h2 hops
  obtain ⟨LL, hLe⟩ : ∃ LL : List (Option Tmp × Option Value), LL = [(some 59, some (.int .i64 0)), (some 60, some (.bool false)), (some 61, some (.bool false)), (some 62, some (.pointer (some ⟨fb, 0, none⟩))), (some 63, some (.slice (some ⟨g0, 0, none⟩) m cm)), (some 64, some (.int .i64 (I : Nat))), (some 65, some (.pointer (some ⟨g0, I * 11, none⟩))), (some 66, some (.agg #[.int .i64 x.t, .int .i64 x.n, .int .i64 x.sq, .int .i64 x.kd, .int .i64 x.ot, .int .i64 x.on, .int .i64 x.pt, .int .i64 x.pn, .string x.nm, .slice x.dp x.dl x.dc, .slice x.sp x.sl x.sc])), (some 67, some (.int .i64 17)), (some 68, some (.bool false)), (some 69, some (.bool false)), (some 70, some (.bool false)), (some 71, some (.pointer (some ⟨fb, 0, none⟩))), (some 72, none), (some 73, some (.slice ph nh ch)), (some 74, some (.bool true)), (some 75, some (.bool false)), (some 76, some (.bool false)), (some 77, some (.bool false)), (some 78, some (.pointer (some ⟨fb, 0, none⟩))), (some 79, none), (some 80, some (.string z)), (some 81, some (.slice pd N cd)), (some 82, some (.string z)), (some 83, some (.bool false)), (some 84, some (.bool false)), (some 85, some (.bool false)), (some 86, some (.pointer (some ⟨fb, 0, none⟩))), (some 87, some (.int .i64 (N : Nat))), (some 88, some (.slice pd N cd)), (some 89, some (.int .i64 (N : Nat))), (some 90, some (.bool false)), (some 91, some (.bool false)), (some 92, some (.bool false)), (some 93, some (.pointer (some ⟨fb, 0, none⟩))), (some 94, some (.int .i64 (K : Nat))), (some 95, some (.slice pl K cl)), (some 96, some (.int .i64 (K : Nat))), (some 97, some (.bool false)), (some 98, some (.bool false))] := ⟨_, rfl⟩
  have tv0 : tv LL 0 = some (.int .i64 0) := by rw [hLe]; rfl
  have tv1 : tv LL 1 = some (.bool false) := by rw [hLe]; rfl
  have tv2 : tv LL 2 = some (.bool false) := by rw [hLe]; rfl
  have tv3 : tv LL 3 = some (.pointer (some ⟨fb, 0, none⟩)) := by rw [hLe]; rfl
  have tv4 : tv LL 4 = some (.slice (some ⟨g0, 0, none⟩) m cm) := by rw [hLe]; rfl
  have tv5 : tv LL 5 = some (.int .i64 (I : Nat)) := by rw [hLe]; rfl
  have tv6 : tv LL 6 = some (.pointer (some ⟨g0, I * 11, none⟩)) := by rw [hLe]; rfl
  have tv7 : tv LL 7 = some (.agg #[.int .i64 x.t, .int .i64 x.n, .int .i64 x.sq, .int .i64 x.kd, .int .i64 x.ot, .int .i64 x.on, .int .i64 x.pt, .int .i64 x.pn, .string x.nm, .slice x.dp x.dl x.dc, .slice x.sp x.sl x.sc]) := by rw [hLe]; rfl
  have tv8 : tv LL 8 = some (.int .i64 17) := by rw [hLe]; rfl
  have tv9 : tv LL 9 = some (.bool false) := by rw [hLe]; rfl
  have tv10 : tv LL 10 = some (.bool false) := by rw [hLe]; rfl
  have tv11 : tv LL 11 = some (.bool false) := by rw [hLe]; rfl
  have tv12 : tv LL 12 = some (.pointer (some ⟨fb, 0, none⟩)) := by rw [hLe]; rfl
  have tv13 : tv LL 13 = none := by rw [hLe]; rfl
  have tv14 : tv LL 14 = some (.slice ph nh ch) := by rw [hLe]; rfl
  have tv15 : tv LL 15 = some (.bool true) := by rw [hLe]; rfl
  have tv16 : tv LL 16 = some (.bool false) := by rw [hLe]; rfl
  have tv17 : tv LL 17 = some (.bool false) := by rw [hLe]; rfl
  have tv18 : tv LL 18 = some (.bool false) := by rw [hLe]; rfl
  have tv19 : tv LL 19 = some (.pointer (some ⟨fb, 0, none⟩)) := by rw [hLe]; rfl
  have tv20 : tv LL 20 = none := by rw [hLe]; rfl
  have tv21 : tv LL 21 = some (.string z) := by rw [hLe]; rfl
  have tv22 : tv LL 22 = some (.slice pd N cd) := by rw [hLe]; rfl
  have tv23 : tv LL 23 = some (.string z) := by rw [hLe]; rfl
  have tv24 : tv LL 24 = some (.bool false) := by rw [hLe]; rfl
  have tv25 : tv LL 25 = some (.bool false) := by rw [hLe]; rfl
  have tv26 : tv LL 26 = some (.bool false) := by rw [hLe]; rfl
  have tv27 : tv LL 27 = some (.pointer (some ⟨fb, 0, none⟩)) := by rw [hLe]; rfl
  have tv28 : tv LL 28 = some (.int .i64 (N : Nat)) := by rw [hLe]; rfl
  have tv29 : tv LL 29 = some (.slice pd N cd) := by rw [hLe]; rfl
  have tv30 : tv LL 30 = some (.int .i64 (N : Nat)) := by rw [hLe]; rfl
  have tv31 : tv LL 31 = some (.bool false) := by rw [hLe]; rfl
  have tv32 : tv LL 32 = some (.bool false) := by rw [hLe]; rfl
  have tv33 : tv LL 33 = some (.bool false) := by rw [hLe]; rfl
  have tv34 : tv LL 34 = some (.pointer (some ⟨fb, 0, none⟩)) := by rw [hLe]; rfl
  have tv35 : tv LL 35 = some (.int .i64 (K : Nat)) := by rw [hLe]; rfl
  have tv36 : tv LL 36 = some (.slice pl K cl) := by rw [hLe]; rfl
  have tv37 : tv LL 37 = some (.int .i64 (K : Nat)) := by rw [hLe]; rfl
  have tv38 : tv LL 38 = some (.bool false) := by rw [hLe]; rfl
  have tv39 : tv LL 39 = some (.bool false) := by rw [hLe]; rfl
  refine region_gh hmix (by kernel_rfl) 137 hsz (by kernel_rfl) LL (by rw [hLe]; rfl) (fun i v W => (i = 13 → (FinH HC) v W) ∧ (i = 20 → (FinV z) v W) ∧ True) ?_ ?_ ?_
  · intro i v W W' h hb
    exact ⟨fun e => FinH.below (h.1 e) hb, fun e => FinV.below (h.2.1 e) hb, trivial⟩
  · intro g b W io o a hS hF hcl ho hb hd ev kp yl
    match io with
    | 0 =>
      simp only [List.getElem?_toArray, List.getElem?_cons_zero, Option.some.injEq] at ho
      subst ho
      rw [tv0]
      show Does Try.prog _ a W _ (.int .i64 0) (Below W.heap.size W)
      have e8 : a.tmps[8]?.getD undef = .int .i64 0 := (kp 8 (none_till (by kernel_rfl))).trans b8
      refine does_value rfl (by intro c h; cases h) (w' := W) ?_ (Below.refl _ _)
      · simp [execOp, go_sem, e8]
    | 1 =>
      simp only [List.getElem?_toArray, List.getElem?_cons_zero, List.getElem?_cons_succ, Option.some.injEq] at ho
      subst ho
      have p0 : b 0 = true := hd ⟨0, .data⟩ (by simp) rfl
      rw [tv1]
      show Does Try.prog _ a W _ (.bool false) (Below W.heap.size W)
      have e59 : a.tmps[59]?.getD undef = .int .i64 0 := (ev 0 59 rfl p0).trans (by rw [tv0]; rfl)
      refine does_value rfl (by intro c h; cases h) (w' := W) ?_ (Below.refl _ _)
      · simp [execOp, go_sem, e59]
    | 2 =>
      simp only [List.getElem?_toArray, List.getElem?_cons_zero, List.getElem?_cons_succ, Option.some.injEq] at ho
      subst ho
      have p1 : b 1 = true := hd ⟨1, .data⟩ (by simp) rfl
      rw [tv2]
      show Does Try.prog _ a W _ (.bool false) (Below W.heap.size W)
      have e60 : a.tmps[60]?.getD undef = .bool false := (ev 1 60 rfl p1).trans (by rw [tv1]; rfl)
      refine does_value rfl (by intro c h; cases h) (w' := W) ?_ (Below.refl _ _)
      · simp [execOp, go_sem, e60]
    | 3 =>
      simp only [List.getElem?_toArray, List.getElem?_cons_zero, List.getElem?_cons_succ, Option.some.injEq] at ho
      subst ho
      have p2 : b 2 = true := hd ⟨2, .guard⟩ (by simp) rfl
      rw [tv3]
      show Does Try.prog _ a W _ (.pointer (some ⟨fb, 0, none⟩)) (Below W.heap.size W)
      have e4 : a.tmps[4]?.getD undef = .pointer (some ⟨fb, 0, none⟩) := (kp 4 (none_till (by kernel_rfl))).trans b4
      refine does_value_g rfl (yl 2 61 false rfl p2 tv2) (by intro c h; cases h) (w' := W) ?_ (Below.refl _ _)
      · simp [execOp, go_sem, e4]
    | 4 =>
      simp only [List.getElem?_toArray, List.getElem?_cons_zero, List.getElem?_cons_succ, Option.some.injEq] at ho
      subst ho
      have p2 : b 2 = true := hd ⟨2, .guard⟩ (by simp) rfl
      rw [tv4]
      show Does Try.prog _ a W _ (.slice (some ⟨g0, 0, none⟩) m cm) (Below W.heap.size W)
      have e6 : a.tmps[6]?.getD undef = .slice (some ⟨g0, 0, none⟩) m cm := (kp 6 (none_till (by kernel_rfl))).trans b6
      refine does_value_g rfl (yl 2 61 false rfl p2 tv2) (by intro c h; cases h) (w' := W) ?_ (Below.refl _ _)
      · simp [execOp, go_sem, e6]
    | 5 =>
      simp only [List.getElem?_toArray, List.getElem?_cons_zero, List.getElem?_cons_succ, Option.some.injEq] at ho
      subst ho
      have p2 : b 2 = true := hd ⟨2, .guard⟩ (by simp) rfl
      rw [tv5]
      show Does Try.prog _ a W _ (.int .i64 (I : Nat)) (Below W.heap.size W)
      have e7 : a.tmps[7]?.getD undef = .int .i64 (I : Nat) := (kp 7 (none_till (by kernel_rfl))).trans b7
      refine does_value_g rfl (yl 2 61 false rfl p2 tv2) (by intro c h; cases h) (w' := W) ?_ (Below.refl _ _)
      · simp [execOp, go_sem, e7]
    | 6 =>
      simp only [List.getElem?_toArray, List.getElem?_cons_zero, List.getElem?_cons_succ, Option.some.injEq] at ho
      subst ho
      have p4 : b 4 = true := hd ⟨4, .data⟩ (by simp) rfl
      have p5 : b 5 = true := hd ⟨5, .data⟩ (by simp) rfl
      have p2 : b 2 = true := hd ⟨2, .guard⟩ (by simp) rfl
      rw [tv6]
      show Does Try.prog _ a W _ (.pointer (some ⟨g0, I * 11, none⟩)) (Below W.heap.size W)
      have e63 : a.tmps[63]?.getD undef = .slice (some ⟨g0, 0, none⟩) m cm := (ev 4 63 rfl p4).trans (by rw [tv4]; rfl)
      have e64 : a.tmps[64]?.getD undef = .int .i64 (I : Nat) := (ev 5 64 rfl p5).trans (by rw [tv5]; rfl)
      refine does_value_g rfl (yl 2 61 false rfl p2 tv2) (by intro c h; cases h) (w' := W) ?_ (Below.refl _ _)
      · simp [execOp, go_sem, e63, e64, hI]
    | 7 =>
      simp only [List.getElem?_toArray, List.getElem?_cons_zero, List.getElem?_cons_succ, Option.some.injEq] at ho
      subst ho
      have p6 : b 6 = true := hd ⟨6, .data⟩ (by simp) rfl
      have p2 : b 2 = true := hd ⟨2, .guard⟩ (by simp) rfl
      rw [tv7]
      show Does Try.prog _ a W _ (.agg #[.int .i64 x.t, .int .i64 x.n, .int .i64 x.sq, .int .i64 x.kd, .int .i64 x.ot, .int .i64 x.on, .int .i64 x.pt, .int .i64 x.pn, .string x.nm, .slice x.dp x.dl x.dc, .slice x.sp x.sl x.sc]) (Below W.heap.size W)
      have e65 : a.tmps[65]?.getD undef = .pointer (some ⟨g0, I * 11, none⟩) := (ev 6 65 rfl p6).trans (by rw [tv6]; rfl)
      have d9_0 := (hS.cell (p := ⟨g0, I * 11, none⟩) (cell_lt ha0)).trans ha0
      have d9_1 := (hS.cell (p := ⟨g0, I * 11 + 1, none⟩) (cell_lt ha1)).trans ha1
      have d9_2 := (hS.cell (p := ⟨g0, I * 11 + 2, none⟩) (cell_lt ha2)).trans ha2
      have d9_3 := (hS.cell (p := ⟨g0, I * 11 + 3, none⟩) (cell_lt ha3)).trans ha3
      have d9_4 := (hS.cell (p := ⟨g0, I * 11 + 4, none⟩) (cell_lt ha4)).trans ha4
      have d9_5 := (hS.cell (p := ⟨g0, I * 11 + 5, none⟩) (cell_lt ha5)).trans ha5
      have d9_6 := (hS.cell (p := ⟨g0, I * 11 + 6, none⟩) (cell_lt ha6)).trans ha6
      have d9_7 := (hS.cell (p := ⟨g0, I * 11 + 7, none⟩) (cell_lt ha7)).trans ha7
      have d9_8 := (hS.cell (p := ⟨g0, I * 11 + 8, none⟩) (cell_lt ha8)).trans ha8
      have d9_9 := (hS.cell (p := ⟨g0, I * 11 + 9, none⟩) (cell_lt ha9)).trans ha9
      have d9_10 := (hS.cell (p := ⟨g0, I * 11 + 10, none⟩) (cell_lt ha10)).trans ha10
      refine does_value_g rfl (yl 2 61 false rfl p2 tv2) (by intro c h; cases h) (w' := W) ?_ (Below.refl _ _)
      · simp [execOp, go_sem, e65, d9_0, d9_1, d9_2, d9_3, d9_4, d9_5, d9_6, d9_7, d9_8, d9_9, d9_10]
    | 8 =>
      simp only [List.getElem?_toArray, List.getElem?_cons_zero, List.getElem?_cons_succ, Option.some.injEq] at ho
      subst ho
      have p3 : b 3 = true := hd ⟨3, .data⟩ (by simp) rfl
      have p7 : b 7 = true := hd ⟨7, .data⟩ (by simp) rfl
      have p2 : b 2 = true := hd ⟨2, .guard⟩ (by simp) rfl
      rw [tv8]
      show Does Try.prog _ a W _ (.int .i64 17) (Below W.heap.size W)
      have e62 : a.tmps[62]?.getD undef = .pointer (some ⟨fb, 0, none⟩) := (ev 3 62 rfl p3).trans (by rw [tv3]; rfl)
      have e66 : a.tmps[66]?.getD undef = .agg #[.int .i64 x.t, .int .i64 x.n, .int .i64 x.sq, .int .i64 x.kd, .int .i64 x.ot, .int .i64 x.on, .int .i64 x.pt, .int .i64 x.pn, .string x.nm, .slice x.dp x.dl x.dc, .slice x.sp x.sl x.sc] := (ev 7 66 rfl p7).trans (by rw [tv7]; rfl)
      refine does_call_g rfl (yl 2 61 false rfl p2 tv2) (by intro c h; cases h) (f := 10) (args := #[.pointer (some ⟨fb, 0, none⟩), .agg #[.int .i64 x.t, .int .i64 x.n, .int .i64 x.sq, .int .i64 x.kd, .int .i64 x.ot, .int .i64 x.on, .int .i64 x.pt, .int .i64 x.pn, .string x.nm, .slice x.dp x.dl x.dc, .slice x.sp x.sl x.sc]]) ?_ ?_
      · simp [go_sem, e62, e66]
      · exact cA W hS 
    | 9 =>
      simp only [List.getElem?_toArray, List.getElem?_cons_zero, List.getElem?_cons_succ, Option.some.injEq] at ho
      subst ho
      have p8 : b 8 = true := hd ⟨8, .data⟩ (by simp) rfl
      have p2 : b 2 = true := hd ⟨2, .guard⟩ (by simp) rfl
      rw [tv9]
      show Does Try.prog _ a W _ (.bool false) (Below W.heap.size W)
      have e67 : a.tmps[67]?.getD undef = .int .i64 17 := (ev 8 67 rfl p8).trans (by rw [tv8]; rfl)
      refine does_value_g rfl (yl 2 61 false rfl p2 tv2) (by intro c h; cases h) (w' := W) ?_ (Below.refl _ _)
      · simp [execOp, go_sem, e67]
    | 10 =>
      simp only [List.getElem?_toArray, List.getElem?_cons_zero, List.getElem?_cons_succ, Option.some.injEq] at ho
      subst ho
      have p2 : b 2 = true := hd ⟨2, .data⟩ (by simp) rfl
      have p9 : b 9 = true := hd ⟨9, .data⟩ (by simp) rfl
      rw [tv10]
      show Does Try.prog _ a W _ (.bool false) (Below W.heap.size W)
      have e61 : a.tmps[61]?.getD undef = .bool false := (ev 2 61 rfl p2).trans (by rw [tv2]; rfl)
      have e68 : a.tmps[68]?.getD undef = .bool false := (ev 9 68 rfl p9).trans (by rw [tv9]; rfl)
      refine does_value rfl (by intro c h; cases h) (w' := W) ?_ (Below.refl _ _)
      · simp [execOp, go_sem, e61, e68]
    | 11 =>
      simp only [List.getElem?_toArray, List.getElem?_cons_zero, List.getElem?_cons_succ, Option.some.injEq] at ho
      subst ho
      have p10 : b 10 = true := hd ⟨10, .data⟩ (by simp) rfl
      rw [tv11]
      show Does Try.prog _ a W _ (.bool false) (Below W.heap.size W)
      have e69 : a.tmps[69]?.getD undef = .bool false := (ev 10 69 rfl p10).trans (by rw [tv10]; rfl)
      refine does_value rfl (by intro c h; cases h) (w' := W) ?_ (Below.refl _ _)
      · simp [execOp, go_sem, e69]
    | 12 =>
      simp only [List.getElem?_toArray, List.getElem?_cons_zero, List.getElem?_cons_succ, Option.some.injEq] at ho
      subst ho
      have p11 : b 11 = true := hd ⟨11, .guard⟩ (by simp) rfl
      rw [tv12]
      show Does Try.prog _ a W _ (.pointer (some ⟨fb, 0, none⟩)) (Below W.heap.size W)
      have e4 : a.tmps[4]?.getD undef = .pointer (some ⟨fb, 0, none⟩) := (kp 4 (none_till (by kernel_rfl))).trans b4
      refine does_value_g rfl (yl 11 70 false rfl p11 tv11) (by intro c h; cases h) (w' := W) ?_ (Below.refl _ _)
      · simp [execOp, go_sem, e4]
    | 13 =>
      simp only [List.getElem?_toArray, List.getElem?_cons_zero, List.getElem?_cons_succ, Option.some.injEq] at ho
      subst ho
      have p12 : b 12 = true := hd ⟨12, .data⟩ (by simp) rfl
      have p11 : b 11 = true := hd ⟨11, .guard⟩ (by simp) rfl
      rw [tv13]
      show Doesg Try.prog _ a W _ _
      have e71 : a.tmps[71]?.getD undef = .pointer (some ⟨fb, 0, none⟩) := (ev 12 71 rfl p12).trans (by rw [tv12]; rfl)
      refine doesg_call_g rfl (yl 11 70 false rfl p11 tv11) (by intro c h; cases h) (f := 14) (args := #[.pointer (some ⟨fb, 0, none⟩)]) ?_ ?_
      · simp [go_sem, e71]
      · exact (cH W hS ).mono (fun e w' ⟨v, he, h⟩ => ⟨v, he, h.1, ⟨fun e => h.2, fun e => absurd e (by decide), trivial⟩⟩)
    | 14 =>
      simp only [List.getElem?_toArray, List.getElem?_cons_zero, List.getElem?_cons_succ, Option.some.injEq] at ho
      subst ho
      have p11 : b 11 = true := hd ⟨11, .guard⟩ (by simp) rfl
      rw [tv14]
      show Does Try.prog _ a W _ (.slice ph nh ch) (Below W.heap.size W)
      have e9 : a.tmps[9]?.getD undef = .slice ph nh ch := (kp 9 (none_till (by kernel_rfl))).trans b9
      refine does_value_g rfl (yl 11 70 false rfl p11 tv11) (by intro c h; cases h) (w' := W) ?_ (Below.refl _ _)
      · simp [execOp, go_sem, e9]
    | 15 =>
      simp only [List.getElem?_toArray, List.getElem?_cons_zero, List.getElem?_cons_succ, Option.some.injEq] at ho
      subst ho
      have p13 : b 13 = true := hd ⟨13, .data⟩ (by simp) rfl
      have p14 : b 14 = true := hd ⟨14, .data⟩ (by simp) rfl
      have p11 : b 11 = true := hd ⟨11, .guard⟩ (by simp) rfl
      rw [tv15]
      show Does Try.prog _ a W _ (.bool true) (Below W.heap.size W)
      have F13 := (hF 13 p13 tv13).1 rfl
      have e72 : a.tmps[72]?.getD undef = g 13 := (ev 13 72 rfl p13).trans (by rw [tv13]; rfl)
      have e73 : a.tmps[73]?.getD undef = .slice ph nh ch := (ev 14 73 rfl p14).trans (by rw [tv14]; rfl)
      refine does_call_g rfl (yl 11 70 false rfl p11 tv11) (by intro c h; cases h) (f := 13) (args := #[(g 13), .slice ph nh ch]) ?_ ?_
      · simp [go_sem, e72, e73]
      · exact cI W hS (g 13) F13
    | 16 =>
      simp only [List.getElem?_toArray, List.getElem?_cons_zero, List.getElem?_cons_succ, Option.some.injEq] at ho
      subst ho
      have p15 : b 15 = true := hd ⟨15, .data⟩ (by simp) rfl
      have p11 : b 11 = true := hd ⟨11, .guard⟩ (by simp) rfl
      rw [tv16]
      show Does Try.prog _ a W _ (.bool false) (Below W.heap.size W)
      have e74 : a.tmps[74]?.getD undef = .bool true := (ev 15 74 rfl p15).trans (by rw [tv15]; rfl)
      refine does_value_g rfl (yl 11 70 false rfl p11 tv11) (by intro c h; cases h) (w' := W) ?_ (Below.refl _ _)
      · simp [execOp, go_sem, e74]
    | 17 =>
      simp only [List.getElem?_toArray, List.getElem?_cons_zero, List.getElem?_cons_succ, Option.some.injEq] at ho
      subst ho
      have p11 : b 11 = true := hd ⟨11, .data⟩ (by simp) rfl
      have p16 : b 16 = true := hd ⟨16, .data⟩ (by simp) rfl
      rw [tv17]
      show Does Try.prog _ a W _ (.bool false) (Below W.heap.size W)
      have e70 : a.tmps[70]?.getD undef = .bool false := (ev 11 70 rfl p11).trans (by rw [tv11]; rfl)
      have e75 : a.tmps[75]?.getD undef = .bool false := (ev 16 75 rfl p16).trans (by rw [tv16]; rfl)
      refine does_value rfl (by intro c h; cases h) (w' := W) ?_ (Below.refl _ _)
      · simp [execOp, go_sem, e70, e75]
    | 18 =>
      simp only [List.getElem?_toArray, List.getElem?_cons_zero, List.getElem?_cons_succ, Option.some.injEq] at ho
      subst ho
      have p17 : b 17 = true := hd ⟨17, .data⟩ (by simp) rfl
      rw [tv18]
      show Does Try.prog _ a W _ (.bool false) (Below W.heap.size W)
      have e76 : a.tmps[76]?.getD undef = .bool false := (ev 17 76 rfl p17).trans (by rw [tv17]; rfl)
      refine does_value rfl (by intro c h; cases h) (w' := W) ?_ (Below.refl _ _)
      · simp [execOp, go_sem, e76]
    | 19 =>
      simp only [List.getElem?_toArray, List.getElem?_cons_zero, List.getElem?_cons_succ, Option.some.injEq] at ho
      subst ho
      have p18 : b 18 = true := hd ⟨18, .guard⟩ (by simp) rfl
      rw [tv19]
      show Does Try.prog _ a W _ (.pointer (some ⟨fb, 0, none⟩)) (Below W.heap.size W)
      have e4 : a.tmps[4]?.getD undef = .pointer (some ⟨fb, 0, none⟩) := (kp 4 (none_till (by kernel_rfl))).trans b4
      refine does_value_g rfl (yl 18 77 false rfl p18 tv18) (by intro c h; cases h) (w' := W) ?_ (Below.refl _ _)
      · simp [execOp, go_sem, e4]
    | 20 =>
      simp only [List.getElem?_toArray, List.getElem?_cons_zero, List.getElem?_cons_succ, Option.some.injEq] at ho
      subst ho
      have p19 : b 19 = true := hd ⟨19, .data⟩ (by simp) rfl
      have p18 : b 18 = true := hd ⟨18, .guard⟩ (by simp) rfl
      rw [tv20]
      show Doesg Try.prog _ a W _ _
      have e78 : a.tmps[78]?.getD undef = .pointer (some ⟨fb, 0, none⟩) := (ev 19 78 rfl p19).trans (by rw [tv19]; rfl)
      refine doesg_call_g rfl (yl 18 77 false rfl p18 tv18) (by intro c h; cases h) (f := 15) (args := #[.pointer (some ⟨fb, 0, none⟩)]) ?_ ?_
      · simp [go_sem, e78]
      · exact (cV W hS ).mono (fun e w' ⟨v, he, h⟩ => ⟨v, he, h.1, ⟨fun e => absurd e (by decide), fun e => h.2, trivial⟩⟩)
    | 21 =>
      simp only [List.getElem?_toArray, List.getElem?_cons_zero, List.getElem?_cons_succ, Option.some.injEq] at ho
      subst ho
      have p20 : b 20 = true := hd ⟨20, .data⟩ (by simp) rfl
      have p18 : b 18 = true := hd ⟨18, .guard⟩ (by simp) rfl
      rw [tv21]
      show Does Try.prog _ a W _ (.string z) (Below W.heap.size W)
      have F20 := (hF 20 p20 tv20).2.1 rfl
      have e79 : a.tmps[79]?.getD undef = g 20 := (ev 20 79 rfl p20).trans (by rw [tv20]; rfl)
      obtain ⟨p20, n20, c20, hv20, hc20⟩ := F20
      rw [hv20] at e79
      refine does_value_g rfl (yl 18 77 false rfl p18 tv18) (by intro c h; cases h) (w' := W) ?_ (Below.refl _ _)
      · simp [execOp, go_sem, e79, hc20 W (Below.refl _ _)]
    | 22 =>
      simp only [List.getElem?_toArray, List.getElem?_cons_zero, List.getElem?_cons_succ, Option.some.injEq] at ho
      subst ho
      have p18 : b 18 = true := hd ⟨18, .guard⟩ (by simp) rfl
      rw [tv22]
      show Does Try.prog _ a W _ (.slice pd N cd) (Below W.heap.size W)
      have e10 : a.tmps[10]?.getD undef = .slice pd N cd := (kp 10 (none_till (by kernel_rfl))).trans b10
      refine does_value_g rfl (yl 18 77 false rfl p18 tv18) (by intro c h; cases h) (w' := W) ?_ (Below.refl _ _)
      · simp [execOp, go_sem, e10]
    | 23 =>
      simp only [List.getElem?_toArray, List.getElem?_cons_zero, List.getElem?_cons_succ, Option.some.injEq] at ho
      subst ho
      have p22 : b 22 = true := hd ⟨22, .data⟩ (by simp) rfl
      have p18 : b 18 = true := hd ⟨18, .guard⟩ (by simp) rfl
      rw [tv23]
      show Does Try.prog _ a W _ (.string z) (Below W.heap.size W)
      have e81 : a.tmps[81]?.getD undef = .slice pd N cd := (ev 22 81 rfl p22).trans (by rw [tv22]; rfl)
      refine does_value_g rfl (yl 18 77 false rfl p18 tv18) (by intro c h; cases h) (w' := W) ?_ (Below.refl _ _)
      · simp [execOp, go_sem, e81, cz W hS]
    | 24 =>
      simp only [List.getElem?_toArray, List.getElem?_cons_zero, List.getElem?_cons_succ, Option.some.injEq] at ho
      subst ho
      have p21 : b 21 = true := hd ⟨21, .data⟩ (by simp) rfl
      have p23 : b 23 = true := hd ⟨23, .data⟩ (by simp) rfl
      have p18 : b 18 = true := hd ⟨18, .guard⟩ (by simp) rfl
      rw [tv24]
      show Does Try.prog _ a W _ (.bool false) (Below W.heap.size W)
      have e80 : a.tmps[80]?.getD undef = .string z := (ev 21 80 rfl p21).trans (by rw [tv21]; rfl)
      have e82 : a.tmps[82]?.getD undef = .string z := (ev 23 82 rfl p23).trans (by rw [tv23]; rfl)
      refine does_value_g rfl (yl 18 77 false rfl p18 tv18) (by intro c h; cases h) (w' := W) ?_ (Below.refl _ _)
      · simp [execOp, go_sem, e80, e82]
    | 25 =>
      simp only [List.getElem?_toArray, List.getElem?_cons_zero, List.getElem?_cons_succ, Option.some.injEq] at ho
      subst ho
      have p18 : b 18 = true := hd ⟨18, .data⟩ (by simp) rfl
      have p24 : b 24 = true := hd ⟨24, .data⟩ (by simp) rfl
      rw [tv25]
      show Does Try.prog _ a W _ (.bool false) (Below W.heap.size W)
      have e77 : a.tmps[77]?.getD undef = .bool false := (ev 18 77 rfl p18).trans (by rw [tv18]; rfl)
      have e83 : a.tmps[83]?.getD undef = .bool false := (ev 24 83 rfl p24).trans (by rw [tv24]; rfl)
      refine does_value rfl (by intro c h; cases h) (w' := W) ?_ (Below.refl _ _)
      · simp [execOp, go_sem, e77, e83]
    | 26 =>
      simp only [List.getElem?_toArray, List.getElem?_cons_zero, List.getElem?_cons_succ, Option.some.injEq] at ho
      subst ho
      have p25 : b 25 = true := hd ⟨25, .data⟩ (by simp) rfl
      rw [tv26]
      show Does Try.prog _ a W _ (.bool false) (Below W.heap.size W)
      have e84 : a.tmps[84]?.getD undef = .bool false := (ev 25 84 rfl p25).trans (by rw [tv25]; rfl)
      refine does_value rfl (by intro c h; cases h) (w' := W) ?_ (Below.refl _ _)
      · simp [execOp, go_sem, e84]
    | 27 =>
      simp only [List.getElem?_toArray, List.getElem?_cons_zero, List.getElem?_cons_succ, Option.some.injEq] at ho
      subst ho
      have p26 : b 26 = true := hd ⟨26, .guard⟩ (by simp) rfl
      rw [tv27]
      show Does Try.prog _ a W _ (.pointer (some ⟨fb, 0, none⟩)) (Below W.heap.size W)
      have e4 : a.tmps[4]?.getD undef = .pointer (some ⟨fb, 0, none⟩) := (kp 4 (none_till (by kernel_rfl))).trans b4
      refine does_value_g rfl (yl 26 85 false rfl p26 tv26) (by intro c h; cases h) (w' := W) ?_ (Below.refl _ _)
      · simp [execOp, go_sem, e4]
    | 28 =>
      simp only [List.getElem?_toArray, List.getElem?_cons_zero, List.getElem?_cons_succ, Option.some.injEq] at ho
      subst ho
      have p27 : b 27 = true := hd ⟨27, .data⟩ (by simp) rfl
      have p26 : b 26 = true := hd ⟨26, .guard⟩ (by simp) rfl
      rw [tv28]
      show Does Try.prog _ a W _ (.int .i64 (N : Nat)) (Below W.heap.size W)
      have e86 : a.tmps[86]?.getD undef = .pointer (some ⟨fb, 0, none⟩) := (ev 27 86 rfl p27).trans (by rw [tv27]; rfl)
      refine does_call_g rfl (yl 26 85 false rfl p26 tv26) (by intro c h; cases h) (f := 16) (args := #[.pointer (some ⟨fb, 0, none⟩)]) ?_ ?_
      · simp [go_sem, e86]
      · exact cS W hS 
    | 29 =>
      simp only [List.getElem?_toArray, List.getElem?_cons_zero, List.getElem?_cons_succ, Option.some.injEq] at ho
      subst ho
      have p26 : b 26 = true := hd ⟨26, .guard⟩ (by simp) rfl
      rw [tv29]
      show Does Try.prog _ a W _ (.slice pd N cd) (Below W.heap.size W)
      have e10 : a.tmps[10]?.getD undef = .slice pd N cd := (kp 10 (none_till (by kernel_rfl))).trans b10
      refine does_value_g rfl (yl 26 85 false rfl p26 tv26) (by intro c h; cases h) (w' := W) ?_ (Below.refl _ _)
      · simp [execOp, go_sem, e10]
    | 30 =>
      simp only [List.getElem?_toArray, List.getElem?_cons_zero, List.getElem?_cons_succ, Option.some.injEq] at ho
      subst ho
      have p29 : b 29 = true := hd ⟨29, .data⟩ (by simp) rfl
      have p26 : b 26 = true := hd ⟨26, .guard⟩ (by simp) rfl
      rw [tv30]
      show Does Try.prog _ a W _ (.int .i64 (N : Nat)) (Below W.heap.size W)
      have e88 : a.tmps[88]?.getD undef = .slice pd N cd := (ev 29 88 rfl p29).trans (by rw [tv29]; rfl)
      refine does_value_g rfl (yl 26 85 false rfl p26 tv26) (by intro c h; cases h) (w' := W) ?_ (Below.refl _ _)
      · simp [go_sem, e88]
    | 31 =>
      simp only [List.getElem?_toArray, List.getElem?_cons_zero, List.getElem?_cons_succ, Option.some.injEq] at ho
      subst ho
      have p28 : b 28 = true := hd ⟨28, .data⟩ (by simp) rfl
      have p30 : b 30 = true := hd ⟨30, .data⟩ (by simp) rfl
      have p26 : b 26 = true := hd ⟨26, .guard⟩ (by simp) rfl
      rw [tv31]
      show Does Try.prog _ a W _ (.bool false) (Below W.heap.size W)
      have e87 : a.tmps[87]?.getD undef = .int .i64 (N : Nat) := (ev 28 87 rfl p28).trans (by rw [tv28]; rfl)
      have e89 : a.tmps[89]?.getD undef = .int .i64 (N : Nat) := (ev 30 89 rfl p30).trans (by rw [tv30]; rfl)
      refine does_value_g rfl (yl 26 85 false rfl p26 tv26) (by intro c h; cases h) (w' := W) ?_ (Below.refl _ _)
      · simp [execOp, go_sem, e87, e89]
    | 32 =>
      simp only [List.getElem?_toArray, List.getElem?_cons_zero, List.getElem?_cons_succ, Option.some.injEq] at ho
      subst ho
      have p26 : b 26 = true := hd ⟨26, .data⟩ (by simp) rfl
      have p31 : b 31 = true := hd ⟨31, .data⟩ (by simp) rfl
      rw [tv32]
      show Does Try.prog _ a W _ (.bool false) (Below W.heap.size W)
      have e85 : a.tmps[85]?.getD undef = .bool false := (ev 26 85 rfl p26).trans (by rw [tv26]; rfl)
      have e90 : a.tmps[90]?.getD undef = .bool false := (ev 31 90 rfl p31).trans (by rw [tv31]; rfl)
      refine does_value rfl (by intro c h; cases h) (w' := W) ?_ (Below.refl _ _)
      · simp [execOp, go_sem, e85, e90]
    | 33 =>
      simp only [List.getElem?_toArray, List.getElem?_cons_zero, List.getElem?_cons_succ, Option.some.injEq] at ho
      subst ho
      have p32 : b 32 = true := hd ⟨32, .data⟩ (by simp) rfl
      rw [tv33]
      show Does Try.prog _ a W _ (.bool false) (Below W.heap.size W)
      have e91 : a.tmps[91]?.getD undef = .bool false := (ev 32 91 rfl p32).trans (by rw [tv32]; rfl)
      refine does_value rfl (by intro c h; cases h) (w' := W) ?_ (Below.refl _ _)
      · simp [execOp, go_sem, e91]
    | 34 =>
      simp only [List.getElem?_toArray, List.getElem?_cons_zero, List.getElem?_cons_succ, Option.some.injEq] at ho
      subst ho
      have p33 : b 33 = true := hd ⟨33, .guard⟩ (by simp) rfl
      rw [tv34]
      show Does Try.prog _ a W _ (.pointer (some ⟨fb, 0, none⟩)) (Below W.heap.size W)
      have e4 : a.tmps[4]?.getD undef = .pointer (some ⟨fb, 0, none⟩) := (kp 4 (none_till (by kernel_rfl))).trans b4
      refine does_value_g rfl (yl 33 92 false rfl p33 tv33) (by intro c h; cases h) (w' := W) ?_ (Below.refl _ _)
      · simp [execOp, go_sem, e4]
    | 35 =>
      simp only [List.getElem?_toArray, List.getElem?_cons_zero, List.getElem?_cons_succ, Option.some.injEq] at ho
      subst ho
      have p34 : b 34 = true := hd ⟨34, .data⟩ (by simp) rfl
      have p33 : b 33 = true := hd ⟨33, .guard⟩ (by simp) rfl
      rw [tv35]
      show Does Try.prog _ a W _ (.int .i64 (K : Nat)) (Below W.heap.size W)
      have e93 : a.tmps[93]?.getD undef = .pointer (some ⟨fb, 0, none⟩) := (ev 34 93 rfl p34).trans (by rw [tv34]; rfl)
      refine does_call_g rfl (yl 33 92 false rfl p33 tv33) (by intro c h; cases h) (f := 17) (args := #[.pointer (some ⟨fb, 0, none⟩)]) ?_ ?_
      · simp [go_sem, e93]
      · exact cL W hS 
    | 36 =>
      simp only [List.getElem?_toArray, List.getElem?_cons_zero, List.getElem?_cons_succ, Option.some.injEq] at ho
      subst ho
      have p33 : b 33 = true := hd ⟨33, .guard⟩ (by simp) rfl
      rw [tv36]
      show Does Try.prog _ a W _ (.slice pl K cl) (Below W.heap.size W)
      have e5 : a.tmps[5]?.getD undef = .slice pl K cl := (kp 5 (none_till (by kernel_rfl))).trans b5
      refine does_value_g rfl (yl 33 92 false rfl p33 tv33) (by intro c h; cases h) (w' := W) ?_ (Below.refl _ _)
      · simp [execOp, go_sem, e5]
    | 37 =>
      simp only [List.getElem?_toArray, List.getElem?_cons_zero, List.getElem?_cons_succ, Option.some.injEq] at ho
      subst ho
      have p36 : b 36 = true := hd ⟨36, .data⟩ (by simp) rfl
      have p33 : b 33 = true := hd ⟨33, .guard⟩ (by simp) rfl
      rw [tv37]
      show Does Try.prog _ a W _ (.int .i64 (K : Nat)) (Below W.heap.size W)
      have e95 : a.tmps[95]?.getD undef = .slice pl K cl := (ev 36 95 rfl p36).trans (by rw [tv36]; rfl)
      refine does_value_g rfl (yl 33 92 false rfl p33 tv33) (by intro c h; cases h) (w' := W) ?_ (Below.refl _ _)
      · simp [go_sem, e95]
    | 38 =>
      simp only [List.getElem?_toArray, List.getElem?_cons_zero, List.getElem?_cons_succ, Option.some.injEq] at ho
      subst ho
      have p35 : b 35 = true := hd ⟨35, .data⟩ (by simp) rfl
      have p37 : b 37 = true := hd ⟨37, .data⟩ (by simp) rfl
      have p33 : b 33 = true := hd ⟨33, .guard⟩ (by simp) rfl
      rw [tv38]
      show Does Try.prog _ a W _ (.bool false) (Below W.heap.size W)
      have e94 : a.tmps[94]?.getD undef = .int .i64 (K : Nat) := (ev 35 94 rfl p35).trans (by rw [tv35]; rfl)
      have e96 : a.tmps[96]?.getD undef = .int .i64 (K : Nat) := (ev 37 96 rfl p37).trans (by rw [tv37]; rfl)
      refine does_value_g rfl (yl 33 92 false rfl p33 tv33) (by intro c h; cases h) (w' := W) ?_ (Below.refl _ _)
      · simp [execOp, go_sem, e94, e96]
    | 39 =>
      simp only [List.getElem?_toArray, List.getElem?_cons_zero, List.getElem?_cons_succ, Option.some.injEq] at ho
      subst ho
      have p33 : b 33 = true := hd ⟨33, .data⟩ (by simp) rfl
      have p38 : b 38 = true := hd ⟨38, .data⟩ (by simp) rfl
      rw [tv39]
      show Does Try.prog _ a W _ (.bool false) (Below W.heap.size W)
      have e92 : a.tmps[92]?.getD undef = .bool false := (ev 33 92 rfl p33).trans (by rw [tv33]; rfl)
      have e97 : a.tmps[97]?.getD undef = .bool false := (ev 38 97 rfl p38).trans (by rw [tv38]; rfl)
      refine does_value rfl (by intro c h; cases h) (w' := W) ?_ (Below.refl _ _)
      · simp [execOp, go_sem, e92, e97]
    | k + 40 => simp at ho
  · intro g W hS hF
    subst hLe
    exact hQ (g 13) (g 20) W hS ((hF 13 (by decide) rfl).1 rfl) ((hF 20 (by decide) rfl).2.1 rfl)

set_option maxRecDepth 8000 in
set_option maxHeartbeats 4000000 in
theorem ca22 {Q : Exit → Act → World → Prop} {base : Array Value} {dd : List Deferred} {ops : Array Oper} (hops : Try.f3.body.bind (regs 22) = some ops) (vb g0 m cm I : Nat) (x : OG) (y : VG) (w9 : World) (hsz : base.size = 137)
    (b11 : base.getD 11 undef = .pointer (some ⟨vb, 0, none⟩))
    (b6 : base.getD 6 undef = .slice (some ⟨g0, 0, none⟩) m cm)
    (b7 : base.getD 7 undef = .int .i64 (I : Nat))
    (hI : I < m)
    (hy0 : w9.cell? ⟨vb, 0, none⟩ = some (.int .i64 y.t)) (hy1 : w9.cell? ⟨vb, 1, none⟩ = some (.int .i64 y.n)) (hy2 : w9.cell? ⟨vb, 2, none⟩ = some (.int .i64 y.sq)) (hy3 : w9.cell? ⟨vb, 3, none⟩ = some (.slice y.sp y.ns.length y.sc)) (hy4 : w9.cell? ⟨vb, 4, none⟩ = some (.slice y.dp y.bs.length y.dc))
    (ha0 : w9.cell? ⟨g0, I * 11, none⟩ = some (.int .i64 x.t)) (ha1 : w9.cell? ⟨g0, I * 11 + 1, none⟩ = some (.int .i64 x.n)) (ha2 : w9.cell? ⟨g0, I * 11 + 2, none⟩ = some (.int .i64 x.sq)) (ha3 : w9.cell? ⟨g0, I * 11 + 3, none⟩ = some (.int .i64 x.kd)) (ha4 : w9.cell? ⟨g0, I * 11 + 4, none⟩ = some (.int .i64 x.ot)) (ha5 : w9.cell? ⟨g0, I * 11 + 5, none⟩ = some (.int .i64 x.on)) (ha6 : w9.cell? ⟨g0, I * 11 + 6, none⟩ = some (.int .i64 x.pt)) (ha7 : w9.cell? ⟨g0, I * 11 + 7, none⟩ = some (.int .i64 x.pn)) (ha8 : w9.cell? ⟨g0, I * 11 + 8, none⟩ = some (.string x.nm)) (ha9 : w9.cell? ⟨g0, I * 11 + 9, none⟩ = some (.slice x.dp x.dl x.dc)) (ha10 : w9.cell? ⟨g0, I * 11 + 10, none⟩ = some (.slice x.sp x.sl x.sc))
    (cI : ∀ W, Below w9.heap.size w9 W → ∀ v1, (fun v W => RowV W w9.heap.size v [y]) v1 W → ∀ v6, (fun v W => RowG W w9.heap.size v [x]) v6 W → Calls Try.prog 13 #[v1, v6] W fun e w' => e = .returned (.bool true) ∧ Below W.heap.size W w')
    (hQ : ∀ (g1 : Value) (g6 : Value) W, Below w9.heap.size w9 W → (fun v W => RowV W w9.heap.size v [y]) g1 W → (fun v W => RowG W w9.heap.size v [x]) g6 W → Q .normal ⟨putAll base [(some 104, .agg #[.int .i64 y.t, .int .i64 y.n, .int .i64 y.sq, .slice y.sp y.ns.length y.sc, .slice y.dp y.bs.length y.dc]), (some 105, g1), (some 106, .slice (some ⟨g0, 0, none⟩) m cm), (some 107, .int .i64 (I : Nat)), (some 108, .pointer (some ⟨g0, I * 11, none⟩)), (some 109, .agg #[.int .i64 x.t, .int .i64 x.n, .int .i64 x.sq, .int .i64 x.kd, .int .i64 x.ot, .int .i64 x.on, .int .i64 x.pt, .int .i64 x.pn, .string x.nm, .slice x.dp x.dl x.dc, .slice x.sp x.sl x.sc]), (some 110, g6), (some 111, .bool true), (some 112, .bool false)], dd⟩ W) :
    (Code.region 22 ops true).wp Try.prog Q ⟨base, dd⟩ w9 := by
  have hmix : Try.prog.follows .mixedOrders = true := by kernel_rfl
  have h2 := (show Try.f3.body.bind (regs 22) = some _ from rfl).symm.trans hops
  obtain rfl := Option.some.inj h2
  clear h2 hops
  obtain ⟨LL, hLe⟩ : ∃ LL : List (Option Tmp × Option Value), LL = [(some 104, some (.agg #[.int .i64 y.t, .int .i64 y.n, .int .i64 y.sq, .slice y.sp y.ns.length y.sc, .slice y.dp y.bs.length y.dc])), (some 105, none), (some 106, some (.slice (some ⟨g0, 0, none⟩) m cm)), (some 107, some (.int .i64 (I : Nat))), (some 108, some (.pointer (some ⟨g0, I * 11, none⟩))), (some 109, some (.agg #[.int .i64 x.t, .int .i64 x.n, .int .i64 x.sq, .int .i64 x.kd, .int .i64 x.ot, .int .i64 x.on, .int .i64 x.pt, .int .i64 x.pn, .string x.nm, .slice x.dp x.dl x.dc, .slice x.sp x.sl x.sc])), (some 110, none), (some 111, some (.bool true)), (some 112, some (.bool false))] := ⟨_, rfl⟩
  have tv0 : tv LL 0 = some (.agg #[.int .i64 y.t, .int .i64 y.n, .int .i64 y.sq, .slice y.sp y.ns.length y.sc, .slice y.dp y.bs.length y.dc]) := by rw [hLe]; rfl
  have tv1 : tv LL 1 = none := by rw [hLe]; rfl
  have tv2 : tv LL 2 = some (.slice (some ⟨g0, 0, none⟩) m cm) := by rw [hLe]; rfl
  have tv3 : tv LL 3 = some (.int .i64 (I : Nat)) := by rw [hLe]; rfl
  have tv4 : tv LL 4 = some (.pointer (some ⟨g0, I * 11, none⟩)) := by rw [hLe]; rfl
  have tv5 : tv LL 5 = some (.agg #[.int .i64 x.t, .int .i64 x.n, .int .i64 x.sq, .int .i64 x.kd, .int .i64 x.ot, .int .i64 x.on, .int .i64 x.pt, .int .i64 x.pn, .string x.nm, .slice x.dp x.dl x.dc, .slice x.sp x.sl x.sc]) := by rw [hLe]; rfl
  have tv6 : tv LL 6 = none := by rw [hLe]; rfl
  have tv7 : tv LL 7 = some (.bool true) := by rw [hLe]; rfl
  have tv8 : tv LL 8 = some (.bool false) := by rw [hLe]; rfl
  refine region_gh hmix (by kernel_rfl) 137 hsz (by kernel_rfl) LL (by rw [hLe]; rfl) (fun i v W => (i = 1 → (fun v W => RowV W w9.heap.size v [y]) v W) ∧ (i = 6 → (fun v W => RowG W w9.heap.size v [x]) v W) ∧ True) ?_ ?_ ?_
  · intro i v W W' h hb
    exact ⟨fun e => rowV_later (h.1 e) hb, fun e => rowG_later (h.2.1 e) hb, trivial⟩
  · intro g b W io o a hS hF hcl ho hb hd ev kp yl
    match io with
    | 0 =>
      simp only [List.getElem?_toArray, List.getElem?_cons_zero, Option.some.injEq] at ho
      subst ho
      rw [tv0]
      show Does Try.prog _ a W _ (.agg #[.int .i64 y.t, .int .i64 y.n, .int .i64 y.sq, .slice y.sp y.ns.length y.sc, .slice y.dp y.bs.length y.dc]) (Below W.heap.size W)
      have e11 : a.tmps[11]?.getD undef = .pointer (some ⟨vb, 0, none⟩) := (kp 11 (none_till (by kernel_rfl))).trans b11
      have d9_0 := (hS.cell (p := ⟨vb, 0, none⟩) (cell_lt hy0)).trans hy0
      have d9_1 := (hS.cell (p := ⟨vb, 1, none⟩) (cell_lt hy1)).trans hy1
      have d9_2 := (hS.cell (p := ⟨vb, 2, none⟩) (cell_lt hy2)).trans hy2
      have d9_3 := (hS.cell (p := ⟨vb, 3, none⟩) (cell_lt hy3)).trans hy3
      have d9_4 := (hS.cell (p := ⟨vb, 4, none⟩) (cell_lt hy4)).trans hy4
      refine does_value rfl (by intro c h; cases h) (w' := W) ?_ (Below.refl _ _)
      · simp [execOp, go_sem, e11, d9_0, d9_1, d9_2, d9_3, d9_4]
    | 1 =>
      simp only [List.getElem?_toArray, List.getElem?_cons_zero, List.getElem?_cons_succ, Option.some.injEq] at ho
      subst ho
      have p0 : b 0 = true := hd ⟨0, .data⟩ (by simp) rfl
      rw [tv1]
      show Doesg Try.prog _ a W _ _
      have e104 : a.tmps[104]?.getD undef = .agg #[.int .i64 y.t, .int .i64 y.n, .int .i64 y.sq, .slice y.sp y.ns.length y.sc, .slice y.dp y.bs.length y.dc] := (ev 0 104 rfl p0).trans (by rw [tv0]; rfl)
      refine doesg_value rfl (by intro c h; cases h) (v := .slice (some ⟨W.heap.size, 0, none⟩) 1 1) (w' := W.alloc (.cells (vgC y) 43)) ?_ ⟨(below_new W _).out, ⟨fun e => rowV_one y hS.size, fun e => absurd e (by decide), trivial⟩⟩
      simp [execOp, go_sem, e104, vgC]
    | 2 =>
      simp only [List.getElem?_toArray, List.getElem?_cons_zero, List.getElem?_cons_succ, Option.some.injEq] at ho
      subst ho
      rw [tv2]
      show Does Try.prog _ a W _ (.slice (some ⟨g0, 0, none⟩) m cm) (Below W.heap.size W)
      have e6 : a.tmps[6]?.getD undef = .slice (some ⟨g0, 0, none⟩) m cm := (kp 6 (none_till (by kernel_rfl))).trans b6
      refine does_value rfl (by intro c h; cases h) (w' := W) ?_ (Below.refl _ _)
      · simp [execOp, go_sem, e6]
    | 3 =>
      simp only [List.getElem?_toArray, List.getElem?_cons_zero, List.getElem?_cons_succ, Option.some.injEq] at ho
      subst ho
      rw [tv3]
      show Does Try.prog _ a W _ (.int .i64 (I : Nat)) (Below W.heap.size W)
      have e7 : a.tmps[7]?.getD undef = .int .i64 (I : Nat) := (kp 7 (none_till (by kernel_rfl))).trans b7
      refine does_value rfl (by intro c h; cases h) (w' := W) ?_ (Below.refl _ _)
      · simp [execOp, go_sem, e7]
    | 4 =>
      simp only [List.getElem?_toArray, List.getElem?_cons_zero, List.getElem?_cons_succ, Option.some.injEq] at ho
      subst ho
      have p2 : b 2 = true := hd ⟨2, .data⟩ (by simp) rfl
      have p3 : b 3 = true := hd ⟨3, .data⟩ (by simp) rfl
      rw [tv4]
      show Does Try.prog _ a W _ (.pointer (some ⟨g0, I * 11, none⟩)) (Below W.heap.size W)
      have e106 : a.tmps[106]?.getD undef = .slice (some ⟨g0, 0, none⟩) m cm := (ev 2 106 rfl p2).trans (by rw [tv2]; rfl)
      have e107 : a.tmps[107]?.getD undef = .int .i64 (I : Nat) := (ev 3 107 rfl p3).trans (by rw [tv3]; rfl)
      refine does_value rfl (by intro c h; cases h) (w' := W) ?_ (Below.refl _ _)
      · simp [execOp, go_sem, e106, e107, hI]
    | 5 =>
      simp only [List.getElem?_toArray, List.getElem?_cons_zero, List.getElem?_cons_succ, Option.some.injEq] at ho
      subst ho
      have p4 : b 4 = true := hd ⟨4, .data⟩ (by simp) rfl
      rw [tv5]
      show Does Try.prog _ a W _ (.agg #[.int .i64 x.t, .int .i64 x.n, .int .i64 x.sq, .int .i64 x.kd, .int .i64 x.ot, .int .i64 x.on, .int .i64 x.pt, .int .i64 x.pn, .string x.nm, .slice x.dp x.dl x.dc, .slice x.sp x.sl x.sc]) (Below W.heap.size W)
      have e108 : a.tmps[108]?.getD undef = .pointer (some ⟨g0, I * 11, none⟩) := (ev 4 108 rfl p4).trans (by rw [tv4]; rfl)
      have d9_0 := (hS.cell (p := ⟨g0, I * 11, none⟩) (cell_lt ha0)).trans ha0
      have d9_1 := (hS.cell (p := ⟨g0, I * 11 + 1, none⟩) (cell_lt ha1)).trans ha1
      have d9_2 := (hS.cell (p := ⟨g0, I * 11 + 2, none⟩) (cell_lt ha2)).trans ha2
      have d9_3 := (hS.cell (p := ⟨g0, I * 11 + 3, none⟩) (cell_lt ha3)).trans ha3
      have d9_4 := (hS.cell (p := ⟨g0, I * 11 + 4, none⟩) (cell_lt ha4)).trans ha4
      have d9_5 := (hS.cell (p := ⟨g0, I * 11 + 5, none⟩) (cell_lt ha5)).trans ha5
      have d9_6 := (hS.cell (p := ⟨g0, I * 11 + 6, none⟩) (cell_lt ha6)).trans ha6
      have d9_7 := (hS.cell (p := ⟨g0, I * 11 + 7, none⟩) (cell_lt ha7)).trans ha7
      have d9_8 := (hS.cell (p := ⟨g0, I * 11 + 8, none⟩) (cell_lt ha8)).trans ha8
      have d9_9 := (hS.cell (p := ⟨g0, I * 11 + 9, none⟩) (cell_lt ha9)).trans ha9
      have d9_10 := (hS.cell (p := ⟨g0, I * 11 + 10, none⟩) (cell_lt ha10)).trans ha10
      refine does_value rfl (by intro c h; cases h) (w' := W) ?_ (Below.refl _ _)
      · simp [execOp, go_sem, e108, d9_0, d9_1, d9_2, d9_3, d9_4, d9_5, d9_6, d9_7, d9_8, d9_9, d9_10]
    | 6 =>
      simp only [List.getElem?_toArray, List.getElem?_cons_zero, List.getElem?_cons_succ, Option.some.injEq] at ho
      subst ho
      have p5 : b 5 = true := hd ⟨5, .data⟩ (by simp) rfl
      rw [tv6]
      show Doesg Try.prog _ a W _ _
      have e109 : a.tmps[109]?.getD undef = .agg #[.int .i64 x.t, .int .i64 x.n, .int .i64 x.sq, .int .i64 x.kd, .int .i64 x.ot, .int .i64 x.on, .int .i64 x.pt, .int .i64 x.pn, .string x.nm, .slice x.dp x.dl x.dc, .slice x.sp x.sl x.sc] := (ev 5 109 rfl p5).trans (by rw [tv5]; rfl)
      refine doesg_value rfl (by intro c h; cases h) (v := .slice (some ⟨W.heap.size, 0, none⟩) 1 1) (w' := W.alloc (.cells (opgC x) 35)) ?_ ⟨(below_new W _).out, ⟨fun e => absurd e (by decide), fun e => rowG_one x hS.size, trivial⟩⟩
      simp [execOp, go_sem, e109, opgC]
    | 7 =>
      simp only [List.getElem?_toArray, List.getElem?_cons_zero, List.getElem?_cons_succ, Option.some.injEq] at ho
      subst ho
      have p1 : b 1 = true := hd ⟨1, .data⟩ (by simp) rfl
      have p6 : b 6 = true := hd ⟨6, .data⟩ (by simp) rfl
      rw [tv7]
      show Does Try.prog _ a W _ (.bool true) (Below W.heap.size W)
      have F1 := (hF 1 p1 tv1).1 rfl
      have e105 : a.tmps[105]?.getD undef = g 1 := (ev 1 105 rfl p1).trans (by rw [tv1]; rfl)
      have F6 := (hF 6 p6 tv6).2.1 rfl
      have e110 : a.tmps[110]?.getD undef = g 6 := (ev 6 110 rfl p6).trans (by rw [tv6]; rfl)
      refine does_call rfl (by intro c h; cases h) (f := 13) (args := #[(g 1), (g 6)]) ?_ ?_
      · simp [go_sem, e105, e110]
      · exact cI W hS (g 1) F1 (g 6) F6
    | 8 =>
      simp only [List.getElem?_toArray, List.getElem?_cons_zero, List.getElem?_cons_succ, Option.some.injEq] at ho
      subst ho
      have p7 : b 7 = true := hd ⟨7, .data⟩ (by simp) rfl
      rw [tv8]
      show Does Try.prog _ a W _ (.bool false) (Below W.heap.size W)
      have e111 : a.tmps[111]?.getD undef = .bool true := (ev 7 111 rfl p7).trans (by rw [tv7]; rfl)
      refine does_value rfl (by intro c h; cases h) (w' := W) ?_ (Below.refl _ _)
      · simp [execOp, go_sem, e111]
    | k + 9 => simp at ho
  · intro g W hS hF
    subst hLe
    exact hQ (g 1) (g 6) W hS ((hF 1 (by decide) rfl).1 rfl) ((hF 6 (by decide) rfl).2.1 rfl)

set_option maxRecDepth 8000 in
set_option maxHeartbeats 4000000 in
theorem ca27 {Q : Exit → Act → World → Prop} {base : Array Value} {dd : List Deferred} {ops : Array Oper} (hops : Try.f3.body.bind (regs 27) = some ops) (vb gl n cl K g0 m cm I : Nat) (x z : OG) (y : VG) (c : VC) (r : Bool) (w9 : World) (hsz : base.size = 137)
    (b11 : base.getD 11 undef = .pointer (some ⟨vb, 0, none⟩))
    (b5 : base.getD 5 undef = .slice (some ⟨gl, 0, none⟩) n cl)
    (b12 : base.getD 12 undef = .int .i64 (K : Nat))
    (b6 : base.getD 6 undef = .slice (some ⟨g0, 0, none⟩) m cm)
    (b7 : base.getD 7 undef = .int .i64 (I : Nat))
    (hI : I < m) (hK : K < n)
    (hy0 : w9.cell? ⟨vb, 0, none⟩ = some (.int .i64 y.t)) (hy1 : w9.cell? ⟨vb, 1, none⟩ = some (.int .i64 y.n)) (hy2 : w9.cell? ⟨vb, 2, none⟩ = some (.int .i64 y.sq)) (hy3 : w9.cell? ⟨vb, 3, none⟩ = some (.slice y.sp y.ns.length y.sc)) (hy4 : w9.cell? ⟨vb, 4, none⟩ = some (.slice y.dp y.bs.length y.dc))
    (ha0 : w9.cell? ⟨g0, I * 11, none⟩ = some (.int .i64 x.t)) (ha1 : w9.cell? ⟨g0, I * 11 + 1, none⟩ = some (.int .i64 x.n)) (ha2 : w9.cell? ⟨g0, I * 11 + 2, none⟩ = some (.int .i64 x.sq)) (ha3 : w9.cell? ⟨g0, I * 11 + 3, none⟩ = some (.int .i64 x.kd)) (ha4 : w9.cell? ⟨g0, I * 11 + 4, none⟩ = some (.int .i64 x.ot)) (ha5 : w9.cell? ⟨g0, I * 11 + 5, none⟩ = some (.int .i64 x.on)) (ha6 : w9.cell? ⟨g0, I * 11 + 6, none⟩ = some (.int .i64 x.pt)) (ha7 : w9.cell? ⟨g0, I * 11 + 7, none⟩ = some (.int .i64 x.pn)) (ha8 : w9.cell? ⟨g0, I * 11 + 8, none⟩ = some (.string x.nm)) (ha9 : w9.cell? ⟨g0, I * 11 + 9, none⟩ = some (.slice x.dp x.dl x.dc)) (ha10 : w9.cell? ⟨g0, I * 11 + 10, none⟩ = some (.slice x.sp x.sl x.sc))
    (hd0 : w9.cell? ⟨gl, K * 11, none⟩ = some (.int .i64 z.t)) (hd1 : w9.cell? ⟨gl, K * 11 + 1, none⟩ = some (.int .i64 z.n)) (hd2 : w9.cell? ⟨gl, K * 11 + 2, none⟩ = some (.int .i64 z.sq)) (hd3 : w9.cell? ⟨gl, K * 11 + 3, none⟩ = some (.int .i64 z.kd)) (hd4 : w9.cell? ⟨gl, K * 11 + 4, none⟩ = some (.int .i64 z.ot)) (hd5 : w9.cell? ⟨gl, K * 11 + 5, none⟩ = some (.int .i64 z.on)) (hd6 : w9.cell? ⟨gl, K * 11 + 6, none⟩ = some (.int .i64 z.pt)) (hd7 : w9.cell? ⟨gl, K * 11 + 7, none⟩ = some (.int .i64 z.pn)) (hd8 : w9.cell? ⟨gl, K * 11 + 8, none⟩ = some (.string z.nm)) (hd9 : w9.cell? ⟨gl, K * 11 + 9, none⟩ = some (.slice z.dp z.dl z.dc)) (hd10 : w9.cell? ⟨gl, K * 11 + 10, none⟩ = some (.slice z.sp z.sl z.sc))
    (cO : ∀ W, Below w9.heap.size w9 W → Calls Try.prog 18 #[.agg #[.int .i64 z.t, .int .i64 z.n, .int .i64 z.sq, .int .i64 z.kd, .int .i64 z.ot, .int .i64 z.on, .int .i64 z.pt, .int .i64 z.pn, .string z.nm, .slice z.dp z.dl z.dc, .slice z.sp z.sl z.sc]] W fun e w' => ∃ v, e = .returned v ∧ Below W.heap.size W w' ∧ (FinO c) v w')
    (cB : ∀ W, Below w9.heap.size w9 W → ∀ v, (FinO c) v W → Calls Try.prog 19 #[.agg #[.int .i64 y.t, .int .i64 y.n, .int .i64 y.sq, .slice y.sp y.ns.length y.sc, .slice y.dp y.bs.length y.dc], v] W fun e w' => e = .returned (.bool r) ∧ Below W.heap.size W w')
    (cR : ∀ W, Below w9.heap.size w9 W → Calls Try.prog 20 #[.agg #[.int .i64 x.t, .int .i64 x.n, .int .i64 x.sq, .int .i64 x.kd, .int .i64 x.ot, .int .i64 x.on, .int .i64 x.pt, .int .i64 x.pn, .string x.nm, .slice x.dp x.dl x.dc, .slice x.sp x.sl x.sc], .agg #[.int .i64 z.t, .int .i64 z.n, .int .i64 z.sq, .int .i64 z.kd, .int .i64 z.ot, .int .i64 z.on, .int .i64 z.pt, .int .i64 z.pn, .string z.nm, .slice z.dp z.dl z.dc, .slice z.sp z.sl z.sc]] W fun e w' => e = .returned (.bool r) ∧ Below W.heap.size W w')
    (hQ : ∀ (g5 : Value) W, Below w9.heap.size w9 W → (FinO c) g5 W → Q .normal ⟨putAll base [(some 119, .agg #[.int .i64 y.t, .int .i64 y.n, .int .i64 y.sq, .slice y.sp y.ns.length y.sc, .slice y.dp y.bs.length y.dc]), (some 120, .slice (some ⟨gl, 0, none⟩) n cl), (some 121, .int .i64 (K : Nat)), (some 122, .pointer (some ⟨gl, K * 11, none⟩)), (some 123, .agg #[.int .i64 z.t, .int .i64 z.n, .int .i64 z.sq, .int .i64 z.kd, .int .i64 z.ot, .int .i64 z.on, .int .i64 z.pt, .int .i64 z.pn, .string z.nm, .slice z.dp z.dl z.dc, .slice z.sp z.sl z.sc]), (some 124, g5), (some 125, .bool r), (some 126, .slice (some ⟨g0, 0, none⟩) m cm), (some 127, .int .i64 (I : Nat)), (some 128, .pointer (some ⟨g0, I * 11, none⟩)), (some 129, .agg #[.int .i64 x.t, .int .i64 x.n, .int .i64 x.sq, .int .i64 x.kd, .int .i64 x.ot, .int .i64 x.on, .int .i64 x.pt, .int .i64 x.pn, .string x.nm, .slice x.dp x.dl x.dc, .slice x.sp x.sl x.sc]), (some 130, .slice (some ⟨gl, 0, none⟩) n cl), (some 131, .int .i64 (K : Nat)), (some 132, .pointer (some ⟨gl, K * 11, none⟩)), (some 133, .agg #[.int .i64 z.t, .int .i64 z.n, .int .i64 z.sq, .int .i64 z.kd, .int .i64 z.ot, .int .i64 z.on, .int .i64 z.pt, .int .i64 z.pn, .string z.nm, .slice z.dp z.dl z.dc, .slice z.sp z.sl z.sc]), (some 134, .bool r), (some 135, .bool false)], dd⟩ W) :
    (Code.region 27 ops true).wp Try.prog Q ⟨base, dd⟩ w9 := by
  have hmix : Try.prog.follows .mixedOrders = true := by kernel_rfl
  have h2 := (show Try.f3.body.bind (regs 27) = some _ from rfl).symm.trans hops
  obtain rfl := Option.some.inj h2
  clear h2 hops
  obtain ⟨LL, hLe⟩ : ∃ LL : List (Option Tmp × Option Value), LL = [(some 119, some (.agg #[.int .i64 y.t, .int .i64 y.n, .int .i64 y.sq, .slice y.sp y.ns.length y.sc, .slice y.dp y.bs.length y.dc])), (some 120, some (.slice (some ⟨gl, 0, none⟩) n cl)), (some 121, some (.int .i64 (K : Nat))), (some 122, some (.pointer (some ⟨gl, K * 11, none⟩))), (some 123, some (.agg #[.int .i64 z.t, .int .i64 z.n, .int .i64 z.sq, .int .i64 z.kd, .int .i64 z.ot, .int .i64 z.on, .int .i64 z.pt, .int .i64 z.pn, .string z.nm, .slice z.dp z.dl z.dc, .slice z.sp z.sl z.sc])), (some 124, none), (some 125, some (.bool r)), (some 126, some (.slice (some ⟨g0, 0, none⟩) m cm)), (some 127, some (.int .i64 (I : Nat))), (some 128, some (.pointer (some ⟨g0, I * 11, none⟩))), (some 129, some (.agg #[.int .i64 x.t, .int .i64 x.n, .int .i64 x.sq, .int .i64 x.kd, .int .i64 x.ot, .int .i64 x.on, .int .i64 x.pt, .int .i64 x.pn, .string x.nm, .slice x.dp x.dl x.dc, .slice x.sp x.sl x.sc])), (some 130, some (.slice (some ⟨gl, 0, none⟩) n cl)), (some 131, some (.int .i64 (K : Nat))), (some 132, some (.pointer (some ⟨gl, K * 11, none⟩))), (some 133, some (.agg #[.int .i64 z.t, .int .i64 z.n, .int .i64 z.sq, .int .i64 z.kd, .int .i64 z.ot, .int .i64 z.on, .int .i64 z.pt, .int .i64 z.pn, .string z.nm, .slice z.dp z.dl z.dc, .slice z.sp z.sl z.sc])), (some 134, some (.bool r)), (some 135, some (.bool false))] := ⟨_, rfl⟩
  have tv0 : tv LL 0 = some (.agg #[.int .i64 y.t, .int .i64 y.n, .int .i64 y.sq, .slice y.sp y.ns.length y.sc, .slice y.dp y.bs.length y.dc]) := by rw [hLe]; rfl
  have tv1 : tv LL 1 = some (.slice (some ⟨gl, 0, none⟩) n cl) := by rw [hLe]; rfl
  have tv2 : tv LL 2 = some (.int .i64 (K : Nat)) := by rw [hLe]; rfl
  have tv3 : tv LL 3 = some (.pointer (some ⟨gl, K * 11, none⟩)) := by rw [hLe]; rfl
  have tv4 : tv LL 4 = some (.agg #[.int .i64 z.t, .int .i64 z.n, .int .i64 z.sq, .int .i64 z.kd, .int .i64 z.ot, .int .i64 z.on, .int .i64 z.pt, .int .i64 z.pn, .string z.nm, .slice z.dp z.dl z.dc, .slice z.sp z.sl z.sc]) := by rw [hLe]; rfl
  have tv5 : tv LL 5 = none := by rw [hLe]; rfl
  have tv6 : tv LL 6 = some (.bool r) := by rw [hLe]; rfl
  have tv7 : tv LL 7 = some (.slice (some ⟨g0, 0, none⟩) m cm) := by rw [hLe]; rfl
  have tv8 : tv LL 8 = some (.int .i64 (I : Nat)) := by rw [hLe]; rfl
  have tv9 : tv LL 9 = some (.pointer (some ⟨g0, I * 11, none⟩)) := by rw [hLe]; rfl
  have tv10 : tv LL 10 = some (.agg #[.int .i64 x.t, .int .i64 x.n, .int .i64 x.sq, .int .i64 x.kd, .int .i64 x.ot, .int .i64 x.on, .int .i64 x.pt, .int .i64 x.pn, .string x.nm, .slice x.dp x.dl x.dc, .slice x.sp x.sl x.sc]) := by rw [hLe]; rfl
  have tv11 : tv LL 11 = some (.slice (some ⟨gl, 0, none⟩) n cl) := by rw [hLe]; rfl
  have tv12 : tv LL 12 = some (.int .i64 (K : Nat)) := by rw [hLe]; rfl
  have tv13 : tv LL 13 = some (.pointer (some ⟨gl, K * 11, none⟩)) := by rw [hLe]; rfl
  have tv14 : tv LL 14 = some (.agg #[.int .i64 z.t, .int .i64 z.n, .int .i64 z.sq, .int .i64 z.kd, .int .i64 z.ot, .int .i64 z.on, .int .i64 z.pt, .int .i64 z.pn, .string z.nm, .slice z.dp z.dl z.dc, .slice z.sp z.sl z.sc]) := by rw [hLe]; rfl
  have tv15 : tv LL 15 = some (.bool r) := by rw [hLe]; rfl
  have tv16 : tv LL 16 = some (.bool false) := by rw [hLe]; rfl
  refine region_gh hmix (by kernel_rfl) 137 hsz (by kernel_rfl) LL (by rw [hLe]; rfl) (fun i v W => (i = 5 → (FinO c) v W) ∧ True) ?_ ?_ ?_
  · intro i v W W' h hb
    exact ⟨fun e => FinO.below (h.1 e) hb, trivial⟩
  · intro g b W io o a hS hF hcl ho hb hd ev kp yl
    match io with
    | 0 =>
      simp only [List.getElem?_toArray, List.getElem?_cons_zero, Option.some.injEq] at ho
      subst ho
      rw [tv0]
      show Does Try.prog _ a W _ (.agg #[.int .i64 y.t, .int .i64 y.n, .int .i64 y.sq, .slice y.sp y.ns.length y.sc, .slice y.dp y.bs.length y.dc]) (Below W.heap.size W)
      have e11 : a.tmps[11]?.getD undef = .pointer (some ⟨vb, 0, none⟩) := (kp 11 (none_till (by kernel_rfl))).trans b11
      have d9_0 := (hS.cell (p := ⟨vb, 0, none⟩) (cell_lt hy0)).trans hy0
      have d9_1 := (hS.cell (p := ⟨vb, 1, none⟩) (cell_lt hy1)).trans hy1
      have d9_2 := (hS.cell (p := ⟨vb, 2, none⟩) (cell_lt hy2)).trans hy2
      have d9_3 := (hS.cell (p := ⟨vb, 3, none⟩) (cell_lt hy3)).trans hy3
      have d9_4 := (hS.cell (p := ⟨vb, 4, none⟩) (cell_lt hy4)).trans hy4
      refine does_value rfl (by intro c h; cases h) (w' := W) ?_ (Below.refl _ _)
      · simp [execOp, go_sem, e11, d9_0, d9_1, d9_2, d9_3, d9_4]
    | 1 =>
      simp only [List.getElem?_toArray, List.getElem?_cons_zero, List.getElem?_cons_succ, Option.some.injEq] at ho
      subst ho
      rw [tv1]
      show Does Try.prog _ a W _ (.slice (some ⟨gl, 0, none⟩) n cl) (Below W.heap.size W)
      have e5 : a.tmps[5]?.getD undef = .slice (some ⟨gl, 0, none⟩) n cl := (kp 5 (none_till (by kernel_rfl))).trans b5
      refine does_value rfl (by intro c h; cases h) (w' := W) ?_ (Below.refl _ _)
      · simp [execOp, go_sem, e5]
    | 2 =>
      simp only [List.getElem?_toArray, List.getElem?_cons_zero, List.getElem?_cons_succ, Option.some.injEq] at ho
      subst ho
      rw [tv2]
      show Does Try.prog _ a W _ (.int .i64 (K : Nat)) (Below W.heap.size W)
      have e12 : a.tmps[12]?.getD undef = .int .i64 (K : Nat) := (kp 12 (none_till (by kernel_rfl))).trans b12
      refine does_value rfl (by intro c h; cases h) (w' := W) ?_ (Below.refl _ _)
      · simp [execOp, go_sem, e12]
    | 3 =>
      simp only [List.getElem?_toArray, List.getElem?_cons_zero, List.getElem?_cons_succ, Option.some.injEq] at ho
      subst ho
      have p1 : b 1 = true := hd ⟨1, .data⟩ (by simp) rfl
      have p2 : b 2 = true := hd ⟨2, .data⟩ (by simp) rfl
      rw [tv3]
      show Does Try.prog _ a W _ (.pointer (some ⟨gl, K * 11, none⟩)) (Below W.heap.size W)
      have e120 : a.tmps[120]?.getD undef = .slice (some ⟨gl, 0, none⟩) n cl := (ev 1 120 rfl p1).trans (by rw [tv1]; rfl)
      have e121 : a.tmps[121]?.getD undef = .int .i64 (K : Nat) := (ev 2 121 rfl p2).trans (by rw [tv2]; rfl)
      refine does_value rfl (by intro c h; cases h) (w' := W) ?_ (Below.refl _ _)
      · simp [execOp, go_sem, e120, e121, hK]
    | 4 =>
      simp only [List.getElem?_toArray, List.getElem?_cons_zero, List.getElem?_cons_succ, Option.some.injEq] at ho
      subst ho
      have p3 : b 3 = true := hd ⟨3, .data⟩ (by simp) rfl
      rw [tv4]
      show Does Try.prog _ a W _ (.agg #[.int .i64 z.t, .int .i64 z.n, .int .i64 z.sq, .int .i64 z.kd, .int .i64 z.ot, .int .i64 z.on, .int .i64 z.pt, .int .i64 z.pn, .string z.nm, .slice z.dp z.dl z.dc, .slice z.sp z.sl z.sc]) (Below W.heap.size W)
      have e122 : a.tmps[122]?.getD undef = .pointer (some ⟨gl, K * 11, none⟩) := (ev 3 122 rfl p3).trans (by rw [tv3]; rfl)
      have d9_0 := (hS.cell (p := ⟨gl, K * 11, none⟩) (cell_lt hd0)).trans hd0
      have d9_1 := (hS.cell (p := ⟨gl, K * 11 + 1, none⟩) (cell_lt hd1)).trans hd1
      have d9_2 := (hS.cell (p := ⟨gl, K * 11 + 2, none⟩) (cell_lt hd2)).trans hd2
      have d9_3 := (hS.cell (p := ⟨gl, K * 11 + 3, none⟩) (cell_lt hd3)).trans hd3
      have d9_4 := (hS.cell (p := ⟨gl, K * 11 + 4, none⟩) (cell_lt hd4)).trans hd4
      have d9_5 := (hS.cell (p := ⟨gl, K * 11 + 5, none⟩) (cell_lt hd5)).trans hd5
      have d9_6 := (hS.cell (p := ⟨gl, K * 11 + 6, none⟩) (cell_lt hd6)).trans hd6
      have d9_7 := (hS.cell (p := ⟨gl, K * 11 + 7, none⟩) (cell_lt hd7)).trans hd7
      have d9_8 := (hS.cell (p := ⟨gl, K * 11 + 8, none⟩) (cell_lt hd8)).trans hd8
      have d9_9 := (hS.cell (p := ⟨gl, K * 11 + 9, none⟩) (cell_lt hd9)).trans hd9
      have d9_10 := (hS.cell (p := ⟨gl, K * 11 + 10, none⟩) (cell_lt hd10)).trans hd10
      refine does_value rfl (by intro c h; cases h) (w' := W) ?_ (Below.refl _ _)
      · simp [execOp, go_sem, e122, d9_0, d9_1, d9_2, d9_3, d9_4, d9_5, d9_6, d9_7, d9_8, d9_9, d9_10]
    | 5 =>
      simp only [List.getElem?_toArray, List.getElem?_cons_zero, List.getElem?_cons_succ, Option.some.injEq] at ho
      subst ho
      have p4 : b 4 = true := hd ⟨4, .data⟩ (by simp) rfl
      rw [tv5]
      show Doesg Try.prog _ a W _ _
      have e123 : a.tmps[123]?.getD undef = .agg #[.int .i64 z.t, .int .i64 z.n, .int .i64 z.sq, .int .i64 z.kd, .int .i64 z.ot, .int .i64 z.on, .int .i64 z.pt, .int .i64 z.pn, .string z.nm, .slice z.dp z.dl z.dc, .slice z.sp z.sl z.sc] := (ev 4 123 rfl p4).trans (by rw [tv4]; rfl)
      refine doesg_call rfl (by intro c h; cases h) (f := 18) (args := #[.agg #[.int .i64 z.t, .int .i64 z.n, .int .i64 z.sq, .int .i64 z.kd, .int .i64 z.ot, .int .i64 z.on, .int .i64 z.pt, .int .i64 z.pn, .string z.nm, .slice z.dp z.dl z.dc, .slice z.sp z.sl z.sc]]) ?_ ?_
      · simp [go_sem, e123]
      · exact (cO W hS ).mono (fun e w' ⟨v, he, h⟩ => ⟨v, he, h.1, ⟨fun e => h.2, trivial⟩⟩)
    | 6 =>
      simp only [List.getElem?_toArray, List.getElem?_cons_zero, List.getElem?_cons_succ, Option.some.injEq] at ho
      subst ho
      have p0 : b 0 = true := hd ⟨0, .data⟩ (by simp) rfl
      have p5 : b 5 = true := hd ⟨5, .data⟩ (by simp) rfl
      rw [tv6]
      show Does Try.prog _ a W _ (.bool r) (Below W.heap.size W)
      have e119 : a.tmps[119]?.getD undef = .agg #[.int .i64 y.t, .int .i64 y.n, .int .i64 y.sq, .slice y.sp y.ns.length y.sc, .slice y.dp y.bs.length y.dc] := (ev 0 119 rfl p0).trans (by rw [tv0]; rfl)
      have F5 := (hF 5 p5 tv5).1 rfl
      have e124 : a.tmps[124]?.getD undef = g 5 := (ev 5 124 rfl p5).trans (by rw [tv5]; rfl)
      refine does_call rfl (by intro c h; cases h) (f := 19) (args := #[.agg #[.int .i64 y.t, .int .i64 y.n, .int .i64 y.sq, .slice y.sp y.ns.length y.sc, .slice y.dp y.bs.length y.dc], (g 5)]) ?_ ?_
      · simp [go_sem, e119, e124]
      · exact cB W hS (g 5) F5
    | 7 =>
      simp only [List.getElem?_toArray, List.getElem?_cons_zero, List.getElem?_cons_succ, Option.some.injEq] at ho
      subst ho
      rw [tv7]
      show Does Try.prog _ a W _ (.slice (some ⟨g0, 0, none⟩) m cm) (Below W.heap.size W)
      have e6 : a.tmps[6]?.getD undef = .slice (some ⟨g0, 0, none⟩) m cm := (kp 6 (none_till (by kernel_rfl))).trans b6
      refine does_value rfl (by intro c h; cases h) (w' := W) ?_ (Below.refl _ _)
      · simp [execOp, go_sem, e6]
    | 8 =>
      simp only [List.getElem?_toArray, List.getElem?_cons_zero, List.getElem?_cons_succ, Option.some.injEq] at ho
      subst ho
      rw [tv8]
      show Does Try.prog _ a W _ (.int .i64 (I : Nat)) (Below W.heap.size W)
      have e7 : a.tmps[7]?.getD undef = .int .i64 (I : Nat) := (kp 7 (none_till (by kernel_rfl))).trans b7
      refine does_value rfl (by intro c h; cases h) (w' := W) ?_ (Below.refl _ _)
      · simp [execOp, go_sem, e7]
    | 9 =>
      simp only [List.getElem?_toArray, List.getElem?_cons_zero, List.getElem?_cons_succ, Option.some.injEq] at ho
      subst ho
      have p7 : b 7 = true := hd ⟨7, .data⟩ (by simp) rfl
      have p8 : b 8 = true := hd ⟨8, .data⟩ (by simp) rfl
      rw [tv9]
      show Does Try.prog _ a W _ (.pointer (some ⟨g0, I * 11, none⟩)) (Below W.heap.size W)
      have e126 : a.tmps[126]?.getD undef = .slice (some ⟨g0, 0, none⟩) m cm := (ev 7 126 rfl p7).trans (by rw [tv7]; rfl)
      have e127 : a.tmps[127]?.getD undef = .int .i64 (I : Nat) := (ev 8 127 rfl p8).trans (by rw [tv8]; rfl)
      refine does_value rfl (by intro c h; cases h) (w' := W) ?_ (Below.refl _ _)
      · simp [execOp, go_sem, e126, e127, hI]
    | 10 =>
      simp only [List.getElem?_toArray, List.getElem?_cons_zero, List.getElem?_cons_succ, Option.some.injEq] at ho
      subst ho
      have p9 : b 9 = true := hd ⟨9, .data⟩ (by simp) rfl
      rw [tv10]
      show Does Try.prog _ a W _ (.agg #[.int .i64 x.t, .int .i64 x.n, .int .i64 x.sq, .int .i64 x.kd, .int .i64 x.ot, .int .i64 x.on, .int .i64 x.pt, .int .i64 x.pn, .string x.nm, .slice x.dp x.dl x.dc, .slice x.sp x.sl x.sc]) (Below W.heap.size W)
      have e128 : a.tmps[128]?.getD undef = .pointer (some ⟨g0, I * 11, none⟩) := (ev 9 128 rfl p9).trans (by rw [tv9]; rfl)
      have d9_0 := (hS.cell (p := ⟨g0, I * 11, none⟩) (cell_lt ha0)).trans ha0
      have d9_1 := (hS.cell (p := ⟨g0, I * 11 + 1, none⟩) (cell_lt ha1)).trans ha1
      have d9_2 := (hS.cell (p := ⟨g0, I * 11 + 2, none⟩) (cell_lt ha2)).trans ha2
      have d9_3 := (hS.cell (p := ⟨g0, I * 11 + 3, none⟩) (cell_lt ha3)).trans ha3
      have d9_4 := (hS.cell (p := ⟨g0, I * 11 + 4, none⟩) (cell_lt ha4)).trans ha4
      have d9_5 := (hS.cell (p := ⟨g0, I * 11 + 5, none⟩) (cell_lt ha5)).trans ha5
      have d9_6 := (hS.cell (p := ⟨g0, I * 11 + 6, none⟩) (cell_lt ha6)).trans ha6
      have d9_7 := (hS.cell (p := ⟨g0, I * 11 + 7, none⟩) (cell_lt ha7)).trans ha7
      have d9_8 := (hS.cell (p := ⟨g0, I * 11 + 8, none⟩) (cell_lt ha8)).trans ha8
      have d9_9 := (hS.cell (p := ⟨g0, I * 11 + 9, none⟩) (cell_lt ha9)).trans ha9
      have d9_10 := (hS.cell (p := ⟨g0, I * 11 + 10, none⟩) (cell_lt ha10)).trans ha10
      refine does_value rfl (by intro c h; cases h) (w' := W) ?_ (Below.refl _ _)
      · simp [execOp, go_sem, e128, d9_0, d9_1, d9_2, d9_3, d9_4, d9_5, d9_6, d9_7, d9_8, d9_9, d9_10]
    | 11 =>
      simp only [List.getElem?_toArray, List.getElem?_cons_zero, List.getElem?_cons_succ, Option.some.injEq] at ho
      subst ho
      rw [tv11]
      show Does Try.prog _ a W _ (.slice (some ⟨gl, 0, none⟩) n cl) (Below W.heap.size W)
      have e5 : a.tmps[5]?.getD undef = .slice (some ⟨gl, 0, none⟩) n cl := (kp 5 (none_till (by kernel_rfl))).trans b5
      refine does_value rfl (by intro c h; cases h) (w' := W) ?_ (Below.refl _ _)
      · simp [execOp, go_sem, e5]
    | 12 =>
      simp only [List.getElem?_toArray, List.getElem?_cons_zero, List.getElem?_cons_succ, Option.some.injEq] at ho
      subst ho
      rw [tv12]
      show Does Try.prog _ a W _ (.int .i64 (K : Nat)) (Below W.heap.size W)
      have e12 : a.tmps[12]?.getD undef = .int .i64 (K : Nat) := (kp 12 (none_till (by kernel_rfl))).trans b12
      refine does_value rfl (by intro c h; cases h) (w' := W) ?_ (Below.refl _ _)
      · simp [execOp, go_sem, e12]
    | 13 =>
      simp only [List.getElem?_toArray, List.getElem?_cons_zero, List.getElem?_cons_succ, Option.some.injEq] at ho
      subst ho
      have p11 : b 11 = true := hd ⟨11, .data⟩ (by simp) rfl
      have p12 : b 12 = true := hd ⟨12, .data⟩ (by simp) rfl
      rw [tv13]
      show Does Try.prog _ a W _ (.pointer (some ⟨gl, K * 11, none⟩)) (Below W.heap.size W)
      have e130 : a.tmps[130]?.getD undef = .slice (some ⟨gl, 0, none⟩) n cl := (ev 11 130 rfl p11).trans (by rw [tv11]; rfl)
      have e131 : a.tmps[131]?.getD undef = .int .i64 (K : Nat) := (ev 12 131 rfl p12).trans (by rw [tv12]; rfl)
      refine does_value rfl (by intro c h; cases h) (w' := W) ?_ (Below.refl _ _)
      · simp [execOp, go_sem, e130, e131, hK]
    | 14 =>
      simp only [List.getElem?_toArray, List.getElem?_cons_zero, List.getElem?_cons_succ, Option.some.injEq] at ho
      subst ho
      have p13 : b 13 = true := hd ⟨13, .data⟩ (by simp) rfl
      rw [tv14]
      show Does Try.prog _ a W _ (.agg #[.int .i64 z.t, .int .i64 z.n, .int .i64 z.sq, .int .i64 z.kd, .int .i64 z.ot, .int .i64 z.on, .int .i64 z.pt, .int .i64 z.pn, .string z.nm, .slice z.dp z.dl z.dc, .slice z.sp z.sl z.sc]) (Below W.heap.size W)
      have e132 : a.tmps[132]?.getD undef = .pointer (some ⟨gl, K * 11, none⟩) := (ev 13 132 rfl p13).trans (by rw [tv13]; rfl)
      have d9_0 := (hS.cell (p := ⟨gl, K * 11, none⟩) (cell_lt hd0)).trans hd0
      have d9_1 := (hS.cell (p := ⟨gl, K * 11 + 1, none⟩) (cell_lt hd1)).trans hd1
      have d9_2 := (hS.cell (p := ⟨gl, K * 11 + 2, none⟩) (cell_lt hd2)).trans hd2
      have d9_3 := (hS.cell (p := ⟨gl, K * 11 + 3, none⟩) (cell_lt hd3)).trans hd3
      have d9_4 := (hS.cell (p := ⟨gl, K * 11 + 4, none⟩) (cell_lt hd4)).trans hd4
      have d9_5 := (hS.cell (p := ⟨gl, K * 11 + 5, none⟩) (cell_lt hd5)).trans hd5
      have d9_6 := (hS.cell (p := ⟨gl, K * 11 + 6, none⟩) (cell_lt hd6)).trans hd6
      have d9_7 := (hS.cell (p := ⟨gl, K * 11 + 7, none⟩) (cell_lt hd7)).trans hd7
      have d9_8 := (hS.cell (p := ⟨gl, K * 11 + 8, none⟩) (cell_lt hd8)).trans hd8
      have d9_9 := (hS.cell (p := ⟨gl, K * 11 + 9, none⟩) (cell_lt hd9)).trans hd9
      have d9_10 := (hS.cell (p := ⟨gl, K * 11 + 10, none⟩) (cell_lt hd10)).trans hd10
      refine does_value rfl (by intro c h; cases h) (w' := W) ?_ (Below.refl _ _)
      · simp [execOp, go_sem, e132, d9_0, d9_1, d9_2, d9_3, d9_4, d9_5, d9_6, d9_7, d9_8, d9_9, d9_10]
    | 15 =>
      simp only [List.getElem?_toArray, List.getElem?_cons_zero, List.getElem?_cons_succ, Option.some.injEq] at ho
      subst ho
      have p10 : b 10 = true := hd ⟨10, .data⟩ (by simp) rfl
      have p14 : b 14 = true := hd ⟨14, .data⟩ (by simp) rfl
      rw [tv15]
      show Does Try.prog _ a W _ (.bool r) (Below W.heap.size W)
      have e129 : a.tmps[129]?.getD undef = .agg #[.int .i64 x.t, .int .i64 x.n, .int .i64 x.sq, .int .i64 x.kd, .int .i64 x.ot, .int .i64 x.on, .int .i64 x.pt, .int .i64 x.pn, .string x.nm, .slice x.dp x.dl x.dc, .slice x.sp x.sl x.sc] := (ev 10 129 rfl p10).trans (by rw [tv10]; rfl)
      have e133 : a.tmps[133]?.getD undef = .agg #[.int .i64 z.t, .int .i64 z.n, .int .i64 z.sq, .int .i64 z.kd, .int .i64 z.ot, .int .i64 z.on, .int .i64 z.pt, .int .i64 z.pn, .string z.nm, .slice z.dp z.dl z.dc, .slice z.sp z.sl z.sc] := (ev 14 133 rfl p14).trans (by rw [tv14]; rfl)
      refine does_call rfl (by intro c h; cases h) (f := 20) (args := #[.agg #[.int .i64 x.t, .int .i64 x.n, .int .i64 x.sq, .int .i64 x.kd, .int .i64 x.ot, .int .i64 x.on, .int .i64 x.pt, .int .i64 x.pn, .string x.nm, .slice x.dp x.dl x.dc, .slice x.sp x.sl x.sc], .agg #[.int .i64 z.t, .int .i64 z.n, .int .i64 z.sq, .int .i64 z.kd, .int .i64 z.ot, .int .i64 z.on, .int .i64 z.pt, .int .i64 z.pn, .string z.nm, .slice z.dp z.dl z.dc, .slice z.sp z.sl z.sc]]) ?_ ?_
      · simp [go_sem, e129, e133]
      · exact cR W hS 
    | 16 =>
      simp only [List.getElem?_toArray, List.getElem?_cons_zero, List.getElem?_cons_succ, Option.some.injEq] at ho
      subst ho
      have p6 : b 6 = true := hd ⟨6, .data⟩ (by simp) rfl
      have p15 : b 15 = true := hd ⟨15, .data⟩ (by simp) rfl
      rw [tv16]
      show Does Try.prog _ a W _ (.bool false) (Below W.heap.size W)
      have e125 : a.tmps[125]?.getD undef = .bool r := (ev 6 125 rfl p6).trans (by rw [tv6]; rfl)
      have e134 : a.tmps[134]?.getD undef = .bool r := (ev 15 134 rfl p15).trans (by rw [tv15]; rfl)
      refine does_value rfl (by intro c h; cases h) (w' := W) ?_ (Below.refl _ _)
      · simp [execOp, go_sem, e125, e134]
    | k + 17 => simp at ho
  · intro g W hS hF
    subst hLe
    exact hQ (g 5) W hS ((hF 5 (by decide) rfl).1 rfl)

end Go.Proofs.Yteimjkicinjcgaa.Ck.Y.L
