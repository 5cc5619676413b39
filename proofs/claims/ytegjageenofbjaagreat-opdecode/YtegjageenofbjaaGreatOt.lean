/-
  The second region of OpCode: both operations are cut, in any order.
-/
import Derived.Test.YtegjageenofbjaaGreatOs
namespace Go.Proofs.YtegjageenofbjaaGreat.Cd
open Go.RowKit Go.Maps

theorem chain_block {W : World} {g : Nat} (x0 x1 x2 x3 x4 x5 x6 x7 x8 x9 x10 y0 y1 y2 y3 y4 y5 y6 y7 y8 y9 y10 : Value) (h : W.heap[g]? = some (.cells #[y0, y1, y2, y3, y4, y5, y6, y7, y8, y9, y10] 28 (0, 0))) :
    (((((((((((W.setCell ⟨g, 0, none⟩ x0).setCell ⟨g, 1, none⟩ x1).setCell ⟨g, 2, none⟩ x2).setCell ⟨g, 3, none⟩ x3).setCell ⟨g, 4, none⟩ x4).setCell ⟨g, 5, none⟩ x5).setCell ⟨g, 6, none⟩ x6).setCell ⟨g, 7, none⟩ x7).setCell ⟨g, 8, none⟩ x8).setCell ⟨g, 9, none⟩ x9).setCell ⟨g, 10, none⟩ x10).heap[g]? = some (.cells #[x0, x1, x2, x3, x4, x5, x6, x7, x8, x9, x10] 28 (0, 0)) := by
  have h0 : (W.setCell ⟨g, 0, none⟩ x0).heap[g]? = some (.cells #[x0, y1, y2, y3, y4, y5, y6, y7, y8, y9, y10] 28 (0, 0)) := heap_set_same h x0
  have h1 : ((W.setCell ⟨g, 0, none⟩ x0).setCell ⟨g, 1, none⟩ x1).heap[g]? = some (.cells #[x0, x1, y2, y3, y4, y5, y6, y7, y8, y9, y10] 28 (0, 0)) := heap_set_same h0 x1
  have h2 : (((W.setCell ⟨g, 0, none⟩ x0).setCell ⟨g, 1, none⟩ x1).setCell ⟨g, 2, none⟩ x2).heap[g]? = some (.cells #[x0, x1, x2, y3, y4, y5, y6, y7, y8, y9, y10] 28 (0, 0)) := heap_set_same h1 x2
  have h3 : ((((W.setCell ⟨g, 0, none⟩ x0).setCell ⟨g, 1, none⟩ x1).setCell ⟨g, 2, none⟩ x2).setCell ⟨g, 3, none⟩ x3).heap[g]? = some (.cells #[x0, x1, x2, x3, y4, y5, y6, y7, y8, y9, y10] 28 (0, 0)) := heap_set_same h2 x3
  have h4 : (((((W.setCell ⟨g, 0, none⟩ x0).setCell ⟨g, 1, none⟩ x1).setCell ⟨g, 2, none⟩ x2).setCell ⟨g, 3, none⟩ x3).setCell ⟨g, 4, none⟩ x4).heap[g]? = some (.cells #[x0, x1, x2, x3, x4, y5, y6, y7, y8, y9, y10] 28 (0, 0)) := heap_set_same h3 x4
  have h5 : ((((((W.setCell ⟨g, 0, none⟩ x0).setCell ⟨g, 1, none⟩ x1).setCell ⟨g, 2, none⟩ x2).setCell ⟨g, 3, none⟩ x3).setCell ⟨g, 4, none⟩ x4).setCell ⟨g, 5, none⟩ x5).heap[g]? = some (.cells #[x0, x1, x2, x3, x4, x5, y6, y7, y8, y9, y10] 28 (0, 0)) := heap_set_same h4 x5
  have h6 : (((((((W.setCell ⟨g, 0, none⟩ x0).setCell ⟨g, 1, none⟩ x1).setCell ⟨g, 2, none⟩ x2).setCell ⟨g, 3, none⟩ x3).setCell ⟨g, 4, none⟩ x4).setCell ⟨g, 5, none⟩ x5).setCell ⟨g, 6, none⟩ x6).heap[g]? = some (.cells #[x0, x1, x2, x3, x4, x5, x6, y7, y8, y9, y10] 28 (0, 0)) := heap_set_same h5 x6
  have h7 : ((((((((W.setCell ⟨g, 0, none⟩ x0).setCell ⟨g, 1, none⟩ x1).setCell ⟨g, 2, none⟩ x2).setCell ⟨g, 3, none⟩ x3).setCell ⟨g, 4, none⟩ x4).setCell ⟨g, 5, none⟩ x5).setCell ⟨g, 6, none⟩ x6).setCell ⟨g, 7, none⟩ x7).heap[g]? = some (.cells #[x0, x1, x2, x3, x4, x5, x6, x7, y8, y9, y10] 28 (0, 0)) := heap_set_same h6 x7
  have h8 : (((((((((W.setCell ⟨g, 0, none⟩ x0).setCell ⟨g, 1, none⟩ x1).setCell ⟨g, 2, none⟩ x2).setCell ⟨g, 3, none⟩ x3).setCell ⟨g, 4, none⟩ x4).setCell ⟨g, 5, none⟩ x5).setCell ⟨g, 6, none⟩ x6).setCell ⟨g, 7, none⟩ x7).setCell ⟨g, 8, none⟩ x8).heap[g]? = some (.cells #[x0, x1, x2, x3, x4, x5, x6, x7, x8, y9, y10] 28 (0, 0)) := heap_set_same h7 x8
  have h9 : ((((((((((W.setCell ⟨g, 0, none⟩ x0).setCell ⟨g, 1, none⟩ x1).setCell ⟨g, 2, none⟩ x2).setCell ⟨g, 3, none⟩ x3).setCell ⟨g, 4, none⟩ x4).setCell ⟨g, 5, none⟩ x5).setCell ⟨g, 6, none⟩ x6).setCell ⟨g, 7, none⟩ x7).setCell ⟨g, 8, none⟩ x8).setCell ⟨g, 9, none⟩ x9).heap[g]? = some (.cells #[x0, x1, x2, x3, x4, x5, x6, x7, x8, x9, y10] 28 (0, 0)) := heap_set_same h8 x9
  have h10 : (((((((((((W.setCell ⟨g, 0, none⟩ x0).setCell ⟨g, 1, none⟩ x1).setCell ⟨g, 2, none⟩ x2).setCell ⟨g, 3, none⟩ x3).setCell ⟨g, 4, none⟩ x4).setCell ⟨g, 5, none⟩ x5).setCell ⟨g, 6, none⟩ x6).setCell ⟨g, 7, none⟩ x7).setCell ⟨g, 8, none⟩ x8).setCell ⟨g, 9, none⟩ x9).setCell ⟨g, 10, none⟩ x10).heap[g]? = some (.cells #[x0, x1, x2, x3, x4, x5, x6, x7, x8, x9, x10] 28 (0, 0)) := heap_set_same h9 x10
  exact h10

set_option maxRecDepth 8000 in
set_option maxHeartbeats 4000000 in
theorem code_two {Q : Exit → Act → World → Prop} {base : Array Value} {dd : List Deferred} {ops : Array Oper} (hops : Tryz.f3.body.bind (regs 2) = some ops) (g g2 lx mx lx' mx' : Nat) (nx nx' : List UInt8) (t n sq kd ot on pt pn : Int) (nm : List UInt8) (p q : Option Addr) (l c m d : Nat) (t' n' sq' kd' ot' on' pt' pn' : Int) (nm' : List UInt8) (p' q' : Option Addr) (l' c' m' d' : Nat) (w9 : World) (hsz : base.size = 93)
    (b2 : base.getD 2 undef = .pointer (some ⟨g, 0, none⟩)) (b3 : base.getD 3 undef = .pointer (some ⟨g2, 0, none⟩)) (h9 : OpB w9 g t n sq kd ot on pt pn nm p q l c m d) (h9b : OpB w9 g2 t' n' sq' kd' ot' on' pt' pn' nm' p' q' l' c' m' d') (hne : g ≠ g2)
    (cA : ∀ W, Only (fun k => k = g ∨ k = g2) w9 W → Calls Tryz.prog 6 #[.agg #[.int .i64 t, .int .i64 n, .int .i64 sq, .int .i64 kd, .int .i64 ot, .int .i64 on, .int .i64 pt, .int .i64 pn, .string (bas nm), .slice p l c, .slice q m d]] W fun e w' => e = .returned (.agg #[.int .i64 t, .int .i64 n, .int .i64 sq, .int .i64 kd, .int .i64 ot, .int .i64 on, .int .i64 pt, .int .i64 pn, .string (bas nx), .slice p lx c, .slice q mx d]) ∧ Below W.heap.size W w')
    (cB : ∀ W, Only (fun k => k = g ∨ k = g2) w9 W → Calls Tryz.prog 6 #[.agg #[.int .i64 t', .int .i64 n', .int .i64 sq', .int .i64 kd', .int .i64 ot', .int .i64 on', .int .i64 pt', .int .i64 pn', .string (bas nm'), .slice p' l' c', .slice q' m' d']] W fun e w' => e = .returned (.agg #[.int .i64 t', .int .i64 n', .int .i64 sq', .int .i64 kd', .int .i64 ot', .int .i64 on', .int .i64 pt', .int .i64 pn', .string (bas nx'), .slice p' lx' c', .slice q' mx' d']) ∧ Below W.heap.size W w')
    (hQ : ∀ W, OpB W g t n sq kd ot on pt pn nx p q lx c mx d → OpB W g2 t' n' sq' kd' ot' on' pt' pn' nx' p' q' lx' c' mx' d' → Only (fun k => k = g ∨ k = g2) w9 W → Q .normal ⟨putAll base [(some 13, .agg #[.int .i64 t, .int .i64 n, .int .i64 sq, .int .i64 kd, .int .i64 ot, .int .i64 on, .int .i64 pt, .int .i64 pn, .string (bas nm), .slice p l c, .slice q m d]), (some 14, .agg #[.int .i64 t, .int .i64 n, .int .i64 sq, .int .i64 kd, .int .i64 ot, .int .i64 on, .int .i64 pt, .int .i64 pn, .string (bas nx), .slice p lx c, .slice q mx d]), (some 15, .agg #[.int .i64 t', .int .i64 n', .int .i64 sq', .int .i64 kd', .int .i64 ot', .int .i64 on', .int .i64 pt', .int .i64 pn', .string (bas nm'), .slice p' l' c', .slice q' m' d']), (some 16, .agg #[.int .i64 t', .int .i64 n', .int .i64 sq', .int .i64 kd', .int .i64 ot', .int .i64 on', .int .i64 pt', .int .i64 pn', .string (bas nx'), .slice p' lx' c', .slice q' mx' d']), (none, undef), (none, undef)], dd⟩ W) :
    (Code.region 2 ops true).wp Tryz.prog Q ⟨base, dd⟩ w9 := by
  have hmix : Tryz.prog.follows .mixedOrders = true := by kernel_rfl
  have h2 := (show Tryz.f3.body.bind (regs 2) = some _ from rfl).symm.trans hops
  obtain rfl := Option.some.inj h2
  clear h2 hops
  have vv0 : ∀ u : Unit, vals ((fun _ : Unit => [(some 13, .agg #[.int .i64 t, .int .i64 n, .int .i64 sq, .int .i64 kd, .int .i64 ot, .int .i64 on, .int .i64 pt, .int .i64 pn, .string (bas nm), .slice p l c, .slice q m d]), (some 14, .agg #[.int .i64 t, .int .i64 n, .int .i64 sq, .int .i64 kd, .int .i64 ot, .int .i64 on, .int .i64 pt, .int .i64 pn, .string (bas nx), .slice p lx c, .slice q mx d]), (some 15, .agg #[.int .i64 t', .int .i64 n', .int .i64 sq', .int .i64 kd', .int .i64 ot', .int .i64 on', .int .i64 pt', .int .i64 pn', .string (bas nm'), .slice p' l' c', .slice q' m' d']), (some 16, .agg #[.int .i64 t', .int .i64 n', .int .i64 sq', .int .i64 kd', .int .i64 ot', .int .i64 on', .int .i64 pt', .int .i64 pn', .string (bas nx'), .slice p' lx' c', .slice q' mx' d']), (none, undef), (none, undef)]) u) 0 = .agg #[.int .i64 t, .int .i64 n, .int .i64 sq, .int .i64 kd, .int .i64 ot, .int .i64 on, .int .i64 pt, .int .i64 pn, .string (bas nm), .slice p l c, .slice q m d] := fun _ => rfl
  have vv1 : ∀ u : Unit, vals ((fun _ : Unit => [(some 13, .agg #[.int .i64 t, .int .i64 n, .int .i64 sq, .int .i64 kd, .int .i64 ot, .int .i64 on, .int .i64 pt, .int .i64 pn, .string (bas nm), .slice p l c, .slice q m d]), (some 14, .agg #[.int .i64 t, .int .i64 n, .int .i64 sq, .int .i64 kd, .int .i64 ot, .int .i64 on, .int .i64 pt, .int .i64 pn, .string (bas nx), .slice p lx c, .slice q mx d]), (some 15, .agg #[.int .i64 t', .int .i64 n', .int .i64 sq', .int .i64 kd', .int .i64 ot', .int .i64 on', .int .i64 pt', .int .i64 pn', .string (bas nm'), .slice p' l' c', .slice q' m' d']), (some 16, .agg #[.int .i64 t', .int .i64 n', .int .i64 sq', .int .i64 kd', .int .i64 ot', .int .i64 on', .int .i64 pt', .int .i64 pn', .string (bas nx'), .slice p' lx' c', .slice q' mx' d']), (none, undef), (none, undef)]) u) 1 = .agg #[.int .i64 t, .int .i64 n, .int .i64 sq, .int .i64 kd, .int .i64 ot, .int .i64 on, .int .i64 pt, .int .i64 pn, .string (bas nx), .slice p lx c, .slice q mx d] := fun _ => rfl
  have vv2 : ∀ u : Unit, vals ((fun _ : Unit => [(some 13, .agg #[.int .i64 t, .int .i64 n, .int .i64 sq, .int .i64 kd, .int .i64 ot, .int .i64 on, .int .i64 pt, .int .i64 pn, .string (bas nm), .slice p l c, .slice q m d]), (some 14, .agg #[.int .i64 t, .int .i64 n, .int .i64 sq, .int .i64 kd, .int .i64 ot, .int .i64 on, .int .i64 pt, .int .i64 pn, .string (bas nx), .slice p lx c, .slice q mx d]), (some 15, .agg #[.int .i64 t', .int .i64 n', .int .i64 sq', .int .i64 kd', .int .i64 ot', .int .i64 on', .int .i64 pt', .int .i64 pn', .string (bas nm'), .slice p' l' c', .slice q' m' d']), (some 16, .agg #[.int .i64 t', .int .i64 n', .int .i64 sq', .int .i64 kd', .int .i64 ot', .int .i64 on', .int .i64 pt', .int .i64 pn', .string (bas nx'), .slice p' lx' c', .slice q' mx' d']), (none, undef), (none, undef)]) u) 2 = .agg #[.int .i64 t', .int .i64 n', .int .i64 sq', .int .i64 kd', .int .i64 ot', .int .i64 on', .int .i64 pt', .int .i64 pn', .string (bas nm'), .slice p' l' c', .slice q' m' d'] := fun _ => rfl
  have vv3 : ∀ u : Unit, vals ((fun _ : Unit => [(some 13, .agg #[.int .i64 t, .int .i64 n, .int .i64 sq, .int .i64 kd, .int .i64 ot, .int .i64 on, .int .i64 pt, .int .i64 pn, .string (bas nm), .slice p l c, .slice q m d]), (some 14, .agg #[.int .i64 t, .int .i64 n, .int .i64 sq, .int .i64 kd, .int .i64 ot, .int .i64 on, .int .i64 pt, .int .i64 pn, .string (bas nx), .slice p lx c, .slice q mx d]), (some 15, .agg #[.int .i64 t', .int .i64 n', .int .i64 sq', .int .i64 kd', .int .i64 ot', .int .i64 on', .int .i64 pt', .int .i64 pn', .string (bas nm'), .slice p' l' c', .slice q' m' d']), (some 16, .agg #[.int .i64 t', .int .i64 n', .int .i64 sq', .int .i64 kd', .int .i64 ot', .int .i64 on', .int .i64 pt', .int .i64 pn', .string (bas nx'), .slice p' lx' c', .slice q' mx' d']), (none, undef), (none, undef)]) u) 3 = .agg #[.int .i64 t', .int .i64 n', .int .i64 sq', .int .i64 kd', .int .i64 ot', .int .i64 on', .int .i64 pt', .int .i64 pn', .string (bas nx'), .slice p' lx' c', .slice q' mx' d'] := fun _ => rfl
  have vv4 : ∀ u : Unit, vals ((fun _ : Unit => [(some 13, .agg #[.int .i64 t, .int .i64 n, .int .i64 sq, .int .i64 kd, .int .i64 ot, .int .i64 on, .int .i64 pt, .int .i64 pn, .string (bas nm), .slice p l c, .slice q m d]), (some 14, .agg #[.int .i64 t, .int .i64 n, .int .i64 sq, .int .i64 kd, .int .i64 ot, .int .i64 on, .int .i64 pt, .int .i64 pn, .string (bas nx), .slice p lx c, .slice q mx d]), (some 15, .agg #[.int .i64 t', .int .i64 n', .int .i64 sq', .int .i64 kd', .int .i64 ot', .int .i64 on', .int .i64 pt', .int .i64 pn', .string (bas nm'), .slice p' l' c', .slice q' m' d']), (some 16, .agg #[.int .i64 t', .int .i64 n', .int .i64 sq', .int .i64 kd', .int .i64 ot', .int .i64 on', .int .i64 pt', .int .i64 pn', .string (bas nx'), .slice p' lx' c', .slice q' mx' d']), (none, undef), (none, undef)]) u) 4 = undef := fun _ => rfl
  have vv5 : ∀ u : Unit, vals ((fun _ : Unit => [(some 13, .agg #[.int .i64 t, .int .i64 n, .int .i64 sq, .int .i64 kd, .int .i64 ot, .int .i64 on, .int .i64 pt, .int .i64 pn, .string (bas nm), .slice p l c, .slice q m d]), (some 14, .agg #[.int .i64 t, .int .i64 n, .int .i64 sq, .int .i64 kd, .int .i64 ot, .int .i64 on, .int .i64 pt, .int .i64 pn, .string (bas nx), .slice p lx c, .slice q mx d]), (some 15, .agg #[.int .i64 t', .int .i64 n', .int .i64 sq', .int .i64 kd', .int .i64 ot', .int .i64 on', .int .i64 pt', .int .i64 pn', .string (bas nm'), .slice p' l' c', .slice q' m' d']), (some 16, .agg #[.int .i64 t', .int .i64 n', .int .i64 sq', .int .i64 kd', .int .i64 ot', .int .i64 on', .int .i64 pt', .int .i64 pn', .string (bas nx'), .slice p' lx' c', .slice q' mx' d']), (none, undef), (none, undef)]) u) 5 = undef := fun _ => rfl
  refine region_laidg hmix (by kernel_rfl) 93 hsz (by kernel_rfl) () (fun _ : Unit => [(some 13, .agg #[.int .i64 t, .int .i64 n, .int .i64 sq, .int .i64 kd, .int .i64 ot, .int .i64 on, .int .i64 pt, .int .i64 pn, .string (bas nm), .slice p l c, .slice q m d]), (some 14, .agg #[.int .i64 t, .int .i64 n, .int .i64 sq, .int .i64 kd, .int .i64 ot, .int .i64 on, .int .i64 pt, .int .i64 pn, .string (bas nx), .slice p lx c, .slice q mx d]), (some 15, .agg #[.int .i64 t', .int .i64 n', .int .i64 sq', .int .i64 kd', .int .i64 ot', .int .i64 on', .int .i64 pt', .int .i64 pn', .string (bas nm'), .slice p' l' c', .slice q' m' d']), (some 16, .agg #[.int .i64 t', .int .i64 n', .int .i64 sq', .int .i64 kd', .int .i64 ot', .int .i64 on', .int .i64 pt', .int .i64 pn', .string (bas nx'), .slice p' lx' c', .slice q' mx' d']), (none, undef), (none, undef)]) (fun _ => rfl)
    (fun _ b W => W.heap[g]? = some (.cells (if b 4 then #[.int .i64 t, .int .i64 n, .int .i64 sq, .int .i64 kd, .int .i64 ot, .int .i64 on, .int .i64 pt, .int .i64 pn, .string (bas nx), .slice p lx c, .slice q mx d] else #[.int .i64 t, .int .i64 n, .int .i64 sq, .int .i64 kd, .int .i64 ot, .int .i64 on, .int .i64 pt, .int .i64 pn, .string (bas nm), .slice p l c, .slice q m d]) 28 (0, 0)) ∧ W.heap[g2]? = some (.cells (if b 5 then #[.int .i64 t', .int .i64 n', .int .i64 sq', .int .i64 kd', .int .i64 ot', .int .i64 on', .int .i64 pt', .int .i64 pn', .string (bas nx'), .slice p' lx' c', .slice q' mx' d'] else #[.int .i64 t', .int .i64 n', .int .i64 sq', .int .i64 kd', .int .i64 ot', .int .i64 on', .int .i64 pt', .int .i64 pn', .string (bas nm'), .slice p' l' c', .slice q' m' d']) 28 (0, 0)) ∧ Only (fun k => k = g ∨ k = g2) w9 W)
    ⟨h9, h9b, ⟨rfl, rfl, rfl, Nat.le_refl _, fun _ _ _ => rfl⟩⟩ ?_ ?_
  · intro u b W io o a hS hcl ho hb hd ev kp yl
    obtain ⟨hS1, hS2, hS3⟩ := hS
    match io with
    | 0 =>
      simp only [List.getElem?_toArray, List.getElem?_cons_zero, Option.some.injEq] at ho
      subst ho
      have h4 : b 4 = false := by
        cases h : b 4 with
        | false => rfl
        | true => exact absurd (hcl 1 _ rfl (hcl 4 _ rfl h ⟨1, .data⟩ (by simp) rfl) ⟨0, .data⟩ (by simp) rfl) (by simp [hb])
      have e2 : a.tmps[2]?.getD undef = .pointer (some ⟨g, 0, none⟩) := (kp 2 (none_till (by kernel_rfl))).trans b2
      have hO : OpB W g t n sq kd ot on pt pn nm p q l c m d := by rw [h4] at hS1; exact hS1
      obtain ⟨d0, d1, d2, d3, d4, d5, d6, d7, d8, d9, d10⟩ := hO.cells
      refine doesg_value rfl (by intro c h; cases h) (v := .agg #[.int .i64 t, .int .i64 n, .int .i64 sq, .int .i64 kd, .int .i64 ot, .int .i64 on, .int .i64 pt, .int .i64 pn, .string (bas nm), .slice p l c, .slice q m d]) (w' := W) ?_ ⟨(), fun _ _ => rfl, (vv0 ()).symm, ?_⟩
      · simp [execOp, go_sem, e2, d0, d1, d2, d3, d4, d5, d6, d7, d8, d9, d10]
      · exact ⟨by simpa [did] using hS1, by simpa [did] using hS2, hS3⟩
    | 1 =>
      simp only [List.getElem?_toArray, List.getElem?_cons_zero, List.getElem?_cons_succ, Option.some.injEq] at ho
      subst ho
      have p0 : b 0 = true := hd ⟨0, .data⟩ (by simp) rfl
      have e13 := (ev 0 13 rfl p0).trans (vv0 ())
      refine doesg_call rfl (by intro c h; cases h) (f := 6) (args := #[.agg #[.int .i64 t, .int .i64 n, .int .i64 sq, .int .i64 kd, .int .i64 ot, .int .i64 on, .int .i64 pt, .int .i64 pn, .string (bas nm), .slice p l c, .slice q m d]]) ?_ ?_
      · simp [go_sem, e13]
      · refine (cA W hS3).mono ?_
        rintro e w' ⟨rfl, hB⟩
        exact ⟨_, rfl, (), fun _ _ => rfl, (vv1 ()).symm, (hB.block g (block_lt hS1)).trans hS1, (hB.block g2 (block_lt hS2)).trans hS2, hS3.next (Below.only hB _)⟩
    | 2 =>
      simp only [List.getElem?_toArray, List.getElem?_cons_zero, List.getElem?_cons_succ, Option.some.injEq] at ho
      subst ho
      have h5 : b 5 = false := by
        cases h : b 5 with
        | false => rfl
        | true => exact absurd (hcl 3 _ rfl (hcl 5 _ rfl h ⟨3, .data⟩ (by simp) rfl) ⟨2, .data⟩ (by simp) rfl) (by simp [hb])
      have e3 : a.tmps[3]?.getD undef = .pointer (some ⟨g2, 0, none⟩) := (kp 3 (none_till (by kernel_rfl))).trans b3
      have hO : OpB W g2 t' n' sq' kd' ot' on' pt' pn' nm' p' q' l' c' m' d' := by rw [h5] at hS2; exact hS2
      obtain ⟨d0, d1, d2, d3, d4, d5, d6, d7, d8, d9, d10⟩ := hO.cells
      refine doesg_value rfl (by intro c h; cases h) (v := .agg #[.int .i64 t', .int .i64 n', .int .i64 sq', .int .i64 kd', .int .i64 ot', .int .i64 on', .int .i64 pt', .int .i64 pn', .string (bas nm'), .slice p' l' c', .slice q' m' d']) (w' := W) ?_ ⟨(), fun _ _ => rfl, (vv2 ()).symm, ?_⟩
      · simp [execOp, go_sem, e3, d0, d1, d2, d3, d4, d5, d6, d7, d8, d9, d10]
      · exact ⟨by simpa [did] using hS1, by simpa [did] using hS2, hS3⟩
    | 3 =>
      simp only [List.getElem?_toArray, List.getElem?_cons_zero, List.getElem?_cons_succ, Option.some.injEq] at ho
      subst ho
      have p2 : b 2 = true := hd ⟨2, .data⟩ (by simp) rfl
      have e15 := (ev 2 15 rfl p2).trans (vv2 ())
      refine doesg_call rfl (by intro c h; cases h) (f := 6) (args := #[.agg #[.int .i64 t', .int .i64 n', .int .i64 sq', .int .i64 kd', .int .i64 ot', .int .i64 on', .int .i64 pt', .int .i64 pn', .string (bas nm'), .slice p' l' c', .slice q' m' d']]) ?_ ?_
      · simp [go_sem, e15]
      · refine (cB W hS3).mono ?_
        rintro e w' ⟨rfl, hB⟩
        exact ⟨_, rfl, (), fun _ _ => rfl, (vv3 ()).symm, (hB.block g (block_lt hS1)).trans hS1, (hB.block g2 (block_lt hS2)).trans hS2, hS3.next (Below.only hB _)⟩
    | 4 =>
      simp only [List.getElem?_toArray, List.getElem?_cons_zero, List.getElem?_cons_succ, Option.some.injEq] at ho
      subst ho
      have p1 : b 1 = true := hd ⟨1, .data⟩ (by simp) rfl
      have e14 := (ev 1 14 rfl p1).trans (vv1 ())
      have e2 : a.tmps[2]?.getD undef = .pointer (some ⟨g, 0, none⟩) := (kp 2 (none_till (by kernel_rfl))).trans b2
      have hO : OpB W g t n sq kd ot on pt pn nm p q l c m d := by rw [hb] at hS1; exact hS1
      obtain ⟨d0, d1, d2, d3, d4, d5, d6, d7, d8, d9, d10⟩ := hO.cells
      have fz : ∀ k, W.frozen? ⟨g, k, none⟩ = false := fun k => frozenOf hO k
      have ⟨f0, f1, f2, f3, f4, f5, f6, f7, f8, f9, f10⟩ := (⟨fz 0, fz 1, fz 2, fz 3, fz 4, fz 5, fz 6, fz 7, fz 8, fz 9, fz 10⟩ : W.frozen? ⟨g, 0, none⟩ = false ∧ W.frozen? ⟨g, 1, none⟩ = false ∧ W.frozen? ⟨g, 2, none⟩ = false ∧ W.frozen? ⟨g, 3, none⟩ = false ∧ W.frozen? ⟨g, 4, none⟩ = false ∧ W.frozen? ⟨g, 5, none⟩ = false ∧ W.frozen? ⟨g, 6, none⟩ = false ∧ W.frozen? ⟨g, 7, none⟩ = false ∧ W.frozen? ⟨g, 8, none⟩ = false ∧ W.frozen? ⟨g, 9, none⟩ = false ∧ W.frozen? ⟨g, 10, none⟩ = false)
      have hX := chain11 W g (.int .i64 t) (.int .i64 n) (.int .i64 sq) (.int .i64 kd) (.int .i64 ot) (.int .i64 on) (.int .i64 pt) (.int .i64 pn) (.string (bas nx)) (.slice p lx c) (.slice q mx d)
      refine doesg_skip rfl (by intro c h; cases h) (w' := (((((((((((W.setCell ⟨g, 0, none⟩ (.int .i64 t)).setCell ⟨g, 1, none⟩ (.int .i64 n)).setCell ⟨g, 2, none⟩ (.int .i64 sq)).setCell ⟨g, 3, none⟩ (.int .i64 kd)).setCell ⟨g, 4, none⟩ (.int .i64 ot)).setCell ⟨g, 5, none⟩ (.int .i64 on)).setCell ⟨g, 6, none⟩ (.int .i64 pt)).setCell ⟨g, 7, none⟩ (.int .i64 pn)).setCell ⟨g, 8, none⟩ (.string (bas nx))).setCell ⟨g, 9, none⟩ (.slice p lx c)).setCell ⟨g, 10, none⟩ (.slice q mx d))) ?_ ⟨(), fun _ _ => rfl, (vv4 ()).symm, ?_⟩
      · simp [execOp, go_sem, e2, e14, d0, d1, d2, d3, d4, d5, d6, d7, d8, d9, d10, f0, f1, f2, f3, f4, f5, f6, f7, f8, f9, f10]
      · refine ⟨?_, ?_, hS3.trans hX (fun i hi => .inl (.inl hi))⟩
        · rw [show did b 4 4 = true from rfl, if_pos rfl]
          exact chain_block _ _ _ _ _ _ _ _ _ _ _ _ _ _ _ _ _ _ _ _ _ _ hO
        · rw [show did b 4 5 = b 5 from rfl]
          exact (hX.block g2 (block_lt hS2) (fun e => hne e.symm)).trans hS2
    | 5 =>
      simp only [List.getElem?_toArray, List.getElem?_cons_zero, List.getElem?_cons_succ, Option.some.injEq] at ho
      subst ho
      have p3 : b 3 = true := hd ⟨3, .data⟩ (by simp) rfl
      have e16 := (ev 3 16 rfl p3).trans (vv3 ())
      have e3 : a.tmps[3]?.getD undef = .pointer (some ⟨g2, 0, none⟩) := (kp 3 (none_till (by kernel_rfl))).trans b3
      have hO : OpB W g2 t' n' sq' kd' ot' on' pt' pn' nm' p' q' l' c' m' d' := by rw [hb] at hS2; exact hS2
      obtain ⟨d0, d1, d2, d3, d4, d5, d6, d7, d8, d9, d10⟩ := hO.cells
      have fz : ∀ k, W.frozen? ⟨g2, k, none⟩ = false := fun k => frozenOf hO k
      have ⟨f0, f1, f2, f3, f4, f5, f6, f7, f8, f9, f10⟩ := (⟨fz 0, fz 1, fz 2, fz 3, fz 4, fz 5, fz 6, fz 7, fz 8, fz 9, fz 10⟩ : W.frozen? ⟨g2, 0, none⟩ = false ∧ W.frozen? ⟨g2, 1, none⟩ = false ∧ W.frozen? ⟨g2, 2, none⟩ = false ∧ W.frozen? ⟨g2, 3, none⟩ = false ∧ W.frozen? ⟨g2, 4, none⟩ = false ∧ W.frozen? ⟨g2, 5, none⟩ = false ∧ W.frozen? ⟨g2, 6, none⟩ = false ∧ W.frozen? ⟨g2, 7, none⟩ = false ∧ W.frozen? ⟨g2, 8, none⟩ = false ∧ W.frozen? ⟨g2, 9, none⟩ = false ∧ W.frozen? ⟨g2, 10, none⟩ = false)
      have hX := chain11 W g2 (.int .i64 t') (.int .i64 n') (.int .i64 sq') (.int .i64 kd') (.int .i64 ot') (.int .i64 on') (.int .i64 pt') (.int .i64 pn') (.string (bas nx')) (.slice p' lx' c') (.slice q' mx' d')
      refine doesg_skip rfl (by intro c h; cases h) (w' := (((((((((((W.setCell ⟨g2, 0, none⟩ (.int .i64 t')).setCell ⟨g2, 1, none⟩ (.int .i64 n')).setCell ⟨g2, 2, none⟩ (.int .i64 sq')).setCell ⟨g2, 3, none⟩ (.int .i64 kd')).setCell ⟨g2, 4, none⟩ (.int .i64 ot')).setCell ⟨g2, 5, none⟩ (.int .i64 on')).setCell ⟨g2, 6, none⟩ (.int .i64 pt')).setCell ⟨g2, 7, none⟩ (.int .i64 pn')).setCell ⟨g2, 8, none⟩ (.string (bas nx'))).setCell ⟨g2, 9, none⟩ (.slice p' lx' c')).setCell ⟨g2, 10, none⟩ (.slice q' mx' d'))) ?_ ⟨(), fun _ _ => rfl, (vv5 ()).symm, ?_⟩
      · simp [execOp, go_sem, e3, e16, d0, d1, d2, d3, d4, d5, d6, d7, d8, d9, d10, f0, f1, f2, f3, f4, f5, f6, f7, f8, f9, f10]
      · refine ⟨?_, ?_, hS3.trans hX (fun i hi => .inl (.inr hi))⟩
        · rw [show did b 5 4 = b 4 from rfl]
          exact (hX.block g (block_lt hS1) hne).trans hS1
        · rw [show did b 5 5 = true from rfl, if_pos rfl]
          exact chain_block _ _ _ _ _ _ _ _ _ _ _ _ _ _ _ _ _ _ _ _ _ _ hO
    | k + 6 => simp at ho
  · intro u b W hS hall
    obtain ⟨hS1, hS2, hS3⟩ := hS
    rw [hall 4 (by decide), if_pos rfl] at hS1
    rw [hall 5 (by decide), if_pos rfl] at hS2
    exact hQ W hS1 hS2 hS3

end Go.Proofs.YtegjageenofbjaaGreat.Cd
