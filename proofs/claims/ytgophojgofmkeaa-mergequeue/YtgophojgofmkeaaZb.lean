/-
  A queue in memory; how it asks its order.
-/
import Derived.Test.YtgophojgofmkeaaZa
import Derived.Test.YtgophojgofmkeaaZr
import Derived.Recover
import Derived.BigQuiet
import Derived.Deep.RegionHeld3
namespace Go.Proofs.Ytgophojgofmkeaa.Ck
open Go.RowKit

abbrev opv (t n k : Int) : Value := .agg #[.int .i64 t, .int .i64 n, .int .i64 0, .int .i64 k, .int .i64 0, .int .i64 0, .int .i64 0, .int .i64 0, .string ⟨#[]⟩, .slice none 0 0, .slice none 0 0]
def heldCells (e : QE) : Array Value := #[.int .i64 e.t, .int .i64 e.n, .int .i64 0, .int .i64 e.k, .int .i64 0, .int .i64 0, .int .i64 0, .int .i64 0, .string ⟨#[]⟩, .slice none 0 0, .slice none 0 0, .int .i64 (e.came : Nat), .int .i64 0, .pointer none, .bool false]
/-- One that is in a queue. -/
def IsHeld (w : World) (a : Nat) (e : QE) : Prop := w.heap[a]? = some (.cells (heldCells e) 55 (0, 0))
abbrev ep (a : Nat) : Value := .pointer (some ⟨a, 0, none⟩)
theorem IsHeld.below {w w' : World} {a : Nat} {e : QE} (h : IsHeld w a e) (hb : Below w.heap.size w w') : IsHeld w' a e := (hb.block a (block_lt h)).trans h

/-- What a queue's order answers. -/
def LessIs (lv : Value) (bk : Bool) : Prop := (lv = .nilFunc ∧ bk = false) ∨ ∃ K, lv = .func (.func K) #[] #[] ∧ (∀ args w, (callFunc K args).run Try.prog w = .ok (.enter K args) w) ∧
  ∀ t n t' n' w, Calls Try.prog K #[idv t n, idv t' n'] w fun e w' => e = .returned (.bool (LB bk t n t' n')) ∧ Below w.heap.size w w'

def queueCells (sl lv : Value) (cm : Nat) (ask : Bool) : Array Value := #[sl, lv, .int .i64 (cm : Nat), .bool false, .bool ask]

theorem apart_tags {W : World} {g g' : Nat} {cs cs' : Array Value} {t t' : TypeId} {fr fr' : Nat × Nat} (h : W.heap[g]? = some (.cells cs t fr)) (h' : W.heap[g']? = some (.cells cs' t' fr')) (ht : t ≠ t') : g ≠ g' := by
  rintro rfl
  rw [h] at h'
  simp only [Option.some.injEq, Obj.cells.injEq] at h'
  exact ht h'.2.1
theorem lessIs_nil : LessIs .nilFunc false := .inl ⟨rfl, rfl⟩
theorem lessIs_clock : LessIs (.func (.func 17) #[] #[]) false := .inr ⟨_, rfl, fun _ _ => rfl, fun t n t' n' w => less_any t n t' n' w⟩
theorem lessIs_doc : LessIs (.func (.func 10) #[] #[]) false := .inr ⟨_, rfl, fun _ _ => rfl, fun t n t' n' w => rless_any t n t' n' w⟩
set_option maxRecDepth 8000 in
set_option maxHeartbeats 400000 in
theorem backward_any (t n t' n' : Int) (w : World) : Calls Try.prog 11 #[idv t n, idv t' n'] w fun e w' => e = .returned (.bool (lessB t' n' t n)) ∧ Below w.heap.size w w' := by
  have c8 := rless_any t' n' t n
  generalize lessB t' n' t n = x at c8
  go_enter Try.func11, Try.ntmps11
  go_wp2_with (go_at_call 10; refine Calls_new (c8 _) ?_; intro w3 HB3)
  go_ret
  exact ⟨rfl, (below_two w _ _).out.trans (HB3.out.mono (by simp; omega))⟩
theorem lessIs_back : LessIs (.func (.func 11) #[] #[]) true := .inr ⟨_, rfl, fun _ _ => rfl, fun t n t' n' w => backward_any t n t' n' w⟩

theorem catch_less (b : Nat) (p : Nat) (w : World) (cs : Array Value) (v : Value) (hb : w.heap[b]? = some (.cells #[ep p] 58 (0, 0))) (hp : w.heap[p]? = some (.cells cs 51 (0, 0))) (h4 : cs[4]? = some v) :
    CallsD Try.prog 40 #[ep b] .returning w fun e u' w' => e = .returned (.tuple #[]) ∧ u' = .returning ∧ w' = w.setCell ⟨p, 4, none⟩ (.bool false) := by
  have c0 : w.cell? ⟨b, 0, none⟩ = some (ep p) := cellOf hb 0
  have c4 : w.cell? ⟨p, 4, none⟩ = some v := (cellOf hp 4).trans h4
  have f4 := frozenOf hp 4
  refine callsD_of_wpS Try.func40 rfl fun c₀ cs hu => ?_
  apply wpS_seq
  apply wpS_region
  simp [wpOpsS, go_sem, recoverD, hu, Try.ntmps40, Exit.thenS]
  apply wpS_of_wp
  go_wp2
  cases c₀
  simp_all [bodyPostS, results, Try.results40]

theorem eql_fn (w : World) (k : Nat) (caps : Array Value) : (binOp .eql 37 (.func (.func k) #[] caps) .nilFunc).run Try.prog w = .ok (.bool false) w := by
  have h : ∀ d : Nat, (Op.equalIn (d + 1) 37 (.func (.func k) #[] caps) .nilFunc).run Try.prog w = .ok false w := fun d => by
    simp [Op.equalIn, run_underlying Try.underlying37]
  simp only [binOp]
  simp [Op.equal, Op.maxDepth, h 9999]
theorem eql_nilFn (w : World) : (binOp .eql 37 .nilFunc .nilFunc).run Try.prog w = .ok (.bool true) w := by
  have h : ∀ d : Nat, (Op.equalIn (d + 1) 37 .nilFunc .nilFunc).run Try.prog w = .ok true w := fun d => by
    simp [Op.equalIn, run_underlying Try.underlying37]
  simp only [binOp]
  simp [Op.equal, Op.maxDepth, h 9999]

set_option maxRecDepth 8000 in
set_option maxHeartbeats 4000000 in
theorem isLess_reg2 {Q : Exit → Act → World → Prop} {base : Array Value} {dd : List Deferred} {ops : Array Oper} (hops : Try.f36.body.bind (regs 2) = some ops) (ga gb : Nat) (x y : QE) (r : Bool) (w9 : World) (hsz : base.size = 42)
    (b1 : base.getD 1 undef = .pointer (some ⟨ga, 0, none⟩))
    (b2 : base.getD 2 undef = .pointer (some ⟨gb, 0, none⟩))
    (hga : w9.heap[ga]? = some (.cells (heldCells x) 55 (0, 0)))
    (hgb : w9.heap[gb]? = some (.cells (heldCells y) 55 (0, 0)))
    (cK : ∀ W, Below w9.heap.size w9 W → Calls Try.prog 17 #[idv x.t x.n, idv y.t y.n] W fun e w' => e = .returned (.bool r) ∧ Below W.heap.size W w')
    (hQ : ∀ W, Below w9.heap.size w9 W → Q .normal ⟨putAll base [(some 12, .pointer (some ⟨ga, 0, none⟩)), (some 13, .pointer (some ⟨ga, 0, none⟩)), (some 14, .pointer (some ⟨ga, 0, none⟩)), (some 15, .pointer (some ⟨ga, 0, none⟩)), (some 16, .agg #[.int .i64 x.t, .int .i64 x.n]), (some 17, .pointer (some ⟨gb, 0, none⟩)), (some 18, .pointer (some ⟨gb, 0, none⟩)), (some 19, .pointer (some ⟨gb, 0, none⟩)), (some 20, .pointer (some ⟨gb, 0, none⟩)), (some 21, .agg #[.int .i64 y.t, .int .i64 y.n]), (some 22, .bool r), (some 6, .bool r)], dd⟩ W) :
    (Code.region 2 ops true).wp Try.prog Q ⟨base, dd⟩ w9 := by
  have hmix : Try.prog.follows .mixedOrders = true := by kernel_rfl
  have h2 := (show Try.f36.body.bind (regs 2) = some _ from rfl).symm.trans hops
  obtain rfl := Option.some.inj h2
  clear h2 hops
  have below9 : Below w9.heap.size w9 w9.drew := (Below.refl _ _).drew
  obtain ⟨LL, hLe⟩ : ∃ LL : List (Option Tmp × Value), LL = [(some 12, .pointer (some ⟨ga, 0, none⟩)), (some 13, .pointer (some ⟨ga, 0, none⟩)), (some 14, .pointer (some ⟨ga, 0, none⟩)), (some 15, .pointer (some ⟨ga, 0, none⟩)), (some 16, .agg #[.int .i64 x.t, .int .i64 x.n]), (some 17, .pointer (some ⟨gb, 0, none⟩)), (some 18, .pointer (some ⟨gb, 0, none⟩)), (some 19, .pointer (some ⟨gb, 0, none⟩)), (some 20, .pointer (some ⟨gb, 0, none⟩)), (some 21, .agg #[.int .i64 y.t, .int .i64 y.n]), (some 22, .bool r), (some 6, .bool r)] := ⟨_, rfl⟩
  have vv0 : vals LL 0 = .pointer (some ⟨ga, 0, none⟩) := by rw [hLe]; rfl
  have vv1 : vals LL 1 = .pointer (some ⟨ga, 0, none⟩) := by rw [hLe]; rfl
  have vv2 : vals LL 2 = .pointer (some ⟨ga, 0, none⟩) := by rw [hLe]; rfl
  have vv3 : vals LL 3 = .pointer (some ⟨ga, 0, none⟩) := by rw [hLe]; rfl
  have vv4 : vals LL 4 = .agg #[.int .i64 x.t, .int .i64 x.n] := by rw [hLe]; rfl
  have vv5 : vals LL 5 = .pointer (some ⟨gb, 0, none⟩) := by rw [hLe]; rfl
  have vv6 : vals LL 6 = .pointer (some ⟨gb, 0, none⟩) := by rw [hLe]; rfl
  have vv7 : vals LL 7 = .pointer (some ⟨gb, 0, none⟩) := by rw [hLe]; rfl
  have vv8 : vals LL 8 = .pointer (some ⟨gb, 0, none⟩) := by rw [hLe]; rfl
  have vv9 : vals LL 9 = .agg #[.int .i64 y.t, .int .i64 y.n] := by rw [hLe]; rfl
  have vv10 : vals LL 10 = .bool r := by rw [hLe]; rfl
  have vv11 : vals LL 11 = .bool r := by rw [hLe]; rfl
  refine region_laid hmix (by kernel_rfl) 42 hsz (by kernel_rfl) LL (by rw [hLe]; rfl) (fun _ W => Below w9.heap.size w9 W) below9 ?_ ?_
  · intro b W i o a hS hcl ho hb hd ev kp yl
    match i with
    | 0 =>
      simp only [List.getElem?_toArray, List.getElem?_cons_zero, Option.some.injEq] at ho
      subst ho
      have e1 : a.tmps[1]?.getD undef = .pointer (some ⟨ga, 0, none⟩) := (kp 1 (by kernel_rfl)).trans b1
      rw [vv0]
      refine does_value rfl (by intro c h; cases h) (w' := W) ?_ (hS)
      · simp [execOp, go_sem, e1]
    | 1 =>
      simp only [List.getElem?_toArray, List.getElem?_cons_zero, List.getElem?_cons_succ, Option.some.injEq] at ho
      subst ho
      have p0 : b 0 = true := hd ⟨0, .data⟩ (by simp) rfl
      have e12 := (ev 0 12 rfl p0).trans vv0
      rw [vv1]
      refine does_value rfl (by intro c h; cases h) (w' := W) ?_ (hS)
      · simp [execOp, go_sem, e12]
    | 2 =>
      simp only [List.getElem?_toArray, List.getElem?_cons_zero, List.getElem?_cons_succ, Option.some.injEq] at ho
      subst ho
      have p1 : b 1 = true := hd ⟨1, .data⟩ (by simp) rfl
      have e13 := (ev 1 13 rfl p1).trans vv1
      rw [vv2]
      refine does_value rfl (by intro c h; cases h) (w' := W) ?_ (hS)
      · simp [execOp, go_sem, e13]
    | 3 =>
      simp only [List.getElem?_toArray, List.getElem?_cons_zero, List.getElem?_cons_succ, Option.some.injEq] at ho
      subst ho
      have p2 : b 2 = true := hd ⟨2, .data⟩ (by simp) rfl
      have e14 := (ev 2 14 rfl p2).trans vv2
      rw [vv3]
      refine does_value rfl (by intro c h; cases h) (w' := W) ?_ (hS)
      · simp [execOp, go_sem, e14]
    | 4 =>
      simp only [List.getElem?_toArray, List.getElem?_cons_zero, List.getElem?_cons_succ, Option.some.injEq] at ho
      subst ho
      have p3 : b 3 = true := hd ⟨3, .data⟩ (by simp) rfl
      have e15 := (ev 3 15 rfl p3).trans vv3
      have hB9 := (hS.block _ (block_lt hga)).trans hga
      have d0 : W.cell? ⟨ga, 0, none⟩ = some (.int .i64 x.t) := (cellOf hB9 0).trans rfl
      have d1 : W.cell? ⟨ga, 1, none⟩ = some (.int .i64 x.n) := (cellOf hB9 1).trans rfl
      rw [vv4]
      refine does_value rfl (by intro c h; cases h) (w' := W) ?_ (hS)
      · simp [execOp, go_sem, e15, d0, d1]
    | 5 =>
      simp only [List.getElem?_toArray, List.getElem?_cons_zero, List.getElem?_cons_succ, Option.some.injEq] at ho
      subst ho
      have e2 : a.tmps[2]?.getD undef = .pointer (some ⟨gb, 0, none⟩) := (kp 2 (by kernel_rfl)).trans b2
      rw [vv5]
      refine does_value rfl (by intro c h; cases h) (w' := W) ?_ (hS)
      · simp [execOp, go_sem, e2]
    | 6 =>
      simp only [List.getElem?_toArray, List.getElem?_cons_zero, List.getElem?_cons_succ, Option.some.injEq] at ho
      subst ho
      have p5 : b 5 = true := hd ⟨5, .data⟩ (by simp) rfl
      have e17 := (ev 5 17 rfl p5).trans vv5
      rw [vv6]
      refine does_value rfl (by intro c h; cases h) (w' := W) ?_ (hS)
      · simp [execOp, go_sem, e17]
    | 7 =>
      simp only [List.getElem?_toArray, List.getElem?_cons_zero, List.getElem?_cons_succ, Option.some.injEq] at ho
      subst ho
      have p6 : b 6 = true := hd ⟨6, .data⟩ (by simp) rfl
      have e18 := (ev 6 18 rfl p6).trans vv6
      rw [vv7]
      refine does_value rfl (by intro c h; cases h) (w' := W) ?_ (hS)
      · simp [execOp, go_sem, e18]
    | 8 =>
      simp only [List.getElem?_toArray, List.getElem?_cons_zero, List.getElem?_cons_succ, Option.some.injEq] at ho
      subst ho
      have p7 : b 7 = true := hd ⟨7, .data⟩ (by simp) rfl
      have e19 := (ev 7 19 rfl p7).trans vv7
      rw [vv8]
      refine does_value rfl (by intro c h; cases h) (w' := W) ?_ (hS)
      · simp [execOp, go_sem, e19]
    | 9 =>
      simp only [List.getElem?_toArray, List.getElem?_cons_zero, List.getElem?_cons_succ, Option.some.injEq] at ho
      subst ho
      have p8 : b 8 = true := hd ⟨8, .data⟩ (by simp) rfl
      have e20 := (ev 8 20 rfl p8).trans vv8
      have hB9 := (hS.block _ (block_lt hgb)).trans hgb
      have d0 : W.cell? ⟨gb, 0, none⟩ = some (.int .i64 y.t) := (cellOf hB9 0).trans rfl
      have d1 : W.cell? ⟨gb, 1, none⟩ = some (.int .i64 y.n) := (cellOf hB9 1).trans rfl
      rw [vv9]
      refine does_value rfl (by intro c h; cases h) (w' := W) ?_ (hS)
      · simp [execOp, go_sem, e20, d0, d1]
    | 10 =>
      simp only [List.getElem?_toArray, List.getElem?_cons_zero, List.getElem?_cons_succ, Option.some.injEq] at ho
      subst ho
      have p4 : b 4 = true := hd ⟨4, .data⟩ (by simp) rfl
      have p9 : b 9 = true := hd ⟨9, .data⟩ (by simp) rfl
      have e16 := (ev 4 16 rfl p4).trans vv4
      have e21 := (ev 9 21 rfl p9).trans vv9
      rw [vv10]
      refine does_call rfl (by intro c h; cases h) (f := 17) (args := #[.agg #[.int .i64 x.t, .int .i64 x.n], .agg #[.int .i64 y.t, .int .i64 y.n]]) ?_ ?_
      · simp [go_sem, e16, e21]
      · exact (cK W hS).mono (fun e w' h => ⟨h.1, hS.trans (h.2.mono hS.size)⟩)
    | 11 =>
      simp only [List.getElem?_toArray, List.getElem?_cons_zero, List.getElem?_cons_succ, Option.some.injEq] at ho
      subst ho
      have p10 : b 10 = true := hd ⟨10, .data⟩ (by simp) rfl
      have e22 := (ev 10 22 rfl p10).trans vv10
      rw [vv11]
      refine does_value rfl (by intro c h; cases h) (w' := W) ?_ (hS)
      · simp [execOp, go_sem, e22]
    | k + 12 => simp at ho
  · intro b' W hS _
    subst hLe
    exact hQ W hS

set_option maxRecDepth 8000 in
set_option maxHeartbeats 4000000 in
theorem isLess_reg5 {Q : Exit → Act → World → Prop} {base : Array Value} {dd : List Deferred} {ops : Array Oper} (hops : Try.f36.body.bind (regs 5) = some ops) (ga gb gc bx K : Nat) (x y : QE) (r : Bool) (sl : Value) (cm : Nat) (w9 : World) (hsz : base.size = 42)
    (b1 : base.getD 1 undef = .pointer (some ⟨ga, 0, none⟩))
    (b2 : base.getD 2 undef = .pointer (some ⟨gb, 0, none⟩))
    (b3 : base.getD 3 undef = .pointer (some ⟨bx, 0, none⟩))
    (hga : w9.heap[ga]? = some (.cells (heldCells x) 55 (0, 0)))
    (hgb : w9.heap[gb]? = some (.cells (heldCells y) 55 (0, 0)))
    (hx : w9.heap[bx]? = some (.cells #[ep gc] 58 (0, 0)))
    (hc : w9.heap[gc]? = some (.cells (queueCells sl (.func (.func K) #[] #[]) cm true) 51 (0, 0)))
    (hen : ∀ args w, (callFunc K args).run Try.prog w = .ok (.enter K args) w)
    (cK : ∀ W, Below w9.heap.size w9 W → Calls Try.prog K #[idv x.t x.n, idv y.t y.n] W fun e w' => e = .returned (.bool r) ∧ Below W.heap.size W w')
    (hQ : ∀ W, Below w9.heap.size w9 W → Q .normal ⟨putAll base [(some 27, .pointer (some ⟨gc, 0, none⟩)), (some 28, .pointer (some ⟨gc, 0, none⟩)), (some 29, .pointer (some ⟨gc, 1, none⟩)), (some 30, .func (.func K) #[] #[]), (some 31, .pointer (some ⟨ga, 0, none⟩)), (some 32, .pointer (some ⟨ga, 0, none⟩)), (some 33, .pointer (some ⟨ga, 0, none⟩)), (some 34, .pointer (some ⟨ga, 0, none⟩)), (some 35, .agg #[.int .i64 x.t, .int .i64 x.n]), (some 36, .pointer (some ⟨gb, 0, none⟩)), (some 37, .pointer (some ⟨gb, 0, none⟩)), (some 38, .pointer (some ⟨gb, 0, none⟩)), (some 39, .pointer (some ⟨gb, 0, none⟩)), (some 40, .agg #[.int .i64 y.t, .int .i64 y.n]), (some 41, .bool r), (some 6, .bool r)], dd⟩ W) :
    (Code.region 5 ops true).wp Try.prog Q ⟨base, dd⟩ w9 := by
  have hmix : Try.prog.follows .mixedOrders = true := by kernel_rfl
  have h2 := (show Try.f36.body.bind (regs 5) = some _ from rfl).symm.trans hops
  obtain rfl := Option.some.inj h2
  clear h2 hops
  have below9 : Below w9.heap.size w9 w9.drew := (Below.refl _ _).drew
  obtain ⟨LL, hLe⟩ : ∃ LL : List (Option Tmp × Value), LL = [(some 27, .pointer (some ⟨gc, 0, none⟩)), (some 28, .pointer (some ⟨gc, 0, none⟩)), (some 29, .pointer (some ⟨gc, 1, none⟩)), (some 30, .func (.func K) #[] #[]), (some 31, .pointer (some ⟨ga, 0, none⟩)), (some 32, .pointer (some ⟨ga, 0, none⟩)), (some 33, .pointer (some ⟨ga, 0, none⟩)), (some 34, .pointer (some ⟨ga, 0, none⟩)), (some 35, .agg #[.int .i64 x.t, .int .i64 x.n]), (some 36, .pointer (some ⟨gb, 0, none⟩)), (some 37, .pointer (some ⟨gb, 0, none⟩)), (some 38, .pointer (some ⟨gb, 0, none⟩)), (some 39, .pointer (some ⟨gb, 0, none⟩)), (some 40, .agg #[.int .i64 y.t, .int .i64 y.n]), (some 41, .bool r), (some 6, .bool r)] := ⟨_, rfl⟩
  have vv0 : vals LL 0 = .pointer (some ⟨gc, 0, none⟩) := by rw [hLe]; rfl
  have vv1 : vals LL 1 = .pointer (some ⟨gc, 0, none⟩) := by rw [hLe]; rfl
  have vv2 : vals LL 2 = .pointer (some ⟨gc, 1, none⟩) := by rw [hLe]; rfl
  have vv3 : vals LL 3 = .func (.func K) #[] #[] := by rw [hLe]; rfl
  have vv4 : vals LL 4 = .pointer (some ⟨ga, 0, none⟩) := by rw [hLe]; rfl
  have vv5 : vals LL 5 = .pointer (some ⟨ga, 0, none⟩) := by rw [hLe]; rfl
  have vv6 : vals LL 6 = .pointer (some ⟨ga, 0, none⟩) := by rw [hLe]; rfl
  have vv7 : vals LL 7 = .pointer (some ⟨ga, 0, none⟩) := by rw [hLe]; rfl
  have vv8 : vals LL 8 = .agg #[.int .i64 x.t, .int .i64 x.n] := by rw [hLe]; rfl
  have vv9 : vals LL 9 = .pointer (some ⟨gb, 0, none⟩) := by rw [hLe]; rfl
  have vv10 : vals LL 10 = .pointer (some ⟨gb, 0, none⟩) := by rw [hLe]; rfl
  have vv11 : vals LL 11 = .pointer (some ⟨gb, 0, none⟩) := by rw [hLe]; rfl
  have vv12 : vals LL 12 = .pointer (some ⟨gb, 0, none⟩) := by rw [hLe]; rfl
  have vv13 : vals LL 13 = .agg #[.int .i64 y.t, .int .i64 y.n] := by rw [hLe]; rfl
  have vv14 : vals LL 14 = .bool r := by rw [hLe]; rfl
  have vv15 : vals LL 15 = .bool r := by rw [hLe]; rfl
  refine region_laid hmix (by kernel_rfl) 42 hsz (by kernel_rfl) LL (by rw [hLe]; rfl) (fun _ W => Below w9.heap.size w9 W) below9 ?_ ?_
  · intro b W i o a hS hcl ho hb hd ev kp yl
    match i with
    | 0 =>
      simp only [List.getElem?_toArray, List.getElem?_cons_zero, Option.some.injEq] at ho
      subst ho
      have e3 : a.tmps[3]?.getD undef = .pointer (some ⟨bx, 0, none⟩) := (kp 3 (by kernel_rfl)).trans b3
      have hB9 := (hS.block _ (block_lt hx)).trans hx
      have d0 : W.cell? ⟨bx, 0, none⟩ = some (.pointer (some ⟨gc, 0, none⟩)) := (cellOf hB9 0).trans rfl
      rw [vv0]
      refine does_value rfl (by intro c h; cases h) (w' := W) ?_ (hS)
      · simp [execOp, go_sem, e3, d0]
    | 1 =>
      simp only [List.getElem?_toArray, List.getElem?_cons_zero, List.getElem?_cons_succ, Option.some.injEq] at ho
      subst ho
      have p0 : b 0 = true := hd ⟨0, .data⟩ (by simp) rfl
      have e27 := (ev 0 27 rfl p0).trans vv0
      rw [vv1]
      refine does_value rfl (by intro c h; cases h) (w' := W) ?_ (hS)
      · simp [execOp, go_sem, e27]
    | 2 =>
      simp only [List.getElem?_toArray, List.getElem?_cons_zero, List.getElem?_cons_succ, Option.some.injEq] at ho
      subst ho
      have p1 : b 1 = true := hd ⟨1, .data⟩ (by simp) rfl
      have e28 := (ev 1 28 rfl p1).trans vv1
      rw [vv2]
      refine does_value rfl (by intro c h; cases h) (w' := W) ?_ (hS)
      · simp [execOp, go_sem, e28]
    | 3 =>
      simp only [List.getElem?_toArray, List.getElem?_cons_zero, List.getElem?_cons_succ, Option.some.injEq] at ho
      subst ho
      have p2 : b 2 = true := hd ⟨2, .data⟩ (by simp) rfl
      have e29 := (ev 2 29 rfl p2).trans vv2
      have hB9 := (hS.block _ (block_lt hc)).trans hc
      have d1 : W.cell? ⟨gc, 1, none⟩ = some (.func (.func K) #[] #[]) := (cellOf hB9 1).trans rfl
      rw [vv3]
      refine does_value rfl (by intro c h; cases h) (w' := W) ?_ (hS)
      · simp [execOp, go_sem, e29, d1]
    | 4 =>
      simp only [List.getElem?_toArray, List.getElem?_cons_zero, List.getElem?_cons_succ, Option.some.injEq] at ho
      subst ho
      have e1 : a.tmps[1]?.getD undef = .pointer (some ⟨ga, 0, none⟩) := (kp 1 (by kernel_rfl)).trans b1
      rw [vv4]
      refine does_value rfl (by intro c h; cases h) (w' := W) ?_ (hS)
      · simp [execOp, go_sem, e1]
    | 5 =>
      simp only [List.getElem?_toArray, List.getElem?_cons_zero, List.getElem?_cons_succ, Option.some.injEq] at ho
      subst ho
      have p4 : b 4 = true := hd ⟨4, .data⟩ (by simp) rfl
      have e31 := (ev 4 31 rfl p4).trans vv4
      rw [vv5]
      refine does_value rfl (by intro c h; cases h) (w' := W) ?_ (hS)
      · simp [execOp, go_sem, e31]
    | 6 =>
      simp only [List.getElem?_toArray, List.getElem?_cons_zero, List.getElem?_cons_succ, Option.some.injEq] at ho
      subst ho
      have p5 : b 5 = true := hd ⟨5, .data⟩ (by simp) rfl
      have e32 := (ev 5 32 rfl p5).trans vv5
      rw [vv6]
      refine does_value rfl (by intro c h; cases h) (w' := W) ?_ (hS)
      · simp [execOp, go_sem, e32]
    | 7 =>
      simp only [List.getElem?_toArray, List.getElem?_cons_zero, List.getElem?_cons_succ, Option.some.injEq] at ho
      subst ho
      have p6 : b 6 = true := hd ⟨6, .data⟩ (by simp) rfl
      have e33 := (ev 6 33 rfl p6).trans vv6
      rw [vv7]
      refine does_value rfl (by intro c h; cases h) (w' := W) ?_ (hS)
      · simp [execOp, go_sem, e33]
    | 8 =>
      simp only [List.getElem?_toArray, List.getElem?_cons_zero, List.getElem?_cons_succ, Option.some.injEq] at ho
      subst ho
      have p7 : b 7 = true := hd ⟨7, .data⟩ (by simp) rfl
      have e34 := (ev 7 34 rfl p7).trans vv7
      have hB9 := (hS.block _ (block_lt hga)).trans hga
      have d0 : W.cell? ⟨ga, 0, none⟩ = some (.int .i64 x.t) := (cellOf hB9 0).trans rfl
      have d1 : W.cell? ⟨ga, 1, none⟩ = some (.int .i64 x.n) := (cellOf hB9 1).trans rfl
      rw [vv8]
      refine does_value rfl (by intro c h; cases h) (w' := W) ?_ (hS)
      · simp [execOp, go_sem, e34, d0, d1]
    | 9 =>
      simp only [List.getElem?_toArray, List.getElem?_cons_zero, List.getElem?_cons_succ, Option.some.injEq] at ho
      subst ho
      have e2 : a.tmps[2]?.getD undef = .pointer (some ⟨gb, 0, none⟩) := (kp 2 (by kernel_rfl)).trans b2
      rw [vv9]
      refine does_value rfl (by intro c h; cases h) (w' := W) ?_ (hS)
      · simp [execOp, go_sem, e2]
    | 10 =>
      simp only [List.getElem?_toArray, List.getElem?_cons_zero, List.getElem?_cons_succ, Option.some.injEq] at ho
      subst ho
      have p9 : b 9 = true := hd ⟨9, .data⟩ (by simp) rfl
      have e36 := (ev 9 36 rfl p9).trans vv9
      rw [vv10]
      refine does_value rfl (by intro c h; cases h) (w' := W) ?_ (hS)
      · simp [execOp, go_sem, e36]
    | 11 =>
      simp only [List.getElem?_toArray, List.getElem?_cons_zero, List.getElem?_cons_succ, Option.some.injEq] at ho
      subst ho
      have p10 : b 10 = true := hd ⟨10, .data⟩ (by simp) rfl
      have e37 := (ev 10 37 rfl p10).trans vv10
      rw [vv11]
      refine does_value rfl (by intro c h; cases h) (w' := W) ?_ (hS)
      · simp [execOp, go_sem, e37]
    | 12 =>
      simp only [List.getElem?_toArray, List.getElem?_cons_zero, List.getElem?_cons_succ, Option.some.injEq] at ho
      subst ho
      have p11 : b 11 = true := hd ⟨11, .data⟩ (by simp) rfl
      have e38 := (ev 11 38 rfl p11).trans vv11
      rw [vv12]
      refine does_value rfl (by intro c h; cases h) (w' := W) ?_ (hS)
      · simp [execOp, go_sem, e38]
    | 13 =>
      simp only [List.getElem?_toArray, List.getElem?_cons_zero, List.getElem?_cons_succ, Option.some.injEq] at ho
      subst ho
      have p12 : b 12 = true := hd ⟨12, .data⟩ (by simp) rfl
      have e39 := (ev 12 39 rfl p12).trans vv12
      have hB9 := (hS.block _ (block_lt hgb)).trans hgb
      have d0 : W.cell? ⟨gb, 0, none⟩ = some (.int .i64 y.t) := (cellOf hB9 0).trans rfl
      have d1 : W.cell? ⟨gb, 1, none⟩ = some (.int .i64 y.n) := (cellOf hB9 1).trans rfl
      rw [vv13]
      refine does_value rfl (by intro c h; cases h) (w' := W) ?_ (hS)
      · simp [execOp, go_sem, e39, d0, d1]
    | 14 =>
      simp only [List.getElem?_toArray, List.getElem?_cons_zero, List.getElem?_cons_succ, Option.some.injEq] at ho
      subst ho
      have p3 : b 3 = true := hd ⟨3, .data⟩ (by simp) rfl
      have p8 : b 8 = true := hd ⟨8, .data⟩ (by simp) rfl
      have p13 : b 13 = true := hd ⟨13, .data⟩ (by simp) rfl
      have e30 := (ev 3 30 rfl p3).trans vv3
      have e35 := (ev 8 35 rfl p8).trans vv8
      have e40 := (ev 13 40 rfl p13).trans vv13
      rw [vv14]
      refine does_call rfl (by intro c h; cases h) (f := K) (args := #[.agg #[.int .i64 x.t, .int .i64 x.n], .agg #[.int .i64 y.t, .int .i64 y.n]]) ?_ ?_
      · simp [go_sem, e30, e35, e40, hen]
      · exact (cK W hS).mono (fun e w' h => ⟨h.1, hS.trans (h.2.mono hS.size)⟩)
    | 15 =>
      simp only [List.getElem?_toArray, List.getElem?_cons_zero, List.getElem?_cons_succ, Option.some.injEq] at ho
      subst ho
      have p14 : b 14 = true := hd ⟨14, .data⟩ (by simp) rfl
      have e41 := (ev 14 41 rfl p14).trans vv14
      rw [vv15]
      refine does_value rfl (by intro c h; cases h) (w' := W) ?_ (hS)
      · simp [execOp, go_sem, e41]
    | k + 16 => simp at ho
  · intro b' W hS _
    subst hLe
    exact hQ W hS

set_option maxRecDepth 8000 in
set_option maxHeartbeats 1000000 in
theorem isLess_fn (c K a b : Nat) (bk : Bool) (sl : Value) (cm : Nat) (x y : QE) (w : World) (hen : ∀ args w, (callFunc K args).run Try.prog w = .ok (.enter K args) w)
    (hK : ∀ t n t' n' w, Calls Try.prog K #[idv t n, idv t' n'] w fun e w' => e = .returned (.bool (LB bk t n t' n')) ∧ Below w.heap.size w w')
    (hc : w.heap[c]? = some (.cells (queueCells sl (.func (.func K) #[] #[]) cm false) 51 (0, 0))) (ha : IsHeld w a x) (hb : IsHeld w b y) :
    Calls Try.prog 36 #[ep c, ep a, ep b] w fun e w' => e = .returned (.bool (LB bk x.t x.n y.t y.n)) ∧ Below w.heap.size w w' := by
  have q1 : w.cell? ⟨c, 1, none⟩ = some (.func (.func K) #[] #[]) := by rw [cellOf hc 1]; rfl
  have q4 : w.cell? ⟨c, 4, none⟩ = some (.bool false) := by rw [cellOf hc 4]; rfl
  have f4 := frozenOf hc 4
  have a0 : w.cell? ⟨a, 0, none⟩ = some (.int .i64 x.t) := by rw [cellOf ha 0]; rfl
  have a1 : w.cell? ⟨a, 1, none⟩ = some (.int .i64 x.n) := by rw [cellOf ha 1]; rfl
  have b0 : w.cell? ⟨b, 0, none⟩ = some (.int .i64 y.t) := by rw [cellOf hb 0]; rfl
  have b1 : w.cell? ⟨b, 1, none⟩ = some (.int .i64 y.n) := by rw [cellOf hb 1]; rfl
  have hq := eql_fn
  have hmf : ∀ (fn : Fn) (first cap : Array Value) (w : World), (Instr.makeFunc fn first cap).run Try.prog w = .ok (.func fn first cap) w := fun _ _ _ _ => rfl
  obtain ⟨w1, hw1⟩ : ∃ w1, w1 = w.setCell ⟨c, 4, none⟩ (.bool true) := ⟨_, rfl⟩
  obtain ⟨w2, hw2⟩ : ∃ w2, w2 = w1.alloc (.cells #[ep c] 58) := ⟨_, rfl⟩
  have lc := block_lt hc
  have ac : a ≠ c := apart_tags ha hc (by decide)
  have bc : b ≠ c := apart_tags hb hc (by decide)
  have nc : w.heap.size ≠ c := by omega
  have hO1 : Only (· = c) w w1 := by rw [hw1]; exact Only.setCell w ⟨c, 4, none⟩ _ rfl
  have hs1 : w1.heap.size = w.heap.size := by rw [hw1]; simp [World.setCell]
  have hB2 : Below w1.heap.size w1 w2 := by rw [hw2]; exact (below_new w1 _).out
  have hn2 : w2.heap[w.heap.size]? = some (.cells #[ep c] 58 (0, 0)) := by rw [hw2, ← hs1]; exact heap_alloc_new w1 _
  have hc1 : w1.heap[c]? = some (.cells (queueCells sl (.func (.func K) #[] #[]) cm true) 51 (0, 0)) := by rw [hw1, heap_set_same hc]; rfl
  have hc2 := (hB2.block c (block_lt hc1)).trans hc1
  have ha1 : IsHeld w1 a x := (hO1.block a (block_lt ha) ac).trans ha
  have hb1 : IsHeld w1 b y := (hO1.block b (block_lt hb) bc).trans hb
  have HH : Hid (w.heap[c]? = some (.cells (queueCells sl (.func (.func K) #[] #[]) cm false) 51 (0, 0)) ∧ Only (· = c) w w1 ∧ Below w1.heap.size w1 w2 ∧ c < w.heap.size) := ⟨hc, hO1, hB2, lc⟩
  have HR : Hid (w2.heap[c]? = some (.cells (queueCells sl (.func (.func K) #[] #[]) cm true) 51 (0, 0)) ∧ w2.heap[w.heap.size]? = some (.cells #[ep c] 58 (0, 0)) ∧ w2.heap[a]? = some (.cells (heldCells x) 55 (0, 0)) ∧ w2.heap[b]? = some (.cells (heldCells y) 55 (0, 0)) ∧ w2 = w1.alloc (.cells #[ep c] 58) ∧ w1 = w.setCell ⟨c, 4, none⟩ (.bool true)) := ⟨hc2, hn2, ha1.below hB2, hb1.below hB2, hw2, hw1⟩
  have HK : Hid (∀ t n t' n' w, Calls Try.prog K #[idv t n, idv t' n'] w fun e w' => e = .returned (.bool (LB bk t n t' n')) ∧ Below w.heap.size w w') := hK
  clear hc hO1 hB2 hs1 hc2 hn2 ha1 hb1 hc1 hw2 hw1 ha hb hK a0 a1 b0 b1
  go_enter_defers Try.func36, Try.ntmps36
  go_wp2_with fail
  rw [← HR.out.2.2.2.2.2, ← HR.out.2.2.2.2.1]
  refine isLess_reg5 (by kernel_rfl) a b c w.heap.size K x y (LB bk x.t x.n y.t y.n) sl cm _ rfl rfl rfl rfl HR.out.2.2.1 HR.out.2.2.2.1 HR.out.2.1 HR.out.1 hen (fun W _ => HK.out _ _ _ _ W) ?_
  intro W hS
  have hcW := (hS.block c (block_lt HR.out.1)).trans HR.out.1
  have hxW := (hS.block _ (block_lt HR.out.2.1)).trans HR.out.2.1
  have HW : Hid (W.heap[c]? = some (.cells (queueCells sl (.func (.func K) #[] #[]) cm true) 51 (0, 0)) ∧ W.heap[w.heap.size]? = some (.cells #[ep c] 58 (0, 0)) ∧ Below w2.heap.size w2 W) := ⟨hcW, hxW, hS⟩
  clear hS hcW hxW q1 q4 f4
  simp only [putAll, List.setIfInBounds_toArray, List.set_cons_zero, List.set_cons_succ]
  go_wp2
  refine leaves_cons (f := 40) (args := #[ep w.heap.size]) (by simp) (by simp [go_sem]) ?_
  refine (catch_less w.heap.size c W _ (.bool true) HW.out.2.1 HW.out.1 rfl).mono ?_
  rintro e u' w'' ⟨rfl, rfl, rfl⟩
  refine ⟨_, results_tmp rfl _ _ _, rfl, ?_⟩
  obtain ⟨k1, k2, k3⟩ := HW.out
  obtain ⟨g1, g2, g3, g4⟩ := HH.out
  have hsz := g3.size
  have hsz2 := k3.size
  have hsz1 := g2.size
  refine ⟨k3.os.trans (g3.os.trans g2.os), k3.tape.trans (g3.tape.trans g2.tape), k3.output.trans (g3.output.trans g2.output), by simp [World.setCell]; omega, fun k hk => ?_⟩
  by_cases e : k = c
  · subst e
    rw [heap_set_same k1, g1]; rfl
  · rw [Below.heap_setCell _ _ _ _ (fun h => e h), k3.block k (by omega), g3.block k (by omega), g2.block k hk e]

set_option maxRecDepth 8000 in
set_option maxHeartbeats 1000000 in
theorem isLess_nil (c a b : Nat) (sl : Value) (cm : Nat) (x y : QE) (w : World)
    (hc : w.heap[c]? = some (.cells (queueCells sl .nilFunc cm false) 51 (0, 0))) (ha : IsHeld w a x) (hb : IsHeld w b y) :
    Calls Try.prog 36 #[ep c, ep a, ep b] w fun e w' => e = .returned (.bool (LB false x.t x.n y.t y.n)) ∧ Below w.heap.size w w' := by
  have q1 : w.cell? ⟨c, 1, none⟩ = some .nilFunc := by rw [cellOf hc 1]; rfl
  have hq := eql_nilFn
  obtain ⟨w1, hw1⟩ : ∃ w1, w1 = w.alloc (.cells #[ep c] 58) := ⟨_, rfl⟩
  have hB1 : Below w.heap.size w w1 := by rw [hw1]; exact (below_new w _).out
  have HR : Hid (w1 = w.alloc (.cells #[ep c] 58) ∧ w1.heap[a]? = some (.cells (heldCells x) 55 (0, 0)) ∧ w1.heap[b]? = some (.cells (heldCells y) 55 (0, 0)) ∧ Below w.heap.size w w1) := ⟨hw1, ha.below hB1, hb.below hB1, hB1⟩
  have lc := block_lt hc
  have nc : w.heap.size ≠ c := by omega
  clear hw1 hB1 ha hb hc
  go_enter_defers Try.func36, Try.ntmps36
  go_wp2_with fail
  rw [← HR.out.1]
  refine isLess_reg2 (by kernel_rfl) a b x y (LB false x.t x.n y.t y.n) _ rfl rfl rfl HR.out.2.1 HR.out.2.2.1 (fun W _ => less_any _ _ _ _ W) ?_
  intro W hS
  have HW : Hid (Below w.heap.size w W) := HR.out.2.2.2.trans (hS.mono HR.out.2.2.2.size)
  clear hS
  simp only [putAll, List.setIfInBounds_toArray, List.set_cons_zero, List.set_cons_succ]
  go_wp2
  refine ⟨_, results_tmp rfl _ _ _, rfl, HW.out⟩

/-- How a queue asks its order. -/
theorem isLess_any (c a b : Nat) (lv : Value) (bk : Bool) (hl : LessIs lv bk) (sl : Value) (cm : Nat) (x y : QE) (w : World)
    (hc : w.heap[c]? = some (.cells (queueCells sl lv cm false) 51 (0, 0))) (ha : IsHeld w a x) (hb : IsHeld w b y) :
    Calls Try.prog 36 #[ep c, ep a, ep b] w fun e w' => e = .returned (.bool (LB bk x.t x.n y.t y.n)) ∧ Below w.heap.size w w' := by
  rcases hl with ⟨rfl, rfl⟩ | ⟨K, rfl, hen, hK⟩
  · exact isLess_nil c a b sl cm x y w hc ha hb
  · exact isLess_fn c K a b bk sl cm x y w hen hK hc ha hb

end Go.Proofs.Ytgophojgofmkeaa.Ck
