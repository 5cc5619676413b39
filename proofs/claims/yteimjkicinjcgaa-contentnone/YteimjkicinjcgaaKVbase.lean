/-
  What the other texts stand on: numbers in memory, sixty-four of them in one block, what a call leaves alone.
-/
import Derived.Test.YteimjkicinjcgaaProg
import Derived.Test.YteimjkicinjcgaaKVvecm
import Derived.WalkKit
import Derived.WalkSpells
import Derived.WalkLawsBesides
import Derived.Laws.OwnMore
import Derived.Laws.StructEq
import Derived.Deep.AppendLies
import Derived.Deep.WholeRow
import Derived.Maps.AppendAt
import Derived.Deep.LoopGhost
import Derived.Deep.QuietTactic
import Derived.BigQuiet
import Derived.RegionTactic

namespace Go.Proofs.Yteimjkicinjcgaa.Vc
open Go.RowKit

theorem Try.info2 : (Try.prog.info? 2).map (fun i => (i.zero, i.size, i.bytes)) = some (some (.int .i64 0), 1, 8) := by kernel_rfl
theorem Try.size87 : (Try.prog.info? 87).map (·.size) = some 64 := by kernel_rfl

theorem cellOf {w : World} {b : Nat} {cs : Array Value} {t : TypeId} {f : Nat × Nat} (h : w.heap[b]? = some (.cells cs t f)) (j : Nat) :
    w.cell? ⟨b, j, none⟩ = cs[j]? := by
  simp [World.cell?, h]
theorem frozenOf {w : World} {b : Nat} {cs : Array Value} {t : TypeId} (h : w.heap[b]? = some (.cells cs t (0, 0))) (j : Nat) :
    w.frozen? ⟨b, j, none⟩ = false := by
  simp [World.frozen?, h]
theorem cell_lt {w : World} {b k : Nat} {v : Value} (h : w.cell? ⟨b, k, none⟩ = some v) : b < w.heap.size := by
  by_cases hb : b < w.heap.size
  · exact hb
  · simp [World.cell?, Array.getElem?_eq_none (Nat.not_lt.1 hb)] at h
theorem block_lt {w : World} {b : Nat} {o : Obj} (h : w.heap[b]? = some o) : b < w.heap.size := (Array.getElem?_eq_some_iff.1 h).1

/-- A callee that leaves the world as it was, met at its call. -/
theorem Calls_on {P : Program} {f : Nat} {args : Array Value} {w : World} {v : Ending} {K : Ending → World → Prop}
    (h : Calls P f args w fun e w' => e = v ∧ w' = w) (hk : K v w) : Calls P f args w K :=
  h.mono (by rintro e w' ⟨rfl, rfl⟩; exact hk)

abbrev iv (n : Int) : Value := .int .i64 n
theorem iv_one (ns : List Int) : ∀ v ∈ ns.map iv, v.oneCell' = true := by
  intro v hv
  obtain ⟨x, _, rfl⟩ := List.mem_map.1 hv
  rfl

/-- The values xs lie from p on. -/
def Lies (w : World) (p : Option Addr) (xs : List Value) : Prop :=
  0 < xs.length → ∃ b o, p = some ⟨b, o, none⟩ ∧ ∀ j x, xs[j]? = some x → w.cell? ⟨b, o + j, none⟩ = some x
theorem lies_nil (w : World) (p : Option Addr) : Lies w p [] := fun h => absurd h (by simp)
theorem below_lies {w w' : World} (h : Below w.heap.size w w') {p : Option Addr} {xs : List Value} (hb : Lies w p xs) : Lies w' p xs := by
  intro hl
  obtain ⟨b, o, rfl, hx⟩ := hb hl
  refine ⟨b, o, rfl, fun j x hj => ?_⟩
  have hc := hx j x hj
  exact (h.cell (p := ⟨b, o + j, none⟩) (cell_lt hc)).trans hc
/-- What lies at numbers, at one place. -/
theorem lies_at {w : World} {p : Option Addr} {ns : List Int} (h : Lies w p (ns.map iv)) {k : Nat} {x : Int} (hx : ns[k]? = some x) : ∃ b o, p = some ⟨b, o, none⟩ ∧ w.cell? ⟨b, o + k, none⟩ = some (.int .i64 x) := by
  obtain ⟨b, o, rfl, hc⟩ := h (by have := (List.getElem?_eq_some_iff.1 hx).1; simp; omega)
  exact ⟨b, o, rfl, hc k (iv x) (by rw [List.getElem?_map, hx]; rfl)⟩
theorem lies_take {w : World} {p : Option Addr} {ns : List Int} (h : Lies w p (ns.map iv)) (n : Nat) : Lies w p ((ns.take n).map iv) := by
  intro hl
  obtain ⟨b, o, rfl, hc⟩ := h (by simp at hl ⊢; omega)
  refine ⟨b, o, rfl, fun j x hj => hc j x ?_⟩
  rw [List.map_take, List.getElem?_take] at hj
  split at hj
  · exact hj
  · cases hj

theorem own_lt {W : World} {base e : Nat} {v : Value} {n : Nat} {xs : List Value} (h : W.ownsRow base e 1 v n xs) {b : Nat} (hb : v.ownBlock = some b) : base ≤ b ∧ b < W.heap.size := by
  rcases h.2 with ⟨rfl, _⟩ | ⟨g, cap, cur, rfl, hb', hgg, r⟩
  · cases hb
  · cases hb
    exact ⟨hb', block_lt hgg⟩
theorem own_below {W W' : World} {base e : Nat} {v : Value} {n : Nat} {xs : List Value} (h : W.ownsRow base e 1 v n xs) (hb : Below W.heap.size W W') : W'.ownsRow base e 1 v n xs := by
  refine ⟨h.1, ?_⟩
  rcases h.2 with h0 | ⟨g, cap, cur, rfl, hg, hgg, r⟩
  · exact .inl h0
  · exact .inr ⟨g, cap, cur, rfl, hg, (hb.block g (block_lt hgg)).trans hgg, r⟩
theorem owns_lies {W : World} {base e : Nat} {v : Value} {n : Nat} {xs : List Value} (h : W.ownsRow base e 1 v n xs) :
    n = xs.length ∧ ∃ p cap, v = .slice p xs.length cap ∧ xs.length ≤ cap ∧ Lies W p xs := by
  have hlen := h.1
  rw [Nat.mul_one] at hlen
  subst hlen
  refine ⟨rfl, ?_⟩
  rcases h.2 with ⟨rfl, h0⟩ | ⟨g, cap, cur, rfl, hb', hgg, hc, r⟩
  · exact ⟨none, 0, by rw [h0], by omega, fun hl => absurd hl (by omega)⟩
  · refine ⟨some ⟨g, 0, none⟩, cap, rfl, hc, fun _ => ⟨g, 0, rfl, fun j x hj => ?_⟩⟩
    have hlt := (List.getElem?_eq_some_iff.1 hj).1
    rw [Nat.zero_add, h.cellAt j (by omega), hj]

/-- What a call answers that makes a vector: the numbers ns, in memory; nothing old has turned. -/
def Ans (w : World) (ns : List Int) (e : Ending) (w' : World) : Prop := ∃ p c, e = .returned (.slice p ns.length c) ∧ Lies w' p (ns.map iv) ∧ Below w.heap.size w w'
theorem Ans.mk {w w' : World} {ns : List Int} {p : Option Addr} {n c : Nat} {e : Ending} (he : e = .returned (.slice p n c)) (hn : n = ns.length) (hl : Lies w' p (ns.map iv)) (hb : Below w.heap.size w w') : Ans w ns e w' := by
  subst hn
  exact ⟨p, c, he, hl, hb⟩

/- Sixty-four numbers in one block. -/

def row (ns : List Int) : Array Value := (ns.map iv).toArray
def zeros : List Int := nums (fun _ => 0)
theorem row_size (ns : List Int) : (row ns).size = ns.length := by simp [row]
theorem row_get (ns : List Int) (k : Nat) : (row ns)[k]? = ns[k]?.map iv := by simp [row]
theorem row_one (ns : List Int) : (row ns).all (·.oneCell') = true := by simp [row, Value.oneCell']
theorem row_set (ns : List Int) (k : Nat) (x : Int) : (row ns).setIfInBounds k (.int .i64 x) = row (ns.set k x) := by
  simp [row, List.map_set]
theorem zeros_length : zeros.length = 64 := nums_length _

def Blk (w : World) (g : Nat) (ns : List Int) : Prop := w.heap[g]? = some (.cells (row ns) 87 (0, 0))
theorem Blk.lt {w : World} {g : Nat} {ns : List Int} (h : Blk w g ns) : g < w.heap.size := block_lt h
theorem Blk.cell {w : World} {g : Nat} {ns : List Int} (h : Blk w g ns) {k : Nat} {x : Int} (hx : ns[k]? = some x) : w.cell? ⟨g, k, none⟩ = some (.int .i64 x) := by
  rw [cellOf h k, row_get, hx]; rfl
theorem Blk.frozen {w : World} {g : Nat} {ns : List Int} (h : Blk w g ns) (k : Nat) : w.frozen? ⟨g, k, none⟩ = false := frozenOf h k
theorem Blk.below {w w' : World} {g : Nat} {ns : List Int} (h : Blk w g ns) (hb : Below w.heap.size w w') : Blk w' g ns := (hb.block g h.lt).trans h
theorem Blk.set {w : World} {g : Nat} {ns : List Int} (h : Blk w g ns) (k : Nat) (x : Int) : Blk (w.setCell ⟨g, k, none⟩ (.int .i64 x)) g (ns.set k x) := by
  show _ = _
  rw [heap_setCell_same w g k (row ns) 87 (.int .i64 x) h, row_set]
theorem Blk.set_other {w : World} {g b : Nat} {ns : List Int} (h : Blk w g ns) (k : Nat) (v : Value) (hne : g ≠ b) : Blk (w.setCell ⟨b, k, none⟩ v) g ns :=
  (heap_setCell_other w ⟨b, k, none⟩ g v hne).trans h
theorem Blk.row {w : World} {g : Nat} {xs : List Int} (h : Blk w g xs) (ys : List Int) : Blk (w.setRow g (row ys)) g ys := setRow_heap w g _ _ 87 _ h
theorem Blk.alloc {w : World} {g : Nat} {xs : List Int} (h : Blk w g xs) (o : Obj) : Blk (w.alloc o) g xs := (Below.heap_alloc _ _ _ h.lt).trans h
theorem Blk.made (w : World) (xs : List Int) : Blk (w.alloc (.cells (Vc.row xs) 87)) w.heap.size xs := heap_alloc_new w _
theorem Blk.lies {w : World} {g : Nat} {ns : List Int} (h : Blk w g ns) : Lies w (some ⟨g, 0, none⟩) (ns.map iv) := by
  refine fun _ => ⟨g, 0, rfl, fun j x hj => ?_⟩
  rw [List.getElem?_map] at hj
  obtain ⟨y, hy, rfl⟩ := Option.map_eq_some_iff.1 hj
  rw [Nat.zero_add]
  exact h.cell hy
theorem Below.row {B : Nat} {w w' : World} (h : Below B w w') {g : Nat} (hg : B ≤ g) (c : Array Value) : Below B w (w'.setRow g c) :=
  ⟨h.os, h.tape, h.output, by simpa using h.size, fun k hk => (setRow_other w' g k c (by omega)).trans (h.block k hk)⟩

/- The operations on whole arrays. -/

theorem zero38 (w : World) : (zeroValue 87).run Try.prog w = .ok (.agg (row zeros)) w := by
  rw [Try.zeroValue87 w]
  rfl

theorem wpList_alloc38 {w : World} {ops : Array Oper} {rest : List Oper} {o : Oper} {a : Act} {Q : Exit → Act → World → Prop} (hgd : o.guard = none) (ho : o.op = .alloc 87)
    (h : wpList Try.prog ops Q rest (a.put o.dst (.pointer (some ⟨w.heap.size, 0, none⟩))) (w.alloc (.cells (row zeros) 87))) : wpList Try.prog ops Q (o :: rest) a w := by
  refine wpList_plain hgd fun K hK => ?_
  unfold Oper.wp execOp
  simp only [ho, Sem.run_bind, Instr.alloc, newVar, newRow, zero38, run_newObj_alloc, Sem.run_pure, Result.andThen_ok, Value.cells]
  exact hK _ _ h

theorem wpList_load38 {w : World} {ops : Array Oper} {rest : List Oper} {o : Oper} {a : Act} {Q : Exit → Act → World → Prop} (hgd : o.guard = none) (x : Operand) (ho : o.op = .load 87 x)
    (g : Nat) (hx : a.eval x = .pointer (some ⟨g, 0, none⟩)) (ns : List Int) (hb : Hid (Blk w g ns)) (hl : Hid (ns.length = 64))
    (h : wpList Try.prog ops Q rest (a.put o.dst (.agg (row ns))) w) : wpList Try.prog ops Q (o :: rest) a w :=
  wpList_load_row hgd 87 x ho g hx 87 (row ns) (0, 0) _ hb.out Try.underlying87 rfl (by rw [row_size, hl.out]; exact Try.size87) h

theorem wpList_store38 {w : World} {ops : Array Oper} {rest : List Oper} {o : Oper} {a : Act} {Q : Exit → Act → World → Prop} (hgd : o.guard = none) (x y : Operand) (ho : o.op = .store 87 x y)
    (g : Nat) (hx : a.eval x = .pointer (some ⟨g, 0, none⟩)) (ns ms : List Int) (hy : a.eval y = .agg (row ms)) (hb : Hid (Blk w g ns)) (hl : Hid (ns.length = 64)) (hm : Hid (ms.length = 64))
    (h : Hid (Blk (w.setRow g (row ms)) g ms) → wpList Try.prog ops Q rest (a.put o.dst undef) (w.setRow g (row ms))) : wpList Try.prog ops Q (o :: rest) a w := by
  refine wpList_plain hgd fun K hK => ?_
  unfold Oper.wp execOp
  simp only [ho, hx, hy, Instr.storeAt, Instr.sureAddr, Sem.run_bind, Sem.run_pure, Result.andThen_ok, run_storeVar_row w g 87 87 (row ns) (row ms) hb.out (by rw [row_size, hm.out]; exact Try.size87) (by rw [row_size, row_size, hl.out, hm.out]) (row_one ms)]
  exact hK _ _ (h (Blk.row hb.out ms))

theorem wpList_box38 {w : World} {ops : Array Oper} {rest : List Oper} {o : Oper} {a : Act} {Q : Exit → Act → World → Prop} (hgd : o.guard = none) (x : Operand) (ho : o.op = .box 87 x) (ns : List Int) (hx : a.eval x = .agg (row ns))
    (h : wpList Try.prog ops Q rest (a.put o.dst (.pointer (some ⟨w.heap.size, 0, none⟩))) (w.alloc (.cells (row ns) 87))) : wpList Try.prog ops Q (o :: rest) a w := by
  refine wpList_plain hgd fun K hK => ?_
  unfold Oper.wp execOp
  simp only [ho, hx, Sem.run_bind, Instr.box, newVar, newRow, run_newObj_alloc, Sem.run_pure, Result.andThen_ok, Value.cells]
  exact hK _ _ h

theorem index38 {ns : List Int} {k : Nat} {x : Int} (hl : ns.length = 64) (hx : ns[k]? = some x) (w : World) : (Instr.index 87 (.agg (row ns)) (.int .i64 k)).run Try.prog w = .ok (.int .i64 x) w := by
  have hk : k < 64 := by have := (List.getElem?_eq_some_iff.1 hx).1; omega
  have h2 : (row ns)[k]? = some (.int .i64 x) := by rw [row_get, hx]; rfl
  unfold Instr.index
  simp [asIntOf, run_underlying Try.underlying87, Try.sizeOf2, part, Try.isAgg2, h2]
  omega

end Go.Proofs.Yteimjkicinjcgaa.Vc
