import Derived.Test.YthhakekbffembaaGreatDoorKZa
import Derived.Test.YthhakekbffembaaGreatDoorKZr
import Derived.BigQuiet
import Derived.Deep.RegionHeld3
import Derived.Maps.AppendAt
import Derived.Deep.MidRow
import Derived.Laws.OwnMore

namespace Go.Proofs.YthhakekbffembaaGreatDoor.Ck.Y
open Go.RowKit Go.Maps
theorem apart_tags {W : World} {g g' : Nat} {cs cs' : Array Value} {t t' : TypeId} {fr fr' : Nat × Nat} (h : W.heap[g]? = some (.cells cs t fr)) (h' : W.heap[g']? = some (.cells cs' t' fr')) (ht : t ≠ t') : g ≠ g' := by
 rintro rfl
 rw [h] at h'
 simp only [Option.some.injEq, Obj.cells.injEq] at h'
 exact ht h'.2.1
theorem own_below {w w' : World} {base : Nat} {e : TypeId} {size : Nat} {v : Value} {n : Nat} {xs : List Value} (h : w.ownsRow base e size v n xs) (hb : Below w.heap.size w w') : w'.ownsRow base e size v n xs := by
 refine ⟨h.1, ?_⟩
 rcases h.2 with h0 | ⟨g, cap, cur, hv, hbs, hblk, r⟩
 · exact .inl h0
 · exact .inr ⟨g, cap, cur, hv, hbs, (hb.block g (block_lt hblk)).trans hblk, r⟩
theorem own_slice {W : World} {base : Nat} {e : TypeId} {n : Nat} {v : Value} {xs : List Value} {s : Nat} (h : W.ownsRow base e s v n xs) : ∃ p cap, v = .slice p n cap := by
 rcases h.2 with ⟨rfl, h0⟩ | ⟨g', cap, cur, rfl, _⟩
 · exact ⟨none, 0, by rw [h0]⟩
 · exact ⟨_, _, rfl⟩
def sameB (t n t' n' : Int) : Bool := decide (t = t') && decide (n = n')
structure OG where
 t : Int
 n : Int
 sq : Int
 kd : Int
 ot : Int
 on : Int
 pt : Int
 pn : Int
 nm : ByteArray
 dp : Option Addr
 dl : Nat
 dc : Nat
 sp : Option Addr
 sl : Nat
 sc : Nat
abbrev opgC (x : OG) : Array Value := #[.int .i64 x.t, .int .i64 x.n, .int .i64 x.sq, .int .i64 x.kd, .int .i64 x.ot, .int .i64 x.on, .int .i64 x.pt, .int .i64 x.pn, .string x.nm, .slice x.dp x.dl x.dc, .slice x.sp x.sl x.sc]
abbrev opgv (x : OG) : Value := .agg (opgC x)
theorem op_cellsG {w : World} {g : Nat} {T : TypeId} {fr : Nat × Nat} {x : OG} (h : w.heap[g]? = some (.cells (opgC x) T fr)) :
   w.cell? ⟨g, 0, none⟩ = some (.int .i64 x.t) ∧ w.cell? ⟨g, 1, none⟩ = some (.int .i64 x.n) ∧ w.cell? ⟨g, 2, none⟩ = some (.int .i64 x.sq) ∧ w.cell? ⟨g, 3, none⟩ = some (.int .i64 x.kd) ∧ w.cell? ⟨g, 4, none⟩ = some (.int .i64 x.ot) ∧ w.cell? ⟨g, 5, none⟩ = some (.int .i64 x.on) ∧ w.cell? ⟨g, 6, none⟩ = some (.int .i64 x.pt) ∧ w.cell? ⟨g, 7, none⟩ = some (.int .i64 x.pn) ∧ w.cell? ⟨g, 8, none⟩ = some (.string x.nm) ∧ w.cell? ⟨g, 9, none⟩ = some (.slice x.dp x.dl x.dc) ∧ w.cell? ⟨g, 10, none⟩ = some (.slice x.sp x.sl x.sc) :=
 ⟨cellOf h 0, cellOf h 1, cellOf h 2, cellOf h 3, cellOf h 4, cellOf h 5, cellOf h 6, cellOf h 7, cellOf h 8, cellOf h 9, cellOf h 10⟩
end Go.Proofs.YthhakekbffembaaGreatDoor.Ck.Y
