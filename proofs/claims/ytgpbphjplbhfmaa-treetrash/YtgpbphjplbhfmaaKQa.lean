/-
  Rows of operations, whatever their fields.
-/
import Derived.Test.YtgpbphjplbhfmaaKZa
import Derived.Test.YtgpbphjplbhfmaaKZr
import Derived.BigQuiet
import Derived.Deep.RegionHeld3
import Derived.Maps.AppendAt
import Derived.Deep.MidRow
import Derived.Laws.OwnMore

namespace Go.Proofs.Ytgpbphjplbhfmaa.Ck.Y
open Go.RowKit Go.Maps

/-- To halt a walk. -/
structure Stop (p : Prop) : Prop where
  out : p
theorem apart_tags {W : World} {g g' : Nat} {cs cs' : Array Value} {t t' : TypeId} {fr fr' : Nat × Nat} (h : W.heap[g]? = some (.cells cs t fr)) (h' : W.heap[g']? = some (.cells cs' t' fr')) (ht : t ≠ t') : g ≠ g' := by
  rintro rfl
  rw [h] at h'
  simp only [Option.some.injEq, Obj.cells.injEq] at h'
  exact ht h'.2.1
theorem own_below {w w' : World} {base : Nat} {e : TypeId} {size : Nat} {v : Value} {n : Nat} {xs : List Value} (h : w.ownsRow base e size v n xs) (hb : Below w.heap.size w w') : w'.ownsRow base e size v n xs := by
  refine ⟨h.1, ?_⟩
  rcases h.2 with h0 | ⟨g, cap, cur, hv, hbs, hblk, r⟩
  · exact .inl h0
  · exact .inr ⟨g, cap, cur, hv, hbs, (hb.block g (block_lt hblk)).trans hblk, r⟩
theorem own_slice {W : World} {base : Nat} {e : TypeId} {n : Nat} {v : Value} {xs : List Value} {s : Nat} (h : W.ownsRow base e s v n xs) : ∃ p cap, v = .slice p n cap := by
  rcases h.2 with ⟨rfl, h0⟩ | ⟨g', cap, cur, rfl, _⟩
  · exact ⟨none, 0, by rw [h0]⟩
  · exact ⟨_, _, rfl⟩
/-- Same, of any two stamps. -/
def sameB (t n t' n' : Int) : Bool := decide (t = t') && decide (n = n')
theorem same_any (t n t' n' : Int) (w : World) : Calls Try.prog 16 #[idv t n, idv t' n'] w fun e w' => e = .returned (.bool (sameB t n t' n')) ∧ Below w.heap.size w w' := by
  have HB : Hid (∀ o o', Below w.heap.size w ((w.alloc o).alloc o')) := fun o o' => (below_two w o o').out
  by_cases h0 : t = t'
  · subst h0
    have HE : Hid (sameB t n t n' = decide (n = n')) := by show _ = _; simp [sameB]
    go_enter Try.func16, Try.ntmps16
    go_wp2
    go_ret
    rw [HE.out]
    exact ⟨by simp; rfl, HB.out _ _⟩
  · have HE : Hid (sameB t n t' n' = false) := by show _ = _; simp [sameB, h0]
    go_enter Try.func16, Try.ntmps16
    go_wp2
    go_ret
    rw [HE.out]
    exact ⟨by simp, HB.out _ _⟩

/-- An operation's eleven cells. -/
structure OG where
  t : Int
  n : Int
  sq : Int
  kd : Int
  ot : Int
  on : Int
  pt : Int
  pn : Int
  nm : ByteArray
  dp : Option Addr
  dl : Nat
  dc : Nat
  sp : Option Addr
  sl : Nat
  sc : Nat
abbrev opgC (x : OG) : Array Value := #[.int .i64 x.t, .int .i64 x.n, .int .i64 x.sq, .int .i64 x.kd, .int .i64 x.ot, .int .i64 x.on, .int .i64 x.pt, .int .i64 x.pn, .string x.nm, .slice x.dp x.dl x.dc, .slice x.sp x.sl x.sc]
abbrev opgv (x : OG) : Value := .agg (opgC x)
end Go.Proofs.Ytgpbphjplbhfmaa.Ck.Y
