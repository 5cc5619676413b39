/-
  The document's Shown.
-/
import Derived.Test.YtjajbhpcjickbaaDoorKAl
import Derived.Test.YtjajbhpcjickbaaDoorKNcmp
import Derived.WalkKit
import Derived.OrdersIn
import Derived.CallsIn
import Derived.ControlIn
import Derived.TacticsInMore
import Derived.OwnWalkIn
import Derived.RangeFuncCalls

namespace Go.Proofs.YtjajbhpcjickbaaDoor.Ck.Sh
open Go.RowKit Go.Lib Go.Maps

attribute [local go_sem] Oper.semAt_some

def strs (l : List (List UInt8)) : List Value := l.map fun x => Value.string (bas x)
theorem nms_of_cs {w : World} {p : Option Addr} {l : List (List UInt8)} (h : Cs w p (strs l)) : Nms w p l := fun j x hx => h j _ (by unfold strs; rw [List.getElem?_map, hx]; rfl)
theorem happ {W : World} {base : Nat} {p : Option Addr} {i c : Nat} {xs : List Value} (s : ByteArray) (h : W.ownsRow base 9 1 (.slice p i c) i xs) (hb : base ≤ W.heap.size) (hi : i < 1000000000000) :
    Hid ((W.alloc (.cells #[.string s] 9)).ownsRow base 9 1 (.slice p i c) i xs ∧ Cs (W.alloc (.cells #[.string s] 9)) (some ⟨W.heap.size, 0, none⟩) [.string s] ∧ [Value.string s].length = 1 * 1 ∧ (∀ u ∈ [Value.string s], u.oneCell' = true) ∧ (i + 1) * 16 ≤ 140737488355328 ∧ i + 1 ≤ 140737488355328 ∧ base ≤ (W.alloc (.cells #[.string s] 9)).heap.size) := by
  refine ⟨own_below h (below_new W _).out, fun j u hu => ⟨W.heap.size, 0, rfl, ?_⟩, rfl, fun u hu => by rw [List.mem_singleton.1 hu]; rfl, by omega, by omega, by simp; omega⟩
  rw [Nat.zero_add, cellOf (heap_alloc_new W _) j]
  simpa using hu
theorem shown_at (ids : List (Int × Int)) (names : List (List UInt8)) {n i : Nat} (h : i < n) : (shownL ids names n)[i]? = some (shownAt ids names n i) := by
  unfold shownL
  rw [List.getElem?_map, List.getElem?_range h]; rfl
end Go.Proofs.YtjajbhpcjickbaaDoor.Ck.Sh
