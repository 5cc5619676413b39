/-
  The document's Shown.
-/
import Derived.Test.YtjajbhpcjickbaaDoorKAk
import Derived.Test.YtjajbhpcjickbaaDoorKZr

namespace Go.Proofs.YtjajbhpcjickbaaDoor.Ck.Sh
open Go.RowKit Go.Lib Go.Maps

attribute [local go_sem] Oper.semAt_some

def strs (l : List (List UInt8)) : List Value := l.map fun x => Value.string (bas x)
theorem strs_one (l : List (List UInt8)) : ∀ u ∈ strs l, u.oneCell' = true := fun u hu => by
  obtain ⟨x, _, rfl⟩ := List.mem_map.1 hu
  rfl
theorem nms_of_cs {w : World} {p : Option Addr} {l : List (List UInt8)} (h : Cs w p (strs l)) : Nms w p l := fun j x hx => h j _ (by unfold strs; rw [List.getElem?_map, hx]; rfl)
theorem cs_of_nms {w : World} {p : Option Addr} {l : List (List UInt8)} (h : Nms w p l) : Cs w p (strs l) := fun j u hu => by
  unfold strs at hu
  rw [List.getElem?_map] at hu
  obtain ⟨x, hx, rfl⟩ := Option.map_eq_some_iff.1 hu
  exact h j x hx

theorem shown_at (ids : List (Int × Int)) (names : List (List UInt8)) {n i : Nat} (h : i < n) : (shownL ids names n)[i]? = some (shownAt ids names n i) := by
  unfold shownL
  rw [List.getElem?_map, List.getElem?_range h]; rfl
end Go.Proofs.YtjajbhpcjickbaaDoor.Ck.Sh
