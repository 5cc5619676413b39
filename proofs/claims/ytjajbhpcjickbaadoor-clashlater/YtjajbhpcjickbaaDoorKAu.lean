/-
  ClashLater's law, for all that comes in.
-/
import Derived.Test.YtjajbhpcjickbaaDoorKAt

namespace Go.Proofs.YtjajbhpcjickbaaDoor.Ck.Sh
open Go.RowKit Go.Lib Go.Maps

theorem Ids.taken {w : World} {p : Option Addr} {ids : List (Int × Int)} (h : Ids w p ids) (k : Nat) : Ids w p (ids.take k) := fun j x hx => by
  rw [List.getElem?_take] at hx
  split at hx
  · exact h j x hx
  · cases hx
theorem Nms.taken {w : World} {p : Option Addr} {names : List (List UInt8)} (h : Nms w p names) (k : Nat) : Nms w p (names.take k) := fun j x hx => by
  rw [List.getElem?_take] at hx
  split at hx
  · exact h j x hx
  · cases hx
theorem clashLater_law (ids : List (Int × Int)) (names : List (List UInt8)) (nm : List UInt8) (p1 p2 : Option Addr) (c1 c2 : Nat) (w : World) (hL : Lb w) (h1 : Ids w p1 ids) (h2 : Nms w p2 names) (hc1 : ids.length ≤ c1) (hc2 : names.length ≤ c2) (hid : ∀ x ∈ ids, InI x.1 ∧ InI x.2) (hnm : ∀ x ∈ names, x.length ≤ 150000000000000) (hnl : nm.length ≤ 150000000000000) :
    Calls Tryd.prog 6 #[.slice p1 ids.length c1, .slice p2 names.length c2, .string (bas nm)] w fun e w' => e = .returned (.bool true) ∧ Below w.heap.size w w' := by
  obtain ⟨m, hm⟩ : ∃ m, m = min 10 ids.length := ⟨_, rfl⟩
  obtain ⟨n, hn⟩ : ∃ n, n = min m names.length := ⟨_, rfl⟩
  exact later_law (ids.take n) (names.take n) nm p1 p2 ids.length names.length m n c1 c2 w hL (h1.taken n) (h2.taken n) hc1 hc2 (by omega) (by omega) (by rw [List.length_take]; omega) (by rw [List.length_take]; omega) (fun x hx => hid x (List.mem_of_mem_take hx)) (fun x hx => hnm x (List.mem_of_mem_take hx)) hnl

end Go.Proofs.YtjajbhpcjickbaaDoor.Ck.Sh
