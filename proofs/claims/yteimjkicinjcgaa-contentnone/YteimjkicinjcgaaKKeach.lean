/-
  The writes of a list of method values, in order; IDs.
-/
import Derived.Test.YteimjkicinjcgaaKKwany

namespace Go.Proofs.Yteimjkicinjcgaa.Cd
open Go.RowKit

theorem enters {f : Nat} {fn : Func} {c : Code} (hf : Try.prog.funcs[f]? = some fn) (hname : (fn.name == "runtime.NumGoroutine") = false) (hb : fn.body = some c) : ∀ args w, (callFunc f args).run Try.prog w = .ok (.enter f args) w := by
  intro args w
  have h1 : fn.name ≠ "runtime.NumGoroutine" := by simpa using hname
  simp [callFunc, hf, h1, hb, mark]

theorem lies_take {w : World} {p : Option Addr} {xs : List Value} (h : Lies w p xs) (k : Nat) : Lies w p (xs.take k) := by
  intro hl
  obtain ⟨b, o, rfl, hx⟩ := h (by rw [List.length_take] at hl; omega)
  refine ⟨b, o, rfl, fun j x hj => hx j x ?_⟩
  rw [List.getElem?_take] at hj
  split at hj
  · exact hj
  · cases hj

end Go.Proofs.Yteimjkicinjcgaa.Cd
