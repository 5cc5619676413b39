/-
  kept of package device: it asks keep, and catches what keep throws.
-/
import Derived.Test.YtlcojcldbdikgaaGreatDoorDwrite
import Derived.Recover
namespace Go.Proofs.YtlcojcldbdikgaaGreatDoor
open Go.RowKit Go.Maps

theorem eql_fn (w : World) (k : Nat) (caps : Array Value) : (binOp .eql 47 (.func (.func k) #[] caps) .nilFunc).run Tryz.prog w = .ok (.bool false) w := by
  have h : ∀ d : Nat, (Op.equalIn (d + 1) 47 (.func (.func k) #[] caps) .nilFunc).run Tryz.prog w = .ok false w := fun d => by
    simp [Op.equalIn, run_underlying Tryz.underlying47]
  simp only [binOp]
  simp [Op.equal, Op.maxDepth, h 9999]
theorem eql_nilFn (w : World) : (binOp .eql 47 .nilFunc .nilFunc).run Tryz.prog w = .ok (.bool true) w := by
  have h : ∀ d : Nat, (Op.equalIn (d + 1) 47 .nilFunc .nilFunc).run Tryz.prog w = .ok true w := fun d => by
    simp [Op.equalIn, run_underlying Tryz.underlying47]
  simp only [binOp]
  simp [Op.equal, Op.maxDepth, h 9999]

end Go.Proofs.YtlcojcldbdikgaaGreatDoor
