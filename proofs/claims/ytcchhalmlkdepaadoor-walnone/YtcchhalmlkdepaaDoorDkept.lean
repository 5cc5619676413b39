/-
  kept of package device: it asks keep, and catches what keep throws.
-/
import Derived.Test.YtcchhalmlkdepaaDoorDwrite
import Derived.Recover
namespace Go.Proofs.YtcchhalmlkdepaaDoor
open Go.RowKit Go.Maps

theorem eql_fn (w : World) (k : Nat) (caps : Array Value) : (binOp .eql 35 (.func (.func k) #[] caps) .nilFunc).run Tryd.prog w = .ok (.bool false) w := by
  have h : ∀ d : Nat, (Op.equalIn (d + 1) 35 (.func (.func k) #[] caps) .nilFunc).run Tryd.prog w = .ok false w := fun d => by
    simp [Op.equalIn, run_underlying Tryd.underlying35]
  simp only [binOp]
  simp [Op.equal, Op.maxDepth, h 9999]
theorem eql_nilFn (w : World) : (binOp .eql 35 .nilFunc .nilFunc).run Tryd.prog w = .ok (.bool true) w := by
  have h : ∀ d : Nat, (Op.equalIn (d + 1) 35 .nilFunc .nilFunc).run Tryd.prog w = .ok true w := fun d => by
    simp [Op.equalIn, run_underlying Tryd.underlying35]
  simp only [binOp]
  simp [Op.equal, Op.maxDepth, h 9999]

set_option maxRecDepth 8000 in
set_option maxHeartbeats 400000 in
theorem kept_nil (i : Int) (w : World) :
    Calls Tryd.prog 47 #[.nilFunc, .int .i64 i] w fun e w' => e = .returned (.bool false) ∧ w' = w := by
  have hq := eql_nilFn
  go_enter Tryd.func47, Tryd.ntmps47
  go_wp2
  go_ret
  exact ⟨rfl, rfl⟩

theorem catch_idle (w : World) :
    CallsD Tryd.prog 64 #[] .returning w fun e u' w' => e = .returned (.tuple #[]) ∧ u' = .returning ∧ w' = w := by
  refine callsD_of_wpS Tryd.func64 rfl fun c₀ cs hu => ?_
  apply wpS_region
  simp [wpOpsS, go_sem, recoverD, hu, Tryd.ntmps64]
  cases c₀
  simp_all [bodyPostS, results, Tryd.results64]

set_option maxRecDepth 8000 in
set_option maxHeartbeats 400000 in
theorem kept_fn (i : Int) (k : Nat) (caps : Array Value) (w : World) (Q : Bool → World → Prop) (hent : ∀ args w, (callFunc k args).run Tryd.prog w = .ok (.enter k args) w)
    (hc : Calls Tryd.prog k (#[.int .i64 i] ++ caps) w fun e w' => ∃ b, e = .returned (.bool b) ∧ Q b w') :
    Calls Tryd.prog 47 #[.func (.func k) #[] caps, .int .i64 i] w fun e w' => ∃ b, e = .returned (.bool b) ∧ Q b w' := by
  have hq := eql_fn
  go_enter_defers Tryd.func47, Tryd.ntmps47
  go_wp2_with fail
  refine hc.mono ?_
  rintro e w' ⟨b, rfl, hQ⟩
  go_wp2
  refine leaves_cons (f := 64) (args := #[]) (by simp) (by simp [go_sem]) ?_
  refine (catch_idle _).mono ?_
  rintro e u' w'' ⟨rfl, rfl, rfl⟩
  exact ⟨_, results_tmp rfl _ _ _, b, rfl, hQ⟩

end Go.Proofs.YtcchhalmlkdepaaDoor
