/-
  kept of package device: it asks keep, and catches what keep throws.
-/
import Derived.Test.YtphedokdckoccaaGreatDoorDwrite
import Derived.Recover
namespace Go.Proofs.YtphedokdckoccaaGreatDoor
open Go.RowKit Go.Maps

theorem eql_fn (w : World) (k : Nat) (caps : Array Value) : (binOp .eql 65 (.func (.func k) #[] caps) .nilFunc).run Tryz.prog w = .ok (.bool false) w := by
  have h : ∀ d : Nat, (Op.equalIn (d + 1) 65 (.func (.func k) #[] caps) .nilFunc).run Tryz.prog w = .ok false w := fun d => by
    simp [Op.equalIn, run_underlying Tryz.underlying65]
  simp only [binOp]
  simp [Op.equal, Op.maxDepth, h 9999]
theorem eql_nilFn (w : World) : (binOp .eql 65 .nilFunc .nilFunc).run Tryz.prog w = .ok (.bool true) w := by
  have h : ∀ d : Nat, (Op.equalIn (d + 1) 65 .nilFunc .nilFunc).run Tryz.prog w = .ok true w := fun d => by
    simp [Op.equalIn, run_underlying Tryz.underlying65]
  simp only [binOp]
  simp [Op.equal, Op.maxDepth, h 9999]

set_option maxRecDepth 8000 in
set_option maxHeartbeats 400000 in
theorem kept_nil (i : Int) (w : World) :
    Calls Tryz.prog 69 #[.nilFunc, .int .i64 i] w fun e w' => e = .returned (.bool false) ∧ w' = w := by
  have hq := eql_nilFn
  go_enter Tryz.func69, Tryz.ntmps69
  go_wp2
  go_ret
  exact ⟨rfl, rfl⟩

theorem catch_idle (w : World) :
    CallsD Tryz.prog 118 #[] .returning w fun e u' w' => e = .returned (.tuple #[]) ∧ u' = .returning ∧ w' = w := by
  refine callsD_of_wpS Tryz.func118 rfl fun c₀ cs hu => ?_
  apply wpS_region
  simp [wpOpsS, go_sem, recoverD, hu, Tryz.ntmps118]
  cases c₀
  simp_all [bodyPostS, results, Tryz.results118]

set_option maxRecDepth 8000 in
set_option maxHeartbeats 400000 in
theorem kept_fn (i : Int) (k : Nat) (caps : Array Value) (w : World) (Q : Bool → World → Prop) (hent : ∀ args w, (callFunc k args).run Tryz.prog w = .ok (.enter k args) w)
    (hc : Calls Tryz.prog k (#[.int .i64 i] ++ caps) w fun e w' => ∃ b, e = .returned (.bool b) ∧ Q b w') :
    Calls Tryz.prog 69 #[.func (.func k) #[] caps, .int .i64 i] w fun e w' => ∃ b, e = .returned (.bool b) ∧ Q b w' := by
  have hq := eql_fn
  go_enter_defers Tryz.func69, Tryz.ntmps69
  go_wp2_with fail
  refine hc.mono ?_
  rintro e w' ⟨b, rfl, hQ⟩
  go_wp2
  refine leaves_cons (f := 118) (args := #[]) (by simp) (by simp [go_sem]) ?_
  refine (catch_idle _).mono ?_
  rintro e u' w'' ⟨rfl, rfl, rfl⟩
  exact ⟨_, results_tmp rfl _ _ _, b, rfl, hQ⟩

end Go.Proofs.YtphedokdckoccaaGreatDoor
