/-
  OpName, for every text (of any length), whatever the memory and the order that Go leaves open, returns true and leaves its argument and all memory that was there as it was. There is no condition.
-/
import Derived.Test.YtegjageenofbjaaRows
import Derived.Test.YtegjageenofbjaaOk
import Derived.ProofKit
import Derived.OpenShut
import Derived.ChangeOld
import Derived.Below
namespace Go.Proofs.Ytegjageenofbjaa
open Go.ChangeShapes Go.WideShapes Go.ChangeAt Go.RowKit

attribute [local go_sem] Oper.semAt_some

set_option maxRecDepth 8000 in
set_option maxHeartbeats 1000000 in
theorem opname_any (s : ByteArray) (w : World) : Calls Try.prog 3 #[.string s] w fun e w' => e = .returned (.bool true) ∧ Below w.heap.size w w' := by
  have c := Cd.begun_any w
  by_cases h : 100 < s.size
  · have hI : (100 : Int) < (s.size : Int) := by omega
    have h90 : 100 ≤ s.size := by omega
    have hl : (s.extract 0 100).data.toList.length ≤ 100 := by
      rw [ByteArray.data_extract]
      simp
      omega
    have n1 : ∀ W, Calls Try.prog 5 #[.string (s.extract 0 100)] W fun e w' => e = .returned (.int .i64 (Cd.nameN (s.extract 0 100).data.toList)) ∧ w' = W := fun W => by
      have := Cd.name_any (s.extract 0 100).data.toList W (by omega)
      rwa [Cd.bas_of] at this
    have n2 : ∀ W, Calls Try.prog 6 #[.string (s.extract 0 100)] W fun e w' => e = .returned (.int .i64 (Cd.nameN (s.extract 0 100).data.toList)) ∧ w' = W := fun W => by
      have := Cd.rname_any (s.extract 0 100).data.toList W (by omega)
      rwa [Cd.bas_of] at this
    obtain ⟨z, hz⟩ : ∃ z, Cd.nameN (s.extract 0 100).data.toList = z := ⟨_, rfl⟩
    rw [hz] at n1 n2
    clear hl hz
    go_enter Try.func3, Try.ntmps3
    go_wp2_with (first | (go_at_call 4; refine Cd.Calls_new c ?_; clear c; intro w1 hb1) | (go_at_call 5; refine Cd.Calls_on (n1 _) ?_) | (go_at_call 6; refine Cd.Calls_on (n2 _) ?_))
    go_ret
    exact ⟨by simp, hb1.out⟩
  · have hI : ¬ (100 : Int) < (s.size : Int) := by omega
    have hl : s.data.toList.length ≤ 100 := by rw [← Lib.size_eq]; omega
    have n1 : ∀ W, Calls Try.prog 5 #[.string s] W fun e w' => e = .returned (.int .i64 (Cd.nameN s.data.toList)) ∧ w' = W := fun W => by
      have := Cd.name_any s.data.toList W (by omega)
      rwa [Cd.bas_of] at this
    have n2 : ∀ W, Calls Try.prog 6 #[.string s] W fun e w' => e = .returned (.int .i64 (Cd.nameN s.data.toList)) ∧ w' = W := fun W => by
      have := Cd.rname_any s.data.toList W (by omega)
      rwa [Cd.bas_of] at this
    obtain ⟨z, hz⟩ : ∃ z, Cd.nameN s.data.toList = z := ⟨_, rfl⟩
    rw [hz] at n1 n2
    clear hl hz
    go_enter Try.func3, Try.ntmps3
    go_wp2_with (first | (go_at_call 4; refine Cd.Calls_new c ?_; clear c; intro w1 hb1) | (go_at_call 5; refine Cd.Calls_on (n1 _) ?_) | (go_at_call 6; refine Cd.Calls_on (n2 _) ?_))
    go_ret
    exact ⟨by simp, hb1.out⟩

theorem ownKnobs : ownKnob Try.prog.godebug = none := by kernel_rfl
theorem laidOut : laidOutB Try.prog = true := by kernel_rfl

set_option maxRecDepth 100000 in
theorem opname_lifted (os : Os) (started : os.Started) (H : Type) (enc : TypeId × Value → H) :
    ReturnsInHanded {} Try.checked os 3 .any (Rows.opNameSpec.pre6 enc Try.prog Try.f3 Rows.opNameRow.domain false) (Rows.opNameSpec.post enc Try.prog Try.f3 false true false false) := by
  refine returnsInHanded_of_change (C := Try.checked) ownKnobs started (by kernel_rfl) Try.func3
    (ChangeSpec.witness6 (enc := enc) (C := Try.checked) false ⟨#[], #[.string ⟨#[]⟩], []⟩ 8 (by kernel_rfl) (by kernel_rfl) (by kernel_rfl) (by kernel_rfl)) ?_
  intro W base args ds gs before hval0 hW hcnd _
  have hval : ∀ (j : Nat) t v, Try.f3.params[j]? = some t → args[j]? = some v → Value.okWide Try.prog W .any base t v := hval0
  have hW' := hW
  obtain ⟨p, q, hA0, hV, rfl, hfz, hnd⟩ := hW
  have hA : DataW.TrodAll enc Try.prog W 0 (fun _ => true) true Try.f3.params.toList args.toList ds p := hA0
  rw [Try.params3] at hA hval
  obtain ⟨v0, vs0, d0, ds0, p0, q0, hargs, rfl, rfl, h0, r0⟩ := trodAll_cons hA
  obtain ⟨rfl, rfl, rfl⟩ := trodAll_nil r0
  obtain rfl : args = #[v0] := by cases args; simp_all
  obtain ⟨rfl, rfl⟩ := trodVars_none hV
  have k0 := h0
  have lt0 : ∀ x ∈ p0, x.block < W.heap.size := by obtain ⟨m, hm⟩ := k0; exact DataW.trod_lt m _ _ _ hm
  obtain ⟨s0, hs0⟩ := okWide_string Try.underlying9 (hval 0 9 v0 rfl rfl)
  subst hs0
  clear hA0 hval0
  refine (opname_any s0 W).mono fun e W' ⟨he, bel⟩ => ?_
  subst he
  exact ⟨_, rfl, _, _, _, [], _, [], hW', trodAll_mk1 (shut_bool Try.underlying4 _), (trodAll_cons_mk (Below.trod laidOut (by kernel_rfl) (of_decide_eq_true (by kernel_rfl)) k0 bel lt0) trodAll_mk0), rfl, bel.frame _, fun h => by cases h⟩

theorem opName_holds : Rows.OpNameSaid :=
  OpenClaim.holds_of_wide 3 Try.f3 rfl rfl rfl rfl rfl rfl rfl ⟨rfl, rfl, rfl, rfl, rfl⟩ rfl rfl rfl rfl rfl (by kernel_rfl) Try.func3 (by kernel_rfl)
    (of_decide_eq_true (by kernel_rfl)) (by unfold Func.isWrapper; first | (rw [if_pos (by decide +kernel)]; kernel_rfl) | (rw [if_neg (by decide +kernel)]; exact ⟨rfl, rfl⟩))
    (fun os started H enc _ => opname_lifted os started H enc)

#print axioms opName_holds
end Go.Proofs.Ytegjageenofbjaa
