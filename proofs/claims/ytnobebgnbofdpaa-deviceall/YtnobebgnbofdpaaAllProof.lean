/-
  DeviceAll, for every number of blocks and every list of operations, whatever the memory and the order that Go leaves open, returns true and leaves its arguments and all memory that was there as it was. There is no condition.
-/
import Derived.Test.YtnobebgnbofdpaaRows
import Derived.Test.YtnobebgnbofdpaaAll
import Derived.Test.YtnobebgnbofdpaaAllb
import Derived.Test.YtnobebgnbofdpaaOpen
import Derived.ProofKit
import Derived.OpenShut
import Derived.ChangeOld
import Derived.Below
namespace Go.Proofs.Ytnobebgnbofdpaa
open Go.ChangeShapes Go.WideShapes Go.ChangeAt Go.RowKit

theorem allKnobs : ownKnob Try.prog.godebug = none := by kernel_rfl
theorem allLaidOut : laidOutB Try.prog = true := by kernel_rfl

theorem all_walk (nb : Int) (op : Option Addr) (ol oc : Nat) (w : World) (hops : 0 < ol → ∃ ob oo, op = some ⟨ob, oo, none⟩ ∧ ∀ k, k < ol → OpAt w ob oo k) :
    Calls Try.prog 3 #[.int .i64 nb, .slice op ol oc] w fun e w' => e = .returned (.bool true) ∧ Below w.heap.size w w' := by
  by_cases h1 : nb < 1
  · exact all_nil nb op ol oc w (.inl h1)
  by_cases h2 : nb ≤ 30
  · obtain ⟨n, rfl⟩ := Int.eq_ofNat_of_zero_le (show 0 ≤ nb by omega)
    exact all_small _ n op ol oc w rfl (by omega) (by omega) hops
  by_cases h3 : nb ≤ 65536
  · by_cases h4 : nb % 31 = 0
    · exact all_nil nb op ol oc w (.inr (.inr ⟨by omega, h3, h4⟩))
    · obtain ⟨n, hn⟩ := Int.eq_ofNat_of_zero_le (show 0 ≤ nb % 31 by omega)
      exact all_big nb n op ol oc w (by omega) h3 hn (by omega) (by omega) hops
  · exact all_nil nb op ol oc w (.inr (.inl (by omega)))

set_option maxRecDepth 100000 in
theorem all_lifted (os : Os) (started : os.Started) (H : Type) (enc : TypeId × Value → H) :
    ReturnsInHanded {} Try.checked os 3 .any (Rows.deviceAllSpec.pre6 enc Try.prog Try.f3 Rows.deviceAllRow.domain false) (Rows.deviceAllSpec.post enc Try.prog Try.f3 false true false false) := by
  refine returnsInHanded_of_change (C := Try.checked) allKnobs started (by kernel_rfl) Try.func3
    (ChangeSpec.witness6 (enc := enc) (C := Try.checked) false ⟨#[], #[.int .i64 0, .slice none 0 0], []⟩ 8 (by kernel_rfl) (by kernel_rfl) (by kernel_rfl) (by kernel_rfl)) ?_
  intro W base args ds gs before hval0 hW hcnd _
  have hval : ∀ (j : Nat) t v, Try.f3.params[j]? = some t → args[j]? = some v → Value.okWide Try.prog W .any base t v := hval0
  have hW' := hW
  obtain ⟨p, q, hA0, hV, rfl, hfz, hnd⟩ := hW
  have hA : DataW.TrodAll enc Try.prog W 0 (fun _ => true) true Try.f3.params.toList args.toList ds p := hA0
  rw [Try.params3] at hA hval
  obtain ⟨v0, vs0, d0, ds0, p0, q0, hargs, rfl, rfl, h0, r0⟩ := trodAll_cons hA
  obtain ⟨v1, vs1, d1, ds1, p1, q1, rfl, rfl, rfl, h1, r1⟩ := trodAll_cons r0
  obtain ⟨rfl, rfl, rfl⟩ := trodAll_nil r1
  obtain rfl : args = #[v0, v1] := by cases args; simp_all
  obtain ⟨rfl, rfl⟩ := trodVars_none hV
  obtain ⟨a0, rfl, rfl, rfl, w0⟩ := open_int Try.underlying3 (hval 0 3 v0 rfl rfl) h0
  obtain ⟨a1, len1, cap1, rfl⟩ := okWide_slice Try.underlying22 (hval 1 22 v1 rfl rfl)
  have k1 := h1
  have lt1 : ∀ x ∈ p1, x.block < W.heap.size := by obtain ⟨m, hm⟩ := k1; exact DataW.trod_lt m _ _ _ hm
  have hops : 0 < len1 → ∃ ob oo, a1 = some ⟨ob, oo, none⟩ ∧ ∀ k, k < len1 → OpAt W ob oo k := by
    obtain ⟨fuel, hf⟩ := h1
    exact ops_at (by simpa [Value.cells] using hf)
  clear hA0 hval0
  refine (all_walk a0 a1 len1 cap1 W hops).mono fun e W' ⟨he, bel⟩ => ?_
  subst he
  exact ⟨_, rfl, _, _, _, [], _, [], hW', trodAll_mk1 (shut_bool Try.underlying4 _), (trodAll_cons_mk (shut_int Try.underlying3 w0) (trodAll_cons_mk (Below.trod allLaidOut (by kernel_rfl) (of_decide_eq_true (by kernel_rfl)) k1 bel lt1) trodAll_mk0)), rfl, bel.frame _, fun h => by cases h⟩

theorem deviceAll_holds : Rows.DeviceAllSaid :=
  OpenClaim.holds_of_wide 3 Try.f3 rfl rfl rfl rfl rfl rfl rfl ⟨rfl, rfl, rfl, rfl, rfl⟩ rfl rfl rfl rfl rfl (by kernel_rfl) Try.func3 (by kernel_rfl)
    (of_decide_eq_true (by kernel_rfl)) (by unfold Func.isWrapper; first | (rw [if_pos (by decide +kernel)]; kernel_rfl) | (rw [if_neg (by decide +kernel)]; exact ⟨rfl, rfl⟩))
    (fun os started H enc _ => all_lifted os started H enc)

#print axioms deviceAll_holds
end Go.Proofs.Ytnobebgnbofdpaa
