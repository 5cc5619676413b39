/-
  TreeOrders, for every slice of operations and every slice of turns, whatever the memory and the order that Go leaves open, returns true and leaves its arguments and all memory that was there as it was. There is no condition.
-/
import Derived.Test.YtgpbphjplbhfmaaGreatRows
import Derived.Test.YtgpbphjplbhfmaaGreatKPtg
import Derived.Test.YtgpbphjplbhfmaaGreatQOvy
import Derived.Below

namespace Go.Proofs.YtgpbphjplbhfmaaGreat
open Go.ChangeShapes Go.WideShapes Go.ChangeAt Go.RowKit Go.Deep

theorem ownKnobs : ownKnob Tryz.prog.godebug = none := by kernel_rfl
theorem laidOut : laidOutB Tryz.prog = true := by kernel_rfl
theorem turn_wf {z : Int} (h : (Lit.int .i64 z).wf = true) : -9223372036854775808 ≤ z ∧ z < 9223372036854775808 := by
  simp [Lit.wf] at h
  have h1 : (-9223372036854775808 : Int) ≤ z := h.1
  have h2 : z ≤ 9223372036854775807 := h.2
  omega
/-- A row of ints. -/
theorem turns_in {H : Type} {enc : TypeId × Value → H} {W : World} {fuel : Nat} {a : Option Addr} {len cap : Nat} {y : DataW H × List MemPlace} (h : DataW.trod enc Tryz.prog W 0 (fun _ => true) true fuel 40 [.slice a len cap] = some y) :
    ∃ L : List Int, L.length = len ∧ Ck.Y.S.TurnsL W a L ∧ L.length ≤ maxLen := by
  have hmax : len ≤ maxLen := by
    rcases open_slice Tryz.underlying40 h with ⟨hcs, _⟩ | ⟨_, len', cap', _, _, _, _, hcs, _, hl, hmax, _⟩
    · simp at hcs; rw [hcs.2.1]; exact Nat.zero_le _
    · simp at hcs
      rw [hcs.2.1]
      omega
  obtain ⟨l, hl, hr⟩ := Ck.Y.S.elems_in Tryz.underlying40 Cd.cellsInt (by decide) (0 : Int) (fun b o x => W.cell? ⟨b, o, none⟩ = some (.int .i64 x) ∧ -9223372036854775808 ≤ x ∧ x < 9223372036854775808) h (fun b o cs n x hc ht => by
    obtain ⟨z, rfl, _, hw⟩ := DataW.trod_int Tryz.underlying3 ht
    obtain ⟨_, _, hcell⟩ := World.cells?_some hc
    have h0 := hcell 0 (by decide)
    rw [Addr.add_lit, Nat.add_zero] at h0
    have hz := turn_wf hw
    exact ⟨z, h0, hz⟩)
  refine ⟨l, hl, fun h0 => ?_, by omega⟩
  obtain ⟨g, o, e, hc⟩ := hr (by omega)
  refine ⟨g, o, e, fun j x hj => ?_⟩
  have h1 := hc j x hj
  rw [Nat.mul_one] at h1
  exact h1

set_option maxRecDepth 100000 in
theorem tord_lifted (os : Os) (started : os.Started) (H : Type) (enc : TypeId × Value → H) :
    ReturnsInHanded {} Tryz.checked os 4 .any (Rows.treeOrdersSpec.pre6 enc Tryz.prog Tryz.f4 Rows.treeOrdersRow.domain false) (Rows.treeOrdersSpec.post enc Tryz.prog Tryz.f4 false true false false) := by
  refine returnsInHanded_of_change (C := Tryz.checked) ownKnobs started (by kernel_rfl) Tryz.func4
    (ChangeSpec.witness6 (enc := enc) (C := Tryz.checked) false ⟨#[], #[.slice none 0 0, .slice none 0 0], []⟩ 8 (by kernel_rfl) (by kernel_rfl) (by kernel_rfl) (by kernel_rfl)) ?_
  intro W base args ds gs before hval0 hW hcnd _
  have hval : ∀ (j : Nat) t v, Tryz.f4.params[j]? = some t → args[j]? = some v → Value.okWide Tryz.prog W .any base t v := hval0
  have hW' := hW
  obtain ⟨p, q, hA0, hV, rfl, hfz, hnd⟩ := hW
  have hA : DataW.TrodAll enc Tryz.prog W 0 (fun _ => true) true Tryz.f4.params.toList args.toList ds p := hA0
  rw [Tryz.params4] at hA hval
  obtain ⟨v0, vs0, d0, ds0, p0, q0, hargs, rfl, rfl, h0, r0⟩ := trodAll_cons hA
  obtain ⟨v1, vs1, d1, ds1, p1, q1, rfl, rfl, rfl, h1, r1⟩ := trodAll_cons r0
  obtain ⟨rfl, rfl, rfl⟩ := trodAll_nil r1
  obtain rfl : args = #[v0, v1] := by cases args; simp_all
  obtain ⟨rfl, rfl⟩ := trodVars_none hV
  obtain ⟨a0, len0, cap0, rfl⟩ := okWide_slice Tryz.underlying22 (hval 0 22 v0 rfl rfl)
  obtain ⟨a1, len1, cap1, rfl⟩ := okWide_slice Tryz.underlying40 (hval 1 40 v1 rfl rfl)
  have k0 := h0
  have k1 := h1
  have lt0 : ∀ x ∈ p0, x.block < W.heap.size := by obtain ⟨m, hm⟩ := k0; exact DataW.trod_lt m _ _ _ hm
  have lt1 : ∀ x ∈ p1, x.block < W.heap.size := by obtain ⟨m, hm⟩ := k1; exact DataW.trod_lt m _ _ _ hm
  obtain ⟨L, rfl, hL, hmax⟩ : ∃ L : List Ck.Y.OG, L.length = len0 ∧ Ck.Y.S.OpsL W a0 L ∧ L.length ≤ maxLen := by
    obtain ⟨fuel, hf⟩ := h0
    exact Ck.Y.S.ops_in (by simpa [Value.cells] using hf)
  obtain ⟨Z, rfl, hZ, hzmax⟩ : ∃ Z : List Int, Z.length = len1 ∧ Ck.Y.S.TurnsL W a1 Z ∧ Z.length ≤ maxLen := by
    obtain ⟨fuel, hf⟩ := h1
    exact turns_in (by simpa [Value.cells] using hf)
  clear hA0 hval0
  refine (Ck.Y.S.torders_law a0 L cap0 a1 Z cap1 W hL hmax hZ hzmax).mono fun e W' ⟨he, bel⟩ => ?_
  subst he
  exact ⟨_, rfl, _, _, _, [], _, [], hW', trodAll_mk1 (shut_bool Tryz.underlying4 _), (trodAll_cons_mk (Below.trod laidOut (by kernel_rfl) (of_decide_eq_true (by kernel_rfl)) k0 bel lt0) (trodAll_cons_mk (Below.trod laidOut (by kernel_rfl) (of_decide_eq_true (by kernel_rfl)) k1 bel lt1) trodAll_mk0)), rfl, bel.frame _, fun h => by cases h⟩

theorem treeOrders_holds : Rows.TreeOrdersSaid :=
  OpenClaim.holds_of_wide 4 Tryz.f4 rfl rfl rfl rfl rfl rfl rfl ⟨rfl, rfl, rfl, rfl, rfl⟩ rfl rfl rfl rfl rfl (by kernel_rfl) Tryz.func4 (by kernel_rfl)
    (of_decide_eq_true (by kernel_rfl)) (by unfold Func.isWrapper; first | (rw [if_pos (by decide +kernel)]; kernel_rfl) | (rw [if_neg (by decide +kernel)]; exact ⟨rfl, rfl⟩))
    (fun os started H enc _ => tord_lifted os started H enc)

#print axioms treeOrders_holds
end Go.Proofs.YtgpbphjplbhfmaaGreat
