/-
  ContentMerge, for every slice of operations, every slice of bytes and both truths, whatever the memory and the order that Go leaves open, returns true and leaves its arguments and all memory that was there as it was. There is no condition.
-/
import Derived.Test.YteimjkicinjcgaaKLmc1
import Derived.Test.YteimjkicinjcgaaKLmc2
import Derived.Test.YteimjkicinjcgaaKLmc3
import Derived.Test.YteimjkicinjcgaaKLmc4
import Derived.Test.YteimjkicinjcgaaRows
import Derived.Below

/-
  ContentMerge, the law.
-/
namespace Go.Proofs.Yteimjkicinjcgaa.Ck.Y.L
open Go.RowKit Go.Maps Go.Lib

theorem merge_law (p : Option Addr) (L : List OG) (c : Nat) (bp : Option Addr) (bs : List (BitVec 8)) (bc : Nat) (all : Bool) (w : World) (hp : OpsL w p L) (hL : L.length ≤ maxLen) (hb : Cd.Bytes w bp bs) (hbc : bs.length ≤ bc) (hbl : bs.length ≤ maxLen) :
    Calls Try.prog 6 #[.slice p L.length c, .slice bp bs.length bc, .bool all] w fun e w' => e = .returned (.bool true) ∧ Below w.heap.size w w' := by
  by_cases hlen : 100 < bs.length
  · cases all with
    | true => exact merge_law0 p L c bp bs bc w hp hL hb hbc hbl hlen
    | false => exact merge_law1 p L c bp bs bc w hp hL hb hbc hbl hlen
  · cases all with
    | true => exact merge_law2 p L c bp bs bc w hp hL hb hbc hbl hlen
    | false => exact merge_law3 p L c bp bs bc w hp hL hb hbc hbl hlen

end Go.Proofs.Yteimjkicinjcgaa.Ck.Y.L

namespace Go.Proofs.Yteimjkicinjcgaa
open Go.ChangeShapes Go.WideShapes Go.ChangeAt Go.RowKit

theorem ownKnobs : ownKnob Try.prog.godebug = none := by kernel_rfl
theorem laidOut : laidOutB Try.prog = true := by kernel_rfl

set_option maxRecDepth 100000 in
theorem cmerge_lifted (os : Os) (started : os.Started) (H : Type) (enc : TypeId × Value → H) :
    ReturnsInHanded {} Try.checked os 6 .any (Rows.contentMergeSpec.pre6 enc Try.prog Try.f6 Rows.contentMergeRow.domain false) (Rows.contentMergeSpec.post enc Try.prog Try.f6 false true false false) := by
  refine returnsInHanded_of_change (C := Try.checked) ownKnobs started (by kernel_rfl) Try.func6
    (ChangeSpec.witness6 (enc := enc) (C := Try.checked) false ⟨#[], #[.slice none 0 0, .slice none 0 0, .bool false], []⟩ 8 (by kernel_rfl) (by kernel_rfl) (by kernel_rfl) (by kernel_rfl)) ?_
  intro W base args ds gs before hval0 hW hcnd _
  have hval : ∀ (j : Nat) t v, Try.f6.params[j]? = some t → args[j]? = some v → Value.okWide Try.prog W .any base t v := hval0
  have hW' := hW
  obtain ⟨p, q, hA0, hV, rfl, hfz, hnd⟩ := hW
  have hA : DataW.TrodAll enc Try.prog W 0 (fun _ => true) true Try.f6.params.toList args.toList ds p := hA0
  rw [Try.params6] at hA hval
  obtain ⟨v0, vs0, d0, ds0, p0, q0, hargs, rfl, rfl, h0, r0⟩ := trodAll_cons hA
  obtain ⟨v1, vs1, d1, ds1, p1, q1, rfl, rfl, rfl, h1, r1⟩ := trodAll_cons r0
  obtain ⟨v2, vs2, d2, ds2, p2, q2, rfl, rfl, rfl, h2, r2⟩ := trodAll_cons r1
  obtain ⟨rfl, rfl, rfl⟩ := trodAll_nil r2
  obtain rfl : args = #[v0, v1, v2] := by cases args; simp_all
  obtain ⟨rfl, rfl⟩ := trodVars_none hV
  obtain ⟨a0, len0, cap0, rfl⟩ := okWide_slice Try.underlying22 (hval 0 22 v0 rfl rfl)
  have k0 := h0
  have lt0 : ∀ x ∈ p0, x.block < W.heap.size := by obtain ⟨m, hm⟩ := k0; exact DataW.trod_lt m _ _ _ hm
  obtain ⟨L, rfl, hL, hmax⟩ : ∃ L : List Ck.Y.OG, L.length = len0 ∧ Ck.Y.L.OpsL W a0 L ∧ L.length ≤ maxLen := by
    obtain ⟨fuel, hf⟩ := h0
    exact Ck.Y.L.ops_in (by simpa [Value.cells] using hf)
  obtain ⟨a1, len1, cap1, rfl⟩ := okWide_slice Try.underlying31 (hval 1 31 v1 rfl rfl)
  have k1 := h1
  have lt1 : ∀ x ∈ p1, x.block < W.heap.size := by obtain ⟨m, hm⟩ := k1; exact DataW.trod_lt m _ _ _ hm
  obtain ⟨bs, rfl, hbc, hbl, hb⟩ : ∃ bs : List (BitVec 8), bs.length = len1 ∧ bs.length ≤ cap1 ∧ bs.length ≤ maxLen ∧ Cd.Bytes W a1 bs := by
    obtain ⟨fuel, hf⟩ := h1
    have hf' : DataW.trod enc Try.prog W 0 (fun _ => true) true fuel 31 [.slice a1 len1 cap1] = some (d1, p1) := by simpa [Value.cells] using hf
    obtain ⟨a, cap, bs, e, g1, g2, g3⟩ := Cd.bytes_in (r := (d1, p1)) hf'
    simp only [List.cons.injEq, Value.slice.injEq, and_true] at e
    obtain ⟨rfl, rfl, rfl⟩ := e
    exact ⟨bs, rfl, g1, g2, g3⟩
  have k2 := h2
  have lt2 : ∀ x ∈ p2, x.block < W.heap.size := by obtain ⟨m, hm⟩ := k2; exact DataW.trod_lt m _ _ _ hm
  obtain ⟨al, hal⟩ := okWide_bool Try.underlying4 (hval 2 4 v2 rfl rfl)
  subst hal
  clear hA0 hval0
  refine (Ck.Y.L.merge_law a0 L cap0 a1 bs cap1 al W hL hmax hb hbc hbl).mono fun e W' ⟨he, bel⟩ => ?_
  subst he
  exact ⟨_, rfl, _, _, _, [], _, [], hW', trodAll_mk1 (shut_bool Try.underlying4 _), (trodAll_cons_mk (Below.trod laidOut (by kernel_rfl) (of_decide_eq_true (by kernel_rfl)) k0 bel lt0) (trodAll_cons_mk (Below.trod laidOut (by kernel_rfl) (of_decide_eq_true (by kernel_rfl)) k1 bel lt1) (trodAll_cons_mk (Below.trod laidOut (by kernel_rfl) (of_decide_eq_true (by kernel_rfl)) k2 bel lt2) trodAll_mk0))), rfl, bel.frame _, fun h => by cases h⟩

theorem contentMerge_holds : Rows.ContentMergeSaid :=
  OpenClaim.holds_of_wide 6 Try.f6 rfl rfl rfl rfl rfl rfl rfl ⟨rfl, rfl, rfl, rfl, rfl⟩ rfl rfl rfl rfl rfl (by kernel_rfl) Try.func6 (by kernel_rfl)
    (of_decide_eq_true (by kernel_rfl)) (by unfold Func.isWrapper; first | (rw [if_pos (by decide +kernel)]; kernel_rfl) | (rw [if_neg (by decide +kernel)]; exact ⟨rfl, rfl⟩))
    (fun os started H enc _ => cmerge_lifted os started H enc)

#print axioms contentMerge_holds
end Go.Proofs.Yteimjkicinjcgaa
