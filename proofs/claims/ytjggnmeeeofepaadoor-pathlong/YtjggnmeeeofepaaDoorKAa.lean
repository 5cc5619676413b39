/-
  Texts as lists of bytes; which names may be: ops.Name, and the document's Name and Local. What lies in the library's variables.
-/
import Derived.Test.YtjggnmeeeofepaaDoorKNids
import Derived.Deep.RegionHeld3
import Derived.WalkKit
import Derived.OrdersIn
import Derived.CallsIn
import Derived.ControlIn
import Derived.TacticsInMore
import Derived.OwnWalkIn
import Derived.RangeFuncCalls
import Derived.Lib.Strings
import Derived.Lib.Bytealg
import Derived.Lib.Walk
import Derived.Lib.UnsafeStr
import Derived.Laws.MakeOwn
import Derived.Laws.Externs

namespace Go.Proofs.YtjggnmeeeofepaaDoor.Ck.Sh
open Go.RowKit

attribute [local go_sem] Oper.semAt_some

/-- A text as the list of its bytes. -/
def bas (l : List UInt8) : ByteArray := ⟨l.toArray⟩
theorem bas_data (l : List UInt8) : (bas l).data.toList = l := rfl
theorem bas_toList (l : List UInt8) : (bas l).toList = l := by rw [Lib.toList_data, bas_data]
theorem bas_of (s : ByteArray) : bas s.data.toList = s := Lib.mk_data s
theorem bas_size (l : List UInt8) : (bas l).size = l.length := by rw [Lib.size_eq, bas_data]
set_option maxRecDepth 8000 in
set_option maxHeartbeats 1000000 in
theorem lindex_any (s : ByteArray) (c : Int) (w : World) : Calls Tryd.prog 53 #[.string s, .int .u8 c] w fun e w' => e = .returned (.int .i64 (Lib.indexByte s.data.toList c.toNat.toUInt8)) ∧ w' = w := by
  go_enter Tryd.func53, Tryd.ntmps53
  go_wp2
  rw [run_callFunc_extern Tryd.func63 (by kernel_rfl) (by kernel_rfl) (by kernel_rfl) (e := Extern.BytealgIndexByte.indexByte) (by kernel_rfl), Lib.run_indexByteString]
  simp only [Result.andThen]
  rw [Oper.upon_value]
  go_wp2
  go_ret
  exact ⟨rfl, rfl⟩
set_option maxRecDepth 8000 in
set_option maxHeartbeats 1000000 in
theorem index_any (s : ByteArray) (c : Int) (w : World) : Calls Tryd.prog 40 #[.string s, .int .u8 c] w fun e w' => e = .returned (.int .i64 (Lib.indexByte s.data.toList c.toNat.toUInt8)) ∧ w' = w := by
  have h := lindex_any s c w
  go_enter Tryd.func40, Tryd.ntmps40
  go_wp2_with (go_at_call 53; refine Calls_on h ?_)
  go_ret
  exact ⟨rfl, rfl⟩
theorem index_neg {l : List UInt8} {c : UInt8} : 0 ≤ Lib.indexByte l c ↔ c ∈ l := by
  induction l with
  | nil => simp [Lib.indexByte]
  | cons x l ih =>
    unfold Lib.indexByte
    have := Lib.indexByte_ge l c
    by_cases h : x = c
    · subst h; simp
    · have h' : ¬ c = x := fun e => h e.symm
      simp only [beq_iff_eq, h, if_false, List.mem_cons, h', false_or, ← ih]
      split <;> omega

/-- Which names there may be: 0, or the error; of the local layer, and of an operation. -/
def fineN (s : List UInt8) : Int :=
  if s = [] ∨ s = [46] ∨ s = [46, 46] then 22 else if 0 ∈ s ∨ 47 ∈ s then 22 else if 64 < s.length then 36 else 0
def nameN (s : List UInt8) : Int := if (1 : UInt8) ∈ s then 22 else fineN s
def wrongB (s : List UInt8) : Bool := decide (0 ∈ s) || decide (1 ∈ s) || decide (47 ∈ s)
theorem nameN_def (s : List UInt8) : nameN s = if s = [] ∨ s = [46] ∨ s = [46, 46] then 22 else if wrongB s = true then 22 else if 64 < s.length then 36 else 0 := by
  unfold nameN fineN wrongB
  simp only [Bool.or_eq_true, decide_eq_true_eq]
  by_cases h1 : (1 : UInt8) ∈ s
  · simp only [h1, if_true, or_true, true_or]
    split <;> rfl
  · simp only [h1, if_false, or_false]

set_option maxRecDepth 8000 in
set_option maxHeartbeats 1000000 in
theorem wrong_any (l : List UInt8) (w : World) : Calls Tryd.prog 31 #[.string (bas l)] w fun e w' => e = .returned (.bool (wrongB l)) ∧ w' = w := by
  have i0 := index_any (bas l) 0 w
  have i1 := index_any (bas l) 1 w
  have i2 := index_any (bas l) 47 w
  rw [bas_data] at i0 i1 i2
  obtain ⟨x0, hx0⟩ : ∃ x, Lib.indexByte l (0 : Int).toNat.toUInt8 = x := ⟨_, rfl⟩
  obtain ⟨x1, hx1⟩ : ∃ x, Lib.indexByte l (1 : Int).toNat.toUInt8 = x := ⟨_, rfl⟩
  obtain ⟨x2, hx2⟩ : ∃ x, Lib.indexByte l (47 : Int).toNat.toUInt8 = x := ⟨_, rfl⟩
  rw [hx0] at i0
  rw [hx1] at i1
  rw [hx2] at i2
  have k0 : 0 ≤ x0 ↔ (0 : UInt8) ∈ l := by rw [← hx0]; exact index_neg
  have k1 : 0 ≤ x1 ↔ (1 : UInt8) ∈ l := by rw [← hx1]; exact index_neg
  have k2 : 0 ≤ x2 ↔ (47 : UInt8) ∈ l := by rw [← hx2]; exact index_neg
  clear hx0 hx1 hx2
  have HW : Hid (wrongB l = (decide (0 ≤ x0) || decide (0 ≤ x1) || decide (0 ≤ x2))) := by
    show _ = _
    unfold wrongB
    simp only [k0, k1, k2]
  clear k0 k1 k2
  by_cases h0 : 0 ≤ x0
  · go_enter Tryd.func31, Tryd.ntmps31
    go_wp2_with (first | (go_at_call 40; refine Calls_on i0 ?_; clear i0) | (go_at_call 40; refine Calls_on i1 ?_; clear i1) | (go_at_call 40; refine Calls_on i2 ?_; clear i2))
    go_ret
    rw [HW.out]
    exact ⟨by simp [h0], rfl⟩
  by_cases h1 : 0 ≤ x1
  · go_enter Tryd.func31, Tryd.ntmps31
    go_wp2_with (first | (go_at_call 40; refine Calls_on i0 ?_; clear i0) | (go_at_call 40; refine Calls_on i1 ?_; clear i1) | (go_at_call 40; refine Calls_on i2 ?_; clear i2))
    go_ret
    rw [HW.out]
    exact ⟨by first | (simp; done) | (simp; omega), rfl⟩
  go_enter Tryd.func31, Tryd.ntmps31
  go_wp2_with (first | (go_at_call 40; refine Calls_on i0 ?_; clear i0) | (go_at_call 40; refine Calls_on i1 ?_; clear i1) | (go_at_call 40; refine Calls_on i2 ?_; clear i2))
  go_ret
  rw [HW.out]
  exact ⟨by first | (simp; done) | (simp; omega), rfl⟩

set_option maxRecDepth 8000 in
set_option maxHeartbeats 1000000 in
theorem name_any (l : List UInt8) (w : World) (hs : l.length < 1000000000000000) : Calls Tryd.prog 19 #[.string (bas l)] w fun e w' => e = .returned (.int .i64 (nameN l)) ∧ w' = w := by
  have c := wrong_any l w
  rw [nameN_def]
  have hsz := bas_size l
  by_cases h1 : l = [] ∨ l = [46] ∨ l = [46, 46]
  · rw [if_pos h1]
    rcases h1 with rfl | rfl | rfl
    all_goals
      have e0 : bas [] = ⟨#[]⟩ := rfl
      have e1 : bas [46] = ⟨#[46]⟩ := rfl
      have e2 : bas [46, 46] = ⟨#[46, 46]⟩ := rfl
      clear c
      go_enter Tryd.func19, Tryd.ntmps19
      go_wp2
      go_ret
      exact ⟨rfl, rfl⟩
  · rw [if_neg h1]
    have e1 : (bas l).toList.isEmpty = false := by rw [bas_toList]; simpa using fun e => h1 (.inl e)
    have e2 : ((bas l).toList == [46]) = false := by rw [bas_toList]; simpa using fun e => h1 (.inr (.inl e))
    have e3 : ((bas l).toList == [46, 46]) = false := by rw [bas_toList]; simpa using fun e => h1 (.inr (.inr e))
    clear h1
    cases hw : wrongB l with
    | true =>
      rw [hw] at c
      rw [if_pos rfl]
      clear hw
      go_enter Tryd.func19, Tryd.ntmps19
      go_wp2_with (go_at_call 31; refine Calls_on c ?_)
      go_ret
      exact ⟨rfl, rfl⟩
    | false =>
      rw [hw] at c
      rw [if_neg (by decide)]
      clear hw
      by_cases h64 : 64 < l.length
      · have h64I : (64 : Int) < (l.length : Int) := by omega
        rw [if_pos h64]
        go_enter Tryd.func19, Tryd.ntmps19
        go_wp2_with (go_at_call 31; refine Calls_on c ?_)
        go_ret
        exact ⟨rfl, rfl⟩
      · have h64I : ¬ (64 : Int) < (l.length : Int) := by omega
        rw [if_neg h64]
        go_enter Tryd.func19, Tryd.ntmps19
        go_wp2_with (go_at_call 31; refine Calls_on c ?_)
        go_ret
        exact ⟨rfl, rfl⟩

end Go.Proofs.YtjggnmeeeofepaaDoor.Ck.Sh
