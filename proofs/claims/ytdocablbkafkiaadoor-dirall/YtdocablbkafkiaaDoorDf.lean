/-
  Strings held against each other, looked through, copied; which names are fine.
-/
import Derived.Test.YtdocablbkafkiaaDoorDe
import Derived.Lib.Strings
import Derived.Lib.Walk
import Derived.Lib.BufferWrite
import Derived.Lib.UnsafeStr
import Derived.Laws.MakeOwn
import Derived.Laws.Externs
namespace Go.Proofs.YtdocablbkafkiaaDoor.Cd
open Go.RowKit

set_option maxRecDepth 8000 in
set_option maxHeartbeats 1000000 in
theorem cmpS_any (a b : ByteArray) (w : World) : Calls Tryd.prog 75 #[.string a, .string b] w fun e w' => e = .returned (.int .i64 (Lib.compareBytes a.data.toList b.data.toList)) ∧ w' = w := by
  go_enter Tryd.func75, Tryd.ntmps75
  go_wp2
  rw [run_callFunc_extern Tryd.func83 (by kernel_rfl) (by kernel_rfl) (by kernel_rfl) (e := Extern.BytealgCompare.compare) (by kernel_rfl), Lib.run_compareString]
  simp only [Result.andThen]
  rw [Oper.upon_value]
  go_wp2
  go_ret
  exact ⟨rfl, rfl⟩
set_option maxRecDepth 8000 in
set_option maxHeartbeats 1000000 in
theorem compare_any (a b : ByteArray) (w : World) : Calls Tryd.prog 61 #[.string a, .string b] w fun e w' => e = .returned (.int .i64 (Lib.compareBytes a.data.toList b.data.toList)) ∧ w' = w := by
  have c := cmpS_any a b w
  go_enter Tryd.func61, Tryd.ntmps61
  go_wp2_with (go_at_call 75; refine Calls_on c ?_)
  go_ret
  exact ⟨rfl, rfl⟩
set_option maxRecDepth 8000 in
set_option maxHeartbeats 1000000 in
theorem lindex_any (s : ByteArray) (c : Int) (w : World) : Calls Tryd.prog 54 #[.string s, .int .u8 c] w fun e w' => e = .returned (.int .i64 (Lib.indexByte s.data.toList c.toNat.toUInt8)) ∧ w' = w := by
  go_enter Tryd.func54, Tryd.ntmps54
  go_wp2
  rw [run_callFunc_extern Tryd.func68 (by kernel_rfl) (by kernel_rfl) (by kernel_rfl) (e := Extern.BytealgIndexByte.indexByte) (by kernel_rfl), Lib.run_indexByteString]
  simp only [Result.andThen]
  rw [Oper.upon_value]
  go_wp2
  go_ret
  exact ⟨rfl, rfl⟩
set_option maxRecDepth 8000 in
set_option maxHeartbeats 1000000 in
theorem index_any (s : ByteArray) (c : Int) (w : World) : Calls Tryd.prog 30 #[.string s, .int .u8 c] w fun e w' => e = .returned (.int .i64 (Lib.indexByte s.data.toList c.toNat.toUInt8)) ∧ w' = w := by
  have h := lindex_any s c w
  go_enter Tryd.func30, Tryd.ntmps30
  go_wp2_with (go_at_call 54; refine Calls_on h ?_)
  go_ret
  exact ⟨rfl, rfl⟩

/-- Which names a directory may have: 0, or the error. -/
def fineN (s : List UInt8) : Int :=
  if s = [] ∨ s = [46] ∨ s = [46, 46] then 22 else if 0 ∈ s ∨ 47 ∈ s then 22 else if 64 < s.length then 36 else 0
theorem index_neg {l : List UInt8} {c : UInt8} : 0 ≤ Lib.indexByte l c ↔ c ∈ l := by
  induction l with
  | nil => simp [Lib.indexByte]
  | cons x l ih =>
    unfold Lib.indexByte
    have := Lib.indexByte_ge l c
    by_cases h : x = c
    · subst h; simp
    · have h' : ¬ c = x := fun e => h e.symm
      simp only [beq_iff_eq, h, if_false, List.mem_cons, h', false_or, ← ih]
      split <;> omega
theorem str_eq {a b : ByteArray} : (a.toList == b.toList) = decide (a.data.toList = b.data.toList) := by
  rw [Lib.toList_data, Lib.toList_data, Bool.eq_iff_iff]
  simp only [beq_iff_eq, decide_eq_true_eq]

set_option maxRecDepth 8000 in
set_option maxHeartbeats 2000000 in
theorem fine_any (s : ByteArray) (w : World) (hs : s.size < 1000000000000000) : Calls Tryd.prog 15 #[.string s] w fun e w' => e = .returned (.int .i64 (fineN s.data.toList)) ∧ w' = w := by
  have i0 := index_any s 0 w
  have i1 := index_any s 47 w
  obtain ⟨x0, hx0⟩ : ∃ x, Lib.indexByte s.data.toList (0 : Int).toNat.toUInt8 = x := ⟨_, rfl⟩
  obtain ⟨x1, hx1⟩ : ∃ x, Lib.indexByte s.data.toList (47 : Int).toNat.toUInt8 = x := ⟨_, rfl⟩
  rw [hx0] at i0
  rw [hx1] at i1
  have k0 : 0 ≤ x0 ↔ (0 : UInt8) ∈ s.data.toList := by rw [← hx0]; exact index_neg
  have k1 : 0 ≤ x1 ↔ (47 : UInt8) ∈ s.data.toList := by rw [← hx1]; exact index_neg
  have hl : s.data.toList.length = s.size := (Lib.size_eq s).symm
  have ht : s.toList = s.data.toList := Lib.toList_data s
  clear hx0 hx1
  generalize s.data.toList = l at *
  by_cases h1 : l = []
  · have HF : Hid (fineN l = 22) := by show _ = _; simp [fineN, h1]
    have e1 : s.toList.isEmpty = true := by rw [ht, h1]; rfl
    clear h1 ht k0 k1 hl
    go_enter Tryd.func15, Tryd.ntmps15
    go_wp2_with (first | (go_at_call 30; refine Calls_on i0 ?_; clear i0) | (go_at_call 30; refine Calls_on i1 ?_; clear i1))
    go_ret
    exact ⟨by rw [HF.out]; rfl, rfl⟩
  have e1 : s.toList.isEmpty = false := by rw [ht]; simp [h1]
  by_cases h2 : l = [46]
  · have HF : Hid (fineN l = 22) := by show _ = _; simp [fineN, h2]
    have e2 : (s.toList == [46]) = true := by rw [ht, h2]; rfl
    clear h1 h2 ht k0 k1 hl
    go_enter Tryd.func15, Tryd.ntmps15
    go_wp2_with (first | (go_at_call 30; refine Calls_on i0 ?_; clear i0) | (go_at_call 30; refine Calls_on i1 ?_; clear i1))
    go_ret
    exact ⟨by rw [HF.out]; rfl, rfl⟩
  have e2 : (s.toList == [46]) = false := by rw [ht]; simp [h2]
  by_cases h3 : l = [46, 46]
  · have HF : Hid (fineN l = 22) := by show _ = _; simp [fineN, h3]
    have e3 : (s.toList == [46, 46]) = true := by rw [ht, h3]; rfl
    clear h1 h2 h3 ht k0 k1 hl
    go_enter Tryd.func15, Tryd.ntmps15
    go_wp2_with (first | (go_at_call 30; refine Calls_on i0 ?_; clear i0) | (go_at_call 30; refine Calls_on i1 ?_; clear i1))
    go_ret
    exact ⟨by rw [HF.out]; rfl, rfl⟩
  have e3 : (s.toList == [46, 46]) = false := by rw [ht]; simp [h3]
  clear ht
  by_cases h4 : (0 : UInt8) ∈ l
  · have HF : Hid (fineN l = 22) := by show _ = _; simp [fineN, h1, h2, h3, h4]
    have hx : 0 ≤ x0 := k0.2 h4
    clear h1 h2 h3 h4 k0 k1 hl
    go_enter Tryd.func15, Tryd.ntmps15
    go_wp2_with (first | (go_at_call 30; refine Calls_on i0 ?_; clear i0) | (go_at_call 30; refine Calls_on i1 ?_; clear i1))
    go_ret
    exact ⟨by rw [HF.out]; rfl, rfl⟩
  have hx0 : ¬ 0 ≤ x0 := fun h => h4 (k0.1 h)
  by_cases h5 : (47 : UInt8) ∈ l
  · have HF : Hid (fineN l = 22) := by show _ = _; simp [fineN, h1, h2, h3, h5]
    have hx : 0 ≤ x1 := k1.2 h5
    clear h1 h2 h3 h4 h5 k0 k1 hl
    go_enter Tryd.func15, Tryd.ntmps15
    go_wp2_with (first | (go_at_call 30; refine Calls_on i0 ?_; clear i0) | (go_at_call 30; refine Calls_on i1 ?_; clear i1))
    go_ret
    exact ⟨by rw [HF.out]; rfl, rfl⟩
  have hx1 : ¬ 0 ≤ x1 := fun h => h5 (k1.1 h)
  by_cases h6 : 64 < l.length
  · have HF : Hid (fineN l = 36) := by show _ = _; simp [fineN, h1, h2, h3, h4, h5, h6]
    have hx : (64 : Int) < s.size := by omega
    clear h1 h2 h3 h4 h5 h6 k0 k1 hl
    go_enter Tryd.func15, Tryd.ntmps15
    go_wp2_with (first | (go_at_call 30; refine Calls_on i0 ?_; clear i0) | (go_at_call 30; refine Calls_on i1 ?_; clear i1))
    go_ret
    exact ⟨by rw [HF.out]; rfl, rfl⟩
  · have HF : Hid (fineN l = 0) := by show _ = _; simp [fineN, h1, h2, h3, h4, h5, h6]
    have hx : ¬ (64 : Int) < s.size := by omega
    clear h1 h2 h3 h4 h5 h6 k0 k1 hl
    go_enter Tryd.func15, Tryd.ntmps15
    go_wp2_with (first | (go_at_call 30; refine Calls_on i0 ?_; clear i0) | (go_at_call 30; refine Calls_on i1 ?_; clear i1))
    go_ret
    exact ⟨by rw [HF.out]; rfl, rfl⟩

end Go.Proofs.YtdocablbkafkiaaDoor.Cd
