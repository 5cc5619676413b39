/-
  The reader of the document's own text: a vector.
-/
import Derived.Test.YtegjageenofbjaaKqvec
import Derived.Test.YtegjageenofbjaaKqnum
import Derived.Test.YtegjageenofbjaaKrany
namespace Go.Proofs.Ytegjageenofbjaa.Cd
open Go.RowKit

theorem tl_full (ns : List Int) (h : ns.getLast? ≠ some 0) : tl ns ns.length = ns.length := by
  rcases ns.eq_nil_or_concat with h0 | ⟨L, x, h0⟩
  · rw [h0]; rfl
  · rw [List.concat_eq_append] at h0
    subst h0
    rw [List.length_append]
    show tl _ (L.length + 1) = L.length + 1
    rw [tl, if_neg]
    intro e
    apply h
    simpa using e
theorem tl_zero (ns : List Int) : ∀ (k j : Nat), tl ns k ≤ j → j < k → ns[j]? = some 0
  | 0, j => fun _ h => by omega
  | k + 1, j => fun h1 h2 => by
    rw [tl] at h1
    split at h1
    · by_cases hj : j = k
      · subst hj; assumption
      · exact tl_zero ns k j h1 (by omega)
    · omega
theorem okN_nat (x : Nat) : okN (x : Int) = decide (x ≤ mtime) := by
  unfold okN
  have : mtime = 1152921504606846976 := rfl
  rw [show decide ((0 : Int) ≤ x) = true by simp]
  simp only [Bool.true_and]
  exact decide_eq_decide.2 (by omega)
/-- Numbers as integers. -/
def zs (vs : List Nat) : List Int := vs.map fun n : Nat => (n : Int)
theorem zs_length (vs : List Nat) : (zs vs).length = vs.length := by simp [zs]
theorem zs_nv (vs : List Nat) : (zs vs).map iv = vs.map nv := by simp [zs]
theorem mayB_yes (vs : List Nat) (h : vs.length ≤ 64) (hx : ∀ x ∈ vs, x ≤ mtime) : mayB (zs vs) = true := by
  unfold mayB
  have h1 := tl_le (zs vs) (zs vs).length
  rw [zs_length] at *
  rw [decide_eq_true (by omega), Bool.true_and, List.all_eq_true]
  intro x hx'
  obtain ⟨y, hy, rfl⟩ := List.mem_map.1 (List.mem_of_mem_take hx')
  rw [okN_nat]; exact decide_eq_true (hx y hy)
theorem mayB_no (vs : List Nat) (hx : ∃ x ∈ vs, mtime < x) : mayB (zs vs) = false := by
  obtain ⟨x, hm, hx⟩ := hx
  obtain ⟨j, hj⟩ := List.getElem?_of_mem hm
  have hj' : (zs vs)[j]? = some (x : Int) := by unfold zs; rw [List.getElem?_map, hj]; rfl
  have hlt := (List.getElem?_eq_some_iff.1 hj').1
  have hin : j < tl (zs vs) (zs vs).length := by
    rcases Nat.lt_or_ge j (tl (zs vs) (zs vs).length) with h | h
    · exact h
    · have := tl_zero _ _ _ h hlt
      rw [hj'] at this
      have hx0 : x = 0 := by simpa using this
      omega
  unfold mayB
  have : (List.take (tl (zs vs) (zs vs).length) (zs vs)).all okN = false := by
    rw [← Bool.not_eq_true, List.all_eq_true]
    intro hall
    have := hall (x : Int) (List.mem_of_getElem? (i := j) (by rw [List.getElem?_take, if_pos hin, hj']))
    rw [okN_nat, decide_eq_true_eq] at this
    omega
  rw [this, Bool.and_false]

end Go.Proofs.Ytegjageenofbjaa.Cd
