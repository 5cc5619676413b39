/-
  The document's own way to write: bytes, a truth, an ID, a vector.
-/
import Derived.Test.YteimjkicinjcgaaKKwany
import Derived.Test.YteimjkicinjcgaaKKcodm
import Derived.Test.YteimjkicinjcgaaKKqvec

namespace Go.Proofs.Yteimjkicinjcgaa.Cd
open Go.RowKit

theorem own_base {W : World} {base base' e : Nat} {v : Value} {n : Nat} {xs : List Value} (h : W.ownsRow base e 1 v n xs) (hb : base' ≤ base) : W.ownsRow base' e 1 v n xs := by
  refine ⟨h.1, ?_⟩
  rcases h.2 with h0 | ⟨g, cap, cur, rfl, h1, r⟩
  · exact .inl h0
  · exact .inr ⟨g, cap, cur, rfl, Nat.le_trans hb h1, r⟩
theorem normOf_ok (ns : List Int) : ∀ x ∈ normOf ns, okN x = true := by
  intro x hx
  have := List.mem_of_mem_take hx
  unfold allOf at this
  obtain ⟨k, _, rfl⟩ := List.mem_map.1 this
  unfold atOf
  split
  · split
    · assumption
    · rfl
  · rfl
theorem normOf_le (ns : List Int) : (normOf ns).length ≤ 64 := by
  unfold normOf; rw [List.length_take, allOf_length]; omega
end Go.Proofs.Yteimjkicinjcgaa.Cd
