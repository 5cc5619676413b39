/-
  What is written is what the document says, and is read again: as functions of lists of bytes.
-/
import Derived.Test.YteimjkicinjcgaaKKestr
import Derived.Test.YteimjkicinjcgaaKKbase
import Derived.Test.YteimjkicinjcgaaKKwany
import Derived.Test.YteimjkicinjcgaaKKeach
import Derived.Test.YteimjkicinjcgaaKKtrim
import Derived.Test.YteimjkicinjcgaaKKqstr

namespace Go.Proofs.Yteimjkicinjcgaa.Cd

theorem atOf_in (ns : List Int) (k : Nat) (x : Int) (h : ns[k]? = some x) (hx : okN x = true) : atOf ns k = x := by
  unfold atOf; rw [h]; simp [hx]
theorem allOf_get (ns : List Int) (n k : Nat) (h : k < n) : (allOf ns n)[k]? = some (atOf ns k) := by
  unfold allOf
  rw [List.getElem?_map, List.getElem?_range h]
  rfl
theorem tl_stop (ns : List Int) (m : Nat) (hm : m = 0 ∨ ∃ x, ns[m - 1]? = some x ∧ x ≠ 0) : ∀ k, m ≤ k → (∀ j, m ≤ j → j < k → ns[j]? = some 0) → tl ns k = m
  | 0, h, _ => by have : m = 0 := by omega
                  subst this; rfl
  | k + 1, h, hz => by
    by_cases hk : m = k + 1
    · subst hk
      rw [tl, if_neg]
      rcases hm with h | ⟨x, hx, hne⟩
      · omega
      · rw [show k = k + 1 - 1 from rfl, hx]; intro e; cases e; exact hne rfl
    · rw [tl, if_pos (hz k (by omega) (by omega))]
      exact tl_stop ns m hm k (by omega) (fun j h1 h2 => hz j h1 (by omega))
theorem tl_last (ns : List Int) : ∀ k, tl ns k = 0 ∨ ns[tl ns k - 1]? ≠ some 0
  | 0 => .inl rfl
  | k + 1 => by
    rw [tl]
    split
    · exact tl_last ns k
    · right; assumption
theorem norm_take (ns : List Int) (h : mayB ns = true) : normOf ns = ns.take (tl ns ns.length) := by
  unfold mayB at h
  rw [Bool.and_eq_true, decide_eq_true_eq, List.all_eq_true] at h
  obtain ⟨h1, h2⟩ := h
  have hle := tl_le ns ns.length
  obtain ⟨k, hk⟩ : ∃ k, tl ns ns.length = k := ⟨_, rfl⟩
  have hzero := fun j => tl_zero ns ns.length j
  rw [hk] at h1 h2 hle hzero ⊢
  have hA : ∀ j, j < k → (allOf ns 64)[j]? = ns[j]? := fun j hj => by
    have hjl : j < ns.length := by omega
    rw [allOf_get ns 64 j (by omega), List.getElem?_eq_getElem hjl, atOf_in ns j ns[j] (List.getElem?_eq_getElem hjl) (h2 _ (by
      rw [List.mem_iff_getElem?]; exact ⟨j, by rw [List.getElem?_take, if_pos hj, List.getElem?_eq_getElem hjl]⟩))]
  have hz : ∀ j, k ≤ j → j < 64 → (allOf ns 64)[j]? = some 0 := fun j g1 g2 => by
    rw [allOf_get ns 64 j g2]
    unfold atOf
    by_cases hjl : j < ns.length
    · rw [hzero j g1 hjl]; rfl
    · rw [List.getElem?_eq_none (by omega)]
  have hlast : k = 0 ∨ ∃ x, ns[k - 1]? = some x ∧ x ≠ 0 := by
    rcases Nat.eq_zero_or_pos k with h0 | h0
    · exact .inl h0
    · right
      refine ⟨ns[k - 1], List.getElem?_eq_getElem (by omega), fun e => ?_⟩
      rcases tl_last ns ns.length with h | h
      · omega
      · rw [hk, List.getElem?_eq_getElem (by omega), e] at h
        exact h rfl
  have ht : tl (allOf ns 64) 64 = k := tl_stop _ _ (by
    rcases hlast with h0 | ⟨x, hx, hne⟩
    · exact .inl h0
    · by_cases h0 : k = 0
      · exact .inl h0
      · exact .inr ⟨x, by rw [hA _ (by omega)]; exact hx, hne⟩) 64 h1 hz
  unfold normOf
  rw [ht]
  apply List.ext_getElem?
  intro j
  rw [List.getElem?_take, List.getElem?_take]
  split
  · exact hA j (by assumption)
  · rfl

end Go.Proofs.Yteimjkicinjcgaa.Cd
