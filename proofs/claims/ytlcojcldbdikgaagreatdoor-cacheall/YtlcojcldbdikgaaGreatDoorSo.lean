/-
  The document's own cache: what Commit leaves (pure).
-/
import Derived.Test.YtlcojcldbdikgaaGreatDoorSn
namespace Go.Proofs.YtlcojcldbdikgaaGreatDoor.Rc
open Go.RowKit

def cleanE (y : RE) : RE := { y with dirty := false }
theorem comR_L (S : RS) (i : Nat) : ∀ j, (comR S i).L[j]? = if j < i then (S.L[j]?).map cleanE else S.L[j]? := by
  induction i with
  | zero => intro j; rfl
  | succ i ih =>
    intro j
    have hi := comR_at S i i (Nat.le_refl _)
    unfold comR
    rw [hi]
    cases hy : S.L[i]? with
    | none =>
      simp only
      rw [ih j]
      by_cases h1 : j < i
      · rw [if_pos h1, if_pos (by omega)]
      · rw [if_neg h1]
        by_cases h2 : j < i + 1
        · obtain rfl : j = i := by omega
          rw [if_pos h2, hy]; rfl
        · rw [if_neg h2]
    | some y =>
      simp only
      cases hd : y.dirty with
      | true =>
        simp only [if_true]
        rw [List.getElem?_set]
        by_cases e : i = j
        · subst e
          rw [if_pos rfl, if_pos (by rw [(comR_len S i).1]; exact (List.getElem?_eq_some_iff.1 hy).1), if_pos (by omega), hy]
          rfl
        · rw [if_neg e, ih j]
          by_cases h1 : j < i
          · rw [if_pos h1, if_pos (by omega)]
          · rw [if_neg h1, if_neg (by omega)]
      | false =>
        simp only [Bool.false_eq_true, if_false]
        rw [ih j]
        by_cases h1 : j < i
        · rw [if_pos h1, if_pos (by omega)]
        · rw [if_neg h1]
          by_cases h2 : j < i + 1
          · obtain rfl : j = i := by omega
            rw [if_pos h2, hy]
            simp only [Option.map_some, Option.some.injEq]
            unfold cleanE
            rw [← hd]
          · rw [if_neg h2]
theorem comR_all (S : RS) : (comR S S.L.length).L = S.L.map cleanE := by
  refine List.ext_getElem? fun j => ?_
  rw [comR_L, List.getElem?_map]
  by_cases h : j < S.L.length
  · rw [if_pos h]
  · rw [if_neg h, List.getElem?_eq_none (by omega)]; rfl
theorem comR_rest (S : RS) (i : Nat) : (comR S i).room = S.room ∧ (comR S i).time = S.time ∧ (comR S i).hit = S.hit ∧ (comR S i).miss = S.miss ∧ (comR S i).outs = S.outs := by
  induction i with
  | zero => exact ⟨rfl, rfl, rfl, rfl, rfl⟩
  | succ i ih =>
    unfold comR
    split
    · split
      · exact ih
      · exact ih
    · exact ih
/-- A block of the volume behind Commit. -/
theorem comR_V (S : RS) (ha : Apart S.L) (i : Nat) : ∀ q, q < S.V.length → (comR S i).V[q]? = match (S.L.take i).find? (fun y => y.dirty && y.block == q) with | some y => some y.b | none => S.V[q]? := by
  induction i with
  | zero => intro q _; rfl
  | succ i ih =>
    intro q hq
    have hi := comR_at S i i (Nat.le_refl _)
    unfold comR
    rw [hi]
    cases hy : S.L[i]? with
    | none =>
      simp only
      rw [ih q hq, List.take_add_one, hy]
      simp
    | some y =>
      simp only
      rw [List.take_add_one, hy, Option.toList_some, List.find?_append]
      cases hd : y.dirty with
      | false =>
        simp only [Bool.false_eq_true, if_false]
        rw [ih q hq]
        simp [hd]
      | true =>
        simp only [if_true]
        rw [List.getElem?_set]
        by_cases e : y.block = q
        · subst e
          rw [if_pos rfl, if_pos (by rw [(comR_len S i).2]; exact hq)]
          have hnone : (S.L.take i).find? (fun z => z.dirty && z.block == y.block) = none := by
            rw [List.find?_eq_none]
            intro z hz
            obtain ⟨j, hj⟩ := List.getElem?_of_mem hz
            rw [List.getElem?_take] at hj
            split at hj
            · rename_i hji
              intro hc
              simp only [Bool.and_eq_true, beq_iff_eq] at hc
              have := apart_at ha hj hy hc.2
              omega
            · cases hj
          rw [hnone]
          simp [hd]
        · rw [if_neg e, ih q hq]
          have hno : (List.find? (fun z : RE => z.dirty && z.block == q) [y]) = none := by simp [e]
          rw [hno]
          simp
theorem commit_abs (D : SV → List (BitVec 8)) (S : RS) : abs D (comR S S.L.length) = { abs D S with L := (abs D S).L.map fun x => { x with dirty := false } } := by
  obtain ⟨h1, h2, h3, h4, h5⟩ := comR_rest S S.L.length
  unfold abs
  rw [comR_all, h1, h2, h3, h4, h5]
  simp only [List.map_map]
  rfl
theorem commit_apart {S : RS} (ha : Apart S.L) : Apart (comR S S.L.length).L := by
  rw [comR_all]
  unfold Apart at ha ⊢
  rw [List.map_map]
  exact ha

end Go.Proofs.YtlcojcldbdikgaaGreatDoor.Rc
