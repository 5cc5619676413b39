/-
  How names are held against each other; how many blocks there are; a block with room.
-/
import Derived.Test.YtdocablbkafkiaaDoorDa
namespace Go.Proofs.YtdocablbkafkiaaDoor.Cd

theorem cmp_cases : ∀ a b : List UInt8, (Lib.compareBytes a b = -1 ∧ Op.bytesLess a b = true) ∨ (Lib.compareBytes a b = 0 ∧ a = b) ∨ (Lib.compareBytes a b = 1 ∧ Op.bytesLess b a = true)
  | [], [] => .inr (.inl ⟨rfl, rfl⟩)
  | [], _ :: _ => .inl ⟨rfl, rfl⟩
  | _ :: _, [] => .inr (.inr ⟨rfl, rfl⟩)
  | a :: x, b :: y => by
    unfold Lib.compareBytes
    by_cases h : a < b
    · rw [if_pos h]; exact .inl ⟨rfl, by simp [Op.bytesLess, h]⟩
    · rw [if_neg h]
      by_cases k : b < a
      · rw [if_pos k]; exact .inr (.inr ⟨rfl, by simp [Op.bytesLess, k]⟩)
      · rw [if_neg k]
        have e : a = b := by
          rcases UInt8.lt_or_lt_of_ne (a := a) (b := b) |> fun f => (Decidable.em (a = b)).imp id f with e | e | e
          · exact e
          · exact absurd e h
          · exact absurd e k
        subst e
        rcases cmp_cases x y with ⟨h1, h2⟩ | ⟨h1, h2⟩ | ⟨h1, h2⟩
        · exact .inl ⟨h1, by simp [Op.bytesLess, h2]⟩
        · exact .inr (.inl ⟨h1, by rw [h2]⟩)
        · exact .inr (.inr ⟨h1, by simp [Op.bytesLess, h2]⟩)

/-- In how many blocks so many names lie. -/
def bforAt (m : Nat) : Nat → Nat → Nat → Nat
  | 0, _, size => size
  | f + 1, next, size => if next ≤ m then bforAt m f (next + (next + 1) / 2) next else size
def bfor (c : Nat) : Nat := bforAt ((c + 3) / 4) 601 1 0
theorem bfor_zero : bfor 0 = 0 := by kernel_rfl
theorem bfor_room (c : Nat) (h : c ≤ 2048) : c ≤ 7 * bfor c := by
  have : ∀ k : Fin 2049, k.val ≤ 7 * bfor k.val := by
    have e : (List.range 2049).all (fun k => decide (k ≤ 7 * bfor k)) = true := by kernel_rfl
    intro k
    have := List.all_eq_true.1 e k.val (List.mem_range.2 k.isLt)
    simpa using this
  exact this ⟨c, by omega⟩
theorem bfor_le (c : Nat) (h : c ≤ 2048) : bfor c ≤ (c + 3) / 4 := by
  have : ∀ k : Fin 2049, bfor k.val ≤ (k.val + 3) / 4 := by
    have e : (List.range 2049).all (fun k => decide (bfor k ≤ (k + 3) / 4)) = true := by kernel_rfl
    intro k
    have := List.all_eq_true.1 e k.val (List.mem_range.2 k.isLt)
    simpa using this
  exact this ⟨c, by omega⟩
theorem bfor_pos (c : Nat) (h : c ≤ 2048) (h0 : 0 < c) : 0 < bfor c := by
  have := bfor_room c h; omega

/-- How many names there are. -/
def total (D : List (List En)) : Nat := D.flatten.length
theorem total_set {D : List (List En)} {i : Nat} {b c : List En} (hb : D[i]? = some b) : total (D.set i c) + b.length = total D + c.length := by
  induction D generalizing i with
  | nil => simp at hb
  | cons x D ih =>
    cases i with
    | zero => simp at hb; subst hb; simp [total]; omega
    | succ i =>
      have := ih (i := i) (by simpa using hb)
      simp [total] at this ⊢; omega
theorem roomy {D : List (List En)} (h : total D < 7 * D.length) : ∃ (k : Nat) (b : List En), D[k]? = some b ∧ b.length < 7 := by
  induction D with
  | nil => simp at h
  | cons x D ih =>
    by_cases hx : x.length < 7
    · exact ⟨0, x, rfl, hx⟩
    · obtain ⟨k, b, hk, hb⟩ := ih (by simp [total] at h ⊢; omega)
      exact ⟨k + 1, b, by simpa using hk, hb⟩
theorem mem_set {D : List (List En)} {i : Nat} {b c : List En} (hb : D[i]? = some b) (x : En) : x ∈ (D.set i c).flatten ↔ x ∈ c ∨ ∃ (j : Nat) (d : List En), j ≠ i ∧ D[j]? = some d ∧ x ∈ d := by
  have hi := (List.getElem?_eq_some_iff.1 hb).1
  rw [List.mem_flatten]
  constructor
  · rintro ⟨d, hd, hx⟩
    obtain ⟨j, hj⟩ := List.mem_iff_getElem?.1 hd
    rcases set_get hj with ⟨rfl, rfl, _⟩ | ⟨hne, hj'⟩
    · exact .inl hx
    · exact .inr ⟨j, d, Ne.symm hne, hj', hx⟩
  · rintro (hx | ⟨j, d, hne, hj, hx⟩)
    · exact ⟨c, List.mem_of_getElem? (List.getElem?_set_self hi), hx⟩
    · exact ⟨d, List.mem_of_getElem? (i := j) (by rw [List.getElem?_set_ne (Ne.symm hne)]; exact hj), hx⟩
theorem mem_at {D : List (List En)} (x : En) : x ∈ D.flatten ↔ ∃ (j : Nat) (d : List En), D[j]? = some d ∧ x ∈ d := by
  rw [List.mem_flatten]
  constructor
  · rintro ⟨d, hd, hx⟩
    obtain ⟨j, hj⟩ := List.mem_iff_getElem?.1 hd
    exact ⟨j, d, hj, hx⟩
  · rintro ⟨j, d, hd, hx⟩
    exact ⟨d, List.mem_of_getElem? hd, hx⟩

end Go.Proofs.YtdocablbkafkiaaDoor.Cd
