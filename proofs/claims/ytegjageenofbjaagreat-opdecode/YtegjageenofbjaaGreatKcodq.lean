/-
  The document's own way to read, held against the program's: bytes, truths, IDs, vectors.
-/
import Derived.Test.YtegjageenofbjaaGreatKcodm
namespace Go.Proofs.YtegjageenofbjaaGreat.Cd

abbrev top : Nat := 4611686018427387904
abbrev mtime : Nat := 1152921504606846976

def bytesOf (n : Nat) : St → List (BitVec 8) × St
  | none => ([], none)
  | some bs => if 65536 < n ∨ bs.length < n then ([], none) else (bs.take n, some (bs.drop n))
def idOf (t n : Nat) : St → (Nat × Nat) × St
  | none => ((0, 0), none)
  | some bs => if mtime < t ∨ 64 ≤ n then ((0, 0), none) else ((t, n), some bs)
def vecOf (vs : List Nat) : St → List Nat × St
  | none => ([], none)
  | some bs => if (∃ x ∈ vs, mtime < x) ∨ vs.getLast? = some 0 then ([], none) else (vs, some bs)

theorem rbytes_of (s : St) (n : Nat) (s1 : St) (h : rnum top s = (n, s1)) : rbytes s = bytesOf n s1 := by
  unfold rbytes bytesOf
  cases s1 with
  | none => rw [rnum_bad_of (most := 65536) (big := top) (by decide) (.inl (by rw [h]))]
  | some bs =>
    by_cases hn : 65536 < n
    · rw [rnum_bad_of (most := 65536) (big := top) (by decide) (.inr (by rw [h]; exact hn))]
      simp [hn]
    · rw [rnum_good_of (most := 65536) (big := top) (by decide) (by rw [h]; simp; omega), h]
      simp [hn]

theorem readAt_big {bs : List (BitVec 8)} : ∀ (f i acc n k : Nat), 0 < i → readAt bs f i acc = some (n, k) → 128 ≤ n := by
  intro f
  induction f with
  | zero => intro i acc n k _ h; cases h
  | succ f ih =>
    intro i acc n k hi h
    unfold readAt at h
    split at h
    · cases h
    · rename_i x hx
      split at h
      · split at h
        · cases h
        · cases h
          have h0 : 1 ≤ x.toNat := by omega
          have h1 : 128 ^ 1 ≤ 128 ^ i := Nat.pow_le_pow_right (by decide) hi
          have h2 : 1 * 128 ^ i ≤ x.toNat * 128 ^ i := Nat.mul_le_mul_right _ h0
          omega
      · exact ih _ _ _ _ (by omega) h

theorem rtruth_nil : rtruth (some []) = (false, none) := rfl
theorem rtruth_none : rtruth none = (false, none) := rfl
theorem rtruth_cons (x : BitVec 8) (l : List (BitVec 8)) : rtruth (some (x :: l)) = if 1 < x.toNat then (false, none) else (x.toNat == 1, some l) := by
  unfold rtruth rnum
  simp only
  have hf : first (x :: l) = if x.toNat < 128 then some (x.toNat, 1) else readAt (x :: l) 8 1 (x.toNat % 128) := by
    rw [first, readAt]
    simp
  rw [hf]
  by_cases h : x.toNat < 128
  · rw [if_pos h]
    simp only
    by_cases h1 : 1 < x.toNat
    · rw [if_pos h1, if_pos h1]; rfl
    · rw [if_neg h1, if_neg h1]; rfl
  · rw [if_neg h, if_pos (by omega : 1 < x.toNat)]
    cases hr : readAt (x :: l) 8 1 (x.toNat % 128) with
    | none => rfl
    | some p =>
      obtain ⟨n, k⟩ := p
      have := readAt_big _ _ _ _ _ (by decide) hr
      simp only
      rw [if_pos (by omega)]
      rfl

theorem rid_of (s : St) (t n : Nat) (s1 s2 : St) (h1 : rnum top s = (t, s1)) (h2 : rnum top s1 = (n, s2)) : rid s = idOf t n s2 := by
  unfold rid idOf
  by_cases hb : s1 = none ∨ mtime < t
  · have e1 := rnum_bad_of (most := mtime) (big := top) (by decide) (s := s) (by rw [h1]; exact hb)
    rw [show (1152921504606846976 : Nat) = mtime from rfl, e1]
    simp only [rnum_none]
    cases s2 with
    | none => rfl
    | some bs =>
      rcases hb with rfl | hb
      · rw [rnum_none] at h2; cases h2
      · simp [hb]
  · have e1 := rnum_good_of (most := mtime) (big := top) (by decide) (s := s) (by rw [h1]; exact hb)
    rw [show (1152921504606846976 : Nat) = mtime from rfl, e1, h1]
    simp only
    cases s2 with
    | none => rw [rnum_bad_of (most := 63) (big := top) (by decide) (.inl (by rw [h2]))]
    | some bs =>
      by_cases hn : 64 ≤ n
      · rw [rnum_bad_of (most := 63) (big := top) (by decide) (.inr (by rw [h2]; exact hn))]
        simp [hn]
      · rw [rnum_good_of (most := 63) (big := top) (by decide) (by rw [h2]; simp; omega), h2]
        have : ¬ mtime < t := fun h => hb (.inr h)
        simp only
        rw [if_neg (by omega)]

theorem rvec_short (s : St) (n : Nat) (s1 : St) (h : rnum top s = (n, s1)) (hb : s1 = none ∨ 64 < n) : rvec s = ([], none) := by
  unfold rvec
  rw [rnum_bad_of (most := 64) (big := top) (by decide) (s := s) (by rw [h]; exact hb)]
  rfl
theorem rvec_of (s : St) (n : Nat) (s1 : St) (h : rnum top s = (n, s1)) (hb : ¬ (s1 = none ∨ 64 < n)) : rvec s = vecOf (rnums top n s1).1 (rnums top n s1).2 := by
  unfold rvec vecOf
  rw [rnum_good_of (most := 64) (big := top) (by decide) (s := s) (by rw [h]; exact hb), h]
  simp only
  rw [show (1152921504606846976 : Nat) = mtime from rfl]
  cases h2 : (rnums top n s1).2 with
  | none => rw [rnums_bad (most := mtime) (big := top) (by decide) n s1 (.inl h2)]
  | some bs =>
    by_cases hx : ∃ x ∈ (rnums top n s1).1, mtime < x
    · rw [rnums_bad (most := mtime) (big := top) (by decide) n s1 (.inr hx)]
      simp only
      rw [if_pos (.inl hx)]
    · have hg := rnums_good (most := mtime) (big := top) (by decide) n s1 (by rw [h2]; simp) (fun x hx' => by
        rcases Nat.lt_or_ge mtime x with h | h
        · exact absurd ⟨x, hx', h⟩ hx
        · exact h)
      rw [hg, h2]
      simp only
      by_cases hz : (rnums top n s1).1.getLast? = some 0
      · rw [if_pos hz, if_pos (.inr hz)]
      · rw [if_neg hz, if_neg (by rintro (h | h); exact hx h; exact hz h)]

theorem rvec_good (s : St) : (∀ x ∈ (rvec s).1, x ≤ mtime) ∧ (rvec s).1.length ≤ 64 ∧ (rvec s).1.getLast? ≠ some 0 := by
  have h1 := rnums_le 1152921504606846976 (rnum 64 s).1 (rnum 64 s).2
  have h2 := rnums_length 1152921504606846976 (rnum 64 s).1 (rnum 64 s).2
  have h3 := rnum_le 64 s
  unfold rvec
  split
  · simp
  · split
    · simp
    · rename_i hz
      exact ⟨h1, by simp only; omega, hz⟩

end Go.Proofs.YtegjageenofbjaaGreat.Cd
