/-
  The words of the chapter as functions of lists of bytes: how a number is written, how it is read; vectors.
-/
namespace Go.Proofs.YtegjageenofbjaaGreat.Cd

/-- A number's bytes. -/
def numB (n : Nat) : List (BitVec 8) :=
  if n < 128 then [BitVec.ofNat 8 n] else BitVec.ofNat 8 (128 + n % 128) :: numB (n / 128)
  termination_by n

theorem numB_lt {n : Nat} (h : n < 128) : numB n = [BitVec.ofNat 8 n] := by rw [numB, if_pos h]
theorem numB_ge {n : Nat} (h : ¬ n < 128) : numB n = BitVec.ofNat 8 (128 + n % 128) :: numB (n / 128) := by rw [numB, if_neg h]
theorem numB_pos (n : Nat) : 0 < (numB n).length := by
  rw [numB]; split <;> simp

theorem numB_len (k : Nat) : ∀ n : Nat, n < 128 ^ (k + 1) → (numB n).length ≤ k + 1 := by
  induction k with
  | zero =>
    intro n h
    rw [numB_lt (by simpa using h)]
    simp
  | succ k ih =>
    intro n h
    by_cases hn : n < 128
    · rw [numB_lt hn]; simp
    · rw [numB_ge hn, List.length_cons]
      have := ih (n / 128) (by rw [Nat.pow_succ] at h; exact Nat.div_lt_of_lt_mul (by rw [Nat.mul_comm]; exact h))
      omega
theorem numB_len9 (n : Nat) (h : n ≤ 4611686018427387904) : (numB n).length ≤ 9 := numB_len 8 n (by omega)

/-- The number with which bs begins, and how many bytes it takes: asked from place i on, with f places left and acc read so far. -/
def readAt (bs : List (BitVec 8)) : Nat → Nat → Nat → Option (Nat × Nat)
  | 0, _, _ => none
  | f + 1, i, acc =>
    match bs[i]? with
    | none => none
    | some x => if x.toNat < 128 then (if x.toNat = 0 ∧ 0 < i then none else some (acc + x.toNat * 128 ^ i, i + 1)) else readAt bs f (i + 1) (acc + x.toNat % 128 * 128 ^ i)

def first (bs : List (BitVec 8)) : Option (Nat × Nat) := readAt bs 9 0 0

theorem readAt_lt {bs : List (BitVec 8)} : ∀ (f i acc n k : Nat), acc < 128 ^ i → readAt bs f i acc = some (n, k) → i < k ∧ k ≤ bs.length ∧ k ≤ i + f ∧ n < 128 ^ k ∧ acc ≤ n := by
  intro f
  induction f with
  | zero => intro i acc n k _ h; cases h
  | succ f ih =>
    intro i acc n k ha h
    unfold readAt at h
    split at h
    · cases h
    · rename_i x hx
      have hlen := (List.getElem?_eq_some_iff.1 hx).1
      have hp : 128 ^ (i + 1) = 128 * 128 ^ i := by rw [Nat.pow_succ, Nat.mul_comm]
      split at h
      · rename_i hx128
        split at h
        · cases h
        · cases h
          have : x.toNat * 128 ^ i ≤ 127 * 128 ^ i := Nat.mul_le_mul_right _ (by omega)
          refine ⟨by omega, by omega, by omega, ?_, by omega⟩
          rw [hp]; omega
      · have hd : x.toNat % 128 * 128 ^ i ≤ 127 * 128 ^ i := Nat.mul_le_mul_right _ (by omega)
        obtain ⟨h1, h2, h3, h4, h5⟩ := ih (i + 1) _ n k (by rw [hp]; omega) h
        exact ⟨by omega, by omega, by omega, h4, by omega⟩

theorem first_lt {bs : List (BitVec 8)} {n k : Nat} (h : first bs = some (n, k)) : 0 < k ∧ k ≤ bs.length ∧ k ≤ 9 ∧ n < 9223372036854775808 := by
  obtain ⟨h1, h2, h3, h4, _⟩ := readAt_lt 9 0 0 n k (by decide) h
  refine ⟨h1, h2, by omega, Nat.lt_of_lt_of_le h4 ?_⟩
  have : 128 ^ k ≤ 128 ^ 9 := Nat.pow_le_pow_right (by decide) (by omega)
  exact this

theorem toNat_ofNat8 {n : Nat} (h : n < 256) : (BitVec.ofNat 8 n).toNat = n := by rw [BitVec.toNat_ofNat]; exact Nat.mod_eq_of_lt h

theorem readAt_numB (rest : List (BitVec 8)) : ∀ (f : Nat) (pre : List (BitVec 8)) (acc n : Nat), (numB n).length ≤ f → (n = 0 → pre.length = 0) →
    readAt (pre ++ (numB n ++ rest)) f pre.length acc = some (acc + n * 128 ^ pre.length, pre.length + (numB n).length) := by
  intro f
  induction f with
  | zero => intro pre acc n h _; have := numB_pos n; omega
  | succ f ih =>
    intro pre acc n h hz
    unfold readAt
    by_cases hn : n < 128
    · rw [numB_lt hn]
      have e1 : (pre ++ ([BitVec.ofNat 8 n] ++ rest))[pre.length]? = some (BitVec.ofNat 8 n) := by simp
      rw [e1]
      have ht := toNat_ofNat8 (n := n) (by omega)
      simp only [ht, hn, if_true]
      rw [if_neg (fun hh => by have := hz hh.1; omega)]
      rfl
    · have e1 : (pre ++ (numB n ++ rest))[pre.length]? = some (BitVec.ofNat 8 (128 + n % 128)) := by
        rw [numB_ge hn]; simp
      rw [e1]
      have ht := toNat_ofNat8 (n := 128 + n % 128) (by omega)
      simp only [ht]
      rw [if_neg (by omega)]
      have e2 : pre ++ (numB n ++ rest) = (pre ++ [BitVec.ofNat 8 (128 + n % 128)]) ++ (numB (n / 128) ++ rest) := by
        rw [numB_ge hn]; simp
      have e3 : pre.length + 1 = (pre ++ [BitVec.ofNat 8 (128 + n % 128)]).length := by simp
      rw [e2, e3, ih _ _ (n / 128) (by rw [numB_ge hn, List.length_cons] at h; omega) (fun h0 => by omega)]
      have e4 : (128 + n % 128) % 128 = n % 128 := by omega
      have e5 : (numB n).length = (numB (n / 128)).length + 1 := by rw [numB_ge hn, List.length_cons]
      rw [e4, e5, ← e3, Nat.pow_succ]
      refine congrArg some (Prod.ext ?_ (by simp; omega))
      show acc + n % 128 * 128 ^ pre.length + n / 128 * (128 ^ pre.length * 128) = acc + n * 128 ^ pre.length
      have e6 : n / 128 * (128 ^ pre.length * 128) = (n / 128 * 128) * 128 ^ pre.length := by rw [Nat.mul_assoc, Nat.mul_comm 128]
      rw [e6, Nat.add_assoc, ← Nat.add_mul]
      congr 2
      omega

theorem first_numB (n : Nat) (rest : List (BitVec 8)) (h : n ≤ 4611686018427387904) : first (numB n ++ rest) = some (n, (numB n).length) := by
  have := readAt_numB rest 9 [] 0 n (numB_len9 n h) (fun _ => rfl)
  simpa [first] using this

/- What a reader does. none: it is bad. -/

abbrev St := Option (List (BitVec 8))

def rnum (most : Nat) : St → Nat × St
  | none => (0, none)
  | some bs => match first bs with
    | none => (0, none)
    | some (n, k) => if most < n then (0, none) else (n, some (bs.drop k))

theorem rnum_none (most : Nat) : rnum most none = (0, none) := rfl
theorem rnum_nil (most : Nat) : rnum most (some []) = (0, none) := rfl
theorem rnum_le (most : Nat) (s : St) : (rnum most s).1 ≤ most := by
  unfold rnum; split
  · exact Nat.zero_le _
  · split
    · exact Nat.zero_le _
    · split
      · exact Nat.zero_le _
      · exact Nat.le_of_not_lt (by assumption)
theorem rnum_bad {most : Nat} {s : St} (h : (rnum most s).2 = none) : (rnum most s).1 = 0 := by
  cases s with
  | none => rfl
  | some bs =>
    unfold rnum at *
    simp only at *
    cases hf : first bs with
    | none => rfl
    | some p =>
      obtain ⟨n, k⟩ := p
      rw [hf] at h
      simp only at *
      by_cases h1 : most < n
      · rw [if_pos h1]
      · rw [if_neg h1] at h; cases h
theorem rnum_len (most : Nat) (s : St) : ((rnum most s).2.getD []).length ≤ (s.getD []).length := by
  unfold rnum; split
  · simp
  · split
    · simp
    · split
      · simp
      · simp

theorem rnum_numB {most n : Nat} (rest : List (BitVec 8)) (h : n ≤ most) (hm : most ≤ 4611686018427387904) : rnum most (some (numB n ++ rest)) = (n, some rest) := by
  unfold rnum
  simp only [first_numB n rest (by omega)]
  rw [if_neg (by omega)]
  simp

/-- Of a smaller bound. -/
theorem rnum_of {most big : Nat} (h : most ≤ big) (s : St) : rnum most s = if (rnum big s).2 = none ∨ most < (rnum big s).1 then (0, none) else rnum big s := by
  unfold rnum
  cases s with
  | none => simp
  | some bs =>
    simp only
    cases hf : first bs with
    | none => simp
    | some p =>
      obtain ⟨n, k⟩ := p
      simp only
      by_cases h1 : most < n
      · rw [if_pos h1]
        by_cases h2 : big < n
        · rw [if_pos h2]; simp
        · rw [if_neg h2]; simp [h1]
      · rw [if_neg h1, if_neg (by omega : ¬ big < n)]; simp [h1]

def rnums (most : Nat) : Nat → St → List Nat × St
  | 0, s => ([], s)
  | n + 1, s => ((rnum most s).1 :: (rnums most n (rnum most s).2).1, (rnums most n (rnum most s).2).2)

theorem rnums_length (most : Nat) : ∀ (n : Nat) (s : St), (rnums most n s).1.length = n
  | 0, _ => rfl
  | n + 1, s => by simp [rnums, rnums_length most n]
theorem rnums_none (most : Nat) : ∀ n : Nat, rnums most n none = (List.replicate n 0, none)
  | 0 => rfl
  | n + 1 => by simp [rnums, rnum_none, rnums_none most n, List.replicate_succ]
/-- One number more at the end. -/
theorem rnums_snoc (most : Nat) : ∀ (n : Nat) (s : St), rnums most (n + 1) s = ((rnums most n s).1 ++ [(rnum most (rnums most n s).2).1], (rnum most (rnums most n s).2).2)
  | 0, s => rfl
  | n + 1, s => by
    rw [rnums, rnums_snoc most n]
    simp [rnums]
theorem rnums_le (most : Nat) : ∀ (n : Nat) (s : St), ∀ x ∈ (rnums most n s).1, x ≤ most
  | 0, _ => by simp [rnums]
  | n + 1, s => by
    intro x hx
    simp [rnums] at hx
    rcases hx with rfl | hx
    · exact rnum_le _ _
    · exact rnums_le most n _ x hx
theorem rnums_len (most : Nat) : ∀ (n : Nat) (s : St), ((rnums most n s).2.getD []).length ≤ (s.getD []).length
  | 0, _ => Nat.le_refl _
  | n + 1, s => Nat.le_trans (rnums_len most n _) (rnum_len most s)

theorem rnum_bad_of {most big : Nat} (h : most ≤ big) {s : St} (h1 : (rnum big s).2 = none ∨ most < (rnum big s).1) : rnum most s = (0, none) := by
  rw [rnum_of h, if_pos h1]
theorem rnum_good_of {most big : Nat} (h : most ≤ big) {s : St} (h1 : ¬ ((rnum big s).2 = none ∨ most < (rnum big s).1)) : rnum most s = rnum big s := by
  rw [rnum_of h, if_neg h1]
theorem rnums_bad {most big : Nat} (h : most ≤ big) : ∀ (n : Nat) (s : St), ((rnums big n s).2 = none ∨ ∃ x ∈ (rnums big n s).1, most < x) → (rnums most n s).2 = none
  | 0, s => by
    rintro (h1 | ⟨x, hx, _⟩)
    · exact h1
    · cases hx
  | n + 1, s => by
    intro h1
    by_cases h2 : (rnum big s).2 = none ∨ most < (rnum big s).1
    · rw [rnums, rnum_bad_of h h2, rnums_none]
    · rw [rnums, rnum_good_of h h2]
      refine rnums_bad h n _ ?_
      rcases h1 with h1 | ⟨x, hx, h1⟩
      · exact .inl h1
      · rw [rnums] at hx
        rcases List.mem_cons.1 hx with rfl | hx
        · exact absurd (.inr h1) h2
        · exact .inr ⟨x, hx, h1⟩
theorem rnums_good {most big : Nat} (h : most ≤ big) : ∀ (n : Nat) (s : St), (rnums big n s).2 ≠ none → (∀ x ∈ (rnums big n s).1, x ≤ most) → rnums most n s = rnums big n s
  | 0, s => fun _ _ => rfl
  | n + 1, s => by
    intro h1 h2
    have h3 : ¬ ((rnum big s).2 = none ∨ most < (rnum big s).1) := by
      rintro (h3 | h3)
      · exact h1 (by rw [rnums, h3, rnums_none])
      · have := h2 (rnum big s).1 (by rw [rnums]; exact List.mem_cons_self ..)
        omega
    have h4 := rnums_good h n (rnum big s).2 (fun e => h1 (by rw [rnums, e])) (fun x hx => h2 x (by rw [rnums]; exact List.mem_cons_of_mem _ hx))
    rw [rnums, rnum_good_of h h3, h4]
    rfl

/-- Bytes, behind their length. -/
def rbytes (s : St) : List (BitVec 8) × St :=
  match (rnum 65536 s).2 with
  | none => ([], none)
  | some bs => if bs.length < (rnum 65536 s).1 then ([], none) else (bs.take (rnum 65536 s).1, some (bs.drop (rnum 65536 s).1))

def rtruth (s : St) : Bool × St := ((rnum 1 s).1 == 1, (rnum 1 s).2)

def rid (s : St) : (Nat × Nat) × St :=
  match (rnum 63 (rnum 1152921504606846976 s).2).2 with
  | none => ((0, 0), none)
  | some bs => (((rnum 1152921504606846976 s).1, (rnum 63 (rnum 1152921504606846976 s).2).1), some bs)

def rvec (s : St) : List Nat × St :=
  match (rnums 1152921504606846976 (rnum 64 s).1 (rnum 64 s).2).2 with
  | none => ([], none)
  | some bs => if (rnums 1152921504606846976 (rnum 64 s).1 (rnum 64 s).2).1.getLast? = some 0 then ([], none) else ((rnums 1152921504606846976 (rnum 64 s).1 (rnum 64 s).2).1, some bs)

/-- What is left behind the reading of an item of that kind. -/
def skip (kind : Int) (s : St) : St :=
  if kind = 0 then (rnum 4611686018427387904 s).2
  else if kind = 1 then (rbytes s).2
  else if kind = 2 then (rbytes s).2
  else if kind = 3 then (rtruth s).2
  else if kind = 4 then (rid s).2
  else (rvec s).2

theorem rbytes_len (s : St) : ((rbytes s).2.getD []).length ≤ (s.getD []).length := by
  have := rnum_len 65536 s
  unfold rbytes; split
  · simp
  · rename_i bs h
    rw [h] at this
    split
    · simp
    · simp at *; omega
theorem rid_len (s : St) : ((rid s).2.getD []).length ≤ (s.getD []).length := by
  have h1 := rnum_len 1152921504606846976 s
  have h2 := rnum_len 63 (rnum 1152921504606846976 s).2
  unfold rid; split
  · simp
  · rename_i bs h
    rw [h] at h2
    simp only [Option.getD_some] at *; omega
theorem rvec_len (s : St) : ((rvec s).2.getD []).length ≤ (s.getD []).length := by
  have h1 := rnum_len 64 s
  have h2 := rnums_len 1152921504606846976 (rnum 64 s).1 (rnum 64 s).2
  unfold rvec; split
  · simp
  · rename_i bs h
    rw [h] at h2
    split
    · simp
    · simp only [Option.getD_some] at *; omega
theorem skip_len (kind : Int) (s : St) : ((skip kind s).getD []).length ≤ (s.getD []).length := by
  unfold skip
  split
  · exact rnum_len _ _
  split
  · exact rbytes_len _
  split
  · exact rbytes_len _
  split
  · exact rnum_len _ _
  split
  · exact rid_len _
  · exact rvec_len _

end Go.Proofs.YtegjageenofbjaaGreat.Cd
