/-
  Vectors as plain lists of numbers: what a list says of a node, sixty-four numbers of a function, a list without the zeros at its end.
-/


namespace Go.Proofs.Yteimjkicinjcgaa.Vc

def okN (x : Int) : Bool := decide (0 ≤ x) && decide (x ≤ 1152921504606846976)
/-- What a list says of the k-th node (k below 64). -/
def atOf (ns : List Int) (k : Nat) : Int := match ns[k]? with
  | some x => if okN x then x else 0
  | none => 0
/-- What it says of any number taken for a node. -/
def atZ (ns : List Int) (z : Int) : Int := if 0 ≤ z ∧ z < 64 then atOf ns z.toNat else 0

theorem okN_iff (x : Int) : okN x = true ↔ 0 ≤ x ∧ x ≤ 1152921504606846976 := by simp [okN]
theorem atOf_range (ns : List Int) (k : Nat) : 0 ≤ atOf ns k ∧ atOf ns k ≤ 1152921504606846976 := by
  unfold atOf
  split
  · split
    · exact (okN_iff _).1 ‹_›
    · omega
  · omega

/-- The first n numbers of a function. -/
def numsTo (f : Nat → Int) (n : Nat) : List Int := (List.range n).map f
def nums (f : Nat → Int) : List Int := numsTo f 64
theorem numsTo_length (f : Nat → Int) (n : Nat) : (numsTo f n).length = n := by simp [numsTo]
theorem numsTo_get (f : Nat → Int) {n k : Nat} (h : k < n) : (numsTo f n)[k]? = some (f k) := by
  simp [numsTo, List.getElem?_map, List.getElem?_range h]
theorem nums_length (f : Nat → Int) : (nums f).length = 64 := numsTo_length f 64
theorem nums_get (f : Nat → Int) {k : Nat} (h : k < 64) : (nums f)[k]? = some (f k) := numsTo_get f h
/-- How many of the first k are left without the zeros at the end. -/
def tl (ns : List Int) : Nat → Nat
  | 0 => 0
  | k + 1 => if ns[k]? = some 0 then tl ns k else k + 1
theorem tl_le (ns : List Int) : ∀ k, tl ns k ≤ k
  | 0 => Nat.le_refl _
  | k + 1 => by
    rw [tl]; split
    · exact Nat.le_succ_of_le (tl_le ns k)
    · exact Nat.le_refl _
theorem tl_zero (ns : List Int) : ∀ n k, tl ns n ≤ k → k < n → ns[k]? = some 0
  | 0, k, _, h => absurd h (Nat.not_lt_zero k)
  | n + 1, k, h1, h2 => by
    rw [tl] at h1
    split at h1
    · by_cases e : k = n
      · subst e; assumption
      · exact tl_zero ns n k h1 (by omega)
    · omega

/-- The vector of a function, in normal form. -/
def vec (f : Nat → Int) : List Int := (nums f).take (tl (nums f) 64)
theorem vec_length (f : Nat → Int) : (vec f).length = tl (nums f) 64 := by
  unfold vec
  rw [List.length_take, nums_length]
  exact Nat.min_eq_left (tl_le _ _)
theorem vec_le (f : Nat → Int) : (vec f).length ≤ 64 := by rw [vec_length]; exact tl_le _ _
theorem atOf_vec {f : Nat → Int} {k : Nat} (hk : k < 64) (h0 : 0 ≤ f k) (h1 : f k ≤ 1152921504606846976) : atOf (vec f) k = f k := by
  unfold atOf vec
  rw [List.getElem?_take]
  by_cases h : k < tl (nums f) 64
  · rw [if_pos h, nums_get f hk]
    have : okN (f k) = true := (okN_iff _).2 ⟨h0, h1⟩
    simp [this]
  · rw [if_neg h]
    have := tl_zero (nums f) 64 k (by omega) hk
    rw [nums_get f hk] at this
    exact (Option.some.inj this).symm

/-- ys up to j, xs from there on. -/
def mix (ys xs : List Int) (j : Nat) : List Int := ys.take j ++ xs.drop j
theorem mix_zero (ys xs : List Int) : mix ys xs 0 = xs := by simp [mix]
theorem mix_full {ys xs : List Int} (hy : ys.length = 64) (hx : xs.length = 64) : mix ys xs 64 = ys := by
  simp [mix, List.take_of_length_le (Nat.le_of_eq hy), List.drop_of_length_le (Nat.le_of_eq hx)]
theorem mix_get {ys xs : List Int} (hy : ys.length = 64) {j : Nat} (hj : j ≤ 64) : (mix ys xs j)[j]? = xs[j]? := by
  unfold mix
  rw [List.getElem?_append_right (by simp [hy]; omega), List.length_take, hy, Nat.min_eq_left hj, Nat.sub_self, List.getElem?_drop, Nat.add_zero]
theorem mix_set {ys xs : List Int} (hy : ys.length = 64) (hx : xs.length = 64) {j : Nat} (hj : j < 64) {y : Int} (h : ys[j]? = some y) : (mix ys xs j).set j y = mix ys xs (j + 1) := by
  apply List.ext_getElem?
  intro i
  unfold mix
  rw [List.getElem?_set]
  by_cases hi : j = i
  · subst hi
    rw [if_pos rfl, if_pos (by simp [hy, hx]; omega), List.getElem?_append_left (by simp [hy]; omega), List.getElem?_take, if_pos (by omega), h]
  · rw [if_neg hi]
    by_cases hl : i < j
    · rw [List.getElem?_append_left (by simp [hy]; omega), List.getElem?_append_left (by simp [hy]; omega), List.getElem?_take, List.getElem?_take, if_pos hl, if_pos (by omega)]
    · rw [List.getElem?_append_right (by simp [hy]; omega), List.getElem?_append_right (by simp [hy]; omega), List.getElem?_drop, List.getElem?_drop, List.length_take, List.length_take, hy, Nat.min_eq_left (by omega), Nat.min_eq_left (by omega)]
      congr 1
      omega

/-- The greatest of some lists' numbers for the k-th node. -/
def maxAt : List (List Int) → Nat → Int
  | vs, k => vs.foldl (fun m v => max m (atOf v k)) 0
theorem maxAt_snoc (vs : List (List Int)) (v : List Int) (k : Nat) : maxAt (vs ++ [v]) k = max (maxAt vs k) (atOf v k) := by simp [maxAt]
theorem fold_range (k : Nat) : ∀ (vs : List (List Int)) (m : Int), 0 ≤ m → m ≤ 1152921504606846976 → 0 ≤ vs.foldl (fun m v => max m (atOf v k)) m ∧ vs.foldl (fun m v => max m (atOf v k)) m ≤ 1152921504606846976
  | [], _, h0, h1 => ⟨h0, h1⟩
  | v :: vs, m, h0, h1 => by
    have := atOf_range v k
    exact fold_range k vs (max m (atOf v k)) (by omega) (by omega)
theorem maxAt_range (vs : List (List Int)) (k : Nat) : 0 ≤ maxAt vs k ∧ maxAt vs k ≤ 1152921504606846976 := fold_range k vs 0 (by omega) (by omega)
theorem maxAt_two (a b : List Int) (k : Nat) : maxAt [a, b] k = max (atOf a k) (atOf b k) := by
  have := atOf_range a k
  show max (max 0 (atOf a k)) (atOf b k) = _
  omega
/-- No number of the first n of a is above b's. -/
def leqTo (a b : List Int) : Nat → Bool
  | 0 => true
  | k + 1 => leqTo a b k && decide (atOf a k ≤ atOf b k)
def leqB (a b : List Int) : Bool := leqTo a b 64
theorem leqTo_iff (a b : List Int) : ∀ n, leqTo a b n = true ↔ ∀ k, k < n → atOf a k ≤ atOf b k
  | 0 => by simp [leqTo]
  | n + 1 => by
    rw [leqTo, Bool.and_eq_true, leqTo_iff a b n, decide_eq_true_iff]
    constructor
    · intro ⟨h1, h2⟩ k hk
      by_cases e : k = n
      · subst e; exact h2
      · exact h1 k (by omega)
    · intro h
      exact ⟨fun k hk => h k (by omega), h n (by omega)⟩
theorem leqB_iff (a b : List Int) : leqB a b = true ↔ ∀ k, k < 64 → atOf a k ≤ atOf b k := leqTo_iff a b 64
theorem leqB_false {a b : List Int} {k : Nat} (hk : k < 64) (h : ¬ atOf a k ≤ atOf b k) : leqB a b = false := by
  cases e : leqB a b with
  | false => rfl
  | true => exact absurd ((leqB_iff a b).1 e k hk) h
/- What the statements ask. -/

theorem at_max {vs : List (List Int)} {k : Nat} (hk : k < 64) : atOf (vec (maxAt vs)) k = maxAt vs k := atOf_vec hk (maxAt_range vs k).1 (maxAt_range vs k).2
end Go.Proofs.Yteimjkicinjcgaa.Vc
