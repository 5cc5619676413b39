/-
  A heap of keys: what a step up and a step down keep; the key of a stamp and its coming.
-/
import Derived.Test.YtmbkheaghiojeaaNcmp
namespace Go.Proofs.Ytmbkheaghiojeaa.Ck
open Go.RowKit

def par (k : Nat) : Nat := (k - 1) / 2
/-- The keys f of the first n places make a heap. -/
def HeapF (f : Nat → Nat) (n : Nat) : Prop := ∀ k, 0 < k → k < n → f (par k) ≤ f k
/-- But for the way to place j from above. -/
def UpOk (f : Nat → Nat) (n j : Nat) : Prop := (∀ k, 0 < k → k < n → k ≠ j → f (par k) ≤ f k) ∧ ∀ k, 0 < k → k < n → par k = j → 0 < j → f (par j) ≤ f k
/-- But for the ways to and from place i. -/
def FixOk (f : Nat → Nat) (n i : Nat) : Prop := (∀ k, 0 < k → k < n → k ≠ i → par k ≠ i → f (par k) ≤ f k) ∧ ∀ k, 0 < k → k < n → par k = i → 0 < i → f (par i) ≤ f k
/-- Two places' keys change places. -/
def swF (f : Nat → Nat) (i j : Nat) : Nat → Nat := fun k => if k = j then f i else if k = i then f j else f k

theorem par_lt {k : Nat} (h : 0 < k) : par k < k := by unfold par; omega
theorem swF_j (f : Nat → Nat) (i j : Nat) : swF f i j j = f i := by simp [swF]
theorem swF_i (f : Nat → Nat) (i j : Nat) (h : i ≠ j) : swF f i j i = f j := by simp [swF, h]
theorem swF_o (f : Nat → Nat) (i j k : Nat) (h1 : k ≠ i) (h2 : k ≠ j) : swF f i j k = f k := by simp [swF, h1, h2]

theorem UpOk.step {f : Nat → Nat} {n j : Nat} (h : UpOk f n j) (hj : 0 < j) (hn : j < n) (hlt : f j < f (par j)) : UpOk (swF f (par j) j) n (par j) := by
  obtain ⟨h1, h2⟩ := h
  have hp := par_lt hj
  refine ⟨fun k k0 kn ki => ?_, fun k k0 kn kp i0 => ?_⟩
  · by_cases e1 : k = j
    · subst e1
      rw [swF_i _ _ _ (by omega), swF_j]; omega
    · rw [swF_o f _ _ k ki e1]
      by_cases e2 : par k = j
      · rw [e2, swF_j]; exact h2 k k0 kn e2 hj
      · by_cases e3 : par k = par j
        · rw [e3, swF_i _ _ _ (by omega)]
          have := h1 k k0 kn e1
          rw [e3] at this; omega
        · rw [swF_o f _ _ _ e3 e2]; exact h1 k k0 kn e1
  · have hpp := par_lt i0
    rw [swF_o f _ _ (par (par j)) (by omega) (by omega)]
    have hi := h1 (par j) i0 (by omega) (by omega)
    by_cases e1 : k = j
    · subst e1; rw [swF_j]; exact hi
    · have hk := par_lt k0
      rw [swF_o f _ _ k (by omega) e1]
      have := h1 k k0 kn e1
      rw [kp] at this; omega
theorem UpOk.done {f : Nat → Nat} {n j : Nat} (h : UpOk f n j) (hd : j = 0 ∨ f (par j) ≤ f j) : HeapF f n := by
  intro k k0 kn
  by_cases e : k = j
  · subst e
    rcases hd with hd | hd
    · omega
    · exact hd
  · exact h.1 k k0 kn e
theorem par_child {i k : Nat} (h : par k = i) (h0 : 0 < k) : k = 2 * i + 1 ∨ k = 2 * i + 2 := by unfold par at h; omega
theorem FixOk.step {f : Nat → Nat} {n i j : Nat} (h : FixOk f n i) (hj : par j = i) (hj0 : 0 < j) (hn : j < n) (hlt : f j < f i) (hmin : ∀ k, 0 < k → k < n → par k = i → f j ≤ f k) :
    FixOk (swF f i j) n j ∧ swF f i j (par j) ≤ swF f i j j := by
  obtain ⟨h1, h2⟩ := h
  have hp := par_lt hj0
  refine ⟨⟨fun k k0 kn kj kpj => ?_, fun k k0 kn kp _ => ?_⟩, ?_⟩
  · have hk := par_lt k0
    by_cases e1 : k = i
    · subst e1
      rw [swF_i _ _ _ (by omega), swF_o f _ _ (par k) (by omega) kpj]
      exact h2 j hj0 hn hj (by omega)
    · rw [swF_o f _ _ k e1 kj]
      by_cases e2 : par k = i
      · rw [e2, swF_i _ _ _ (by omega)]; exact hmin k k0 kn e2
      · rw [swF_o f _ _ _ e2 kpj]; exact h1 k k0 kn e1 e2
  · have hk := par_lt k0
    rw [hj, swF_i _ _ _ (by omega), swF_o f _ _ k (by omega) (by omega)]
    have := h1 k k0 kn (by omega) (by omega)
    rw [kp] at this; exact this
  · rw [hj, swF_i _ _ _ (by omega), swF_j]; omega
theorem FixOk.stay {f : Nat → Nat} {n i : Nat} (h : FixOk f n i) (hd : ∀ k, 0 < k → k < n → par k = i → f i ≤ f k) : UpOk f n i := by
  refine ⟨fun k k0 kn ki => ?_, h.2⟩
  by_cases e : par k = i
  · rw [e]; exact hd k k0 kn e
  · exact h.1 k k0 kn ki e
theorem HeapF.least {f : Nat → Nat} {n : Nat} (h : HeapF f n) : ∀ k, k < n → f 0 ≤ f k := by
  intro k
  induction k using Nat.strongRecOn with
  | _ k ih =>
    intro hk
    by_cases e : k = 0
    · rw [e]; exact Nat.le_refl _
    · have hp := par_lt (show 0 < k by omega)
      exact Nat.le_trans (ih (par k) hp (by omega)) (h k (by omega) hk)
/-- One key was changed. -/
theorem HeapF.fix {f g : Nat → Nat} {m n i : Nat} (h : HeapF f m) (hnm : n ≤ m) (hi : i < m) (hg : ∀ k, k < n → k ≠ i → g k = f k) : FixOk g n i := by
  refine ⟨fun k k0 kn ki kp => ?_, fun k k0 kn kp i0 => ?_⟩
  · have hk := par_lt k0
    rw [hg k kn ki, hg (par k) (by omega) kp]; exact h k k0 (by omega)
  · have hk := par_lt k0
    have hp := par_lt i0
    rw [hg k kn (by omega), hg (par i) (by omega) (by omega)]
    have a := h k k0 (by omega)
    rw [kp] at a
    exact Nat.le_trans (h i i0 hi) a
theorem HeapF.push {f g : Nat → Nat} {n : Nat} (h : HeapF f n) (hg : ∀ k, k < n → g k = f k) : UpOk g (n + 1) n := by
  refine ⟨fun k k0 kn ki => ?_, fun k k0 kn kp i0 => ?_⟩
  · have hk := par_lt k0
    rw [hg k (by omega), hg (par k) (by omega)]; exact h k k0 (by omega)
  · rcases par_child kp k0 with e | e <;> omega
theorem HeapF.less {f g : Nat → Nat} {m n : Nat} (h : HeapF f m) (hnm : n ≤ m) (hg : ∀ k, k < n → g k = f k) : HeapF g n := by
  intro k k0 kn
  have hk := par_lt k0
  rw [hg k kn, hg (par k) (by omega)]; exact h k k0 (by omega)

/-- Two places of a list change places. -/
def swapL (I : List Nat) (i j : Nat) : List Nat := (I.set i (I.getD j 0)).set j (I.getD i 0)
def kvOf (key : Nat → Nat) (I : List Nat) : Nat → Nat := fun k => key (I.getD k 0)
theorem swapL_length (I : List Nat) (i j : Nat) : (swapL I i j).length = I.length := by simp [swapL]
theorem swapL_getD (I : List Nat) (i j k : Nat) (hi : i < I.length) (hj : j < I.length) : (swapL I i j).getD k 0 = if k = j then I.getD i 0 else if k = i then I.getD j 0 else I.getD k 0 := by
  unfold swapL
  simp only [List.getD_eq_getElem?_getD, List.getElem?_set, List.length_set]
  by_cases e1 : k = j
  · subst e1; simp [hj]
  · by_cases e2 : k = i
    · subst e2; simp [hi, Ne.symm e1, e1]
    · simp [Ne.symm e1, Ne.symm e2, e1, e2]
theorem kvOf_swap (key : Nat → Nat) (I : List Nat) (i j : Nat) (hi : i < I.length) (hj : j < I.length) : kvOf key (swapL I i j) = swF (kvOf key I) i j := by
  funext k
  unfold kvOf swF
  rw [swapL_getD I i j k hi hj]
  split
  · rfl
  · split <;> rfl
theorem swapL_perm (I : List Nat) (i j : Nat) (hi : i < I.length) (hj : j < I.length) : (swapL I i j).Perm I := by
  unfold swapL
  have e1 : I.getD j 0 = I[j] := by simp [List.getD, hj]
  have e2 : I.getD i 0 = I[i] := by simp [List.getD, hi]
  rw [e1, e2]
  exact List.set_set_perm hi hj

/-- Which stamp is less: the document's order, or the other one. -/
def LB (bk : Bool) (t n t' n' : Int) : Bool := if bk then lessB t' n' t n else lessB t n t' n'

/-- What a queue's one holds: stamp, mark, turn. -/
structure QE where
  t : Int
  n : Int
  k : Int
  came : Nat
def B63 : Int := 9223372036854775808
def Rng (t n : Int) : Prop := -B63 ≤ t ∧ t < B63 ∧ -B63 ≤ n ∧ n < B63
def QE.ok (e : QE) : Prop := Rng e.t e.n ∧ e.came < 1000000

def numZ (bk : Bool) (x : Int) : Nat := if bk then (B63 - x).toNat else (x + B63).toNat
theorem numZ_lt {bk : Bool} {x : Int} (h : -B63 ≤ x) (h' : x < B63) : numZ bk x < 36893488147419103232 := by
  unfold numZ B63 at *
  split <;> omega
theorem numZ_less {bk : Bool} {x y : Int} (h : -B63 ≤ x) (h' : x < B63) (g : -B63 ≤ y) (g' : y < B63) : (numZ bk x < numZ bk y ↔ (if bk then y < x else x < y)) ∧ (numZ bk x = numZ bk y ↔ x = y) := by
  unfold numZ B63 at *
  cases bk <;> simp <;> omega
theorem lex_lt {M x y x' y' : Nat} (hy : y < M) (hy' : y' < M) : x * M + y < x' * M + y' ↔ x < x' ∨ (x = x' ∧ y < y') := by
  constructor
  · intro h
    rcases Nat.lt_trichotomy x x' with h1 | h1 | h1
    · exact .inl h1
    · subst h1; exact .inr ⟨rfl, by omega⟩
    · have := Nat.mul_le_mul_right M (show x' + 1 ≤ x from h1)
      rw [Nat.add_mul, Nat.one_mul] at this
      omega
  · rintro (h | ⟨rfl, h⟩)
    · have := Nat.mul_le_mul_right M (show x + 1 ≤ x' from h)
      rw [Nat.add_mul, Nat.one_mul] at this
      omega
    · omega
/-- The key of one: by its stamp, then by its turn. -/
def keyE (bk : Bool) (e : QE) : Nat := (numZ bk e.t * 36893488147419103232 + numZ bk e.n) * 1000000 + e.came
theorem keyE_lt {bk : Bool} {a b : QE} (ha : a.ok) (hb : b.ok) : keyE bk a < keyE bk b ↔ LB bk a.t a.n b.t b.n = true ∨ (LB bk b.t b.n a.t a.n = false ∧ a.came < b.came) := by
  obtain ⟨⟨a1, a2, a3, a4⟩, a5⟩ := ha
  obtain ⟨⟨b1, b2, b3, b4⟩, b5⟩ := hb
  unfold keyE
  rw [lex_lt a5 b5, lex_lt (numZ_lt a3 a4) (numZ_lt b3 b4)]
  have h1 := numZ_less (bk := bk) a1 a2 b1 b2
  have h2 := numZ_less (bk := bk) a3 a4 b3 b4
  have h3 : numZ bk a.t * 36893488147419103232 + numZ bk a.n = numZ bk b.t * 36893488147419103232 + numZ bk b.n ↔ a.t = b.t ∧ a.n = b.n := by
    have u1 := numZ_lt (bk := bk) a3 a4
    have u2 := numZ_lt (bk := bk) b3 b4
    rw [← h1.2, ← h2.2]
    constructor
    · intro h
      omega
    · rintro ⟨h, h'⟩; rw [h, h']
  rw [h1.1, h1.2, h2.1, h3]
  cases bk
  · simp only [LB, Bool.false_eq_true, if_false, lessB_true, lessB_false]
    omega
  · simp only [LB, if_true, lessB_true, lessB_false]
    omega
theorem keyE_inj {bk : Bool} {a b : QE} (ha : a.ok) (hb : b.ok) (h : keyE bk a = keyE bk b) : a.t = b.t ∧ a.n = b.n ∧ a.came = b.came := by
  have h1 : ¬ keyE bk a < keyE bk b := by omega
  have h2 : ¬ keyE bk b < keyE bk a := by omega
  rw [keyE_lt ha hb] at h1
  rw [keyE_lt hb ha] at h2
  cases bk
  · simp only [LB, Bool.false_eq_true, if_false, lessB_true, lessB_false] at h1 h2
    omega
  · simp only [LB, if_true, lessB_true, lessB_false] at h1 h2
    omega
end Go.Proofs.Ytmbkheaghiojeaa.Ck
