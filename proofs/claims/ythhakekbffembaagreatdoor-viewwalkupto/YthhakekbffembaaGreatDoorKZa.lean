import Derived.Test.YthhakekbffembaaGreatDoorKNcmp

namespace Go.Proofs.YthhakekbffembaaGreatDoor.Ck
open Go.RowKit
def par (k : Nat) : Nat := (k - 1) / 2
def LB (bk : Bool) (t n t' n' : Int) : Bool := if bk then lessB t' n' t n else lessB t n t' n'
structure QE where
 t : Int
 n : Int
 k : Int
 came : Nat
def B63 : Int := 9223372036854775808
def Rng (t n : Int) : Prop := -B63 ≤ t ∧ t < B63 ∧ -B63 ≤ n ∧ n < B63
def QE.ok (e : QE) : Prop := Rng e.t e.n ∧ e.came < 1000000
def numZ (bk : Bool) (x : Int) : Nat := if bk then (B63 - x).toNat else (x + B63).toNat
theorem numZ_lt {bk : Bool} {x : Int} (h : -B63 ≤ x) (h' : x < B63) : numZ bk x < 36893488147419103232 := by
 unfold numZ B63 at *
 split <;> omega
theorem numZ_less {bk : Bool} {x y : Int} (h : -B63 ≤ x) (h' : x < B63) (g : -B63 ≤ y) (g' : y < B63) : (numZ bk x < numZ bk y ↔ (if bk then y < x else x < y)) ∧ (numZ bk x = numZ bk y ↔ x = y) := by
 unfold numZ B63 at *
 cases bk <;> simp <;> omega
theorem lex_lt {M x y x' y' : Nat} (hy : y < M) (hy' : y' < M) : x * M + y < x' * M + y' ↔ x < x' ∨ (x = x' ∧ y < y') := by
 constructor
 · intro h
   rcases Nat.lt_trichotomy x x' with h1 | h1 | h1
   · exact .inl h1
   · subst h1; exact .inr ⟨rfl, by omega⟩
   · have := Nat.mul_le_mul_right M (show x' + 1 ≤ x from h1)
     rw [Nat.add_mul, Nat.one_mul] at this
     omega
 · rintro (h | ⟨rfl, h⟩)
   · have := Nat.mul_le_mul_right M (show x + 1 ≤ x' from h)
     rw [Nat.add_mul, Nat.one_mul] at this
     omega
   · omega
def keyE (bk : Bool) (e : QE) : Nat := (numZ bk e.t * 36893488147419103232 + numZ bk e.n) * 1000000 + e.came
theorem keyE_lt {bk : Bool} {a b : QE} (ha : a.ok) (hb : b.ok) : keyE bk a < keyE bk b ↔ LB bk a.t a.n b.t b.n = true ∨ (LB bk b.t b.n a.t a.n = false ∧ a.came < b.came) := by
 obtain ⟨⟨a1, a2, a3, a4⟩, a5⟩ := ha
 obtain ⟨⟨b1, b2, b3, b4⟩, b5⟩ := hb
 unfold keyE
 rw [lex_lt a5 b5, lex_lt (numZ_lt a3 a4) (numZ_lt b3 b4)]
 have h1 := numZ_less (bk := bk) a1 a2 b1 b2
 have h2 := numZ_less (bk := bk) a3 a4 b3 b4
 have h3 : numZ bk a.t * 36893488147419103232 + numZ bk a.n = numZ bk b.t * 36893488147419103232 + numZ bk b.n ↔ a.t = b.t ∧ a.n = b.n := by
   have u1 := numZ_lt (bk := bk) a3 a4
   have u2 := numZ_lt (bk := bk) b3 b4
   rw [← h1.2, ← h2.2]
   constructor
   · intro h
     omega
   · rintro ⟨h, h'⟩; rw [h, h']
 rw [h1.1, h1.2, h2.1, h3]
 cases bk
 · simp only [LB, Bool.false_eq_true, if_false, lessB_true, lessB_false]
   omega
 · simp only [LB, if_true, lessB_true, lessB_false]
   omega
end Go.Proofs.YthhakekbffembaaGreatDoor.Ck
