/-
  The reader of the document's own text: a number.
-/
import Derived.Test.YtegjageenofbjaaKrnum
namespace Go.Proofs.Ytegjageenofbjaa.Cd
open Go.RowKit

theorem more_sum (acc i d : Nat) (hi : i < 9) (ha : acc < 128 ^ i) (hd : d < 128) : (acc : Int) + wrap64 ((d : Int) * 2 ^ (7 * i)) = ((acc + d * 128 ^ i : Nat) : Int) ∧ acc + d * 128 ^ i < 128 ^ (i + 1) ∧ acc + d * 128 ^ i < 9223372036854775808 := by
  obtain ⟨_, h4⟩ := more_bits acc i d hi ha hd
  have h2 : 128 ^ (i + 1) ≤ 128 ^ 9 := Nat.pow_le_pow_right (by decide) (by omega)
  have h3 : (128 : Nat) ^ 9 = 9223372036854775808 := by decide
  refine ⟨?_, h4, by omega⟩
  have e1 : (d : Int) * 2 ^ (7 * i) = ((d * 128 ^ i : Nat) : Int) := by
    rw [pow128]; simp
  have hw : wrap64 ((d * 128 ^ i : Nat) : Int) = ((d * 128 ^ i : Nat) : Int) := by
    unfold wrap64
    omega
  rw [e1, hw]
  omega

end Go.Proofs.Ytegjageenofbjaa.Cd
