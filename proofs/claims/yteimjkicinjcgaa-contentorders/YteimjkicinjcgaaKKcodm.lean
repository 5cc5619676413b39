/-
  The words of the chapter as functions of lists of bytes: how a number is written, how it is read; vectors.
-/


namespace Go.Proofs.Yteimjkicinjcgaa.Cd

/-- The number with which bs begins, and how many bytes it takes: asked from place i on, with f places left and acc read so far. -/
def readAt (bs : List (BitVec 8)) : Nat → Nat → Nat → Option (Nat × Nat)
  | 0, _, _ => none
  | f + 1, i, acc =>
    match bs[i]? with
    | none => none
    | some x => if x.toNat < 128 then (if x.toNat = 0 ∧ 0 < i then none else some (acc + x.toNat * 128 ^ i, i + 1)) else readAt bs f (i + 1) (acc + x.toNat % 128 * 128 ^ i)

def first (bs : List (BitVec 8)) : Option (Nat × Nat) := readAt bs 9 0 0

/- What a reader does. none: it is bad. -/

abbrev St := Option (List (BitVec 8))

end Go.Proofs.Yteimjkicinjcgaa.Cd
