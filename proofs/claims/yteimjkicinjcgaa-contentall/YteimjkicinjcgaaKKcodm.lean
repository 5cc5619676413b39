/-
  The words of the chapter as functions of lists of bytes: how a number is written, how it is read; vectors.
-/


namespace Go.Proofs.Yteimjkicinjcgaa.Cd

/-- The number with which bs begins, and how many bytes it takes: asked from place i on, with f places left and acc read so far. -/
def readAt (bs : List (BitVec 8)) : Nat → Nat → Nat → Option (Nat × Nat)
  | 0, _, _ => none
  | f + 1, i, acc =>
    match bs[i]? with
    | none => none
    | some x => if x.toNat < 128 then (if x.toNat = 0 ∧ 0 < i then none else some (acc + x.toNat * 128 ^ i, i + 1)) else readAt bs f (i + 1) (acc + x.toNat % 128 * 128 ^ i)

def first (bs : List (BitVec 8)) : Option (Nat × Nat) := readAt bs 9 0 0

/- What a reader does. none: it is bad. -/

abbrev St := Option (List (BitVec 8))

def rnum (most : Nat) : St → Nat × St
  | none => (0, none)
  | some bs => match first bs with
    | none => (0, none)
    | some (n, k) => if most < n then (0, none) else (n, some (bs.drop k))

def rnums (most : Nat) : Nat → St → List Nat × St
  | 0, s => ([], s)
  | n + 1, s => ((rnum most s).1 :: (rnums most n (rnum most s).2).1, (rnums most n (rnum most s).2).2)

/-- Bytes, behind their length. -/
def rbytes (s : St) : List (BitVec 8) × St :=
  match (rnum 65536 s).2 with
  | none => ([], none)
  | some bs => if bs.length < (rnum 65536 s).1 then ([], none) else (bs.take (rnum 65536 s).1, some (bs.drop (rnum 65536 s).1))

def rtruth (s : St) : Bool × St := ((rnum 1 s).1 == 1, (rnum 1 s).2)

def rid (s : St) : (Nat × Nat) × St :=
  match (rnum 63 (rnum 1152921504606846976 s).2).2 with
  | none => ((0, 0), none)
  | some bs => (((rnum 1152921504606846976 s).1, (rnum 63 (rnum 1152921504606846976 s).2).1), some bs)

def rvec (s : St) : List Nat × St :=
  match (rnums 1152921504606846976 (rnum 64 s).1 (rnum 64 s).2).2 with
  | none => ([], none)
  | some bs => if (rnums 1152921504606846976 (rnum 64 s).1 (rnum 64 s).2).1.getLast? = some 0 then ([], none) else ((rnums 1152921504606846976 (rnum 64 s).1 (rnum 64 s).2).1, some bs)

/-- What is left behind the reading of an item of that kind. -/
def skip (kind : Int) (s : St) : St :=
  if kind = 0 then (rnum 4611686018427387904 s).2
  else if kind = 1 then (rbytes s).2
  else if kind = 2 then (rbytes s).2
  else if kind = 3 then (rtruth s).2
  else if kind = 4 then (rid s).2
  else (rvec s).2

end Go.Proofs.Yteimjkicinjcgaa.Cd
