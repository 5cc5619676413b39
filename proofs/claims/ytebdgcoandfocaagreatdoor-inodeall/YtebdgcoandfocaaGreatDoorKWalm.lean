/-
  How package wal writes numbers, blocks and records, as functions of lists of bytes. (No program is walked here.)
-/
import Derived.Test.YtebdgcoandfocaaGreatDoorKDfull

namespace Go.Proofs.YtebdgcoandfocaaGreatDoor

abbrev By := List (BitVec 8)

/-- k bytes of a number, the lowest first. -/
def leK : Nat → Nat → By
  | 0, _ => []
  | k + 1, n => BitVec.ofNat 8 n :: leK k (n / 256)
def le8 (n : Nat) : By := leK 8 n
theorem leK_length (k n : Nat) : (leK k n).length = k := by
  induction k generalizing n with
  | zero => rfl
  | succ k ih => simp [leK, ih]
theorem le8_length (n : Nat) : (le8 n).length = 8 := leK_length 8 n
theorem leK_get (k n i : Nat) (h : i < k) : (leK k n)[i]? = some (BitVec.ofNat 8 (n / 256 ^ i)) := by
  induction k generalizing n i with
  | zero => omega
  | succ k ih =>
    cases i with
    | zero => simp [leK]
    | succ i =>
      rw [leK, List.getElem?_cons_succ, ih _ _ (by omega), Nat.div_div_eq_div_mul, Nat.pow_succ, Nat.mul_comm]
theorem leN_leK (k n : Nat) : leN (leK k n) = n % 256 ^ k := by
  induction k generalizing n with
  | zero => simp [leK, leN, Nat.mod_one]
  | succ k ih =>
    have e : 256 ^ (k + 1) = 256 * 256 ^ k := by rw [Nat.pow_succ, Nat.mul_comm]
    rw [leK, leN, ih, BitVec.toNat_ofNat, e, Nat.mod_mul]
theorem leN_le8 (n : Nat) (h : n < 18446744073709551616) : leN (le8 n) = n := by
  rw [le8, leN_leK]; exact Nat.mod_eq_of_lt (by simpa using h)

/-- Zeros up to 504 bytes. -/
def pad (c : By) : By := c ++ List.replicate (504 - c.length) 0#8
theorem pad_length (c : By) (h : c.length ≤ 504) : (pad c).length = 504 := by simp [pad]; omega
def sealed (c : By) : By := framed (pad c)
theorem sealed_length (c : By) (h : c.length ≤ 504) : (sealed c).length = 512 := by rw [sealed, framed_length, pad_length c h]

theorem framed_take (bs : By) : (framed bs).take 4 = le4 (BitVec.ofNat 32 bs.length) := rfl
theorem framed_mid (bs : By) : ((framed bs).drop 4).take 4 = le4 (crcSum bs) := rfl
theorem framed_drop (bs : By) : (framed bs).drop 8 = bs := rfl
theorem unf_framed (bs : By) (h : bs.length ≤ 1048576) : unf (framed bs) = (bs, 8 + bs.length, 0) := by
  have hn : (BitVec.ofNat 32 bs.length).toNat = bs.length := by rw [BitVec.toNat_ofNat]; exact Nat.mod_eq_of_lt (by omega)
  unfold unf
  rw [framed_length, if_neg (by omega), framed_take, framed_mid, framed_drop, leN_le4, leN_le4, hn, if_neg (by omega), List.take_of_length_le (Nat.le_refl _), if_neg (by simp)]

/-- What unseal gives. -/
def opened (b : By) : Option By := if (unf b).2.2 = 0 ∧ (unf b).1.length = 504 then some (unf b).1 else none
theorem opened_sealed (c : By) (h : c.length ≤ 504) : opened (sealed c) = some (pad c) := by
  have hl := pad_length c h
  unfold opened
  rw [sealed, unf_framed _ (by omega)]
  simp [hl]
def zeroB : By := List.replicate 512 0#8
theorem zeroB_length : zeroB.length = 512 := by rw [zeroB, List.length_replicate]
theorem opened_zero : opened zeroB = none := by
  unfold opened
  have h4 : zeroB.take 4 = [0#8, 0#8, 0#8, 0#8] := by decide
  have h8 : (zeroB.drop 4).take 4 = [0#8, 0#8, 0#8, 0#8] := by decide
  have hu : unf zeroB = ([], 8, 0) := by
    unfold unf
    rw [if_neg (by rw [zeroB_length]; omega), h4, h8]
    have : leN [0#8, 0#8, 0#8, 0#8] = 0 := by decide
    rw [this, if_neg (by omega), List.take_zero]
    rw [if_neg (by decide)]
  rw [hu]
  simp

/-- The word by which a head is known. -/
def mark : By := [108#8, 97#8, 103#8, 111#8, 111#8, 110#8, 58#8, 32#8, 97#8, 32#8, 118#8, 111#8, 108#8, 117#8, 109#8, 101#8, 32#8, 111#8, 102#8, 32#8, 98#8, 108#8, 111#8, 99#8, 107#8, 115#8]
def headC (t c n : Nat) : By := le8 t ++ (le8 c ++ (le8 n ++ mark))
theorem headC_length (t c n : Nat) : (headC t c n).length = 50 := by simp [headC, le8_length, mark]
def headB (t c n : Nat) : By := sealed (headC t c n)
theorem headB_length (t c n : Nat) : (headB t c n).length = 512 := sealed_length _ (by rw [headC_length]; omega)

/-- A commit's puts: block and data. -/
abbrev Rec := List (Nat × By)
def recBytes (ps : Rec) : By := le8 ps.length ++ (ps.map fun p => le8 p.1 ++ p.2).flatten
def pagesFor (k : Nat) : Nat := (8 + k * 520 + 495) / 496
def recP (ps : Rec) : By := recBytes ps ++ List.replicate (pagesFor ps.length * 496 - (recBytes ps).length) 0#8
/-- Page i of a record. -/
def body (ps : Rec) (i : Nat) : By := ((recP ps).drop (i * 496)).take 496
def pageB (t : Nat) (ps : Rec) (i : Nat) : By := framed (le8 t ++ body ps i)

/-- A record that a volume of nb blocks takes. -/
def okRec (nb : Nat) (ps : Rec) : Prop := 1 ≤ ps.length ∧ ps.length ≤ nb ∧ ∀ p ∈ ps, p.1 < nb ∧ p.2.length = 512

theorem flat_length (ps : Rec) (h : ∀ p ∈ ps, p.2.length = 512) : ((ps.map fun p => le8 p.1 ++ p.2).flatten).length = ps.length * 520 := by
  induction ps with
  | nil => rfl
  | cons p ps ih =>
    simp only [List.map_cons, List.flatten_cons, List.length_append, le8_length, List.length_cons]
    rw [h p (by simp), ih (fun q hq => h q (by simp [hq]))]
    omega
theorem rec_length (ps : Rec) (h : ∀ p ∈ ps, p.2.length = 512) : (recBytes ps).length = 8 + ps.length * 520 := by
  rw [recBytes, List.length_append, le8_length, flat_length ps h]
theorem pagesFor_ge (k : Nat) : 8 + k * 520 ≤ pagesFor k * 496 := by unfold pagesFor; omega
theorem pagesFor_lt (k : Nat) : pagesFor k * 496 < 8 + k * 520 + 496 := by unfold pagesFor; omega
theorem recP_length (ps : Rec) (h : ∀ p ∈ ps, p.2.length = 512) : (recP ps).length = pagesFor ps.length * 496 := by
  have h1 := rec_length ps h
  have h2 := pagesFor_ge ps.length
  simp [recP, h1]; omega
theorem body_length (ps : Rec) (h : ∀ p ∈ ps, p.2.length = 512) (i : Nat) (hi : i < pagesFor ps.length) : (body ps i).length = 496 := by
  rw [body, List.length_take, List.length_drop, recP_length ps h]
  have : (i + 1) * 496 ≤ pagesFor ps.length * 496 := Nat.mul_le_mul_right _ hi
  omega
theorem opened_pageB (t : Nat) (ps : Rec) (h : ∀ p ∈ ps, p.2.length = 512) (i : Nat) (hi : i < pagesFor ps.length) : opened (pageB t ps i) = some (le8 t ++ body ps i) := by
  have hl : (le8 t ++ body ps i).length = 504 := by rw [List.length_append, le8_length, body_length ps h i hi]
  unfold opened
  rw [pageB, unf_framed _ (by omega)]
  simp [body_length ps h i hi, le8_length]
/-- The blocks that some records hold: each as the last one has it. -/
def laidOn (st : Nat → Option By) (ps : Rec) : Nat → Option By := ps.foldl (fun st p => fun i => if i = p.1 then some p.2 else st i) st
theorem laidOn_append (st : Nat → Option By) (ps qs : Rec) : laidOn st (ps ++ qs) = laidOn (laidOn st ps) qs := List.foldl_append ..

end Go.Proofs.YtebdgcoandfocaaGreatDoor
