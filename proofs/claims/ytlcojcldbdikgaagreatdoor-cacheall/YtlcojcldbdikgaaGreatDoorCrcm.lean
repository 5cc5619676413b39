/-
  CRC-32, bit by bit, over 32 bits: what a table gives, and that one changed byte changes the sum. (No program is spoken of.)
-/
namespace Go.Proofs.YtlcojcldbdikgaaGreatDoor

def crcBit (c : BitVec 32) : BitVec 32 := if c.getLsbD 0 then (c >>> 1) ^^^ 0xedb88320#32 else c >>> 1

def crcBits : Nat → BitVec 32 → BitVec 32
  | 0, c => c
  | n + 1, c => crcBits n (crcBit c)

def crcByte (c b : BitVec 32) : BitVec 32 := crcBits 8 (c ^^^ b)

def crcRun (c : BitVec 32) (bs : List (BitVec 32)) : BitVec 32 := bs.foldl crcByte c

theorem crcBits_succ' (n : Nat) (c : BitVec 32) : crcBits (n + 1) c = crcBit (crcBits n c) := by
  induction n generalizing c with
  | zero => rfl
  | succ n ih => rw [crcBits, ih]; rfl

theorem crcBit_top (c : BitVec 32) : (crcBit c).getLsbD 31 = c.getLsbD 0 := by
  unfold crcBit
  by_cases h : c.getLsbD 0
  · rw [if_pos h, h, BitVec.getLsbD_xor, BitVec.getLsbD_ushiftRight, BitVec.getLsbD_of_ge c (1 + 31) (by omega)]
    decide
  · rw [if_neg h, BitVec.getLsbD_ushiftRight, BitVec.getLsbD_of_ge c (1 + 31) (by omega)]
    simpa using h

theorem shr_inj {c d : BitVec 32} (h0 : c.getLsbD 0 = d.getLsbD 0) (h : c >>> 1 = d >>> 1) : c = d := by
  apply BitVec.eq_of_getLsbD_eq
  intro i hi
  cases i with
  | zero => exact h0
  | succ i =>
    have := congrArg (fun x => x.getLsbD i) h
    simp only [BitVec.getLsbD_ushiftRight] at this
    rw [Nat.add_comm]
    exact this

theorem xor_right_inj {a b k : BitVec 32} (h : a ^^^ k = b ^^^ k) : a = b := by
  have := congrArg (· ^^^ k) h
  simpa [BitVec.xor_assoc] using this

theorem xor_left_inj {a b k : BitVec 32} (h : k ^^^ a = k ^^^ b) : a = b :=
  xor_right_inj (k := k) (by rw [BitVec.xor_comm a, BitVec.xor_comm b, h])

theorem crcBit_inj {c d : BitVec 32} (h : crcBit c = crcBit d) : c = d := by
  have h0 : c.getLsbD 0 = d.getLsbD 0 := by rw [← crcBit_top, ← crcBit_top, h]
  refine shr_inj h0 ?_
  unfold crcBit at h
  rw [← h0] at h
  by_cases hc : c.getLsbD 0
  · rw [if_pos hc, if_pos hc] at h; exact xor_right_inj h
  · rw [if_neg hc, if_neg hc] at h; exact h

theorem crcBits_inj (n : Nat) {c d : BitVec 32} (h : crcBits n c = crcBits n d) : c = d := by
  induction n generalizing c d with
  | zero => exact h
  | succ n ih => exact crcBit_inj (ih h)

theorem crcByte_inj {c d b : BitVec 32} (h : crcByte c b = crcByte d b) : c = d := xor_right_inj (crcBits_inj 8 h)
theorem crcByte_byte {c a b : BitVec 32} (h : crcByte c a = crcByte c b) : a = b := xor_left_inj (crcBits_inj 8 h)

theorem crcRun_inj {c d : BitVec 32} (bs : List (BitVec 32)) (h : crcRun c bs = crcRun d bs) : c = d := by
  induction bs generalizing c d with
  | nil => exact h
  | cons b bs ih => exact crcByte_inj (ih h)

/-- One changed byte changes the sum. -/
theorem crcRun_set (c : BitVec 32) (bs : List (BitVec 32)) (k : Nat) (x y : BitVec 32) (hx : bs[k]? = some x) (hxy : x ≠ y) : crcRun c (bs.set k y) ≠ crcRun c bs := by
  induction bs generalizing c k with
  | nil => simp at hx
  | cons b bs ih =>
    cases k with
    | zero =>
      simp only [List.getElem?_cons_zero, Option.some.injEq] at hx
      subst hx
      intro h
      exact hxy (crcByte_byte (crcRun_inj bs h)).symm
    | succ k => exact ih (crcByte c b) k (by simpa using hx)

theorem crcRun_append (c : BitVec 32) (as bs : List (BitVec 32)) : crcRun c (as ++ bs) = crcRun (crcRun c as) bs := List.foldl_append ..

/-- Linear. -/
theorem crcBit_xor (a b : BitVec 32) : crcBit (a ^^^ b) = crcBit a ^^^ crcBit b := by
  unfold crcBit
  rw [BitVec.getLsbD_xor, BitVec.ushiftRight_xor_distrib]
  cases a.getLsbD 0 <;> cases b.getLsbD 0 <;> simp only [Bool.xor_false, Bool.xor_true, Bool.not_true, if_true, Bool.false_eq_true, if_false, Bool.not_false]
  · rw [BitVec.xor_assoc]
  · rw [BitVec.xor_assoc, BitVec.xor_comm (b >>> 1), BitVec.xor_assoc]
  · rw [BitVec.xor_assoc, ← BitVec.xor_assoc (0xedb88320#32), BitVec.xor_comm (0xedb88320#32), BitVec.xor_assoc (b >>> 1), BitVec.xor_self, BitVec.xor_zero]

theorem crcBits_xor (n : Nat) (a b : BitVec 32) : crcBits n (a ^^^ b) = crcBits n a ^^^ crcBits n b := by
  induction n generalizing a b with
  | zero => rfl
  | succ n ih => rw [crcBits, crcBit_xor, ih]; rfl

theorem crcBits_high (n : Nat) (c : BitVec 32) (h : ∀ i, i < n → c.getLsbD i = false) : crcBits n c = c >>> n := by
  induction n generalizing c with
  | zero => simp [crcBits]
  | succ n ih =>
    have h0 : crcBit c = c >>> 1 := by unfold crcBit; rw [h 0 (by omega)]; rfl
    rw [crcBits, h0, ih, ← BitVec.shiftRight_add, Nat.add_comm]
    intro i hi
    rw [BitVec.getLsbD_ushiftRight]
    exact h _ (by omega)

theorem parts4 (x : BitVec 32) : x = (x &&& 15#32) ^^^ ((x >>> 4) <<< 4) := by
  apply BitVec.eq_of_getLsbD_eq
  intro i hi
  rw [BitVec.getLsbD_xor, BitVec.getLsbD_and, BitVec.getLsbD_shiftLeft, BitVec.getLsbD_ushiftRight]
  have hff : (15#32 : BitVec 32).getLsbD i = decide (i < 4) := by
    have : ∀ i : Fin 32, (15#32 : BitVec 32).getLsbD i.1 = decide (i.1 < 4) := by decide
    exact this ⟨i, hi⟩
  rw [hff]
  by_cases h : i < 4
  · simp [h]
  · have : 4 + (i - 4) = i := by omega
    simp [h, hi, this]

/-- What four bits at once give. -/
theorem crcBits4 (x : BitVec 32) : crcBits 4 x = (x >>> 4) ^^^ crcBits 4 (x &&& 15#32) := by
  conv => lhs; rw [parts4 x, crcBits_xor]
  rw [BitVec.xor_comm]
  congr 1
  rw [crcBits_high 4 _ (fun i hi => by rw [BitVec.getLsbD_shiftLeft]; simp [hi])]
  apply BitVec.eq_of_getLsbD_eq
  intro i hi
  rw [BitVec.getLsbD_ushiftRight, BitVec.getLsbD_shiftLeft]
  rw [show 4 + i - 4 = i by omega]
  by_cases h : 4 + i < 32
  · simp [h]
  · have : (x >>> 4).getLsbD i = false := by rw [BitVec.getLsbD_ushiftRight]; exact BitVec.getLsbD_of_ge x (4 + i) (by omega)
    simp [h, this]

theorem crcBits_add (m n : Nat) (c : BitVec 32) : crcBits (m + n) c = crcBits n (crcBits m c) := by
  induction m generalizing c with
  | zero => rw [Nat.zero_add]; rfl
  | succ m ih => rw [Nat.succ_add]; exact ih (crcBit c)

/-- The row of sixteen words. -/
def crcSteps : List Nat := [0, 498536548, 997073096, 651767980, 1994146192, 1802195444, 1303535960, 1342533948, 3988292384, 4027552580, 3604390888, 3412177804, 2607071920, 2262029012, 2685067896, 3183342108]

theorem crcSteps_row : ∀ k : Fin 16, crcSteps[k.1]? = some (crcBits 4 (BitVec.ofNat 32 k.1)).toNat := by decide

theorem crcSteps_at (x : BitVec 32) : (x &&& 15#32).toNat < 16 ∧ crcSteps[(x &&& 15#32).toNat]? = some (crcBits 4 (x &&& 15#32)).toNat := by
  have h : (x &&& 15#32).toNat < 16 := by
    rw [BitVec.toNat_and]
    exact Nat.lt_of_le_of_lt Nat.and_le_right (by decide)
  refine ⟨h, ?_⟩
  have := crcSteps_row ⟨(x &&& 15#32).toNat, h⟩
  rw [this]
  congr 1
  simp

end Go.Proofs.YtlcojcldbdikgaaGreatDoor
