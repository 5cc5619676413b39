/-
  CRC-32, bit by bit, over 32 bits: what a table gives, and that one changed byte changes the sum. (No program is spoken of.)
-/


namespace Go.Proofs.YtebdgcoandfocaaGreatDoor

def crcBit (c : BitVec 32) : BitVec 32 := if c.getLsbD 0 then (c >>> 1) ^^^ 0xedb88320#32 else c >>> 1

def crcBits : Nat → BitVec 32 → BitVec 32
  | 0, c => c
  | n + 1, c => crcBits n (crcBit c)

def crcByte (c b : BitVec 32) : BitVec 32 := crcBits 8 (c ^^^ b)

def crcRun (c : BitVec 32) (bs : List (BitVec 32)) : BitVec 32 := bs.foldl crcByte c

theorem crcRun_append (c : BitVec 32) (as0 bs : List (BitVec 32)) : crcRun c (as0 ++ bs) = crcRun (crcRun c as0) bs := List.foldl_append ..

/-- Linear. -/
theorem crcBit_xor (a b : BitVec 32) : crcBit (a ^^^ b) = crcBit a ^^^ crcBit b := by
  unfold crcBit
  rw [BitVec.getLsbD_xor, BitVec.ushiftRight_xor_distrib]
  cases a.getLsbD 0 <;> cases b.getLsbD 0 <;> simp only [Bool.xor_false, Bool.xor_true, Bool.not_true, if_true, Bool.false_eq_true, if_false, Bool.not_false]
  · rw [BitVec.xor_assoc]
  · rw [BitVec.xor_assoc, BitVec.xor_comm (b >>> 1), BitVec.xor_assoc]
  · rw [BitVec.xor_assoc, ← BitVec.xor_assoc (0xedb88320#32), BitVec.xor_comm (0xedb88320#32), BitVec.xor_assoc (b >>> 1), BitVec.xor_self, BitVec.xor_zero]

theorem crcBits_xor (n : Nat) (a b : BitVec 32) : crcBits n (a ^^^ b) = crcBits n a ^^^ crcBits n b := by
  induction n generalizing a b with
  | zero => rfl
  | succ n ih => rw [crcBits, crcBit_xor, ih]; rfl

theorem crcBits_high (n : Nat) (c : BitVec 32) (h : ∀ i, i < n → c.getLsbD i = false) : crcBits n c = c >>> n := by
  induction n generalizing c with
  | zero => simp [crcBits]
  | succ n ih =>
    have h0 : crcBit c = c >>> 1 := by unfold crcBit; rw [h 0 (by omega)]; rfl
    rw [crcBits, h0, ih, ← BitVec.shiftRight_add, Nat.add_comm]
    intro i hi
    rw [BitVec.getLsbD_ushiftRight]
    exact h _ (by omega)

theorem parts4 (x : BitVec 32) : x = (x &&& 15#32) ^^^ ((x >>> 4) <<< 4) := by
  apply BitVec.eq_of_getLsbD_eq
  intro i hi
  rw [BitVec.getLsbD_xor, BitVec.getLsbD_and, BitVec.getLsbD_shiftLeft, BitVec.getLsbD_ushiftRight]
  have hff : (15#32 : BitVec 32).getLsbD i = decide (i < 4) := by
    have : ∀ i : Fin 32, (15#32 : BitVec 32).getLsbD i.1 = decide (i.1 < 4) := by decide
    exact this ⟨i, hi⟩
  rw [hff]
  by_cases h : i < 4
  · simp [h]
  · have : 4 + (i - 4) = i := by omega
    simp [h, hi, this]

/-- What four bits at once give. -/
theorem crcBits4 (x : BitVec 32) : crcBits 4 x = (x >>> 4) ^^^ crcBits 4 (x &&& 15#32) := by
  conv => lhs; rw [parts4 x, crcBits_xor]
  rw [BitVec.xor_comm]
  congr 1
  rw [crcBits_high 4 _ (fun i hi => by rw [BitVec.getLsbD_shiftLeft]; simp [hi])]
  apply BitVec.eq_of_getLsbD_eq
  intro i hi
  rw [BitVec.getLsbD_ushiftRight, BitVec.getLsbD_shiftLeft]
  rw [show 4 + i - 4 = i by omega]
  by_cases h : 4 + i < 32
  · simp [h]
  · have : (x >>> 4).getLsbD i = false := by rw [BitVec.getLsbD_ushiftRight]; exact BitVec.getLsbD_of_ge x (4 + i) (by omega)
    simp [h, this]

theorem crcBits_add (m n : Nat) (c : BitVec 32) : crcBits (m + n) c = crcBits n (crcBits m c) := by
  induction m generalizing c with
  | zero => rw [Nat.zero_add]; rfl
  | succ m ih => rw [Nat.succ_add]; exact ih (crcBit c)

/-- The row of sixteen words. -/
def crcSteps : List Nat := [0, 498536548, 997073096, 651767980, 1994146192, 1802195444, 1303535960, 1342533948, 3988292384, 4027552580, 3604390888, 3412177804, 2607071920, 2262029012, 2685067896, 3183342108]

theorem crcSteps_row : ∀ k : Fin 16, crcSteps[k.1]? = some (crcBits 4 (BitVec.ofNat 32 k.1)).toNat := by decide

theorem crcSteps_at (x : BitVec 32) : (x &&& 15#32).toNat < 16 ∧ crcSteps[(x &&& 15#32).toNat]? = some (crcBits 4 (x &&& 15#32)).toNat := by
  have h : (x &&& 15#32).toNat < 16 := by
    rw [BitVec.toNat_and]
    exact Nat.lt_of_le_of_lt Nat.and_le_right (by decide)
  refine ⟨h, ?_⟩
  have := crcSteps_row ⟨(x &&& 15#32).toNat, h⟩
  rw [this]
  congr 1
  simp

end Go.Proofs.YtebdgcoandfocaaGreatDoor
