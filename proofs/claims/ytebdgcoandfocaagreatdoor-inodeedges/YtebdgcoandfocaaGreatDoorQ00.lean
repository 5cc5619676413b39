/-
  What the proof leans on, part 1.
-/
import Derived.Test.YtebdgcoandfocaaGreatDoorProg
import Derived.WalkKit
import Derived.WalkSpells
import Derived.WalkLawsBesides
import Derived.Maps.OwnSet
import Derived.Laws.CopyOwn
import Derived.Laws.BitsAllLaws
import Derived.Deep.LoopGhost
import Derived.Deep.QuietTactic
import Derived.BigQuiet
import Derived.RegionTactic
import Derived.Test.YtebdgcoandfocaaGreatDoorCards
import Derived.Test.YtebdgcoandfocaaGreatDoorTie
import Derived.ProofKit
import Derived.OpenShut
import Derived.Deep.DeepHandedRow
import Derived.Lib.LaidTab
import Derived.LaidMore
import Derived.ChangeOld
import Derived.Deep.Slices
import Derived.Deep.Matrix
import Derived.OrdersIn
import Derived.CallsIn
import Derived.ControlIn
import Derived.TacticsInMore
import Derived.OwnWalkIn
import Derived.RangeFuncCalls

/-
  CRC-32, bit by bit, over 32 bits: what a table gives, and that one changed byte changes the sum. (No program is spoken of.)
-/
namespace Go.Proofs.YtebdgcoandfocaaGreatDoor

def crcBit (c : BitVec 32) : BitVec 32 := if c.getLsbD 0 then (c >>> 1) ^^^ 0xedb88320#32 else c >>> 1

def crcBits : Nat → BitVec 32 → BitVec 32
  | 0, c => c
  | n + 1, c => crcBits n (crcBit c)

def crcByte (c b : BitVec 32) : BitVec 32 := crcBits 8 (c ^^^ b)

def crcRun (c : BitVec 32) (bs : List (BitVec 32)) : BitVec 32 := bs.foldl crcByte c

theorem crcRun_append (c : BitVec 32) (as bs : List (BitVec 32)) : crcRun c (as ++ bs) = crcRun (crcRun c as) bs := List.foldl_append ..

/-- Linear. -/
theorem crcBit_xor (a b : BitVec 32) : crcBit (a ^^^ b) = crcBit a ^^^ crcBit b := by
  unfold crcBit
  rw [BitVec.getLsbD_xor, BitVec.ushiftRight_xor_distrib]
  cases a.getLsbD 0 <;> cases b.getLsbD 0 <;> simp only [Bool.xor_false, Bool.xor_true, Bool.not_true, if_true, Bool.false_eq_true, if_false, Bool.not_false]
  · rw [BitVec.xor_assoc]
  · rw [BitVec.xor_assoc, BitVec.xor_comm (b >>> 1), BitVec.xor_assoc]
  · rw [BitVec.xor_assoc, ← BitVec.xor_assoc (0xedb88320#32), BitVec.xor_comm (0xedb88320#32), BitVec.xor_assoc (b >>> 1), BitVec.xor_self, BitVec.xor_zero]

theorem crcBits_xor (n : Nat) (a b : BitVec 32) : crcBits n (a ^^^ b) = crcBits n a ^^^ crcBits n b := by
  induction n generalizing a b with
  | zero => rfl
  | succ n ih => rw [crcBits, crcBit_xor, ih]; rfl

theorem crcBits_high (n : Nat) (c : BitVec 32) (h : ∀ i, i < n → c.getLsbD i = false) : crcBits n c = c >>> n := by
  induction n generalizing c with
  | zero => simp [crcBits]
  | succ n ih =>
    have h0 : crcBit c = c >>> 1 := by unfold crcBit; rw [h 0 (by omega)]; rfl
    rw [crcBits, h0, ih, ← BitVec.shiftRight_add, Nat.add_comm]
    intro i hi
    rw [BitVec.getLsbD_ushiftRight]
    exact h _ (by omega)

theorem parts4 (x : BitVec 32) : x = (x &&& 15#32) ^^^ ((x >>> 4) <<< 4) := by
  apply BitVec.eq_of_getLsbD_eq
  intro i hi
  rw [BitVec.getLsbD_xor, BitVec.getLsbD_and, BitVec.getLsbD_shiftLeft, BitVec.getLsbD_ushiftRight]
  have hff : (15#32 : BitVec 32).getLsbD i = decide (i < 4) := by
    have : ∀ i : Fin 32, (15#32 : BitVec 32).getLsbD i.1 = decide (i.1 < 4) := by decide
    exact this ⟨i, hi⟩
  rw [hff]
  by_cases h : i < 4
  · simp [h]
  · have : 4 + (i - 4) = i := by omega
    simp [h, hi, this]

/-- What four bits at once give. -/
theorem crcBits4 (x : BitVec 32) : crcBits 4 x = (x >>> 4) ^^^ crcBits 4 (x &&& 15#32) := by
  conv => lhs; rw [parts4 x, crcBits_xor]
  rw [BitVec.xor_comm]
  congr 1
  rw [crcBits_high 4 _ (fun i hi => by rw [BitVec.getLsbD_shiftLeft]; simp [hi])]
  apply BitVec.eq_of_getLsbD_eq
  intro i hi
  rw [BitVec.getLsbD_ushiftRight, BitVec.getLsbD_shiftLeft]
  rw [show 4 + i - 4 = i by omega]
  by_cases h : 4 + i < 32
  · simp [h]
  · have : (x >>> 4).getLsbD i = false := by rw [BitVec.getLsbD_ushiftRight]; exact BitVec.getLsbD_of_ge x (4 + i) (by omega)
    simp [h, this]

theorem crcBits_add (m n : Nat) (c : BitVec 32) : crcBits (m + n) c = crcBits n (crcBits m c) := by
  induction m generalizing c with
  | zero => rw [Nat.zero_add]; rfl
  | succ m ih => rw [Nat.succ_add]; exact ih (crcBit c)

/-- The row of sixteen words. -/
def crcSteps : List Nat := [0, 498536548, 997073096, 651767980, 1994146192, 1802195444, 1303535960, 1342533948, 3988292384, 4027552580, 3604390888, 3412177804, 2607071920, 2262029012, 2685067896, 3183342108]

theorem crcSteps_row : ∀ k : Fin 16, crcSteps[k.1]? = some (crcBits 4 (BitVec.ofNat 32 k.1)).toNat := by decide

theorem crcSteps_at (x : BitVec 32) : (x &&& 15#32).toNat < 16 ∧ crcSteps[(x &&& 15#32).toNat]? = some (crcBits 4 (x &&& 15#32)).toNat := by
  have h : (x &&& 15#32).toNat < 16 := by
    rw [BitVec.toNat_and]
    exact Nat.lt_of_le_of_lt Nat.and_le_right (by decide)
  refine ⟨h, ?_⟩
  have := crcSteps_row ⟨(x &&& 15#32).toNat, h⟩
  rw [this]
  congr 1
  simp

end Go.Proofs.YtebdgcoandfocaaGreatDoor

/-
  The small functions of package crc: what each call answers and does to memory.
-/
namespace Go.Proofs.YtebdgcoandfocaaGreatDoor
open Go.RowKit

theorem cellOf {w : World} {b : Nat} {cs : Array Value} {t : TypeId} {f : Nat × Nat} (h : w.heap[b]? = some (.cells cs t f)) (j : Nat) :
    w.cell? ⟨b, j, none⟩ = cs[j]? := by
  simp [World.cell?, h]
theorem frozenOf {w : World} {b : Nat} {cs : Array Value} {t : TypeId} (h : w.heap[b]? = some (.cells cs t (0, 0))) (j : Nat) :
    w.frozen? ⟨b, j, none⟩ = false := by
  simp [World.frozen?, h]

/-- A callee that leaves the world as it was, met at its call. -/
theorem Calls_on {P : Program} {f : Nat} {args : Array Value} {w : World} {v : Ending} {K : Ending → World → Prop}
    (h : Calls P f args w fun e w' => e = v ∧ w' = w) (hk : K v w) : Calls P f args w K :=
  h.mono (by rintro e w' ⟨rfl, rfl⟩; exact hk)

/-- A number of 32 bits, a byte. -/
abbrev u32v (c : BitVec 32) : Value := .int .u32 (c.toNat : Int)
def u8v (b : BitVec 8) : Value := .int .u8 (b.toNat : Int)
/-- A byte as 32 bits. -/
def wide (b : BitVec 8) : BitVec 32 := b.setWidth 32
theorem wide_toNat (b : BitVec 8) : (wide b).toNat = b.toNat := by
  unfold wide
  rw [BitVec.toNat_setWidth]
  exact Nat.mod_eq_of_lt (Nat.lt_trans b.isLt (by decide))
theorem xor32 (a b : BitVec 32) : bits .xor .u32 (a.toNat : Int) (b.toNat : Int) = ((a ^^^ b).toNat : Int) := by
  rw [u32_xor_nat _ _ a.isLt b.isLt, BitVec.toNat_xor]

/-- The table of the package lies in block 0. -/
def Tab (w : World) : Prop := ∀ (k z : Nat), crcSteps[k]? = some z → w.cell? ⟨0, k, none⟩ = some (.int .u32 (z : Int))

/-- The bytes bs lie from p on. -/
def Bytes (w : World) (p : Option Addr) (bs : List (BitVec 8)) : Prop :=
  0 < bs.length → ∃ b o, p = some ⟨b, o, none⟩ ∧ ∀ j x, bs[j]? = some x → w.cell? ⟨b, o + j, none⟩ = some (u8v x)

def crcOf (c : BitVec 32) (bs : List (BitVec 8)) : BitVec 32 := crcRun c (bs.map wide)

set_option maxRecDepth 8000 in
set_option maxHeartbeats 400000 in
theorem new_any (w : World) :
    Calls Tryz.prog 129 #[] w fun e w' => e = .returned (.pointer (some ⟨w.heap.size, 0, none⟩)) ∧ w' = w.alloc (.cells #[.int .u32 0] 204) := by
  go_enter Tryz.func129, Tryz.ntmps129
  go_wp2
  go_ret
  exact ⟨rfl, rfl⟩

set_option maxRecDepth 8000 in
set_option maxHeartbeats 400000 in
theorem value_any (a : Nat) (c : BitVec 32) (w : World) (h : w.cell? ⟨a, 0, none⟩ = some (u32v c)) :
    Calls Tryz.prog 132 #[.pointer (some ⟨a, 0, none⟩)] w fun e w' => e = .returned (u32v c) ∧ w' = w := by
  go_enter Tryz.func132, Tryz.ntmps132
  go_wp2
  go_ret
  exact ⟨rfl, rfl⟩

/-- What one step by four bits needs and gives. -/
theorem four_bits {w : World} (ht : Tab w) (r : BitVec 32) : ∃ (k z q : Nat) (r' : BitVec 32), bits .and .u32 (r.toNat : Int) 15 = (k : Int) ∧ k < 16 ∧ w.cell? ⟨0, k, none⟩ = some (.int .u32 (z : Int)) ∧
    (r.toNat : Int) / 16 = (q : Int) ∧ bits .xor .u32 (q : Int) (z : Int) = (r'.toNat : Int) ∧ Hid (r' = crcBits 4 r) := by
  obtain ⟨h1, h2⟩ := crcSteps_at r
  refine ⟨_, _, (r >>> 4).toNat, _, ?_, h1, ht _ _ h2, ?_, xor32 _ _, (crcBits4 r).symm⟩
  · have := u32_and_nat r.toNat 15 r.isLt (by decide)
    rw [BitVec.toNat_and]
    exact this
  · rw [BitVec.toNat_ushiftRight, Nat.shiftRight_eq_div_pow]
    rfl

set_option maxRecDepth 8000 in
set_option maxHeartbeats 400000 in
theorem add_any (a : Nat) (c : BitVec 32) (p : Option Addr) (bs : List (BitVec 8)) (cp : Nat) (w : World) (ht : Tab w) (h : w.heap[a]? = some (.cells #[u32v c] 204 (0, 0)))
    (hl : bs.length < 9223372036854775808) (hb : Bytes w p bs) :
    Calls Tryz.prog 131 #[.pointer (some ⟨a, 0, none⟩), .slice p bs.length cp] w fun e w' => e = .returned (.tuple #[]) ∧ w' = w.setCell ⟨a, 0, none⟩ (u32v (~~~ (crcOf (~~~ c) bs))) := by
  have h0 := cellOf h 0
  have f0 := frozenOf h 0
  simp at h0
  clear h
  obtain ⟨d, n0, HD⟩ : ∃ d : BitVec 32, bits .xor .u32 IntKind.u32.max (c.toNat : Int) = (d.toNat : Int) ∧ Hid (d = ~~~ c) := ⟨~~~ c, (by
    have := xor32 (BitVec.allOnes 32) c
    rw [BitVec.allOnes_xor] at this
    exact this), rfl⟩
  rw [← HD.out]
  go_enter Tryz.func131, Tryz.ntmps131
  go_wp2_with fail
  go_loop [4, 16] (fun rr ii => ∃ i : Nat, i ≤ bs.length ∧ ii = .int .i64 i ∧ ∃ r : BitVec 32, rr = u32v r ∧ Hid (r = crcOf d (bs.take i))) (fun _ ii => bs.length - (intOf ii).toNat)
  case atStart => exact ⟨0, Nat.zero_le _, rfl, _, rfl, rfl⟩
  case round =>
    obtain ⟨i, hi, rfl, r, rfl, HR⟩ := hrel
    by_cases hlt : i < bs.length
    · obtain ⟨b, o, rfl, hbs⟩ := hb (by omega)
      obtain ⟨x, hx⟩ : ∃ x, bs[i]? = some x := ⟨_, List.getElem?_eq_getElem hlt⟩
      have c1 := hbs i x hx
      have hltI : (i : Int) < bs.length := by omega
      have HX : Hid (bs[i]? = some x) := hx
      clear hx hbs hb
      unfold u8v at c1
      obtain ⟨r1, e1, H1⟩ : ∃ r1 : BitVec 32, bits .xor .u32 (r.toNat : Int) (x.toNat : Int) = (r1.toNat : Int) ∧ Hid (r1 = r ^^^ wide x) := ⟨_, (by rw [← wide_toNat x]; exact xor32 _ _), rfl⟩
      obtain ⟨k1, z1, q1, r2, a1, a2, a3, a4, a5, H2⟩ := four_bits ht r1
      obtain ⟨k2, z2, q2, r3, a6, a7, a8, a9, a10, H3⟩ := four_bits ht r2
      clear ht
      go_wp2
      go_round
      case rel =>
        refine ⟨i + 1, by omega, by go_num, r3, rfl, ?_⟩
        show _ = _
        rw [List.take_add_one, HX.out]
        unfold crcOf
        rw [List.map_append, crcRun_append, H3.out, H2.out, H1.out, ← crcBits_add 4 4]
        have := HR.out
        unfold crcOf at this
        rw [← this]
        rfl
      case measure => simp [intOf]; omega
    · obtain rfl : i = bs.length := by omega
      obtain ⟨d', n1, HD'⟩ : ∃ d' : BitVec 32, bits .xor .u32 IntKind.u32.max (r.toNat : Int) = (d'.toNat : Int) ∧ Hid (d' = ~~~ r) := ⟨~~~ r, (by
        have := xor32 (BitVec.allOnes 32) r
        rw [BitVec.allOnes_xor] at this
        exact this), rfl⟩
      clear ht hb
      go_wp2
      go_end0
      refine ⟨rfl, ?_⟩
      have := HR.out
      rw [List.take_length] at this
      rw [HD'.out, ← this]

end Go.Proofs.YtebdgcoandfocaaGreatDoor

/-
  What every proof of this seat begins with: the table that the package lays.
-/
namespace Go.Proofs.YtebdgcoandfocaaGreatDoor
open Go.ChangeShapes Go.WideShapes Go.ChangeAt Go.RowKit

theorem own : ownKnob Tryz.prog.godebug = none := by kernel_rfl
theorem gTab : Tryz.prog.globalNamed "lagoon/crc.steps" = some 0 := by kernel_rfl
theorem gTabType : (Tryz.prog.globals[0]?).map (·.type) = some 205 := by kernel_rfl
theorem cellsTab : Tryz.prog.cellsOf 205 = 16 := by kernel_rfl
theorem cellsU32 : Tryz.prog.cellsOf 53 = 1 := by kernel_rfl

end Go.Proofs.YtebdgcoandfocaaGreatDoor

/-
  The sum of the document's own text, bit by bit, and the sum over parts of package crc.
-/
namespace Go.Proofs.YtebdgcoandfocaaGreatDoor
open Go.RowKit

/-- CRC-32 of some bytes. -/
def crcSum (bs : List (BitVec 8)) : BitVec 32 := ~~~ (crcOf (BitVec.allOnes 32) bs)

/-- One part: where it lies, its spare room, its bytes. -/
structure Part where
  at_ : Option Addr
  cap : Nat
  bytes : List (BitVec 8)

/-- The parts lie, as slices, from q on. -/
def Parts (w : World) (q : Option Addr) (ps : List Part) : Prop :=
  (0 < ps.length → ∃ b o, q = some ⟨b, o, none⟩ ∧ ∀ (j : Nat) (x : Part), ps[j]? = some x → w.cell? ⟨b, o + j, none⟩ = some (.slice x.at_ x.bytes.length x.cap)) ∧
  ∀ (j : Nat) (x : Part), ps[j]? = some x → x.bytes.length < 9223372036854775808 ∧ Bytes w x.at_ x.bytes

theorem cell_set_other {w : World} {a b k : Nat} {v u : Value} (h : w.cell? ⟨b, k, none⟩ = some v) (hne : b ≠ a) {j : Nat} : (w.setCell ⟨a, j, none⟩ u).cell? ⟨b, k, none⟩ = some v :=
  (World.cell?_of_block (w := w) (Below.heap_setCell w ⟨a, j, none⟩ u b hne)).trans h

/-- Block a is a sum's. -/
def IsSum (w : World) (a : Nat) (c : BitVec 32) : Prop := w.heap[a]? = some (.cells #[u32v c] 204 (0, 0))

theorem IsSum.set {w : World} {a : Nat} {c : BitVec 32} (h : IsSum w a c) (d : BitVec 32) : IsSum (w.setCell ⟨a, 0, none⟩ (u32v d)) a d := by
  unfold IsSum at *; simp [World.setCell, Array.getElem?_modify, h]
theorem IsSum.ne {w : World} {a : Nat} {c : BitVec 32} (h : IsSum w a c) {b k : Nat} {v : Value} (hc : w.cell? ⟨b, k, none⟩ = some v) (hv : ∀ z, v ≠ .int .u32 z) : b ≠ a := by
  rintro rfl
  rw [cellOf h k] at hc
  cases k with
  | zero => simp at hc; exact hv _ hc.symm
  | succ k => simp at hc
theorem IsSum.tab {w : World} {a : Nat} {c : BitVec 32} (h : IsSum w a c) (ht : Tab w) (v : Value) : Tab (w.setCell ⟨a, 0, none⟩ v) := by
  have h1 := ht 1 498536548 rfl
  have hne : 0 ≠ a := by
    rintro rfl
    rw [cellOf h 1] at h1
    simp at h1
  intro k z hk
  exact cell_set_other (ht k z hk) hne
theorem IsSum.bytes {w : World} {a : Nat} {c : BitVec 32} (h : IsSum w a c) {p : Option Addr} {bs : List (BitVec 8)} (hb : Bytes w p bs) (v : Value) : Bytes (w.setCell ⟨a, 0, none⟩ v) p bs := by
  intro hl
  obtain ⟨b, o, rfl, hx⟩ := hb hl
  exact ⟨b, o, rfl, fun j x hj => cell_set_other (hx j x hj) (h.ne (hx j x hj) (by intro z; unfold u8v; simp))⟩
theorem IsSum.parts {w : World} {a : Nat} {c : BitVec 32} (h : IsSum w a c) {q : Option Addr} {ps : List Part} (hb : Parts w q ps) (v : Value) : Parts (w.setCell ⟨a, 0, none⟩ v) q ps := by
  refine ⟨fun hl => ?_, fun j x hj => ⟨(hb.2 j x hj).1, h.bytes (hb.2 j x hj).2 v⟩⟩
  obtain ⟨b, o, rfl, hx⟩ := hb.1 hl
  exact ⟨b, o, rfl, fun j x hj => cell_set_other (hx j x hj) (h.ne (hx j x hj) (by intro z; simp))⟩

theorem crcOf_append (c : BitVec 32) (xs bs : List (BitVec 8)) : crcOf c (xs ++ bs) = crcOf (crcOf c xs) bs := by
  unfold crcOf
  rw [List.map_append, crcRun_append]

/-- All bytes of the parts. -/
def allBytes (ps : List Part) : List (BitVec 8) := (ps.map Part.bytes).flatten

theorem allBytes_step (ps : List Part) (i : Nat) (x : Part) (hx : ps[i]? = some x) : allBytes (ps.take (i + 1)) = allBytes (ps.take i) ++ x.bytes := by
  unfold allBytes
  rw [List.take_add_one, hx]
  simp

set_option maxRecDepth 8000 in
set_option maxHeartbeats 1000000 in
theorem hand_any (a : Nat) (c : BitVec 32) (q : Option Addr) (ps : List Part) (cp : Nat) (w : World) (ht : Tab w) (h : IsSum w a c)
    (hl : ps.length < 9223372036854775808) (hp : Parts w q ps) :
    Calls Tryz.prog 130 #[.func (.func 131) #[.pointer (some ⟨a, 0, none⟩)] #[], .slice q ps.length cp] w fun e w' => e = .returned (.tuple #[]) ∧ IsSum w' a (~~~ crcOf (~~~ c) (allBytes ps)) ∧ Below a w w' ∧ w'.heap.size = w.heap.size := by
  have HT : Hid (Tab w) := ht
  have HH : Hid (IsSum w a c) := h
  have HP : Hid (Parts w q ps) := hp
  clear ht h hp
  go_enter Tryz.func130, Tryz.ntmps130
  go_wp2_with fail
  go_loopw [8] (fun ii wr => ∃ i : Nat, i ≤ ps.length ∧ ii = .int .i64 i ∧ Hid (Tab wr ∧ Parts wr q ps ∧ IsSum wr a (~~~ crcOf (~~~ c) (allBytes (ps.take i))) ∧ Below a w wr ∧ wr.heap.size = w.heap.size)) (fun ii _ => ps.length - (intOf ii).toNat)
  case atStart =>
    refine ⟨0, Nat.zero_le _, rfl, HT.out, HP.out, ?_, Below.refl _ _, rfl⟩
    have := HH.out
    simpa [allBytes, crcOf, crcRun] using this
  case round =>
    obtain ⟨i, hi, rfl, HJ⟩ := hrel
    obtain ⟨ht, hp, hs, hB, hsz⟩ := HJ.out
    by_cases hlt : i < ps.length
    · obtain ⟨b, o, rfl, hbs⟩ := hp.1 (by omega)
      obtain ⟨x, hx⟩ : ∃ x, ps[i]? = some x := ⟨_, List.getElem?_eq_getElem hlt⟩
      have c1 := hbs i x hx
      have hadd := add_any a _ x.at_ x.bytes x.cap wr ht hs (hp.2 i x hx).1 (hp.2 i x hx).2
      have hltI : (i : Int) < ps.length := by omega
      have HX : Hid (ps[i]? = some x) := hx
      clear hx hbs ht hs hB hsz
      obtain ⟨xa, xc, xb⟩ := x
      have hp' : Hid (Parts wr (some ⟨b, o, none⟩) ps) := hp
      clear hp
      go_wp2_with fail
      refine hadd.mono ?_
      rintro e w' ⟨rfl, rfl⟩
      clear hadd
      go_wp2
      go_round
      case rel =>
        obtain ⟨ht, hp, hs, hB, hsz⟩ := HJ.out
        refine ⟨i + 1, by omega, by go_num, hs.tab ht _, hs.parts hp _, ?_, hB.setCell (Nat.le_refl _) _, ?_⟩
        · rw [allBytes_step _ _ _ HX.out, crcOf_append]
          exact hs.set _
        · rw [← hsz]; simp [World.setCell]
      case measure => simp [intOf]; omega
    · obtain rfl : i = ps.length := by omega
      clear ht hp hs hB hsz
      go_wp2
      go_end0
      obtain ⟨ht, hp, hs, hB, hsz⟩ := HJ.out
      rw [List.take_length] at hs
      exact ⟨rfl, hs, hB, hsz⟩


theorem below_tab {w w' : World} {B : Nat} (h : Below B w w') (h0 : 0 < B) (ht : Tab w) : Tab w' := fun k z hk => (h.cell (p := ⟨0, k, none⟩) h0).trans (ht k z hk)
theorem cell_lt {w : World} {b k : Nat} {v : Value} (h : w.cell? ⟨b, k, none⟩ = some v) : b < w.heap.size := by
  by_cases hb : b < w.heap.size
  · exact hb
  · simp [World.cell?, Array.getElem?_eq_none (Nat.not_lt.1 hb)] at h
theorem Tab.lt {w : World} (ht : Tab w) : 0 < w.heap.size := cell_lt (ht 0 0 rfl)
theorem below_bytes {w w' : World} (h : Below w.heap.size w w') {p : Option Addr} {bs : List (BitVec 8)} (hb : Bytes w p bs) : Bytes w' p bs := by
  intro hl
  obtain ⟨b, o, rfl, hx⟩ := hb hl
  exact ⟨b, o, rfl, fun j x hj => (h.cell (p := ⟨b, o + j, none⟩) (cell_lt (hx j x hj))).trans (hx j x hj)⟩
theorem below_parts {w w' : World} (h : Below w.heap.size w w') {q : Option Addr} {ps : List Part} (hb : Parts w q ps) : Parts w' q ps := by
  refine ⟨fun hl => ?_, fun j x hj => ⟨(hb.2 j x hj).1, below_bytes h (hb.2 j x hj).2⟩⟩
  obtain ⟨b, o, rfl, hx⟩ := hb.1 hl
  exact ⟨b, o, rfl, fun j x hj => (h.cell (p := ⟨b, o + j, none⟩) (cell_lt (hx j x hj))).trans (hx j x hj)⟩

theorem new_sum (w : World) : IsSum (w.alloc (.cells #[.int .u32 0] 204)) w.heap.size 0#32 := by
  exact heap_alloc_new w _

set_option maxRecDepth 8000 in
set_option maxHeartbeats 1000000 in
theorem of_any (q : Option Addr) (ps : List Part) (cp : Nat) (w : World) (ht : Tab w) (hl : ps.length < 9223372036854775808) (hp : Parts w q ps) :
    Calls Tryz.prog 113 #[.slice q ps.length cp] w fun e w' => e = .returned (u32v (crcSum (allBytes ps))) ∧ Below w.heap.size w w' := by
  obtain ⟨w1, hw1⟩ : ∃ w1, w1 = w.alloc (.cells #[.int .u32 0] 204) := ⟨_, rfl⟩
  have hB1 : Below w.heap.size w w1 := by rw [hw1]; exact (Below.refl _ _).alloc (Nat.le_refl _) _
  have hs1 : IsSum w1 w.heap.size 0#32 := by rw [hw1]; exact new_sum w
  have hh := hand_any w.heap.size 0#32 q ps cp w1 (below_tab hB1 ht.lt ht) hs1 hl (below_parts hB1 hp)
  have hn := new_any w
  rw [← hw1] at hn
  have HB : Hid (Below w.heap.size w w1) := hB1
  clear ht hp hB1 hs1 hw1
  go_enter Tryz.func113, Tryz.ntmps113
  go_wp2_with fail
  refine hn.mono ?_
  rintro e w' ⟨rfl, rfl⟩
  go_wp2_with fail
  refine hh.mono ?_
  rintro e w2 ⟨rfl, hs2, hB2, _⟩
  clear hh hn
  have hv := value_any w.heap.size _ w2 (cellOf hs2 0)
  go_wp2_with fail
  refine Calls_on hv ?_
  clear hv
  go_wp2
  go_ret
  exact ⟨rfl, HB.out.trans hB2⟩

end Go.Proofs.YtebdgcoandfocaaGreatDoor

/-
  Regions that draw their order: one case an operation (what Rfix, Rfixw, Rlay and Rund say, in a seat of its own).
-/
namespace Go.Proofs.YtebdgcoandfocaaGreatDoor
open Go.RowKit

/-- How many operations are still to come. -/
def toCome (m : Nat) (listed : Array Bool) : Nat := ((List.range m).filter fun i => !listed.getD i true).length

theorem toCome_set {m : Nat} {listed : Array Bool} {i : Nat} (hi : i < m) (hs : listed.size = m) (h : listed.getD i true = false) : toCome m (listed.setIfInBounds i true) + 1 = toCome m listed := by
  unfold toCome
  have key : ∀ l : List Nat, l.Nodup → i ∈ l → (l.filter fun j => !(listed.setIfInBounds i true).getD j true).length + 1 = (l.filter fun j => !listed.getD j true).length := by
    intro l
    induction l with
    | nil => intro _ h; cases h
    | cons x l ih =>
      intro hn hm
      rw [List.nodup_cons] at hn
      by_cases hx : x = i
      · subst hx
        have e1 : (listed.setIfInBounds x true).getD x true = true := by simp [hs, hi]
        have e2 : (l.filter fun j => !(listed.setIfInBounds x true).getD j true) = l.filter fun j => !listed.getD j true := by
          apply List.filter_congr
          intro j hj
          rw [getD_set_ne true (fun e => hn.1 (by rw [e]; exact hj))]
        rw [List.filter_cons, e1, List.filter_cons, h, e2]
        simp
      · have hm' : i ∈ l := by
          rcases List.mem_cons.1 hm with e | e
          · exact absurd e.symm hx
          · exact e
        rw [List.filter_cons, List.filter_cons, getD_set_ne true (fun e => hx e.symm)]
        cases listed.getD x true
        · simp only [Bool.not_false, if_true, List.length_cons]
          have := ih hn.2 hm'
          omega
        · simp only [Bool.not_true, Bool.false_eq_true, if_false]
          exact ih hn.2 hm'
  exact key _ List.nodup_range (List.mem_range.2 hi)

theorem toCome_zero {m : Nat} {listed : Array Bool} (hs : listed.size = m) (h : toCome m listed = 0) (i : Nat) (hi : i < m) : listed.getD i false = true := by
  unfold toCome at h
  have h' := List.eq_nil_of_length_eq_zero h
  rw [List.filter_eq_nil_iff] at h'
  have := h' i (List.mem_range.2 hi)
  have e : listed.getD i true = true := by simpa using this
  have hlt : i < listed.size := by omega
  simp [hlt] at e ⊢
  exact e

theorem region_fixed {F : Fence} {n : Nat} {P : Program} {id : Nat} {ops : Array Oper} {Q : Exit → Act → World → Prop} {a0 : Act} {w0 : World} (hm : P.follows .mixedOrders = true)
    (hdep : ∀ (i : Nat) (o : Oper), ops[i]? = some o → ∀ e ∈ o.after, e.on < i) (Adm : Array Bool → Act → World → Prop)
    (h0 : Adm (Array.replicate ops.size false) a0 w0.drew)
    (hstep : ∀ listed a w (i : Nat) (o : Oper), listed.size = ops.size → Adm listed a w → ops[i]? = some o → listed.getD i true = false → (∀ e ∈ o.after, Region.binds .any e = true → listed.getD e.on false = true) →
      wpOpIn F n P ops Q i (fun a' w' => Adm (listed.setIfInBounds i true) a' w') a w)
    (hend : ∀ listed a w, listed.size = ops.size → Adm listed a w → (∀ i, i < ops.size → listed.getD i false = true) → Q .normal a w) :
    (Code.region id ops true).wpIn F n P Q a0 w0 := by
  refine wpIn_region_any hm ?_
  have noReady : ∀ listed : Array Bool, listed.size = ops.size → Region.ready .any ops listed = [] → ∀ i, i < ops.size → listed.getD i false = true := by
    intro listed hs hr i
    induction i using Nat.strongRecOn with
    | ind i ih =>
      intro hi
      cases hx : listed.getD i false
      · exfalso
        have hlt : i < listed.size := by omega
        have hx' : listed.getD i true = false := by simp [hlt] at hx ⊢; exact hx
        obtain ⟨o, ho⟩ : ∃ o, ops[i]? = some o := ⟨_, Array.getElem?_eq_getElem hi⟩
        have : i ∈ Region.ready .any ops listed := mem_ready.2 ⟨hx', o, ho, fun e he _ => by
          have := hdep i o ho e he
          exact ih e.on this (by omega)⟩
        rw [hr] at this
        cases this
      · rfl
  have main : ∀ (fuel : Nat) (listed : Array Bool) (a : Act) (w : World), listed.size = ops.size → toCome ops.size listed = fuel → Adm listed a w → wpAnyIn F n P .any ops Q fuel listed a w := by
    intro fuel
    induction fuel with
    | zero =>
      intro listed a w hs ht hA
      have hall := toCome_zero hs ht
      refine ⟨?_, hend listed a w hs hA hall⟩
      rw [List.eq_nil_iff_forall_not_mem]
      intro i hi
      obtain ⟨h1, o, ho, _⟩ := mem_ready.1 hi
      have hlt := (Array.getElem?_eq_some_iff.1 ho).1
      have h2 := hall i hlt
      have hlt' : i < listed.size := by omega
      simp [hlt'] at h1 h2
      rw [h1] at h2
      cases h2
    | succ fuel ih =>
      intro listed a w hs ht hA
      refine ⟨fun hr => hend listed a w hs hA (noReady listed hs hr), fun i hi => ?_⟩
      obtain ⟨h1, o, ho, hd⟩ := mem_ready.1 hi
      have hlt := (Array.getElem?_eq_some_iff.1 ho).1
      have h2 := toCome_set hlt hs h1
      exact wpOpIn_mono (fun a' w' h => ih _ a' w' (by simpa using hs) (by omega) h) (hstep listed a w i o hs hA ho h1 hd)
  refine main _ _ _ _ (by simp) ?_ h0
  unfold toCome
  rw [List.filter_eq_self.2]
  · simp
  · intro i hi
    have := List.mem_range.1 hi
    simp [this]

/-- Each operation stands behind those that it waits for. -/
def inRow (ops : Array Oper) : Bool := (List.range ops.size).all fun i => match ops[i]? with | some o => o.after.toList.all fun e => decide (e.on < i) | none => true
theorem inRow_spec {ops : Array Oper} (h : inRow ops = true) : ∀ (i : Nat) (o : Oper), ops[i]? = some o → ∀ e ∈ o.after, e.on < i := by
  intro i o ho e he
  have hlt := (Array.getElem?_eq_some_iff.1 ho).1
  have := (List.all_eq_true.1 h) i (List.mem_range.2 hlt)
  rw [ho] at this
  have := (List.all_eq_true.1 this) e (by simpa using he)
  simpa using this

/-- The operation is done. -/
def did (b : Nat → Bool) (i : Nat) : Nat → Bool := fun j => if j = i then true else b j

/-- The same, by which operations are done. -/
theorem region_done {F : Fence} {n : Nat} {P : Program} {id : Nat} {ops : Array Oper} {Q : Exit → Act → World → Prop} {a0 : Act} {w0 : World} (hm : P.follows .mixedOrders = true)
    (hdep : inRow ops = true) (Adm : (Nat → Bool) → Act → World → Prop)
    (h0 : Adm (fun _ => false) a0 w0.drew)
    (hstep : ∀ b a w (i : Nat) (o : Oper), Adm b a w → (∀ (j : Nat) (u : Oper), ops[j]? = some u → b j = true → ∀ e ∈ u.after.toList, Region.binds .any e = true → b e.on = true) → ops[i]? = some o → b i = false →
      (∀ e ∈ o.after.toList, Region.binds .any e = true → b e.on = true) → wpOpIn F n P ops Q i (fun a' w' => Adm (did b i) a' w') a w)
    (hend : ∀ b a w, Adm b a w → (∀ i, i < ops.size → b i = true) → Q .normal a w) :
    (Code.region id ops true).wpIn F n P Q a0 w0 := by
  refine region_fixed hm (inRow_spec hdep) (fun ls a w => Adm (fun j => ls.getD j false) a w ∧ ∀ (j : Nat) (u : Oper), ops[j]? = some u → ls.getD j false = true → ∀ e ∈ u.after.toList, Region.binds .any e = true → ls.getD e.on false = true) ?_ ?_ ?_
  · have e : (fun j => (Array.replicate ops.size false).getD j false) = fun _ => false := by
      funext j
      by_cases hj : j < ops.size <;> simp [hj]
    refine ⟨by rw [e]; exact h0, fun j u _ hj => ?_⟩
    have ej : (Array.replicate ops.size false).getD j false = false := congrFun e j
    rw [ej] at hj
    cases hj
  · rintro ls a w i o hs ⟨hA, hcl⟩ ho hl hd
    have hlt := (Array.getElem?_eq_some_iff.1 ho).1
    have hb : ls.getD i false = false := by
      have : i < ls.size := by omega
      simp [this] at hl ⊢; exact hl
    refine wpOpIn_mono (fun a' w' h => ?_) (hstep _ a w i o hA hcl ho hb (fun e he => hd e (by simpa using he)))
    have e : (fun j => (ls.setIfInBounds i true).getD j false) = did (fun j => ls.getD j false) i := by
      funext j
      unfold did
      by_cases hj : j = i
      · subst hj
        have : j < ls.size := by omega
        simp [this]
      · rw [if_neg hj, getD_set_ne false (fun e => hj e.symm)]
    refine ⟨by rw [e]; exact h, fun j u hu hj x hx hbx => ?_⟩
    have ej := congrFun e j
    have ex := congrFun e x.on
    simp only [did] at ej ex
    rw [ej] at hj
    rw [ex]
    by_cases hxi : x.on = i
    · rw [if_pos hxi]
    · rw [if_neg hxi]
      by_cases hji : j = i
      · subst hji
        rw [ho] at hu
        cases hu
        exact hd x (by simpa using hx) hbx
      · rw [if_neg hji] at hj
        exact hcl j u hu hj x hx hbx
  · rintro ls a w hs ⟨hA, _⟩ hall
    exact hend _ a w hA hall

section
variable {l n : Nat} {P : Program} {ops : Array Oper} {Q : Exit → Act → World → Prop} {i : Nat} {o : Oper} {K : Act → World → Prop} {a : Act} {w w' : World}
theorem op_value {v : Value} (ho : ops[i]? = some o) (hg : o.guard = none) (hnd : ∀ c, o.op ≠ .defer c) (hrun : (execOp a.eval o).run P w = .ok (.value v) w') (hK : K (a.put o.dst v) w') :
    wpOpIn (Fence.wide.inRound l) n P ops Q i K a w := by
  unfold wpOpIn
  simp only [ho, Region.wanted, hg, if_true]
  refine ⟨fun _ _ => trivial, ?_⟩
  rw [Oper.semAt_plain _ _ _ hnd, hrun]
  exact hK
theorem op_skip (ho : ops[i]? = some o) (hg : o.guard = none) (hnd : ∀ c, o.op ≠ .defer c) (hrun : (execOp a.eval o).run P w = .ok .skip w') (hK : K (a.put o.dst undef) w') :
    wpOpIn (Fence.wide.inRound l) n P ops Q i K a w := by
  unfold wpOpIn
  simp only [ho, Region.wanted, hg, if_true]
  refine ⟨fun _ _ => trivial, ?_⟩
  rw [Oper.semAt_plain _ _ _ hnd, hrun]
  exact hK
theorem op_enter {f : FuncId} {args : Array Value} (ho : ops[i]? = some o) (hg : o.guard = none) (hnd : ∀ c, o.op ≠ .defer c) (hrun : (execOp a.eval o).run P w = .ok (.enter f args) w')
    (hc : Calls P f args w' fun e w'' => ∃ v, e = .returned v ∧ K (a.put o.dst v) w'') :
    wpOpIn (Fence.wide.inRound l) n P ops Q i K a w := by
  unfold wpOpIn
  simp only [ho, Region.wanted, hg, if_true]
  refine ⟨fun _ _ => trivial, ?_⟩
  rw [Oper.semAt_plain _ _ _ hnd, hrun]
  refine ⟨fun h => by simp [Fence.wide, Fence.inRound] at h, ?_⟩
  refine CallsIn.inRound l (callsIn_wide.2 (hc.mono ?_))
  rintro e w'' ⟨v, rfl, hK⟩
  exact hK
end

end Go.Proofs.YtebdgcoandfocaaGreatDoor

namespace Go.Proofs.YtebdgcoandfocaaGreatDoor
open Go.RowKit

section
variable {n : Nat} {P : Program} {ops : Array Oper} {Q : Exit → Act → World → Prop} {i : Nat} {o : Oper} {K : Act → World → Prop} {a : Act} {w w' : World}
end

end Go.Proofs.YtebdgcoandfocaaGreatDoor

namespace Go.Proofs.YtebdgcoandfocaaGreatDoor
open Go.RowKit

/-- Where operation k writes. -/
def slotOf (ops : Array Oper) (k : Nat) : Option Tmp := (ops[k]?).bind (·.dst)

/-- The frame: each operation that is done has written its value. -/
def lay (base : Array Value) (ops : Array Oper) (val : Nat → Value) (b : Nat → Bool) : Nat → Array Value
  | 0 => base
  | k + 1 => match slotOf ops k with
    | some s => if b k = true then (lay base ops val b k).setIfInBounds s (val k) else lay base ops val b k
    | none => lay base ops val b k

/-- No two operations write one place, and each place is there. -/
def apartB (ops : Array Oper) (m : Nat) : Bool := (List.range ops.size).all fun i => match slotOf ops i with
  | some s => decide (s < m) && (List.range ops.size).all fun j => j == i || slotOf ops j != some s
  | none => true
theorem apart_lt {ops : Array Oper} {m i s : Nat} (h : apartB ops m = true) (hi : slotOf ops i = some s) : s < m ∧ ∀ j, j ≠ i → slotOf ops j ≠ some s := by
  have hlt : i < ops.size := by
    by_cases hx : i < ops.size
    · exact hx
    · unfold slotOf at hi
      rw [Array.getElem?_eq_none (by omega)] at hi
      cases hi
  have := (List.all_eq_true.1 h) i (List.mem_range.2 hlt)
  rw [hi] at this
  simp only [Bool.and_eq_true, decide_eq_true_eq] at this
  refine ⟨this.1, fun j hj e => ?_⟩
  have hjlt : j < ops.size := by
    by_cases hx : j < ops.size
    · exact hx
    · unfold slotOf at e
      rw [Array.getElem?_eq_none (by omega)] at e
      cases e
  have := (List.all_eq_true.1 this.2) j (List.mem_range.2 hjlt)
  simp [hj, e] at this

section
variable {base : Array Value} {ops : Array Oper} {val : Nat → Value} {b : Nat → Bool}
theorem lay_size (n : Nat) : (lay base ops val b n).size = base.size := by
  induction n with
  | zero => rfl
  | succ k ih =>
    unfold lay
    split
    · split
      · simpa using ih
      · exact ih
    · exact ih
theorem lay_out (n : Nat) {s : Nat} (h : ∀ j, slotOf ops j ≠ some s) : (lay base ops val b n)[s]? = base[s]? := by
  induction n with
  | zero => rfl
  | succ k ih =>
    unfold lay
    split
    · rename_i t ht
      split
      · rw [Array.getElem?_setIfInBounds_ne (fun e => h k (by rw [ht, e]))]; exact ih
      · exact ih
    · exact ih
theorem lay_in (n : Nat) {i s : Nat} (hi : slotOf ops i = some s) (hn : i < n) (hs : s < base.size) (ha : ∀ j, j ≠ i → slotOf ops j ≠ some s) (hb : b i = true) : (lay base ops val b n)[s]? = some (val i) := by
  induction n with
  | zero => omega
  | succ k ih =>
    by_cases hk : k = i
    · subst hk
      unfold lay
      simp only [hi, hb, if_true]
      rw [Array.getElem?_setIfInBounds_self_of_lt (by rw [lay_size]; exact hs)]
    · unfold lay
      split
      · rename_i t ht
        split
        · rw [Array.getElem?_setIfInBounds_ne (fun e => ha k hk (by rw [ht, e]))]; exact ih (by omega)
        · exact ih (by omega)
      · exact ih (by omega)
theorem lay_did (n : Nat) {i s : Nat} (hi : slotOf ops i = some s) (hn : i < n) (ha : ∀ j, j ≠ i → slotOf ops j ≠ some s) (hb : b i = false) :
    lay base ops val (did b i) n = (lay base ops val b n).setIfInBounds s (val i) := by
  have low : ∀ k, k ≤ i → lay base ops val (did b i) k = lay base ops val b k := by
    intro k
    induction k with
    | zero => intro _; rfl
    | succ k ih =>
      intro hk
      unfold lay
      rw [ih (by omega)]
      have : did b i k = b k := by unfold did; rw [if_neg (by omega)]
      rw [this]
  induction n with
  | zero => omega
  | succ k ih =>
    by_cases hk : k = i
    · subst hk
      unfold lay
      rw [low k (Nat.le_refl _)]
      simp [hi, did, hb]
    · have hd : did b i k = b k := by unfold did; rw [if_neg hk]
      unfold lay
      rw [ih (by omega), hd]
      split
      · rename_i t ht
        split
        · apply Array.ext_getElem?
          intro x
          have hst : t ≠ s := fun e => ha k hk (by rw [ht, e])
          simp only [Array.getElem?_setIfInBounds, Array.size_setIfInBounds]
          by_cases h1 : t = x
          · have h2 : ¬ s = x := fun e => hst (h1.trans e.symm)
            simp [h1, h2]
          · simp [h1]
        · rfl
      · rfl
theorem lay_none (n : Nat) {i : Nat} (hi : slotOf ops i = none) : lay base ops val (did b i) n = lay base ops val b n := by
  induction n with
  | zero => rfl
  | succ k ih =>
    unfold lay
    rw [ih]
    by_cases hk : k = i
    · subst hk; simp [hi]
    · have hd : did b i k = b k := by unfold did; rw [if_neg hk]
      rw [hd]
end

/-- What the frame tells of the place that operation j wrote. -/
theorem lay_eval {base : Array Value} {ops : Array Oper} {val : Nat → Value} {b : Nat → Bool} {d : List Deferred} {m : Nat} (hsz : base.size = m) (hap : apartB ops m = true) (j s : Nat) (hs : slotOf ops j = some s) (hb : b j = true) :
    Act.eval ⟨lay base ops val b ops.size, d⟩ (.tmp s) = val j := by
  subst hsz
  obtain ⟨h1, h2⟩ := apart_lt hap hs
  have hlt : j < ops.size := by
    by_cases hx : j < ops.size
    · exact hx
    · unfold slotOf at hs
      rw [Array.getElem?_eq_none (by omega)] at hs
      cases hs
  have := lay_in (val := val) ops.size hs hlt h1 h2 hb
  show (lay base ops val b ops.size).getD s undef = _
  rw [Array.getD_eq_getD_getElem?, this]
  rfl
/-- .. and of a place that none writes. -/
def noneB (ops : Array Oper) (s : Nat) : Bool := (List.range ops.size).all fun i => slotOf ops i != some s
theorem lay_keep {base : Array Value} {ops : Array Oper} {val : Nat → Value} {b : Nat → Bool} {d : List Deferred} (s : Nat) (h : noneB ops s = true) :
    Act.eval ⟨lay base ops val b ops.size, d⟩ (.tmp s) = base.getD s undef := by
  have h' : ∀ j, slotOf ops j ≠ some s := by
    intro j e
    have hlt : j < ops.size := by
      by_cases hx : j < ops.size
      · exact hx
      · unfold slotOf at e
        rw [Array.getElem?_eq_none (by omega)] at e
        cases e
    have := (List.all_eq_true.1 h) j (List.mem_range.2 hlt)
    simp [e] at this
  show (lay base ops val b ops.size).getD s undef = _
  rw [Array.getD_eq_getD_getElem?, lay_out ops.size h', Array.getD_eq_getD_getElem?]
/-- .. and of a place that is not yet written. -/
theorem lay_till {base : Array Value} {ops : Array Oper} {val : Nat → Value} {b : Nat → Bool} {s : Nat} (h : ∀ j, slotOf ops j = some s → b j = false) : ∀ n, (lay base ops val b n)[s]? = base[s]?
  | 0 => rfl
  | k + 1 => by
    unfold lay
    split
    · rename_i t ht
      split
      · rename_i hb
        have hne : t ≠ s := by
          intro e
          subst e
          rw [h k ht] at hb
          cases hb
        rw [Array.getElem?_setIfInBounds, if_neg hne]
        exact lay_till h k
      · exact lay_till h k
    · exact lay_till h k
theorem none_till {ops : Array Oper} {s : Nat} {b : Nat → Bool} (h : noneB ops s = true) : ∀ i, slotOf ops i = some s → b i = false := by
  intro i e
  have hlt : i < ops.size := by
    by_cases hx : i < ops.size
    · exact hx
    · unfold slotOf at e
      rw [Array.getElem?_eq_none (by omega)] at e
      cases e
  have := (List.all_eq_true.1 h) i (List.mem_range.2 hlt)
  simp [e] at this
/-- A guard that is decided. -/
theorem lay_yield {base : Array Value} {ops : Array Oper} {val : Nat → Value} {b : Nat → Bool} {m : Nat} (hsz : base.size = m) (hap : apartB ops m = true) (j s : Nat) (x : Bool) (hs : slotOf ops j = some s) (hb : b j = true) (hv : val j = .bool x) :
    yielded ops (lay base ops val b ops.size) j = some x := by
  subst hsz
  obtain ⟨h1, h2⟩ := apart_lt hap hs
  have hlt : j < ops.size := by
    by_cases hx : j < ops.size
    · exact hx
    · unfold slotOf at hs
      rw [Array.getElem?_eq_none (by omega)] at hs
      cases hs
  have := lay_in (val := val) ops.size hs hlt h1 h2 hb
  unfold yielded
  have e : (ops[j]?).bind (·.dst) = some s := hs
  rw [e, Option.bind_some, this, hv]

/-- The value of operation k, out of a list. -/
def vals (L : List (Option Tmp × Value)) (k : Nat) : Value := (L.getD k (none, undef)).2
/-- All of them written. -/
def putAll (base : Array Value) : List (Option Tmp × Value) → Array Value
  | [] => base
  | (some s, v) :: r => putAll (base.setIfInBounds s v) r
  | (none, _) :: r => putAll base r
theorem putAll_snoc (L : List (Option Tmp × Value)) (x : Option Tmp × Value) : ∀ base, putAll base (L ++ [x]) = match x with | (some s, v) => (putAll base L).setIfInBounds s v | (none, _) => putAll base L := by
  induction L with
  | nil => intro base; obtain ⟨s, v⟩ := x; cases s <;> rfl
  | cons y L ih =>
    intro base
    obtain ⟨s, v⟩ := y
    cases s
    · exact ih base
    · exact ih _
theorem lay_all {base : Array Value} {ops : Array Oper} {L : List (Option Tmp × Value)} (hL : L.map (·.1) = ops.toList.map (·.dst)) : lay base ops (vals L) (fun _ => true) ops.size = putAll base L := by
  have hlen : L.length = ops.size := by
    have := congrArg List.length hL
    simpa using this
  have key : ∀ n, n ≤ ops.size → lay base ops (vals L) (fun _ => true) n = putAll base (L.take n) := by
    intro n
    induction n with
    | zero => intro _; rfl
    | succ k ih =>
      intro hk
      have hkL : k < L.length := by omega
      have hsl : slotOf ops k = (L[k]).1 := by
        have h1 : (L.map (·.1))[k]? = (ops.toList.map (·.dst))[k]? := by rw [hL]
        rw [List.getElem?_map, List.getElem?_map, List.getElem?_eq_getElem hkL] at h1
        have h2 : ops.toList[k]? = ops[k]? := by simp
        rw [h2] at h1
        unfold slotOf
        rw [Array.getElem?_eq_getElem (by omega)] at h1 ⊢
        simpa using h1.symm
      have hv : vals L k = (L[k]).2 := by
        unfold vals
        rw [List.getD, List.getElem?_eq_getElem hkL]
        rfl
      rw [List.take_add_one, List.getElem?_eq_getElem hkL, Option.toList_some, putAll_snoc, ← ih (by omega)]
      have e : lay base ops (vals L) (fun _ => true) (k + 1) = match slotOf ops k with
        | some s => if true = true then (lay base ops (vals L) (fun _ => true) k).setIfInBounds s (vals L k) else lay base ops (vals L) (fun _ => true) k
        | none => lay base ops (vals L) (fun _ => true) k := rfl
      rw [e, hsl, hv]
      cases h : L[k] with
      | mk s v => cases s <;> simp
  rw [key _ (Nat.le_refl _), List.take_of_length_le (by omega)]

/-- What one operation does. -/
inductive Does (P : Program) (ops : Array Oper) (a : Act) (w : World) (o : Oper) (v : Value) (K : World → Prop) : Prop
  | value (w' : World) (hw : Region.wanted o (yielded ops a.tmps) = true) (hnd : ∀ c, o.op ≠ .defer c) (hrun : (execOp a.eval o).run P w = .ok (.value v) w') (hK : K w')
  | call (f : FuncId) (args : Array Value) (hw : Region.wanted o (yielded ops a.tmps) = true) (hnd : ∀ c, o.op ≠ .defer c) (hrun : (execOp a.eval o).run P w = .ok (.enter f args) w)
      (hc : Calls P f args w fun e w'' => e = .returned v ∧ K w'')
  | pass (hw : Region.wanted o (yielded ops a.tmps) = false) (hv : v = undef) (hK : K w)

section
variable {P : Program} {ops : Array Oper} {a : Act} {w w' : World} {o : Oper} {v : Value} {K : World → Prop}
theorem does_value (hg : o.guard = none) (hnd : ∀ c, o.op ≠ .defer c) (hrun : (execOp a.eval o).run P w = .ok (.value v) w') (hK : K w') : Does P ops a w o v K :=
  .value w' (by unfold Region.wanted; rw [hg]) hnd hrun hK
theorem does_value_g {j : Nat} {x : Bool} (hg : o.guard = some (j, x)) (hy : yielded ops a.tmps j = some x) (hnd : ∀ c, o.op ≠ .defer c) (hrun : (execOp a.eval o).run P w = .ok (.value v) w') (hK : K w') : Does P ops a w o v K :=
  .value w' (by unfold Region.wanted; rw [hg]; simp [hy]) hnd hrun hK
theorem does_call_g {j : Nat} {x : Bool} {f : FuncId} {args : Array Value} (hg : o.guard = some (j, x)) (hy : yielded ops a.tmps j = some x) (hnd : ∀ c, o.op ≠ .defer c) (hrun : (execOp a.eval o).run P w = .ok (.enter f args) w) (hc : Calls P f args w fun e w'' => e = .returned v ∧ K w'') : Does P ops a w o v K :=
  .call f args (by unfold Region.wanted; rw [hg]; simp [hy]) hnd hrun hc
end

/-- The region, whatever the order: St tells of the world, by what is done. -/
theorem region_laid {P : Program} {id : Nat} {ops : Array Oper} {Q : Exit → Act → World → Prop} {base : Array Value} {d : List Deferred} {w0 : World} (hm : P.follows .mixedOrders = true)
    (hdep : inRow ops = true) (m : Nat) (hsz : base.size = m) (hap : apartB ops m = true) (L : List (Option Tmp × Value)) (hL : L.map (·.1) = ops.toList.map (·.dst)) (St : (Nat → Bool) → World → Prop)
    (h0 : St (fun _ => false) w0.drew)
    (hstep : ∀ b w (i : Nat) (o : Oper) (a : Act), St b w → (∀ (j : Nat) (u : Oper), ops[j]? = some u → b j = true → ∀ e ∈ u.after.toList, Region.binds .any e = true → b e.on = true) → ops[i]? = some o → b i = false →
      (∀ e ∈ o.after.toList, Region.binds .any e = true → b e.on = true) →
      (∀ j s, slotOf ops j = some s → b j = true → a.tmps[s]?.getD undef = vals L j) → (∀ s, noneB ops s = true → a.tmps[s]?.getD undef = base.getD s undef) → (∀ j s x, slotOf ops j = some s → b j = true → vals L j = .bool x → yielded ops a.tmps j = some x) →
      Does P ops a w o (vals L i) (St (did b i)))
    (hend : ∀ b w, St b w → (∀ i, i < ops.size → b i = true) → Q .normal ⟨putAll base L, d⟩ w) :
    (Code.region id ops true).wp P Q ⟨base, d⟩ w0 := by
  subst hsz
  rw [← lay_all hL] at hend
  refine (wpIn_wide (n := 6)).1 ?_
  refine region_done hm hdep (fun b a w => a = ⟨lay base ops (vals L) b ops.size, d⟩ ∧ St b w) ⟨?_, h0⟩ ?_ ?_
  · have : ∀ n, lay base ops (vals L) (fun _ => false) n = base := by
      intro n
      induction n with
      | zero => rfl
      | succ k ih => unfold lay; split <;> simp [ih]
    rw [this]
  · rintro b a w i o ⟨rfl, hS⟩ hcl ho hb hd
    have hlt := (Array.getElem?_eq_some_iff.1 ho).1
    have hput : ∀ w', St (did b i) w' → (Act.put ⟨lay base ops (vals L) b ops.size, d⟩ o.dst (vals L i)) = ⟨lay base ops (vals L) (did b i) ops.size, d⟩ ∧ St (did b i) w' := by
      intro w' h
      refine ⟨?_, h⟩
      cases hdst : o.dst with
      | none =>
        have hsl : slotOf ops i = none := by unfold slotOf; rw [ho]; exact hdst
        rw [lay_none ops.size hsl]
        rfl
      | some s =>
        have hsl : slotOf ops i = some s := by unfold slotOf; rw [ho]; exact hdst
        obtain ⟨_, h2⟩ := apart_lt hap hsl
        rw [lay_did ops.size hsl hlt h2 hb]
        rfl
    unfold wpOpIn
    rw [ho]
    cases hstep b w i o _ hS hcl ho hb hd (fun j s h1 h2 => by rw [← Array.getD_eq_getD_getElem?]; exact lay_eval (d := d) rfl hap j s h1 h2) (fun s h => by rw [← Array.getD_eq_getD_getElem?]; exact lay_keep (d := d) s h) (fun j s x h1 h2 h3 => lay_yield rfl hap j s x h1 h2 h3) with
    | value w' hw hnd hrun hK =>
      simp only [hw, if_true]
      refine ⟨fun _ _ => trivial, ?_⟩
      rw [Oper.semAt_plain _ _ _ hnd, hrun]
      exact hput _ hK
    | call f args hw hnd hrun hc =>
      simp only [hw, if_true]
      refine ⟨fun _ _ => trivial, ?_⟩
      rw [Oper.semAt_plain _ _ _ hnd, hrun]
      refine ⟨fun h => by simp [Fence.wide] at h, ?_⟩
      refine callsIn_wide.2 (hc.mono ?_)
      rintro e w'' ⟨rfl, hK⟩
      exact hput _ hK
    | pass hw hv hK =>
      simp only [hw, Bool.false_eq_true, if_false]
      refine ⟨fun _ _ => trivial, ?_⟩
      rw [← hv]
      exact hput _ hK
  · rintro b a w ⟨rfl, hS⟩ hall
    have e : lay base ops (vals L) b ops.size = lay base ops (vals L) (fun _ => true) ops.size := by
      have : ∀ n, n ≤ ops.size → lay base ops (vals L) b n = lay base ops (vals L) (fun _ => true) n := by
        intro n
        induction n with
        | zero => intro _; rfl
        | succ k ih => intro hk; unfold lay; rw [ih (by omega), hall k (by omega)]
      exact this _ (Nat.le_refl _)
    rw [e]
    exact hend b w hS hall

/-- What one operation does, its value and the world as they come. -/
inductive Doesg (P : Program) (ops : Array Oper) (a : Act) (w : World) (o : Oper) (K : Value → World → Prop) : Prop
  | value (v : Value) (w' : World) (hw : Region.wanted o (yielded ops a.tmps) = true) (hnd : ∀ c, o.op ≠ .defer c) (hrun : (execOp a.eval o).run P w = .ok (.value v) w') (hK : K v w')
  | call (f : FuncId) (args : Array Value) (hw : Region.wanted o (yielded ops a.tmps) = true) (hnd : ∀ c, o.op ≠ .defer c) (hrun : (execOp a.eval o).run P w = .ok (.enter f args) w)
      (hc : Calls P f args w fun e w'' => ∃ v, e = .returned v ∧ K v w'')
  | skip (w' : World) (hw : Region.wanted o (yielded ops a.tmps) = true) (hnd : ∀ c, o.op ≠ .defer c) (hrun : (execOp a.eval o).run P w = .ok .skip w') (hK : K undef w')
  | pass (hw : Region.wanted o (yielded ops a.tmps) = false) (hK : K undef w)

section
variable {P : Program} {ops : Array Oper} {a : Act} {w w' : World} {o : Oper} {v : Value} {K : Value → World → Prop}
theorem doesg_value (hg : o.guard = none) (hnd : ∀ c, o.op ≠ .defer c) (hrun : (execOp a.eval o).run P w = .ok (.value v) w') (hK : K v w') : Doesg P ops a w o K :=
  .value v w' (by unfold Region.wanted; rw [hg]) hnd hrun hK
theorem doesg_skip (hg : o.guard = none) (hnd : ∀ c, o.op ≠ .defer c) (hrun : (execOp a.eval o).run P w = .ok .skip w') (hK : K undef w') : Doesg P ops a w o K :=
  .skip w' (by unfold Region.wanted; rw [hg]) hnd hrun hK
theorem doesg_call {f : FuncId} {args : Array Value} (hg : o.guard = none) (hnd : ∀ c, o.op ≠ .defer c) (hrun : (execOp a.eval o).run P w = .ok (.enter f args) w) (hc : Calls P f args w fun e w'' => ∃ v, e = .returned v ∧ K v w'') : Doesg P ops a w o K :=
  .call f args (by unfold Region.wanted; rw [hg]) hnd hrun hc
end

theorem lay_congr {base : Array Value} {ops : Array Oper} {val val' : Nat → Value} {b : Nat → Bool} (h : ∀ j, b j = true → val' j = val j) (n : Nat) : lay base ops val' b n = lay base ops val b n := by
  induction n with
  | zero => rfl
  | succ k ih =>
    unfold lay
    split
    · split
      · rename_i hb
        rw [ih, h k hb]
      · exact ih
    · exact ih

/-- The region, whatever the order, where what is yielded shows on the way: g tells it. -/
theorem region_laidg {P : Program} {id : Nat} {ops : Array Oper} {Q : Exit → Act → World → Prop} {base : Array Value} {d : List Deferred} {w0 : World} (hm : P.follows .mixedOrders = true)
    (hdep : inRow ops = true) (m : Nat) (hsz : base.size = m) (hap : apartB ops m = true) {G : Type} (g0 : G) (L : G → List (Option Tmp × Value)) (hL : ∀ g, (L g).map (·.1) = ops.toList.map (·.dst)) (St : G → (Nat → Bool) → World → Prop)
    (h0 : St g0 (fun _ => false) w0.drew)
    (hstep : ∀ g b w (i : Nat) (o : Oper) (a : Act), St g b w → (∀ (j : Nat) (u : Oper), ops[j]? = some u → b j = true → ∀ e ∈ u.after.toList, Region.binds .any e = true → b e.on = true) → ops[i]? = some o → b i = false →
      (∀ e ∈ o.after.toList, Region.binds .any e = true → b e.on = true) →
      (∀ j s, slotOf ops j = some s → b j = true → a.tmps[s]?.getD undef = vals (L g) j) → (∀ s, (∀ j, slotOf ops j = some s → b j = false) → a.tmps[s]?.getD undef = base.getD s undef) → (∀ j s x, slotOf ops j = some s → b j = true → vals (L g) j = .bool x → yielded ops a.tmps j = some x) →
      Doesg P ops a w o (fun v w' => ∃ g', (∀ j, b j = true → vals (L g') j = vals (L g) j) ∧ v = vals (L g') i ∧ St g' (did b i) w'))
    (hend : ∀ g b w, St g b w → (∀ i, i < ops.size → b i = true) → Q .normal ⟨putAll base (L g), d⟩ w) :
    (Code.region id ops true).wp P Q ⟨base, d⟩ w0 := by
  subst hsz
  refine (wpIn_wide (n := 6)).1 ?_
  refine region_done hm hdep (fun b a w => ∃ g, a = ⟨lay base ops (vals (L g)) b ops.size, d⟩ ∧ St g b w) ⟨g0, ?_, h0⟩ ?_ ?_
  · have : ∀ n, lay base ops (vals (L g0)) (fun _ => false) n = base := by
      intro n
      induction n with
      | zero => rfl
      | succ k ih => unfold lay; split <;> simp [ih]
    rw [this]
  · rintro b a w i o ⟨g, rfl, hS⟩ hcl ho hb hd
    have hlt := (Array.getElem?_eq_some_iff.1 ho).1
    have hput : ∀ v w', (∃ g', (∀ j, b j = true → vals (L g') j = vals (L g) j) ∧ v = vals (L g') i ∧ St g' (did b i) w') → ∃ g', (Act.put ⟨lay base ops (vals (L g)) b ops.size, d⟩ o.dst v) = ⟨lay base ops (vals (L g')) (did b i) ops.size, d⟩ ∧ St g' (did b i) w' := by
      rintro v w' ⟨g', hc, rfl, h⟩
      refine ⟨g', ?_, h⟩
      rw [← lay_congr hc]
      cases hdst : o.dst with
      | none =>
        have hsl : slotOf ops i = none := by unfold slotOf; rw [ho]; exact hdst
        rw [lay_none ops.size hsl]
        rfl
      | some s =>
        have hsl : slotOf ops i = some s := by unfold slotOf; rw [ho]; exact hdst
        obtain ⟨_, h2⟩ := apart_lt hap hsl
        rw [lay_did ops.size hsl hlt h2 hb]
        rfl
    unfold wpOpIn
    rw [ho]
    cases hstep g b w i o _ hS hcl ho hb hd (fun j s h1 h2 => by rw [← Array.getD_eq_getD_getElem?]; exact lay_eval (d := d) rfl hap j s h1 h2) (fun s h => by rw [lay_till h ops.size, Array.getD_eq_getD_getElem?]) (fun j s x h1 h2 h3 => lay_yield rfl hap j s x h1 h2 h3) with
    | value v w' hw hnd hrun hK =>
      simp only [hw, if_true]
      refine ⟨fun _ _ => trivial, ?_⟩
      rw [Oper.semAt_plain _ _ _ hnd, hrun]
      exact hput _ _ hK
    | call f args hw hnd hrun hc =>
      simp only [hw, if_true]
      refine ⟨fun _ _ => trivial, ?_⟩
      rw [Oper.semAt_plain _ _ _ hnd, hrun]
      refine ⟨fun h => by simp [Fence.wide] at h, ?_⟩
      refine callsIn_wide.2 (hc.mono ?_)
      rintro e w'' ⟨v, rfl, hK⟩
      exact hput _ _ hK
    | skip w' hw hnd hrun hK =>
      simp only [hw, if_true]
      refine ⟨fun _ _ => trivial, ?_⟩
      rw [Oper.semAt_plain _ _ _ hnd, hrun]
      exact hput _ _ hK
    | pass hw hK =>
      simp only [hw, Bool.false_eq_true, if_false]
      refine ⟨fun _ _ => trivial, ?_⟩
      exact hput _ _ hK
  · rintro b a w ⟨g, rfl, hS⟩ hall
    have e : lay base ops (vals (L g)) b ops.size = putAll base (L g) := by
      rw [← lay_all (hL g)]
      have : ∀ n, n ≤ ops.size → lay base ops (vals (L g)) b n = lay base ops (vals (L g)) (fun _ => true) n := by
        intro n
        induction n with
        | zero => intro _; rfl
        | succ k ih => intro hk; unfold lay; rw [ih (by omega), hall k (by omega)]
      exact this _ (Nat.le_refl _)
    rw [e]
    exact hend g b w hS hall

end Go.Proofs.YtebdgcoandfocaaGreatDoor

namespace Go.Proofs.YtebdgcoandfocaaGreatDoor
open Go.RowKit

end Go.Proofs.YtebdgcoandfocaaGreatDoor
