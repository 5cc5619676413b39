/-
  The small functions of package crc: what each call answers and does to memory.
-/
import Derived.Test.YtebdgcoandfocaaGreatDoorProg
import Derived.Test.YtebdgcoandfocaaGreatDoorKCrcm
import Derived.WalkKit
import Derived.WalkSpells
import Derived.WalkLawsBesides
import Derived.Maps.OwnSet
import Derived.Laws.CopyOwn
import Derived.Laws.BitsAllLaws
import Derived.Deep.LoopGhost
import Derived.Deep.QuietTactic
import Derived.BigQuiet
import Derived.RegionTactic

namespace Go.Proofs.YtebdgcoandfocaaGreatDoor
open Go.RowKit

theorem cellOf {w : World} {b : Nat} {cs : Array Value} {t : TypeId} {f : Nat × Nat} (h : w.heap[b]? = some (.cells cs t f)) (j : Nat) :
    w.cell? ⟨b, j, none⟩ = cs[j]? := by
  simp [World.cell?, h]
theorem frozenOf {w : World} {b : Nat} {cs : Array Value} {t : TypeId} (h : w.heap[b]? = some (.cells cs t (0, 0))) (j : Nat) :
    w.frozen? ⟨b, j, none⟩ = false := by
  simp [World.frozen?, h]

/-- A callee that leaves the world as it was, met at its call. -/
theorem Calls_on {P : Program} {f : Nat} {args : Array Value} {w : World} {v : Ending} {K : Ending → World → Prop}
    (h : Calls P f args w fun e w' => e = v ∧ w' = w) (hk : K v w) : Calls P f args w K :=
  h.mono (by rintro e w' ⟨rfl, rfl⟩; exact hk)

/-- A number of 32 bits, a byte. -/
abbrev u32v (c : BitVec 32) : Value := .int .u32 (c.toNat : Int)
def u8v (b : BitVec 8) : Value := .int .u8 (b.toNat : Int)
/-- A byte as 32 bits. -/
def wide (b : BitVec 8) : BitVec 32 := b.setWidth 32
theorem wide_toNat (b : BitVec 8) : (wide b).toNat = b.toNat := by
  unfold wide
  rw [BitVec.toNat_setWidth]
  exact Nat.mod_eq_of_lt (Nat.lt_trans b.isLt (by decide))
theorem xor32 (a b : BitVec 32) : bits .xor .u32 (a.toNat : Int) (b.toNat : Int) = ((a ^^^ b).toNat : Int) := by
  rw [u32_xor_nat _ _ a.isLt b.isLt, BitVec.toNat_xor]

/-- The table of the package lies in block 0. -/
def Tab (w : World) : Prop := ∀ (k z : Nat), crcSteps[k]? = some z → w.cell? ⟨0, k, none⟩ = some (.int .u32 (z : Int))

/-- The bytes bs lie from p on. -/
def Bytes (w : World) (p : Option Addr) (bs : List (BitVec 8)) : Prop :=
  0 < bs.length → ∃ b o, p = some ⟨b, o, none⟩ ∧ ∀ j x, bs[j]? = some x → w.cell? ⟨b, o + j, none⟩ = some (u8v x)

def crcOf (c : BitVec 32) (bs : List (BitVec 8)) : BitVec 32 := crcRun c (bs.map wide)

set_option maxRecDepth 8000 in
set_option maxHeartbeats 400000 in
theorem new_any (w : World) :
    Calls Tryz.prog 129 #[] w fun e w' => e = .returned (.pointer (some ⟨w.heap.size, 0, none⟩)) ∧ w' = w.alloc (.cells #[.int .u32 0] 204) := by
  go_enter Tryz.func129, Tryz.ntmps129
  go_wp2
  go_ret
  exact ⟨rfl, rfl⟩

set_option maxRecDepth 8000 in
set_option maxHeartbeats 400000 in
theorem value_any (a : Nat) (c : BitVec 32) (w : World) (h : w.cell? ⟨a, 0, none⟩ = some (u32v c)) :
    Calls Tryz.prog 132 #[.pointer (some ⟨a, 0, none⟩)] w fun e w' => e = .returned (u32v c) ∧ w' = w := by
  go_enter Tryz.func132, Tryz.ntmps132
  go_wp2
  go_ret
  exact ⟨rfl, rfl⟩

/-- What one step by four bits needs and gives. -/
theorem four_bits {w : World} (ht : Tab w) (r : BitVec 32) : ∃ (k z q : Nat) (r' : BitVec 32), bits .and .u32 (r.toNat : Int) 15 = (k : Int) ∧ k < 16 ∧ w.cell? ⟨0, k, none⟩ = some (.int .u32 (z : Int)) ∧
    (r.toNat : Int) / 16 = (q : Int) ∧ bits .xor .u32 (q : Int) (z : Int) = (r'.toNat : Int) ∧ Hid (r' = crcBits 4 r) := by
  obtain ⟨h1, h2⟩ := crcSteps_at r
  refine ⟨_, _, (r >>> 4).toNat, _, ?_, h1, ht _ _ h2, ?_, xor32 _ _, (crcBits4 r).symm⟩
  · have := u32_and_nat r.toNat 15 r.isLt (by decide)
    rw [BitVec.toNat_and]
    exact this
  · rw [BitVec.toNat_ushiftRight, Nat.shiftRight_eq_div_pow]
    rfl

set_option maxRecDepth 8000 in
set_option maxHeartbeats 400000 in
theorem add_any (a : Nat) (c : BitVec 32) (p : Option Addr) (bs : List (BitVec 8)) (cp : Nat) (w : World) (ht : Tab w) (h : w.heap[a]? = some (.cells #[u32v c] 204 (0, 0)))
    (hl : bs.length < 9223372036854775808) (hb : Bytes w p bs) :
    Calls Tryz.prog 131 #[.pointer (some ⟨a, 0, none⟩), .slice p bs.length cp] w fun e w' => e = .returned (.tuple #[]) ∧ w' = w.setCell ⟨a, 0, none⟩ (u32v (~~~ (crcOf (~~~ c) bs))) := by
  have h0 := cellOf h 0
  have f0 := frozenOf h 0
  simp at h0
  clear h
  obtain ⟨d, n0, HD⟩ : ∃ d : BitVec 32, bits .xor .u32 IntKind.u32.max (c.toNat : Int) = (d.toNat : Int) ∧ Hid (d = ~~~ c) := ⟨~~~ c, (by
    have := xor32 (BitVec.allOnes 32) c
    rw [BitVec.allOnes_xor] at this
    exact this), rfl⟩
  rw [← HD.out]
  go_enter Tryz.func131, Tryz.ntmps131
  go_wp2_with fail
  go_loop [4, 16] (fun rr ii => ∃ i : Nat, i ≤ bs.length ∧ ii = .int .i64 i ∧ ∃ r : BitVec 32, rr = u32v r ∧ Hid (r = crcOf d (bs.take i))) (fun _ ii => bs.length - (intOf ii).toNat)
  case atStart => exact ⟨0, Nat.zero_le _, rfl, _, rfl, rfl⟩
  case round =>
    obtain ⟨i, hi, rfl, r, rfl, HR⟩ := hrel
    by_cases hlt : i < bs.length
    · obtain ⟨b, o, rfl, hbs⟩ := hb (by omega)
      obtain ⟨x, hx⟩ : ∃ x, bs[i]? = some x := ⟨_, List.getElem?_eq_getElem hlt⟩
      have c1 := hbs i x hx
      have hltI : (i : Int) < bs.length := by omega
      have HX : Hid (bs[i]? = some x) := hx
      clear hx hbs hb
      unfold u8v at c1
      obtain ⟨r1, e1, H1⟩ : ∃ r1 : BitVec 32, bits .xor .u32 (r.toNat : Int) (x.toNat : Int) = (r1.toNat : Int) ∧ Hid (r1 = r ^^^ wide x) := ⟨_, (by rw [← wide_toNat x]; exact xor32 _ _), rfl⟩
      obtain ⟨k1, z1, q1, r2, a1, a2, a3, a4, a5, H2⟩ := four_bits ht r1
      obtain ⟨k2, z2, q2, r3, a6, a7, a8, a9, a10, H3⟩ := four_bits ht r2
      clear ht
      go_wp2
      go_round
      case rel =>
        refine ⟨i + 1, by omega, by go_num, r3, rfl, ?_⟩
        show _ = _
        rw [List.take_add_one, HX.out]
        unfold crcOf
        rw [List.map_append, crcRun_append, H3.out, H2.out, H1.out, ← crcBits_add 4 4]
        have := HR.out
        unfold crcOf at this
        rw [← this]
        rfl
      case measure => simp [intOf]; omega
    · obtain rfl : i = bs.length := by omega
      obtain ⟨d', n1, HD'⟩ : ∃ d' : BitVec 32, bits .xor .u32 IntKind.u32.max (r.toNat : Int) = (d'.toNat : Int) ∧ Hid (d' = ~~~ r) := ⟨~~~ r, (by
        have := xor32 (BitVec.allOnes 32) r
        rw [BitVec.allOnes_xor] at this
        exact this), rfl⟩
      clear ht hb
      go_wp2
      go_end0
      refine ⟨rfl, ?_⟩
      have := HR.out
      rw [List.take_length] at this
      rw [HD'.out, ← this]

end Go.Proofs.YtebdgcoandfocaaGreatDoor
