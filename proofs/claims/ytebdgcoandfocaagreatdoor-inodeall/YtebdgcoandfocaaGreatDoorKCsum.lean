/-
  The sum of the document's own text, bit by bit, and the sum over parts of package crc.
-/
import Derived.Test.YtebdgcoandfocaaGreatDoorKCbase

namespace Go.Proofs.YtebdgcoandfocaaGreatDoor
open Go.RowKit

/-- CRC-32 of some bytes. -/
def crcSum (bs : List (BitVec 8)) : BitVec 32 := ~~~ (crcOf (BitVec.allOnes 32) bs)

/-- One part: where it lies, its spare room, its bytes. -/
structure Part where
  at_ : Option Addr
  cap : Nat
  bytes : List (BitVec 8)

/-- The parts lie, as slices, from q on. -/
def Parts (w : World) (q : Option Addr) (ps : List Part) : Prop :=
  (0 < ps.length → ∃ b o, q = some ⟨b, o, none⟩ ∧ ∀ (j : Nat) (x : Part), ps[j]? = some x → w.cell? ⟨b, o + j, none⟩ = some (.slice x.at_ x.bytes.length x.cap)) ∧
  ∀ (j : Nat) (x : Part), ps[j]? = some x → x.bytes.length < 9223372036854775808 ∧ Bytes w x.at_ x.bytes

theorem cell_set_other {w : World} {a b k : Nat} {v u : Value} (h : w.cell? ⟨b, k, none⟩ = some v) (hne : b ≠ a) {j : Nat} : (w.setCell ⟨a, j, none⟩ u).cell? ⟨b, k, none⟩ = some v :=
  (World.cell?_of_block (w := w) (Below.heap_setCell w ⟨a, j, none⟩ u b hne)).trans h

/-- Block a is a sum's. -/
def IsSum (w : World) (a : Nat) (c : BitVec 32) : Prop := w.heap[a]? = some (.cells #[u32v c] 204 (0, 0))

theorem IsSum.set {w : World} {a : Nat} {c : BitVec 32} (h : IsSum w a c) (d : BitVec 32) : IsSum (w.setCell ⟨a, 0, none⟩ (u32v d)) a d := by
  unfold IsSum at *; simp [World.setCell, Array.getElem?_modify, h]
theorem IsSum.ne {w : World} {a : Nat} {c : BitVec 32} (h : IsSum w a c) {b k : Nat} {v : Value} (hc : w.cell? ⟨b, k, none⟩ = some v) (hv : ∀ z, v ≠ .int .u32 z) : b ≠ a := by
  rintro rfl
  rw [cellOf h k] at hc
  cases k with
  | zero => simp at hc; exact hv _ hc.symm
  | succ k => simp at hc
theorem IsSum.tab {w : World} {a : Nat} {c : BitVec 32} (h : IsSum w a c) (ht : Tab w) (v : Value) : Tab (w.setCell ⟨a, 0, none⟩ v) := by
  have h1 := ht 1 498536548 rfl
  have hne : 0 ≠ a := by
    rintro rfl
    rw [cellOf h 1] at h1
    simp at h1
  intro k z hk
  exact cell_set_other (ht k z hk) hne
theorem IsSum.bytes {w : World} {a : Nat} {c : BitVec 32} (h : IsSum w a c) {p : Option Addr} {bs : List (BitVec 8)} (hb : Bytes w p bs) (v : Value) : Bytes (w.setCell ⟨a, 0, none⟩ v) p bs := by
  intro hl
  obtain ⟨b, o, rfl, hx⟩ := hb hl
  exact ⟨b, o, rfl, fun j x hj => cell_set_other (hx j x hj) (h.ne (hx j x hj) (by intro z; unfold u8v; simp))⟩
theorem IsSum.parts {w : World} {a : Nat} {c : BitVec 32} (h : IsSum w a c) {q : Option Addr} {ps : List Part} (hb : Parts w q ps) (v : Value) : Parts (w.setCell ⟨a, 0, none⟩ v) q ps := by
  refine ⟨fun hl => ?_, fun j x hj => ⟨(hb.2 j x hj).1, h.bytes (hb.2 j x hj).2 v⟩⟩
  obtain ⟨b, o, rfl, hx⟩ := hb.1 hl
  exact ⟨b, o, rfl, fun j x hj => cell_set_other (hx j x hj) (h.ne (hx j x hj) (by intro z; simp))⟩

theorem crcOf_append (c : BitVec 32) (xs bs : List (BitVec 8)) : crcOf c (xs ++ bs) = crcOf (crcOf c xs) bs := by
  unfold crcOf
  rw [List.map_append, crcRun_append]

/-- All bytes of the parts. -/
def allBytes (ps : List Part) : List (BitVec 8) := (ps.map Part.bytes).flatten

theorem allBytes_step (ps : List Part) (i : Nat) (x : Part) (hx : ps[i]? = some x) : allBytes (ps.take (i + 1)) = allBytes (ps.take i) ++ x.bytes := by
  unfold allBytes
  rw [List.take_add_one, hx]
  simp

set_option maxRecDepth 8000 in
set_option maxHeartbeats 1000000 in
theorem hand_any (a : Nat) (c : BitVec 32) (q : Option Addr) (ps : List Part) (cp : Nat) (w : World) (ht : Tab w) (h : IsSum w a c)
    (hl : ps.length < 9223372036854775808) (hp : Parts w q ps) :
    Calls Tryz.prog 130 #[.func (.func 131) #[.pointer (some ⟨a, 0, none⟩)] #[], .slice q ps.length cp] w fun e w' => e = .returned (.tuple #[]) ∧ IsSum w' a (~~~ crcOf (~~~ c) (allBytes ps)) ∧ Below a w w' ∧ w'.heap.size = w.heap.size := by
  have HT : Hid (Tab w) := ht
  have HH : Hid (IsSum w a c) := h
  have HP : Hid (Parts w q ps) := hp
  clear ht h hp
  go_enter Tryz.func130, Tryz.ntmps130
  go_wp2_with fail
  go_loopw [8] (fun ii wr => ∃ i : Nat, i ≤ ps.length ∧ ii = .int .i64 i ∧ Hid (Tab wr ∧ Parts wr q ps ∧ IsSum wr a (~~~ crcOf (~~~ c) (allBytes (ps.take i))) ∧ Below a w wr ∧ wr.heap.size = w.heap.size)) (fun ii _ => ps.length - (intOf ii).toNat)
  case atStart =>
    refine ⟨0, Nat.zero_le _, rfl, HT.out, HP.out, ?_, Below.refl _ _, rfl⟩
    have := HH.out
    simpa [allBytes, crcOf, crcRun] using this
  case round =>
    obtain ⟨i, hi, rfl, HJ⟩ := hrel
    obtain ⟨ht, hp, hs, hB, hsz⟩ := HJ.out
    by_cases hlt : i < ps.length
    · obtain ⟨b, o, rfl, hbs⟩ := hp.1 (by omega)
      obtain ⟨x, hx⟩ : ∃ x, ps[i]? = some x := ⟨_, List.getElem?_eq_getElem hlt⟩
      have c1 := hbs i x hx
      have hadd := add_any a _ x.at_ x.bytes x.cap wr ht hs (hp.2 i x hx).1 (hp.2 i x hx).2
      have hltI : (i : Int) < ps.length := by omega
      have HX : Hid (ps[i]? = some x) := hx
      clear hx hbs ht hs hB hsz
      obtain ⟨xa, xc, xb⟩ := x
      have hp' : Hid (Parts wr (some ⟨b, o, none⟩) ps) := hp
      clear hp
      go_wp2_with fail
      refine hadd.mono ?_
      rintro e w' ⟨rfl, rfl⟩
      clear hadd
      go_wp2
      go_round
      case rel =>
        obtain ⟨ht, hp, hs, hB, hsz⟩ := HJ.out
        refine ⟨i + 1, by omega, by go_num, hs.tab ht _, hs.parts hp _, ?_, hB.setCell (Nat.le_refl _) _, ?_⟩
        · rw [allBytes_step _ _ _ HX.out, crcOf_append]
          exact hs.set _
        · rw [← hsz]; simp [World.setCell]
      case measure => simp [intOf]; omega
    · obtain rfl : i = ps.length := by omega
      clear ht hp hs hB hsz
      go_wp2
      go_end0
      obtain ⟨ht, hp, hs, hB, hsz⟩ := HJ.out
      rw [List.take_length] at hs
      exact ⟨rfl, hs, hB, hsz⟩


theorem below_tab {w w' : World} {B : Nat} (h : Below B w w') (h0 : 0 < B) (ht : Tab w) : Tab w' := fun k z hk => (h.cell (p := ⟨0, k, none⟩) h0).trans (ht k z hk)
theorem cell_lt {w : World} {b k : Nat} {v : Value} (h : w.cell? ⟨b, k, none⟩ = some v) : b < w.heap.size := by
  by_cases hb : b < w.heap.size
  · exact hb
  · simp [World.cell?, Array.getElem?_eq_none (Nat.not_lt.1 hb)] at h
theorem Tab.lt {w : World} (ht : Tab w) : 0 < w.heap.size := cell_lt (ht 0 0 rfl)
theorem below_bytes {w w' : World} (h : Below w.heap.size w w') {p : Option Addr} {bs : List (BitVec 8)} (hb : Bytes w p bs) : Bytes w' p bs := by
  intro hl
  obtain ⟨b, o, rfl, hx⟩ := hb hl
  exact ⟨b, o, rfl, fun j x hj => (h.cell (p := ⟨b, o + j, none⟩) (cell_lt (hx j x hj))).trans (hx j x hj)⟩
theorem below_parts {w w' : World} (h : Below w.heap.size w w') {q : Option Addr} {ps : List Part} (hb : Parts w q ps) : Parts w' q ps := by
  refine ⟨fun hl => ?_, fun j x hj => ⟨(hb.2 j x hj).1, below_bytes h (hb.2 j x hj).2⟩⟩
  obtain ⟨b, o, rfl, hx⟩ := hb.1 hl
  exact ⟨b, o, rfl, fun j x hj => (h.cell (p := ⟨b, o + j, none⟩) (cell_lt (hx j x hj))).trans (hx j x hj)⟩

theorem new_sum (w : World) : IsSum (w.alloc (.cells #[.int .u32 0] 204)) w.heap.size 0#32 := by
  exact heap_alloc_new w _

set_option maxRecDepth 8000 in
set_option maxHeartbeats 1000000 in
theorem of_any (q : Option Addr) (ps : List Part) (cp : Nat) (w : World) (ht : Tab w) (hl : ps.length < 9223372036854775808) (hp : Parts w q ps) :
    Calls Tryz.prog 113 #[.slice q ps.length cp] w fun e w' => e = .returned (u32v (crcSum (allBytes ps))) ∧ Below w.heap.size w w' := by
  obtain ⟨w1, hw1⟩ : ∃ w1, w1 = w.alloc (.cells #[.int .u32 0] 204) := ⟨_, rfl⟩
  have hB1 : Below w.heap.size w w1 := by rw [hw1]; exact (Below.refl _ _).alloc (Nat.le_refl _) _
  have hs1 : IsSum w1 w.heap.size 0#32 := by rw [hw1]; exact new_sum w
  have hh := hand_any w.heap.size 0#32 q ps cp w1 (below_tab hB1 ht.lt ht) hs1 hl (below_parts hB1 hp)
  have hn := new_any w
  rw [← hw1] at hn
  have HB : Hid (Below w.heap.size w w1) := hB1
  clear ht hp hB1 hs1 hw1
  go_enter Tryz.func113, Tryz.ntmps113
  go_wp2_with fail
  refine hn.mono ?_
  rintro e w' ⟨rfl, rfl⟩
  go_wp2_with fail
  refine hh.mono ?_
  rintro e w2 ⟨rfl, hs2, hB2, _⟩
  clear hh hn
  have hv := value_any w.heap.size _ w2 (cellOf hs2 0)
  go_wp2_with fail
  refine Calls_on hv ?_
  clear hv
  go_wp2
  go_ret
  exact ⟨rfl, HB.out.trans hB2⟩

end Go.Proofs.YtebdgcoandfocaaGreatDoor
