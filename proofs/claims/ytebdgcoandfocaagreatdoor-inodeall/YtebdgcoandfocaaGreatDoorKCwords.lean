/-
  Words of four bytes, the lowest first: written and read, by the code and by the document's own text.
-/
import Derived.Test.YtebdgcoandfocaaGreatDoorKCsum

namespace Go.Proofs.YtebdgcoandfocaaGreatDoor
open Go.RowKit

/-- The number that some bytes tell, the lowest first. -/
def leN : List (BitVec 8) → Nat
  | [] => 0
  | b :: bs => b.toNat + 256 * leN bs

theorem or_add {a b n : Nat} (h : a < 2 ^ n) : a ||| (b * 2 ^ n) = a + b * 2 ^ n := by
  rw [← Nat.shiftLeft_eq, Nat.or_comm, ← Nat.shiftLeft_add_eq_or_of_lt h, Nat.add_comm]

theorem or32 {a b m n : Nat} (hm : m = 2 ^ n) (h : a < 2 ^ n) (hs : b * m < 4294967296) (hn : n ≤ 32) : bits .or .u32 (a : Int) ((b : Int) * (m : Int)) = ((a + b * m : Nat) : Int) := by
  have ha : a < 4294967296 := Nat.lt_of_lt_of_le h (Nat.pow_le_pow_right (by decide) hn)
  have := u32_or_nat a (b * m) ha hs
  rw [hm, or_add h, ← hm] at this
  exact this

theorem i64_or_nat (a b : Nat) (ha : a < 4611686018427387904) (hb : b < 4611686018427387904) : bits .or .i64 (a : Int) (b : Int) = ((a ||| b : Nat) : Int) := by
  have hx : a ||| b < 2 ^ 62 := Nat.or_lt_two_pow (by omega) (by omega)
  show IntKind.i64.wrap ((BitVec.ofInt 64 (a : Int) ||| BitVec.ofInt 64 (b : Int)).toNat : Int) = _
  rw [BitVec.toNat_or, ofInt_u64 a (by omega), ofInt_u64 b (by omega)]
  simp [IntKind.wrap, IntKind.bits, IntKind.signed]
  omega
theorem or64 {a b m n : Nat} (hm : m = 2 ^ n) (h : a < 2 ^ n) (hs : b * m < 4611686018427387904) (hn : n ≤ 62) : bits .or .i64 (a : Int) ((b : Int) * (m : Int)) = ((a + b * m : Nat) : Int) := by
  have ha : a < 4611686018427387904 := Nat.lt_of_lt_of_le h (Nat.pow_le_pow_right (by decide) hn)
  have := i64_or_nat a (b * m) ha hs
  rw [hm, or_add h, ← hm] at this
  exact this

set_option maxRecDepth 8000 in
set_option maxHeartbeats 400000 in
theorem word_any (g o cp : Nat) (b0 b1 b2 b3 : BitVec 8) (w : World) (h : Bytes w (some ⟨g, o, none⟩) [b0, b1, b2, b3]) :
    Calls Tryz.prog 112 #[.slice (some ⟨g, o, none⟩) 4 cp] w fun e w' => e = .returned (.int .u32 (leN [b0, b1, b2, b3] : Nat)) ∧ w' = w := by
  obtain ⟨g', o', e, hx⟩ := h (by simp)
  cases e
  have c0 : w.cell? ⟨g, o, none⟩ = _ := hx 0 b0 rfl
  have c1 := hx 1 b1 rfl
  have c2 := hx 2 b2 rfl
  have c3 := hx 3 b3 rfl
  unfold u8v at c0 c1 c2 c3
  clear hx h
  have l0 : b0.toNat < 256 := b0.isLt
  have l1 : b1.toNat < 256 := b1.isLt
  have l2 : b2.toNat < 256 := b2.isLt
  have l3 : b3.toNat < 256 := b3.isLt
  go_enter Tryz.func112, Tryz.ntmps112
  go_wp2_with fail
  go_loop [3, 8] (fun rr ii => ∃ i : Nat, i ≤ 4 ∧ ii = .int .i64 i ∧ rr = .int .u32 (leN ([b0, b1, b2, b3].take i) : Nat)) (fun _ ii => 4 - (intOf ii).toNat)
  case atStart => exact ⟨0, Nat.zero_le _, rfl, rfl⟩
  case round =>
    obtain ⟨i, hi, rfl, rfl⟩ := hrel
    match i, hi with
    | 0, _ =>
      go_wp2
      refine ⟨⟨1, by omega, rfl, ?_⟩, by simp [intOf]⟩
      have := or32 (a := 0) (b := b0.toNat) (m := 1) (n := 0) rfl (by omega) (by omega) (by omega)
      simp at this
      simp [leN, this]
    | 1, _ =>
      go_wp2
      refine ⟨⟨2, by omega, rfl, ?_⟩, by simp [intOf]⟩
      have := or32 (a := leN [b0]) (b := b1.toNat) (m := 256) (n := 8) rfl (by simp [leN]; omega) (by omega) (by omega)
      rw [show ((256 : Nat) : Int) = 256 from rfl] at this
      rw [this]
      simp [leN]; omega
    | 2, _ =>
      go_wp2
      refine ⟨⟨3, by omega, rfl, ?_⟩, by simp [intOf]⟩
      have := or32 (a := leN [b0, b1]) (b := b2.toNat) (m := 65536) (n := 16) rfl (by simp [leN]; omega) (by omega) (by omega)
      rw [show ((65536 : Nat) : Int) = 65536 from rfl] at this
      rw [this]
      simp [leN]; omega
    | 3, _ =>
      go_wp2
      refine ⟨⟨4, by omega, rfl, ?_⟩, by simp [intOf]⟩
      have := or32 (a := leN [b0, b1, b2]) (b := b3.toNat) (m := 16777216) (n := 24) rfl (by simp [leN]; omega) (by omega) (by omega)
      rw [show ((16777216 : Nat) : Int) = 16777216 from rfl] at this
      rw [this]
      simp [leN]; omega
    | 4, _ =>
      go_wp2
      go_ret
      exact ⟨rfl, rfl⟩

/-- The four bytes of a number, the lowest first. -/
def le4 (n : BitVec 32) : List (BitVec 8) := [n.setWidth 8, (n >>> 8).setWidth 8, (n >>> 16).setWidth 8, (n >>> 24).setWidth 8]
theorem byte0 (n : BitVec 32) : u8v (n.setWidth 8) = .int .u8 ((n.toNat : Int) % 256) := by
  unfold u8v
  rw [BitVec.toNat_setWidth]
  rfl
theorem byte1 (n : BitVec 32) : u8v ((n >>> 8).setWidth 8) = .int .u8 ((n.toNat : Int) / 256 % 256) := by
  unfold u8v
  rw [BitVec.toNat_setWidth, BitVec.toNat_ushiftRight, Nat.shiftRight_eq_div_pow]
  rfl
theorem byte2 (n : BitVec 32) : u8v ((n >>> 16).setWidth 8) = .int .u8 ((n.toNat : Int) / 65536 % 256) := by
  unfold u8v
  rw [BitVec.toNat_setWidth, BitVec.toNat_ushiftRight, Nat.shiftRight_eq_div_pow]
  rfl
theorem byte3 (n : BitVec 32) : u8v ((n >>> 24).setWidth 8) = .int .u8 ((n.toNat : Int) / 16777216) := by
  unfold u8v
  have h := n.isLt
  rw [BitVec.toNat_setWidth, BitVec.toNat_ushiftRight, Nat.shiftRight_eq_div_pow, Nat.mod_eq_of_lt (by omega)]
  rfl
theorem le4_vals (n : BitVec 32) : (le4 n).map u8v = [.int .u8 ((n.toNat : Int) % 256), .int .u8 ((n.toNat : Int) / 256 % 256), .int .u8 ((n.toNat : Int) / 65536 % 256), .int .u8 ((n.toNat : Int) / 16777216)] := by
  rw [← byte0, ← byte1, ← byte2, ← byte3]
  rfl
theorem leN_le4 (n : BitVec 32) : leN (le4 n) = n.toNat := by
  have h := n.isLt
  simp only [le4, leN, BitVec.toNat_setWidth, BitVec.toNat_ushiftRight, Nat.shiftRight_eq_div_pow]
  omega
theorem le4_length (n : BitVec 32) : (le4 n).length = 4 := rfl

theorem splice_next {α : Type} (L : List α) (o : Nat) (ys : List α) (v : α) (h : o + ys.length < L.length) : (splice L o ys).set (o + ys.length) v = splice L o (ys ++ [v]) := by
  unfold splice
  have e1 : (L.take o).length = o := by rw [List.length_take]; omega
  rw [List.set_append_right _ _ (by omega), e1, List.set_append_right _ _ (by omega), List.length_append, List.length_singleton, List.drop_eq_getElem_cons h]
  have : o + ys.length - o - ys.length = 0 := by omega
  rw [this]
  simp [Nat.add_assoc]
theorem splice_get {α : Type} (L : List α) (o : Nat) (ys : List α) (k : Nat) (h : o + ys.length ≤ k) : (splice L o ys)[k]? = L[k]? := by
  unfold splice
  by_cases ho : o ≤ L.length
  · have e1 : (L.take o).length = o := by rw [List.length_take]; omega
    rw [List.getElem?_append_right (by omega), e1, List.getElem?_append_right (by omega), List.getElem?_drop]
    congr 1; omega
  · rw [List.getElem?_eq_none (by simp; omega), List.getElem?_eq_none (by omega)]

/-- One byte of the four is laid. -/
theorem put_step {w wr : World} {g o i : Nat} {L xs : List Value} {v : Value} (h : wr.heap[g]? = some (.cells (splice L o (xs.take i)).toArray 5 (0, 0))) (hz : Below g w wr ∧ wr.heap.size = w.heap.size)
    (hv : xs[i]? = some v) (ho : o + i < L.length) :
    (wr.setCell ⟨g, o + i, none⟩ v).heap[g]? = some (.cells (splice L o (xs.take (i + 1))).toArray 5 (0, 0)) ∧ Below g w (wr.setCell ⟨g, o + i, none⟩ v) ∧ (wr.setCell ⟨g, o + i, none⟩ v).heap.size = w.heap.size := by
  have hi : i < xs.length := (List.getElem?_eq_some_iff.1 hv).1
  have hl : (xs.take i).length = i := by rw [List.length_take]; omega
  refine ⟨?_, hz.1.setCell (Nat.le_refl _) _, by rw [← hz.2]; simp [World.setCell]⟩
  have h2 := splice_next L o (xs.take i) v (by rw [hl]; exact ho)
  rw [hl] at h2
  rw [List.take_add_one, hv]
  simp [World.setCell, Array.getElem?_modify, h, h2]

theorem put_cell {wr : World} {g o i k : Nat} {L xs : List Value} (h : wr.heap[g]? = some (.cells (splice L o (xs.take i)).toArray 5 (0, 0))) (hi : i ≤ xs.length) (hk : o + i = k) (ho : k < L.length) :
    (∃ v, wr.cell? ⟨g, k, none⟩ = some v) ∧ wr.frozen? ⟨g, k, none⟩ = false := by
  have hl : (xs.take i).length = i := by rw [List.length_take]; omega
  refine ⟨⟨L[k], ?_⟩, frozenOf h _⟩
  rw [cellOf h, List.getElem?_toArray, splice_get _ _ _ _ (by rw [hl]; omega), List.getElem?_eq_getElem ho]

set_option maxRecDepth 8000 in
set_option maxHeartbeats 400000 in
theorem put_any (n : BitVec 32) (g o cp : Nat) (L : List Value) (w : World) (h : w.heap[g]? = some (.cells L.toArray 5 (0, 0))) (ho : o + 4 ≤ L.length) :
    Calls Tryz.prog 128 #[.slice (some ⟨g, o, none⟩) 4 cp, u32v n] w fun e w' => e = .returned (.tuple #[]) ∧ w'.heap[g]? = some (.cells (splice L o ((le4 n).map u8v)).toArray 5 (0, 0)) ∧ Below g w w' ∧ w'.heap.size = w.heap.size := by
  have HL : Hid (w.heap[g]? = some (.cells L.toArray 5 (0, 0))) := h
  obtain ⟨xs, hxs⟩ : ∃ xs, xs = (le4 n).map u8v := ⟨_, rfl⟩
  have HX : Hid (xs = [.int .u8 ((n.toNat : Int) % 256), .int .u8 ((n.toNat : Int) / 256 % 256), .int .u8 ((n.toNat : Int) / 65536 % 256), .int .u8 ((n.toNat : Int) / 16777216)]) := hxs.trans (le4_vals n)
  rw [← hxs]
  have hx4 : xs.length = 4 := by rw [hxs]; rfl
  clear h hxs
  go_enter Tryz.func128, Tryz.ntmps128
  go_wp2_with fail
  go_loopw [7] (fun ii wr => ∃ i : Nat, i ≤ 4 ∧ ii = .int .i64 i ∧ Hid (wr.heap[g]? = some (.cells (splice L o (xs.take i)).toArray 5 (0, 0))) ∧ Hid (Below g w wr ∧ wr.heap.size = w.heap.size)) (fun ii _ => 4 - (intOf ii).toNat)
  case atStart =>
    refine ⟨0, by omega, rfl, ?_, Below.refl _ _, rfl⟩
    show w.heap[g]? = some (.cells (splice L o []).toArray 5 (0, 0))
    rw [show splice L o [] = L by simp [splice]]
    exact HL.out
  case round =>
    obtain ⟨i, hi, rfl, HB, HZ⟩ := hrel
    match i, hi with
    | 0, _ =>
      obtain ⟨⟨v, c0⟩, f0⟩ := put_cell (k := o) HB.out (by omega) rfl (by omega)
      go_wp2
      have := put_step HB.out HZ.out (show xs[0]? = _ by rw [HX.out]; rfl) (by omega)
      exact ⟨⟨1, by omega, rfl, this.1, this.2⟩, by simp [intOf]⟩
    | 1, _ =>
      obtain ⟨⟨v, c0⟩, f0⟩ := put_cell (k := o + 1) HB.out (by omega) rfl (by omega)
      go_wp2
      have := put_step HB.out HZ.out (show xs[1]? = _ by rw [HX.out]; rfl) (by omega)
      exact ⟨⟨2, by omega, rfl, this.1, this.2⟩, by simp [intOf]⟩
    | 2, _ =>
      obtain ⟨⟨v, c0⟩, f0⟩ := put_cell (k := o + 2) HB.out (by omega) rfl (by omega)
      go_wp2
      have := put_step HB.out HZ.out (show xs[2]? = _ by rw [HX.out]; rfl) (by omega)
      exact ⟨⟨3, by omega, rfl, this.1, this.2⟩, by simp [intOf]⟩
    | 3, _ =>
      obtain ⟨⟨v, c0⟩, f0⟩ := put_cell (k := o + 3) HB.out (by omega) rfl (by omega)
      go_wp2
      have := put_step HB.out HZ.out (show xs[3]? = _ by rw [HX.out]; rfl) (by omega)
      exact ⟨⟨4, by omega, rfl, this.1, this.2⟩, by simp [intOf]⟩
    | 4, _ =>
      go_wp2
      go_end0
      have := HB.out
      rw [List.take_of_length_le (by omega)] at this
      exact ⟨rfl, this, HZ.out⟩

end Go.Proofs.YtebdgcoandfocaaGreatDoor
