/-
  What the proof leans on, part 2.
-/
import Derived.Test.YtebdgcoandfocaaGreatDoorQ00
import Derived.Deep.RegionHeld3
import Derived.Deep.AppendLies
import Derived.Laws.OwnMore

/-
  Words of four bytes, the lowest first: written and read, by the code and by the document's own text.
-/
namespace Go.Proofs.YtebdgcoandfocaaGreatDoor
open Go.RowKit

/-- The number that some bytes tell, the lowest first. -/
def leN : List (BitVec 8) → Nat
  | [] => 0
  | b :: bs => b.toNat + 256 * leN bs

theorem or_add {a b n : Nat} (h : a < 2 ^ n) : a ||| (b * 2 ^ n) = a + b * 2 ^ n := by
  rw [← Nat.shiftLeft_eq, Nat.or_comm, ← Nat.shiftLeft_add_eq_or_of_lt h, Nat.add_comm]

theorem or32 {a b m n : Nat} (hm : m = 2 ^ n) (h : a < 2 ^ n) (hs : b * m < 4294967296) (hn : n ≤ 32) : bits .or .u32 (a : Int) ((b : Int) * (m : Int)) = ((a + b * m : Nat) : Int) := by
  have ha : a < 4294967296 := Nat.lt_of_lt_of_le h (Nat.pow_le_pow_right (by decide) hn)
  have := u32_or_nat a (b * m) ha hs
  rw [hm, or_add h, ← hm] at this
  exact this

theorem i64_or_nat (a b : Nat) (ha : a < 4611686018427387904) (hb : b < 4611686018427387904) : bits .or .i64 (a : Int) (b : Int) = ((a ||| b : Nat) : Int) := by
  have hx : a ||| b < 2 ^ 62 := Nat.or_lt_two_pow (by omega) (by omega)
  show IntKind.i64.wrap ((BitVec.ofInt 64 (a : Int) ||| BitVec.ofInt 64 (b : Int)).toNat : Int) = _
  rw [BitVec.toNat_or, ofInt_u64 a (by omega), ofInt_u64 b (by omega)]
  simp [IntKind.wrap, IntKind.bits, IntKind.signed]
  omega
theorem or64 {a b m n : Nat} (hm : m = 2 ^ n) (h : a < 2 ^ n) (hs : b * m < 4611686018427387904) (hn : n ≤ 62) : bits .or .i64 (a : Int) ((b : Int) * (m : Int)) = ((a + b * m : Nat) : Int) := by
  have ha : a < 4611686018427387904 := Nat.lt_of_lt_of_le h (Nat.pow_le_pow_right (by decide) hn)
  have := i64_or_nat a (b * m) ha hs
  rw [hm, or_add h, ← hm] at this
  exact this

set_option maxRecDepth 8000 in
set_option maxHeartbeats 400000 in
theorem word_any (g o cp : Nat) (b0 b1 b2 b3 : BitVec 8) (w : World) (h : Bytes w (some ⟨g, o, none⟩) [b0, b1, b2, b3]) :
    Calls Tryz.prog 112 #[.slice (some ⟨g, o, none⟩) 4 cp] w fun e w' => e = .returned (.int .u32 (leN [b0, b1, b2, b3] : Nat)) ∧ w' = w := by
  obtain ⟨g', o', e, hx⟩ := h (by simp)
  cases e
  have c0 : w.cell? ⟨g, o, none⟩ = _ := hx 0 b0 rfl
  have c1 := hx 1 b1 rfl
  have c2 := hx 2 b2 rfl
  have c3 := hx 3 b3 rfl
  unfold u8v at c0 c1 c2 c3
  clear hx h
  have l0 : b0.toNat < 256 := b0.isLt
  have l1 : b1.toNat < 256 := b1.isLt
  have l2 : b2.toNat < 256 := b2.isLt
  have l3 : b3.toNat < 256 := b3.isLt
  go_enter Tryz.func112, Tryz.ntmps112
  go_wp2_with fail
  go_loop [3, 8] (fun rr ii => ∃ i : Nat, i ≤ 4 ∧ ii = .int .i64 i ∧ rr = .int .u32 (leN ([b0, b1, b2, b3].take i) : Nat)) (fun _ ii => 4 - (intOf ii).toNat)
  case atStart => exact ⟨0, Nat.zero_le _, rfl, rfl⟩
  case round =>
    obtain ⟨i, hi, rfl, rfl⟩ := hrel
    match i, hi with
    | 0, _ =>
      go_wp2
      refine ⟨⟨1, by omega, rfl, ?_⟩, by simp [intOf]⟩
      have := or32 (a := 0) (b := b0.toNat) (m := 1) (n := 0) rfl (by omega) (by omega) (by omega)
      simp at this
      simp [leN, this]
    | 1, _ =>
      go_wp2
      refine ⟨⟨2, by omega, rfl, ?_⟩, by simp [intOf]⟩
      have := or32 (a := leN [b0]) (b := b1.toNat) (m := 256) (n := 8) rfl (by simp [leN]; omega) (by omega) (by omega)
      rw [show ((256 : Nat) : Int) = 256 from rfl] at this
      rw [this]
      simp [leN]; omega
    | 2, _ =>
      go_wp2
      refine ⟨⟨3, by omega, rfl, ?_⟩, by simp [intOf]⟩
      have := or32 (a := leN [b0, b1]) (b := b2.toNat) (m := 65536) (n := 16) rfl (by simp [leN]; omega) (by omega) (by omega)
      rw [show ((65536 : Nat) : Int) = 65536 from rfl] at this
      rw [this]
      simp [leN]; omega
    | 3, _ =>
      go_wp2
      refine ⟨⟨4, by omega, rfl, ?_⟩, by simp [intOf]⟩
      have := or32 (a := leN [b0, b1, b2]) (b := b3.toNat) (m := 16777216) (n := 24) rfl (by simp [leN]; omega) (by omega) (by omega)
      rw [show ((16777216 : Nat) : Int) = 16777216 from rfl] at this
      rw [this]
      simp [leN]; omega
    | 4, _ =>
      go_wp2
      go_ret
      exact ⟨rfl, rfl⟩

/-- The four bytes of a number, the lowest first. -/
def le4 (n : BitVec 32) : List (BitVec 8) := [n.setWidth 8, (n >>> 8).setWidth 8, (n >>> 16).setWidth 8, (n >>> 24).setWidth 8]
theorem byte0 (n : BitVec 32) : u8v (n.setWidth 8) = .int .u8 ((n.toNat : Int) % 256) := by
  unfold u8v
  rw [BitVec.toNat_setWidth]
  rfl
theorem byte1 (n : BitVec 32) : u8v ((n >>> 8).setWidth 8) = .int .u8 ((n.toNat : Int) / 256 % 256) := by
  unfold u8v
  rw [BitVec.toNat_setWidth, BitVec.toNat_ushiftRight, Nat.shiftRight_eq_div_pow]
  rfl
theorem byte2 (n : BitVec 32) : u8v ((n >>> 16).setWidth 8) = .int .u8 ((n.toNat : Int) / 65536 % 256) := by
  unfold u8v
  rw [BitVec.toNat_setWidth, BitVec.toNat_ushiftRight, Nat.shiftRight_eq_div_pow]
  rfl
theorem byte3 (n : BitVec 32) : u8v ((n >>> 24).setWidth 8) = .int .u8 ((n.toNat : Int) / 16777216) := by
  unfold u8v
  have h := n.isLt
  rw [BitVec.toNat_setWidth, BitVec.toNat_ushiftRight, Nat.shiftRight_eq_div_pow, Nat.mod_eq_of_lt (by omega)]
  rfl
theorem le4_vals (n : BitVec 32) : (le4 n).map u8v = [.int .u8 ((n.toNat : Int) % 256), .int .u8 ((n.toNat : Int) / 256 % 256), .int .u8 ((n.toNat : Int) / 65536 % 256), .int .u8 ((n.toNat : Int) / 16777216)] := by
  rw [← byte0, ← byte1, ← byte2, ← byte3]
  rfl
theorem leN_le4 (n : BitVec 32) : leN (le4 n) = n.toNat := by
  have h := n.isLt
  simp only [le4, leN, BitVec.toNat_setWidth, BitVec.toNat_ushiftRight, Nat.shiftRight_eq_div_pow]
  omega
theorem le4_length (n : BitVec 32) : (le4 n).length = 4 := rfl

theorem splice_next {α : Type} (L : List α) (o : Nat) (ys : List α) (v : α) (h : o + ys.length < L.length) : (splice L o ys).set (o + ys.length) v = splice L o (ys ++ [v]) := by
  unfold splice
  have e1 : (L.take o).length = o := by rw [List.length_take]; omega
  rw [List.set_append_right _ _ (by omega), e1, List.set_append_right _ _ (by omega), List.length_append, List.length_singleton, List.drop_eq_getElem_cons h]
  have : o + ys.length - o - ys.length = 0 := by omega
  rw [this]
  simp [Nat.add_assoc]
theorem splice_get {α : Type} (L : List α) (o : Nat) (ys : List α) (k : Nat) (h : o + ys.length ≤ k) : (splice L o ys)[k]? = L[k]? := by
  unfold splice
  by_cases ho : o ≤ L.length
  · have e1 : (L.take o).length = o := by rw [List.length_take]; omega
    rw [List.getElem?_append_right (by omega), e1, List.getElem?_append_right (by omega), List.getElem?_drop]
    congr 1; omega
  · rw [List.getElem?_eq_none (by simp; omega), List.getElem?_eq_none (by omega)]

/-- One byte of the four is laid. -/
theorem put_step {w wr : World} {g o i : Nat} {L xs : List Value} {v : Value} (h : wr.heap[g]? = some (.cells (splice L o (xs.take i)).toArray 5 (0, 0))) (hz : Below g w wr ∧ wr.heap.size = w.heap.size)
    (hv : xs[i]? = some v) (ho : o + i < L.length) :
    (wr.setCell ⟨g, o + i, none⟩ v).heap[g]? = some (.cells (splice L o (xs.take (i + 1))).toArray 5 (0, 0)) ∧ Below g w (wr.setCell ⟨g, o + i, none⟩ v) ∧ (wr.setCell ⟨g, o + i, none⟩ v).heap.size = w.heap.size := by
  have hi : i < xs.length := (List.getElem?_eq_some_iff.1 hv).1
  have hl : (xs.take i).length = i := by rw [List.length_take]; omega
  refine ⟨?_, hz.1.setCell (Nat.le_refl _) _, by rw [← hz.2]; simp [World.setCell]⟩
  have h2 := splice_next L o (xs.take i) v (by rw [hl]; exact ho)
  rw [hl] at h2
  rw [List.take_add_one, hv]
  simp [World.setCell, Array.getElem?_modify, h, h2]

theorem put_cell {wr : World} {g o i k : Nat} {L xs : List Value} (h : wr.heap[g]? = some (.cells (splice L o (xs.take i)).toArray 5 (0, 0))) (hi : i ≤ xs.length) (hk : o + i = k) (ho : k < L.length) :
    (∃ v, wr.cell? ⟨g, k, none⟩ = some v) ∧ wr.frozen? ⟨g, k, none⟩ = false := by
  have hl : (xs.take i).length = i := by rw [List.length_take]; omega
  refine ⟨⟨L[k], ?_⟩, frozenOf h _⟩
  rw [cellOf h, List.getElem?_toArray, splice_get _ _ _ _ (by rw [hl]; omega), List.getElem?_eq_getElem ho]

set_option maxRecDepth 8000 in
set_option maxHeartbeats 400000 in
theorem put_any (n : BitVec 32) (g o cp : Nat) (L : List Value) (w : World) (h : w.heap[g]? = some (.cells L.toArray 5 (0, 0))) (ho : o + 4 ≤ L.length) :
    Calls Tryz.prog 128 #[.slice (some ⟨g, o, none⟩) 4 cp, u32v n] w fun e w' => e = .returned (.tuple #[]) ∧ w'.heap[g]? = some (.cells (splice L o ((le4 n).map u8v)).toArray 5 (0, 0)) ∧ Below g w w' ∧ w'.heap.size = w.heap.size := by
  have HL : Hid (w.heap[g]? = some (.cells L.toArray 5 (0, 0))) := h
  obtain ⟨xs, hxs⟩ : ∃ xs, xs = (le4 n).map u8v := ⟨_, rfl⟩
  have HX : Hid (xs = [.int .u8 ((n.toNat : Int) % 256), .int .u8 ((n.toNat : Int) / 256 % 256), .int .u8 ((n.toNat : Int) / 65536 % 256), .int .u8 ((n.toNat : Int) / 16777216)]) := hxs.trans (le4_vals n)
  rw [← hxs]
  have hx4 : xs.length = 4 := by rw [hxs]; rfl
  clear h hxs
  go_enter Tryz.func128, Tryz.ntmps128
  go_wp2_with fail
  go_loopw [7] (fun ii wr => ∃ i : Nat, i ≤ 4 ∧ ii = .int .i64 i ∧ Hid (wr.heap[g]? = some (.cells (splice L o (xs.take i)).toArray 5 (0, 0))) ∧ Hid (Below g w wr ∧ wr.heap.size = w.heap.size)) (fun ii _ => 4 - (intOf ii).toNat)
  case atStart =>
    refine ⟨0, by omega, rfl, ?_, Below.refl _ _, rfl⟩
    show w.heap[g]? = some (.cells (splice L o []).toArray 5 (0, 0))
    rw [show splice L o [] = L by simp [splice]]
    exact HL.out
  case round =>
    obtain ⟨i, hi, rfl, HB, HZ⟩ := hrel
    match i, hi with
    | 0, _ =>
      obtain ⟨⟨v, c0⟩, f0⟩ := put_cell (k := o) HB.out (by omega) rfl (by omega)
      go_wp2
      have := put_step HB.out HZ.out (show xs[0]? = _ by rw [HX.out]; rfl) (by omega)
      exact ⟨⟨1, by omega, rfl, this.1, this.2⟩, by simp [intOf]⟩
    | 1, _ =>
      obtain ⟨⟨v, c0⟩, f0⟩ := put_cell (k := o + 1) HB.out (by omega) rfl (by omega)
      go_wp2
      have := put_step HB.out HZ.out (show xs[1]? = _ by rw [HX.out]; rfl) (by omega)
      exact ⟨⟨2, by omega, rfl, this.1, this.2⟩, by simp [intOf]⟩
    | 2, _ =>
      obtain ⟨⟨v, c0⟩, f0⟩ := put_cell (k := o + 2) HB.out (by omega) rfl (by omega)
      go_wp2
      have := put_step HB.out HZ.out (show xs[2]? = _ by rw [HX.out]; rfl) (by omega)
      exact ⟨⟨3, by omega, rfl, this.1, this.2⟩, by simp [intOf]⟩
    | 3, _ =>
      obtain ⟨⟨v, c0⟩, f0⟩ := put_cell (k := o + 3) HB.out (by omega) rfl (by omega)
      go_wp2
      have := put_step HB.out HZ.out (show xs[3]? = _ by rw [HX.out]; rfl) (by omega)
      exact ⟨⟨4, by omega, rfl, this.1, this.2⟩, by simp [intOf]⟩
    | 4, _ =>
      go_wp2
      go_end0
      have := HB.out
      rw [List.take_of_length_le (by omega)] at this
      exact ⟨rfl, this, HZ.out⟩

end Go.Proofs.YtebdgcoandfocaaGreatDoor

/-
  Frame of package crc.
-/
namespace Go.Proofs.YtebdgcoandfocaaGreatDoor
open Go.RowKit

theorem Tryz.info5 : (Tryz.prog.info? 5).map (fun i => (i.zero, i.size, i.bytes)) = some (some (.int .u8 0), 1, 1) := by kernel_rfl
theorem Tryz.size5 : (Tryz.prog.info? 5).map (·.size) = some 1 := by kernel_rfl

/-- Row of a made slice: the whole block. -/
theorem owns_whole {w : World} {base e : Nat} {g n : Nat} {xs : List Value} (h : w.ownsRow base e 1 (.slice (some ⟨g, 0, none⟩) n n) n xs) :
    w.heap[g]? = some (.cells xs.toArray e (0, 0)) := by
  obtain ⟨hl, h⟩ := h
  rcases h with ⟨h, _⟩ | ⟨g', cap, cur, hv, _, hg, _, _, hs, ht⟩
  · cases h
  · cases hv
    have e1 : cur.toList = xs := by
      rw [← ht, List.take_of_length_le]
      simp [hs]
    rw [hg, ← e1]
theorem made_rep {w : World} {base g n : Nat} (h : w.ownsRow base 5 1 (.slice (some ⟨g, 0, none⟩) n n) n (madeCells (Value.int .u8 0).cells (n * 1)).toList) :
    w.heap[g]? = some (.cells (List.replicate n (.int .u8 0)).toArray 5 (0, 0)) := by
  rw [show (Value.int .u8 0).cells = #[.int .u8 0] from rfl, Nat.mul_one, toList_madeCells_one] at h
  exact owns_whole h

/-- A frame's bytes. -/
def framed (bs : List (BitVec 8)) : List (BitVec 8) := le4 (BitVec.ofNat 32 bs.length) ++ (le4 (crcSum bs) ++ bs)
theorem framed_length (bs : List (BitVec 8)) : (framed bs).length = 8 + bs.length := by
  simp [framed, le4_length]; omega

theorem framed_splice (bs : List (BitVec 8)) :
    splice (splice (splice (List.replicate (8 + bs.length) (Value.int .u8 0)) 0 ((le4 (BitVec.ofNat 32 bs.length)).map u8v)) 4 ((le4 (crcSum bs)).map u8v)) 8 (bs.map u8v) = (framed bs).map u8v := by
  have e1 : ∀ (A B C : List Value) (n : Nat), A.length = 4 → B.length = 4 → C.length = n → splice (splice (splice (List.replicate (8 + n) (Value.int .u8 0)) 0 A) 4 B) 8 C = A ++ (B ++ C) := by
    intro A B C n hA hB hC
    have s1 : splice (List.replicate (8 + n) (Value.int .u8 0)) 0 A = A ++ List.replicate (4 + n) (Value.int .u8 0) := by
      simp [splice, hA, List.drop_replicate]; omega
    have s2 : splice (A ++ List.replicate (4 + n) (Value.int .u8 0)) 4 B = A ++ (B ++ List.replicate n (Value.int .u8 0)) := by
      unfold splice
      rw [List.take_append_of_le_length (by omega), List.take_of_length_le (by omega), List.drop_append, hA, hB]
      simp [hA, List.drop_replicate]
    have s3 : splice (A ++ (B ++ List.replicate n (Value.int .u8 0))) 8 C = A ++ (B ++ C) := by
      unfold splice
      rw [List.take_append, List.take_of_length_le (by omega), List.take_append_of_le_length (by omega), List.take_of_length_le (by omega), List.drop_of_length_le (by simp; omega)]
      simp
    rw [s1, s2, s3]
  rw [e1 _ _ _ bs.length rfl rfl (by simp)]
  simp [framed]

theorem u8v_one (bs : List (BitVec 8)) : ∀ v ∈ bs.map u8v, v.oneCell' = true := by
  intro v hv
  obtain ⟨x, _, rfl⟩ := List.mem_map.1 hv
  rfl

/-- One part. -/
theorem parts_one {w : World} {p : Option Addr} {bs : List (BitVec 8)} {cp g : Nat} {t : TypeId} (hb : Bytes w p bs) (hl : bs.length < 9223372036854775808) (hg : w.heap[g]? = some (.cells #[.slice p bs.length cp] t (0, 0))) :
    Parts w (some ⟨g, 0, none⟩) [⟨p, cp, bs⟩] := by
  refine ⟨fun _ => ⟨g, 0, rfl, fun j x hj => ?_⟩, fun j x hj => ?_⟩
  · cases j with
    | zero => simp at hj; subst hj; rw [cellOf hg]; rfl
    | succ j => simp at hj
  · cases j with
    | zero => simp at hj; subst hj; exact ⟨hl, hb⟩
    | succ j => simp at hj

/-- Of one slice that was just laid. -/
theorem of_one (p : Option Addr) (bs : List (BitVec 8)) (cp : Nat) (w W : World) (ht : Tab w) (hl : bs.length < 9223372036854775808) (hb : Bytes w p bs) (hB : Below w.heap.size w W) (hlt : w.heap.size < W.heap.size) (hW : W.heap[w.heap.size]? = some (.cells #[.slice p bs.length cp] 30 (0, 0))) :
    Calls Tryz.prog 113 #[.slice (some ⟨w.heap.size, 0, none⟩) 1 1] W fun e w' => e = .returned (u32v (crcSum bs)) ∧ Below w.heap.size w w' := by
  refine (of_any (some ⟨w.heap.size, 0, none⟩) [⟨p, cp, bs⟩] 1 W (below_tab hB ht.lt ht) (by simp) (parts_one (below_bytes hB hb) hl hW)).mono ?_
  rintro e w' ⟨rfl, hB'⟩
  refine ⟨by simp [allBytes], hB.trans (hB'.mono (Nat.le_of_lt hlt))⟩

theorem of_drew (p : Option Addr) (bs : List (BitVec 8)) (cp : Nat) (w : World) (ht : Tab w) (hl : bs.length < 9223372036854775808) (hb : Bytes w p bs) :
    Calls Tryz.prog 113 #[.slice (some ⟨w.heap.size, 0, none⟩) 1 1] (w.alloc (.cells #[.slice p bs.length cp] 30)).drew fun e w' => e = .returned (u32v (crcSum bs)) ∧ Below w.heap.size w w' :=
  of_one p bs cp w _ ht hl hb (((Below.refl _ _).alloc (Nat.le_refl _) _).drew) (by show _ < (w.alloc _).heap.size; simp) (heap_alloc_new w _)

set_option maxRecDepth 8000 in
set_option maxHeartbeats 1000000 in
theorem frame_yes (p : Option Addr) (bs : List (BitVec 8)) (cp : Nat) (w : World) (ht : Tab w) (hl : bs.length ≤ 1048576) (hb : Bytes w p bs) :
    Calls Tryz.prog 111 #[.slice p bs.length cp] w fun e w' => e = .returned (.tuple #[.slice (some ⟨w.heap.size, 0, none⟩) (8 + bs.length) (8 + bs.length), .int .i64 0]) ∧
      w'.heap[w.heap.size]? = some (.cells ((framed bs).map u8v).toArray 5 (0, 0)) ∧ Below w.heap.size w w' := by
  obtain ⟨i0, hi0, hz0, hz1, hz2⟩ := info_parts Tryz.info5
  have hI : ¬ (1048576 : Int) < bs.length := by omega
  have HT : Hid (Tab w) := ht
  have HB : Hid (Bytes w p bs) := hb
  clear ht hb
  go_enter Tryz.func111, Tryz.ntmps111
  go_wp2_with (at_make; refine wpList_make_full _ rfl _ _ 30 rfl 0 5 i0 (.int .u8 0) 1 Tryz.underlying30 hi0 hz0 hz1 .i64 .i64 _ _ (8 + bs.length) rfl rfl (by go_num) (by go_num) (by rw [hz2]; omega) (by unfold maxLen; omega) (Nat.zero_le _) ?_; intro w1 hrow hg1; have hrep : Hid (w1.heap[w.heap.size]? = some (.cells (List.replicate (8 + bs.length) (.int .u8 0)).toArray 5 (0, 0))) := made_rep hrow; clear hrow)
  have hn : (BitVec.ofNat 32 bs.length).toNat = bs.length := by rw [BitVec.toNat_ofNat]; exact Nat.mod_eq_of_lt (by omega)
  have c19 := put_any (BitVec.ofNat 32 bs.length) w.heap.size 0 (8 + bs.length) _ w1 hrep.out (by simp; omega)
  rw [show u32v (BitVec.ofNat 32 bs.length) = .int .u32 (bs.length : Int) by unfold u32v; rw [hn]] at c19
  obtain ⟨L1, hL1⟩ : ∃ L1, L1 = splice (List.replicate (8 + bs.length) (Value.int .u8 0)) 0 ((le4 (BitVec.ofNat 32 bs.length)).map u8v) := ⟨_, rfl⟩
  rw [← hL1] at c19
  have hB1 : Below w.heap.size w w1 := (Below.refl _ w).grown hg1 (Nat.le_refl _) (by simp)
  have hlL1 : L1.length = 8 + bs.length := by rw [hL1, length_splice _ _ _ (by simp [le4_length]; omega)]; simp
  refine c19.mono ?_
  rintro e w2 ⟨rfl, hL2, hB2, hz2'⟩
  clear c19 hrep hg1
  have hB12 : Below w.heap.size w w2 := hB1.trans hB2
  have hlt2 : w.heap.size < w2.heap.size := (Array.getElem?_eq_some_iff.1 hL2).1
  have c13 := of_drew p bs cp w2 (below_tab hB12 HT.out.lt HT.out) (by omega) (below_bytes hB12 HB.out)
  have c19 : ∀ W, Below w2.heap.size w2 W → Calls Tryz.prog 128 #[.slice (some ⟨w.heap.size, 4, none⟩) 4 (8 + bs.length - 4), u32v (crcSum bs)] W fun e w' => e = .returned (.tuple #[]) ∧ w'.heap[w.heap.size]? = some (.cells (splice L1 4 ((le4 (crcSum bs)).map u8v)).toArray 5 (0, 0)) ∧ Below w.heap.size W w' ∧ w'.heap.size = W.heap.size :=
    fun W hW => put_any (crcSum bs) w.heap.size 4 (8 + bs.length - 4) L1 W ((hW.block _ hlt2).trans hL2) (by omega)
  have HB12 : Hid (Below w.heap.size w w2) := hB12
  have HL1 : Hid (L1 = splice (List.replicate (8 + bs.length) (Value.int .u8 0)) 0 ((le4 (BitVec.ofNat 32 bs.length)).map u8v)) := hL1
  clear hB1 hB2 hB12 hL1 hL2 hz2' hn
  go_wp2_with fail
  go_region_with (first
    | (go_at_call 113; refine c13.mono ?_; rintro e w3 ⟨rfl, hB3⟩)
    | (go_at_call 128; refine (c19 _ (by assumption)).mono ?_; rintro e w4 ⟨rfl, hL4, hB4, _⟩))
  all_goals
    have hL4' : Hid (w4.heap[w.heap.size]? = some (.cells (splice L1 4 ((le4 (crcSum bs)).map u8v)).toArray 5 (0, 0))) := hL4
    have hB4' : Below w.heap.size w w4 := (HB12.out.trans (hB3.mono (Nat.le_of_lt hlt2))).trans hB4
    have HB4 : Hid (Below w.heap.size w w4) := hB4'
    have hB4b : Hid (Bytes w4 p bs) := below_bytes hB4' HB.out
    have tok : True := trivial
    clear hL4 hB4 hB4' hB3 c13 c19 HB12
    by_cases hz : bs.length = 0
    · have hnil : bs = [] := List.eq_nil_of_length_eq_zero hz
      subst hnil
      go_wp2_with (have tk := tok; refine wpList_copy_nothing rfl _ _ 30 30 rfl 5 Tryz.underlying30 Tryz.size5 _ _ _ _ _ _ rfl rfl rfl ?_; clear tk tok)
      go_ret2
      refine ⟨rfl, ?_, HB4.out⟩
      rw [hL4'.out, HL1.out]
      rfl
    · have hne : ¬ (8 + bs.length = 8) := by omega
      have hpos : 0 < bs.length := by omega
      obtain ⟨bb, bo, rfl, hbs⟩ := hB4b.out hpos
      have HBS : Hid (∀ (j : Nat) (x : BitVec 8), bs[j]? = some x → w4.cell? ⟨bb, bo + j, none⟩ = some (u8v x)) := hbs
      clear hbs
      go_wp2_with (have tk := tok; refine wpList_copy_splice rfl _ _ 30 30 rfl 5 Tryz.underlying30 Tryz.size5 (some ⟨w.heap.size, 8, none⟩) (some ⟨bb, bo, none⟩) bs.length bs.length bs.length cp rfl rfl w.heap.size 8 (splice L1 4 ((le4 (crcSum bs)).map u8v)) 5 hL4'.out (bs.map u8v) (by simp) (fun _ => ⟨rfl, ⟨bb, bo, none⟩, rfl, fun j v hj => by
          rw [List.getElem?_map] at hj
          obtain ⟨x, hx, rfl⟩ := Option.map_eq_some_iff.1 hj
          rw [Addr.add_lit]; exact HBS.out j x hx⟩) (by rw [length_splice _ _ _ (by simp [le4_length]; omega), hlL1]; simp) (u8v_one bs) w.heap.size w HB4.out (Nat.le_refl _) ?_; clear tk tok; intro w5 hz5 hB5)
      go_ret2
      refine ⟨rfl, ?_, hB5⟩
      rw [hz5.out, HL1.out]
      congr 2
      exact congrArg _ (framed_splice bs)

end Go.Proofs.YtebdgcoandfocaaGreatDoor

/-
  Frame of the document's own text.
-/
namespace Go.Proofs.YtebdgcoandfocaaGreatDoor
open Go.RowKit

theorem run_append_none_any {P : Program} {w : World} (base : Nat) (t ty e : TypeId) (i : TypeInfo) (size : Nat) (ht : P.underlying t = some (.slice e)) (hi : P.info? e = some i)
    (v : Value) (n : Nat) (xs : List Value) (hown : w.ownsRow base e size v n xs) (c : Nat) :
    (Builtin.append_ #[t, t] ty #[v, .slice none 0 c]).run P w = .ok v w := by
  rcases hown.2 with ⟨rfl, rfl⟩ | ⟨g, cap, cur, rfl, _, _, hnc, _⟩
  · simp [Builtin.append_, run_underlying ht, sizeOf, typeInfo, hi, Builtin.lenOf, Builtin.firstCells]
  · simp [Builtin.append_, run_underlying ht, sizeOf, typeInfo, hi, Builtin.lenOf, Builtin.firstCells, hnc, storeCells]

theorem run_append_bytes {W : World} {base : Nat} {v : Value} {n : Nat} {xs : List Value} (ty : TypeId) (hown : W.ownsRow base 5 1 v n xs) (p : Option Addr) (bs : List (BitVec 8)) (cp : Nat) (hb : Bytes W p bs)
    (h63 : n + bs.length ≤ 1099511627776) (hbase : base ≤ W.heap.size) :
    ∃ v' W', (Builtin.append_ #[30, 30] ty #[v, .slice p bs.length cp]).run Tryz.prog W = .ok v' W' ∧ W'.ownsRow base 5 1 v' (n + bs.length) (xs ++ bs.map u8v) ∧ W.grownBy W' v.ownBlock ∧ (v'.ownBlock = v.ownBlock ∨ v'.ownBlock = some W.heap.size) := by
  obtain ⟨i0, hi0, hz0, hz1, hz2⟩ := info_parts Tryz.info5
  rcases p with _ | ad
  · have h0 : bs = [] := by
      by_cases hl : 0 < bs.length
      · obtain ⟨_, _, h, _⟩ := hb hl; cases h
      · exact List.eq_nil_of_length_eq_zero (by omega)
    subst h0
    refine ⟨v, W, run_append_none_any base 30 ty 5 i0 1 Tryz.underlying30 hi0 v n xs hown cp, by simpa using hown, ⟨rfl, rfl, rfl, Nat.le_refl _, fun _ _ _ => rfl⟩, .inl rfl⟩
  · obtain ⟨v', w', hr, h2, h3, _, h5⟩ := run_append_own_at (P := Tryz.prog) W base 30 ty 5 i0 (.int .u8 0) 1 1 Tryz.underlying30 hi0 hz0 hz1 hz2 rfl (by decide) v n xs hown ad bs.length cp (bs.map u8v) (by simp)
      (fun j u hj => by
        rw [List.getElem?_map] at hj
        obtain ⟨x, hx, rfl⟩ := Option.map_eq_some_iff.1 hj
        obtain ⟨b, o, e, hc⟩ := hb (Nat.lt_of_le_of_lt (Nat.zero_le _) (List.getElem?_eq_some_iff.1 hx).1)
        cases e
        rw [Addr.add_lit]
        exact hc j x hx) (u8v_one bs) (by unfold maxLen; omega) (by omega) hbase
    exact ⟨v', w', hr, h2, h3, h5⟩

theorem wpList_append_bytes {W : World} {ops : Array Oper} {rest : List Oper} {o : Oper} {a : Act} {Q : Exit → Act → World → Prop} (hgd : o.guard = none) (s x : Operand)
    (ho : o.op = .call { callee := .builtin .append, args := #[s, x], argTypes := #[30, 30] })
    (base : Nat) (v : Value) (n : Nat) (xs : List Value) (hs : a.eval s = v) (hown : W.ownsRow base 5 1 v n xs)
    (p : Option Addr) (bs : List (BitVec 8)) (cp : Nat) (hx : a.eval x = .slice p bs.length cp) (hb : Bytes W p bs) (h63 : n + bs.length ≤ 1099511627776) (hbase : base ≤ W.heap.size)
    (h : ∀ v' w', w'.ownsRow base 5 1 v' (n + bs.length) (xs ++ bs.map u8v) → W.grownBy w' v.ownBlock → (v'.ownBlock = v.ownBlock ∨ v'.ownBlock = some W.heap.size) → wpList Tryz.prog ops Q rest (a.put o.dst v') w') :
    wpList Tryz.prog ops Q (o :: rest) a W := by
  refine wpList_plain hgd fun K hK => ?_
  obtain ⟨v', w', hr, h2, h3, h5⟩ := run_append_bytes (ty := o.type) hown p bs cp hb h63 hbase
  unfold Oper.wp execOp
  simp only [ho, resolve, invoke, builtin, Sem.run_bind, Sem.run_pure, Result.andThen_ok, List.map_toArray, List.map_cons, List.map_nil, hs, hx, hr]
  exact hK _ _ (h v' w' h2 h3 h5)

/-- The bytes of a row that the call owns. -/
theorem owns_bytes {W : World} {base : Nat} {v : Value} {n : Nat} {bs : List (BitVec 8)} (h : W.ownsRow base 5 1 v n (bs.map u8v)) (hn : 0 < n) :
    ∃ g cap, v = .slice (some ⟨g, 0, none⟩) n cap ∧ base ≤ g ∧ Bytes W (some ⟨g, 0, none⟩) bs := by
  obtain ⟨g, cap, rfl, hg, _⟩ := h.form hn
  refine ⟨g, cap, rfl, hg, fun _ => ⟨g, 0, rfl, fun j x hj => ?_⟩⟩
  have hlen := h.1
  rw [List.length_map] at hlen
  have hlt := (List.getElem?_eq_some_iff.1 hj).1
  rw [Nat.zero_add, h.cellAt j (by omega), List.getElem?_map, hj]
  rfl

/-- The bytes of a whole block. -/
theorem bytes_block {W : World} {g : Nat} {bs : List (BitVec 8)} {f : Nat × Nat} (h : W.heap[g]? = some (.cells (bs.map u8v).toArray 5 f)) : Bytes W (some ⟨g, 0, none⟩) bs := by
  refine fun _ => ⟨g, 0, rfl, fun j x hj => ?_⟩
  rw [Nat.zero_add, cellOf h j, List.getElem?_toArray, List.getElem?_map, hj]
  rfl

end Go.Proofs.YtebdgcoandfocaaGreatDoor

/-
  Unframe of package crc.
-/
namespace Go.Proofs.YtebdgcoandfocaaGreatDoor
open Go.RowKit

/-- What Unframe answers: the bytes, how many it takes, the error. -/
def unf (bs : List (BitVec 8)) : List (BitVec 8) × Nat × Int :=
  if bs.length < 8 then ([], 0, 22)
  else if 1048576 < leN (bs.take 4) ∨ bs.length - 8 < leN (bs.take 4) then ([], 0, 22)
  else if (crcSum ((bs.drop 8).take (leN (bs.take 4)))).toNat ≠ leN ((bs.drop 4).take 4) then ([], 0, 74)
  else ((bs.drop 8).take (leN (bs.take 4)), 8 + leN (bs.take 4), 0)

/-- Both Unframes answer so. -/
def Unframed (w : World) (bs : List (BitVec 8)) (e : Ending) (w' : World) : Prop :=
  ∃ q c, c = (unf bs).1.length ∧ e = .returned (.tuple #[.slice q (unf bs).1.length c, .int .i64 ((unf bs).2.1 : Int), .int .i64 (unf bs).2.2]) ∧ Bytes w' q (unf bs).1 ∧ Below w.heap.size w w'

theorem bytes_nil (w : World) (p : Option Addr) : Bytes w p [] := fun h => by simp at h

theorem bytes_drop {w : World} {g o : Nat} {bs : List (BitVec 8)} (hb : Bytes w (some ⟨g, o, none⟩) bs) (k n : Nat) : Bytes w (some ⟨g, o + k, none⟩) ((bs.drop k).take n) := by
  intro hl
  have hl' : 0 < bs.length := by
    rcases Nat.eq_zero_or_pos bs.length with h | h
    · simp [List.eq_nil_of_length_eq_zero h] at hl
    · exact h
  obtain ⟨b, o', e, hx⟩ := hb hl'
  cases e
  refine ⟨g, o + k, rfl, fun j x hj => ?_⟩
  rw [List.getElem?_take] at hj
  split at hj
  · rw [List.getElem?_drop] at hj
    rw [Nat.add_assoc]
    exact hx (k + j) x hj
  · cases hj

theorem list4 {l : List (BitVec 8)} (h : l.length = 4) : ∃ a b c d, l = [a, b, c, d] := by
  match l, h with
  | [a, b, c, d], _ => exact ⟨a, b, c, d, rfl⟩
theorem leN_lt : ∀ l : List (BitVec 8), leN l < 256 ^ l.length
  | [] => by simp [leN]
  | b :: l => by
    have := leN_lt l
    have hb := b.isLt
    simp only [leN, List.length_cons, Nat.pow_succ]
    omega

set_option maxRecDepth 8000 in
set_option maxHeartbeats 400000 in
theorem unframe_short (p : Option Addr) (bs : List (BitVec 8)) (cp : Nat) (w : World) (h : bs.length < 8) :
    Calls Tryz.prog 96 #[.slice p bs.length cp] w (Unframed w bs) := by
  have hu : unf bs = ([], 0, 22) := by unfold unf; rw [if_pos h]
  have hI : (bs.length : Int) < 8 := by omega
  have HU : Hid (unf bs = ([], 0, 22)) := hu
  clear hu
  go_enter Tryz.func96, Tryz.ntmps96
  go_wp2
  go_ret3
  unfold Unframed
  rw [HU.out]
  exact ⟨none, 0, rfl, rfl, bytes_nil _ _, Below.refl _ _⟩

set_option maxRecDepth 8000 in
set_option maxHeartbeats 1000000 in
theorem unframe_long (g o : Nat) (bs : List (BitVec 8)) (cp : Nat) (w : World) (ht : Tab w) (h : 8 ≤ bs.length) (hlen : bs.length < 1099511627776) (hcap : bs.length ≤ cp) (hb : Bytes w (some ⟨g, o, none⟩) bs) :
    Calls Tryz.prog 96 #[.slice (some ⟨g, o, none⟩) bs.length cp] w (Unframed w bs) := by
  obtain ⟨i0, hi0, hz0, hz1, hz2⟩ := info_parts Tryz.info5
  obtain ⟨b0, b1, b2, b3, e4⟩ := list4 (l := bs.take 4) (by rw [List.length_take]; omega)
  obtain ⟨b4, b5, b6, b7, e8⟩ := list4 (l := (bs.drop 4).take 4) (by rw [List.length_take, List.length_drop]; omega)
  have hB0 : Bytes w (some ⟨g, o, none⟩) [b0, b1, b2, b3] := by have := bytes_drop hb 0 4; rw [List.drop_zero, e4] at this; exact this
  have hB4 : Bytes w (some ⟨g, o + 4, none⟩) [b4, b5, b6, b7] := by have := bytes_drop hb 4 4; rw [e8] at this; exact this
  obtain ⟨n, hn⟩ : ∃ n, n = leN [b0, b1, b2, b3] := ⟨_, rfl⟩
  obtain ⟨m, hm⟩ : ∃ m, m = leN [b4, b5, b6, b7] := ⟨_, rfl⟩
  have hn32 : n < 4294967296 := by rw [hn]; exact Nat.lt_of_lt_of_eq (leN_lt [b0, b1, b2, b3]) (by simp)
  have hm32 : m < 4294967296 := by rw [hm]; exact Nat.lt_of_lt_of_eq (leN_lt [b4, b5, b6, b7]) (by simp)
  have c21a := fun c => word_any g o c b0 b1 b2 b3 w hB0
  have c21b : ∀ W c, Below w.heap.size w W → Calls Tryz.prog 112 #[.slice (some ⟨g, o + 4, none⟩) 4 c] W fun e w' => e = .returned (.int .u32 (m : Nat)) ∧ w' = W := fun W c hW => by
    rw [hm]; exact word_any g (o + 4) c b4 b5 b6 b7 W (below_bytes hW hB4)
  rw [← hn] at c21a
  have hu : unf bs = if 1048576 < n ∨ bs.length - 8 < n then ([], 0, 22) else if (crcSum ((bs.drop 8).take n)).toNat ≠ m then ([], 0, 74) else ((bs.drop 8).take n, 8 + n, 0) := by
    unfold unf; rw [if_neg (by omega), e4, e8, ← hn, ← hm]
  have hI : ¬ (bs.length : Int) < 8 := by omega
  have HU : Hid (unf bs = if 1048576 < n ∨ bs.length - 8 < n then ([], 0, 22) else if (crcSum ((bs.drop 8).take n)).toNat ≠ m then ([], 0, 74) else ((bs.drop 8).take n, 8 + n, 0)) := hu
  have HT : Hid (Tab w) := ht
  have HB : Hid (Bytes w (some ⟨g, o, none⟩) bs) := hb
  clear hu hn hm e4 e8 hB0 hB4 ht hb
  by_cases h1 : 1048576 < n
  · have h1I : (1048576 : Int) < n := by omega
    go_enter Tryz.func96, Tryz.ntmps96
    go_wp2_with (go_at_call 112; refine Calls_on (c21a _) ?_)
    go_ret3
    unfold Unframed
    rw [HU.out, if_pos (.inl h1)]
    exact ⟨none, 0, rfl, rfl, bytes_nil _ _, Below.refl _ _⟩
  have h1I : ¬ (1048576 : Int) < n := by omega
  by_cases h2 : bs.length - 8 < n
  · have h2I : (bs.length : Int) - 8 < n := by omega
    go_enter Tryz.func96, Tryz.ntmps96
    go_wp2_with (go_at_call 112; refine Calls_on (c21a _) ?_)
    go_ret3
    unfold Unframed
    rw [HU.out, if_pos (.inr h2)]
    exact ⟨none, 0, rfl, rfl, bytes_nil _ _, Below.refl _ _⟩
  have h2I : ¬ (bs.length : Int) - 8 < n := by omega
  obtain ⟨inn, hinn⟩ : ∃ inn, inn = (bs.drop 8).take n := ⟨_, rfl⟩
  have hil : inn.length = n := by rw [hinn, List.length_take, List.length_drop]; omega
  have hBi : Bytes w (some ⟨g, o + 8, none⟩) inn := by rw [hinn]; exact bytes_drop HB.out 8 n
  have HU2 : Hid (unf bs = if (crcSum inn).toNat ≠ m then ([], 0, 74) else (inn, 8 + n, 0)) := by
    have := HU.out
    rw [if_neg (by omega), ← hinn] at this
    exact this
  clear hinn HU
  subst hil
  have c13 : ∀ (q : Option Addr) (c : Nat), Bytes w q inn → Calls Tryz.prog 113 #[.slice (some ⟨w.heap.size, 0, none⟩) 1 1] (w.alloc (.cells #[.slice q inn.length c] 30)).drew fun e w' => e = .returned (u32v (crcSum inn)) ∧ Below w.heap.size w w' :=
    fun q c hq => of_drew q inn c w HT.out (by omega) hq
  have HBi : Hid (Bytes w (some ⟨g, o + 8, none⟩) inn) := hBi
  clear hBi
  have HT2 : Hid (Bytes w (some ⟨g, o, none⟩) bs) := HB.out
  clear HB
  by_cases hc8 : cp = 8
  · have hnil : inn = [] := List.eq_nil_of_length_eq_zero (by omega)
    subst hnil
    have c13' : ∀ (q : Option Addr) (c : Nat), Calls Tryz.prog 113 #[.slice (some ⟨w.heap.size, 0, none⟩) 1 1] (w.alloc (.cells #[.slice q 0 c] 30)).drew fun e w' => e = .returned (u32v (crcSum [])) ∧ Below w.heap.size w w' := fun q c => c13 q c (bytes_nil _ _)
    clear c13 HBi
    go_enter Tryz.func96, Tryz.ntmps96
    go_wp2_with (go_at_call 112; refine Calls_on (c21a _) ?_)
    go_region_with (first
      | (go_at_call 113; refine (c13' _ _).mono ?_; rintro e w3 ⟨rfl, hB3⟩)
      | (go_at_call 112; refine Calls_on (c21b _ _ (by assumption)) ?_))
    all_goals
      obtain ⟨bb, hbb⟩ : ∃ bb, bb = (((crcSum []).toNat : Int) != (m : Int)) := ⟨_, rfl⟩
      have HU3 : Hid (unf bs = if bb = true then ([], 0, 74) else ([], 8 + ([] : List (BitVec 8)).length, 0)) := by
        show _ = _
        rw [HU2.out, hbb]
        by_cases hq : (crcSum []).toNat = m <;> simp [hq]; omega
      have HB3 : Hid (Below w.heap.size w w3) := hB3
      rw [← hbb]
      clear hbb c13' c21a c21b hB3
      have tok : True := trivial
      cases bb
      · go_wp2_with (first
          | (at_make; refine wpList_make_full _ rfl _ _ 30 rfl 0 5 i0 (.int .u8 0) 1 Tryz.underlying30 hi0 hz0 hz1 .u32 .u32 _ _ 0 rfl rfl rfl rfl (by omega) (by unfold maxLen; omega) (Nat.zero_le _) ?_; intro w4 hrow hg4; have HB4 : Hid (Below w.heap.size w w4) := HB3.out.grown hg4 HB3.out.size (by simp); clear hrow hg4)
          | (have tk := tok; refine wpList_copy_nothing rfl _ _ 30 30 rfl 5 Tryz.underlying30 Tryz.size5 _ _ _ _ _ _ rfl rfl rfl ?_; clear tk tok))
        go_ret3
        unfold Unframed
        rw [HU3.out]
        exact ⟨_, _, rfl, rfl, bytes_nil _ _, HB4.out⟩
      · go_wp2
        go_ret3
        unfold Unframed
        rw [HU3.out]
        exact ⟨_, _, rfl, rfl, bytes_nil _ _, HB3.out⟩
  · go_enter Tryz.func96, Tryz.ntmps96
    go_wp2_with (go_at_call 112; refine Calls_on (c21a _) ?_)
    go_region_with (first
      | (go_at_call 113; refine (c13 _ _ HBi.out).mono ?_; rintro e w3 ⟨rfl, hB3⟩)
      | (go_at_call 112; refine Calls_on (c21b _ _ (by assumption)) ?_))
    all_goals
      obtain ⟨bb, hbb⟩ : ∃ bb, bb = (((crcSum inn).toNat : Int) != (m : Int)) := ⟨_, rfl⟩
      have HU3 : Hid (unf bs = if bb = true then ([], 0, 74) else (inn, 8 + inn.length, 0)) := by
        show _ = _
        rw [HU2.out, hbb]
        by_cases hq : (crcSum inn).toNat = m <;> simp [hq]; omega
      have HB3 : Hid (Below w.heap.size w w3) := hB3
      rw [← hbb]
      clear hbb c13 c21a c21b hB3
      have tok : True := trivial
      cases bb
      · have HS : Hid (∀ (j : Nat) (x : BitVec 8), inn[j]? = some x → w.cell? ⟨g, o + 8 + j, none⟩ = some (u8v x)) := by
          intro j x hj
          obtain ⟨_, _, e, hx⟩ := HBi.out (Nat.lt_of_le_of_lt (Nat.zero_le _) (List.getElem?_eq_some_iff.1 hj).1)
          cases e
          exact hx j x hj
        go_wp2_with (first
          | (at_make; refine wpList_make_full _ rfl _ _ 30 rfl 0 5 i0 (.int .u8 0) 1 Tryz.underlying30 hi0 hz0 hz1 .u32 .u32 _ _ inn.length rfl rfl rfl rfl (by rw [hz2]; omega) (by unfold maxLen; omega) (Nat.zero_le _) ?_; intro w4 hrow hg4; have hrep : Hid (w4.heap[w3.heap.size]? = some (.cells (List.replicate inn.length (.int .u8 0)).toArray 5 (0, 0))) := made_rep hrow; have HB4 : Hid (Below w.heap.size w w4) := HB3.out.grown hg4 HB3.out.size (by simp); clear hrow hg4)
          | (have tk := tok; refine wpList_copy_splice rfl _ _ 30 30 rfl 5 Tryz.underlying30 Tryz.size5 (some ⟨w3.heap.size, 0, none⟩) (some ⟨g, o + 8, none⟩) inn.length inn.length (8 + inn.length - 8) (cp - 8) rfl rfl w3.heap.size 0 (List.replicate inn.length (.int .u8 0)) 5 hrep.out (inn.map u8v) (by simp) (fun _ => ⟨rfl, ⟨g, o + 8, none⟩, rfl, fun j v hj => by
              rw [List.getElem?_map] at hj
              obtain ⟨x, hx, rfl⟩ := Option.map_eq_some_iff.1 hj
              have hc := HS.out j x hx
              rw [Addr.add_lit]; exact (HB4.out.cell (p := ⟨g, o + 8 + j, none⟩) (cell_lt hc)).trans hc⟩) (by simp) (u8v_one inn) w.heap.size w HB4.out HB3.out.size ?_; clear tk tok; intro w5 hz5 hB5))
        go_ret3
        unfold Unframed
        rw [HU3.out]
        have hz6 := hz5.out
        rw [show splice (List.replicate inn.length (Value.int .u8 0)) 0 (inn.map u8v) = inn.map u8v by simp [splice]] at hz6
        exact ⟨_, _, rfl, rfl, bytes_block hz6, hB5⟩
      · go_wp2
        go_ret3
        unfold Unframed
        rw [HU3.out]
        exact ⟨_, _, rfl, rfl, bytes_nil _ _, HB3.out⟩

end Go.Proofs.YtebdgcoandfocaaGreatDoor

/-
  The small functions of package device: what each call answers and does to memory.
-/
namespace Go.Proofs.YtebdgcoandfocaaGreatDoor
open Go.RowKit Go.Maps

/-- The five cells of a device. -/
def devCells (v : Value) (m : Nat) (fused : Bool) (left count : Int) : Array Value :=
  #[v, .map (some m), .bool fused, .int .i64 left, .int .i64 count]

/-- Block a of w is a device's struct. -/
def IsDevAt (w : World) (a : Nat) (v : Value) (m : Nat) (fused : Bool) (left count : Int) : Prop :=
  w.heap[a]? = some (.cells (devCells v m fused left count) 127 (0, 0))

set_option maxRecDepth 8000 in
set_option maxHeartbeats 400000 in
theorem hold_any (v : Value) (a : Option Addr) (l c : Nat) (hv : v = .slice a l c) (w : World) :
    Calls Tryz.prog 48 #[v] w fun e w' => e = .returned (.pointer (some ⟨w.heap.size + 1, 0, none⟩)) ∧
      w' = (w.alloc (.map #[] 0)).alloc (.cells (devCells v w.heap.size false 0 0) 127) := by
  subst hv
  have hmm := @run_makeMap Tryz.prog
  go_enter Tryz.func48, Tryz.ntmps48
  go_wp2
  go_ret
  exact ⟨rfl, rfl⟩

set_option maxRecDepth 8000 in
set_option maxHeartbeats 400000 in
theorem dead_any (a : Nat) (v : Value) (m : Nat) (fused : Bool) (left count : Int) (w : World) (h : IsDevAt w a v m fused left count) :
    Calls Tryz.prog 71 #[.pointer (some ⟨a, 0, none⟩)] w fun e w' => e = .returned (.bool (fused && decide (left < 1))) ∧ w' = w := by
  have h2 := cellOf h 2
  have h3 := cellOf h 3
  simp [devCells] at h2 h3
  clear h
  cases fused
  · go_enter Tryz.func71, Tryz.ntmps71
    go_wp2
    go_ret
    exact ⟨rfl, rfl⟩
  · go_enter Tryz.func71, Tryz.ntmps71
    go_wp2
    go_ret
    exact ⟨by simp, rfl⟩

set_option maxRecDepth 8000 in
set_option maxHeartbeats 400000 in
theorem blocks_nil (w : World) :
    Calls Tryz.prog 69 #[.pointer none] w fun e w' => e = .returned (.int .i64 0) ∧ w' = w := by
  go_enter Tryz.func69, Tryz.ntmps69
  go_wp2
  go_ret
  exact ⟨rfl, rfl⟩

set_option maxRecDepth 8000 in
set_option maxHeartbeats 400000 in
theorem blocks_any (a : Nat) (p : Option Addr) (n c : Nat) (m : Nat) (fused : Bool) (left count : Int) (w : World) (h : IsDevAt w a (.slice p n c) m fused left count) :
    Calls Tryz.prog 69 #[.pointer (some ⟨a, 0, none⟩)] w fun e w' => e = .returned (.int .i64 n) ∧ w' = w := by
  have h0 := cellOf h 0
  simp [devCells] at h0
  clear h
  go_enter Tryz.func69, Tryz.ntmps69
  go_wp2
  go_ret
  exact ⟨rfl, rfl⟩

set_option maxRecDepth 8000 in
set_option maxHeartbeats 400000 in
theorem has_nil (i : Int) (w : World) :
    Calls Tryz.prog 93 #[.pointer none, .int .i64 i] w fun e w' => e = .returned (.bool false) ∧ w' = w := by
  by_cases h : 0 ≤ i
  · go_enter Tryz.func93, Tryz.ntmps93
    go_wp2_with (go_at_call 69; refine (blocks_nil _).mono ?_; rintro e w' ⟨rfl, rfl⟩)
    go_ret
    exact ⟨by simp; omega, rfl⟩
  · go_enter Tryz.func93, Tryz.ntmps93
    go_wp2_with (go_at_call 69; refine (blocks_nil _).mono ?_; rintro e w' ⟨rfl, rfl⟩)
    go_ret
    exact ⟨rfl, rfl⟩

set_option maxRecDepth 8000 in
set_option maxHeartbeats 400000 in
theorem has_any (i : Int) (a : Nat) (p : Option Addr) (n c : Nat) (m : Nat) (fused : Bool) (left count : Int) (w : World) (h : IsDevAt w a (.slice p n c) m fused left count) :
    Calls Tryz.prog 93 #[.pointer (some ⟨a, 0, none⟩), .int .i64 i] w fun e w' => e = .returned (.bool (decide (0 ≤ i ∧ i < n))) ∧ w' = w := by
  have hb := blocks_any a p n c m fused left count w h
  clear h
  by_cases h : 0 ≤ i
  · go_enter Tryz.func93, Tryz.ntmps93
    go_wp2_with (go_at_call 69; refine hb.mono ?_; rintro e w' ⟨rfl, rfl⟩)
    go_ret
    exact ⟨by simp [h], rfl⟩
  · go_enter Tryz.func93, Tryz.ntmps93
    go_wp2_with (go_at_call 69; refine hb.mono ?_; rintro e w' ⟨rfl, rfl⟩)
    go_ret
    exact ⟨by simp; omega, rfl⟩

set_option maxRecDepth 8000 in
set_option maxHeartbeats 400000 in
theorem count_any (a : Nat) (v : Value) (m : Nat) (fused : Bool) (left count : Int) (w : World) (h : IsDevAt w a v m fused left count) :
    Calls Tryz.prog 59 #[.pointer (some ⟨a, 0, none⟩)] w fun e w' => e = .returned (.int .i64 count) ∧ w' = w := by
  have h4 := cellOf h 4
  simp [devCells] at h4
  clear h
  go_enter Tryz.func59, Tryz.ntmps59
  go_wp2
  go_ret
  exact ⟨rfl, rfl⟩

/-- What is left of a fuse behind one more step. -/
def stepped (fused : Bool) (left : Int) : Int := if fused then left - 1 else left

theorem IsDevAt.set3 {w : World} {a : Nat} {v : Value} {m : Nat} {f : Bool} {l c : Int} (h : IsDevAt w a v m f l c) (l' : Int) : IsDevAt (w.setCell ⟨a, 3, none⟩ (.int .i64 l')) a v m f l' c := by
  unfold IsDevAt at *; simp [World.setCell, Array.getElem?_modify, h, devCells]
theorem IsDevAt.set4 {w : World} {a : Nat} {v : Value} {m : Nat} {f : Bool} {l c : Int} (h : IsDevAt w a v m f l c) (c' : Int) : IsDevAt (w.setCell ⟨a, 4, none⟩ (.int .i64 c')) a v m f l c' := by
  unfold IsDevAt at *; simp [World.setCell, Array.getElem?_modify, h, devCells]
theorem IsDevAt.set1 {w : World} {a : Nat} {v : Value} {m : Nat} {f : Bool} {l c : Int} (h : IsDevAt w a v m f l c) (m' : Nat) : IsDevAt (w.setCell ⟨a, 1, none⟩ (.map (some m'))) a v m' f l c := by
  unfold IsDevAt at *; simp [World.setCell, Array.getElem?_modify, h, devCells]

/-- A store into block a turns block a alone. -/
theorem grown_set (w : World) (p : Addr) (u : Value) : w.grownBy (w.setCell p u) (some p.block) :=
  ⟨rfl, rfl, rfl, by simp [World.setCell], fun k _ hk => Below.heap_setCell _ _ _ _ (fun e => hk (by rw [e]))⟩

theorem grown_trans {a b c : World} {row : Option Nat} (h : a.grownBy b row) (k : b.grownBy c row) : a.grownBy c row :=
  ⟨k.os.trans h.os, k.tape.trans h.tape, k.output.trans h.output, Nat.le_trans h.size k.size, fun i hi hn => (k.block i (Nat.lt_of_lt_of_le hi h.size) hn).trans (h.block i hi hn)⟩

set_option maxRecDepth 8000 in
set_option maxHeartbeats 400000 in
theorem done_any (a : Nat) (v : Value) (m : Nat) (fused : Bool) (left count : Int) (w : World) (h : IsDevAt w a v m fused left count)
    (hc0 : 0 ≤ count) (hc1 : count < 1000000000) (hl : fused = true → 1 ≤ left ∧ left ≤ 9223372036854775807) :
    Calls Tryz.prog 72 #[.pointer (some ⟨a, 0, none⟩)] w fun e w' => e = .returned (.tuple #[]) ∧ IsDevAt w' a v m fused (stepped fused left) (count + 1) ∧ w.grownBy w' (some a) ∧ w'.heap.size = w.heap.size := by
  have h2 := cellOf h 2
  have h3 := cellOf h 3
  have h4 := cellOf h 4
  have f3 := frozenOf h 3
  have f4 := frozenOf h 4
  have H : Hid (IsDevAt w a v m fused left count) := h
  simp [devCells] at h2 h3 h4
  clear h
  cases fused
  · go_enter Tryz.func72, Tryz.ntmps72
    go_wp2
    go_end0
    exact ⟨rfl, H.out.set4 _, grown_set _ _ _, by simp [World.setCell]⟩
  · obtain ⟨hl1, hl2⟩ := hl rfl
    go_enter Tryz.func72, Tryz.ntmps72
    go_wp2
    go_end0
    exact ⟨rfl, (H.out.set4 _).set3 _, grown_trans (grown_set _ _ _) (grown_set _ _ _), by simp [World.setCell]⟩

end Go.Proofs.YtebdgcoandfocaaGreatDoor

/-
  Making a device, reading a block of it, burning its fuse, flushing it.
-/
namespace Go.Proofs.YtebdgcoandfocaaGreatDoor
open Go.RowKit Go.Maps

theorem Tryz.info155 : (Tryz.prog.info? 155).map (fun i => (i.zero, i.size, i.bytes)) = some (some (.pointer none), 1, 8) := by kernel_rfl
/-- A row of zero bytes. -/
def zeros : List Value := List.replicate 512 (.int .u8 0)

theorem zeros_length : zeros.length = 512 := by rw [zeros, List.length_replicate]

theorem made_zeros {w : World} {base g : Nat} (h : w.ownsRow base 5 1 (.slice (some ⟨g, 0, none⟩) 512 512) 512 (madeCells (Value.int .u8 0).cells (512 * 1)).toList) :
    w.heap[g]? = some (.cells zeros.toArray 5 (0, 0)) := by
  rw [show (Value.int .u8 0).cells = #[.int .u8 0] from rfl, Nat.mul_one, toList_madeCells_one] at h
  exact owns_whole h

theorem splice_all {α : Type} (L cs : List α) (h : cs.length = L.length) : splice L 0 cs = cs := by
  unfold splice
  simp [h]

set_option maxRecDepth 8000 in
set_option maxHeartbeats 400000 in
/-- A new device: three new blocks: its row of blocks (all nil), its map (empty), its struct. -/
theorem new_yes (n : Nat) (w : World) (h1 : 1 ≤ n) (h2 : n ≤ 65536) :
    Calls Tryz.prog 34 #[.int .i64 n] w fun e w' => ∃ a m, e = .returned (.pointer (some ⟨a, 0, none⟩)) ∧ w.heap.size ≤ m ∧ w.heap.size < m ∧ m < a ∧ a < w'.heap.size ∧
      IsDevAt w' a (.slice (some ⟨w.heap.size, 0, none⟩) n n) m false 0 0 ∧ w'.heap[w.heap.size]? = some (.cells (List.replicate n (.pointer none)).toArray 155 (0, 0)) ∧
      w'.heap[m]? = some (.map #[] 0) ∧ Below w.heap.size w w' := by
  obtain ⟨i0, hi, hz0, hz1, hz2⟩ := info_parts Tryz.info155
  go_enter Tryz.func34, Tryz.ntmps34
  go_wp2_with (first
    | (at_make; refine wpList_make_full _ rfl _ _ 112 rfl 0 155 i0 (.pointer none) 1 Tryz.underlying112 hi hz0 hz1 .i64 .i64 _ _ n rfl rfl rfl rfl (by rw [hz2]; omega) (by unfold maxLen; omega) (Nat.zero_le _) ?_; intro w1 hrow hg1)
    | (go_at_call 48; refine (hold_any _ _ _ _ rfl _).mono ?_; rintro e w' ⟨rfl, rfl⟩))
  go_ret
  have hw := owns_whole hrow
  rw [Nat.mul_one] at hw
  have hlt := (Array.getElem?_eq_some_iff.1 hw).1
  refine ⟨w1.heap.size + 1, w1.heap.size, rfl, hg1.size, hlt, by omega, by simp, ?_, ?_, ?_, ?_⟩
  · have := heap_alloc_new (w1.alloc (.map #[] 0)) (.cells (devCells (.slice (some ⟨w.heap.size, 0, none⟩) n n) w1.heap.size false 0 0) 127)
    rw [World.size_alloc] at this
    exact this
  · rw [Below.heap_alloc _ _ _ (by simp; omega), Below.heap_alloc _ _ _ hlt, hw, show (Value.pointer none).cells = #[.pointer none] from rfl]
    simp [← toList_madeCells_one]
  · rw [Below.heap_alloc _ _ _ (by simp)]
    exact (MapKept.heap_alloc w1 _).1
  · exact (((Below.refl _ w).grown hg1 (Nat.le_refl _) (by simp)).alloc hg1.size _).alloc (by simp; have := hg1.size; omega) _

set_option maxRecDepth 8000 in
set_option maxHeartbeats 400000 in
theorem read_no (i : Int) (a : Nat) (p : Option Addr) (n c : Nat) (m : Nat) (fused : Bool) (left count : Int) (w : World) (h : IsDevAt w a (.slice p n c) m fused left count) (hi : ¬ (0 ≤ i ∧ i < n)) :
    Calls Tryz.prog 75 #[.pointer (some ⟨a, 0, none⟩), .int .i64 i] w fun e w' => e = .returned (.tuple #[.slice none 0 0, .int .i64 22]) ∧ w' = w := by
  have hb := has_any i a p n c m fused left count w h
  rw [decide_eq_false hi] at hb
  clear h
  go_enter Tryz.func75, Tryz.ntmps75
  go_wp2_with (go_at_call 93; refine Calls_on hb ?_)
  go_ret2
  exact ⟨rfl, rfl⟩

/-- What a pointer to a block reads as: nil as zeros. -/
def Holds512 (w : World) (p : Option Addr) (l : List Value) : Prop :=
  (p = none ∧ l = zeros) ∨ ∃ g, p = some ⟨g, 0, none⟩ ∧ w.heap[g]? = some (.cells l.toArray 158 (0, 0)) ∧ l.length = 512 ∧ ∀ v ∈ l, v.oneCell' = true

set_option maxRecDepth 8000 in
set_option maxHeartbeats 1000000 in
theorem read_yes (i : Nat) (a s : Nat) (n c : Nat) (m : Nat) (fused : Bool) (left count : Int) (cur : Array Value) (p : Option Addr) (l : List Value) (w : World)
    (h : IsDevAt w a (.slice (some ⟨s, 0, none⟩) n c) m fused left count) (hs : w.heap[s]? = some (.cells cur 155 (0, 0))) (hi : i < n) (hcur : cur[i]? = some (.pointer p)) (hp : Holds512 w p l) :
    Calls Tryz.prog 75 #[.pointer (some ⟨a, 0, none⟩), .int .i64 i] w fun e w' => e = .returned (.tuple #[.slice (some ⟨w.heap.size, 0, none⟩) 512 512, .int .i64 0]) ∧
      w'.heap[w.heap.size]? = some (.cells l.toArray 5 (0, 0)) ∧ Below w.heap.size w w' := by
  have hb := has_any i a _ n c m fused left count w h
  rw [decide_eq_true (by omega)] at hb
  obtain ⟨i0, hi0, hz0, hz1, hz2⟩ := info_parts Tryz.info5
  have ha := (Array.getElem?_eq_some_iff.1 h).1
  have hslt := (Array.getElem?_eq_some_iff.1 hs).1
  have c0 := cellOf h 0
  simp [devCells] at c0
  have c1 : w.cell? ⟨s, i, none⟩ = some (.pointer p) := (cellOf hs i).trans hcur
  clear h hs hcur
  rcases hp with ⟨rfl, rfl⟩ | ⟨g, rfl, hg, hlen, hone⟩
  · go_enter Tryz.func75, Tryz.ntmps75
    go_wp2_with (first
      | (go_at_call 93; refine Calls_on hb ?_)
      | (at_make; refine wpList_make_full _ rfl _ _ 30 rfl 0 5 i0 (.int .u8 0) 1 Tryz.underlying30 hi0 hz0 hz1 .i64 .i64 _ _ 512 rfl rfl rfl rfl (by rw [hz2]; omega) (by unfold maxLen; omega) (Nat.zero_le _) ?_; intro w1 hrow hg1; have d0 := hg1.cell c0 (by simp); have d1 := hg1.cell c1 (by simp)))
    go_ret2
    exact ⟨rfl, made_zeros hrow, (Below.refl _ w).grown hg1 (Nat.le_refl _) (by simp)⟩
  · have hglt := (Array.getElem?_eq_some_iff.1 hg).1
    go_enter Tryz.func75, Tryz.ntmps75
    go_wp2_with (first
      | (go_at_call 93; refine Calls_on hb ?_)
      | (at_make; refine wpList_make_full _ rfl _ _ 30 rfl 0 5 i0 (.int .u8 0) 1 Tryz.underlying30 hi0 hz0 hz1 .i64 .i64 _ _ 512 rfl rfl rfl rfl (by rw [hz2]; omega) (by unfold maxLen; omega) (Nat.zero_le _) ?_; intro w1 hrow hg1; have d0 := hg1.cell c0 (by simp); have d1 := hg1.cell c1 (by simp); have hz : Hid (w1.heap[w.heap.size]? = some (.cells zeros.toArray 5 (0, 0))) := made_zeros hrow; have hq : Hid (w1.heap[g]? = some (.cells l.toArray 158 (0, 0))) := (hg1.block g hglt (by simp)).trans hg; clear hrow)
      | (have tk := hz; refine wpList_copy_splice rfl _ _ 30 30 rfl 5 Tryz.underlying30 Tryz.size5 (some ⟨w.heap.size, 0, none⟩) (some ⟨g, 0, none⟩) 512 512 512 512 rfl rfl w.heap.size 0 zeros 5 hz.out l hlen (fun _ => ⟨rfl, ⟨g, 0, none⟩, rfl, fun j v hj => by rw [Addr.add_lit, Nat.zero_add, cellOf hq.out j]; simpa using hj⟩) (by rw [hlen, zeros_length]; decide) hone w.heap.size w ((Below.refl _ w).grown hg1 (Nat.le_refl _) (by simp)) (Nat.le_refl _) ?_; clear tk hz; intro w2 hz2 hb2))
    go_ret2
    refine ⟨rfl, ?_, hb2⟩
    have := hz2.out
    rw [splice_all zeros l (by rw [hlen, zeros_length])] at this
    exact this

end Go.Proofs.YtebdgcoandfocaaGreatDoor

/-
  What a call leaves alone: all blocks but those of a set.
-/
namespace Go.Proofs.YtebdgcoandfocaaGreatDoor
open Go.RowKit Go.Maps

/-- Every old block outside S is as it was; the streams are as they were; no block has gone. -/
structure But (S : Nat → Prop) (w w' : World) : Prop where
  os : w'.os = w.os
  tape : w'.tape = w.tape
  output : w'.output = w.output
  size : w.heap.size ≤ w'.heap.size
  block : ∀ k, k < w.heap.size → ¬ S k → w'.heap[k]? = w.heap[k]?

theorem But.refl (S : Nat → Prop) (w : World) : But S w w := ⟨rfl, rfl, rfl, Nat.le_refl _, fun _ _ _ => rfl⟩
theorem But.trans {S : Nat → Prop} {a b c : World} (h : But S a b) (k : But S b c) : But S a c :=
  ⟨k.os.trans h.os, k.tape.trans h.tape, k.output.trans h.output, Nat.le_trans h.size k.size, fun i hi hn => (k.block i (Nat.lt_of_lt_of_le hi h.size) hn).trans (h.block i hi hn)⟩
theorem But.mono {S T : Nat → Prop} {a b : World} (h : But S a b) (hs : ∀ k, k < a.heap.size → S k → T k) : But T a b :=
  ⟨h.os, h.tape, h.output, h.size, fun i hi hn => h.block i hi (fun hs' => hn (hs i hi hs'))⟩
theorem But.drew {S : Nat → Prop} {a b : World} (h : But S a b) : But S a b.drew := ⟨h.os, h.tape, h.output, h.size, h.block⟩
theorem But.of_grown {S : Nat → Prop} {a b : World} {row : Option Nat} (h : a.grownBy b row) (hs : ∀ k, row = some k → S k) : But S a b :=
  ⟨h.os, h.tape, h.output, h.size, fun i hi hn => h.block i hi (fun e => hn (hs i e.symm))⟩
theorem But.alloc {S : Nat → Prop} {a b : World} (h : But S a b) (o : Obj) : But S a (b.alloc o) :=
  h.trans ⟨rfl, rfl, rfl, by simp, fun k hk _ => Below.heap_alloc _ _ _ hk⟩
theorem But.setCell {S : Nat → Prop} {a b : World} (h : But S a b) (p : Addr) (hp : S p.block) (u : Value) : But S a (b.setCell p u) :=
  h.trans (But.of_grown (grown_set _ _ _) (by intro k hk; cases hk; exact hp))
theorem But.below {S : Nat → Prop} {a b : World} (h : But S a b) {B : Nat} (hB : B ≤ a.heap.size) (hS : ∀ k, S k → B ≤ k) : Below B a b :=
  ⟨h.os, h.tape, h.output, h.size, fun k hk => h.block k (by omega) (fun hs => by have := hS k hs; omega)⟩
theorem But.of_below {S : Nat → Prop} {a b : World} (h : Below a.heap.size a b) : But S a b :=
  ⟨h.os, h.tape, h.output, h.size, fun k hk _ => h.block k hk⟩

/-- How an element of the map reads: as the pointer itself. -/
def ptrElem : Value → Option (DataW Value × List MemPlace)
  | .pointer p => some (.held (.pointer p), [])
  | _ => none
theorem ptrElem_inv {v : Value} {z : DataW Value × List MemPlace} (h : ptrElem v = some z) : ∃ p, v = .pointer p ∧ z = (.held (.pointer p), []) := by
  unfold ptrElem at h
  split at h
  · cases h; exact ⟨_, rfl, rfl⟩
  · cases h

theorem Tryz.zero155 (w : World) : (zeroValue 155).run Tryz.prog w = .ok (.pointer none) w := by kernel_rfl
theorem keyed : Keyed Tryz.prog 3 := int_keyed Tryz.underlying3

/-- The datum of a pointer. -/
def ptrD (p : Option Addr) : DataW Value := .held (.pointer p)

theorem key_i64 {i : Nat} (h : i < 9223372036854775808) : keyOf Tryz.prog 3 (.int .i64 i) = some (.int .i64 i) :=
  keyOf_int_mk Tryz.underlying3 (WalkArith.wf_i64 (by omega))

/-- 'v, ok := m[i]'. -/
theorem look_ok {w : World} {m nn : Nat} {D : DataW Value} (h : w.ownsMap Tryz.prog 3 ptrElem m nn D) {i : Nat} (hi : i < 9223372036854775808) :
    ∃ q, (Instr.lookup 125 (.map (some m)) (.int .i64 i) true).run Tryz.prog w = .ok (.tuple #[.pointer q, .bool (Maps.has D (.int .i64 i))]) w ∧ D.atKey (.int .i64 i) (ptrD none) = ptrD q := by
  obtain ⟨v, ps, hrun, hv⟩ := h.look_ok keyed Tryz.underlying125 (Tryz.zero155 w) (zd := ptrD none) (zp := []) rfl (key_i64 hi)
  obtain ⟨q, rfl, hz⟩ := ptrElem_inv hv
  simp only [Prod.mk.injEq] at hz
  exact ⟨q, hrun, hz.1⟩

/-- 'm[i] = p'. -/
theorem put_run {w : World} {m nn : Nat} {D : DataW Value} (h : w.ownsMap Tryz.prog 3 ptrElem m nn D) (hn : nn < maxLen) {i : Nat} (hi : i < 9223372036854775808) (p : Option Addr) :
    ∃ w', (Instr.mapUpdate 125 (.map (some m)) (.int .i64 i) (.pointer p)).run Tryz.prog w = .ok () w' ∧ w'.ownsMap Tryz.prog 3 ptrElem m (nn + 1) (D.put (.int .i64 i) (ptrD p)) ∧ w.mapTurned w' m :=
  h.store keyed Tryz.underlying125 hn (key_i64 hi) (d := ptrD p) (ps := []) rfl

theorem zc_tBlk : Tryz.zeroCells158 = zeros.toArray := by kernel_rfl

end Go.Proofs.YtebdgcoandfocaaGreatDoor
