/-
  Package inode: a walk over numbers of which one direct place is visited.
-/
import Derived.Test.YtebdgcoandfocaaGreatDoorKCunfr
import Derived.Laws.PanicsMore
import Derived.Test.YtebdgcoandfocaaGreatDoorKWnum
import Derived.Test.YtebdgcoandfocaaGreatDoorQBhp

/-
  Package inode: what a size costs; numbers as bytes.
-/
namespace Go.Proofs.YtebdgcoandfocaaGreatDoor
open Go.RowKit

def blocksOf (s : Nat) : Nat := (s + 511) / 512
/-- What a size costs. -/
def costN (s : Nat) : Nat := if s < 1 ∨ 65536 < s then 0 else blocksOf s + (if 8 < blocksOf s then 1 else 0) + (if 72 < blocksOf s then 1 + (blocksOf s - 72 + 63) / 64 else 0)
def costI (x : Int) : Int := if x < 0 then 0 else (costN x.toNat : Nat)

set_option maxRecDepth 8000 in
set_option maxHeartbeats 400000 in
theorem upTo_any (s : Nat) (hs : s ≤ 1000000) (w : World) : Calls Tryz.prog 30 #[.int .i64 (s : Nat)] w fun e w' => e = .returned (.int .i64 (blocksOf s : Nat)) ∧ w' = w := by
  have HR : Hid (((s : Int) + 512 - 1) / 512 = (blocksOf s : Nat)) := by show _ = _; unfold blocksOf; omega
  go_enter Tryz.func30, Tryz.ntmps30
  go_wp2
  go_ret
  exact ⟨by rw [← HR.out]; rfl, rfl⟩

theorem costI_out (x : Int) (h : x < 1 ∨ 65536 < x) : costI x = 0 := by
  unfold costI costN
  split
  · rfl
  · rw [if_pos (by omega)]; rfl

set_option maxRecDepth 8000 in
set_option maxHeartbeats 400000 in
theorem cost_out (x : Int) (h : x < 1 ∨ 65536 < x) (w : World) : Calls Tryz.prog 19 #[.int .i64 x] w fun e w' => e = .returned (.int .i64 (costI x)) ∧ w' = w := by
  rw [costI_out x h]
  by_cases h1 : x < 1
  · go_enter Tryz.func19, Tryz.ntmps19
    go_wp2
    go_ret
    exact ⟨rfl, rfl⟩
  · have h2 : 65536 < x := by omega
    go_enter Tryz.func19, Tryz.ntmps19
    go_wp2
    go_ret
    exact ⟨rfl, rfl⟩
set_option maxRecDepth 8000 in
set_option maxHeartbeats 400000 in
theorem rcost_out (x : Int) (h : x < 1 ∨ 65536 < x) (w : World) : Calls Tryz.prog 17 #[.int .i64 x] w fun e w' => e = .returned (.int .i64 (costI x)) ∧ w' = w := by
  rw [costI_out x h]
  by_cases h1 : x < 1
  · go_enter Tryz.func17, Tryz.ntmps17
    go_wp2
    go_ret
    exact ⟨rfl, rfl⟩
  · have h2 : 65536 < x := by omega
    go_enter Tryz.func17, Tryz.ntmps17
    go_wp2
    go_ret
    exact ⟨rfl, rfl⟩

theorem costI_in (s b : Nat) (h1 : 1 ≤ s) (h2 : s ≤ 65536) (hb : blocksOf s = b) : costI (s : Nat) = ((b + (if 8 < b then 1 else 0) + (if 72 < b then 1 + (b - 72 + 63) / 64 else 0) : Nat) : Int) := by
  unfold costI costN
  rw [if_neg (by omega), if_neg (by omega), show (((s : Nat) : Int)).toNat = s by omega, hb]

set_option maxRecDepth 8000 in
set_option maxHeartbeats 400000 in
theorem cost_in (s : Nat) (h1 : 1 ≤ s) (h2 : s ≤ 65536) (w : World) : Calls Tryz.prog 19 #[.int .i64 (s : Nat)] w fun e w' => e = .returned (.int .i64 (costI (s : Nat))) ∧ w' = w := by
  have cU := upTo_any s (by omega) w
  obtain ⟨b, hb⟩ : ∃ b, blocksOf s = b := ⟨_, rfl⟩
  have hR := costI_in s b h1 h2 hb
  obtain ⟨R, hRR⟩ : ∃ R, costI (s : Nat) = R := ⟨_, rfl⟩
  rw [hRR] at hR ⊢
  clear hRR
  rw [hb] at cU
  have hb128 : b ≤ 128 := by unfold blocksOf at hb; omega
  have a1 : ¬ (s : Int) < 1 := by omega
  have a2 : ¬ 65536 < (s : Int) := by omega
  clear hb h1 h2
  by_cases h8 : 8 < b
  · have i8 : 8 < (b : Int) := by omega
    by_cases h72 : 72 < b
    · have i72 : 72 < (b : Int) := by omega
      have HR : Hid (R = (b : Int) + 1 + (1 + ((b : Int) - 72 + 64 - 1) / 64)) := by show _ = _; rw [hR, if_pos h8, if_pos h72]; omega
      clear hR
      go_enter Tryz.func19, Tryz.ntmps19
      go_wp2_with (go_at_call 30; refine Calls_on cU ?_; clear cU)
      go_ret
      exact ⟨by rw [HR.out]; rfl, rfl⟩
    · have i72 : ¬ 72 < (b : Int) := by omega
      have HR : Hid (R = (b : Int) + 1) := by show _ = _; rw [hR, if_pos h8, if_neg h72]; omega
      clear hR
      go_enter Tryz.func19, Tryz.ntmps19
      go_wp2_with (go_at_call 30; refine Calls_on cU ?_; clear cU)
      go_ret
      exact ⟨by rw [HR.out]; rfl, rfl⟩
  · have i8 : ¬ 8 < (b : Int) := by omega
    have i72 : ¬ 72 < (b : Int) := by omega
    have HR : Hid (R = (b : Int)) := by show _ = _; rw [hR, if_neg h8, if_neg (by omega)]; omega
    clear hR
    go_enter Tryz.func19, Tryz.ntmps19
    go_wp2_with (go_at_call 30; refine Calls_on cU ?_; clear cU)
    go_ret
    exact ⟨by rw [HR.out]; rfl, rfl⟩
set_option maxRecDepth 8000 in
set_option maxHeartbeats 400000 in
theorem rcost_in (s : Nat) (h1 : 1 ≤ s) (h2 : s ≤ 65536) (w : World) : Calls Tryz.prog 17 #[.int .i64 (s : Nat)] w fun e w' => e = .returned (.int .i64 (costI (s : Nat))) ∧ w' = w := by
  obtain ⟨b, hb⟩ : ∃ b, blocksOf s = b := ⟨_, rfl⟩
  have hR := costI_in s b h1 h2 hb
  obtain ⟨R, hRR⟩ : ∃ R, costI (s : Nat) = R := ⟨_, rfl⟩
  rw [hRR] at hR ⊢
  clear hRR
  have e1 : ((s : Int) + 512 - 1) / 512 = (b : Nat) := by unfold blocksOf at hb; omega
  have hb128 : b ≤ 128 := by unfold blocksOf at hb; omega
  have a1 : ¬ (s : Int) < 1 := by omega
  have a2 : ¬ 65536 < (s : Int) := by omega
  have a3 : (s : Int) ≤ 65536 := by omega
  clear hb h1 h2
  by_cases h8 : 8 < b
  · have i8 : 8 < (b : Int) := by omega
    by_cases h72 : 72 < b
    · have i72 : 72 < (b : Int) := by omega
      have HR : Hid (R = (b : Int) + 1 + (1 + ((b : Int) - 72 + 63) / 64)) := by show _ = _; rw [hR, if_pos h8, if_pos h72]; omega
      clear hR
      go_enter Tryz.func17, Tryz.ntmps17
      go_wp2_with (simp only [e1])
      go_ret
      exact ⟨by rw [HR.out]; rfl, rfl⟩
    · have i72 : ¬ 72 < (b : Int) := by omega
      have HR : Hid (R = (b : Int) + 1) := by show _ = _; rw [hR, if_pos h8, if_neg h72]; omega
      clear hR
      go_enter Tryz.func17, Tryz.ntmps17
      go_wp2_with (simp only [e1])
      go_ret
      exact ⟨by rw [HR.out]; rfl, rfl⟩
  · have i8 : ¬ 8 < (b : Int) := by omega
    have i72 : ¬ 72 < (b : Int) := by omega
    have HR : Hid (R = (b : Int)) := by show _ = _; rw [hR, if_neg h8, if_neg (by omega)]; omega
    clear hR
    go_enter Tryz.func17, Tryz.ntmps17
    go_wp2_with (simp only [e1])
    go_ret
    exact ⟨by rw [HR.out]; rfl, rfl⟩

theorem cost_any (x : Int) (w : World) : Calls Tryz.prog 19 #[.int .i64 x] w fun e w' => e = .returned (.int .i64 (costI x)) ∧ w' = w := by
  by_cases h : x < 1 ∨ 65536 < x
  · exact cost_out x h w
  · obtain ⟨s, rfl⟩ := Int.eq_ofNat_of_zero_le (show 0 ≤ x by omega)
    exact cost_in s (by omega) (by omega) w
theorem rcost_any (x : Int) (w : World) : Calls Tryz.prog 17 #[.int .i64 x] w fun e w' => e = .returned (.int .i64 (costI x)) ∧ w' = w := by
  by_cases h : x < 1 ∨ 65536 < x
  · exact rcost_out x h w
  · obtain ⟨s, rfl⟩ := Int.eq_ofNat_of_zero_le (show 0 ≤ x by omega)
    exact rcost_in s (by omega) (by omega) w

set_option maxRecDepth 8000 in
set_option maxHeartbeats 1000000 in
/-- A number of four bytes, the lowest first, in its place. -/
theorem number_at (g o l cp i : Nat) (b0 b1 b2 b3 : BitVec 8) (w : World) (hl : 4 * i + 4 ≤ l) (hc : l ≤ cp) (hi : i ≤ 1000)
    (c0 : w.cell? ⟨g, o + 4 * i, none⟩ = some (u8v b0)) (c1 : w.cell? ⟨g, o + 4 * i + 1, none⟩ = some (u8v b1)) (c2 : w.cell? ⟨g, o + 4 * i + 2, none⟩ = some (u8v b2)) (c3 : w.cell? ⟨g, o + 4 * i + 3, none⟩ = some (u8v b3)) :
    Calls Tryz.prog 32 #[.slice (some ⟨g, o, none⟩) l cp, .int .i64 (i : Nat)] w fun e w' => e = .returned (.int .u32 (leN [b0, b1, b2, b3] : Nat)) ∧ w' = w := by
  unfold u8v at c0 c1 c2 c3
  have l0 : b0.toNat < 256 := b0.isLt
  have l1 : b1.toNat < 256 := b1.isLt
  have l2 : b2.toNat < 256 := b2.isLt
  have l3 : b3.toNat < 256 := b3.isLt
  obtain ⟨k, hk⟩ : ∃ k, 4 * i = k := ⟨_, rfl⟩
  rw [hk] at c0 c1 c2 c3 hl
  have e1 : (i : Int) * 4 = (k : Nat) := by omega
  have e2 : ((i : Int) + 1) * 4 = ((k + 4 : Nat) : Int) := by omega
  have hk4 : k ≤ 4000 := by omega
  clear hk
  go_enter Tryz.func32, Tryz.ntmps32
  go_wp2_with (simp only [e1, e2])
  go_loop [5, 16] (fun rr ii => ∃ j : Nat, j ≤ 4 ∧ ii = .int .i64 j ∧ rr = .int .u32 (leN ([b0, b1, b2, b3].take j) : Nat)) (fun _ ii => 4 - (intOf ii).toNat)
  case atStart => exact ⟨0, Nat.zero_le _, rfl, rfl⟩
  case round =>
    obtain ⟨j, hj, rfl, rfl⟩ := hrel
    match j, hj with
    | 0, _ =>
      go_wp2
      refine ⟨⟨1, by omega, rfl, ?_⟩, by simp [intOf]⟩
      have := or32 (a := 0) (b := b0.toNat) (m := 1) (n := 0) rfl (by omega) (by omega) (by omega)
      simp at this
      simp [leN, this]
    | 1, _ =>
      go_wp2
      refine ⟨⟨2, by omega, rfl, ?_⟩, by simp [intOf]⟩
      have := or32 (a := leN [b0]) (b := b1.toNat) (m := 256) (n := 8) rfl (by simp [leN]; omega) (by omega) (by omega)
      rw [show ((256 : Nat) : Int) = 256 from rfl] at this
      rw [this]
      simp [leN]; omega
    | 2, _ =>
      go_wp2
      refine ⟨⟨3, by omega, rfl, ?_⟩, by simp [intOf]⟩
      have := or32 (a := leN [b0, b1]) (b := b2.toNat) (m := 65536) (n := 16) rfl (by simp [leN]; omega) (by omega) (by omega)
      rw [show ((65536 : Nat) : Int) = 65536 from rfl] at this
      rw [this]
      simp [leN]; omega
    | 3, _ =>
      go_wp2
      refine ⟨⟨4, by omega, rfl, ?_⟩, by simp [intOf]⟩
      have := or32 (a := leN [b0, b1, b2]) (b := b3.toNat) (m := 16777216) (n := 24) rfl (by simp [leN]; omega) (by omega) (by omega)
      rw [show ((16777216 : Nat) : Int) = 16777216 from rfl] at this
      rw [this]
      simp [leN]; omega
    | 4, _ =>
      go_wp2
      go_ret
      exact ⟨rfl, rfl⟩

end Go.Proofs.YtebdgcoandfocaaGreatDoor

/-
  Package inode: inodes as bytes.
-/
namespace Go.Proofs.YtebdgcoandfocaaGreatDoor
open Go.RowKit

/-- An inode's cells: its size, its numbers. -/
def inoCells (sz : Nat) (ns : List (BitVec 32)) : List Value := .int .i64 (sz : Nat) :: ns.map u32v
def InoAt (w : World) (a sz : Nat) (ns : List (BitVec 32)) : Prop := w.heap[a]? = some (.cells (inoCells sz ns).toArray 57 (0, 0))
def noNums : List (BitVec 32) := List.replicate 10 0#32

theorem InoAt.size {w : World} {a sz : Nat} {ns : List (BitVec 32)} (h : InoAt w a sz ns) : w.cell? ⟨a, 0, none⟩ = some (.int .i64 (sz : Nat)) := by
  rw [cellOf h 0]; rfl
theorem InoAt.num {w : World} {a sz : Nat} {ns : List (BitVec 32)} (h : InoAt w a sz ns) {i : Nat} {n : BitVec 32} (hn : ns[i]? = some n) : w.cell? ⟨a, 1 + i, none⟩ = some (u32v n) := by
  rw [cellOf h (1 + i), List.getElem?_toArray, Nat.add_comm 1 i]
  simp [inoCells, hn]
theorem InoAt.lt {w : World} {a sz : Nat} {ns : List (BitVec 32)} (h : InoAt w a sz ns) : a < w.heap.size := (Array.getElem?_eq_some_iff.1 h).1
theorem InoAt.below {w w' : World} {a sz B : Nat} {ns : List (BitVec 32)} (h : InoAt w a sz ns) (hb : Below B w w') (hB : a < B) : InoAt w' a sz ns := (hb.block a hB).trans h
theorem InoAt.set {w : World} {a sz : Nat} {ns : List (BitVec 32)} (h : InoAt w a sz ns) (i : Nat) (n : BitVec 32) : InoAt (w.setCell ⟨a, 1 + i, none⟩ (u32v n)) a sz (ns.set i n) := by
  unfold InoAt at *
  simp [World.setCell, Array.getElem?_modify, h, inoCells, Nat.add_comm 1 i, List.map_set]

set_option maxRecDepth 8000 in
set_option maxHeartbeats 400000 in
theorem isize_any (a sz : Nat) (ns : List (BitVec 32)) (w : World) (h : InoAt w a sz ns) : Calls Tryz.prog 18 #[.pointer (some ⟨a, 0, none⟩)] w fun e w' => e = .returned (.int .i64 (sz : Nat)) ∧ w' = w := by
  have c0 := h.size
  clear h
  go_enter Tryz.func18, Tryz.ntmps18
  go_wp2
  go_ret
  exact ⟨rfl, rfl⟩

set_option maxRecDepth 8000 in
set_option maxHeartbeats 400000 in
theorem inew_any (w : World) : Calls Tryz.prog 8 #[] w fun e w' => e = .returned (.pointer (some ⟨w.heap.size, 0, none⟩)) ∧ InoAt w' w.heap.size 0 noNums ∧ Below w.heap.size w w' := by
  go_enter Tryz.func8, Tryz.ntmps8
  go_wp2
  go_ret
  exact ⟨rfl, heap_alloc_new w _, (Below.refl _ w).alloc (Nat.le_refl _) _⟩

set_option maxRecDepth 8000 in
set_option maxHeartbeats 1000000 in
theorem setNumber_any (n : BitVec 32) (g l cp i : Nat) (L : List Value) (w : World) (h : w.heap[g]? = some (.cells L.toArray 5 (0, 0))) (hl : 4 * i + 4 ≤ L.length) (hll : L.length = l) (hi : i ≤ 1000) :
    Calls Tryz.prog 33 #[.slice (some ⟨g, 0, none⟩) l cp, .int .i64 (i : Nat), u32v n] w fun e w' => e = .returned (.tuple #[]) ∧ w'.heap[g]? = some (.cells (splice L (4 * i) ((le4 n).map u8v)).toArray 5 (0, 0)) ∧ Below g w w' ∧ w'.heap.size = w.heap.size := by
  have HL : Hid (w.heap[g]? = some (.cells L.toArray 5 (0, 0))) := h
  obtain ⟨xs, hxs⟩ : ∃ xs, xs = (le4 n).map u8v := ⟨_, rfl⟩
  have HX : Hid (xs = [.int .u8 ((n.toNat : Int) % 256), .int .u8 ((n.toNat : Int) / 256 % 256), .int .u8 ((n.toNat : Int) / 65536 % 256), .int .u8 ((n.toNat : Int) / 16777216)]) := hxs.trans (le4_vals n)
  rw [← hxs]
  have hx4 : xs.length = 4 := by rw [hxs]; rfl
  obtain ⟨o, ho⟩ : ∃ o, 4 * i = o := ⟨_, rfl⟩
  rw [ho] at hl ⊢
  have e1 : (i : Int) * 4 = (o : Nat) := by omega
  have ho4 : o ≤ 4000 := by omega
  have hol : o + 4 ≤ l := by omega
  clear h hxs ho
  go_enter Tryz.func33, Tryz.ntmps33
  go_wp2_with fail
  go_loopw [7] (fun ii wr => ∃ i : Nat, i ≤ 4 ∧ ii = .int .i64 i ∧ Hid (wr.heap[g]? = some (.cells (splice L o (xs.take i)).toArray 5 (0, 0))) ∧ Hid (Below g w wr ∧ wr.heap.size = w.heap.size)) (fun ii _ => 4 - (intOf ii).toNat)
  case atStart =>
    refine ⟨0, by omega, rfl, ?_, Below.refl _ _, rfl⟩
    show w.heap[g]? = some (.cells (splice L o []).toArray 5 (0, 0))
    rw [show splice L o [] = L by simp [splice]]
    exact HL.out
  case round =>
    obtain ⟨j, hj, rfl, HB, HZ⟩ := hrel
    match j, hj with
    | 0, _ =>
      obtain ⟨⟨v, c0⟩, f0⟩ := put_cell (k := o) HB.out (by omega) rfl (by omega)
      go_wp2_with (simp only [e1])
      have := put_step HB.out HZ.out (show xs[0]? = _ by rw [HX.out]; rfl) (by omega)
      exact ⟨⟨1, by omega, rfl, this.1, this.2⟩, by simp [intOf]⟩
    | 1, _ =>
      obtain ⟨⟨v, c0⟩, f0⟩ := put_cell (k := o + 1) HB.out (by omega) rfl (by omega)
      go_wp2_with (simp only [e1])
      have := put_step HB.out HZ.out (show xs[1]? = _ by rw [HX.out]; rfl) (by omega)
      exact ⟨⟨2, by omega, rfl, this.1, this.2⟩, by simp [intOf]⟩
    | 2, _ =>
      obtain ⟨⟨v, c0⟩, f0⟩ := put_cell (k := o + 2) HB.out (by omega) rfl (by omega)
      go_wp2_with (simp only [e1])
      have := put_step HB.out HZ.out (show xs[2]? = _ by rw [HX.out]; rfl) (by omega)
      exact ⟨⟨3, by omega, rfl, this.1, this.2⟩, by simp [intOf]⟩
    | 3, _ =>
      obtain ⟨⟨v, c0⟩, f0⟩ := put_cell (k := o + 3) HB.out (by omega) rfl (by omega)
      go_wp2_with (simp only [e1])
      have := put_step HB.out HZ.out (show xs[3]? = _ by rw [HX.out]; rfl) (by omega)
      exact ⟨⟨4, by omega, rfl, this.1, this.2⟩, by simp [intOf]⟩
    | 4, _ =>
      go_wp2
      go_end0
      have := HB.out
      rw [List.take_of_length_le (by omega)] at this
      exact ⟨rfl, this, HZ.out⟩

end Go.Proofs.YtebdgcoandfocaaGreatDoor

/-
  An array's number by its place.
-/
namespace Go.Proofs.YtebdgcoandfocaaGreatDoor
open Go.RowKit

theorem idx10 (cs : Array Value) (i : Nat) (v : Value) (hv : cs[i]? = some v) (hi : i < 10) (w : World) : (Instr.index 55 (.agg cs) (.int .i64 (i : Nat))).run Tryz.prog w = .ok v w := by
  simp [Instr.index, run_underlying Tryz.underlying55, asIntOf, go_sem]
  rw [if_pos hi, hv]
  rfl

end Go.Proofs.YtebdgcoandfocaaGreatDoor

/-
  Package inode: Bytes and Load.
-/
namespace Go.Proofs.YtebdgcoandfocaaGreatDoor
open Go.RowKit

theorem imadeCells (z : Value) (n : Nat) : madeCells #[z] n = (List.replicate n z).toArray := by
  rw [← toList_madeCells_one]
theorem imake (w : World) (n : Nat) (hn : n ≤ 2000000) :
    (Instr.makeSlice 30 (.int .i64 n) (.int .i64 n)).run Tryz.prog w = .ok (.slice (some ⟨w.heap.size, 0, none⟩) n n) (w.alloc (.cells (List.replicate n (.int .u8 0)).toArray 5)) := by
  obtain ⟨i0, hi0, hz0, hz1, hz2⟩ := info_parts Tryz.info5
  have := run_make (P := Tryz.prog) w 30 5 i0 (.int .u8 0) Tryz.underlying30 hi0 hz0 .i64 .i64 n n (by omega) (Int.le_refl _) (by rw [hz2]; omega) (by omega)
  rw [this, hz1, show (Value.int .u8 0).cells = #[Value.int .u8 0] from rfl, Int.toNat_natCast, Nat.mul_one, imadeCells]

theorem list10 {α : Type} {l : List α} (h : l.length = 10) : ∃ a b c d e f g i j k, l = [a, b, c, d, e, f, g, i, j, k] := by
  match l, h with
  | [a, b, c, d, e, f, g, i, j, k], _ => exact ⟨a, b, c, d, e, f, g, i, j, k, rfl⟩

/-- An inode's bytes. -/
def inoBytes (s : BitVec 32) (ns : List (BitVec 32)) : By := le4 s ++ ns.flatMap le4
/-- .. of which i numbers are laid. -/
def inoPart (s : BitVec 32) (ns : List (BitVec 32)) (i : Nat) : By := le4 s ++ ((ns.take i).flatMap le4 ++ List.replicate (40 - 4 * i) 0#8)
theorem flat4_length (l : List (BitVec 32)) : (l.flatMap le4).length = 4 * l.length := by
  induction l with
  | nil => rfl
  | cons x l ih => rw [List.flatMap_cons, List.length_append, ih, le4_length, List.length_cons]; omega
theorem inoPart_length (s : BitVec 32) (ns : List (BitVec 32)) (hn : ns.length = 10) (i : Nat) (hi : i ≤ 10) : (inoPart s ns i).length = 44 := by
  unfold inoPart
  rw [List.length_append, List.length_append, flat4_length, le4_length, List.length_replicate, List.length_take]
  omega
theorem inoPart_step (s : BitVec 32) (ns : List (BitVec 32)) (i : Nat) (n : BitVec 32) (h : ns[i]? = some n) (hn : ns.length = 10) : splice ((inoPart s ns i).map u8v) (4 * (i + 1)) ((le4 n).map u8v) = (inoPart s ns (i + 1)).map u8v := by
  have hi : i < ns.length := (List.getElem?_eq_some_iff.1 h).1
  have hl : (le4 s ++ (ns.take i).flatMap le4).length = 4 * (i + 1) := by rw [List.length_append, flat4_length, le4_length, List.length_take]; omega
  have e1 : inoPart s ns i = (le4 s ++ (ns.take i).flatMap le4) ++ (List.replicate 4 0#8 ++ List.replicate (40 - 4 * (i + 1)) 0#8) := by
    unfold inoPart
    rw [List.append_assoc, List.replicate_append_replicate, show 4 + (40 - 4 * (i + 1)) = 40 - 4 * i by omega]
  have e2 : inoPart s ns (i + 1) = (le4 s ++ (ns.take i).flatMap le4) ++ (le4 n ++ List.replicate (40 - 4 * (i + 1)) 0#8) := by
    unfold inoPart
    rw [List.take_add_one, h]
    simp
  rw [e1, e2]
  unfold splice
  simp only [List.map_append, List.length_map]
  have hl' : (List.map u8v (le4 s) ++ List.map u8v (List.flatMap le4 (List.take i ns))).length = 4 * (i + 1) := by rw [← List.map_append, List.length_map]; exact hl
  rw [List.take_left' hl', ← List.append_assoc, le4_length, List.append_assoc]
  congr 2
  rw [← List.append_assoc, List.drop_left' (by rw [List.length_append, hl']; simp)]

set_option maxRecDepth 8000 in
set_option maxHeartbeats 1000000 in
theorem ibytes_any (a : Nat) (s : BitVec 32) (ns : List (BitVec 32)) (hn : ns.length = 10) (w : World) (h : InoAt w a s.toNat ns) :
    Calls Tryz.prog 16 #[.pointer (some ⟨a, 0, none⟩)] w fun e w' => e = .returned (.slice (some ⟨w.heap.size, 0, none⟩) 44 44) ∧ w'.heap[w.heap.size]? = some (.cells ((inoBytes s ns).map u8v).toArray 5 (0, 0)) ∧ Below w.heap.size w w' := by
  have hmk : (Instr.makeSlice 30 (.int .i64 44) (.int .i64 44)).run Tryz.prog w = .ok (.slice (some ⟨w.heap.size, 0, none⟩) 44 44) (w.alloc (.cells (List.replicate 44 (.int .u8 0)).toArray 5)) := imake w 44 (by omega)
  obtain ⟨w1, hw1⟩ : ∃ w1, w1 = w.alloc (.cells (List.replicate 44 (.int .u8 0)).toArray 5) := ⟨_, rfl⟩
  rw [← hw1] at hmk
  have hB1 : Below w.heap.size w w1 := by rw [hw1]; exact (Below.refl _ w).alloc (Nat.le_refl _) _
  have hx1 : w1.heap[w.heap.size]? = some (.cells (List.replicate 44 (Value.int .u8 0)).toArray 5 (0, 0)) := by rw [hw1]; exact heap_alloc_new w _
  have h1 : InoAt w1 a s.toNat ns := h.below hB1 h.lt
  have c0 := h1.size
  have hlp : ∀ i, i ≤ 10 → ((inoPart s ns i).map u8v).length = 44 := fun i hi => by rw [List.length_map]; exact inoPart_length s ns hn i hi
  have hstep := fun (i : Nat) (n : BitVec 32) (hx : ns[i]? = some n) => inoPart_step s ns i n hx hn
  obtain ⟨n0, n1, n2, n3, n4, n5, n6, n7, n8, n9, hns⟩ := list10 hn
  have cc : ∀ (i : Nat) (x : BitVec 32), ns[i]? = some x → ∀ wr, Below w.heap.size w wr → wr.cell? ⟨a, 1 + i, none⟩ = some (u32v x) := fun i x hx wr hb => (h.below hb h.lt).num hx
  have cS := setNumber_any s w.heap.size 44 44 0 (List.replicate 44 (Value.int .u8 0)) w1 hx1 (by simp) (by simp) (by omega)
  have hcv : IntKind.u32.wrap (s.toNat : Int) = (s.toNat : Int) := by have := s.isLt; rw [IntKind.wrap_u32]; omega
  have e0 : splice (List.replicate 44 (Value.int .u8 0)) (4 * 0) ((le4 s).map u8v) = (inoPart s ns 0).map u8v := by
    unfold inoPart splice
    simp only [Nat.mul_zero, List.take_zero, List.nil_append, List.flatMap_nil, List.map_append, List.map_replicate, List.length_map, le4_length, List.drop_replicate]
    rfl
  rw [e0] at cS
  have H1 : Hid (Below w.heap.size w w1) := hB1
  unfold u32v at cS cc
  clear h h1 hB1 hx1 hw1
  go_enter Tryz.func16, Tryz.ntmps16
  go_wp2_with (go_at_call 33; refine cS.mono ?_; rintro e w2 ⟨rfl, hL2, hB2, hz2⟩; clear cS; refine Stop.out ?_)
  refine Stop.mk ?_
  have hB02 : Below w.heap.size w w2 := H1.out.trans hB2
  have d0 : w2.cell? ⟨a, 1, none⟩ = some (.int .u32 (n0.toNat : Int)) := cc 0 n0 (by rw [hns]; rfl) w2 hB02
  have d1 : w2.cell? ⟨a, 2, none⟩ = some (.int .u32 (n1.toNat : Int)) := cc 1 n1 (by rw [hns]; rfl) w2 hB02
  have d2 : w2.cell? ⟨a, 3, none⟩ = some (.int .u32 (n2.toNat : Int)) := cc 2 n2 (by rw [hns]; rfl) w2 hB02
  have d3 : w2.cell? ⟨a, 4, none⟩ = some (.int .u32 (n3.toNat : Int)) := cc 3 n3 (by rw [hns]; rfl) w2 hB02
  have d4 : w2.cell? ⟨a, 5, none⟩ = some (.int .u32 (n4.toNat : Int)) := cc 4 n4 (by rw [hns]; rfl) w2 hB02
  have d5 : w2.cell? ⟨a, 6, none⟩ = some (.int .u32 (n5.toNat : Int)) := cc 5 n5 (by rw [hns]; rfl) w2 hB02
  have d6 : w2.cell? ⟨a, 7, none⟩ = some (.int .u32 (n6.toNat : Int)) := cc 6 n6 (by rw [hns]; rfl) w2 hB02
  have d7 : w2.cell? ⟨a, 8, none⟩ = some (.int .u32 (n7.toNat : Int)) := cc 7 n7 (by rw [hns]; rfl) w2 hB02
  have d8 : w2.cell? ⟨a, 9, none⟩ = some (.int .u32 (n8.toNat : Int)) := cc 8 n8 (by rw [hns]; rfl) w2 hB02
  have d9 : w2.cell? ⟨a, 10, none⟩ = some (.int .u32 (n9.toNat : Int)) := cc 9 n9 (by rw [hns]; rfl) w2 hB02
  have H2 : Hid (w2.heap[w.heap.size]? = some (.cells ((inoPart s ns 0).map u8v).toArray 5 (0, 0)) ∧ Below w.heap.size w w2) := ⟨hL2, hB02⟩
  clear hL2 hB2 hz2 hB02 cc c0
  go_wp2_with fail
  clear d0 d1 d2 d3 d4 d5 d6 d7 d8 d9
  go_loopw [20] (fun ii wr => ∃ i : Nat, i ≤ 10 ∧ ii = .int .i64 i ∧ Hid (wr.heap[w.heap.size]? = some (.cells ((inoPart s ns i).map u8v).toArray 5 (0, 0))) ∧ Hid (Below w.heap.size w wr)) (fun ii _ => 10 - (intOf ii).toNat)
  case atStart => exact ⟨0, by omega, rfl, H2.out.1, H2.out.2⟩
  case round =>
    clear H2
    obtain ⟨i, hi, rfl, HB, HZ⟩ := hrel
    match i, hi with
    | 0, _ =>
      have hix : ∀ W, (Instr.index 55 (.agg #[.int .u32 (n0.toNat : Int), .int .u32 (n1.toNat : Int), .int .u32 (n2.toNat : Int), .int .u32 (n3.toNat : Int), .int .u32 (n4.toNat : Int), .int .u32 (n5.toNat : Int), .int .u32 (n6.toNat : Int), .int .u32 (n7.toNat : Int), .int .u32 (n8.toNat : Int), .int .u32 (n9.toNat : Int)]) (.int .i64 0)).run Tryz.prog W = .ok (.int .u32 (n0.toNat : Int)) W := fun W => idx10 _ 0 _ rfl (by omega) W
      have cS := setNumber_any n0 w.heap.size 44 44 1 ((inoPart s ns 0).map u8v) wr HB.out (by rw [hlp _ (by omega)]; decide) (hlp _ (by omega)) (by omega)
      unfold u32v at cS
      go_wp2_with (go_at_call 33; refine cS.mono ?_; rintro e w3 ⟨rfl, hL3, hB3, hz3⟩; clear cS; have H3 : Hid (w3.heap[w.heap.size]? = some (.cells ((inoPart s ns 1).map u8v).toArray 5 (0, 0)) ∧ Below w.heap.size w w3) := ⟨by rw [hstep 0 n0 (by rw [hns]; rfl)] at hL3; exact hL3, HZ.out.trans hB3⟩; clear hL3 hB3 hz3)
      exact ⟨⟨1, by omega, rfl, H3.out.1, H3.out.2⟩, by simp [intOf]⟩
    | 1, _ =>
      have hix : ∀ W, (Instr.index 55 (.agg #[.int .u32 (n0.toNat : Int), .int .u32 (n1.toNat : Int), .int .u32 (n2.toNat : Int), .int .u32 (n3.toNat : Int), .int .u32 (n4.toNat : Int), .int .u32 (n5.toNat : Int), .int .u32 (n6.toNat : Int), .int .u32 (n7.toNat : Int), .int .u32 (n8.toNat : Int), .int .u32 (n9.toNat : Int)]) (.int .i64 1)).run Tryz.prog W = .ok (.int .u32 (n1.toNat : Int)) W := fun W => idx10 _ 1 _ rfl (by omega) W
      have cS := setNumber_any n1 w.heap.size 44 44 2 ((inoPart s ns 1).map u8v) wr HB.out (by rw [hlp _ (by omega)]; decide) (hlp _ (by omega)) (by omega)
      unfold u32v at cS
      go_wp2_with (go_at_call 33; refine cS.mono ?_; rintro e w3 ⟨rfl, hL3, hB3, hz3⟩; clear cS; have H3 : Hid (w3.heap[w.heap.size]? = some (.cells ((inoPart s ns 2).map u8v).toArray 5 (0, 0)) ∧ Below w.heap.size w w3) := ⟨by rw [hstep 1 n1 (by rw [hns]; rfl)] at hL3; exact hL3, HZ.out.trans hB3⟩; clear hL3 hB3 hz3)
      exact ⟨⟨2, by omega, rfl, H3.out.1, H3.out.2⟩, by simp [intOf]⟩
    | 2, _ =>
      have hix : ∀ W, (Instr.index 55 (.agg #[.int .u32 (n0.toNat : Int), .int .u32 (n1.toNat : Int), .int .u32 (n2.toNat : Int), .int .u32 (n3.toNat : Int), .int .u32 (n4.toNat : Int), .int .u32 (n5.toNat : Int), .int .u32 (n6.toNat : Int), .int .u32 (n7.toNat : Int), .int .u32 (n8.toNat : Int), .int .u32 (n9.toNat : Int)]) (.int .i64 2)).run Tryz.prog W = .ok (.int .u32 (n2.toNat : Int)) W := fun W => idx10 _ 2 _ rfl (by omega) W
      have cS := setNumber_any n2 w.heap.size 44 44 3 ((inoPart s ns 2).map u8v) wr HB.out (by rw [hlp _ (by omega)]; decide) (hlp _ (by omega)) (by omega)
      unfold u32v at cS
      go_wp2_with (go_at_call 33; refine cS.mono ?_; rintro e w3 ⟨rfl, hL3, hB3, hz3⟩; clear cS; have H3 : Hid (w3.heap[w.heap.size]? = some (.cells ((inoPart s ns 3).map u8v).toArray 5 (0, 0)) ∧ Below w.heap.size w w3) := ⟨by rw [hstep 2 n2 (by rw [hns]; rfl)] at hL3; exact hL3, HZ.out.trans hB3⟩; clear hL3 hB3 hz3)
      exact ⟨⟨3, by omega, rfl, H3.out.1, H3.out.2⟩, by simp [intOf]⟩
    | 3, _ =>
      have hix : ∀ W, (Instr.index 55 (.agg #[.int .u32 (n0.toNat : Int), .int .u32 (n1.toNat : Int), .int .u32 (n2.toNat : Int), .int .u32 (n3.toNat : Int), .int .u32 (n4.toNat : Int), .int .u32 (n5.toNat : Int), .int .u32 (n6.toNat : Int), .int .u32 (n7.toNat : Int), .int .u32 (n8.toNat : Int), .int .u32 (n9.toNat : Int)]) (.int .i64 3)).run Tryz.prog W = .ok (.int .u32 (n3.toNat : Int)) W := fun W => idx10 _ 3 _ rfl (by omega) W
      have cS := setNumber_any n3 w.heap.size 44 44 4 ((inoPart s ns 3).map u8v) wr HB.out (by rw [hlp _ (by omega)]; decide) (hlp _ (by omega)) (by omega)
      unfold u32v at cS
      go_wp2_with (go_at_call 33; refine cS.mono ?_; rintro e w3 ⟨rfl, hL3, hB3, hz3⟩; clear cS; have H3 : Hid (w3.heap[w.heap.size]? = some (.cells ((inoPart s ns 4).map u8v).toArray 5 (0, 0)) ∧ Below w.heap.size w w3) := ⟨by rw [hstep 3 n3 (by rw [hns]; rfl)] at hL3; exact hL3, HZ.out.trans hB3⟩; clear hL3 hB3 hz3)
      exact ⟨⟨4, by omega, rfl, H3.out.1, H3.out.2⟩, by simp [intOf]⟩
    | 4, _ =>
      have hix : ∀ W, (Instr.index 55 (.agg #[.int .u32 (n0.toNat : Int), .int .u32 (n1.toNat : Int), .int .u32 (n2.toNat : Int), .int .u32 (n3.toNat : Int), .int .u32 (n4.toNat : Int), .int .u32 (n5.toNat : Int), .int .u32 (n6.toNat : Int), .int .u32 (n7.toNat : Int), .int .u32 (n8.toNat : Int), .int .u32 (n9.toNat : Int)]) (.int .i64 4)).run Tryz.prog W = .ok (.int .u32 (n4.toNat : Int)) W := fun W => idx10 _ 4 _ rfl (by omega) W
      have cS := setNumber_any n4 w.heap.size 44 44 5 ((inoPart s ns 4).map u8v) wr HB.out (by rw [hlp _ (by omega)]; decide) (hlp _ (by omega)) (by omega)
      unfold u32v at cS
      go_wp2_with (go_at_call 33; refine cS.mono ?_; rintro e w3 ⟨rfl, hL3, hB3, hz3⟩; clear cS; have H3 : Hid (w3.heap[w.heap.size]? = some (.cells ((inoPart s ns 5).map u8v).toArray 5 (0, 0)) ∧ Below w.heap.size w w3) := ⟨by rw [hstep 4 n4 (by rw [hns]; rfl)] at hL3; exact hL3, HZ.out.trans hB3⟩; clear hL3 hB3 hz3)
      exact ⟨⟨5, by omega, rfl, H3.out.1, H3.out.2⟩, by simp [intOf]⟩
    | 5, _ =>
      have hix : ∀ W, (Instr.index 55 (.agg #[.int .u32 (n0.toNat : Int), .int .u32 (n1.toNat : Int), .int .u32 (n2.toNat : Int), .int .u32 (n3.toNat : Int), .int .u32 (n4.toNat : Int), .int .u32 (n5.toNat : Int), .int .u32 (n6.toNat : Int), .int .u32 (n7.toNat : Int), .int .u32 (n8.toNat : Int), .int .u32 (n9.toNat : Int)]) (.int .i64 5)).run Tryz.prog W = .ok (.int .u32 (n5.toNat : Int)) W := fun W => idx10 _ 5 _ rfl (by omega) W
      have cS := setNumber_any n5 w.heap.size 44 44 6 ((inoPart s ns 5).map u8v) wr HB.out (by rw [hlp _ (by omega)]; decide) (hlp _ (by omega)) (by omega)
      unfold u32v at cS
      go_wp2_with (go_at_call 33; refine cS.mono ?_; rintro e w3 ⟨rfl, hL3, hB3, hz3⟩; clear cS; have H3 : Hid (w3.heap[w.heap.size]? = some (.cells ((inoPart s ns 6).map u8v).toArray 5 (0, 0)) ∧ Below w.heap.size w w3) := ⟨by rw [hstep 5 n5 (by rw [hns]; rfl)] at hL3; exact hL3, HZ.out.trans hB3⟩; clear hL3 hB3 hz3)
      exact ⟨⟨6, by omega, rfl, H3.out.1, H3.out.2⟩, by simp [intOf]⟩
    | 6, _ =>
      have hix : ∀ W, (Instr.index 55 (.agg #[.int .u32 (n0.toNat : Int), .int .u32 (n1.toNat : Int), .int .u32 (n2.toNat : Int), .int .u32 (n3.toNat : Int), .int .u32 (n4.toNat : Int), .int .u32 (n5.toNat : Int), .int .u32 (n6.toNat : Int), .int .u32 (n7.toNat : Int), .int .u32 (n8.toNat : Int), .int .u32 (n9.toNat : Int)]) (.int .i64 6)).run Tryz.prog W = .ok (.int .u32 (n6.toNat : Int)) W := fun W => idx10 _ 6 _ rfl (by omega) W
      have cS := setNumber_any n6 w.heap.size 44 44 7 ((inoPart s ns 6).map u8v) wr HB.out (by rw [hlp _ (by omega)]; decide) (hlp _ (by omega)) (by omega)
      unfold u32v at cS
      go_wp2_with (go_at_call 33; refine cS.mono ?_; rintro e w3 ⟨rfl, hL3, hB3, hz3⟩; clear cS; have H3 : Hid (w3.heap[w.heap.size]? = some (.cells ((inoPart s ns 7).map u8v).toArray 5 (0, 0)) ∧ Below w.heap.size w w3) := ⟨by rw [hstep 6 n6 (by rw [hns]; rfl)] at hL3; exact hL3, HZ.out.trans hB3⟩; clear hL3 hB3 hz3)
      exact ⟨⟨7, by omega, rfl, H3.out.1, H3.out.2⟩, by simp [intOf]⟩
    | 7, _ =>
      have hix : ∀ W, (Instr.index 55 (.agg #[.int .u32 (n0.toNat : Int), .int .u32 (n1.toNat : Int), .int .u32 (n2.toNat : Int), .int .u32 (n3.toNat : Int), .int .u32 (n4.toNat : Int), .int .u32 (n5.toNat : Int), .int .u32 (n6.toNat : Int), .int .u32 (n7.toNat : Int), .int .u32 (n8.toNat : Int), .int .u32 (n9.toNat : Int)]) (.int .i64 7)).run Tryz.prog W = .ok (.int .u32 (n7.toNat : Int)) W := fun W => idx10 _ 7 _ rfl (by omega) W
      have cS := setNumber_any n7 w.heap.size 44 44 8 ((inoPart s ns 7).map u8v) wr HB.out (by rw [hlp _ (by omega)]; decide) (hlp _ (by omega)) (by omega)
      unfold u32v at cS
      go_wp2_with (go_at_call 33; refine cS.mono ?_; rintro e w3 ⟨rfl, hL3, hB3, hz3⟩; clear cS; have H3 : Hid (w3.heap[w.heap.size]? = some (.cells ((inoPart s ns 8).map u8v).toArray 5 (0, 0)) ∧ Below w.heap.size w w3) := ⟨by rw [hstep 7 n7 (by rw [hns]; rfl)] at hL3; exact hL3, HZ.out.trans hB3⟩; clear hL3 hB3 hz3)
      exact ⟨⟨8, by omega, rfl, H3.out.1, H3.out.2⟩, by simp [intOf]⟩
    | 8, _ =>
      have hix : ∀ W, (Instr.index 55 (.agg #[.int .u32 (n0.toNat : Int), .int .u32 (n1.toNat : Int), .int .u32 (n2.toNat : Int), .int .u32 (n3.toNat : Int), .int .u32 (n4.toNat : Int), .int .u32 (n5.toNat : Int), .int .u32 (n6.toNat : Int), .int .u32 (n7.toNat : Int), .int .u32 (n8.toNat : Int), .int .u32 (n9.toNat : Int)]) (.int .i64 8)).run Tryz.prog W = .ok (.int .u32 (n8.toNat : Int)) W := fun W => idx10 _ 8 _ rfl (by omega) W
      have cS := setNumber_any n8 w.heap.size 44 44 9 ((inoPart s ns 8).map u8v) wr HB.out (by rw [hlp _ (by omega)]; decide) (hlp _ (by omega)) (by omega)
      unfold u32v at cS
      go_wp2_with (go_at_call 33; refine cS.mono ?_; rintro e w3 ⟨rfl, hL3, hB3, hz3⟩; clear cS; have H3 : Hid (w3.heap[w.heap.size]? = some (.cells ((inoPart s ns 9).map u8v).toArray 5 (0, 0)) ∧ Below w.heap.size w w3) := ⟨by rw [hstep 8 n8 (by rw [hns]; rfl)] at hL3; exact hL3, HZ.out.trans hB3⟩; clear hL3 hB3 hz3)
      exact ⟨⟨9, by omega, rfl, H3.out.1, H3.out.2⟩, by simp [intOf]⟩
    | 9, _ =>
      have hix : ∀ W, (Instr.index 55 (.agg #[.int .u32 (n0.toNat : Int), .int .u32 (n1.toNat : Int), .int .u32 (n2.toNat : Int), .int .u32 (n3.toNat : Int), .int .u32 (n4.toNat : Int), .int .u32 (n5.toNat : Int), .int .u32 (n6.toNat : Int), .int .u32 (n7.toNat : Int), .int .u32 (n8.toNat : Int), .int .u32 (n9.toNat : Int)]) (.int .i64 9)).run Tryz.prog W = .ok (.int .u32 (n9.toNat : Int)) W := fun W => idx10 _ 9 _ rfl (by omega) W
      have cS := setNumber_any n9 w.heap.size 44 44 10 ((inoPart s ns 9).map u8v) wr HB.out (by rw [hlp _ (by omega)]; decide) (hlp _ (by omega)) (by omega)
      unfold u32v at cS
      go_wp2_with (go_at_call 33; refine cS.mono ?_; rintro e w3 ⟨rfl, hL3, hB3, hz3⟩; clear cS; have H3 : Hid (w3.heap[w.heap.size]? = some (.cells ((inoPart s ns 10).map u8v).toArray 5 (0, 0)) ∧ Below w.heap.size w w3) := ⟨by rw [hstep 9 n9 (by rw [hns]; rfl)] at hL3; exact hL3, HZ.out.trans hB3⟩; clear hL3 hB3 hz3)
      exact ⟨⟨10, by omega, rfl, H3.out.1, H3.out.2⟩, by simp [intOf]⟩
    | 10, _ =>
      go_wp2
      go_ret
      refine ⟨rfl, ?_, HZ.out⟩
      have := HB.out
      rw [show inoPart s ns 10 = inoBytes s ns by unfold inoPart inoBytes; rw [List.take_of_length_le (by omega)]; simp] at this
      exact this

end Go.Proofs.YtebdgcoandfocaaGreatDoor

/-
  Package inode: Load.
-/
namespace Go.Proofs.YtebdgcoandfocaaGreatDoor
open Go.RowKit

/-- The number in its place among bytes. -/
def numOf (bs : By) (i : Nat) : BitVec 32 := BitVec.ofNat 32 (leN ((bs.drop (4 * i)).take 4))
theorem four_at (bs : By) (i : Nat) (h : 4 * i + 4 ≤ bs.length) : ∃ b0 b1 b2 b3, (bs.drop (4 * i)).take 4 = [b0, b1, b2, b3] ∧ bs[4 * i]? = some b0 ∧ bs[4 * i + 1]? = some b1 ∧ bs[4 * i + 2]? = some b2 ∧ bs[4 * i + 3]? = some b3 := by
  have h0 := List.drop_eq_getElem_cons (show 4 * i < bs.length by omega)
  have h1 := List.drop_eq_getElem_cons (show 4 * i + 1 < bs.length by omega)
  have h2 := List.drop_eq_getElem_cons (show 4 * i + 1 + 1 < bs.length by omega)
  have h3 := List.drop_eq_getElem_cons (show 4 * i + 1 + 1 + 1 < bs.length by omega)
  refine ⟨_, _, _, _, ?_, List.getElem?_eq_getElem (by omega), List.getElem?_eq_getElem (by omega), List.getElem?_eq_getElem (by omega), List.getElem?_eq_getElem (by omega)⟩
  rw [h0, h1, h2, h3]
  rfl
theorem leN4_lt (b0 b1 b2 b3 : BitVec 8) : leN [b0, b1, b2, b3] < 4294967296 := by
  have l0 := b0.isLt
  have l1 := b1.isLt
  have l2 := b2.isLt
  have l3 := b3.isLt
  simp only [leN]
  omega

theorem number_bytes (p : Option Addr) (bs : By) (cp i : Nat) (w : World) (hb : Bytes w p bs) (hc : bs.length ≤ cp) (hl : 4 * i + 4 ≤ bs.length) (hi : i ≤ 1000) :
    Calls Tryz.prog 32 #[.slice p bs.length cp, .int .i64 (i : Nat)] w fun e w' => e = .returned (u32v (numOf bs i)) ∧ w' = w := by
  obtain ⟨g, o, rfl, hx⟩ := hb (by omega)
  obtain ⟨b0, b1, b2, b3, h4, x0, x1, x2, x3⟩ := four_at bs i hl
  have := number_at g o bs.length cp i b0 b1 b2 b3 w hl hc hi (hx _ _ x0) (hx _ _ x1) (hx _ _ x2) (hx _ _ x3)
  have e : u32v (numOf bs i) = .int .u32 (leN [b0, b1, b2, b3] : Nat) := by
    unfold u32v numOf
    rw [h4, BitVec.toNat_ofNat, Nat.mod_eq_of_lt (leN4_lt _ _ _ _)]
  rw [e]
  exact this

set_option maxRecDepth 8000 in
set_option maxHeartbeats 400000 in
theorem load_big (p : Option Addr) (bs : By) (cp : Nat) (w : World) (hb : Bytes w p bs) (hc : bs.length ≤ cp) (hl : bs.length = 44) (hs : 65536 < (numOf bs 0).toNat) : Calls Tryz.prog 15 #[.slice p bs.length cp] w fun e w' => e = .returned (.tuple #[.pointer none, .int .i64 74]) ∧ w' = w := by
  have cN := number_bytes p bs cp 0 w hb hc (by omega) (by omega)
  have hs' : 65536 < ((numOf bs 0).toNat : Int) := by omega
  rw [hl] at cN ⊢
  unfold u32v at cN
  clear hb hc hl hs
  go_enter Tryz.func15, Tryz.ntmps15
  go_wp2_with (go_at_call 32; refine Calls_on cN ?_; clear cN)
  go_ret2
  exact ⟨rfl, rfl⟩

/-- The numbers that an inode's bytes tell. -/
def numsOf (bs : By) : List (BitVec 32) := (List.range 10).map fun k => numOf bs (1 + k)
theorem nums_done (bs : By) (ns : List (BitVec 32)) (hl : ns.length = 10) (h : ∀ k, k < 10 → ns[k]? = some (numOf bs (1 + k))) : ns = numsOf bs := by
  apply List.ext_getElem?
  intro k
  by_cases hk : k < 10
  · rw [h k hk]; simp [numsOf, hk]
  · rw [List.getElem?_eq_none (by omega), List.getElem?_eq_none (by simp [numsOf]; omega)]

set_option maxRecDepth 8000 in
set_option maxHeartbeats 1000000 in
theorem load_ok (p : Option Addr) (bs : By) (cp : Nat) (w : World) (hb : Bytes w p bs) (hc : bs.length ≤ cp) (hl : bs.length = 44) (hs : (numOf bs 0).toNat ≤ 65536) :
    Calls Tryz.prog 15 #[.slice p bs.length cp] w fun e w' => e = .returned (.tuple #[.pointer (some ⟨w.heap.size, 0, none⟩), .int .i64 0]) ∧ InoAt w' w.heap.size (numOf bs 0).toNat (numsOf bs) ∧ Below w.heap.size w w' := by
  have cN := number_bytes p bs cp 0 w hb hc (by omega) (by omega)
  have cM : ∀ i : Nat, i < 10 → ∀ W, Below w.heap.size w W → Calls Tryz.prog 32 #[.slice p bs.length cp, .int .i64 ((1 + i : Nat) : Int)] W fun e w' => e = .returned (u32v (numOf bs (1 + i))) ∧ w' = W := fun i hi W hW => number_bytes p bs cp (1 + i) W (below_bytes hW hb) hc (by omega) (by omega)
  obtain ⟨z, hz⟩ : ∃ z, (numOf bs 0).toNat = z := ⟨_, rfl⟩
  unfold u32v at cN
  rw [hz] at cN hs ⊢
  have hs' : ¬ 65536 < (z : Int) := by omega
  rw [hl] at cN cM ⊢
  have H0 : Hid (InoAt (w.alloc (.cells (inoCells z noNums).toArray 57)) w.heap.size z noNums ∧ Below w.heap.size w (w.alloc (.cells (inoCells z noNums).toArray 57))) := ⟨heap_alloc_new w _, (Below.refl _ w).alloc (Nat.le_refl _) _⟩
  clear hb hc hl hz
  go_enter Tryz.func15, Tryz.ntmps15
  go_wp2_with (go_at_call 32; refine Calls_on cN ?_; clear cN)
  go_loopw [18] (fun ii wr => ∃ (i : Nat) (ns : List (BitVec 32)), i ≤ 10 ∧ ii = .int .i64 i ∧ Hid (InoAt wr w.heap.size z ns ∧ ns.length = 10 ∧ ∀ k, k < i → ns[k]? = some (numOf bs (1 + k))) ∧ Hid (Below w.heap.size w wr)) (fun ii _ => 10 - (intOf ii).toNat)
  case atStart => exact ⟨0, noNums, by omega, rfl, ⟨H0.out.1, rfl, fun k hk => absurd hk (by omega)⟩, H0.out.2⟩
  case round =>
    clear H0
    obtain ⟨i, ns, hi, rfl, HB, HZ⟩ := hrel
    by_cases hlt : i < 10
    · have hlti : (i : Int) < 10 := by omega
      obtain ⟨x, hx⟩ : ∃ x, ns[i]? = some x := ⟨_, List.getElem?_eq_getElem (by have := HB.out.2.1; omega)⟩
      have d0 := HB.out.1.num hx
      have f0 : wr.frozen? ⟨w.heap.size, 1 + i, none⟩ = false := frozenOf HB.out.1 _
      have cM' := cM i hlt wr.drew HZ.out.drew
      rw [show ((1 + i : Nat) : Int) = 1 + (i : Int) by omega] at cM'
      unfold u32v at cM' d0
      have hw1 : IntKind.i64.wrap (1 + (i : Int)) = 1 + (i : Int) := by rw [IntKind.wrap_i64]; omega
      clear cM hx
      go_wp2_with fail
      go_region_with (go_at_call 32; refine Calls_on cM' ?_)
      all_goals
        have HS : Hid (InoAt (wr.drew.setCell ⟨w.heap.size, 1 + i, none⟩ (.int .u32 ((numOf bs (1 + i)).toNat : Int))) w.heap.size z (ns.set i (numOf bs (1 + i))) ∧ Below w.heap.size w (wr.drew.setCell ⟨w.heap.size, 1 + i, none⟩ (.int .u32 ((numOf bs (1 + i)).toNat : Int)))) := ⟨HB.out.1.set i (numOf bs (1 + i)), HZ.out.drew.setCell (Nat.le_refl _) _⟩
        clear cM' d0 f0
        go_wp2
        refine ⟨⟨i + 1, ns.set i (numOf bs (1 + i)), by omega, by go_num, ⟨HS.out.1, by rw [List.length_set]; exact HB.out.2.1, fun k hk => ?_⟩, HS.out.2⟩, by simp [intOf]; omega⟩
        rw [List.getElem?_set]
        by_cases e : i = k
        · subst e
          rw [if_pos rfl, if_pos (by have := HB.out.2.1; omega)]
        · rw [if_neg e]
          exact HB.out.2.2 k (by omega)
    · obtain rfl : i = 10 := by omega
      go_wp2
      go_ret2
      exact ⟨rfl, by rw [← nums_done bs ns HB.out.2.1 HB.out.2.2]; exact HB.out.1, HZ.out⟩

end Go.Proofs.YtebdgcoandfocaaGreatDoor

/-
  Package inode: a walk's levels where one place is visited, or none.
-/
namespace Go.Proofs.YtebdgcoandfocaaGreatDoor
open Go.RowKit

/-- Numbers that lie in a variable of their own. -/
def NumsAt (w : World) (g : Nat) (ns : List (BitVec 32)) : Prop := w.heap[g]? = some (.cells (ns.map u32v).toArray 55 (0, 0))
theorem NumsAt.num {w : World} {g : Nat} {ns : List (BitVec 32)} (h : NumsAt w g ns) {i : Nat} {n : BitVec 32} (hn : ns[i]? = some n) : w.cell? ⟨g, i, none⟩ = some (u32v n) := by
  rw [cellOf h i, List.getElem?_toArray, List.getElem?_map, hn]; rfl
theorem NumsAt.lt {w : World} {g : Nat} {ns : List (BitVec 32)} (h : NumsAt w g ns) : g < w.heap.size := (Array.getElem?_eq_some_iff.1 h).1
theorem NumsAt.but {w w' : World} {g : Nat} {ns : List (BitVec 32)} {S : Nat → Prop} (h : NumsAt w g ns) (hb : But S w w') (hS : ¬ S g) : NumsAt w' g ns := (hb.block g h.lt hS).trans h
theorem NumsAt.below {w w' : World} {g B : Nat} {ns : List (BitVec 32)} (h : NumsAt w g ns) (hb : Below B w w') (hB : g < B) : NumsAt w' g ns := (hb.block g hB).trans h
/-- A walk. -/
def WalkAt (w : World) (k : Nat) (ch : Value) (from_ to_ : Nat) (holes : Bool) (vis : Value) : Prop := w.heap[k]? = some (.cells #[ch, .int .i64 (from_ : Nat), .int .i64 (to_ : Nat), .bool holes, vis] 81 (0, 0))
theorem WalkAt.lt {w : World} {k : Nat} {ch : Value} {f t : Nat} {h : Bool} {v : Value} (x : WalkAt w k ch f t h v) : k < w.heap.size := (Array.getElem?_eq_some_iff.1 x).1
end Go.Proofs.YtebdgcoandfocaaGreatDoor

namespace Go.Proofs.YtebdgcoandfocaaGreatDoor
open Go.RowKit

theorem slice10a (g : Nat) (w : World) : (Instr.sliceAt 55 (.pointer (some ⟨g, 0, none⟩)) none (some (.int .i64 8)) none).run Tryz.prog w = .ok (.slice (some ⟨g, 0, none⟩) 8 10) w := by
  simp [Instr.sliceAt, run_underlying Tryz.underlying55, Instr.sureAddr, Instr.sliceBounds, Instr.sliceBound, asIntOf, Addr.add_lit]
theorem slice10b (g : Nat) (w : World) : (Instr.sliceAt 55 (.pointer (some ⟨g, 0, none⟩)) (some (.int .i64 8)) (some (.int .i64 9)) none).run Tryz.prog w = .ok (.slice (some ⟨g, 8, none⟩) 1 2) w := by
  simp [Instr.sliceAt, run_underlying Tryz.underlying55, Instr.sureAddr, Instr.sliceBounds, Instr.sliceBound, asIntOf, Addr.add_lit]
theorem slice10c (g : Nat) (w : World) : (Instr.sliceAt 55 (.pointer (some ⟨g, 0, none⟩)) (some (.int .i64 9)) none none).run Tryz.prog w = .ok (.slice (some ⟨g, 9, none⟩) 1 1) w := by
  simp [Instr.sliceAt, run_underlying Tryz.underlying55, Instr.sureAddr, Instr.sliceBounds, Instr.sliceBound, asIntOf, Addr.add_lit]

end Go.Proofs.YtebdgcoandfocaaGreatDoor
