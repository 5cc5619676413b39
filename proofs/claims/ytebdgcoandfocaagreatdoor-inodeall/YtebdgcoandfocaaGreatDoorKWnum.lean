/-
  Numbers of eight bytes: appendNumber and number of package wal.
-/
import Derived.Test.YtebdgcoandfocaaGreatDoorKWalm
import Derived.Maps.AppendAt

namespace Go.Proofs.YtebdgcoandfocaaGreatDoor
open Go.RowKit Go.Maps

/-- Where a walk shall halt. -/
structure Stop (p : Prop) : Prop where
  out : p

theorem owns_block {W : World} {base : Nat} {v : Value} {n : Nat} {xs : List Value} (h : W.ownsRow base 5 1 v n xs) : ∀ k, v.ownBlock = some k → base ≤ k := by
  intro k hk
  rcases h.2 with ⟨rfl, _⟩ | ⟨g, cap, cur, rfl, hg, _⟩
  · cases hk
  · cases hk; exact hg
theorem u8_of (n m : Nat) (z : Int) (hz : z = ((n / m : Nat) : Int) % 256) : Value.int .u8 z = u8v (BitVec.ofNat 8 (n / m)) := by
  unfold u8v
  rw [BitVec.toNat_ofNat, hz]
  congr 1

theorem bytes_one {W : World} {b : Nat} {z : Int} {x : BitVec 8} (h : W.cell? ⟨b, 0, none⟩ = some (.int .u8 z)) (hz : Value.int .u8 z = u8v x) : Bytes W (some ⟨b, 0, none⟩) [x] := by
  refine fun _ => ⟨b, 0, rfl, fun j y hj => ?_⟩
  cases j with
  | zero => simp at hj; subst hj; rw [← hz]; exact h
  | succ j => simp at hj

theorem bytes_new (w : World) (z : Int) (x : BitVec 8) (t : TypeId) (hz : Value.int .u8 z = u8v x) : Bytes (w.alloc (.cells #[.int .u8 z] t)) (some ⟨w.heap.size, 0, none⟩) [x] :=
  bytes_one (cellOf (heap_alloc_new w _) 0) hz

theorem le8_step (n i : Nat) (hi : i < 8) (x : BitVec 8) (hx : x = BitVec.ofNat 8 (n / 256 ^ i)) : (le8 n).take (i + 1) = (le8 n).take i ++ [x] := by
  rw [List.take_add_one, le8, leK_get 8 n i hi, hx]; rfl

set_option maxRecDepth 8000 in
set_option maxHeartbeats 2000000 in
theorem appendNumber_any (v : Value) (k : Nat) (bs : By) (n : Nat) (base : Nat) (w : World) (hown : w.ownsRow base 5 1 v k (bs.map u8v)) (hk : k ≤ 1073741824) (hn : n < 4611686018427387904) (hbase : base ≤ w.heap.size) :
    Calls Tryz.prog 94 #[v, .int .i64 n] w fun e w' => ∃ v', e = .returned v' ∧ w'.ownsRow base 5 1 v' (k + 8) ((bs ++ le8 n).map u8v) ∧ Below base w w' := by
  have HO : Hid (w.ownsRow base 5 1 v k (bs.map u8v)) := hown
  clear hown
  go_enter Tryz.func94, Tryz.ntmps94
  go_wp2_with fail
  go_loopw [0, 6] (fun vv ii wr => ∃ i : Nat, i ≤ 8 ∧ ii = .int .i64 i ∧ Hid (wr.ownsRow base 5 1 vv (k + i) ((bs ++ (le8 n).take i).map u8v) ∧ Below base w wr)) (fun _ ii _ => 8 - (intOf ii).toNat)
  case atStart => exact ⟨0, Nat.zero_le _, rfl, by simpa using HO.out, Below.refl _ _⟩
  case round =>
    obtain ⟨i, hi, rfl, HJ⟩ := hrel
    obtain ⟨p0, l0, c0, hv⟩ : ∃ p l c, u0 = Value.slice p l c := by
      rcases HJ.out.1.2 with ⟨e, _⟩ | ⟨g, cap, cur, e, _⟩ <;> exact ⟨_, _, _, e⟩
    subst hv
    have hj : i = 0 ∨ i = 1 ∨ i = 2 ∨ i = 3 ∨ i = 4 ∨ i = 5 ∨ i = 6 ∨ i = 7 ∨ i = 8 := by omega
    rcases hj with rfl | rfl | rfl | rfl | rfl | rfl | rfl | rfl | rfl
    · have HZ : Hid (Value.int .u8 ((n : Int) % 256) = u8v (BitVec.ofNat 8 (n / 256 ^ 0))) := u8_of n _ _ (by simp)
      have HST : Hid (_ = _) := le8_step n 0 (by omega) _ rfl
      go_wp2_with (at_builtin; refine wpList_append_bytes rfl _ _ rfl base _ (k + 0) _ rfl (HJ.out.1.alloc _) _ [BitVec.ofNat 8 (n / 256 ^ 0)] 1 rfl (bytes_new _ _ _ _ HZ.out) (by simp; omega) (by have := HJ.out.2.size; simp; omega) ?_; intro v' w1 hown1 hg1 _)
      refine ⟨⟨1, by omega, rfl, ?_, ?_⟩, by simp [intOf]⟩
      · rw [HST.out, ← List.append_assoc, List.map_append]; exact hown1
      · exact (HJ.out.2.alloc (by have := HJ.out.2.size; omega) _).grown hg1 (by have := HJ.out.2.size; simp; omega) (owns_block HJ.out.1)
    · have HZ : Hid (Value.int .u8 ((n : Int) / 256 % 256) = u8v (BitVec.ofNat 8 (n / 256 ^ 1))) := u8_of n _ _ (by simp)
      have HST : Hid (_ = _) := le8_step n 1 (by omega) _ rfl
      go_wp2_with (at_builtin; refine wpList_append_bytes rfl _ _ rfl base _ (k + 1) _ rfl (HJ.out.1.alloc _) _ [BitVec.ofNat 8 (n / 256 ^ 1)] 1 rfl (bytes_new _ _ _ _ HZ.out) (by simp; omega) (by have := HJ.out.2.size; simp; omega) ?_; intro v' w1 hown1 hg1 _)
      refine ⟨⟨2, by omega, rfl, ?_, ?_⟩, by simp [intOf]⟩
      · rw [HST.out, ← List.append_assoc, List.map_append]; exact hown1
      · exact (HJ.out.2.alloc (by have := HJ.out.2.size; omega) _).grown hg1 (by have := HJ.out.2.size; simp; omega) (owns_block HJ.out.1)
    · have HZ : Hid (Value.int .u8 ((n : Int) / 65536 % 256) = u8v (BitVec.ofNat 8 (n / 256 ^ 2))) := u8_of n _ _ (by simp)
      have HST : Hid (_ = _) := le8_step n 2 (by omega) _ rfl
      go_wp2_with (at_builtin; refine wpList_append_bytes rfl _ _ rfl base _ (k + 2) _ rfl (HJ.out.1.alloc _) _ [BitVec.ofNat 8 (n / 256 ^ 2)] 1 rfl (bytes_new _ _ _ _ HZ.out) (by simp; omega) (by have := HJ.out.2.size; simp; omega) ?_; intro v' w1 hown1 hg1 _)
      refine ⟨⟨3, by omega, rfl, ?_, ?_⟩, by simp [intOf]⟩
      · rw [HST.out, ← List.append_assoc, List.map_append]; exact hown1
      · exact (HJ.out.2.alloc (by have := HJ.out.2.size; omega) _).grown hg1 (by have := HJ.out.2.size; simp; omega) (owns_block HJ.out.1)
    · have HZ : Hid (Value.int .u8 ((n : Int) / 16777216 % 256) = u8v (BitVec.ofNat 8 (n / 256 ^ 3))) := u8_of n _ _ (by simp)
      have HST : Hid (_ = _) := le8_step n 3 (by omega) _ rfl
      go_wp2_with (at_builtin; refine wpList_append_bytes rfl _ _ rfl base _ (k + 3) _ rfl (HJ.out.1.alloc _) _ [BitVec.ofNat 8 (n / 256 ^ 3)] 1 rfl (bytes_new _ _ _ _ HZ.out) (by simp; omega) (by have := HJ.out.2.size; simp; omega) ?_; intro v' w1 hown1 hg1 _)
      refine ⟨⟨4, by omega, rfl, ?_, ?_⟩, by simp [intOf]⟩
      · rw [HST.out, ← List.append_assoc, List.map_append]; exact hown1
      · exact (HJ.out.2.alloc (by have := HJ.out.2.size; omega) _).grown hg1 (by have := HJ.out.2.size; simp; omega) (owns_block HJ.out.1)
    · have HZ : Hid (Value.int .u8 ((n : Int) / 4294967296 % 256) = u8v (BitVec.ofNat 8 (n / 256 ^ 4))) := u8_of n _ _ (by simp)
      have HST : Hid (_ = _) := le8_step n 4 (by omega) _ rfl
      go_wp2_with (at_builtin; refine wpList_append_bytes rfl _ _ rfl base _ (k + 4) _ rfl (HJ.out.1.alloc _) _ [BitVec.ofNat 8 (n / 256 ^ 4)] 1 rfl (bytes_new _ _ _ _ HZ.out) (by simp; omega) (by have := HJ.out.2.size; simp; omega) ?_; intro v' w1 hown1 hg1 _)
      refine ⟨⟨5, by omega, rfl, ?_, ?_⟩, by simp [intOf]⟩
      · rw [HST.out, ← List.append_assoc, List.map_append]; exact hown1
      · exact (HJ.out.2.alloc (by have := HJ.out.2.size; omega) _).grown hg1 (by have := HJ.out.2.size; simp; omega) (owns_block HJ.out.1)
    · have HZ : Hid (Value.int .u8 ((n : Int) / 1099511627776 % 256) = u8v (BitVec.ofNat 8 (n / 256 ^ 5))) := u8_of n _ _ (by simp)
      have HST : Hid (_ = _) := le8_step n 5 (by omega) _ rfl
      go_wp2_with (at_builtin; refine wpList_append_bytes rfl _ _ rfl base _ (k + 5) _ rfl (HJ.out.1.alloc _) _ [BitVec.ofNat 8 (n / 256 ^ 5)] 1 rfl (bytes_new _ _ _ _ HZ.out) (by simp; omega) (by have := HJ.out.2.size; simp; omega) ?_; intro v' w1 hown1 hg1 _)
      refine ⟨⟨6, by omega, rfl, ?_, ?_⟩, by simp [intOf]⟩
      · rw [HST.out, ← List.append_assoc, List.map_append]; exact hown1
      · exact (HJ.out.2.alloc (by have := HJ.out.2.size; omega) _).grown hg1 (by have := HJ.out.2.size; simp; omega) (owns_block HJ.out.1)
    · have HZ : Hid (Value.int .u8 ((n : Int) / 281474976710656 % 256) = u8v (BitVec.ofNat 8 (n / 256 ^ 6))) := u8_of n _ _ (by simp)
      have HST : Hid (_ = _) := le8_step n 6 (by omega) _ rfl
      go_wp2_with (at_builtin; refine wpList_append_bytes rfl _ _ rfl base _ (k + 6) _ rfl (HJ.out.1.alloc _) _ [BitVec.ofNat 8 (n / 256 ^ 6)] 1 rfl (bytes_new _ _ _ _ HZ.out) (by simp; omega) (by have := HJ.out.2.size; simp; omega) ?_; intro v' w1 hown1 hg1 _)
      refine ⟨⟨7, by omega, rfl, ?_, ?_⟩, by simp [intOf]⟩
      · rw [HST.out, ← List.append_assoc, List.map_append]; exact hown1
      · exact (HJ.out.2.alloc (by have := HJ.out.2.size; omega) _).grown hg1 (by have := HJ.out.2.size; simp; omega) (owns_block HJ.out.1)
    · have HZ : Hid (Value.int .u8 ((n : Int) / 72057594037927936) = u8v (BitVec.ofNat 8 (n / 256 ^ 7))) := u8_of n _ _ (by simp; omega)
      have HST : Hid (_ = _) := le8_step n 7 (by omega) _ rfl
      go_wp2_with (at_builtin; refine wpList_append_bytes rfl _ _ rfl base _ (k + 7) _ rfl (HJ.out.1.alloc _) _ [BitVec.ofNat 8 (n / 256 ^ 7)] 1 rfl (bytes_new _ _ _ _ HZ.out) (by simp; omega) (by have := HJ.out.2.size; simp; omega) ?_; intro v' w1 hown1 hg1 _)
      refine ⟨⟨8, by omega, rfl, ?_, ?_⟩, by simp [intOf]⟩
      · rw [HST.out, ← List.append_assoc, List.map_append]; exact hown1
      · exact (HJ.out.2.alloc (by have := HJ.out.2.size; omega) _).grown hg1 (by have := HJ.out.2.size; simp; omega) (owns_block HJ.out.1)
    · go_wp2
      go_ret
      have h8 : (le8 n).take 8 = le8 n := List.take_of_length_le (by rw [le8_length]; omega)
      have := HJ.out
      rw [h8] at this
      exact ⟨_, rfl, this.1, this.2⟩

theorem list8 {l : By} (h : l.length = 8) : ∃ b0 b1 b2 b3 b4 b5 b6 b7, l = [b0, b1, b2, b3, b4, b5, b6, b7] := by
  match l, h with
  | [b0, b1, b2, b3, b4, b5, b6, b7], _ => exact ⟨b0, b1, b2, b3, b4, b5, b6, b7, rfl⟩

set_option maxRecDepth 8000 in
set_option maxHeartbeats 2000000 in
theorem number_eight (g o l cp : Nat) (b0 b1 b2 b3 b4 b5 b6 b7 : BitVec 8) (w : World) (hcp : 8 ≤ cp) (h : Bytes w (some ⟨g, o, none⟩) [b0, b1, b2, b3, b4, b5, b6, b7]) (hN : leN [b0, b1, b2, b3, b4, b5, b6, b7] < 4611686018427387904) :
    Calls Tryz.prog 77 #[.slice (some ⟨g, o, none⟩) l cp] w fun e w' => e = .returned (.int .i64 (leN [b0, b1, b2, b3, b4, b5, b6, b7] : Nat)) ∧ w' = w := by
  obtain ⟨g', o', e, hx⟩ := h (by simp)
  cases e
  have c0 : w.cell? ⟨g, o, none⟩ = _ := hx 0 b0 rfl
  have c1 := hx 1 b1 rfl
  have c2 := hx 2 b2 rfl
  have c3 := hx 3 b3 rfl
  have c4 := hx 4 b4 rfl
  have c5 := hx 5 b5 rfl
  have c6 := hx 6 b6 rfl
  have c7 := hx 7 b7 rfl
  unfold u8v at c0 c1 c2 c3 c4 c5 c6 c7
  clear hx h
  have l0 : b0.toNat < 256 := b0.isLt
  have l1 : b1.toNat < 256 := b1.isLt
  have l2 : b2.toNat < 256 := b2.isLt
  have l3 : b3.toNat < 256 := b3.isLt
  have l4 : b4.toNat < 256 := b4.isLt
  have l5 : b5.toNat < 256 := b5.isLt
  have l6 : b6.toNat < 256 := b6.isLt
  have l7 : b7.toNat < 256 := b7.isLt
  simp only [leN] at hN
  have l7' : b7.toNat < 64 := by omega
  clear hN
  go_enter Tryz.func77, Tryz.ntmps77
  go_wp2_with fail
  go_loop [3, 9] (fun rr ii => ∃ i : Nat, i ≤ 8 ∧ ii = .int .i64 i ∧ rr = .int .i64 (leN ([b0, b1, b2, b3, b4, b5, b6, b7].take i) : Nat)) (fun _ ii => 8 - (intOf ii).toNat)
  case atStart => exact ⟨0, Nat.zero_le _, rfl, rfl⟩
  case round =>
    obtain ⟨i, hi, rfl, rfl⟩ := hrel
    have hj : i = 0 ∨ i = 1 ∨ i = 2 ∨ i = 3 ∨ i = 4 ∨ i = 5 ∨ i = 6 ∨ i = 7 ∨ i = 8 := by omega
    rcases hj with rfl | rfl | rfl | rfl | rfl | rfl | rfl | rfl | rfl
    · have HO : Hid (_ = _) := or64 (a := 0) (b := b0.toNat) (m := 1) (n := 0) rfl (by omega) (by omega) (by omega)
      go_wp2
      refine ⟨⟨1, by omega, rfl, ?_⟩, by simp [intOf]⟩
      have := HO.out
      simp [leN] at this ⊢
      try rw [this]
      try omega
    · have HO : Hid (_ = _) := or64 (a := leN [b0]) (b := b1.toNat) (m := 256) (n := 8) rfl (by simp [leN]; try omega) (by omega) (by omega)
      go_wp2
      refine ⟨⟨2, by omega, rfl, ?_⟩, by simp [intOf]⟩
      have := HO.out
      simp [leN] at this ⊢
      try rw [this]
      try omega
    · have HO : Hid (_ = _) := or64 (a := leN [b0, b1]) (b := b2.toNat) (m := 65536) (n := 16) rfl (by simp [leN]; try omega) (by omega) (by omega)
      go_wp2
      refine ⟨⟨3, by omega, rfl, ?_⟩, by simp [intOf]⟩
      have := HO.out
      simp [leN] at this ⊢
      try rw [this]
      try omega
    · have HO : Hid (_ = _) := or64 (a := leN [b0, b1, b2]) (b := b3.toNat) (m := 16777216) (n := 24) rfl (by simp [leN]; try omega) (by omega) (by omega)
      go_wp2
      refine ⟨⟨4, by omega, rfl, ?_⟩, by simp [intOf]⟩
      have := HO.out
      simp [leN] at this ⊢
      try rw [this]
      try omega
    · have HO : Hid (_ = _) := or64 (a := leN [b0, b1, b2, b3]) (b := b4.toNat) (m := 4294967296) (n := 32) rfl (by simp [leN]; try omega) (by omega) (by omega)
      go_wp2
      refine ⟨⟨5, by omega, rfl, ?_⟩, by simp [intOf]⟩
      have := HO.out
      simp [leN] at this ⊢
      try rw [this]
      try omega
    · have HO : Hid (_ = _) := or64 (a := leN [b0, b1, b2, b3, b4]) (b := b5.toNat) (m := 1099511627776) (n := 40) rfl (by simp [leN]; try omega) (by omega) (by omega)
      go_wp2
      refine ⟨⟨6, by omega, rfl, ?_⟩, by simp [intOf]⟩
      have := HO.out
      simp [leN] at this ⊢
      try rw [this]
      try omega
    · have HO : Hid (_ = _) := or64 (a := leN [b0, b1, b2, b3, b4, b5]) (b := b6.toNat) (m := 281474976710656) (n := 48) rfl (by simp [leN]; try omega) (by omega) (by omega)
      go_wp2
      refine ⟨⟨7, by omega, rfl, ?_⟩, by simp [intOf]⟩
      have := HO.out
      simp [leN] at this ⊢
      try rw [this]
      try omega
    · have HO : Hid (_ = _) := or64 (a := leN [b0, b1, b2, b3, b4, b5, b6]) (b := b7.toNat) (m := 72057594037927936) (n := 56) rfl (by simp [leN]; try omega) (by omega) (by omega)
      go_wp2
      refine ⟨⟨8, by omega, rfl, ?_⟩, by simp [intOf]⟩
      have := HO.out
      simp [leN] at this ⊢
      try rw [this]
      try omega
    · go_wp2
      go_ret
      exact ⟨rfl, rfl⟩

/-- The number with which some bytes begin. -/
theorem number_any (p : Option Addr) (bs : By) (cp : Nat) (w : World) (hcp : 8 ≤ cp) (h8 : 8 ≤ bs.length) (hb : Bytes w p bs) (hN : leN (bs.take 8) < 4611686018427387904) :
    Calls Tryz.prog 77 #[.slice p bs.length cp] w fun e w' => e = .returned (.int .i64 (leN (bs.take 8) : Nat)) ∧ w' = w := by
  obtain ⟨g, o, rfl, hx⟩ := hb (by omega)
  obtain ⟨b0, b1, b2, b3, b4, b5, b6, b7, e⟩ := list8 (l := bs.take 8) (by rw [List.length_take]; omega)
  rw [e] at hN ⊢
  refine number_eight g o bs.length cp b0 b1 b2 b3 b4 b5 b6 b7 w hcp (fun _ => ⟨g, o, rfl, fun j x hj => hx j x ?_⟩) hN
  rw [← e, List.getElem?_take] at hj
  split at hj
  · exact hj
  · cases hj

end Go.Proofs.YtebdgcoandfocaaGreatDoor
