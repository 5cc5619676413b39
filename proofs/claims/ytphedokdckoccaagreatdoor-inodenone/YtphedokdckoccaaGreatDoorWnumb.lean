/-
  appendNumber of package wal, once more: which blocks it turns.
-/
import Derived.Test.YtphedokdckoccaaGreatDoorWmnt
namespace Go.Proofs.YtphedokdckoccaaGreatDoor
open Go.RowKit Go.Maps

/-- Of the old blocks just the row's own may be turned; the row is the old one, or a new one. -/
def Mine (v v' : Value) (w w' : World) : Prop := But (fun k => some k = v.ownBlock) w w' ∧ (v'.ownBlock = v.ownBlock ∨ ∃ k, w.heap.size ≤ k ∧ v'.ownBlock = some k)
theorem Mine.refl (v : Value) (w : World) : Mine v v w w := ⟨But.refl _ _, .inl rfl⟩
theorem Mine.grow {v v' v'' : Value} {w W W' : World} (h : Mine v v' w W) (hg : W.grownBy W' v'.ownBlock) (ho : v''.ownBlock = v'.ownBlock ∨ ∃ k, W.heap.size ≤ k ∧ v''.ownBlock = some k) : Mine v v'' w W' := by
  refine ⟨⟨hg.os.trans h.1.os, hg.tape.trans h.1.tape, hg.output.trans h.1.output, Nat.le_trans h.1.size hg.size, fun k hk hn => (hg.block k (Nat.lt_of_lt_of_le hk h.1.size) (fun e => ?_)).trans (h.1.block k hk hn)⟩, ?_⟩
  · rcases h.2 with e' | ⟨j, hj, e'⟩
    · exact hn (e.trans e')
    · rw [e'] at e; cases e; omega
  · rcases ho with e | ⟨j, hj, e⟩
    · rw [e]; exact h.2
    · exact .inr ⟨j, Nat.le_trans h.1.size hj, e⟩
theorem Mine.alloc {v v' : Value} {w W : World} (h : Mine v v' w W) (o : Obj) : Mine v v' w (W.alloc o) := ⟨h.1.alloc o, h.2⟩
theorem Mine.step {v v' v'' : Value} {w W W' : World} (h : Mine v v' w W) (o : Obj) (hg : (W.alloc o).grownBy W' v'.ownBlock) (ho : v''.ownBlock = v'.ownBlock ∨ v''.ownBlock = some (W.alloc o).heap.size) : Mine v v'' w W' :=
  (h.alloc o).grow hg (ho.imp id fun e => ⟨_, Nat.le_refl _, e⟩)

set_option maxRecDepth 8000 in
set_option maxHeartbeats 2000000 in
theorem appendNumber_own (v : Value) (k : Nat) (bs : By) (n : Nat) (base : Nat) (w : World) (hown : w.ownsRow base 5 1 v k (bs.map u8v)) (hk : k ≤ 1073741824) (hn : n < 4611686018427387904) (hbase : base ≤ w.heap.size) :
    Calls Tryz.prog 149 #[v, .int .i64 n] w fun e w' => ∃ v', e = .returned v' ∧ w'.ownsRow base 5 1 v' (k + 8) ((bs ++ le8 n).map u8v) ∧ Below base w w' ∧ Mine v v' w w' := by
  have HO : Hid (w.ownsRow base 5 1 v k (bs.map u8v)) := hown
  clear hown
  go_enter Tryz.func149, Tryz.ntmps149
  go_wp2_with fail
  go_loopw [0, 6] (fun vv ii wr => ∃ i : Nat, i ≤ 8 ∧ ii = .int .i64 i ∧ Hid (wr.ownsRow base 5 1 vv (k + i) ((bs ++ (le8 n).take i).map u8v) ∧ Below base w wr ∧ Mine v vv w wr)) (fun _ ii _ => 8 - (intOf ii).toNat)
  case atStart => exact ⟨0, Nat.zero_le _, rfl, by simpa using HO.out, Below.refl _ _, Mine.refl _ _⟩
  case round =>
    obtain ⟨i, hi, rfl, HJ⟩ := hrel
    obtain ⟨p0, l0, c0, hv⟩ : ∃ p l c, u0 = Value.slice p l c := by
      rcases HJ.out.1.2 with ⟨e, _⟩ | ⟨g, cap, cur, e, _⟩ <;> exact ⟨_, _, _, e⟩
    subst hv
    have hj : i = 0 ∨ i = 1 ∨ i = 2 ∨ i = 3 ∨ i = 4 ∨ i = 5 ∨ i = 6 ∨ i = 7 ∨ i = 8 := by omega
    rcases hj with rfl | rfl | rfl | rfl | rfl | rfl | rfl | rfl | rfl
    · have HZ : Hid (Value.int .u8 ((n : Int) % 256) = u8v (BitVec.ofNat 8 (n / 256 ^ 0))) := u8_of n _ _ (by simp)
      have HST : Hid (_ = _) := le8_step n 0 (by omega) _ rfl
      go_wp2_with (at_builtin; refine wpList_append_bytes rfl _ _ rfl base _ (k + 0) _ rfl (HJ.out.1.alloc _) _ [BitVec.ofNat 8 (n / 256 ^ 0)] 1 rfl (bytes_new _ _ _ _ HZ.out) (by simp; omega) (by have := HJ.out.2.1.size; simp; omega) ?_; intro v' w1 hown1 hg1 hob1)
      refine ⟨⟨1, by omega, rfl, ?_, ?_, HJ.out.2.2.step _ hg1 hob1⟩, by simp [intOf]⟩
      · rw [HST.out, ← List.append_assoc, List.map_append]; exact hown1
      · exact (HJ.out.2.1.alloc (by have := HJ.out.2.1.size; omega) _).grown hg1 (by have := HJ.out.2.1.size; simp; omega) (owns_block HJ.out.1)
    · have HZ : Hid (Value.int .u8 ((n : Int) / 256 % 256) = u8v (BitVec.ofNat 8 (n / 256 ^ 1))) := u8_of n _ _ (by simp)
      have HST : Hid (_ = _) := le8_step n 1 (by omega) _ rfl
      go_wp2_with (at_builtin; refine wpList_append_bytes rfl _ _ rfl base _ (k + 1) _ rfl (HJ.out.1.alloc _) _ [BitVec.ofNat 8 (n / 256 ^ 1)] 1 rfl (bytes_new _ _ _ _ HZ.out) (by simp; omega) (by have := HJ.out.2.1.size; simp; omega) ?_; intro v' w1 hown1 hg1 hob1)
      refine ⟨⟨2, by omega, rfl, ?_, ?_, HJ.out.2.2.step _ hg1 hob1⟩, by simp [intOf]⟩
      · rw [HST.out, ← List.append_assoc, List.map_append]; exact hown1
      · exact (HJ.out.2.1.alloc (by have := HJ.out.2.1.size; omega) _).grown hg1 (by have := HJ.out.2.1.size; simp; omega) (owns_block HJ.out.1)
    · have HZ : Hid (Value.int .u8 ((n : Int) / 65536 % 256) = u8v (BitVec.ofNat 8 (n / 256 ^ 2))) := u8_of n _ _ (by simp)
      have HST : Hid (_ = _) := le8_step n 2 (by omega) _ rfl
      go_wp2_with (at_builtin; refine wpList_append_bytes rfl _ _ rfl base _ (k + 2) _ rfl (HJ.out.1.alloc _) _ [BitVec.ofNat 8 (n / 256 ^ 2)] 1 rfl (bytes_new _ _ _ _ HZ.out) (by simp; omega) (by have := HJ.out.2.1.size; simp; omega) ?_; intro v' w1 hown1 hg1 hob1)
      refine ⟨⟨3, by omega, rfl, ?_, ?_, HJ.out.2.2.step _ hg1 hob1⟩, by simp [intOf]⟩
      · rw [HST.out, ← List.append_assoc, List.map_append]; exact hown1
      · exact (HJ.out.2.1.alloc (by have := HJ.out.2.1.size; omega) _).grown hg1 (by have := HJ.out.2.1.size; simp; omega) (owns_block HJ.out.1)
    · have HZ : Hid (Value.int .u8 ((n : Int) / 16777216 % 256) = u8v (BitVec.ofNat 8 (n / 256 ^ 3))) := u8_of n _ _ (by simp)
      have HST : Hid (_ = _) := le8_step n 3 (by omega) _ rfl
      go_wp2_with (at_builtin; refine wpList_append_bytes rfl _ _ rfl base _ (k + 3) _ rfl (HJ.out.1.alloc _) _ [BitVec.ofNat 8 (n / 256 ^ 3)] 1 rfl (bytes_new _ _ _ _ HZ.out) (by simp; omega) (by have := HJ.out.2.1.size; simp; omega) ?_; intro v' w1 hown1 hg1 hob1)
      refine ⟨⟨4, by omega, rfl, ?_, ?_, HJ.out.2.2.step _ hg1 hob1⟩, by simp [intOf]⟩
      · rw [HST.out, ← List.append_assoc, List.map_append]; exact hown1
      · exact (HJ.out.2.1.alloc (by have := HJ.out.2.1.size; omega) _).grown hg1 (by have := HJ.out.2.1.size; simp; omega) (owns_block HJ.out.1)
    · have HZ : Hid (Value.int .u8 ((n : Int) / 4294967296 % 256) = u8v (BitVec.ofNat 8 (n / 256 ^ 4))) := u8_of n _ _ (by simp)
      have HST : Hid (_ = _) := le8_step n 4 (by omega) _ rfl
      go_wp2_with (at_builtin; refine wpList_append_bytes rfl _ _ rfl base _ (k + 4) _ rfl (HJ.out.1.alloc _) _ [BitVec.ofNat 8 (n / 256 ^ 4)] 1 rfl (bytes_new _ _ _ _ HZ.out) (by simp; omega) (by have := HJ.out.2.1.size; simp; omega) ?_; intro v' w1 hown1 hg1 hob1)
      refine ⟨⟨5, by omega, rfl, ?_, ?_, HJ.out.2.2.step _ hg1 hob1⟩, by simp [intOf]⟩
      · rw [HST.out, ← List.append_assoc, List.map_append]; exact hown1
      · exact (HJ.out.2.1.alloc (by have := HJ.out.2.1.size; omega) _).grown hg1 (by have := HJ.out.2.1.size; simp; omega) (owns_block HJ.out.1)
    · have HZ : Hid (Value.int .u8 ((n : Int) / 1099511627776 % 256) = u8v (BitVec.ofNat 8 (n / 256 ^ 5))) := u8_of n _ _ (by simp)
      have HST : Hid (_ = _) := le8_step n 5 (by omega) _ rfl
      go_wp2_with (at_builtin; refine wpList_append_bytes rfl _ _ rfl base _ (k + 5) _ rfl (HJ.out.1.alloc _) _ [BitVec.ofNat 8 (n / 256 ^ 5)] 1 rfl (bytes_new _ _ _ _ HZ.out) (by simp; omega) (by have := HJ.out.2.1.size; simp; omega) ?_; intro v' w1 hown1 hg1 hob1)
      refine ⟨⟨6, by omega, rfl, ?_, ?_, HJ.out.2.2.step _ hg1 hob1⟩, by simp [intOf]⟩
      · rw [HST.out, ← List.append_assoc, List.map_append]; exact hown1
      · exact (HJ.out.2.1.alloc (by have := HJ.out.2.1.size; omega) _).grown hg1 (by have := HJ.out.2.1.size; simp; omega) (owns_block HJ.out.1)
    · have HZ : Hid (Value.int .u8 ((n : Int) / 281474976710656 % 256) = u8v (BitVec.ofNat 8 (n / 256 ^ 6))) := u8_of n _ _ (by simp)
      have HST : Hid (_ = _) := le8_step n 6 (by omega) _ rfl
      go_wp2_with (at_builtin; refine wpList_append_bytes rfl _ _ rfl base _ (k + 6) _ rfl (HJ.out.1.alloc _) _ [BitVec.ofNat 8 (n / 256 ^ 6)] 1 rfl (bytes_new _ _ _ _ HZ.out) (by simp; omega) (by have := HJ.out.2.1.size; simp; omega) ?_; intro v' w1 hown1 hg1 hob1)
      refine ⟨⟨7, by omega, rfl, ?_, ?_, HJ.out.2.2.step _ hg1 hob1⟩, by simp [intOf]⟩
      · rw [HST.out, ← List.append_assoc, List.map_append]; exact hown1
      · exact (HJ.out.2.1.alloc (by have := HJ.out.2.1.size; omega) _).grown hg1 (by have := HJ.out.2.1.size; simp; omega) (owns_block HJ.out.1)
    · have HZ : Hid (Value.int .u8 ((n : Int) / 72057594037927936) = u8v (BitVec.ofNat 8 (n / 256 ^ 7))) := u8_of n _ _ (by simp; omega)
      have HST : Hid (_ = _) := le8_step n 7 (by omega) _ rfl
      go_wp2_with (at_builtin; refine wpList_append_bytes rfl _ _ rfl base _ (k + 7) _ rfl (HJ.out.1.alloc _) _ [BitVec.ofNat 8 (n / 256 ^ 7)] 1 rfl (bytes_new _ _ _ _ HZ.out) (by simp; omega) (by have := HJ.out.2.1.size; simp; omega) ?_; intro v' w1 hown1 hg1 hob1)
      refine ⟨⟨8, by omega, rfl, ?_, ?_, HJ.out.2.2.step _ hg1 hob1⟩, by simp [intOf]⟩
      · rw [HST.out, ← List.append_assoc, List.map_append]; exact hown1
      · exact (HJ.out.2.1.alloc (by have := HJ.out.2.1.size; omega) _).grown hg1 (by have := HJ.out.2.1.size; simp; omega) (owns_block HJ.out.1)
    · go_wp2
      go_ret
      have h8 : (le8 n).take 8 = le8 n := List.take_of_length_le (by rw [le8_length]; omega)
      have := HJ.out
      rw [h8] at this
      exact ⟨_, rfl, this.1, this.2.1, this.2.2⟩

end Go.Proofs.YtphedokdckoccaaGreatDoor
