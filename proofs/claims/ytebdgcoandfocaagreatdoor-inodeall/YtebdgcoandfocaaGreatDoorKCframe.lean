/-
  Frame of package crc.
-/
import Derived.Test.YtebdgcoandfocaaGreatDoorKCwords
import Derived.Deep.RegionHeld3

namespace Go.Proofs.YtebdgcoandfocaaGreatDoor
open Go.RowKit

theorem Tryz.info5 : (Tryz.prog.info? 5).map (fun i => (i.zero, i.size, i.bytes)) = some (some (.int .u8 0), 1, 1) := by kernel_rfl
theorem Tryz.size5 : (Tryz.prog.info? 5).map (·.size) = some 1 := by kernel_rfl

/-- Row of a made slice: the whole block. -/
theorem owns_whole {w : World} {base e : Nat} {g n : Nat} {xs : List Value} (h : w.ownsRow base e 1 (.slice (some ⟨g, 0, none⟩) n n) n xs) :
    w.heap[g]? = some (.cells xs.toArray e (0, 0)) := by
  obtain ⟨hl, h⟩ := h
  rcases h with ⟨h, _⟩ | ⟨g', cap, cur, hv, _, hg, _, _, hs, ht⟩
  · cases h
  · cases hv
    have e1 : cur.toList = xs := by
      rw [← ht, List.take_of_length_le]
      simp [hs]
    rw [hg, ← e1]
theorem made_rep {w : World} {base g n : Nat} (h : w.ownsRow base 5 1 (.slice (some ⟨g, 0, none⟩) n n) n (madeCells (Value.int .u8 0).cells (n * 1)).toList) :
    w.heap[g]? = some (.cells (List.replicate n (.int .u8 0)).toArray 5 (0, 0)) := by
  rw [show (Value.int .u8 0).cells = #[.int .u8 0] from rfl, Nat.mul_one, toList_madeCells_one] at h
  exact owns_whole h

/-- A frame's bytes. -/
def framed (bs : List (BitVec 8)) : List (BitVec 8) := le4 (BitVec.ofNat 32 bs.length) ++ (le4 (crcSum bs) ++ bs)
theorem framed_length (bs : List (BitVec 8)) : (framed bs).length = 8 + bs.length := by
  simp [framed, le4_length]; omega

theorem framed_splice (bs : List (BitVec 8)) :
    splice (splice (splice (List.replicate (8 + bs.length) (Value.int .u8 0)) 0 ((le4 (BitVec.ofNat 32 bs.length)).map u8v)) 4 ((le4 (crcSum bs)).map u8v)) 8 (bs.map u8v) = (framed bs).map u8v := by
  have e1 : ∀ (A B C : List Value) (n : Nat), A.length = 4 → B.length = 4 → C.length = n → splice (splice (splice (List.replicate (8 + n) (Value.int .u8 0)) 0 A) 4 B) 8 C = A ++ (B ++ C) := by
    intro A B C n hA hB hC
    have s1 : splice (List.replicate (8 + n) (Value.int .u8 0)) 0 A = A ++ List.replicate (4 + n) (Value.int .u8 0) := by
      simp [splice, hA, List.drop_replicate]; omega
    have s2 : splice (A ++ List.replicate (4 + n) (Value.int .u8 0)) 4 B = A ++ (B ++ List.replicate n (Value.int .u8 0)) := by
      unfold splice
      rw [List.take_append_of_le_length (by omega), List.take_of_length_le (by omega), List.drop_append, hA, hB]
      simp [hA, List.drop_replicate]
    have s3 : splice (A ++ (B ++ List.replicate n (Value.int .u8 0))) 8 C = A ++ (B ++ C) := by
      unfold splice
      rw [List.take_append, List.take_of_length_le (by omega), List.take_append_of_le_length (by omega), List.take_of_length_le (by omega), List.drop_of_length_le (by simp; omega)]
      simp
    rw [s1, s2, s3]
  rw [e1 _ _ _ bs.length rfl rfl (by simp)]
  simp [framed]

theorem u8v_one (bs : List (BitVec 8)) : ∀ v ∈ bs.map u8v, v.oneCell' = true := by
  intro v hv
  obtain ⟨x, _, rfl⟩ := List.mem_map.1 hv
  rfl

/-- One part. -/
theorem parts_one {w : World} {p : Option Addr} {bs : List (BitVec 8)} {cp g : Nat} {t : TypeId} (hb : Bytes w p bs) (hl : bs.length < 9223372036854775808) (hg : w.heap[g]? = some (.cells #[.slice p bs.length cp] t (0, 0))) :
    Parts w (some ⟨g, 0, none⟩) [⟨p, cp, bs⟩] := by
  refine ⟨fun _ => ⟨g, 0, rfl, fun j x hj => ?_⟩, fun j x hj => ?_⟩
  · cases j with
    | zero => simp at hj; subst hj; rw [cellOf hg]; rfl
    | succ j => simp at hj
  · cases j with
    | zero => simp at hj; subst hj; exact ⟨hl, hb⟩
    | succ j => simp at hj

/-- Of one slice that was just laid. -/
theorem of_one (p : Option Addr) (bs : List (BitVec 8)) (cp : Nat) (w W : World) (ht : Tab w) (hl : bs.length < 9223372036854775808) (hb : Bytes w p bs) (hB : Below w.heap.size w W) (hlt : w.heap.size < W.heap.size) (hW : W.heap[w.heap.size]? = some (.cells #[.slice p bs.length cp] 30 (0, 0))) :
    Calls Tryz.prog 113 #[.slice (some ⟨w.heap.size, 0, none⟩) 1 1] W fun e w' => e = .returned (u32v (crcSum bs)) ∧ Below w.heap.size w w' := by
  refine (of_any (some ⟨w.heap.size, 0, none⟩) [⟨p, cp, bs⟩] 1 W (below_tab hB ht.lt ht) (by simp) (parts_one (below_bytes hB hb) hl hW)).mono ?_
  rintro e w' ⟨rfl, hB'⟩
  refine ⟨by simp [allBytes], hB.trans (hB'.mono (Nat.le_of_lt hlt))⟩

theorem of_drew (p : Option Addr) (bs : List (BitVec 8)) (cp : Nat) (w : World) (ht : Tab w) (hl : bs.length < 9223372036854775808) (hb : Bytes w p bs) :
    Calls Tryz.prog 113 #[.slice (some ⟨w.heap.size, 0, none⟩) 1 1] (w.alloc (.cells #[.slice p bs.length cp] 30)).drew fun e w' => e = .returned (u32v (crcSum bs)) ∧ Below w.heap.size w w' :=
  of_one p bs cp w _ ht hl hb (((Below.refl _ _).alloc (Nat.le_refl _) _).drew) (by show _ < (w.alloc _).heap.size; simp) (heap_alloc_new w _)

set_option maxRecDepth 8000 in
set_option maxHeartbeats 1000000 in
theorem frame_yes (p : Option Addr) (bs : List (BitVec 8)) (cp : Nat) (w : World) (ht : Tab w) (hl : bs.length ≤ 1048576) (hb : Bytes w p bs) :
    Calls Tryz.prog 111 #[.slice p bs.length cp] w fun e w' => e = .returned (.tuple #[.slice (some ⟨w.heap.size, 0, none⟩) (8 + bs.length) (8 + bs.length), .int .i64 0]) ∧
      w'.heap[w.heap.size]? = some (.cells ((framed bs).map u8v).toArray 5 (0, 0)) ∧ Below w.heap.size w w' := by
  obtain ⟨i0, hi0, hz0, hz1, hz2⟩ := info_parts Tryz.info5
  have hI : ¬ (1048576 : Int) < bs.length := by omega
  have HT : Hid (Tab w) := ht
  have HB : Hid (Bytes w p bs) := hb
  clear ht hb
  go_enter Tryz.func111, Tryz.ntmps111
  go_wp2_with (at_make; refine wpList_make_full _ rfl _ _ 30 rfl 0 5 i0 (.int .u8 0) 1 Tryz.underlying30 hi0 hz0 hz1 .i64 .i64 _ _ (8 + bs.length) rfl rfl (by go_num) (by go_num) (by rw [hz2]; omega) (by unfold maxLen; omega) (Nat.zero_le _) ?_; intro w1 hrow hg1; have hrep : Hid (w1.heap[w.heap.size]? = some (.cells (List.replicate (8 + bs.length) (.int .u8 0)).toArray 5 (0, 0))) := made_rep hrow; clear hrow)
  have hn : (BitVec.ofNat 32 bs.length).toNat = bs.length := by rw [BitVec.toNat_ofNat]; exact Nat.mod_eq_of_lt (by omega)
  have c19 := put_any (BitVec.ofNat 32 bs.length) w.heap.size 0 (8 + bs.length) _ w1 hrep.out (by simp; omega)
  rw [show u32v (BitVec.ofNat 32 bs.length) = .int .u32 (bs.length : Int) by unfold u32v; rw [hn]] at c19
  obtain ⟨L1, hL1⟩ : ∃ L1, L1 = splice (List.replicate (8 + bs.length) (Value.int .u8 0)) 0 ((le4 (BitVec.ofNat 32 bs.length)).map u8v) := ⟨_, rfl⟩
  rw [← hL1] at c19
  have hB1 : Below w.heap.size w w1 := (Below.refl _ w).grown hg1 (Nat.le_refl _) (by simp)
  have hlL1 : L1.length = 8 + bs.length := by rw [hL1, length_splice _ _ _ (by simp [le4_length]; omega)]; simp
  refine c19.mono ?_
  rintro e w2 ⟨rfl, hL2, hB2, hz2'⟩
  clear c19 hrep hg1
  have hB12 : Below w.heap.size w w2 := hB1.trans hB2
  have hlt2 : w.heap.size < w2.heap.size := (Array.getElem?_eq_some_iff.1 hL2).1
  have c13 := of_drew p bs cp w2 (below_tab hB12 HT.out.lt HT.out) (by omega) (below_bytes hB12 HB.out)
  have c19 : ∀ W, Below w2.heap.size w2 W → Calls Tryz.prog 128 #[.slice (some ⟨w.heap.size, 4, none⟩) 4 (8 + bs.length - 4), u32v (crcSum bs)] W fun e w' => e = .returned (.tuple #[]) ∧ w'.heap[w.heap.size]? = some (.cells (splice L1 4 ((le4 (crcSum bs)).map u8v)).toArray 5 (0, 0)) ∧ Below w.heap.size W w' ∧ w'.heap.size = W.heap.size :=
    fun W hW => put_any (crcSum bs) w.heap.size 4 (8 + bs.length - 4) L1 W ((hW.block _ hlt2).trans hL2) (by omega)
  have HB12 : Hid (Below w.heap.size w w2) := hB12
  have HL1 : Hid (L1 = splice (List.replicate (8 + bs.length) (Value.int .u8 0)) 0 ((le4 (BitVec.ofNat 32 bs.length)).map u8v)) := hL1
  clear hB1 hB2 hB12 hL1 hL2 hz2' hn
  go_wp2_with fail
  go_region_with (first
    | (go_at_call 113; refine c13.mono ?_; rintro e w3 ⟨rfl, hB3⟩)
    | (go_at_call 128; refine (c19 _ (by assumption)).mono ?_; rintro e w4 ⟨rfl, hL4, hB4, _⟩))
  all_goals
    have hL4' : Hid (w4.heap[w.heap.size]? = some (.cells (splice L1 4 ((le4 (crcSum bs)).map u8v)).toArray 5 (0, 0))) := hL4
    have hB4' : Below w.heap.size w w4 := (HB12.out.trans (hB3.mono (Nat.le_of_lt hlt2))).trans hB4
    have HB4 : Hid (Below w.heap.size w w4) := hB4'
    have hB4b : Hid (Bytes w4 p bs) := below_bytes hB4' HB.out
    have tok : True := trivial
    clear hL4 hB4 hB4' hB3 c13 c19 HB12
    by_cases hz : bs.length = 0
    · have hnil : bs = [] := List.eq_nil_of_length_eq_zero hz
      subst hnil
      go_wp2_with (have tk := tok; refine wpList_copy_nothing rfl _ _ 30 30 rfl 5 Tryz.underlying30 Tryz.size5 _ _ _ _ _ _ rfl rfl rfl ?_; clear tk tok)
      go_ret2
      refine ⟨rfl, ?_, HB4.out⟩
      rw [hL4'.out, HL1.out]
      rfl
    · have hne : ¬ (8 + bs.length = 8) := by omega
      have hpos : 0 < bs.length := by omega
      obtain ⟨bb, bo, rfl, hbs⟩ := hB4b.out hpos
      have HBS : Hid (∀ (j : Nat) (x : BitVec 8), bs[j]? = some x → w4.cell? ⟨bb, bo + j, none⟩ = some (u8v x)) := hbs
      clear hbs
      go_wp2_with (have tk := tok; refine wpList_copy_splice rfl _ _ 30 30 rfl 5 Tryz.underlying30 Tryz.size5 (some ⟨w.heap.size, 8, none⟩) (some ⟨bb, bo, none⟩) bs.length bs.length bs.length cp rfl rfl w.heap.size 8 (splice L1 4 ((le4 (crcSum bs)).map u8v)) 5 hL4'.out (bs.map u8v) (by simp) (fun _ => ⟨rfl, ⟨bb, bo, none⟩, rfl, fun j v hj => by
          rw [List.getElem?_map] at hj
          obtain ⟨x, hx, rfl⟩ := Option.map_eq_some_iff.1 hj
          rw [Addr.add_lit]; exact HBS.out j x hx⟩) (by rw [length_splice _ _ _ (by simp [le4_length]; omega), hlL1]; simp) (u8v_one bs) w.heap.size w HB4.out (Nat.le_refl _) ?_; clear tk tok; intro w5 hz5 hB5)
      go_ret2
      refine ⟨rfl, ?_, hB5⟩
      rw [hz5.out, HL1.out]
      congr 2
      exact congrArg _ (framed_splice bs)

end Go.Proofs.YtebdgcoandfocaaGreatDoor
