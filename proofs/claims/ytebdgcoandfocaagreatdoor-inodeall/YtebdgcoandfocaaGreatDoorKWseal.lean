/-
  seal and unseal of package wal.
-/
import Derived.Test.YtebdgcoandfocaaGreatDoorKWnum

namespace Go.Proofs.YtebdgcoandfocaaGreatDoor
open Go.RowKit Go.Maps

theorem splice_pad (c : By) : splice (List.replicate 504 (Value.int .u8 0)) 0 (c.map u8v) = (pad c).map u8v := by
  unfold splice pad
  simp only [List.take_zero, List.nil_append, List.length_map, Nat.zero_add, List.drop_replicate, List.map_append, List.map_replicate]
  rfl

/-- Bytes as the source of a copy. -/
theorem src_of {w : World} {p : Option Addr} {bs : By} (hb : Bytes w p bs) : 0 < (bs.map u8v).length → ∃ ad, p = some ad ∧ ∀ j v, (bs.map u8v)[j]? = some v → w.cell? (ad.add j) = some v := by
  intro hl
  obtain ⟨b, o, rfl, hx⟩ := hb (by simpa using hl)
  refine ⟨_, rfl, fun j v hj => ?_⟩
  rw [List.getElem?_map] at hj
  obtain ⟨x, hx', rfl⟩ := Option.map_eq_some_iff.1 hj
  rw [Addr.add_lit]
  exact hx j x hx'

set_option maxRecDepth 8000 in
set_option maxHeartbeats 1000000 in
theorem seal_any (p : Option Addr) (c : By) (cp : Nat) (w : World) (ht : Tab w) (hl : c.length ≤ 504) (hb : Bytes w p c) :
    Calls Tryz.prog 95 #[.slice p c.length cp] w fun e w' => ∃ g, e = .returned (.slice (some ⟨g, 0, none⟩) 512 512) ∧ w.heap.size ≤ g ∧
      w'.heap[g]? = some (.cells ((sealed c).map u8v).toArray 5 (0, 0)) ∧ Below w.heap.size w w' := by
  obtain ⟨i0, hi0, hz0, hz1, hz2⟩ := info_parts Tryz.info5
  have HT : Hid (Tab w) := ht
  have HB : Hid (Bytes w p c) := hb
  have hpl := pad_length c hl
  have cF : ∀ W : World, Below w.heap.size w W → W.heap[w.heap.size]? = some (.cells ((pad c).map u8v).toArray 5 (0, 0)) →
      Calls Tryz.prog 111 #[.slice (some ⟨w.heap.size, 0, none⟩) 504 504] W fun e w' => e = .returned (.tuple #[.slice (some ⟨W.heap.size, 0, none⟩) 512 512, .int .i64 0]) ∧
        w'.heap[W.heap.size]? = some (.cells ((sealed c).map u8v).toArray 5 (0, 0)) ∧ Below W.heap.size W w' := by
    intro W hB hW
    have := frame_yes (some ⟨w.heap.size, 0, none⟩) (pad c) 504 W (below_tab hB HT.out.lt HT.out) (by omega) (bytes_block hW)
    rw [hpl] at this
    exact this
  clear ht hb
  have tok : True := trivial
  go_enter Tryz.func95, Tryz.ntmps95
  go_wp2_with (first
    | (at_make; refine wpList_make_full _ rfl _ _ 30 rfl 0 5 i0 (.int .u8 0) 1 Tryz.underlying30 hi0 hz0 hz1 .i64 .i64 _ _ 504 rfl rfl rfl rfl (by rw [hz2]; omega) (by unfold maxLen; omega) (Nat.zero_le _) ?_; intro w1 hrow hg1; have hrep : Hid (w1.heap[w.heap.size]? = some (.cells (List.replicate 504 (.int .u8 0)).toArray 5 (0, 0))) := made_rep hrow; have HB1 : Hid (Below w.heap.size w w1) := (Below.refl _ w).grown hg1 (Nat.le_refl _) (by simp); clear hrow hg1)
    | (have tk := tok; refine wpList_copy_splice rfl _ _ 30 30 rfl 5 Tryz.underlying30 Tryz.size5 (some ⟨w.heap.size, 0, none⟩) p 504 504 c.length cp rfl rfl w.heap.size 0 (List.replicate 504 (.int .u8 0)) 5 hrep.out (c.map u8v) (by rw [List.length_map]; exact (Nat.min_eq_left hl).symm) (fun hp => ⟨rfl, src_of (below_bytes HB1.out HB.out) hp⟩) (by simp; omega) (u8v_one c) w.heap.size w HB1.out (Nat.le_refl _) ?_; clear tk tok; intro w2 hz2 hB2; have HZ2 : Hid (w2.heap[w.heap.size]? = some (.cells ((pad c).map u8v).toArray 5 (0, 0))) := by { have := hz2.out; rw [splice_pad] at this; exact this })
    | (go_at_call 111; refine (cF _ hB2 HZ2.out).mono ?_; rintro e w3 ⟨rfl, hg3, hB3⟩; clear cF))
  go_ret
  exact ⟨_, rfl, hB2.size, hg3, hB2.trans (hB3.mono hB2.size)⟩

/-- unseal: what was sealed, or false. -/
def Opens (w : World) (b : By) (e : Ending) (w' : World) : Prop :=
  Below w.heap.size w w' ∧ ((∃ q l c, e = .returned (.tuple #[.slice q l c, .bool false]) ∧ opened b = none) ∨
    ∃ q c, e = .returned (.tuple #[.slice q 504 504, .bool true]) ∧ opened b = some c ∧ c.length = 504 ∧ Bytes w' q c)

theorem unf_err (b : By) : (unf b).2.2 = 0 ∨ (unf b).2.2 = 22 ∨ (unf b).2.2 = 74 := by
  unfold unf
  split
  · exact .inr (.inl rfl)
  · split
    · exact .inr (.inl rfl)
    · split
      · exact .inr (.inr rfl)
      · exact .inl rfl

set_option maxRecDepth 8000 in
set_option maxHeartbeats 1000000 in
theorem unseal_any (p : Option Addr) (b : By) (cp : Nat) (w : World) (ht : Tab w) (hlen : b.length < 1099511627776) (hcap : b.length ≤ cp) (hb : Bytes w p b) :
    Calls Tryz.prog 76 #[.slice p b.length cp] w (Opens w b) := by
  have hu : Calls Tryz.prog 96 #[.slice p b.length cp] w (Unframed w b) := by
    by_cases h8 : b.length < 8
    · exact unframe_short p b cp w h8
    · obtain ⟨g, o, rfl, hx⟩ := hb (by omega)
      exact unframe_long g o b cp w ht (by omega) hlen hcap (fun _ => ⟨g, o, rfl, hx⟩)
  clear ht hb
  unfold Unframed at hu
  unfold Opens
  have HOP : Hid (opened b = if (unf b).2.2 = 0 ∧ (unf b).1.length = 504 then some (unf b).1 else none) := rfl
  obtain ⟨u1, h1⟩ : ∃ u1, (unf b).1 = u1 := ⟨_, rfl⟩
  obtain ⟨u2, h2⟩ : ∃ u2, (unf b).2.1 = u2 := ⟨_, rfl⟩
  obtain ⟨u3, h3⟩ : ∃ u3, (unf b).2.2 = u3 := ⟨_, rfl⟩
  have he := unf_err b
  rw [h1, h2, h3] at hu
  rw [h3] at he
  have HOP2 : Hid (opened b = if u3 = 0 ∧ u1.length = 504 then some u1 else none) := by
    have := HOP.out
    rw [h1, h3] at this
    exact this
  generalize opened b = ob at HOP HOP2 ⊢
  clear h1 h2 h3 HOP
  rcases he with rfl | rfl | rfl
  · by_cases hl : u1.length = 504
    · have hlI : ((u1.length : Int) == 504) = true := by simp; omega
      go_enter Tryz.func76, Tryz.ntmps76
      go_wp2_with (go_at_call 96; refine hu.mono ?_; rintro e w1 ⟨q, c, rfl, rfl, hb1, hB1⟩; clear hu)
      go_ret2
      refine ⟨hB1, .inr ⟨q, u1, ?_, ?_, hl, hb1⟩⟩
      · rfl
      · rw [HOP2.out]; simp [hl]
    · have hlI : ((u1.length : Int) == 504) = false := by simp; omega
      go_enter Tryz.func76, Tryz.ntmps76
      go_wp2_with (go_at_call 96; refine hu.mono ?_; rintro e w1 ⟨q, c, rfl, rfl, hb1, hB1⟩; clear hu)
      go_ret2
      refine ⟨hB1, .inl ⟨_, _, _, rfl, ?_⟩⟩
      rw [HOP2.out]; simp [hl]
  · go_enter Tryz.func76, Tryz.ntmps76
    go_wp2_with (go_at_call 96; refine hu.mono ?_; rintro e w1 ⟨q, c, rfl, rfl, hb1, hB1⟩; clear hu)
    go_ret2
    refine ⟨hB1, .inl ⟨_, _, _, rfl, ?_⟩⟩
    rw [HOP2.out]; simp
  · go_enter Tryz.func76, Tryz.ntmps76
    go_wp2_with (go_at_call 96; refine hu.mono ?_; rintro e w1 ⟨q, c, rfl, rfl, hb1, hB1⟩; clear hu)
    go_ret2
    refine ⟨hB1, .inl ⟨_, _, _, rfl, ?_⟩⟩
    rw [HOP2.out]; simp

end Go.Proofs.YtebdgcoandfocaaGreatDoor
