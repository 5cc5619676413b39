/-
  Unframe of package crc.
-/
import Derived.Test.YtebdgcoandfocaaGreatDoorKCref

namespace Go.Proofs.YtebdgcoandfocaaGreatDoor
open Go.RowKit

/-- What Unframe answers: the bytes, how many it takes, the error. -/
def unf (bs : List (BitVec 8)) : List (BitVec 8) × Nat × Int :=
  if bs.length < 8 then ([], 0, 22)
  else if 1048576 < leN (bs.take 4) ∨ bs.length - 8 < leN (bs.take 4) then ([], 0, 22)
  else if (crcSum ((bs.drop 8).take (leN (bs.take 4)))).toNat ≠ leN ((bs.drop 4).take 4) then ([], 0, 74)
  else ((bs.drop 8).take (leN (bs.take 4)), 8 + leN (bs.take 4), 0)

/-- Both Unframes answer so. -/
def Unframed (w : World) (bs : List (BitVec 8)) (e : Ending) (w' : World) : Prop :=
  ∃ q c, c = (unf bs).1.length ∧ e = .returned (.tuple #[.slice q (unf bs).1.length c, .int .i64 ((unf bs).2.1 : Int), .int .i64 (unf bs).2.2]) ∧ Bytes w' q (unf bs).1 ∧ Below w.heap.size w w'

theorem bytes_nil (w : World) (p : Option Addr) : Bytes w p [] := fun h => by simp at h

theorem bytes_drop {w : World} {g o : Nat} {bs : List (BitVec 8)} (hb : Bytes w (some ⟨g, o, none⟩) bs) (k n : Nat) : Bytes w (some ⟨g, o + k, none⟩) ((bs.drop k).take n) := by
  intro hl
  have hl' : 0 < bs.length := by
    rcases Nat.eq_zero_or_pos bs.length with h | h
    · simp [List.eq_nil_of_length_eq_zero h] at hl
    · exact h
  obtain ⟨b, o', e, hx⟩ := hb hl'
  cases e
  refine ⟨g, o + k, rfl, fun j x hj => ?_⟩
  rw [List.getElem?_take] at hj
  split at hj
  · rw [List.getElem?_drop] at hj
    rw [Nat.add_assoc]
    exact hx (k + j) x hj
  · cases hj

theorem list4 {l : List (BitVec 8)} (h : l.length = 4) : ∃ a b c d, l = [a, b, c, d] := by
  match l, h with
  | [a, b, c, d], _ => exact ⟨a, b, c, d, rfl⟩
theorem leN_lt : ∀ l : List (BitVec 8), leN l < 256 ^ l.length
  | [] => by simp [leN]
  | b :: l => by
    have := leN_lt l
    have hb := b.isLt
    simp only [leN, List.length_cons, Nat.pow_succ]
    omega

set_option maxRecDepth 8000 in
set_option maxHeartbeats 400000 in
theorem unframe_short (p : Option Addr) (bs : List (BitVec 8)) (cp : Nat) (w : World) (h : bs.length < 8) :
    Calls Tryz.prog 96 #[.slice p bs.length cp] w (Unframed w bs) := by
  have hu : unf bs = ([], 0, 22) := by unfold unf; rw [if_pos h]
  have hI : (bs.length : Int) < 8 := by omega
  have HU : Hid (unf bs = ([], 0, 22)) := hu
  clear hu
  go_enter Tryz.func96, Tryz.ntmps96
  go_wp2
  go_ret3
  unfold Unframed
  rw [HU.out]
  exact ⟨none, 0, rfl, rfl, bytes_nil _ _, Below.refl _ _⟩

set_option maxRecDepth 8000 in
set_option maxHeartbeats 1000000 in
theorem unframe_long (g o : Nat) (bs : List (BitVec 8)) (cp : Nat) (w : World) (ht : Tab w) (h : 8 ≤ bs.length) (hlen : bs.length < 1099511627776) (hcap : bs.length ≤ cp) (hb : Bytes w (some ⟨g, o, none⟩) bs) :
    Calls Tryz.prog 96 #[.slice (some ⟨g, o, none⟩) bs.length cp] w (Unframed w bs) := by
  obtain ⟨i0, hi0, hz0, hz1, hz2⟩ := info_parts Tryz.info5
  obtain ⟨b0, b1, b2, b3, e4⟩ := list4 (l := bs.take 4) (by rw [List.length_take]; omega)
  obtain ⟨b4, b5, b6, b7, e8⟩ := list4 (l := (bs.drop 4).take 4) (by rw [List.length_take, List.length_drop]; omega)
  have hB0 : Bytes w (some ⟨g, o, none⟩) [b0, b1, b2, b3] := by have := bytes_drop hb 0 4; rw [List.drop_zero, e4] at this; exact this
  have hB4 : Bytes w (some ⟨g, o + 4, none⟩) [b4, b5, b6, b7] := by have := bytes_drop hb 4 4; rw [e8] at this; exact this
  obtain ⟨n, hn⟩ : ∃ n, n = leN [b0, b1, b2, b3] := ⟨_, rfl⟩
  obtain ⟨m, hm⟩ : ∃ m, m = leN [b4, b5, b6, b7] := ⟨_, rfl⟩
  have hn32 : n < 4294967296 := by rw [hn]; exact Nat.lt_of_lt_of_eq (leN_lt [b0, b1, b2, b3]) (by simp)
  have hm32 : m < 4294967296 := by rw [hm]; exact Nat.lt_of_lt_of_eq (leN_lt [b4, b5, b6, b7]) (by simp)
  have c21a := fun c => word_any g o c b0 b1 b2 b3 w hB0
  have c21b : ∀ W c, Below w.heap.size w W → Calls Tryz.prog 112 #[.slice (some ⟨g, o + 4, none⟩) 4 c] W fun e w' => e = .returned (.int .u32 (m : Nat)) ∧ w' = W := fun W c hW => by
    rw [hm]; exact word_any g (o + 4) c b4 b5 b6 b7 W (below_bytes hW hB4)
  rw [← hn] at c21a
  have hu : unf bs = if 1048576 < n ∨ bs.length - 8 < n then ([], 0, 22) else if (crcSum ((bs.drop 8).take n)).toNat ≠ m then ([], 0, 74) else ((bs.drop 8).take n, 8 + n, 0) := by
    unfold unf; rw [if_neg (by omega), e4, e8, ← hn, ← hm]
  have hI : ¬ (bs.length : Int) < 8 := by omega
  have HU : Hid (unf bs = if 1048576 < n ∨ bs.length - 8 < n then ([], 0, 22) else if (crcSum ((bs.drop 8).take n)).toNat ≠ m then ([], 0, 74) else ((bs.drop 8).take n, 8 + n, 0)) := hu
  have HT : Hid (Tab w) := ht
  have HB : Hid (Bytes w (some ⟨g, o, none⟩) bs) := hb
  clear hu hn hm e4 e8 hB0 hB4 ht hb
  by_cases h1 : 1048576 < n
  · have h1I : (1048576 : Int) < n := by omega
    go_enter Tryz.func96, Tryz.ntmps96
    go_wp2_with (go_at_call 112; refine Calls_on (c21a _) ?_)
    go_ret3
    unfold Unframed
    rw [HU.out, if_pos (.inl h1)]
    exact ⟨none, 0, rfl, rfl, bytes_nil _ _, Below.refl _ _⟩
  have h1I : ¬ (1048576 : Int) < n := by omega
  by_cases h2 : bs.length - 8 < n
  · have h2I : (bs.length : Int) - 8 < n := by omega
    go_enter Tryz.func96, Tryz.ntmps96
    go_wp2_with (go_at_call 112; refine Calls_on (c21a _) ?_)
    go_ret3
    unfold Unframed
    rw [HU.out, if_pos (.inr h2)]
    exact ⟨none, 0, rfl, rfl, bytes_nil _ _, Below.refl _ _⟩
  have h2I : ¬ (bs.length : Int) - 8 < n := by omega
  obtain ⟨inn, hinn⟩ : ∃ inn, inn = (bs.drop 8).take n := ⟨_, rfl⟩
  have hil : inn.length = n := by rw [hinn, List.length_take, List.length_drop]; omega
  have hBi : Bytes w (some ⟨g, o + 8, none⟩) inn := by rw [hinn]; exact bytes_drop HB.out 8 n
  have HU2 : Hid (unf bs = if (crcSum inn).toNat ≠ m then ([], 0, 74) else (inn, 8 + n, 0)) := by
    have := HU.out
    rw [if_neg (by omega), ← hinn] at this
    exact this
  clear hinn HU
  subst hil
  have c13 : ∀ (q : Option Addr) (c : Nat), Bytes w q inn → Calls Tryz.prog 113 #[.slice (some ⟨w.heap.size, 0, none⟩) 1 1] (w.alloc (.cells #[.slice q inn.length c] 30)).drew fun e w' => e = .returned (u32v (crcSum inn)) ∧ Below w.heap.size w w' :=
    fun q c hq => of_drew q inn c w HT.out (by omega) hq
  have HBi : Hid (Bytes w (some ⟨g, o + 8, none⟩) inn) := hBi
  clear hBi
  have HT2 : Hid (Bytes w (some ⟨g, o, none⟩) bs) := HB.out
  clear HB
  by_cases hc8 : cp = 8
  · have hnil : inn = [] := List.eq_nil_of_length_eq_zero (by omega)
    subst hnil
    have c13' : ∀ (q : Option Addr) (c : Nat), Calls Tryz.prog 113 #[.slice (some ⟨w.heap.size, 0, none⟩) 1 1] (w.alloc (.cells #[.slice q 0 c] 30)).drew fun e w' => e = .returned (u32v (crcSum [])) ∧ Below w.heap.size w w' := fun q c => c13 q c (bytes_nil _ _)
    clear c13 HBi
    go_enter Tryz.func96, Tryz.ntmps96
    go_wp2_with (go_at_call 112; refine Calls_on (c21a _) ?_)
    go_region_with (first
      | (go_at_call 113; refine (c13' _ _).mono ?_; rintro e w3 ⟨rfl, hB3⟩)
      | (go_at_call 112; refine Calls_on (c21b _ _ (by assumption)) ?_))
    all_goals
      obtain ⟨bb, hbb⟩ : ∃ bb, bb = (((crcSum []).toNat : Int) != (m : Int)) := ⟨_, rfl⟩
      have HU3 : Hid (unf bs = if bb = true then ([], 0, 74) else ([], 8 + ([] : List (BitVec 8)).length, 0)) := by
        show _ = _
        rw [HU2.out, hbb]
        by_cases hq : (crcSum []).toNat = m <;> simp [hq]; omega
      have HB3 : Hid (Below w.heap.size w w3) := hB3
      rw [← hbb]
      clear hbb c13' c21a c21b hB3
      have tok : True := trivial
      cases bb
      · go_wp2_with (first
          | (at_make; refine wpList_make_full _ rfl _ _ 30 rfl 0 5 i0 (.int .u8 0) 1 Tryz.underlying30 hi0 hz0 hz1 .u32 .u32 _ _ 0 rfl rfl rfl rfl (by omega) (by unfold maxLen; omega) (Nat.zero_le _) ?_; intro w4 hrow hg4; have HB4 : Hid (Below w.heap.size w w4) := HB3.out.grown hg4 HB3.out.size (by simp); clear hrow hg4)
          | (have tk := tok; refine wpList_copy_nothing rfl _ _ 30 30 rfl 5 Tryz.underlying30 Tryz.size5 _ _ _ _ _ _ rfl rfl rfl ?_; clear tk tok))
        go_ret3
        unfold Unframed
        rw [HU3.out]
        exact ⟨_, _, rfl, rfl, bytes_nil _ _, HB4.out⟩
      · go_wp2
        go_ret3
        unfold Unframed
        rw [HU3.out]
        exact ⟨_, _, rfl, rfl, bytes_nil _ _, HB3.out⟩
  · go_enter Tryz.func96, Tryz.ntmps96
    go_wp2_with (go_at_call 112; refine Calls_on (c21a _) ?_)
    go_region_with (first
      | (go_at_call 113; refine (c13 _ _ HBi.out).mono ?_; rintro e w3 ⟨rfl, hB3⟩)
      | (go_at_call 112; refine Calls_on (c21b _ _ (by assumption)) ?_))
    all_goals
      obtain ⟨bb, hbb⟩ : ∃ bb, bb = (((crcSum inn).toNat : Int) != (m : Int)) := ⟨_, rfl⟩
      have HU3 : Hid (unf bs = if bb = true then ([], 0, 74) else (inn, 8 + inn.length, 0)) := by
        show _ = _
        rw [HU2.out, hbb]
        by_cases hq : (crcSum inn).toNat = m <;> simp [hq]; omega
      have HB3 : Hid (Below w.heap.size w w3) := hB3
      rw [← hbb]
      clear hbb c13 c21a c21b hB3
      have tok : True := trivial
      cases bb
      · have HS : Hid (∀ (j : Nat) (x : BitVec 8), inn[j]? = some x → w.cell? ⟨g, o + 8 + j, none⟩ = some (u8v x)) := by
          intro j x hj
          obtain ⟨_, _, e, hx⟩ := HBi.out (Nat.lt_of_le_of_lt (Nat.zero_le _) (List.getElem?_eq_some_iff.1 hj).1)
          cases e
          exact hx j x hj
        go_wp2_with (first
          | (at_make; refine wpList_make_full _ rfl _ _ 30 rfl 0 5 i0 (.int .u8 0) 1 Tryz.underlying30 hi0 hz0 hz1 .u32 .u32 _ _ inn.length rfl rfl rfl rfl (by rw [hz2]; omega) (by unfold maxLen; omega) (Nat.zero_le _) ?_; intro w4 hrow hg4; have hrep : Hid (w4.heap[w3.heap.size]? = some (.cells (List.replicate inn.length (.int .u8 0)).toArray 5 (0, 0))) := made_rep hrow; have HB4 : Hid (Below w.heap.size w w4) := HB3.out.grown hg4 HB3.out.size (by simp); clear hrow hg4)
          | (have tk := tok; refine wpList_copy_splice rfl _ _ 30 30 rfl 5 Tryz.underlying30 Tryz.size5 (some ⟨w3.heap.size, 0, none⟩) (some ⟨g, o + 8, none⟩) inn.length inn.length (8 + inn.length - 8) (cp - 8) rfl rfl w3.heap.size 0 (List.replicate inn.length (.int .u8 0)) 5 hrep.out (inn.map u8v) (by simp) (fun _ => ⟨rfl, ⟨g, o + 8, none⟩, rfl, fun j v hj => by
              rw [List.getElem?_map] at hj
              obtain ⟨x, hx, rfl⟩ := Option.map_eq_some_iff.1 hj
              have hc := HS.out j x hx
              rw [Addr.add_lit]; exact (HB4.out.cell (p := ⟨g, o + 8 + j, none⟩) (cell_lt hc)).trans hc⟩) (by simp) (u8v_one inn) w.heap.size w HB4.out HB3.out.size ?_; clear tk tok; intro w5 hz5 hB5))
        go_ret3
        unfold Unframed
        rw [HU3.out]
        have hz6 := hz5.out
        rw [show splice (List.replicate inn.length (Value.int .u8 0)) 0 (inn.map u8v) = inn.map u8v by simp [splice]] at hz6
        exact ⟨_, _, rfl, rfl, bytes_block hz6, hB5⟩
      · go_wp2
        go_ret3
        unfold Unframed
        rw [HU3.out]
        exact ⟨_, _, rfl, rfl, bytes_nil _ _, HB3.out⟩

end Go.Proofs.YtebdgcoandfocaaGreatDoor
