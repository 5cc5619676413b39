/-
  begun of the law's package: one list is written and read. Short.
-/
import Derived.Test.YthimmgbccpdkmaaRstr
namespace Go.Proofs.Ythimmgbccpdkmaa
open Go.RowKit

def b1 : List (BitVec 8) := [172#8, 2#8]
def b2 : List (BitVec 8) := [172#8, 2#8, 2#8, 97#8, 98#8]
def b3 : List (BitVec 8) := [172#8, 2#8, 2#8, 97#8, 98#8, 3#8, 1#8, 0#8, 2#8]
theorem numB_small (n : Nat) (h : n < 128) : numB n = [BitVec.ofNat 8 n] := numB_lt h
theorem say1 : wnum 300 4611686018427387904 (some []) = some b1 := by
  unfold wnum
  rw [if_pos (by decide), show (300 : Int).toNat = 300 from rfl, numB_ge (by decide), numB_lt (by decide)]
  rfl
theorem say2 : wbytes [97#8, 98#8] (some b1) = some b2 := by
  unfold wbytes wnum
  rw [if_pos (by decide), show ((([97#8, 98#8] : List (BitVec 8)).length : Int)).toNat = 2 from rfl, numB_lt (by decide)]
  rfl
theorem say3 : wvec [1, 0, 2, 0] (some b2) = some b3 := by
  have e1 : tl [1, 0, 2, 0] ([1, 0, 2, 0] : List Int).length = 3 := by decide
  have step : ∀ (n most : Int) (bs : List (BitVec 8)), 0 ≤ n → n ≤ most → n < 128 → wnum n most (some bs) = some (bs ++ [BitVec.ofNat 8 n.toNat]) := by
    intro n most bs h0 h1 h2
    unfold wnum
    rw [if_pos ⟨h0, h1⟩, numB_lt (by omega)]
    rfl
  unfold wvec
  rw [e1, if_neg (by decide), step _ _ _ (by decide) (by decide) (by decide)]
  simp only [List.take, List.map, wnums]
  rw [step _ _ _ (by decide) (by decide) (by decide), step _ _ _ (by decide) (by decide) (by decide), step _ _ _ (by decide) (by decide) (by decide)]
  rfl
theorem hear1 : rnum 4611686018427387904 (some b3) = (300, some [2#8, 97#8, 98#8, 3#8, 1#8, 0#8, 2#8]) := by decide +kernel
theorem hear2 : rbytes (some [2#8, 97#8, 98#8, 3#8, 1#8, 0#8, 2#8]) = ([97#8, 98#8], some [3#8, 1#8, 0#8, 2#8]) := by decide +kernel
theorem hear3 : rvec (some [3#8, 1#8, 0#8, 2#8]) = ([1, 0, 2], some []) := by decide +kernel

theorem few_small {k : Nat} {bs : List (BitVec 8)} (h : bs.length ≤ 1000000) (hk : k ≤ 1000) : Few k (some bs) := by unfold Few; simp; omega

set_option maxRecDepth 8000 in
set_option maxHeartbeats 1000000 in
theorem begun_any (w : World) : Calls Try.prog 6 #[] w fun e w' => e = .returned (.bool true) ∧ Below w.heap.size w w' := by
  go_enter Try.func6, Try.ntmps6
  go_wp2_with fail
  refine (newWriter_any w).mono ?_
  rintro e w1 ⟨rfl, hw1⟩
  have hW1 : Wr w1 w.heap.size (some []) := by rw [hw1]; exact newWriter_wr w
  have HB1 : Hid (Below w.heap.size w w1) := by rw [hw1]; exact below_new _ _
  have c15 := num_any 300 w.heap.size _ w1 hW1 (few_small (by decide) (by decide))
  rw [say1] at c15
  have HW1 : Hid (Wr w1 w.heap.size (some [])) := hW1
  clear hw1 hW1
  go_wp2_with fail
  refine c15.mono ?_
  rintro e w2 ⟨rfl, h2, s2⟩
  have HB2 : Hid (Below w.heap.size w w2) := HB1.out.trans (s2.below HW1.out (Nat.le_refl _))
  have c20 := text_any [97#8, 98#8] w.heap.size _ w2 h2 (few_small (by decide) (by decide))
  rw [say2, show strOf [97#8, 98#8] = ⟨#[97, 98]⟩ from rfl] at c20
  have HW2 : Hid (Wr w2 w.heap.size (some b1)) := h2
  clear c15 h2 s2
  go_wp2_with fail
  refine c20.mono ?_
  rintro e w3 ⟨rfl, h3, s3⟩
  have HB3 : Hid (Below w.heap.size w w3) := HB2.out.trans (s3.below HW2.out (Nat.le_refl _))
  obtain ⟨w4, hw4⟩ : ∃ w4, w4 = w3.alloc (.cells #[.int .i64 1, .int .i64 0, .int .i64 2, .int .i64 0] 2) := ⟨_, rfl⟩
  have hB4 : Below w3.heap.size w3 w4 := by rw [hw4]; exact (below_new _ _).out
  have hb4 : w4.heap[w3.heap.size]? = some (.cells #[.int .i64 1, .int .i64 0, .int .i64 2, .int .i64 0] 2 (0, 0)) := by rw [hw4]; exact heap_alloc_new w3 _
  obtain ⟨h4, s4⟩ := h3.keep_below hB4
  have HB4 : Hid (Below w.heap.size w w4) := HB3.out.trans (hB4.mono HB3.out.size)
  have c21 := vector_write (some ⟨w3.heap.size, 0, none⟩) [1, 0, 2, 0] 4 w.heap.size _ w4 h4 (few_small (by decide) (by decide)) (by decide) (by decide) (lies_block hb4) (fun b o _ e hs => by
    cases e
    obtain ⟨v, hv⟩ := h3
    have hv4 := hv.keep (Below.only hB4 (fun _ => False)) (fun _ _ h => h)
    have := (Wr.lo ⟨v, hv⟩ (hv.sets hv4 _ hs)).2
    omega)
  rw [say3] at c21
  have HW4 : Hid (Wr w4 w.heap.size (some b2)) := h4
  clear c20 h3 s3 h4 s4 hb4 hB4
  go_wp2_with fail
  rw [← hw4]
  refine (show Calls Try.prog 21 #[.pointer (some ⟨w.heap.size, 0, none⟩), .slice (some ⟨w3.heap.size, 0, none⟩) 4 4] _ _ from c21).mono ?_
  rintro e w5 ⟨rfl, h5, s5⟩
  have HB5 : Hid (Below w.heap.size w w5) := HB4.out.trans (s5.below HW4.out (Nat.le_refl _))
  have c10 := wdone_good w.heap.size b3 w5 h5 (few_small (by decide) (by decide))
  clear c21 h5 s5 hw4
  go_wp2_with fail
  refine c10.mono ?_
  rintro e w6 ⟨v, rfl, k1, k2⟩
  obtain ⟨_, p, cp, rfl, k5, k3, k4⟩ := owns_bytes k1
  have HB6 : Hid (Below w.heap.size w w6) := HB5.out.trans (k2.mono HB5.out.size)
  have K3 : Hid (Bytes w6 p b3) := k3
  have c11 := newReader_any p b3 cp w6 (by decide) k3
  have hb3 : b3.length = 9 := rfl
  rw [hb3] at c11
  clear c10 k1 k2 k3 k4 k5
  rw [hb3]
  go_wp2_with fail
  refine c11.mono ?_
  rintro e w7 ⟨a, rfl, ha, h7, hB7⟩
  have HB7 : Hid (Below w.heap.size w w7) := HB6.out.trans (hB7.mono HB6.out.size)
  have K7 : Hid (Bytes w7 p b3) := below_bytes hB7 K3.out
  have HA : Hid (w.heap.size ≤ a) := Nat.le_trans HB6.out.size ha
  have HA6 : Hid (w6.heap.size ≤ a) := ha
  have c16 := rnum_any a _ w7 h7 (by unfold Small; decide)
  rw [hear1] at c16
  clear c11 h7 hB7 ha
  go_wp2_with fail
  refine (show Calls Try.prog 16 #[.pointer (some ⟨a, 0, none⟩)] _ _ from c16).mono ?_
  rintro e w8 ⟨rfl, h8, o8⟩
  have HO8 : Hid (Only (· = a) w7 w8) := o8
  have c22 := text_read a _ w8 h8 (by unfold Small; decide)
  rw [hear2, show strOf [97#8, 98#8] = ⟨#[97, 98]⟩ from rfl] at c22
  clear c16 h8 o8
  go_wp2_with fail
  refine c22.mono ?_
  rintro e w9 ⟨rfl, h9, o9⟩
  have HO9 : Hid (Only (· = a) w7 w9) := HO8.out.next o9
  have c23 := vector_read a _ w9 h9 (by unfold Small; decide)
  rw [hear3] at c23
  clear c22 h9 o9
  go_wp2_with fail
  refine c23.mono ?_
  rintro e w10 ⟨q, cq, ⟨rfl, h10, o10⟩, hcq, hlies, hfr⟩
  have HO10 : Hid (Only (· = a) w7 w10) := HO9.out.next o10
  have c13 := rdone_any a _ w10 h10 (by unfold Small; decide)
  rw [if_pos rfl] at c13
  have hstr : (convert 26 9 (.slice p 9 cp)).run Try.prog w10 = .ok (.string ⟨#[172, 2, 2, 97, 98, 3, 1, 0, 2]⟩) w10 := by
    have hb : Bytes w10 p b3 := HO10.out.bytes K7.out (fun b o hl e hba => by
      subst hba; subst e
      obtain ⟨g, o', e, hx⟩ := K3.out (by decide)
      cases e
      have := cell_lt (hx 0 _ (List.getElem?_eq_getElem (by decide)))
      have := HA6.out
      omega)
    exact run_str w10 p b3 cp hb
  have hB10 : Below w.heap.size w w10 := HB7.out.trans (HO10.out.below HB7.out.size (fun i hi => by subst hi; exact HA.out))
  have HB10 : Hid (Below w.heap.size w w10) := hB10
  have h3l : ([1, 0, 2] : List Nat).length = 3 := rfl
  clear c23 h10 o10 hcq hlies hfr hB10
  rw [h3l]
  go_wp2_with (go_at_call 13; refine Calls_on c13 ?_)
  go_ret
  exact ⟨rfl, HB10.out⟩

set_option maxHeartbeats 400000 in
theorem short_le (p : Option Addr) (l c : Nat) (n : Nat) (w : World) (h : l ≤ n) :
    Calls Try.prog 8 #[.slice p l c, .int .i64 n] w fun e w' => e = .returned (.slice p l c) ∧ w' = w := by
  have hI : ¬ (n : Int) < l := by omega
  go_enter Try.func8, Try.ntmps8
  go_wp2
  go_ret
  exact ⟨rfl, rfl⟩

set_option maxHeartbeats 400000 in
theorem short_gt (g o : Nat) (l c : Nat) (n : Nat) (w : World) (h : n < l) (hn : n < 1000000) (hc : l ≤ c) :
    Calls Try.prog 8 #[.slice (some ⟨g, o, none⟩) l c, .int .i64 n] w fun e w' => e = .returned (.slice (some ⟨g, o, none⟩) n c) ∧ w' = w := by
  have hI : (n : Int) < l := by omega
  go_enter Try.func8, Try.ntmps8
  go_wp2
  go_ret
  exact ⟨rfl, rfl⟩

theorem short_any (p : Option Addr) (bs : List (BitVec 8)) (c n : Nat) (w : World) (hc : bs.length ≤ c) (hn6 : n < 1000000) (hb : Bytes w p bs) :
    (Calls Try.prog 8 #[.slice p bs.length c, .int .i64 n] w fun e w' => e = .returned (.slice p (bs.take n).length c) ∧ w' = w) ∧ Bytes w p (bs.take n) ∧ (bs.take n).length ≤ c ∧ (bs.take n).length ≤ n := by
  refine ⟨?_, bytes_take hb n, by simp; omega, by simp; omega⟩
  by_cases h : bs.length ≤ n
  · rw [List.take_of_length_le h]
    exact short_le p bs.length c n w h
  · obtain ⟨g, o, rfl, _⟩ := hb (by omega)
    rw [List.length_take, Nat.min_eq_left (by omega)]
    exact short_gt g o bs.length c n w (by omega) hn6 hc

end Go.Proofs.Ythimmgbccpdkmaa
