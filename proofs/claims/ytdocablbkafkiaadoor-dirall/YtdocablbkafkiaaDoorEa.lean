/-
  A block as bytes: image.
-/
import Derived.Test.YtdocablbkafkiaaDoorDw
namespace Go.Proofs.YtdocablbkafkiaaDoor.Cd
open Go.RowKit

theorem strCells_inj {a b : ByteArray} (h : Lib.strCells a = Lib.strCells b) : a = b := by
  unfold Lib.strCells at h
  have : a.data.toList = b.data.toList := by
    refine List.map_inj_right (fun x y hxy => ?_) |>.1 h
    injection hxy with _ e
    exact UInt8.toNat_inj.1 (by omega)
  rw [← bas_of a, ← bas_of b, this]
theorem strOf_bits8 (l : List UInt8) : strOf (bits8 l) = bas l := strCells_inj (by rw [strOf_cells, bits8_cells])

/-- An entry as bytes; a block. -/
def entB (x : En) : List (BitVec 8) := numB x.name.length ++ bits8 x.name ++ numB x.num
def imgB (n : Nat) (L : List En) : List (BitVec 8) := numB n ++ numB L.length ++ (L.map entB).flatten
theorem entB_len {x : En} (h1 : x.name.length ≤ 64) (h2 : x.num ≤ 2147483647) : (entB x).length ≤ 70 := by
  have a1 := numB_len 0 x.name.length (by omega)
  have a2 := numB_len 4 x.num (by omega)
  unfold entB
  rw [List.length_append, List.length_append, bits8_length]
  omega
theorem flat_len {L : List En} (h : ∀ x ∈ L, x.name.length ≤ 64 ∧ x.num ≤ 2147483647) : ((L.map entB).flatten).length ≤ 70 * L.length := by
  induction L with
  | nil => simp
  | cons x L ih =>
    have := ih (fun y hy => h y (List.mem_cons_of_mem _ hy))
    have h1 := h x (List.mem_cons_self ..)
    have := entB_len h1.1 h1.2
    simp only [List.map_cons, List.flatten_cons, List.length_append, List.length_cons]
    omega
theorem imgB_len {n : Nat} {L : List En} (hn : n ≤ 512) (hl : L.length ≤ 7) (h : ∀ x ∈ L, x.name.length ≤ 64 ∧ x.num ≤ 2147483647) : (imgB n L).length ≤ 493 := by
  have a1 := numB_len 1 n (by omega)
  have a2 := numB_len 0 L.length (by omega)
  have := flat_len h
  unfold imgB
  simp only [List.length_append]
  omega
theorem wnum_ok {n : Nat} {most : Int} {bs : List (BitVec 8)} (h : (n : Int) ≤ most) : wnum (n : Nat) most (some bs) = some (bs ++ numB n) := by
  unfold wnum
  rw [if_pos ⟨by omega, h⟩]
  simp
theorem wbytes_ok {cs bs : List (BitVec 8)} (h : cs.length ≤ 65536) : wbytes cs (some bs) = some (bs ++ numB cs.length ++ cs) := by
  unfold wbytes
  rw [wnum_ok (by omega)]
  rfl

/-- The bytes of a block, some of them written. -/
def imgTo (n : Nat) (L : List En) (j : Nat) : List (BitVec 8) := numB n ++ numB L.length ++ ((L.take j).map entB).flatten
theorem imgTo_next {n : Nat} {L : List En} {j : Nat} {x : En} (h : L[j]? = some x) : imgTo n L (j + 1) = imgTo n L j ++ numB x.name.length ++ bits8 x.name ++ numB x.num := by
  unfold imgTo
  rw [List.take_add_one, h]
  simp [entB]
theorem imgTo_len {n : Nat} {L : List En} (hn : n ≤ 512) (hl : L.length ≤ 7) (h : ∀ x ∈ L, x.name.length ≤ 64 ∧ x.num ≤ 2147483647) (j : Nat) : (imgTo n L j).length ≤ 493 := by
  have a1 := numB_len 1 n (by omega)
  have a2 := numB_len 0 L.length (by omega)
  have := flat_len (L := L.take j) (fun x hx => h x (List.mem_of_mem_take hx))
  have : (L.take j).length ≤ 7 := by rw [List.length_take]; omega
  unfold imgTo
  simp only [List.length_append]
  omega

theorem owns_bytes' {W : World} {base : Nat} {v : Value} {bs : List (BitVec 8)} (h : W.ownsRow base 5 1 v bs.length (bs.map u8v)) : ∃ p c, v = .slice p bs.length c ∧ Bytes W p bs ∧ bs.length ≤ c := by
  rcases h.2 with ⟨rfl, h0⟩ | ⟨g, cap, cur, rfl, hb, hg, hn, hm, hs, ht⟩
  · exact ⟨none, 0, by rw [h0], fun hl => absurd hl (by omega), by omega⟩
  · refine ⟨_, cap, rfl, fun _ => ⟨g, 0, rfl, fun j x hj => ?_⟩, hn⟩
    have hjl := (List.getElem?_eq_some_iff.1 hj).1
    rw [Nat.zero_add, h.cellAt j (by omega), List.getElem?_map, hj]
    rfl

set_option maxRecDepth 8000 in
set_option maxHeartbeats 2000000 in
theorem image_any (base n : Nat) (v : Value) (L : List En) (w : World) (h : Blk w base v L) (hn : n ≤ 512) (hl : L.length ≤ 7) (hf : ∀ x ∈ L, x.name.length ≤ 64 ∧ x.num ≤ 2147483647) :
    Calls Tryd.prog 26 #[v, .int .i64 (n : Nat)] w fun e w' => ∃ p c, e = .returned (.slice p (imgB n L).length c) ∧ Bytes w' p (imgB n L) ∧ Below w.heap.size w w' ∧ (imgB n L).length ≤ c := by
  obtain ⟨p, c, rfl, hlc, _, he⟩ := h.form
  obtain ⟨m, hm⟩ : ∃ m, L.length = m := ⟨_, rfl⟩
  have cN := newWriter_any w
  obtain ⟨w1, hw1⟩ : ∃ w1, w1 = w.alloc (.cells #[.slice none 0 0, .bool false] 103) := ⟨_, rfl⟩
  have hW1 : Wr w1 w.heap.size (some []) := by rw [hw1]; exact newWriter_wr w
  have hb1 : Below w.heap.size w w1 := by rw [hw1]; exact (Below.refl _ w).alloc (Nat.le_refl _) _
  rw [← hw1] at cN
  have few : ∀ (bs : List (BitVec 8)), bs.length ≤ 1000 → Few 1 (some bs) := fun bs hb => by unfold Few; show bs.length + 16 * 1 ≤ 1000000000; omega
  have few0 : ∀ (bs : List (BitVec 8)), bs.length ≤ 1000 → Few 0 (some bs) := fun bs hb => by unfold Few; show bs.length + 16 * 0 ≤ 1000000000; omega
  have c1 := num_any (n : Nat) w.heap.size (some []) w1 hW1 (few0 [] (by simp))
  rw [wnum_ok (by omega)] at c1
  have HE : Hid (Ents w p L ∧ L.length = m ∧ (∀ x ∈ L, x.name.length ≤ 64 ∧ x.num ≤ 2147483647) ∧ (∀ j, (imgTo n L j).length ≤ 493) ∧ Below w.heap.size w w1 ∧ Wr w1 w.heap.size (some [])) := ⟨he, hm, hf, imgTo_len hn hl hf, hb1, hW1⟩
  rw [hm] at hl hlc
  rw [hm]
  clear he h hf hb1 hW1 hw1
  go_enter Tryd.func26, Tryd.ntmps26
  go_wp2_with fail
  refine cN.mono ?_
  rintro e w' ⟨rfl, rfl⟩
  clear cN
  go_wp2_with fail
  refine c1.mono ?_
  rintro e w2 ⟨rfl, hW2, hS2⟩
  have hb2 := HE.out.2.2.2.2.1.trans ((hS2.below HE.out.2.2.2.2.2 (Nat.le_refl _)))
  have c2 := num_any (m : Nat) w.heap.size _ w2 hW2 (few0 _ (by have := numB_len 1 n (by omega); simp; omega))
  rw [wnum_ok (by omega)] at c2
  clear c1 hS2
  go_wp2_with fail
  refine c2.mono ?_
  rintro e w3 ⟨rfl, hW3, hS3⟩
  have H3 : Hid (Wr w3 w.heap.size (some (imgTo n L 0)) ∧ Below w.heap.size w w3) := by
    refine ⟨?_, hb2.trans (hS3.below hW2 (Nat.le_refl _))⟩
    have : imgTo n L 0 = [] ++ numB n ++ numB m := by unfold imgTo; rw [HE.out.2.1]; simp
    rw [this]; exact hW3
  clear c2 hW2 hW3 hS3 hb2
  go_wp2_with fail
  go_loopw [20] (fun jj wr => ∃ j : Nat, jj = .int .i64 j ∧ j ≤ m ∧ Hid (Wr wr w.heap.size (some (imgTo n L j)) ∧ Below w.heap.size w wr)) (fun jj _ => m - (intOf jj).toNat)
  case atStart => exact ⟨0, rfl, Nat.zero_le _, H3.out⟩
  case round =>
    obtain ⟨j, rfl, hjm, HJ⟩ := hrel
    by_cases hjl : j < m
    · have hjI : (j : Int) < m := by omega
      obtain ⟨x, hx⟩ : ∃ x, L[j]? = some x := ⟨_, List.getElem?_eq_getElem (by rw [HE.out.2.1]; exact hjl)⟩
      obtain ⟨g, o, rfl, hce⟩ := HE.out.1 (by rw [HE.out.2.1]; omega)
      have z0 := hce j 0 x hx (by omega)
      have z1 := hce j 1 x hx (by omega)
      have d0 : wr.cell? ⟨g, o + j * 2, none⟩ = some (.string (bas x.name)) := (HJ.out.2.cell (p := ⟨g, o + j * 2, none⟩) (cell_lt z0)).trans z0
      have d1 : wr.cell? ⟨g, o + j * 2 + 1, none⟩ = some (.int .i64 (x.num : Nat)) := (HJ.out.2.cell (p := ⟨g, o + j * 2 + 1, none⟩) (cell_lt z1)).trans z1
      have hxf := HE.out.2.2.1 x (List.mem_of_getElem? hx)
      obtain ⟨w4, hw4⟩ : ∃ w4, w4 = wr.alloc (.cells #[.string (bas x.name), .int .i64 (x.num : Nat)] 55) := ⟨_, rfl⟩
      have hb4 : Below wr.heap.size wr w4 := by rw [hw4]; exact (Below.refl _ wr).alloc (Nat.le_refl _) _
      have hW4 := (HJ.out.1.keep_below hb4).1
      have hl4 := HE.out.2.2.2.1 j
      have cT := text_any (bits8 x.name) w.heap.size _ w4 hW4 (few _ (by omega))
      rw [wbytes_ok (by rw [bits8_length]; omega), strOf_bits8, bits8_length] at cT
      have HX : Hid (L[j]? = some x) := hx
      have hE0 : w4.heap[wr.heap.size]? = some (.cells #[.string (bas x.name), .int .i64 (x.num : Nat)] 55 (0, 0)) := by rw [hw4]; exact heap_alloc_new wr _
      have hne : ∀ b, wset w4 w.heap.size b → b ≠ wr.heap.size := fun b hb e => by
        obtain ⟨v, hv⟩ := HJ.out.1
        have := ((hv.keep (Below.only hb4 (fun _ => False)) (fun _ _ f => f)).set b).1 hb
        rcases this with h1 | h1
        · have := HJ.out.2.size; have := hv.blk; have := block_lt this; omega
        · have := own_lt hv.own h1; omega
      have HN : Hid (∀ b, wset w4 w.heap.size b → b ≠ wr.heap.size) := hne
      have HW4 : Hid (w4 = wr.alloc (.cells #[.string (bas x.name), .int .i64 (x.num : Nat)] 55) ∧ Below wr.heap.size wr w4 ∧ Wr w4 w.heap.size (some (imgTo n L j)) ∧ w4.heap[wr.heap.size]? = some (.cells #[.string (bas x.name), .int .i64 (x.num : Nat)] 55 (0, 0))) := ⟨hw4, hb4, hW4, hE0⟩
      clear hx hce z0 z1 hne hb4 hW4 hE0 hw4
      go_wp2_with fail
      rw [← HW4.out.1]
      refine cT.mono ?_
      rintro e w5 ⟨rfl, hW5, hS5⟩
      have e1 : w5.cell? ⟨wr.heap.size, 1, none⟩ = some (.int .i64 (x.num : Nat)) := hS5.only.cell (cellOf HW4.out.2.2.2 1) (fun hs => HN.out _ hs rfl)
      have hb5 : Below w.heap.size w w5 := (HJ.out.2.trans (HW4.out.2.1.mono HJ.out.2.size)).trans (hS5.below HW4.out.2.2.1 (Nat.le_refl _))
      have cM := num_any (x.num : Nat) w.heap.size _ w5 hW5 (few0 _ (by
        have := numB_len 0 x.name.length (by omega)
        simp only [List.length_append, bits8_length]; omega))
      rw [wnum_ok (by omega)] at cM
      clear cT hS5
      go_wp2_with fail
      refine cM.mono ?_
      rintro e w6 ⟨rfl, hW6, hS6⟩
      have H6 : Hid (Wr w6 w.heap.size (some (imgTo n L (j + 1))) ∧ Below w.heap.size w w6) := by
        refine ⟨?_, hb5.trans (hS6.below hW5 (Nat.le_refl _))⟩
        rw [imgTo_next HX.out]; exact hW6
      clear cM hW5 hb5 hW6 hS6 e1
      go_wp2
      go_roundw
      case rel => exact ⟨j + 1, by go_num, by omega, H6.out⟩
      case measure => simp [intOf]; omega
    · obtain rfl : j = m := by omega
      have hge : ¬ (j : Int) < j := by omega
      have hI : imgTo n L j = imgB n L := by
        unfold imgTo imgB
        rw [List.take_of_length_le (by rw [HE.out.2.1]; exact Nat.le_refl _)]
      have hl4 := HE.out.2.2.2.1 j
      have cD := wdone_good w.heap.size (imgTo n L j) wr HJ.out.1 (few0 _ (by omega))
      rw [hI] at cD
      have cD' : Calls Tryd.prog 48 #[.pointer (some ⟨w.heap.size, 0, none⟩)] wr fun e w' => ∃ p c, e = .returned (.tuple #[.slice p (imgB n L).length c, .int .i64 0]) ∧ Hid (Bytes w' p (imgB n L) ∧ Below w.heap.size w w' ∧ (imgB n L).length ≤ c) := by
        refine cD.mono ?_
        rintro e w' ⟨v, rfl, hv1, hv2⟩
        obtain ⟨p, c, rfl, hb, hc⟩ := owns_bytes' hv1
        exact ⟨p, c, rfl, hb, HJ.out.2.trans (hv2.mono HJ.out.2.size), hc⟩
      clear cD
      go_wp2_with (go_at_call 48; refine cD'.mono ?_; rintro e w7 ⟨p7, c7, rfl, H7⟩; clear cD')
      go_ret
      exact ⟨p7, c7, rfl, H7.out⟩

end Go.Proofs.YtdocablbkafkiaaDoor.Cd
