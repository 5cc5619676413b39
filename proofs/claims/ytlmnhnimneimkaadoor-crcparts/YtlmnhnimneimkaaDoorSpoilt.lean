/-
  The law CrcSpoilt returns true.
-/
import Derived.Test.YtlmnhnimneimkaaDoorBegun
namespace Go.Proofs.YtlmnhnimneimkaaDoor
open Go.RowKit

/-- Short, of bytes. -/
theorem short_any (p : Option Addr) (bs : List (BitVec 8)) (c n : Nat) (w : World) (hc : bs.length ≤ c) (hn : 0 < n) (hn6 : n < 1000000) (hb : Bytes w p bs) :
    (Calls Tryd.prog 9 #[.slice p bs.length c, .int .i64 n] w fun e w' => e = .returned (.slice p (bs.take n).length c) ∧ w' = w) ∧ Bytes w p (bs.take n) ∧ (bs.take n).length ≤ c ∧ (bs.take n).length ≤ n := by
  have hB : Bytes w p (bs.take n) := by
    intro hl
    have hl' : 0 < bs.length := by rw [List.length_take] at hl; omega
    obtain ⟨g, o, rfl, hx⟩ := hb hl'
    refine ⟨g, o, rfl, fun j x hj => ?_⟩
    rw [List.getElem?_take] at hj
    split at hj
    · exact hx j x hj
    · cases hj
  refine ⟨?_, hB, by rw [List.length_take]; omega, by rw [List.length_take]; omega⟩
  by_cases h : bs.length ≤ n
  · rw [List.take_of_length_le h]
    exact short_le p bs.length c n w h
  · obtain ⟨g, o, rfl, _⟩ := hb (by omega)
    rw [List.length_take, Nat.min_eq_left (by omega)]
    exact short_gt g o bs.length c n w (by omega) hn6 hc

theorem leN_inj : ∀ {l m : List (BitVec 8)}, l.length = m.length → leN l = leN m → l = m
  | [], [], _, _ => rfl
  | a :: l, b :: m, hl, h => by
    have ha := a.isLt
    have hb := b.isLt
    simp only [leN] at h
    have h1 : a.toNat = b.toNat := by omega
    have h2 : leN l = leN m := by omega
    rw [leN_inj (by simpa using hl) h2, BitVec.eq_of_toNat_eq h1]

theorem wide_inj {a b : BitVec 8} (h : wide a = wide b) : a = b := by
  apply BitVec.eq_of_toNat_eq
  rw [← wide_toNat a, ← wide_toNat b, h]

theorem not_inj {a b : BitVec 32} (h : ~~~ a = ~~~ b) : a = b := by
  have := congrArg (~~~ ·) h
  simpa using this

/-- One changed byte changes the sum. -/
theorem sum_set {bs : List (BitVec 8)} {k : Nat} {y z : BitVec 8} (hy : bs[k]? = some y) (hz : y ≠ z) : crcSum (bs.set k z) ≠ crcSum bs := by
  intro h
  have h2 := not_inj h
  unfold crcOf at h2
  rw [List.map_set] at h2
  exact crcRun_set _ _ k (wide y) (wide z) (by rw [List.getElem?_map, hy]; rfl) (fun e => hz (wide_inj e)) h2

theorem framed_take (bs : List (BitVec 8)) : (framed bs).take 4 = le4 (BitVec.ofNat 32 bs.length) := rfl
theorem framed_mid (bs : List (BitVec 8)) : ((framed bs).drop 4).take 4 = le4 (crcSum bs) := rfl
theorem framed_drop (bs : List (BitVec 8)) : (framed bs).drop 8 = bs := rfl

/-- A frame of which a byte behind the length was changed is refused as spoilt. -/
theorem unf_spoilt {bs : List (BitVec 8)} {k : Nat} {y z : BitVec 8} (h : bs.length ≤ 1048576) (hk : 4 ≤ k) (hy : (framed bs)[k]? = some y) (hz : y ≠ z) : (unf ((framed bs).set k z)).2.2 = 74 := by
  have e4 : (BitVec.ofNat 32 bs.length).toNat = bs.length := by rw [BitVec.toNat_ofNat]; exact Nat.mod_eq_of_lt (by omega)
  have e0 : ((framed bs).set k z).length = 8 + bs.length := by rw [List.length_set, framed_length]
  have e1 : ((framed bs).set k z).take 4 = le4 (BitVec.ofNat 32 bs.length) := by
    rw [List.take_set_of_le hk, framed_take]
  unfold unf
  rw [e0, e1, leN_le4, e4, if_neg (by omega), if_neg (by omega)]
  by_cases h8 : k < 8
  · have e3 : ((framed bs).set k z).drop 8 = bs := by rw [List.drop_set_of_lt h8, framed_drop]
    have e2 : (((framed bs).set k z).drop 4).take 4 = (le4 (crcSum bs)).set (k - 4) z := by
      rw [List.drop_set, if_neg (by omega), List.take_set, framed_mid]
    rw [e3, e2, List.take_of_length_le (Nat.le_refl _), if_pos]
    intro he
    have hk4 : (le4 (crcSum bs))[k - 4]? = some y := by
      rw [← framed_mid, List.getElem?_take, if_pos (by omega), List.getElem?_drop, show 4 + (k - 4) = k by omega]
      exact hy
    have h1 := leN_inj (by simp) ((leN_le4 (crcSum bs)).trans he)
    have h2 : ((le4 (crcSum bs)).set (k - 4) z)[k - 4]? = some z := by
      rw [List.getElem?_set_self (List.getElem?_eq_some_iff.1 hk4).1]
    rw [← h1, hk4] at h2
    exact hz (by simpa using h2)
  · have e3 : ((framed bs).set k z).drop 8 = bs.set (k - 8) z := by rw [List.drop_set, if_neg (by omega), framed_drop]
    have e2 : (((framed bs).set k z).drop 4).take 4 = le4 (crcSum bs) := by
      rw [List.drop_set, if_neg (by omega), List.take_set_of_le (by omega), framed_mid]
    have hk8 : bs[k - 8]? = some y := by
      have : ((framed bs).drop 8)[k - 8]? = some y := by rw [List.getElem?_drop, show 8 + (k - 8) = k by omega]; exact hy
      rwa [framed_drop] at this
    rw [e3, e2, leN_le4, List.take_of_length_le (by simp), if_pos]
    intro he
    exact sum_set hk8 hz (BitVec.eq_of_toNat_eq he)

theorem xor8 (a b : BitVec 8) : bits .xor .u8 (a.toNat : Int) (b.toNat : Int) = ((a ^^^ b).toNat : Int) := by
  rw [u8_xor_nat _ _ a.isLt b.isLt, BitVec.toNat_xor]
theorem xor8_ne {y x : BitVec 8} (hx : x ≠ 0#8) : y ≠ y ^^^ x := by
  intro h
  apply hx
  have := congrArg (y ^^^ ·) h
  rw [BitVec.xor_self, ← BitVec.xor_assoc, BitVec.xor_self, BitVec.zero_xor] at this
  exact this.symm

set_option maxRecDepth 4000 in
set_option maxHeartbeats 1000000 in
theorem spoilt_any (p : Option Addr) (bs : List (BitVec 8)) (c : Nat) (a : Int) (x : BitVec 8) (w : World) (ht : Tab w) (hc : bs.length ≤ c) (hb : Bytes w p bs) (ha : -9223372036854775808 ≤ a) (ha' : a < 9223372036854775808) :
    Calls Tryd.prog 5 #[.slice p bs.length c, .int .i64 a, u8v x] w fun e w' => e = .returned (.bool true) ∧ Below w.heap.size w w' := by
  have HT : Hid (Tab w) := ht
  have HB : Hid (Bytes w p bs) := hb
  unfold u8v
  have cb := begun_any w ht
  clear ht hb
  go_enter Tryd.func5, Tryd.ntmps5
  go_wp2_with fail
  refine cb.mono ?_
  rintro e w1 ⟨rfl, hB1⟩
  clear cb
  obtain ⟨c9, hb1, hc1, hn⟩ := short_any p bs c 200 w1 hc (by omega) (by omega) (below_bytes hB1 HB.out)
  generalize hb2 : bs.take 200 = b2 at c9 hb1 hc1 hn
  clear hb2
  go_wp2_with fail
  refine Calls_on c9 ?_
  clear c9
  have c14 := frame_yes p b2 c w1 (below_tab hB1 HT.out.lt HT.out) (by omega) hb1
  go_wp2_with fail
  refine c14.mono ?_
  rintro e w2 ⟨rfl, hf2, hB2⟩
  clear c14 hb1
  have HF2 : Hid (w2.heap[w1.heap.size]? = some (.cells ((framed b2).map u8v).toArray 5 (0, 0))) := hf2
  have HB2 : Hid (Below w.heap.size w w2) := hB1.trans (hB2.mono hB1.size)
  have HB1 : Hid (Below w.heap.size w w1) := hB1
  have HB12 : Hid (Below w1.heap.size w1 w2) := hB2
  clear hf2 hB2 hB1 HB
  by_cases hx0 : x = 0#8
  · subst hx0
    go_wp2
    go_ret
    exact ⟨rfl, HB2.out⟩
  have hxI : ¬ (x.toNat : Int) = 0 := by
    intro h
    apply hx0
    apply BitVec.eq_of_toNat_eq
    have : x.toNat = 0 := by omega
    rw [this]; rfl
  -- the place
  by_cases hneg : a < 0
  · obtain ⟨m, hm⟩ : ∃ m : Nat, a = -(m : Int) - 1 := ⟨(-a - 1).toNat, by omega⟩
    have hm63 : m < 9223372036854775808 := by omega
    subst hm
    clear ha ha'
    obtain ⟨k, hkN, hkI⟩ : ∃ k : Nat, m % (8 + b2.length) = k ∧ (m : Int) % (8 + (b2.length : Int)) = (k : Int) := ⟨_, rfl, by
      have h8 : ((8 + b2.length : Nat) : Int) = 8 + (b2.length : Int) := by omega
      rw [← h8]; rfl⟩
    have hk : k < 8 + b2.length := by rw [← hkN]; exact Nat.mod_lt _ (by omega)
    have hkJ : (k : Int) < 8 + (b2.length : Int) := by omega
    obtain ⟨y, hy⟩ : ∃ y, (framed b2)[k]? = some y := ⟨_, List.getElem?_eq_getElem (by rw [framed_length]; exact hk)⟩
    have cy : w2.cell? ⟨w1.heap.size, k, none⟩ = some (.int .u8 (y.toNat : Int)) := by
      rw [cellOf HF2.out k, List.getElem?_toArray, List.getElem?_map, hy]; rfl
    have fy : w2.frozen? ⟨w1.heap.size, k, none⟩ = false := frozenOf HF2.out k
    obtain ⟨z, ez, HZ⟩ : ∃ z : BitVec 8, bits .xor .u8 (y.toNat : Int) (x.toNat : Int) = (z.toNat : Int) ∧ Hid (z = y ^^^ x) := ⟨_, xor8 y x, rfl⟩
    have hyz : y ≠ z := by rw [HZ.out]; exact xor8_ne hx0
    obtain ⟨W3, hW3⟩ : ∃ W3, W3 = w2.setCell ⟨w1.heap.size, k, none⟩ (.int .u8 (z.toNat : Int)) := ⟨_, rfl⟩
    have hf3 : W3.heap[w1.heap.size]? = some (.cells (((framed b2).set k z).map u8v).toArray 5 (0, 0)) := by
      have h2 := HF2.out
      rw [hW3, List.map_set]
      simp [World.setCell, Array.getElem?_modify, h2, u8v]
    have hB3 : Below w.heap.size w W3 := by rw [hW3]; exact HB2.out.setCell HB1.out.size _
    have hlen : ((framed b2).set k z).length = 8 + b2.length := by rw [List.length_set, framed_length]
    have hbb := bytes_block hf3
    have c16 := unframe_any (some ⟨w1.heap.size, 0, none⟩) ((framed b2).set k z) (8 + b2.length) W3 (below_tab hB3 HT.out.lt HT.out) (by rw [hlen]; omega) (by omega) hbb
    have c17 : ∀ W, Below W3.heap.size W3 W → Calls Tryd.prog 17 #[.slice (some ⟨w1.heap.size, 0, none⟩) ((framed b2).set k z).length (8 + b2.length)] W (Unframed W ((framed b2).set k z)) := fun W hW =>
      runframe_any (some ⟨w1.heap.size, 0, none⟩) ((framed b2).set k z) (8 + b2.length) W (by rw [hlen]; omega) (by omega) (below_bytes hW hbb)
    have HS : Hid (4 ≤ k → (unf ((framed b2).set k z)).2.2 = 74) := fun h4 => unf_spoilt (by omega) h4 hy hyz
    rw [hlen] at c16 c17
    generalize (framed b2).set k z = L at c16 c17 HS
    have c16' : Calls Tryd.prog 16 #[.slice (some ⟨w1.heap.size, 0, none⟩) (8 + b2.length) (8 + b2.length)] W3 fun e w' => ∃ q l c n, e = .returned (.tuple #[.slice q l c, .int .i64 n, .int .i64 (unf L).2.2]) ∧ Below W3.heap.size W3 w' :=
      c16.mono (by rintro e w' ⟨q, c, rfl, _, hB⟩; exact ⟨q, _, c, _, rfl, hB⟩)
    have c17' : ∀ W, Below W3.heap.size W3 W → Calls Tryd.prog 17 #[.slice (some ⟨w1.heap.size, 0, none⟩) (8 + b2.length) (8 + b2.length)] W fun e w' => ∃ q l c n, e = .returned (.tuple #[.slice q l c, .int .i64 n, .int .i64 (unf L).2.2]) ∧ Below W3.heap.size W3 w' := fun W hW =>
      (c17 W hW).mono (by rintro e w' ⟨q, c, rfl, _, hB⟩; exact ⟨q, _, c, _, rfl, hW.trans (hB.mono hW.size)⟩)
    generalize (unf L).2.2 = ec at c16' c17' HS
    have HB3 : Hid (Below w.heap.size w W3) := hB3
    have HW3 : Hid (W3 = w2.setCell ⟨w1.heap.size, k, none⟩ (.int .u8 (z.toNat : Int))) := hW3
    clear hf3 hB3 hlen hbb c16 c17 hW3 hyz hy HF2 hx0
    go_wp2_with fail
    rw [← HW3.out]
    refine c16'.mono ?_
    rintro e w4 ⟨q4, l4, c4, n4, rfl, hB4⟩
    clear c16'
    go_wp2_with fail
    refine (c17' _ hB4).mono ?_
    rintro e w5 ⟨q5, l5, c5, n5, rfl, hB5⟩
    clear c17' hB4
    by_cases h4 : k < 4
    · have h4I : (k : Int) < 4 := by omega
      go_wp2
      go_ret
      exact ⟨by simp, HB3.out.trans (hB5.mono HB3.out.size)⟩
    · have h4I : ¬ (k : Int) < 4 := by omega
      have hec : ec = 74 := HS.out (by omega)
      subst hec
      go_wp2
      go_ret
      exact ⟨by simp, HB3.out.trans (hB5.mono HB3.out.size)⟩
  · obtain ⟨m, hm⟩ := Int.eq_ofNat_of_zero_le (show 0 ≤ a by omega)
    have hm63 : m < 9223372036854775808 := by omega
    subst hm
    have hneg' : ¬ (m : Int) < 0 := by omega
    clear ha ha' hneg
    obtain ⟨k, hkN, hkI⟩ : ∃ k : Nat, m % (8 + b2.length) = k ∧ (m : Int) % (8 + (b2.length : Int)) = (k : Int) := ⟨_, rfl, by
      have h8 : ((8 + b2.length : Nat) : Int) = 8 + (b2.length : Int) := by omega
      rw [← h8]; rfl⟩
    have hk : k < 8 + b2.length := by rw [← hkN]; exact Nat.mod_lt _ (by omega)
    have hkJ : (k : Int) < 8 + (b2.length : Int) := by omega
    obtain ⟨y, hy⟩ : ∃ y, (framed b2)[k]? = some y := ⟨_, List.getElem?_eq_getElem (by rw [framed_length]; exact hk)⟩
    have cy : w2.cell? ⟨w1.heap.size, k, none⟩ = some (.int .u8 (y.toNat : Int)) := by
      rw [cellOf HF2.out k, List.getElem?_toArray, List.getElem?_map, hy]; rfl
    have fy : w2.frozen? ⟨w1.heap.size, k, none⟩ = false := frozenOf HF2.out k
    obtain ⟨z, ez, HZ⟩ : ∃ z : BitVec 8, bits .xor .u8 (y.toNat : Int) (x.toNat : Int) = (z.toNat : Int) ∧ Hid (z = y ^^^ x) := ⟨_, xor8 y x, rfl⟩
    have hyz : y ≠ z := by rw [HZ.out]; exact xor8_ne hx0
    obtain ⟨W3, hW3⟩ : ∃ W3, W3 = w2.setCell ⟨w1.heap.size, k, none⟩ (.int .u8 (z.toNat : Int)) := ⟨_, rfl⟩
    have hf3 : W3.heap[w1.heap.size]? = some (.cells (((framed b2).set k z).map u8v).toArray 5 (0, 0)) := by
      have h2 := HF2.out
      rw [hW3, List.map_set]
      simp [World.setCell, Array.getElem?_modify, h2, u8v]
    have hB3 : Below w.heap.size w W3 := by rw [hW3]; exact HB2.out.setCell HB1.out.size _
    have hlen : ((framed b2).set k z).length = 8 + b2.length := by rw [List.length_set, framed_length]
    have hbb := bytes_block hf3
    have c16 := unframe_any (some ⟨w1.heap.size, 0, none⟩) ((framed b2).set k z) (8 + b2.length) W3 (below_tab hB3 HT.out.lt HT.out) (by rw [hlen]; omega) (by omega) hbb
    have c17 : ∀ W, Below W3.heap.size W3 W → Calls Tryd.prog 17 #[.slice (some ⟨w1.heap.size, 0, none⟩) ((framed b2).set k z).length (8 + b2.length)] W (Unframed W ((framed b2).set k z)) := fun W hW =>
      runframe_any (some ⟨w1.heap.size, 0, none⟩) ((framed b2).set k z) (8 + b2.length) W (by rw [hlen]; omega) (by omega) (below_bytes hW hbb)
    have HS : Hid (4 ≤ k → (unf ((framed b2).set k z)).2.2 = 74) := fun h4 => unf_spoilt (by omega) h4 hy hyz
    rw [hlen] at c16 c17
    generalize (framed b2).set k z = L at c16 c17 HS
    have c16' : Calls Tryd.prog 16 #[.slice (some ⟨w1.heap.size, 0, none⟩) (8 + b2.length) (8 + b2.length)] W3 fun e w' => ∃ q l c n, e = .returned (.tuple #[.slice q l c, .int .i64 n, .int .i64 (unf L).2.2]) ∧ Below W3.heap.size W3 w' :=
      c16.mono (by rintro e w' ⟨q, c, rfl, _, hB⟩; exact ⟨q, _, c, _, rfl, hB⟩)
    have c17' : ∀ W, Below W3.heap.size W3 W → Calls Tryd.prog 17 #[.slice (some ⟨w1.heap.size, 0, none⟩) (8 + b2.length) (8 + b2.length)] W fun e w' => ∃ q l c n, e = .returned (.tuple #[.slice q l c, .int .i64 n, .int .i64 (unf L).2.2]) ∧ Below W3.heap.size W3 w' := fun W hW =>
      (c17 W hW).mono (by rintro e w' ⟨q, c, rfl, _, hB⟩; exact ⟨q, _, c, _, rfl, hW.trans (hB.mono hW.size)⟩)
    generalize (unf L).2.2 = ec at c16' c17' HS
    have HB3 : Hid (Below w.heap.size w W3) := hB3
    have HW3 : Hid (W3 = w2.setCell ⟨w1.heap.size, k, none⟩ (.int .u8 (z.toNat : Int))) := hW3
    clear hf3 hB3 hlen hbb c16 c17 hW3 hyz hy HF2 hx0
    go_wp2_with fail
    rw [← HW3.out]
    refine c16'.mono ?_
    rintro e w4 ⟨q4, l4, c4, n4, rfl, hB4⟩
    clear c16'
    go_wp2_with fail
    refine (c17' _ hB4).mono ?_
    rintro e w5 ⟨q5, l5, c5, n5, rfl, hB5⟩
    clear c17' hB4
    by_cases h4 : k < 4
    · have h4I : (k : Int) < 4 := by omega
      go_wp2
      go_ret
      exact ⟨by simp, HB3.out.trans (hB5.mono HB3.out.size)⟩
    · have h4I : ¬ (k : Int) < 4 := by omega
      have hec : ec = 74 := HS.out (by omega)
      subst hec
      go_wp2
      go_ret
      exact ⟨by simp, HB3.out.trans (hB5.mono HB3.out.size)⟩

end Go.Proofs.YtlmnhnimneimkaaDoor
