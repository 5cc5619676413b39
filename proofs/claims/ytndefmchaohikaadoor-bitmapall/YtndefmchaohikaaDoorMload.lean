/-
  Load of package bitmap.
-/
import Derived.Test.YtndefmchaohikaaDoorMio
namespace Go.Proofs.YtndefmchaohikaaDoor
open Go.RowKit

/-- Bit t of some bytes. -/
def bitOf (bs : List (BitVec 8)) (t : Nat) : Bool := (bs.getD (t / 8) 0#8).getLsbD (t % 8)
theorem bitOf_out {bs : List (BitVec 8)} {t : Nat} (h : 8 * bs.length ≤ t) : bitOf bs t = false := by
  unfold bitOf
  rw [List.getD, List.getElem?_eq_none (by omega)]
  simp
theorem bitOf_bytes {n : Nat} {U : Nat → Bool} {bs : List (BitVec 8)} (h : BytesOf n U bs) (t : Nat) (ht : t < 8 * ((n + 7) / 8)) : bitOf bs t = U t := by
  unfold bitOf
  have hl : t / 8 < bs.length := by rw [h.len]; omega
  have := h.bit (t / 8) (t % 8) _ (List.getElem?_eq_getElem hl) (by omega)
  rw [List.getD, List.getElem?_eq_getElem hl, Option.getD_some, this, show 8 * (t / 8) + t % 8 = t by omega]

/-- The words of the first i bytes. -/
structure Part (bs : List (BitVec 8)) (n i : Nat) (ws : List Nat) : Prop where
  fit : Fit n ws
  bit : ∀ t, used ws t = if t < 8 * i then bitOf bs t else false

/-- One byte more. -/
def orAt (ws : List Nat) (i : Nat) (b : BitVec 8) : List Nat := ws.set (i / 8) (ws.getD (i / 8) 0 ||| b.toNat * 2 ^ (i % 8 * 8))
theorem shift_lt (b : BitVec 8) (i : Nat) : b.toNat * 2 ^ (i % 8 * 8) < 18446744073709551616 := by
  have h1 : b.toNat < 2 ^ 8 := b.isLt
  have h2 : 2 ^ 8 * 2 ^ (i % 8 * 8) ≤ 2 ^ 64 := by rw [← Nat.pow_add]; exact Nat.pow_le_pow_right (by decide) (by omega)
  exact Nat.lt_of_lt_of_le (Nat.mul_lt_mul_of_pos_right h1 (Nat.two_pow_pos _)) h2
theorem Part.step {bs : List (BitVec 8)} {n i : Nat} {ws : List Nat} (h : Part bs n i ws) (b : BitVec 8) (hb : bs[i]? = some b) (hi : i / 8 < ws.length) : Part bs n (i + 1) (orAt ws i b) := by
  have hset : ∀ t, used (orAt ws i b) t = if t / 64 = i / 8 then (used ws t || (b.toNat * 2 ^ (i % 8 * 8)).testBit (t % 64)) else used ws t := by
    intro t
    unfold orAt
    rw [used_set hi]
    by_cases e : t / 64 = i / 8
    · rw [if_pos e, if_pos e, Nat.testBit_or]
      unfold used
      rw [e]
    · rw [if_neg e, if_neg e]
  refine ⟨⟨by simp [orAt, h.fit.len], h.fit.most, fun j x hj => ?_⟩, fun t => ?_⟩
  · unfold orAt at hj
    rw [List.getElem?_set] at hj
    by_cases e : i / 8 = j
    · rw [if_pos e, if_pos hi] at hj
      cases hj
      exact Nat.or_lt_two_pow (n := 64) (h.fit.word _) (shift_lt b i)
    · rw [if_neg e] at hj
      exact h.fit.small j x hj
  · rw [hset t, h.bit t]
    have hbt : ∀ k, k < 8 → bitOf bs (8 * i + k) = b.getLsbD k := by
      intro k hk
      unfold bitOf
      rw [show (8 * i + k) / 8 = i by omega, show (8 * i + k) % 8 = k by omega, List.getD, hb, Option.getD_some]
    by_cases h1 : t < 8 * i
    · rw [if_pos h1, if_pos (show t < 8 * (i + 1) by omega)]
      by_cases e : t / 64 = i / 8
      · rw [if_pos e, Nat.testBit_mul_two_pow]
        rw [show decide (i % 8 * 8 ≤ t % 64) = false by simp; omega]
        simp
      · rw [if_neg e]
    · rw [if_neg h1]
      by_cases h2 : t < 8 * (i + 1)
      · rw [if_pos h2, if_pos (show t / 64 = i / 8 by omega), Nat.testBit_mul_two_pow]
        obtain ⟨k, rfl⟩ : ∃ k, t = 8 * i + k := ⟨t - 8 * i, by omega⟩
        rw [hbt k (by omega), show (8 * i + k) % 64 - i % 8 * 8 = k by omega, show decide (i % 8 * 8 ≤ (8 * i + k) % 64) = true by simp; omega]
        simp [BitVec.getLsbD]
      · rw [if_neg h2]
        by_cases e : t / 64 = i / 8
        · rw [if_pos e, Nat.testBit_mul_two_pow]
          have : (b.toNat).testBit (t % 64 - i % 8 * 8) = false := Nat.testBit_lt_two_pow (Nat.lt_of_lt_of_le b.isLt (Nat.pow_le_pow_right (by decide) (by omega)))
          rw [this]
          simp
        · rw [if_neg e]
theorem Part.zero (bs : List (BitVec 8)) (n : Nat) (hn : n ≤ 65536) : Part bs n 0 (List.replicate ((n + 63) / 64) 0) := by
  refine ⟨⟨by simp, hn, fun j x hj => ?_⟩, fun t => by rw [used_zero, if_neg (by omega)]⟩
  rw [List.getElem?_replicate] at hj
  split at hj
  · cases hj; decide
  · cases hj
theorem Part.used {bs : List (BitVec 8)} {n : Nat} {ws : List Nat} (h : Part bs n bs.length ws) : used ws = bitOf bs := by
  funext t
  rw [h.bit t]
  by_cases ht : t < 8 * bs.length
  · rw [if_pos ht]
  · rw [if_neg ht, bitOf_out (by omega)]

set_option maxRecDepth 8000 in
set_option maxHeartbeats 400000 in
theorem load_out (p : Option Addr) (l c : Nat) (n : Int) (w : World) (h : ¬ (0 ≤ n ∧ n ≤ 65536)) : Calls Tryd.prog 13 #[.slice p l c, .int .i64 n] w fun e w' => e = .returned (.tuple #[.pointer none, .int .i64 22]) ∧ w' = w := by
  have cn := new_out n w h
  clear h
  go_enter Tryd.func13, Tryd.ntmps13
  go_wp2_with (go_at_call 7; refine Calls_on cn ?_)
  go_ret2
  exact ⟨rfl, rfl⟩

set_option maxRecDepth 8000 in
set_option maxHeartbeats 400000 in
theorem load_len (p : Option Addr) (l c n : Nat) (w : World) (hn : n ≤ 65536) (h0 : 0 < w.heap.size) (hl : l ≠ (n + 7) / 8) : Calls Tryd.prog 13 #[.slice p l c, .int .i64 n] w fun e w' => e = .returned (.tuple #[.pointer none, .int .i64 74]) ∧ Below w.heap.size w w' := by
  have cn := new_in n w hn h0
  have hlI : ((l : Int) != (((n + 7) / 8 : Nat) : Int)) = true := by simp; omega
  obtain ⟨N, hN⟩ : ∃ N, (n + 7) / 8 = N := ⟨_, rfl⟩
  rw [hN] at hlI
  have HN : Hid ((n + 7) / 8 = N) := hN
  clear hl hN
  go_enter Tryd.func13, Tryd.ntmps13
  go_wp2_with (go_at_call 7; refine cn.mono ?_; rintro e w1 ⟨rfl, h1, h2⟩; have H1 : Hid (MapAt w1 (newMS w.heap.size n) ∧ Below w.heap.size w w1) := ⟨h1, h2⟩; clear h1 h2 cn; refine Stop.out ?_)
  refine Stop.mk ?_
  have cc := count_any _ w1 H1.out.1
  rw [show ((newMS w.heap.size n).n + 7) / 8 = N from HN.out, show (newMS w.heap.size n).a = w.heap.size + 1 from rfl] at cc
  go_wp2_with (go_at_call 25; refine Calls_on cc ?_)
  go_ret2
  exact ⟨rfl, H1.out.2⟩

/-- The map that is loaded. -/
def loadMS (s n : Nat) (ws : List Nat) : MS := ⟨s + 1, s, n, (n + 63) / 64, ws⟩

set_option maxRecDepth 8000 in
set_option maxHeartbeats 1000000 in
theorem load_any (p : Option Addr) (bs : List (BitVec 8)) (c n : Nat) (w : World) (hn : n ≤ 65536) (h0 : 0 < w.heap.size) (hb : Bytes w p bs) (hl : bs.length = (n + 7) / 8) :
    Calls Tryd.prog 13 #[.slice p bs.length c, .int .i64 n] w fun e w' => ∃ ws, Fit n ws ∧ used ws = bitOf bs ∧ Below w.heap.size w w' ∧
      ((tooLongB n ws = true ∧ e = .returned (.tuple #[.pointer none, .int .i64 74])) ∨ (tooLongB n ws = false ∧ e = .returned (.tuple #[.pointer (some ⟨w.heap.size + 1, 0, none⟩), .int .i64 0]) ∧ MapAt w' (loadMS w.heap.size n ws))) := by
  have cn := new_in n w hn h0
  have HB : Hid (Bytes w p bs ∧ 0 < w.heap.size) := ⟨hb, h0⟩
  clear hb h0
  go_enter Tryd.func13, Tryd.ntmps13
  go_wp2_with (go_at_call 7; refine cn.mono ?_; rintro e w1 ⟨rfl, h1, h2⟩; have H1 : Hid (MapAt w1 (newMS w.heap.size n) ∧ Below w.heap.size w w1) := ⟨h1, h2⟩; clear h1 h2 cn; refine Stop.out ?_)
  refine Stop.mk ?_
  have cc := count_any _ w1 H1.out.1
  rw [show ((newMS w.heap.size n).n + 7) / 8 = bs.length from hl.symm, show (newMS w.heap.size n).a = w.heap.size + 1 from rfl] at cc
  have hl2 : bs.length ≤ 65536 := by omega
  go_wp2_with (go_at_call 25; refine Calls_on cc ?_; clear cc)
  go_loopw [20] (fun ii wr => ∃ i : Nat, i ≤ bs.length ∧ ii = .int .i64 i ∧ Hid (∃ ws, Part bs n i ws ∧ MapAt wr (loadMS w.heap.size n ws) ∧ Below w.heap.size w wr)) (fun ii _ => bs.length - (intOf ii).toNat)
  case atStart => exact ⟨0, Nat.zero_le _, rfl, List.replicate ((n + 63) / 64) 0, Part.zero bs n hn, H1.out⟩
  case round =>
    obtain ⟨i, hi, rfl, HJ⟩ := hrel
    obtain ⟨ws, hp, hM, hB⟩ := HJ.out
    by_cases hlt : i < bs.length
    · obtain ⟨b, o, rfl, hx⟩ := HB.out.1 (by omega)
      obtain ⟨x, hxi⟩ : ∃ x, bs[i]? = some x := ⟨_, List.getElem?_eq_getElem hlt⟩
      have hc0 := hx i x hxi
      have c0 : wr.cell? ⟨b, o + i, none⟩ = some (.int .u8 (x.toNat : Int)) := (hB.cell (p := ⟨b, o + i, none⟩) (cell_lt hc0)).trans hc0
      have hd : i / 8 < ws.length := by rw [hp.fit.len]; omega
      have c1 := hM.c1
      rw [show (loadMS w.heap.size n ws).a = w.heap.size + 1 from rfl, show (loadMS w.heap.size n ws).b = w.heap.size from rfl, show (loadMS w.heap.size n ws).ws = ws from rfl] at c1
      have c2 : wr.cell? ⟨w.heap.size, i / 8, none⟩ = some (.int .u64 ((ws.getD (i / 8) 0 : Nat) : Int)) := hM.row.cell (getD_some hd)
      have f2 : wr.frozen? ⟨w.heap.size, i / 8, none⟩ = false := hM.row.frozen (i / 8)
      have hltI : (i : Int) < (bs.length : Int) := by omega
      have hx8 : x.toNat < 256 := x.isLt
      have hsw : IntKind.u64.wrap ((x.toNat : Int) * 2 ^ (i % 8 * 8)) = ((x.toNat * 2 ^ (i % 8 * 8) : Nat) : Int) := by
        have := wrapu (shift_lt x i)
        rw [Int.natCast_mul, Int.natCast_pow] at this
        rw [Int.natCast_mul, Int.natCast_pow]
        exact this
      have hor : bits .or .u64 ((ws.getD (i / 8) 0 : Nat) : Int) ((x.toNat * 2 ^ (i % 8 * 8) : Nat) : Int) = ((ws.getD (i / 8) 0 ||| x.toNat * 2 ^ (i % 8 * 8) : Nat) : Int) := u64_or_nat _ _ (hp.fit.word _) (shift_lt x i)
      have HN : Hid (Part bs n (i + 1) (orAt ws i x) ∧ MapAt (wr.setCell ⟨w.heap.size, i / 8, none⟩ (.int .u64 ((ws.getD (i / 8) 0 ||| x.toNat * 2 ^ (i % 8 * 8) : Nat) : Int))) (loadMS w.heap.size n (orAt ws i x)) ∧ Below w.heap.size w (wr.setCell ⟨w.heap.size, i / 8, none⟩ (.int .u64 ((ws.getD (i / 8) 0 ||| x.toNat * 2 ^ (i % 8 * 8) : Nat) : Int)))) := by
        have hp' := hp.step x hxi hd
        refine ⟨hp', ⟨?_, hM.row.set _ _, hp'.fit, hM.pos⟩, hB.setCell (p := ⟨w.heap.size, i / 8, none⟩) (Nat.le_refl _) _⟩
        refine (Below.heap_setCell wr ⟨w.heap.size, i / 8, none⟩ _ (w.heap.size + 1) (by simp)).trans (hM.st.trans ?_)
        simp [loadMS, orAt]
      generalize ws.getD (i / 8) 0 ||| x.toNat * 2 ^ (i % 8 * 8) = z at *
      generalize x.toNat * 2 ^ (i % 8 * 8) = y at *
      generalize ws.getD (i / 8) 0 = v at *
      generalize x.toNat = xn at *
      obtain ⟨q, hq⟩ : ∃ q, i / 8 = q := ⟨_, rfl⟩
      obtain ⟨r, hr⟩ : ∃ r, i % 8 * 8 = r := ⟨_, rfl⟩
      obtain ⟨s, hs⟩ : ∃ s, i % 8 = s := ⟨_, rfl⟩
      rw [hq] at hd c2 f2 HN
      rw [hr] at hsw
      have eq : (i : Int) / 8 = (q : Int) := by omega
      have es : (i : Int) % 8 = (s : Int) := by omega
      have er : (s : Int) * 8 = (r : Int) := by omega
      have hdI : (q : Int) < (ws.length : Int) := by omega
      have hwq : IntKind.i64.wrap (q : Int) = (q : Int) := wrapi (by omega)
      have hwr : IntKind.i64.wrap (r : Int) = (r : Int) := wrapi (by omega)
      have hr64 : r ≤ 64 := by omega
      clear hp hM hB hc0 hx hq hr hs
      go_wp2
      go_region
      all_goals go_wp2
      all_goals exact ⟨⟨i + 1, by omega, by go_num, orAt ws i x, HN.out.1, HN.out.2.1.drew, ⟨HN.out.2.2.os, HN.out.2.2.tape, HN.out.2.2.output, HN.out.2.2.size, HN.out.2.2.block⟩⟩, by simp [intOf]; omega⟩
    · obtain rfl : i = bs.length := by omega
      have ct := tooLong_any _ wr hM
      rw [show (loadMS w.heap.size n ws).a = w.heap.size + 1 from rfl, show (loadMS w.heap.size n ws).n = n from rfl, show (loadMS w.heap.size n ws).ws = ws from rfl] at ct
      have HF : Hid (Fit n ws ∧ used ws = bitOf bs ∧ MapAt wr (loadMS w.heap.size n ws) ∧ Below w.heap.size w wr) := ⟨hp.fit, hp.used, hM, hB⟩
      clear hp hM hB
      cases htl : tooLongB n ws with
      | true =>
        have HT : Hid (tooLongB n ws = true) := htl
        rw [htl] at ct
        clear htl
        go_wp2_with (go_at_call 26; refine ct.mono ?_; rintro e w2 ⟨rfl, h1⟩; have H2 : Hid (∃ k, w2 = wr.drewN k) := h1; clear h1 ct)
        go_ret2
        obtain ⟨k, rfl⟩ := H2.out
        obtain ⟨h1, h2, h3, h4⟩ := HF.out
        exact ⟨ws, h1, h2, ⟨h4.os, h4.tape, h4.output, h4.size, h4.block⟩, .inl ⟨HT.out, rfl⟩⟩
      | false =>
        have HT : Hid (tooLongB n ws = false) := htl
        rw [htl] at ct
        clear htl
        go_wp2_with (go_at_call 26; refine ct.mono ?_; rintro e w2 ⟨rfl, h1⟩; have H2 : Hid (∃ k, w2 = wr.drewN k) := h1; clear h1 ct)
        go_ret2
        obtain ⟨k, rfl⟩ := H2.out
        obtain ⟨h1, h2, h3, h4⟩ := HF.out
        exact ⟨ws, h1, h2, ⟨h4.os, h4.tape, h4.output, h4.size, h4.block⟩, .inr ⟨HT.out, rfl, h3.drewN k⟩⟩

end Go.Proofs.YtndefmchaohikaaDoor
