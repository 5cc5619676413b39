/-
  The document's own map: Free, Run, Bytes.
-/
import Derived.Test.YtndefmchaohikaaDoorMstr
namespace Go.Proofs.YtndefmchaohikaaDoor
open Go.RowKit

/-- The document's map: where its struct and its row lie, which numbers are used. -/
structure RS where
  a : Nat
  b : Nat
  U : List Bool
/-- Whether a number is used. -/
def uat (U : List Bool) (i : Nat) : Bool := U.getD i false
theorem uat_some {U : List Bool} {i : Nat} (h : i < U.length) : U[i]? = some (uat U i) := by
  unfold uat
  rw [List.getD, List.getElem?_eq_getElem h]; rfl
theorem uat_out {U : List Bool} {i : Nat} (h : U.length ≤ i) : uat U i = false := by
  unfold uat
  rw [List.getD, List.getElem?_eq_none h]; rfl

structure RAt (w : World) (r : RS) : Prop where
  st : w.heap[r.a]? = some (.cells #[.slice (some ⟨r.b, 0, none⟩) r.U.length r.U.length] 29 (0, 0))
  row : w.heap[r.b]? = some (.cells (r.U.map Value.bool).toArray 4 (0, 0))
theorem RAt.c0 {w : World} {r : RS} (h : RAt w r) : w.cell? ⟨r.a, 0, none⟩ = some (.slice (some ⟨r.b, 0, none⟩) r.U.length r.U.length) := cellOf h.st 0
theorem RAt.cell {w : World} {r : RS} (h : RAt w r) {i : Nat} (hi : i < r.U.length) : w.cell? ⟨r.b, i, none⟩ = some (.bool (uat r.U i)) := by
  rw [cellOf h.row i]
  simp [uat_some hi]
theorem RAt.frozen {w : World} {r : RS} (h : RAt w r) (i : Nat) : w.frozen? ⟨r.b, i, none⟩ = false := frozenOf h.row i
theorem RAt.ne {w : World} {r : RS} (h : RAt w r) : r.a ≠ r.b := by
  intro e
  have := h.st
  rw [e, h.row] at this
  simp at this
theorem RAt.keep {S : Nat → Prop} {w w' : World} {r : RS} (h : RAt w r) (ho : Only S w w') (ha : ¬ S r.a) (hb : ¬ S r.b) : RAt w' r :=
  ⟨(ho.block r.a (block_lt h.st) ha).trans h.st, (ho.block r.b (block_lt h.row) hb).trans h.row⟩
theorem RAt.below {w w' : World} {r : RS} (h : RAt w r) (hb : Below w.heap.size w w') : RAt w' r := h.keep (Below.only hb (fun _ => False)) (fun h => h) (fun h => h)
theorem RAt.drewN {w : World} {r : RS} (h : RAt w r) (k : Nat) : RAt (w.drewN k) r := ⟨h.st, h.row⟩
def RS.put (r : RS) (i : Nat) (x : Bool) : RS := { r with U := r.U.set i x }
theorem RAt.put {w : World} {r : RS} (h : RAt w r) (i : Nat) (x : Bool) : RAt (w.setCell ⟨r.b, i, none⟩ (.bool x)) (r.put i x) := by
  refine ⟨?_, ?_⟩
  · refine (Below.heap_setCell w ⟨r.b, i, none⟩ (.bool x) r.a h.ne).trans (h.st.trans ?_)
    simp [RS.put]
  · refine (heap_set_same h.row _).trans ?_
    simp [RS.put, List.map_set]

theorem uat_set (U : List Bool) (i : Nat) (x : Bool) (hi : i < U.length) (j : Nat) : uat (U.set i x) j = if j = i then x else uat U j := by
  unfold uat
  rw [List.getD, List.getD, List.getElem?_set]
  by_cases h : j = i
  · subst h; simp [hi]
  · rw [if_neg (fun e => h e.symm), if_neg h]

set_option maxRecDepth 8000 in
set_option maxHeartbeats 400000 in
theorem rfree_any (r : RS) (w : World) (h : RAt w r) (hn : r.U.length ≤ 65536) : Calls Tryd.prog 18 #[.pointer (some ⟨r.a, 0, none⟩)] w fun e w' => e = .returned (.int .i64 (r.U.length - cnt (uat r.U) r.U.length : Nat)) ∧ w' = w := by
  have c0 := h.c0
  have HR : Hid (RAt w r) := h
  clear h
  go_enter Tryd.func18, Tryd.ntmps18
  go_wp2_with fail
  go_loop [3, 4] (fun nn ii => ∃ i : Nat, i ≤ r.U.length ∧ ii = .int .i64 i ∧ nn = .int .i64 (i - cnt (uat r.U) i : Nat)) (fun _ ii => r.U.length - (intOf ii).toNat)
  case atStart => exact ⟨0, Nat.zero_le _, rfl, rfl⟩
  case round =>
    obtain ⟨i, hi, rfl, rfl⟩ := hrel
    by_cases hlt : i < r.U.length
    · have c1 := HR.out.cell hlt
      have hltI : (i : Int) < r.U.length := by omega
      have hc := cnt_le (uat r.U) i
      have HC : Hid (cnt (uat r.U) (i + 1) = cnt (uat r.U) i + (uat r.U i).toNat) := rfl
      obtain ⟨q, hq⟩ : ∃ q, i - cnt (uat r.U) i = q := ⟨_, rfl⟩
      have HQ : Hid (i - cnt (uat r.U) i = q ∧ cnt (uat r.U) i ≤ i) := ⟨hq, hc⟩
      rw [hq]
      have hqb : q ≤ 65536 := by omega
      clear hq hc
      cases hu : uat r.U i with
      | true =>
        have HU : Hid (uat r.U i = true) := hu
        rw [hu] at c1
        clear hu
        go_wp2
        go_round
        case rel =>
          refine ⟨i + 1, by omega, by go_num, ?_⟩
          have h1 := HQ.out
          rw [HC.out, HU.out]
          show _ = Value.int .i64 ((i + 1 - (cnt (uat r.U) i + 1) : Nat) : Int)
          rw [show i + 1 - (cnt (uat r.U) i + 1) = q by omega]
        case measure => simp [intOf]; omega
      | false =>
        have HU : Hid (uat r.U i = false) := hu
        rw [hu] at c1
        clear hu
        go_wp2
        go_round
        case rel =>
          refine ⟨i + 1, by omega, by go_num, ?_⟩
          have h1 := HQ.out
          rw [HC.out, HU.out]
          show _ = Value.int .i64 ((i + 1 - (cnt (uat r.U) i + 0) : Nat) : Int)
          rw [show i + 1 - (cnt (uat r.U) i + 0) = q + 1 by omega]
          go_num
        case measure => simp [intOf]; omega
    · obtain rfl : i = r.U.length := by omega
      go_wp2
      go_ret
      exact ⟨rfl, rfl⟩

/- Run. -/

/-- From s up to e all are used. -/
def fillT (U : List Bool) (s e : Nat) : List Bool := (List.range U.length).map fun i => if s ≤ i ∧ i < e then true else uat U i
theorem fillT_length (U : List Bool) (s e : Nat) : (fillT U s e).length = U.length := by simp [fillT]
theorem fillT_at (U : List Bool) (s e i : Nat) (hi : i < U.length) : uat (fillT U s e) i = if s ≤ i ∧ i < e then true else uat U i := by
  have : (fillT U s e)[i]? = some (if s ≤ i ∧ i < e then true else uat U i) := by simp [fillT, hi]
  conv => lhs; unfold uat
  rw [List.getD, this]; rfl
theorem list_uat {U V : List Bool} (hl : U.length = V.length) (h : ∀ i, i < U.length → uat U i = uat V i) : U = V := by
  apply List.ext_getElem?
  intro i
  by_cases hi : i < U.length
  · rw [uat_some hi, uat_some (by omega), h i hi]
  · rw [List.getElem?_eq_none (by omega), List.getElem?_eq_none (by omega)]
theorem fillT_none (U : List Bool) (s : Nat) : fillT U s s = U := list_uat (fillT_length _ _ _) (fun i hi => by rw [fillT_length] at hi; rw [fillT_at _ _ _ _ hi, if_neg (by omega)])
theorem fillT_step (U : List Bool) (s e : Nat) (he : e < U.length) (hse : s ≤ e) : (fillT U s e).set e true = fillT U s (e + 1) := by
  refine list_uat (by simp [fillT_length]) (fun i hi => ?_)
  rw [List.length_set, fillT_length] at hi
  rw [uat_set _ _ _ (by rw [fillT_length]; exact he), fillT_at _ _ _ _ hi, fillT_at _ _ _ _ hi]
  by_cases h : i = e
  · rw [if_pos h, if_pos (by omega)]
  · rw [if_neg h]
    by_cases h2 : s ≤ i ∧ i < e
    · rw [if_pos h2, if_pos (by omega)]
    · rw [if_neg h2, if_neg (by omega)]

/-- How the search goes on: at i, row free ones stand ahead of it, no row of k begins that ends ahead of i. -/
structure Seek (U : Nat → Bool) (k i row : Nat) : Prop where
  le : row ≤ i
  lt : row < k
  free : ∀ j, i - row ≤ j → j < i → U j = false
  end_ : row < i → U (i - row - 1) = true
  no : ∀ s, s + k ≤ i → ¬ ∀ j, j < k → U (s + j) = false
theorem Seek.zero (U : Nat → Bool) {k : Nat} (hk : 0 < k) : Seek U k 0 0 := ⟨Nat.le_refl _, hk, fun j _ h => absurd h (by omega), fun h => absurd h (by omega), fun s h => absurd h (by omega)⟩
theorem Seek.used {U : Nat → Bool} {k i row : Nat} (h : Seek U k i row) (hu : U i = true) : Seek U k (i + 1) 0 := by
  have hk : 0 < k := by have := h.lt; omega
  refine ⟨Nat.zero_le _, hk, fun j h1 h2 => absurd h2 (by omega), fun _ => by simpa using hu, fun s hs hall => ?_⟩
  by_cases hsi : s + k ≤ i
  · exact h.no s hsi hall
  · have := hall (i - s) (by omega)
    rw [show s + (i - s) = i by omega, hu] at this
    cases this
theorem Seek.more {U : Nat → Bool} {k i row : Nat} (h : Seek U k i row) (hu : U i = false) (hr : row + 1 < k) : Seek U k (i + 1) (row + 1) := by
  have h1 := h.le
  refine ⟨by omega, hr, fun j h2 h3 => ?_, fun h2 => ?_, fun s hs hall => ?_⟩
  · by_cases hj : j = i
    · rw [hj, hu]
    · exact h.free j (by omega) (by omega)
  · have := h.end_ (by omega)
    rwa [show i + 1 - (row + 1) - 1 = i - row - 1 by omega]
  · by_cases hsi : s + k ≤ i
    · exact h.no s hsi hall
    · have h3 := h.end_ (by omega)
      have := hall (i - row - 1 - s) (by omega)
      rw [show s + (i - row - 1 - s) = i - row - 1 by omega, h3] at this
      cases this
theorem Seek.found {U : Nat → Bool} {n k i row : Nat} (h : Seek U k i row) (hu : U i = false) (hr : row + 1 = k) (hi : i < n) : LeastRow U n k (i - row) := by
  have h1 := h.le
  refine ⟨by omega, fun s hs hR => ?_, fun _ => ⟨by omega, fun j hj => ?_⟩⟩
  · exact h.no s (by omega) hR.2
  · by_cases hji : i - row + j = i
    · rw [hji, hu]
    · exact h.free _ (by omega) (by omega)
theorem Seek.none {U : Nat → Bool} {n k row : Nat} (h : Seek U k n row) : LeastRow U n k n :=
  ⟨Nat.le_refl _, fun s _ hR => h.no s hR.1 hR.2, fun h => absurd h (by omega)⟩

set_option maxRecDepth 8000 in
set_option maxHeartbeats 400000 in
theorem rrun_out (k : Int) (r : RS) (w : World) (h : RAt w r) (hk : ¬ (1 ≤ k ∧ k ≤ r.U.length)) : Calls Tryd.prog 9 #[.pointer (some ⟨r.a, 0, none⟩), .int .i64 k] w fun e w' => e = .returned (.tuple #[.int .i64 0, .int .i64 22]) ∧ w' = w := by
  have c0 := h.c0
  clear h
  by_cases h1 : k < 1
  · clear hk
    go_enter Tryd.func9, Tryd.ntmps9
    go_wp2
    go_ret2
    exact ⟨rfl, rfl⟩
  · have h2 : (r.U.length : Int) < k := by omega
    clear hk
    go_enter Tryd.func9, Tryd.ntmps9
    go_wp2
    go_ret2
    exact ⟨rfl, rfl⟩

def RRunOut (r : RS) (k : Nat) (e : Ending) (r' : RS) : Prop :=
  ∃ s, LeastRow (uat r.U) r.U.length k s ∧ ((s = r.U.length ∧ e = .returned (.tuple #[.int .i64 0, .int .i64 28]) ∧ r' = r) ∨ (s < r.U.length ∧ e = .returned (.tuple #[.int .i64 s, .int .i64 0]) ∧ r' = { r with U := fillT r.U s (s + k) }))

set_option maxRecDepth 8000 in
set_option maxHeartbeats 2000000 in
theorem rrun_in (k : Nat) (r : RS) (w : World) (h : RAt w r) (hn : r.U.length ≤ 65536) (hk : 0 < k) (hkn : k ≤ r.U.length) : Calls Tryd.prog 9 #[.pointer (some ⟨r.a, 0, none⟩), .int .i64 k] w fun e w' => ∃ r', RRunOut r k e r' ∧ RAt w' r' ∧ Only (· = r.b) w w' := by
  have c0 := h.c0
  have HR : Hid (RAt w r) := h
  have hk1 : ¬ (k : Int) < 1 := by omega
  have hk2 : ¬ (r.U.length : Int) < (k : Int) := by omega
  clear h
  go_enter Tryd.func9, Tryd.ntmps9
  go_wp2_with fail
  go_loopw [6, 7] (fun rr ii wr => ∃ i row : Nat, i ≤ r.U.length ∧ ii = .int .i64 i ∧ rr = .int .i64 row ∧ wr = w ∧ row < k ∧ row ≤ i ∧ Hid (Seek (uat r.U) k i row)) (fun _ ii _ => r.U.length - (intOf ii).toNat)
  case atStart => exact ⟨0, 0, Nat.zero_le _, rfl, rfl, rfl, hk, Nat.le_refl _, Seek.zero _ hk⟩
  case round =>
    obtain ⟨i, row, hi, rfl, rfl, hwr, hrow, hri, HS⟩ := hrel
    subst hwr
    by_cases hlt : i < r.U.length
    · have c1 := HR.out.cell hlt
      have hltI : (i : Int) < r.U.length := by omega
      cases hu : uat r.U i with
      | true =>
        have HU : Hid (uat r.U i = true) := hu
        rw [hu] at c1
        clear hu
        go_wp2
        go_round
        case rel => exact ⟨i + 1, 0, by omega, by go_num, rfl, trivial, hk, Nat.zero_le _, HS.out.used HU.out⟩
        case measure => simp [intOf]; omega
      | false =>
        have HU : Hid (uat r.U i = false) := hu
        rw [hu] at c1
        clear hu
        by_cases hr : row + 1 = k
        · have hrI : (row : Int) + 1 = (k : Int) := by omega
          have hrB : ((row : Int) + 1 == (k : Int)) = true := by simp; omega
          obtain ⟨s, hs⟩ : ∃ s, i - row = s := ⟨_, rfl⟩
          have hsI : (i : Int) - (k : Int) + 1 = (s : Int) := by omega
          have HF : Hid (LeastRow (uat r.U) r.U.length k s ∧ s + k = i + 1) := ⟨hs ▸ HS.out.found HU.out hr hlt, by omega⟩
          have hsk : s + k = i + 1 := HF.out.2
          have hsi : s ≤ i := by omega
          clear hs hrI
          rename World => w0
          go_wp2_with fail
          go_loopw [8] (fun jj wr => ∃ j : Nat, s ≤ j ∧ j ≤ i + 1 ∧ jj = .int .i64 j ∧ Hid (RAt wr { r with U := fillT r.U s j } ∧ Only (· = r.b) w0 wr)) (fun jj _ => i + 1 - (intOf jj).toNat)
          case atStart =>
            refine ⟨s, Nat.le_refl _, by omega, rfl, ?_, Only.refl _ _⟩
            rw [fillT_none]
            exact HR.out
          case round =>
            obtain ⟨j, hj1, hj2, rfl, HJ⟩ := hrel
            have d0 := HJ.out.1.c0
            simp only [fillT_length] at d0
            by_cases hji : j ≤ i
            · have hjU : j < r.U.length := by omega
              have d1 := HJ.out.1.cell (i := j) (by rw [fillT_length]; exact hjU)
              have f1 : wr.frozen? ⟨r.b, j, none⟩ = false := HJ.out.1.frozen j
              have hjI : (j : Int) ≤ (i : Int) := by omega
              have hjL : (j : Int) < (r.U.length : Int) := by omega
              have HP : Hid (RAt (wr.setCell ⟨r.b, j, none⟩ (.bool true)) { r with U := fillT r.U s (j + 1) }) := by
                have := HJ.out.1.put j true
                unfold RS.put at this
                rwa [fillT_step _ _ _ hjU hj1] at this
              go_wp2
              refine ⟨⟨j + 1, by omega, by omega, by go_num, HP.out, HJ.out.2.next (Only.setCell _ _ _ rfl)⟩, by simp [intOf]; omega⟩
            · have hjI : ¬ (j : Int) ≤ (i : Int) := by omega
              obtain rfl : j = s + k := by omega
              go_wp2
              go_ret2
              exact ⟨_, ⟨s, HF.out.1, .inr ⟨by omega, rfl, rfl⟩⟩, HJ.out⟩
        · have hrB : ((row : Int) + 1 == (k : Int)) = false := by simp; omega
          go_wp2
          go_round
          case rel => exact ⟨i + 1, row + 1, by omega, by go_num, by go_num, trivial, by omega, by omega, HS.out.more HU.out (by omega)⟩
          case measure => simp [intOf]; omega
    · obtain rfl : i = r.U.length := by omega
      go_wp2
      go_ret2
      exact ⟨r, ⟨r.U.length, HS.out.none, .inl ⟨rfl, rfl, rfl⟩⟩, HR.out, Only.refl _ _⟩

/- Bytes. -/

/-- The bytes of the first i numbers. -/
structure PartB (U : Nat → Bool) (N i : Nat) (bs : List (BitVec 8)) : Prop where
  len : bs.length = N
  bit : ∀ (q k : Nat) (b : BitVec 8), bs[q]? = some b → k < 8 → b.getLsbD k = if 8 * q + k < i then U (8 * q + k) else false
theorem PartB.zero (U : Nat → Bool) (N : Nat) : PartB U N 0 (List.replicate N 0#8) := by
  refine ⟨by simp, fun q k b hb _ => ?_⟩
  rw [List.getElem?_replicate] at hb
  split at hb
  · cases hb; simp
  · cases hb
theorem PartB.skip {U : Nat → Bool} {N i : Nat} {bs : List (BitVec 8)} (h : PartB U N i bs) (hu : U i = false) : PartB U N (i + 1) bs := by
  refine ⟨h.len, fun q k b hb hk => ?_⟩
  rw [h.bit q k b hb hk]
  by_cases h1 : 8 * q + k < i
  · rw [if_pos h1, if_pos (by omega)]
  · rw [if_neg h1]
    by_cases h2 : 8 * q + k < i + 1
    · rw [if_pos h2, show 8 * q + k = i by omega, hu]
    · rw [if_neg h2]
theorem PartB.step {U : Nat → Bool} {N i : Nat} {bs : List (BitVec 8)} {b : BitVec 8} (h : PartB U N i bs) (hu : U i = true) (hb : bs[i / 8]? = some b) : PartB U N (i + 1) (bs.set (i / 8) (b + BitVec.twoPow 8 (i % 8))) := by
  have hl := (List.getElem?_eq_some_iff.1 hb).1
  have hz : b &&& BitVec.twoPow 8 (i % 8) = 0#8 := by
    apply BitVec.eq_of_getLsbD_eq
    intro k hk
    rw [BitVec.getLsbD_and, BitVec.getLsbD_twoPow]
    by_cases hki : i % 8 = k
    · have := h.bit (i / 8) k b hb hk
      rw [if_neg (by omega)] at this
      rw [this]; simp
    · simp [hki]
  have hor : b + BitVec.twoPow 8 (i % 8) = b ||| BitVec.twoPow 8 (i % 8) := BitVec.add_eq_or_of_and_eq_zero _ _ hz
  refine ⟨by simp [h.len], fun q k c hc hk => ?_⟩
  rw [List.getElem?_set] at hc
  by_cases hq : i / 8 = q
  · rw [if_pos hq, if_pos hl] at hc
    cases hc
    have h0 := h.bit (i / 8) k b hb hk
    rw [hor, BitVec.getLsbD_or, BitVec.getLsbD_twoPow, h0, ← hq]
    by_cases h1 : 8 * (i / 8) + k < i
    · rw [if_pos h1, if_pos (by omega)]
      have : ¬ i % 8 = k := by omega
      simp [this]
    · rw [if_neg h1]
      by_cases h2 : 8 * (i / 8) + k < i + 1
      · have h3 : i % 8 = k := by omega
        rw [if_pos h2, show 8 * (i / 8) + k = i by omega, hu]
        simp [h3, hk]
      · have h3 : ¬ i % 8 = k := by omega
        rw [if_neg h2]
        simp [h3]
  · rw [if_neg hq] at hc
    rw [h.bit q k c hc hk]
    by_cases h1 : 8 * q + k < i
    · rw [if_pos h1, if_pos (by omega)]
    · rw [if_neg h1, if_neg (by omega)]
theorem PartB.done {U : Nat → Bool} {n : Nat} {bs : List (BitVec 8)} (h : PartB U ((n + 7) / 8) n bs) (ht : ∀ i, n ≤ i → U i = false) : BytesOf n U bs := by
  refine ⟨h.len, fun q k b hb hk => ?_⟩
  rw [h.bit q k b hb hk]
  split
  · rfl
  · exact (ht _ (by omega)).symm

theorem add_twoPow (b : BitVec 8) (k : Nat) (hk : k < 8) : ((b.toNat : Int) + 2 ^ k % 256) % 256 = ((b + BitVec.twoPow 8 k).toNat : Int) := by
  rw [BitVec.toNat_add, BitVec.toNat_twoPow, Nat.mod_eq_of_lt (Nat.pow_lt_pow_right (by decide) hk)]
  have h1 : (2 : Int) ^ k % 256 = ((2 ^ k : Nat) : Int) := by
    have : 2 ^ k < 256 := Nat.pow_lt_pow_right (by decide) hk
    rw [show (2 : Int) ^ k = ((2 ^ k : Nat) : Int) by simp]
    generalize 2 ^ k = p at this
    omega
  rw [h1]
  generalize 2 ^ k = p
  simp

set_option maxRecDepth 8000 in
set_option maxHeartbeats 1000000 in
theorem rbytes_any (r : RS) (w : World) (h : RAt w r) (hn : r.U.length ≤ 65536) : Calls Tryd.prog 16 #[.pointer (some ⟨r.a, 0, none⟩)] w fun e w' => ∃ bs, e = .returned (.slice (some ⟨w.heap.size, 0, none⟩) bs.length bs.length) ∧ BytesOf r.U.length (uat r.U) bs ∧ w'.heap[w.heap.size]? = some (.cells (bs.map u8v).toArray 5 (0, 0)) ∧ Below w.heap.size w w' ∧ w'.heap.size = w.heap.size + 1 := by
  have c0 := h.c0
  obtain ⟨N, hN⟩ : ∃ N, (r.U.length + 7) / 8 = N := ⟨_, rfl⟩
  have eN : ((r.U.length : Int) + 7) / 8 = (N : Int) := by omega
  have hmk := run_make_rep w 39 5 (.int .u8 0) 1 Tryd.underlying39 Tryd.info5 rfl N (by omega) (by omega)
  obtain ⟨w1, hw1⟩ : ∃ w1, w1 = w.alloc (.cells (List.replicate N (.int .u8 0)).toArray 5) := ⟨_, rfl⟩
  rw [← hw1] at hmk
  have H1 : Hid (w1.heap[w.heap.size]? = some (.cells (List.replicate N (.int .u8 0)).toArray 5 (0, 0)) ∧ Below w.heap.size w w1 ∧ w1.heap.size = w.heap.size + 1) := by
    rw [hw1]; exact ⟨heap_alloc_new w _, (below_new _ _).out, by simp⟩
  have HR : Hid (RAt w r ∧ (r.U.length + 7) / 8 = N) := ⟨h, hN⟩
  have hN2 : N ≤ 65536 := by omega
  clear h hN hw1
  go_enter Tryd.func16, Tryd.ntmps16
  go_wp2_with fail
  go_loopw [4] (fun ii wr => ∃ i : Nat, i ≤ r.U.length ∧ ii = .int .i64 i ∧ Hid (∃ bs, PartB (uat r.U) N i bs ∧ wr.heap[w.heap.size]? = some (.cells (bs.map u8v).toArray 5 (0, 0)) ∧ Below w.heap.size w wr ∧ wr.heap.size = w.heap.size + 1)) (fun ii _ => r.U.length - (intOf ii).toNat)
  case atStart =>
    refine ⟨0, Nat.zero_le _, rfl, List.replicate N 0#8, PartB.zero _ _, ?_, H1.out.2⟩
    rw [H1.out.1]
    simp [u8v]
  case round =>
    obtain ⟨i, hi, rfl, HJ⟩ := hrel
    obtain ⟨bs, hp, hblk, hB, hsz⟩ := HJ.out
    have hR := HR.out.1.below hB
    have d0 := hR.c0
    by_cases hlt : i < r.U.length
    · have d1 := hR.cell hlt
      have hltI : (i : Int) < r.U.length := by omega
      cases hu : uat r.U i with
      | true =>
        have hq : i / 8 < bs.length := by rw [hp.len]; have := HR.out.2; omega
        obtain ⟨b, hb⟩ : ∃ b, bs[i / 8]? = some b := ⟨_, List.getElem?_eq_getElem hq⟩
        have c2 : wr.cell? ⟨w.heap.size, i / 8, none⟩ = some (.int .u8 (b.toNat : Int)) := by
          rw [cellOf hblk (i / 8)]
          simp [hb, u8v]
        have f2 : wr.frozen? ⟨w.heap.size, i / 8, none⟩ = false := frozenOf hblk _
        have hv := add_twoPow b (i % 8) (by omega)
        have HN : Hid (PartB (uat r.U) N (i + 1) (bs.set (i / 8) (b + BitVec.twoPow 8 (i % 8))) ∧ (wr.setCell ⟨w.heap.size, i / 8, none⟩ (.int .u8 ((b + BitVec.twoPow 8 (i % 8)).toNat : Int))).heap[w.heap.size]? = some (.cells ((bs.set (i / 8) (b + BitVec.twoPow 8 (i % 8))).map u8v).toArray 5 (0, 0)) ∧ Below w.heap.size w (wr.setCell ⟨w.heap.size, i / 8, none⟩ (.int .u8 ((b + BitVec.twoPow 8 (i % 8)).toNat : Int))) ∧ (wr.setCell ⟨w.heap.size, i / 8, none⟩ (.int .u8 ((b + BitVec.twoPow 8 (i % 8)).toNat : Int))).heap.size = w.heap.size + 1) := by
          refine ⟨hp.step hu hb, (heap_set_same hblk _).trans (by simp [List.map_set, u8v]), hB.setCell (p := ⟨w.heap.size, i / 8, none⟩) (Nat.le_refl _) _, by rw [← hsz]; simp [World.setCell]⟩
        have hqN : i / 8 < N := by rw [hp.len] at hq; exact hq
        rw [hu] at d1
        generalize (b + BitVec.twoPow 8 (i % 8)).toNat = z at *
        generalize b.toNat = y at *
        obtain ⟨q, hqq⟩ : ∃ q, i / 8 = q := ⟨_, rfl⟩
        obtain ⟨k, hk⟩ : ∃ k, i % 8 = k := ⟨_, rfl⟩
        rw [hqq] at c2 f2 hqN HN
        rw [hk] at hv
        have eq : (i : Int) / 8 = (q : Int) := by omega
        have ek : (i : Int) % 8 = (k : Int) := by omega
        have hqI : (q : Int) < (N : Int) := by omega
        have hwq : IntKind.i64.wrap (q : Int) = (q : Int) := wrapi (by omega)
        have hwk : IntKind.i64.wrap (k : Int) = (k : Int) := wrapi (by omega)
        have hk8 : k ≤ 8 := by omega
        have hv2 : IntKind.u8.wrap ((y : Int) + IntKind.u8.wrap (2 ^ k)) = (z : Int) := by rw [IntKind.wrap_u8', IntKind.wrap_u8']; exact hv
        clear hp hblk hB hsz hR hu hb hq hqq hk
        go_wp2_with fail
        go_region
        all_goals go_wp2
        all_goals exact ⟨⟨i + 1, by omega, by go_num, _, HN.out.1, HN.out.2.1, ⟨HN.out.2.2.1.os, HN.out.2.2.1.tape, HN.out.2.2.1.output, HN.out.2.2.1.size, HN.out.2.2.1.block⟩, HN.out.2.2.2⟩, by simp [intOf]; omega⟩
      | false =>
        have HP : Hid (PartB (uat r.U) N (i + 1) bs ∧ wr.heap[w.heap.size]? = some (.cells (bs.map u8v).toArray 5 (0, 0)) ∧ Below w.heap.size w wr ∧ wr.heap.size = w.heap.size + 1) := ⟨hp.skip hu, hblk, hB, hsz⟩
        rw [hu] at d1
        clear hp hblk hB hsz hR hu
        go_wp2
        exact ⟨⟨i + 1, by omega, by go_num, bs, HP.out⟩, by simp [intOf]; omega⟩
    · obtain rfl : i = r.U.length := by omega
      have HP : Hid (BytesOf r.U.length (uat r.U) bs ∧ wr.heap[w.heap.size]? = some (.cells (bs.map u8v).toArray 5 (0, 0)) ∧ Below w.heap.size w wr ∧ wr.heap.size = w.heap.size + 1 ∧ bs.length = N) := by
        have hp' := hp
        rw [← HR.out.2] at hp'
        exact ⟨hp'.done (fun i hi => uat_out hi), hblk, hB, hsz, hp.len⟩
      clear hp hblk hB hsz hR
      go_wp2
      go_ret
      obtain ⟨h1, h2, h3, h4, h5⟩ := HP.out
      exact ⟨bs, by rw [h5]; rfl, h1, h2, h3, h4⟩

end Go.Proofs.YtndefmchaohikaaDoor
