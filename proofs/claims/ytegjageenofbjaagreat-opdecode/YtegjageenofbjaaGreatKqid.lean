/-
  The reader of the document's own text: an ID.
-/
import Derived.Test.YtegjageenofbjaaGreatKqnum
import Derived.Test.YtegjageenofbjaaGreatKcodq
import Derived.Test.YtegjageenofbjaaGreatKreach
namespace Go.Proofs.YtegjageenofbjaaGreat.Cd
open Go.RowKit

theorem two_no_byte (x y : Int) : ∀ (j : Nat) (z : BitVec 8), (#[Value.int .i64 x, .int .i64 y] : Array Value)[j]? ≠ some (u8v z) := by
  intro j z h
  match j, h with
  | 0, h => simp [u8v] at h
  | 1, h => simp [u8v] at h
  | k + 2, h => simp at h

theorem id_end {w w5 : World} {a : Nat} {s : St} {x y u v : Int} (h : Rd 76 w5 a s) (ho : Only (· = a) w w5) (hb : w5.heap[w.heap.size]? = some (.cells #[.int .i64 u, .int .i64 v] 23 (0, 0))) (ha : a < w.heap.size) :
    Didq w a (.agg #[.int .i64 x, .int .i64 y]) s (.returned (.agg #[.int .i64 x, .int .i64 y])) ((w5.setCell ⟨w.heap.size, 0, none⟩ (.int .i64 x)).setCell ⟨w.heap.size, 1, none⟩ (.int .i64 y)) := by
  have hS : Only (· = w.heap.size) w5 ((w5.setCell ⟨w.heap.size, 0, none⟩ (.int .i64 x)).setCell ⟨w.heap.size, 1, none⟩ (.int .i64 y)) :=
    Only.next (Only.setCell (S := (· = w.heap.size)) w5 ⟨w.heap.size, 0, none⟩ (.int .i64 x) rfl) (Only.setCell _ ⟨w.heap.size, 1, none⟩ (.int .i64 y) rfl)
  exact ⟨rfl, h.leave hS (by omega) (fun b _ hb' => by subst hb'; exact ⟨_, _, _, hb, two_no_byte _ _⟩), ho.trans hS (fun j hj => .inr (by omega))⟩

set_option maxRecDepth 8000 in
set_option maxRecDepth 8000 in
set_option maxHeartbeats 1000000 in
theorem qid_any (a : Nat) (s : St) (w : World) (h : Rd 76 w a s) (hl : Small s) :
    Calls Tryz.prog 56 #[.pointer (some ⟨a, 0, none⟩)] w (Didq w a (.agg #[.int .i64 (rid s).1.1, .int .i64 (rid s).1.2]) (rid s).2) := by
  obtain ⟨w1, hw1⟩ : ∃ w1, w1 = w.alloc (.cells #[.int .i64 0, .int .i64 0] 23) := ⟨_, rfl⟩
  have hB1 : Below w.heap.size w w1 := by rw [hw1]; exact (below_new _ _).out
  have hb1 : w1.heap[w.heap.size]? = some (.cells #[.int .i64 0, .int .i64 0] 23 (0, 0)) := by rw [hw1]; exact heap_alloc_new w _
  have c33 := qnum_any a s w1 (h.below hB1) hl
  have hR := rid_of s _ _ _ _ (rfl : rnum top s = ((rnum top s).1, (rnum top s).2)) (rfl : rnum top (rnum top s).2 = ((rnum top (rnum top s).2).1, (rnum top (rnum top s).2).2))
  have HL1 : Hid (Small (rnum top s).2) := Nat.le_trans (rnum_len _ s) hl
  rw [show top = 4611686018427387904 from rfl] at hR HL1
  have hle := rnum_le 4611686018427387904 s
  have hle2 := rnum_le 4611686018427387904 (rnum 4611686018427387904 s).2
  have HR : Hid (rid s = idOf (rnum 4611686018427387904 s).1 (rnum 4611686018427387904 (rnum 4611686018427387904 s).2).1 (rnum 4611686018427387904 (rnum 4611686018427387904 s).2).2) := hR
  obtain ⟨⟨t, s1⟩, hr⟩ : ∃ r, rnum 4611686018427387904 s = r := ⟨_, rfl⟩
  rw [hr] at c33 HR HL1 hle hle2
  obtain ⟨⟨n, s2⟩, hr2⟩ : ∃ r, rnum 4611686018427387904 s1 = r := ⟨_, rfl⟩
  simp only at c33 HR HL1 hle hle2
  rw [hr2] at HR hle2
  simp only at HR hle2
  have HR2 : Hid (rnum 4611686018427387904 s1 = (n, s2)) := hr2
  have HA : Hid (a < w.heap.size) := h.lt
  have HB1 : Hid (w1.heap[w.heap.size]? = some (.cells #[.int .i64 0, .int .i64 0] 23 (0, 0))) := hb1
  have HBW : Hid (Below w.heap.size w w1) := hB1
  have HLE : Hid (t ≤ 4611686018427387904 ∧ n ≤ 4611686018427387904) := ⟨hle, hle2⟩
  generalize rid s = y at HR ⊢
  clear h hl hB1 hb1 hR hr hr2 hle hle2
  go_enter Tryz.func56, Tryz.ntmps56
  go_wp2_with fail
  rw [← hw1]
  refine c33.mono ?_
  rintro e w2 ⟨rfl, h2, o2⟩
  have H2 : Hid (Rd 76 w2 a s1) := h2
  have O2 : Hid (Only (· = a) w1 w2) := o2
  have hb2 : w2.heap[w.heap.size]? = some (.cells #[.int .i64 0, .int .i64 0] 23 (0, 0)) := (o2.block _ (block_lt HB1.out) (by have := HA.out; omega)).trans HB1.out
  have HB2 : Hid (w2.heap[w.heap.size]? = some (.cells #[.int .i64 0, .int .i64 0] 23 (0, 0))) := hb2
  have HZ : Hid (w.heap.size < w2.heap.size) := block_lt hb2
  clear c33 h2 o2 hb2
  go_wp2_with fail
  obtain ⟨w3, hw3⟩ : ∃ w3, w3 = w2.alloc (.cells #[.int .i64 t, .int .i64 0] 23) := ⟨_, rfl⟩
  have hB3 : Below w2.heap.size w2 w3 := by rw [hw3]; exact (below_new _ _).out
  have hb3 : w3.heap[w2.heap.size]? = some (.cells #[.int .i64 t, .int .i64 0] 23 (0, 0)) := by rw [hw3]; exact heap_alloc_new w2 _
  have c33 := qnum_any a s1 w3 (H2.out.below hB3) HL1.out
  rw [HR2.out] at c33
  rw [← hw3]
  refine c33.mono ?_
  rintro e w4 ⟨rfl, h4, o4⟩
  have hne : w2.heap.size ≠ a := by have := HA.out; have := HZ.out; omega
  have hb4 : w4.heap[w2.heap.size]? = some (.cells #[.int .i64 t, .int .i64 0] 23 (0, 0)) := (o4.block _ (block_lt hb3) hne).trans hb3
  have hb0 : w4.heap[w.heap.size]? = some (.cells #[.int .i64 0, .int .i64 0] 23 (0, 0)) :=
    (o4.block _ (Nat.lt_of_lt_of_le HZ.out hB3.size) (by have := HA.out; omega)).trans ((hB3.block _ HZ.out).trans HB2.out)
  have HO4 : Hid (Only (· = a) w w4) := ((Below.only HBW.out (· = a)).next O2.out).next ((Below.only hB3 (· = a)).next o4)
  have c60 := qfail_any a s2 w4 h4
  have H4 : Hid (Rd 76 w4 a s2) := h4
  have HB4 : Hid (w4.heap[w2.heap.size]? = some (.cells #[.int .i64 t, .int .i64 0] 23 (0, 0))) := hb4
  have HB0 : Hid (w4.heap[w.heap.size]? = some (.cells #[.int .i64 0, .int .i64 0] 23 (0, 0))) := hb0
  obtain ⟨p, cp, _, k1, _, _⟩ := h4.at_
  have c1 : w4.cell? ⟨a, 1, none⟩ = some (.bool s2.isNone) := cellOf k1 1
  have d0 : w4.cell? ⟨w2.heap.size, 0, none⟩ = some (.int .i64 t) := cellOf hb4 0
  have d1 : w4.cell? ⟨w2.heap.size, 1, none⟩ = some (.int .i64 0) := cellOf hb4 1
  have g0 := frozenOf hb4 0
  have g1 := frozenOf hb4 1
  have e0 : w4.cell? ⟨w.heap.size, 0, none⟩ = some (.int .i64 0) := cellOf hb0 0
  have e1 : w4.cell? ⟨w.heap.size, 1, none⟩ = some (.int .i64 0) := cellOf hb0 1
  have r0 := frozenOf hb0 0
  have r1 := frozenOf hb0 1
  have hne2 : w.heap.size ≠ w2.heap.size := by have := HZ.out; omega
  have hne3 : w2.heap.size ≠ w.heap.size := Ne.symm hne2
  have HLT : Hid (a < w.heap.size) := HA
  -- it fails: the result's block is set to zeros
  have fails : ∀ w5 : World, Rd 76 w5 a none → Only (· = a) w4 w5 → w5.heap[w.heap.size]? = some (.cells #[.int .i64 0, .int .i64 0] 23 (0, 0)) := fun w5 _ o => (o.block _ (block_lt HB0.out) (by have := HA.out; omega)).trans HB0.out
  have FAILS : Hid (∀ w5 : World, Rd 76 w5 a none → Only (· = a) w4 w5 → w5.heap[w.heap.size]? = some (.cells #[.int .i64 0, .int .i64 0] 23 (0, 0))) := fails
  clear c33 h4 o4 hb3 hb4 hb0 hB3 hw3 hw1 k1 fails
  have bad : ∀ (K : Ending → World → Prop), (∀ w5, Rd 76 w5 a none → Only (· = a) w4 w5 → w5.heap[w.heap.size]? = some (.cells #[.int .i64 0, .int .i64 0] 23 (0, 0)) → K (.returned (.tuple #[])) w5) → Calls Tryz.prog 93 #[.pointer (some ⟨a, 0, none⟩)] w4 K := fun K hK =>
    c60.mono (by rintro e w5 ⟨rfl, k1, k2⟩; exact hK w5 k1 k2 (FAILS.out w5 k1 k2))
  have BAD : Hid _ := bad
  clear bad c60
  cases s2 with
  | none =>
    rw [show (none : St).isNone = true from rfl] at c1
    have HR' : Hid (y = ((0, 0), none)) := HR
    go_wp2_with fail
    refine BAD.out _ ?_
    intro w5 m1 m2 hb5
    have q0 : w5.cell? ⟨w.heap.size, 0, none⟩ = some (.int .i64 0) := cellOf hb5 0
    have q1 : w5.cell? ⟨w.heap.size, 1, none⟩ = some (.int .i64 0) := cellOf hb5 1
    have u0 := frozenOf hb5 0
    have u1 := frozenOf hb5 1
    have M1 : Hid (Rd 76 w5 a none) := m1
    have M2 : Hid (Only (· = a) w4 w5) := m2
    have HB5 : Hid (w5.heap[w.heap.size]? = some (.cells #[.int .i64 0, .int .i64 0] 23 (0, 0))) := hb5
    clear m1 m2 hb5 c1 d0 d1 g0 g1 e0 e1 r0 r1
    go_wp2
    refine bodyPost_ret (v := .agg #[.int .i64 0, .int .i64 0]) (by simp [results, Tryz.results56, go_sem, q0, q1]) rfl ?_
    rw [HR'.out]
    exact id_end M1.out (HO4.out.next M2.out) HB5.out HA.out
  | some bs =>
    rw [show (some bs : St).isNone = false from rfl] at c1
    by_cases ht : mtime < t
    · have HR' : Hid (y = ((0, 0), none)) := HR.out.trans (if_pos (.inl ht))
      have htI : (1152921504606846976 : Int) < t := by have : mtime = 1152921504606846976 := rfl; omega
      clear ht
      go_wp2_with fail
      refine BAD.out _ ?_
      intro w5 m1 m2 hb5
      have q0 : w5.cell? ⟨w.heap.size, 0, none⟩ = some (.int .i64 0) := cellOf hb5 0
      have q1 : w5.cell? ⟨w.heap.size, 1, none⟩ = some (.int .i64 0) := cellOf hb5 1
      have u0 := frozenOf hb5 0
      have u1 := frozenOf hb5 1
      have M1 : Hid (Rd 76 w5 a none) := m1
      have M2 : Hid (Only (· = a) w4 w5) := m2
      have HB5 : Hid (w5.heap[w.heap.size]? = some (.cells #[.int .i64 0, .int .i64 0] 23 (0, 0))) := hb5
      clear m1 m2 hb5 c1 d0 d1 g0 g1 e0 e1 r0 r1
      go_wp2
      refine bodyPost_ret (v := .agg #[.int .i64 0, .int .i64 0]) (by simp [results, Tryz.results56, go_sem, q0, q1]) rfl ?_
      rw [HR'.out]
      exact id_end M1.out (HO4.out.next M2.out) HB5.out HA.out
    · have htI : ¬ (1152921504606846976 : Int) < t := by have : mtime = 1152921504606846976 := rfl; omega
      by_cases hn : 64 ≤ n
      · have HR' : Hid (y = ((0, 0), none)) := HR.out.trans (if_pos (.inr hn))
        have hnI : (64 : Int) ≤ n := by omega
        clear hn ht
        go_wp2_with fail
        refine BAD.out _ ?_
        intro w5 m1 m2 hb5
        have q0 : w5.cell? ⟨w.heap.size, 0, none⟩ = some (.int .i64 0) := cellOf hb5 0
        have q1 : w5.cell? ⟨w.heap.size, 1, none⟩ = some (.int .i64 0) := cellOf hb5 1
        have u0 := frozenOf hb5 0
        have u1 := frozenOf hb5 1
        have M1 : Hid (Rd 76 w5 a none) := m1
        have M2 : Hid (Only (· = a) w4 w5) := m2
        have HB5 : Hid (w5.heap[w.heap.size]? = some (.cells #[.int .i64 0, .int .i64 0] 23 (0, 0))) := hb5
        clear m1 m2 hb5 c1 d0 d1 g0 g1 e0 e1 r0 r1
        go_wp2
        refine bodyPost_ret (v := .agg #[.int .i64 0, .int .i64 0]) (by simp [results, Tryz.results56, go_sem, q0, q1]) rfl ?_
        rw [HR'.out]
        exact id_end M1.out (HO4.out.next M2.out) HB5.out HA.out
      · have HR' : Hid (y = ((t, n), some bs)) := HR.out.trans (if_neg (by rintro (h | h); exact ht h; exact hn h))
        have hnI : ¬ (64 : Int) ≤ n := by omega
        clear hn ht
        go_wp2
        refine bodyPost_ret (v := .agg #[.int .i64 t, .int .i64 n]) (by simp [results, Tryz.results56, go_sem, e0, e1]) rfl ?_
        rw [HR'.out]
        have hS : Only (· = w2.heap.size) w4 (w4.setCell ⟨w2.heap.size, 1, none⟩ (.int .i64 n)) := Only.setCell _ _ _ rfl
        refine id_end (H4.out.above hS (fun b hb => by have := HA.out; have := HZ.out; omega)) (HO4.out.trans hS (fun j hj => .inr (by have := HZ.out; omega))) ((hS.block _ (block_lt HB0.out) hne2).trans HB0.out) HA.out

end Go.Proofs.YtegjageenofbjaaGreat.Cd
