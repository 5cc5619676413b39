/-
  take of the law's package: an item is read by both.
-/
import Derived.Test.YthimmgbccpdkmaaQstr
import Derived.Test.YthimmgbccpdkmaaQany
import Derived.Test.YthimmgbccpdkmaaQid
import Derived.Test.YthimmgbccpdkmaaQis
import Derived.Test.YthimmgbccpdkmaaRstr
namespace Go.Proofs.Ythimmgbccpdkmaa
open Go.RowKit

theorem below_drewN (w : World) (k : Nat) : Below w.heap.size w (w.drewN k) := ⟨rfl, rfl, rfl, Nat.le_refl _, fun _ _ => rfl⟩

/-- Both readers, at the same place. -/
structure Both (w : World) (a c : Nat) (s : St) : Prop where
  r : Rd 68 w a s
  q : Rd 44 w c s
theorem Both.below {w w' : World} {a c : Nat} {s : St} (h : Both w a c s) (hb : Below w.heap.size w w') : Both w' a c s := ⟨h.r.below hb, h.q.below hb⟩

def Took (w : World) (a c : Nat) (s : St) (e : Ending) (w' : World) : Prop := e = .returned (.bool true) ∧ Both w' a c s ∧ Only (fun b => b = a ∨ b = c) w w'

theorem Took.mk' {w w1 w2 : World} {a c : Nat} {s : St} (h : Only (fun b => b = a ∨ b = c) w w1) (hb : Below w1.heap.size w1 w2) (k : Both w2 a c s) : Took w a c s (.returned (.bool true)) w2 :=
  ⟨rfl, k, h.next (Below.only hb _)⟩

theorem both_only {w w1 w2 : World} {a c : Nat} (h : Only (· = a) w w1) (k : Only (· = c) w1 w2) : Only (fun b => b = a ∨ b = c) w w2 :=
  (h.weak (fun _ _ e => .inl e)).next (k.weak (fun _ _ e => .inr e))

/-- The norm of a vector that was read is itself. -/
theorem atOf_in (ns : List Int) (k : Nat) (x : Int) (h : ns[k]? = some x) (hx : okN x = true) : atOf ns k = x := by
  unfold atOf; rw [h]; simp [hx]
theorem allOf_get (ns : List Int) (n k : Nat) (h : k < n) : (allOf ns n)[k]? = some (atOf ns k) := by
  unfold allOf
  rw [List.getElem?_map, List.getElem?_range h]
  rfl
theorem tl_stop (ns : List Int) (m : Nat) (hm : m = 0 ∨ ∃ x, ns[m - 1]? = some x ∧ x ≠ 0) : ∀ k, m ≤ k → (∀ j, m ≤ j → j < k → ns[j]? = some 0) → tl ns k = m
  | 0, h, _ => by have : m = 0 := by omega
                  subst this; rfl
  | k + 1, h, hz => by
    by_cases hk : m = k + 1
    · subst hk
      rw [tl, if_neg]
      rcases hm with h | ⟨x, hx, hne⟩
      · omega
      · rw [show k = k + 1 - 1 from rfl, hx]; intro e; cases e; exact hne rfl
    · rw [tl, if_pos (hz k (by omega) (by omega))]
      exact tl_stop ns m hm k (by omega) (fun j h1 h2 => hz j h1 (by omega))
theorem norm_self (ns : List Int) (hl : ns.length ≤ 64) (hok : ∀ x ∈ ns, okN x = true) (hlast : ns.getLast? ≠ some 0) : normOf ns = ns := by
  have hA : ∀ k, k < ns.length → (allOf ns 64)[k]? = ns[k]? := fun k hk => by
    rw [allOf_get ns 64 k (by omega), List.getElem?_eq_getElem hk, atOf_in ns k ns[k] (List.getElem?_eq_getElem hk) (hok _ (List.getElem_mem hk))]
  have hz : ∀ j, ns.length ≤ j → j < 64 → (allOf ns 64)[j]? = some 0 := fun j h1 h2 => by
    rw [allOf_get ns 64 j h2]; unfold atOf; rw [List.getElem?_eq_none h1]
  have ht : tl (allOf ns 64) 64 = ns.length := tl_stop _ _ (by
    rcases Nat.eq_zero_or_pos ns.length with h0 | h0
    · exact .inl h0
    · refine .inr ⟨ns[ns.length - 1], ?_, fun e => hlast ?_⟩
      · rw [hA _ (by omega), List.getElem?_eq_getElem (by omega)]
      · rw [List.getLast?_eq_getElem?, List.getElem?_eq_getElem (by omega), e]) 64 hl hz
  unfold normOf
  rw [ht]
  apply List.ext_getElem?
  intro j
  rw [List.getElem?_take]
  split
  · exact hA j (by assumption)
  · rw [List.getElem?_eq_none (by omega)]
theorem norm_rvec (s : St) : normOf (zs (rvec s).1) = zs (rvec s).1 := by
  obtain ⟨h1, h2, h3⟩ := rvec_good s
  refine norm_self _ (by rw [zs_length]; exact h2) (fun x hx => ?_) (fun e => h3 ?_)
  · obtain ⟨y, hy, rfl⟩ := List.mem_map.1 hx
    rw [okN_nat]; exact decide_eq_true (h1 y hy)
  · unfold zs at e
    rw [List.getLast?_map] at e
    obtain ⟨y, hy, he⟩ := Option.map_eq_some_iff.1 e
    rw [hy]
    have : y = 0 := by simpa using he
    rw [this]

set_option maxRecDepth 8000 in
set_option maxHeartbeats 1000000 in
theorem take_num (a c : Nat)  (s : St) (w : World) (h : Both w a c s) (hl : Small s) :
    Calls Try.prog 12 #[.pointer (some ⟨a, 0, none⟩), .pointer (some ⟨c, 0, none⟩), .int .i64 0] w (Took w a c (skip 0 s)) := by
  have HSK : Hid (skip 0 s = (rnum 4611686018427387904 s).2) := rfl
  have c16 := rnum_any a s w h.r hl
  have HQ0 : Hid (Both w a c s) := h
  have HL : Hid (Small s) := hl
  obtain ⟨⟨n, S2⟩, hr⟩ : ∃ r, rnum 4611686018427387904 s = r := ⟨_, rfl⟩
  have HR : Hid (rnum 4611686018427387904 s = (n, S2)) := hr
  rw [hr] at c16 HSK
  simp only at c16 HSK
  generalize skip 0 s = S3 at HSK ⊢
  clear h hl hr
  go_enter Try.func12, Try.ntmps12
  go_wp2_with fail
  refine c16.mono ?_
  rintro e w1 ⟨rfl, r1, o1⟩
  have q1 := HQ0.out.r.other HQ0.out.q o1 (by decide)
  have c33 := qnum_any c s w1 q1 HL.out
  rw [HR.out] at c33
  have R1 : Hid (Rd 68 w1 a S2) := r1
  have O1 : Hid (Only (· = a) w w1) := o1
  have Q1 : Hid (Rd 44 w1 c s) := q1
  clear c16 r1 o1 q1
  go_wp2_with fail
  refine c33.mono ?_
  rintro e w2 ⟨rfl, hqq, o2⟩
  have hrr : Rd 68 w2 a S2 := Q1.out.other R1.out o2 (by decide)
  have HON : Hid (Only (fun b => b = a ∨ b = c) w w2) := both_only O1.out o2
  have hnn : ((n : Int) == n) = true := by simp
  clear c33 o2
  -- what both tell behind it
  have HBO : Hid (Both w2 a c S2) := ⟨hrr, hqq⟩
  obtain ⟨p, cp, hpl, k1, k2, k3⟩ := hqq.at_
  have c0 : w2.cell? ⟨c, 0, none⟩ = some (.slice p (S2.getD []).length cp) := cellOf k1 0
  have c1 : w2.cell? ⟨c, 1, none⟩ = some (.bool S2.isNone) := cellOf k1 1
  have c19 := fun k => left_any a S2 (w2.drewN k) (hrr.below (below_drewN _ _))
  clear hpl k1 k2 k3 hqq
  cases S2 with
  | none =>
    have c18 := fun k => err_bad a (w2.drewN k) (hrr.below (below_drewN _ _))
    rw [show (none : St).isNone = true from rfl] at c1
    rw [show ((none : St).getD []).length = 0 from rfl] at c0
    rw [show (((none : St).getD []).length : Int) = 0 from rfl] at c19
    clear hrr
    go_wp2_with fail
    go_quiet ((first | (go_at_call 19; exact Calls.quiet_of_same (c19 _)) | (go_at_call 18; exact Calls.quiet_of_same (c18 _))))
    go_wp2
    go_ret
    rw [HSK.out]
    exact Took.mk' HON.out (below_drewN _ _) (HBO.out.below (below_drewN _ _))
  | some bs =>
    have c18 := fun k => err_good a bs (w2.drewN k) (hrr.below (below_drewN _ _))
    rw [show (some bs : St).isNone = false from rfl] at c1
    rw [show ((some bs : St).getD []).length = bs.length from rfl] at c0 c19
    have hee : ((bs.length : Int) == bs.length) = true := by simp
    generalize bs.length = L at c0 c19 hee
    clear hrr
    go_wp2_with fail
    go_quiet ((first | (go_at_call 19; exact Calls.quiet_of_same (c19 _)) | (go_at_call 18; exact Calls.quiet_of_same (c18 _))))
    go_wp2
    go_ret
    rw [HSK.out]
    exact Took.mk' HON.out (below_drewN _ _) (HBO.out.below (below_drewN _ _))

set_option maxRecDepth 8000 in
set_option maxHeartbeats 1000000 in
theorem take_bytes (a c : Nat)  (s : St) (w : World) (h : Both w a c s) (hl : Small s) :
    Calls Try.prog 12 #[.pointer (some ⟨a, 0, none⟩), .pointer (some ⟨c, 0, none⟩), .int .i64 1] w (Took w a c (skip 1 s)) := by
  have HSK : Hid (skip 1 s = (rbytes s).2) := rfl
  have c34 := bytes_read a s w h.r hl
  have HQ0 : Hid (Both w a c s) := h
  have HL : Hid (Small s) := hl
  obtain ⟨⟨bb, S2⟩, hr⟩ : ∃ r, rbytes s = r := ⟨_, rfl⟩
  have HR : Hid (rbytes s = (bb, S2)) := hr
  rw [hr] at c34 HSK
  simp only at c34 HSK
  generalize skip 1 s = S3 at HSK ⊢
  clear h hl hr
  go_enter Try.func12, Try.ntmps12
  go_wp2_with fail
  refine c34.mono ?_
  rintro e w1 ⟨p1, cp1, ⟨rfl, r1, o1⟩, b1, f1⟩
  have q1 := HQ0.out.r.other HQ0.out.q o1 (by decide)
  have c35 := qbytes_any c s w1 q1 HL.out
  rw [HR.out] at c35
  simp only at c35
  have R1 : Hid (Rd 68 w1 a S2) := r1
  have O1 : Hid (Only (· = a) w w1) := o1
  have Q1 : Hid (Rd 44 w1 c s) := q1
  have B1 : Hid (Bytes w1 p1 bb) := b1
  have F1 : Hid (∀ b o, 0 < bb.length → p1 = some ⟨b, o, none⟩ → w.heap.size ≤ b) := f1
  have HC : Hid (c < w.heap.size) := HQ0.out.q.lt
  clear c34 r1 o1 q1 b1 f1
  go_wp2_with fail
  refine c35.mono ?_
  rintro e w2 ⟨p2, cp2, ⟨rfl, hqq, o2⟩, b2⟩
  have hrr : Rd 68 w2 a S2 := Q1.out.other R1.out o2 (by decide)
  have HON : Hid (Only (fun b => b = a ∨ b = c) w w2) := both_only O1.out o2
  have b1 : Bytes w2 p1 bb := o2.bytes B1.out (fun b o hl e hbc => by have := F1.out b o hl e; have := HC.out; omega)
  have s1 := run_str w2 p1 bb cp1 b1
  have s2 := run_str w2 p2 bb cp2 b2
  generalize strOf bb = T at s1 s2

  clear c35 o2 b1 b2
  -- what both tell behind it
  have HBO : Hid (Both w2 a c S2) := ⟨hrr, hqq⟩
  obtain ⟨p, cp, hpl, k1, k2, k3⟩ := hqq.at_
  have c0 : w2.cell? ⟨c, 0, none⟩ = some (.slice p (S2.getD []).length cp) := cellOf k1 0
  have c1 : w2.cell? ⟨c, 1, none⟩ = some (.bool S2.isNone) := cellOf k1 1
  have c19 := fun k => left_any a S2 (w2.drewN k) (hrr.below (below_drewN _ _))
  clear hpl k1 k2 k3 hqq
  cases S2 with
  | none =>
    have c18 := fun k => err_bad a (w2.drewN k) (hrr.below (below_drewN _ _))
    rw [show (none : St).isNone = true from rfl] at c1
    rw [show ((none : St).getD []).length = 0 from rfl] at c0
    rw [show (((none : St).getD []).length : Int) = 0 from rfl] at c19
    clear hrr
    go_wp2_with fail
    go_quiet ((first | (go_at_call 19; exact Calls.quiet_of_same (c19 _)) | (go_at_call 18; exact Calls.quiet_of_same (c18 _))))
    go_wp2
    go_ret
    rw [HSK.out]
    exact Took.mk' HON.out (below_drewN _ _) (HBO.out.below (below_drewN _ _))
  | some bs =>
    have c18 := fun k => err_good a bs (w2.drewN k) (hrr.below (below_drewN _ _))
    rw [show (some bs : St).isNone = false from rfl] at c1
    rw [show ((some bs : St).getD []).length = bs.length from rfl] at c0 c19
    have hee : ((bs.length : Int) == bs.length) = true := by simp
    generalize bs.length = L at c0 c19 hee
    clear hrr
    go_wp2_with fail
    go_quiet ((first | (go_at_call 19; exact Calls.quiet_of_same (c19 _)) | (go_at_call 18; exact Calls.quiet_of_same (c18 _))))
    go_wp2
    go_ret
    rw [HSK.out]
    exact Took.mk' HON.out (below_drewN _ _) (HBO.out.below (below_drewN _ _))

set_option maxRecDepth 8000 in
set_option maxHeartbeats 1000000 in
theorem take_text (a c : Nat)  (s : St) (w : World) (h : Both w a c s) (hl : Small s) :
    Calls Try.prog 12 #[.pointer (some ⟨a, 0, none⟩), .pointer (some ⟨c, 0, none⟩), .int .i64 2] w (Took w a c (skip 2 s)) := by
  have HSK : Hid (skip 2 s = (rbytes s).2) := rfl
  have c22 := text_read a s w h.r hl
  have HQ0 : Hid (Both w a c s) := h
  have HL : Hid (Small s) := hl
  obtain ⟨⟨bb, S2⟩, hr⟩ : ∃ r, rbytes s = r := ⟨_, rfl⟩
  have HR : Hid (rbytes s = (bb, S2)) := hr
  rw [hr] at c22 HSK
  simp only at c22 HSK
  generalize skip 2 s = S3 at HSK ⊢
  obtain ⟨T, hT⟩ : ∃ T, strOf bb = T := ⟨_, rfl⟩
  have HT : Hid (strOf bb = T) := hT
  rw [hT] at c22
  clear h hl hr hT
  go_enter Try.func12, Try.ntmps12
  go_wp2_with fail
  refine c22.mono ?_
  rintro e w1 ⟨rfl, r1, o1⟩
  have q1 := HQ0.out.r.other HQ0.out.q o1 (by decide)
  have c35 := qbytes_any c s w1 q1 HL.out
  rw [HR.out] at c35
  simp only at c35
  have R1 : Hid (Rd 68 w1 a S2) := r1
  have O1 : Hid (Only (· = a) w w1) := o1
  have Q1 : Hid (Rd 44 w1 c s) := q1
  clear c22 r1 o1 q1
  go_wp2_with fail
  refine c35.mono ?_
  rintro e w2 ⟨p2, cp2, ⟨rfl, hqq, o2⟩, b2⟩
  have hrr : Rd 68 w2 a S2 := Q1.out.other R1.out o2 (by decide)
  have HON : Hid (Only (fun b => b = a ∨ b = c) w w2) := both_only O1.out o2
  have s2 := run_str w2 p2 bb cp2 b2
  rw [HT.out] at s2

  clear c35 o2 b2
  -- what both tell behind it
  have HBO : Hid (Both w2 a c S2) := ⟨hrr, hqq⟩
  obtain ⟨p, cp, hpl, k1, k2, k3⟩ := hqq.at_
  have c0 : w2.cell? ⟨c, 0, none⟩ = some (.slice p (S2.getD []).length cp) := cellOf k1 0
  have c1 : w2.cell? ⟨c, 1, none⟩ = some (.bool S2.isNone) := cellOf k1 1
  have c19 := fun k => left_any a S2 (w2.drewN k) (hrr.below (below_drewN _ _))
  clear hpl k1 k2 k3 hqq
  cases S2 with
  | none =>
    have c18 := fun k => err_bad a (w2.drewN k) (hrr.below (below_drewN _ _))
    rw [show (none : St).isNone = true from rfl] at c1
    rw [show ((none : St).getD []).length = 0 from rfl] at c0
    rw [show (((none : St).getD []).length : Int) = 0 from rfl] at c19
    clear hrr
    go_wp2_with fail
    go_quiet ((first | (go_at_call 19; exact Calls.quiet_of_same (c19 _)) | (go_at_call 18; exact Calls.quiet_of_same (c18 _))))
    go_wp2
    go_ret
    rw [HSK.out]
    exact Took.mk' HON.out (below_drewN _ _) (HBO.out.below (below_drewN _ _))
  | some bs =>
    have c18 := fun k => err_good a bs (w2.drewN k) (hrr.below (below_drewN _ _))
    rw [show (some bs : St).isNone = false from rfl] at c1
    rw [show ((some bs : St).getD []).length = bs.length from rfl] at c0 c19
    have hee : ((bs.length : Int) == bs.length) = true := by simp
    generalize bs.length = L at c0 c19 hee
    clear hrr
    go_wp2_with fail
    go_quiet ((first | (go_at_call 19; exact Calls.quiet_of_same (c19 _)) | (go_at_call 18; exact Calls.quiet_of_same (c18 _))))
    go_wp2
    go_ret
    rw [HSK.out]
    exact Took.mk' HON.out (below_drewN _ _) (HBO.out.below (below_drewN _ _))

set_option maxRecDepth 8000 in
set_option maxHeartbeats 1000000 in
theorem take_truth (a c : Nat)  (s : St) (w : World) (h : Both w a c s) (hl : Small s) :
    Calls Try.prog 12 #[.pointer (some ⟨a, 0, none⟩), .pointer (some ⟨c, 0, none⟩), .int .i64 3] w (Took w a c (skip 3 s)) := by
  have HSK : Hid (skip 3 s = (rtruth s).2) := rfl
  have c36 := rtruth_any a s w h.r hl
  have HQ0 : Hid (Both w a c s) := h
  have HL : Hid (Small s) := hl
  obtain ⟨⟨n, S2⟩, hr⟩ : ∃ r, rtruth s = r := ⟨_, rfl⟩
  have HR : Hid (rtruth s = (n, S2)) := hr
  rw [hr] at c36 HSK
  simp only at c36 HSK
  generalize skip 3 s = S3 at HSK ⊢
  clear h hl hr
  go_enter Try.func12, Try.ntmps12
  go_wp2_with fail
  refine c36.mono ?_
  rintro e w1 ⟨rfl, r1, o1⟩
  have q1 := HQ0.out.r.other HQ0.out.q o1 (by decide)
  have c37 := qtruth_any c s w1 q1 HL.out
  rw [HR.out] at c37
  have R1 : Hid (Rd 68 w1 a S2) := r1
  have O1 : Hid (Only (· = a) w w1) := o1
  have Q1 : Hid (Rd 44 w1 c s) := q1
  clear c36 r1 o1 q1
  go_wp2_with fail
  refine c37.mono ?_
  rintro e w2 ⟨rfl, hqq, o2⟩
  have hrr : Rd 68 w2 a S2 := Q1.out.other R1.out o2 (by decide)
  have HON : Hid (Only (fun b => b = a ∨ b = c) w w2) := both_only O1.out o2
  have hnn : (n == n) = true := by simp
  clear c37 o2
  -- what both tell behind it
  have HBO : Hid (Both w2 a c S2) := ⟨hrr, hqq⟩
  obtain ⟨p, cp, hpl, k1, k2, k3⟩ := hqq.at_
  have c0 : w2.cell? ⟨c, 0, none⟩ = some (.slice p (S2.getD []).length cp) := cellOf k1 0
  have c1 : w2.cell? ⟨c, 1, none⟩ = some (.bool S2.isNone) := cellOf k1 1
  have c19 := fun k => left_any a S2 (w2.drewN k) (hrr.below (below_drewN _ _))
  clear hpl k1 k2 k3 hqq
  cases S2 with
  | none =>
    have c18 := fun k => err_bad a (w2.drewN k) (hrr.below (below_drewN _ _))
    rw [show (none : St).isNone = true from rfl] at c1
    rw [show ((none : St).getD []).length = 0 from rfl] at c0
    rw [show (((none : St).getD []).length : Int) = 0 from rfl] at c19
    clear hrr
    go_wp2_with fail
    go_quiet ((first | (go_at_call 19; exact Calls.quiet_of_same (c19 _)) | (go_at_call 18; exact Calls.quiet_of_same (c18 _))))
    go_wp2
    go_ret
    rw [HSK.out]
    exact Took.mk' HON.out (below_drewN _ _) (HBO.out.below (below_drewN _ _))
  | some bs =>
    have c18 := fun k => err_good a bs (w2.drewN k) (hrr.below (below_drewN _ _))
    rw [show (some bs : St).isNone = false from rfl] at c1
    rw [show ((some bs : St).getD []).length = bs.length from rfl] at c0 c19
    have hee : ((bs.length : Int) == bs.length) = true := by simp
    generalize bs.length = L at c0 c19 hee
    clear hrr
    go_wp2_with fail
    go_quiet ((first | (go_at_call 19; exact Calls.quiet_of_same (c19 _)) | (go_at_call 18; exact Calls.quiet_of_same (c18 _))))
    go_wp2
    go_ret
    rw [HSK.out]
    exact Took.mk' HON.out (below_drewN _ _) (HBO.out.below (below_drewN _ _))

set_option maxRecDepth 8000 in
set_option maxHeartbeats 1000000 in
theorem take_id (a c : Nat)  (s : St) (w : World) (h : Both w a c s) (hl : Small s) :
    Calls Try.prog 12 #[.pointer (some ⟨a, 0, none⟩), .pointer (some ⟨c, 0, none⟩), .int .i64 4] w (Took w a c (skip 4 s)) := by
  have HSK : Hid (skip 4 s = (rid s).2) := rfl
  have c38 := id_read a s w h.r hl
  have HQ0 : Hid (Both w a c s) := h
  have HL : Hid (Small s) := hl
  obtain ⟨⟨⟨t, n⟩, S2⟩, hr⟩ : ∃ r, rid s = r := ⟨_, rfl⟩
  have HR : Hid (rid s = ((t, n), S2)) := hr
  rw [hr] at c38 HSK
  simp only at c38 HSK
  generalize skip 4 s = S3 at HSK ⊢
  clear h hl hr
  go_enter Try.func12, Try.ntmps12
  go_wp2_with fail
  refine c38.mono ?_
  rintro e w1 ⟨rfl, r1, o1⟩
  obtain ⟨w1', hw1⟩ : ∃ w1', w1' = w1.alloc (.cells #[.int .i64 t, .int .i64 n] 29) := ⟨_, rfl⟩
  have hB1 : Below w1.heap.size w1 w1' := by rw [hw1]; exact (below_new _ _).out
  have q1 := (HQ0.out.r.other HQ0.out.q o1 (by decide)).below hB1
  have c39 := qid_any c s w1' q1 HL.out
  rw [HR.out] at c39
  have R1 : Hid (Rd 68 w1' a S2) := r1.below hB1
  have O1 : Hid (Only (· = a) w w1') := o1.more hB1
  have Q1 : Hid (Rd 44 w1' c s) := q1
  have b1 : w1'.heap[w1.heap.size]? = some (.cells #[.int .i64 t, .int .i64 n] 29 (0, 0)) := by rw [hw1]; exact heap_alloc_new w1 _
  have HB1 : Hid (w1'.heap[w1.heap.size]? = some (.cells #[.int .i64 t, .int .i64 n] 29 (0, 0))) := b1
  have HC : Hid (c < w1.heap.size) := Nat.lt_of_lt_of_le HQ0.out.q.lt o1.size
  clear c38 r1 o1 q1 hB1 b1
  go_wp2_with fail
  rw [← hw1]
  refine c39.mono ?_
  rintro e w2 ⟨rfl, hqq0, o2⟩
  have hrr0 : Rd 68 w2 a S2 := Q1.out.other R1.out o2 (by decide)
  have hb2 : w2.heap[w1.heap.size]? = some (.cells #[.int .i64 t, .int .i64 n] 29 (0, 0)) := (o2.block _ (block_lt HB1.out) (by have := HC.out; omega)).trans HB1.out
  obtain ⟨w3, hw3⟩ : ∃ w3, w3 = w2.alloc (.cells #[.int .i64 t, .int .i64 n] 29) := ⟨_, rfl⟩
  have hB3 : Below w2.heap.size w2 w3 := by rw [hw3]; exact (below_new _ _).out
  have d0 : w2.cell? ⟨w1.heap.size, 0, none⟩ = some (.int .i64 t) := cellOf hb2 0
  have d1 : w2.cell? ⟨w1.heap.size, 1, none⟩ = some (.int .i64 n) := cellOf hb2 1
  have hlt2 : w1.heap.size < w2.heap.size := block_lt hb2
  have c40 := same_true t n w3
  have R3 : Hid (Rd 68 w3 a S2) := hrr0.below hB3
  have Q3 : Hid (Rd 44 w3 c S2) := hqq0.below hB3
  have O3 : Hid (Only (fun b => b = a ∨ b = c) w w3) := (both_only O1.out o2).next (Below.only hB3 _)
  clear c39 o2 hqq0 hrr0 hb2 hB3 hw1
  go_wp2_with fail
  rw [← hw3]
  refine c40.mono ?_
  rintro e w4 ⟨rfl, hB4⟩
  have hrr := R3.out.below hB4
  have hqq := Q3.out.below hB4
  have HON : Hid (Only (fun b => b = a ∨ b = c) w w4) := O3.out.next (Below.only hB4 _)
  clear c40 hB4 d0 d1 hw3
  -- what both tell behind it
  have HBO : Hid (Both w4 a c S2) := ⟨hrr, hqq⟩
  obtain ⟨p, cp, hpl, k1, k2, k3⟩ := hqq.at_
  have c0 : w4.cell? ⟨c, 0, none⟩ = some (.slice p (S2.getD []).length cp) := cellOf k1 0
  have c1 : w4.cell? ⟨c, 1, none⟩ = some (.bool S2.isNone) := cellOf k1 1
  have c19 := fun k => left_any a S2 (w4.drewN k) (hrr.below (below_drewN _ _))
  clear hpl k1 k2 k3 hqq
  cases S2 with
  | none =>
    have c18 := fun k => err_bad a (w4.drewN k) (hrr.below (below_drewN _ _))
    rw [show (none : St).isNone = true from rfl] at c1
    rw [show ((none : St).getD []).length = 0 from rfl] at c0
    rw [show (((none : St).getD []).length : Int) = 0 from rfl] at c19
    clear hrr
    go_wp2_with fail
    go_quiet ((first | (go_at_call 19; exact Calls.quiet_of_same (c19 _)) | (go_at_call 18; exact Calls.quiet_of_same (c18 _))))
    go_wp2
    go_ret
    rw [HSK.out]
    exact Took.mk' HON.out (below_drewN _ _) (HBO.out.below (below_drewN _ _))
  | some bs =>
    have c18 := fun k => err_good a bs (w4.drewN k) (hrr.below (below_drewN _ _))
    rw [show (some bs : St).isNone = false from rfl] at c1
    rw [show ((some bs : St).getD []).length = bs.length from rfl] at c0 c19
    have hee : ((bs.length : Int) == bs.length) = true := by simp
    generalize bs.length = L at c0 c19 hee
    clear hrr
    go_wp2_with fail
    go_quiet ((first | (go_at_call 19; exact Calls.quiet_of_same (c19 _)) | (go_at_call 18; exact Calls.quiet_of_same (c18 _))))
    go_wp2
    go_ret
    rw [HSK.out]
    exact Took.mk' HON.out (below_drewN _ _) (HBO.out.below (below_drewN _ _))

set_option maxRecDepth 8000 in
set_option maxHeartbeats 1000000 in
theorem take_vec (a c : Nat) (kind : Int) (h0 : kind ≠ 0) (h1 : kind ≠ 1) (h2 : kind ≠ 2) (h3 : kind ≠ 3) (h4 : kind ≠ 4) (s : St) (w : World) (h : Both w a c s) (hl : Small s) :
    Calls Try.prog 12 #[.pointer (some ⟨a, 0, none⟩), .pointer (some ⟨c, 0, none⟩), .int .i64 kind] w (Took w a c (skip kind s)) := by
  have HSK : Hid (skip kind s = (rvec s).2) := by show _ = _; unfold skip; rw [if_neg h0, if_neg h1, if_neg h2, if_neg h3, if_neg h4]
  have c23 := vector_read a s w h.r hl
  have HQ0 : Hid (Both w a c s) := h
  have HL : Hid (Small s) := hl
  have HNR : Hid (normOf (zs (rvec s).1) = zs (rvec s).1) := norm_rvec s
  have hlen := (rvec_good s).2.1
  obtain ⟨⟨vs, S2⟩, hr⟩ : ∃ r, rvec s = r := ⟨_, rfl⟩
  have HR : Hid (rvec s = (vs, S2)) := hr
  rw [hr] at c23 HSK HNR hlen
  simp only at c23 HSK HNR hlen
  generalize skip kind s = S3 at HSK ⊢
  have HLEN : Hid (vs.length ≤ 64) := hlen
  have g0 : (kind == 0) = false := by simpa using h0
  have g1 : (kind == 1) = false := by simpa using h1
  have g2 : (kind == 2) = false := by simpa using h2
  have g3 : (kind == 3) = false := by simpa using h3
  have g4 : (kind == 4) = false := by simpa using h4
  clear h hl hr h0 h1 h2 h3 h4 hlen
  go_enter Try.func12, Try.ntmps12
  go_wp2_with fail
  refine c23.mono ?_
  rintro e w1 ⟨p1, cp1, ⟨rfl, r1, o1⟩, _, l1, f1⟩
  have q1 := HQ0.out.r.other HQ0.out.q o1 (by decide)
  have c41 := qvector_any c s w1 q1 HL.out
  rw [HR.out] at c41
  simp only at c41
  have R1 : Hid (Rd 68 w1 a S2) := r1
  have O1 : Hid (Only (· = a) w w1) := o1
  have Q1 : Hid (Rd 44 w1 c s) := q1
  have L1 : Hid (Lies w1 p1 (vs.map nv)) := l1
  have F1 : Hid (∀ b o, p1 = some ⟨b, o, none⟩ → w.heap.size ≤ b) := f1
  have HC : Hid (c < w.heap.size) := HQ0.out.q.lt
  clear c23 r1 o1 q1 l1 f1
  go_wp2_with fail
  refine c41.mono ?_
  rintro e w2 ⟨p2, cp2, ⟨rfl, hqq0, o2⟩, l2, f2⟩
  have hrr0 : Rd 68 w2 a S2 := Q1.out.other R1.out o2 (by decide)
  have l1 : Lies w2 p1 (vs.map nv) := o2.lies L1.out (fun b o _ e hbc => by have := F1.out b o e; have := HC.out; omega)
  have c42 := is_true p1 p2 (zs vs) (zs vs) cp1 cp2 w2 HNR.out (by rw [zs_length]; have := HLEN.out; omega) (by rw [zs_nv]; exact l1) (by rw [zs_nv]; exact l2)
  rw [zs_length] at c42
  have R2 : Hid (Rd 68 w2 a S2) := hrr0
  have Q2 : Hid (Rd 44 w2 c S2) := hqq0
  have O2 : Hid (Only (fun b => b = a ∨ b = c) w w2) := both_only O1.out o2
  clear c41 o2 hqq0 hrr0 l1 l2 f2
  go_wp2_with fail
  refine c42.mono ?_
  rintro e w4 ⟨rfl, hB4⟩
  have hrr := R2.out.below hB4
  have hqq := Q2.out.below hB4
  have HON : Hid (Only (fun b => b = a ∨ b = c) w w4) := O2.out.next (Below.only hB4 _)
  clear c42 hB4
  -- what both tell behind it
  have HBO : Hid (Both w4 a c S2) := ⟨hrr, hqq⟩
  obtain ⟨p, cp, hpl, k1, k2, k3⟩ := hqq.at_
  have c0 : w4.cell? ⟨c, 0, none⟩ = some (.slice p (S2.getD []).length cp) := cellOf k1 0
  have c1 : w4.cell? ⟨c, 1, none⟩ = some (.bool S2.isNone) := cellOf k1 1
  have c19 := fun k => left_any a S2 (w4.drewN k) (hrr.below (below_drewN _ _))
  clear hpl k1 k2 k3 hqq
  cases S2 with
  | none =>
    have c18 := fun k => err_bad a (w4.drewN k) (hrr.below (below_drewN _ _))
    rw [show (none : St).isNone = true from rfl] at c1
    rw [show ((none : St).getD []).length = 0 from rfl] at c0
    rw [show (((none : St).getD []).length : Int) = 0 from rfl] at c19
    clear hrr
    go_wp2_with fail
    go_quiet ((first | (go_at_call 19; exact Calls.quiet_of_same (c19 _)) | (go_at_call 18; exact Calls.quiet_of_same (c18 _))))
    go_wp2
    go_ret
    rw [HSK.out]
    exact Took.mk' HON.out (below_drewN _ _) (HBO.out.below (below_drewN _ _))
  | some bs =>
    have c18 := fun k => err_good a bs (w4.drewN k) (hrr.below (below_drewN _ _))
    rw [show (some bs : St).isNone = false from rfl] at c1
    rw [show ((some bs : St).getD []).length = bs.length from rfl] at c0 c19
    have hee : ((bs.length : Int) == bs.length) = true := by simp
    generalize bs.length = L at c0 c19 hee
    clear hrr
    go_wp2_with fail
    go_quiet ((first | (go_at_call 19; exact Calls.quiet_of_same (c19 _)) | (go_at_call 18; exact Calls.quiet_of_same (c18 _))))
    go_wp2
    go_ret
    rw [HSK.out]
    exact Took.mk' HON.out (below_drewN _ _) (HBO.out.below (below_drewN _ _))

theorem take_any (a c : Nat) (kind : Int) (s : St) (w : World) (h : Both w a c s) (hl : Small s) :
    Calls Try.prog 12 #[.pointer (some ⟨a, 0, none⟩), .pointer (some ⟨c, 0, none⟩), .int .i64 kind] w (Took w a c (skip kind s)) := by
  by_cases h0 : kind = 0
  · subst h0; exact take_num a c s w h hl
  by_cases h1 : kind = 1
  · subst h1; exact take_bytes a c s w h hl
  by_cases h2 : kind = 2
  · subst h2; exact take_text a c s w h hl
  by_cases h3 : kind = 3
  · subst h3; exact take_truth a c s w h hl
  by_cases h4 : kind = 4
  · subst h4; exact take_id a c s w h hl
  exact take_vec a c kind h0 h1 h2 h3 h4 s w h hl

end Go.Proofs.Ythimmgbccpdkmaa
