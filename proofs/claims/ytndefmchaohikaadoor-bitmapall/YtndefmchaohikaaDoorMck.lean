/-
  The law's own check behind each step: both maps tell the same.
-/
import Derived.Test.YtndefmchaohikaaDoorMref
import Derived.Test.YtndefmchaohikaaDoorMreg
namespace Go.Proofs.YtndefmchaohikaaDoor
open Go.RowKit

/-- Both maps, held against each other. -/
structure BI (B : Nat) (w0 w : World) (m : MS) (r : RS) (n : Nat) : Prop where
  mi : MI B w0 w m
  ra : RAt w r
  hra : B ≤ r.a
  hrb : B ≤ r.b
  mn : m.n = n
  rn : r.U.length = n
  same : ∀ i, used m.ws i = uat r.U i

/-- What belongs to the one is not the other's. -/
theorem BI.apart {B : Nat} {w0 w : World} {m : MS} {r : RS} {n : Nat} (h : BI B w0 w m r n) : r.a ≠ m.b ∧ r.b ≠ m.b ∧ m.a ≠ r.b ∧ m.b ≠ r.b := by
  obtain ⟨cs, h1, _⟩ := h.mi.map.row
  have h2 := h.mi.map.st
  have h3 := h.ra.st
  have h4 := h.ra.row
  refine ⟨?_, ?_, ?_, ?_⟩
  · intro e; rw [e, h1] at h3; simp at h3
  · intro e; rw [e, h1] at h4; simp at h4
  · intro e; rw [e, h4] at h2; simp at h2
  · intro e; rw [e, h4] at h1; simp at h1
theorem BI.beside {B : Nat} {w0 w w' : World} {m : MS} {r : RS} {n : Nat} (h : BI B w0 w m r n) (hB : Below w.heap.size w w') : BI B w0 w' m r n :=
  ⟨h.mi.beside hB, h.ra.below hB, h.hra, h.hrb, h.mn, h.rn, h.same⟩
theorem BI.still {B : Nat} {w0 w w' : World} {m : MS} {r : RS} {n : Nat} (h : BI B w0 w m r n) (hk : ∃ k, w' = w.drewN k) : BI B w0 w' m r n := by
  refine ⟨h.mi.still hk, ?_, h.hra, h.hrb, h.mn, h.rn, h.same⟩
  obtain ⟨k, rfl⟩ := hk
  exact h.ra.drewN k

/-- The bytes of the map. -/
def bsOf (m : MS) : List (BitVec 8) := fillB m.ws ((m.n + 7) / 8) ((m.n + 7) / 8)
theorem bsOf_of (m : MS) : BytesOf m.n (used m.ws) (bsOf m) := fillB_of m.ws m.n

/-- The check under way: b1, b4: the first, the second bytes are there. -/
structure CK (B : Nat) (w0 : World) (m : MS) (r : RS) (n oa : Nat) (N : Int) (s0 : Nat) (b1 b4 : Bool) (W : World) : Prop where
  bi : BI B w0 W m r n
  oc : W.cell? ⟨oa, 1, none⟩ = some (.int .i64 N)
  s1 : b1 = false → W.heap.size = s0
  s2 : b4 = false → b1 = true → W.heap.size = s0 + 1
  k1 : b1 = true → W.heap[s0]? = some (.cells ((bsOf m).map u8v).toArray 5 (0, 0))
  k4 : b4 = true → W.heap[s0 + 1]? = some (.cells ((bsOf m).map u8v).toArray 5 (0, 0))

section
variable {B : Nat} {w0 : World} {m : MS} {r : RS} {n oa : Nat} {N : Int} {s0 : Nat} {b1 b4 : Bool} {W : World}
theorem CK.still (h : CK B w0 m r n oa N s0 b1 b4 W) {W' : World} (hk : ∃ k, W' = W.drewN k) : CK B w0 m r n oa N s0 b1 b4 W' := by
  have hb := h.bi.still hk
  obtain ⟨k, rfl⟩ := hk
  exact ⟨hb, h.oc, h.s1, h.s2, h.k1, h.k4⟩
theorem CK.bytes1 (h : CK B w0 m r n oa N s0 false false W) : Calls Tryd.prog 14 #[.pointer (some ⟨m.a, 0, none⟩)] W fun e w' => e = .returned (.slice (some ⟨s0, 0, none⟩) (bsOf m).length (bsOf m).length) ∧ CK B w0 m r n oa N s0 true false w' := by
  refine (bytes_sz m W h.bi.mi.map).mono ?_
  rintro e w' ⟨bs, rfl, hof, hblk, hB, hsz⟩
  obtain rfl : bs = bsOf m := hof.eq (bsOf_of m) (fun _ _ => rfl)
  rw [h.s1 rfl] at hblk hsz ⊢
  exact ⟨rfl, h.bi.beside hB, (hB.cell (p := ⟨oa, 1, none⟩) (cell_lt h.oc)).trans h.oc, (fun h => by cases h), fun _ _ => hsz, fun _ => hblk, (fun h => by cases h)⟩
theorem CK.bytes2 (h : CK B w0 m r n oa N s0 true false W) : Calls Tryd.prog 16 #[.pointer (some ⟨r.a, 0, none⟩)] W fun e w' => e = .returned (.slice (some ⟨s0 + 1, 0, none⟩) (bsOf m).length (bsOf m).length) ∧ CK B w0 m r n oa N s0 true true w' := by
  have hn : r.U.length ≤ 65536 := by rw [h.bi.rn, ← h.bi.mn]; exact h.bi.mi.map.fit.most
  refine (rbytes_any r W h.bi.ra hn).mono ?_
  rintro e w' ⟨bs, rfl, hof, hblk, hB, hsz⟩
  rw [h.bi.rn, ← h.bi.mn] at hof
  obtain rfl : bs = bsOf m := hof.eq (bsOf_of m) (fun i _ => (h.bi.same i).symm)
  have h1 := h.k1 rfl
  have hlt := block_lt h1
  rw [h.s2 rfl rfl] at hblk hsz ⊢
  exact ⟨rfl, h.bi.beside hB, (hB.cell (p := ⟨oa, 1, none⟩) (cell_lt h.oc)).trans h.oc, (fun h => by cases h), (fun h => by cases h), fun _ => (hB.block s0 hlt).trans h1, fun _ => hblk⟩
theorem CK.conv1 (h : CK B w0 m r n oa N s0 true b4 W) : (convert 39 9 (.slice (some ⟨s0, 0, none⟩) (bsOf m).length (bsOf m).length)).run Tryd.prog W = .ok (.string (strOf (bsOf m))) W :=
  run_str W _ _ _ (Bytes.block (h.k1 rfl))
theorem CK.conv4 (h : CK B w0 m r n oa N s0 b1 true W) : (convert 39 9 (.slice (some ⟨s0 + 1, 0, none⟩) (bsOf m).length (bsOf m).length)).run Tryd.prog W = .ok (.string (strOf (bsOf m))) W :=
  run_str W _ _ _ (Bytes.block (h.k4 rfl))
/-- How many are free. -/
def frOf (m : MS) : Nat := m.n - cnt (used m.ws) m.n
theorem CK.free (h : CK B w0 m r n oa N s0 b1 b4 W) : Calls Tryd.prog 17 #[.pointer (some ⟨m.a, 0, none⟩)] W fun e w' => e = .returned (.int .i64 (frOf m : Nat)) ∧ CK B w0 m r n oa N s0 b1 b4 w' :=
  (free_any m W h.bi.mi.map h.bi.mi.tight).mono fun _ _ ⟨he, hw⟩ => ⟨he, hw ▸ h⟩
theorem CK.rfree (h : CK B w0 m r n oa N s0 b1 b4 W) : Calls Tryd.prog 18 #[.pointer (some ⟨r.a, 0, none⟩)] W fun e w' => e = .returned (.int .i64 (frOf m : Nat)) ∧ CK B w0 m r n oa N s0 b1 b4 w' := by
  have hn : r.U.length ≤ 65536 := by rw [h.bi.rn, ← h.bi.mn]; exact h.bi.mi.map.fit.most
  refine (rfree_any r W h.bi.ra hn).mono fun e w' ⟨he, hw⟩ => ⟨?_, hw ▸ h⟩
  rw [he]
  unfold frOf
  rw [h.bi.rn, ← h.bi.mn, cnt_congr m.n (fun i _ => (h.bi.same i).symm)]
theorem CK.size (h : CK B w0 m r n oa N s0 b1 b4 W) : Calls Tryd.prog 19 #[.pointer (some ⟨m.a, 0, none⟩)] W fun e w' => e = .returned (.int .i64 (n : Nat)) ∧ CK B w0 m r n oa N s0 b1 b4 w' :=
  (size_any m W h.bi.mi.map).mono fun e w' ⟨he, hw⟩ => ⟨by rw [he, h.bi.mn], hw ▸ h⟩
theorem CK.used (h : CK B w0 m r n oa N s0 b1 b4 W) (i : Nat) (hN : N = (i : Int)) (hi : i < n) : Calls Tryd.prog 20 #[.pointer (some ⟨m.a, 0, none⟩), .int .i64 N] W fun e w' => e = .returned (.bool (uat r.U i)) ∧ CK B w0 m r n oa N s0 b1 b4 w' := by
  have := used_in i m W h.bi.mi.map (by rw [h.bi.mn]; exact hi)
  rw [hN]
  refine this.mono fun e w' ⟨he, hw⟩ => ⟨by rw [he, h.bi.same], ?_⟩
  rw [← hN]
  exact h.still hw
theorem CK.unused (h : CK B w0 m r n oa N s0 b1 b4 W) (hN : ¬ (0 ≤ N ∧ N < n)) : Calls Tryd.prog 20 #[.pointer (some ⟨m.a, 0, none⟩), .int .i64 N] W fun e w' => e = .returned (.bool false) ∧ CK B w0 m r n oa N s0 b1 b4 w' :=
  (used_out N m W h.bi.mi.map (by rw [h.bi.mn]; exact hN)).mono fun _ _ ⟨he, hw⟩ => ⟨he, h.still hw⟩
end

/- The second check: a copy and what was read again. -/
structure CL (B : Nat) (w0 : World) (x y : MS) (r : RS) (n oa : Nat) (N : Int) (s0 : Nat) (b1 b4 : Bool) (W : World) : Prop where
  bi : BI B w0 W x r n
  yat : MapAt W y
  yn : y.n = n
  ysame : ∀ i, Go.Proofs.YtndefmchaohikaaDoor.used y.ws i = Go.Proofs.YtndefmchaohikaaDoor.used x.ws i
  oc : W.cell? ⟨oa, 1, none⟩ = some (.int .i64 N)
  s1 : b1 = false → W.heap.size = s0
  s2 : b4 = false → b1 = true → W.heap.size = s0 + 1
  k1 : b1 = true → W.heap[s0]? = some (.cells ((bsOf x).map u8v).toArray 5 (0, 0))
  k4 : b4 = true → W.heap[s0 + 1]? = some (.cells ((bsOf x).map u8v).toArray 5 (0, 0))
section
variable {B : Nat} {w0 : World} {x y : MS} {r : RS} {n oa : Nat} {N : Int} {s0 : Nat} {b1 b4 : Bool} {W : World}
theorem CL.bytes1 (h : CL B w0 x y r n oa N s0 false false W) : Calls Tryd.prog 14 #[.pointer (some ⟨y.a, 0, none⟩)] W fun e w' => e = .returned (.slice (some ⟨s0, 0, none⟩) (bsOf x).length (bsOf x).length) ∧ CL B w0 x y r n oa N s0 true false w' := by
  refine (bytes_sz y W h.yat).mono ?_
  rintro e w' ⟨bs, rfl, hof, hblk, hB, hsz⟩
  rw [h.yn, ← h.bi.mn] at hof
  obtain rfl : bs = bsOf x := hof.eq (bsOf_of x) (fun i _ => h.ysame i)
  rw [h.s1 rfl] at hblk hsz ⊢
  exact ⟨rfl, h.bi.beside hB, h.yat.below hB, h.yn, h.ysame, (hB.cell (p := ⟨oa, 1, none⟩) (cell_lt h.oc)).trans h.oc, (fun h => by cases h), fun _ _ => hsz, fun _ => hblk, (fun h => by cases h)⟩
theorem CL.bytes2 (h : CL B w0 x y r n oa N s0 true false W) : Calls Tryd.prog 14 #[.pointer (some ⟨x.a, 0, none⟩)] W fun e w' => e = .returned (.slice (some ⟨s0 + 1, 0, none⟩) (bsOf x).length (bsOf x).length) ∧ CL B w0 x y r n oa N s0 true true w' := by
  refine (bytes_sz x W h.bi.mi.map).mono ?_
  rintro e w' ⟨bs, rfl, hof, hblk, hB, hsz⟩
  obtain rfl : bs = bsOf x := hof.eq (bsOf_of x) (fun _ _ => rfl)
  have h1 := h.k1 rfl
  have hlt := block_lt h1
  rw [h.s2 rfl rfl] at hblk hsz ⊢
  exact ⟨rfl, h.bi.beside hB, h.yat.below hB, h.yn, h.ysame, (hB.cell (p := ⟨oa, 1, none⟩) (cell_lt h.oc)).trans h.oc, (fun h => by cases h), (fun h => by cases h), fun _ => (hB.block s0 hlt).trans h1, fun _ => hblk⟩
theorem CL.conv1 (h : CL B w0 x y r n oa N s0 true b4 W) : (convert 39 9 (.slice (some ⟨s0, 0, none⟩) (bsOf x).length (bsOf x).length)).run Tryd.prog W = .ok (.string (strOf (bsOf x))) W :=
  run_str W _ _ _ (Bytes.block (h.k1 rfl))
theorem CL.conv4 (h : CL B w0 x y r n oa N s0 b1 true W) : (convert 39 9 (.slice (some ⟨s0 + 1, 0, none⟩) (bsOf x).length (bsOf x).length)).run Tryd.prog W = .ok (.string (strOf (bsOf x))) W :=
  run_str W _ _ _ (Bytes.block (h.k4 rfl))
end

/- What both maps do in one step. -/

theorem least_one {U : Nat → Bool} {n k s s' : Nat} (h : LeastRow U n k s) (h' : LeastRow U n k s') : s = s' := by
  rcases Nat.lt_trichotomy s s' with hl | hl | hl
  · exact absurd (h.yes (Nat.lt_of_lt_of_le hl h'.high)) (h'.not s hl)
  · exact hl
  · exact absurd (h'.yes (Nat.lt_of_lt_of_le hl h.high)) (h.not s' hl)
theorem take_run {m m' : MS} {e : Ending} (h : TakeOut m e m') : RunOut m 1 e m' := by
  obtain ⟨r, hr, hor⟩ := h
  refine ⟨r, ⟨hr.high, fun s hs hR => ?_, fun h => ⟨by omega, fun j hj => ?_⟩⟩, hor⟩
  · have h1 := hr.not s (Nat.zero_le _) hs
    have h2 := hR.2 0 (by omega)
    rw [Nat.add_zero] at h2
    rw [h2] at h1
    cases h1
  · have h1 := hr.yes h
    obtain rfl : j = 0 := by omega
    simpa using h1

section
variable {B : Nat} {w0 w w1 : World} {m : MS} {r : RS} {n : Nat}
/-- The program's map has done its part, the document's map not yet. -/
structure Half (B : Nat) (w0 w1 : World) (m : MS) (r : RS) (n k : Nat) (x y : Int) (m' : MS) : Prop where
  mi : MI B w0 w1 m'
  ra : RAt w1 r
  hra : B ≤ r.a
  hrb : B ≤ r.b
  rn : r.U.length = n
  ma : m'.a = m.a
  mn : m'.n = n
  out : RunOut m k (.returned (.tuple #[.int .i64 x, .int .i64 y])) m'
  same : ∀ i, Go.Proofs.YtndefmchaohikaaDoor.used m.ws i = uat r.U i
  fit : Fit n m.ws
  mn0 : m.n = n
theorem half_of {k : Nat} {e : Ending} {m' : MS} (h : BI B w0 w m r n) (ho : RunOut m k e m') (hm : MI B w0 w1 m') (hw : Only (· = m.b) w w1) (ea : m'.a = m.a) (en : m'.n = m.n) :
    ∃ x y, e = .returned (.tuple #[.int .i64 x, .int .i64 y]) ∧ Half B w0 w1 m r n k x y m' := by
  have hra : RAt w1 r := h.ra.keep hw h.apart.1 h.apart.2.1
  have ho' := ho
  obtain ⟨s, hs, ⟨_, rfl, _⟩ | ⟨_, rfl, _⟩⟩ := ho'
  · exact ⟨_, _, rfl, hm, hra, h.hra, h.hrb, h.rn, ea, en.trans h.mn, ho, h.same, h.mn ▸ h.mi.map.fit, h.mn⟩
  · exact ⟨_, _, rfl, hm, hra, h.hra, h.hrb, h.rn, ea, en.trans h.mn, ho, h.same, h.mn ▸ h.mi.map.fit, h.mn⟩
theorem take_half (h : BI B w0 w m r n) : Calls Tryd.prog 8 #[.pointer (some ⟨m.a, 0, none⟩)] w fun e w' => ∃ x y, e = .returned (.tuple #[.int .i64 x, .int .i64 y]) ∧ Hid ((∃ m', Half B w0 w' m r n 1 x y m') ∧ Only (· = m.b) w w') :=
  (take_mi h.mi).mono fun e w' ⟨m', ho, hm, hw, ea, _, en⟩ => by
    obtain ⟨x, y, he, hh⟩ := half_of h (take_run ho) hm hw ea en
    exact ⟨x, y, he, ⟨m', hh⟩, hw⟩
theorem run_half (h : BI B w0 w m r n) (k : Nat) (hk : 0 < k) (hkn : k ≤ n) : Calls Tryd.prog 10 #[.pointer (some ⟨m.a, 0, none⟩), .int .i64 k] w fun e w' => ∃ x y, e = .returned (.tuple #[.int .i64 x, .int .i64 y]) ∧ Hid ((∃ m', Half B w0 w' m r n k x y m') ∧ Only (· = m.b) w w') :=
  (run_mi h.mi k hk (by rw [h.mn]; exact hkn)).mono fun e w' ⟨m', ho, hm, hw, ea, _, en⟩ => by
    obtain ⟨x, y, he, hh⟩ := half_of h ho hm hw ea en
    exact ⟨x, y, he, ⟨m', hh⟩, hw⟩
/-- The document's map does the same. -/
theorem rrun_half {k : Nat} {x y : Int} {m' : MS} (h : Half B w0 w1 m r n k x y m') (hk : 0 < k) (hkn : k ≤ n) (hn : n ≤ 65536) : Calls Tryd.prog 9 #[.pointer (some ⟨r.a, 0, none⟩), .int .i64 k] w1 fun e w' => e = .returned (.tuple #[.int .i64 x, .int .i64 y]) ∧ Hid (∃ m' r', m'.a = m.a ∧ r'.a = r.a ∧ BI B w0 w' m' r' n ∧ Only (· = r.b) w1 w') := by
  refine (rrun_in k r w1 h.ra (by rw [h.rn]; exact hn) hk (by rw [h.rn]; exact hkn)).mono fun e w2 ⟨r', ⟨s', hs', hor'⟩, hra, hw⟩ => ?_
  obtain ⟨s, hs, hor⟩ := h.out
  have heq : uat r.U = Go.Proofs.YtndefmchaohikaaDoor.used m.ws := funext fun i => (h.same i).symm
  rw [heq, h.rn] at hs'
  rw [h.mn0] at hs hor
  obtain rfl : s = s' := least_one hs hs'
  have hmb : ¬ m'.b = r.b := by
    intro e
    obtain ⟨cs, h1, _⟩ := h.mi.map.row
    have h4 := h.ra.row
    rw [← e, h1] at h4
    simp at h4
  have hma : ¬ m'.a = r.b := by
    intro e
    have h1 := h.mi.map.st
    have h4 := h.ra.row
    rw [← e, h1] at h4
    simp at h4
  have hmi : MI B w0 w2 m' := h.mi.only hw hma hmb (fun i hi => by have := h.hrb; omega)
  rw [h.rn] at hor'
  obtain ⟨hsn, he, hm'⟩ | ⟨hsn, he, hm'⟩ := hor
  · obtain ⟨_, he', hr'⟩ | ⟨hc, _⟩ := hor'
    · refine ⟨he'.trans he.symm, m', r', h.ma, by rw [hr'], ⟨hmi, hra, by rw [hr']; exact h.hra, by rw [hr']; exact h.hrb, h.mn, by rw [hr']; exact h.rn, fun i => by rw [hm', hr']; exact h.same i⟩, hw⟩
    · omega
  · obtain ⟨hc, _⟩ | ⟨_, he', hr'⟩ := hor'
    · omega
    · refine ⟨he'.trans he.symm, m', r', h.ma, by rw [hr'], ⟨hmi, hra, by rw [hr']; exact h.hra, by rw [hr']; exact h.hrb, h.mn, by rw [hr']; show (fillT r.U s (s + k)).length = n; rw [fillT_length]; exact h.rn, fun i => ?_⟩, hw⟩
      have hR := hs.yes hsn
      rw [hm', hr']
      show Go.Proofs.YtndefmchaohikaaDoor.used (turnsFrom m.ws s k) i = uat (fillT r.U s (s + k)) i
      rw [turns_used k (fun i hi => h.fit.div (by have := hR.1; omega))]
      by_cases hi : i < n
      · rw [fillT_at _ _ _ _ (by rw [h.rn]; exact hi)]
        by_cases hin : s ≤ i ∧ i < s + k
        · rw [if_pos hin, if_pos hin]
          have := hR.2 (i - s) (by omega)
          rw [show s + (i - s) = i by omega] at this
          rw [this]
          rfl
        · rw [if_neg hin, if_neg hin]
          exact h.same i
      · rw [if_neg (by have := hR.1; omega), uat_out (by rw [fillT_length, h.rn]; omega), h.same i, uat_out (by rw [h.rn]; omega)]
end

theorem Only.drewN' {S : Nat → Prop} {w w' : World} (k : Nat) (h : Only S (w.drewN k) w') : Only S w w' := ⟨h.os, h.tape, h.output, h.size, h.block⟩
theorem oc_keep {S : Nat → Prop} {w w' : World} {a k : Nat} {v : Value} (h : w.cell? ⟨a, k, none⟩ = some v) (ho : Only S w w') (hn : ¬ S a) : w'.cell? ⟨a, k, none⟩ = some v :=
  (World.cell?_of_block (w := w) (ho.block a (cell_lt h) hn)).trans h
theorem take_none {B : Nat} {w0 w : World} {m : MS} {r : RS} {n : Nat} (h : BI B w0 w m r n) (hn : n = 0) : Calls Tryd.prog 8 #[.pointer (some ⟨m.a, 0, none⟩)] w fun e w' => e = .returned (.tuple #[.int .i64 0, .int .i64 28]) ∧ Hid (BI B w0 w' m r n ∧ Only (· = m.b) w w') :=
  (take_mi h.mi).mono fun e w' ⟨m', ⟨s, hs, hor⟩, hm, hw, _, _, _⟩ => by
    rw [h.mn] at hor
    obtain ⟨_, he, rfl⟩ | ⟨hc, _⟩ := hor
    · exact ⟨he, ⟨hm, h.ra.keep hw h.apart.1 h.apart.2.1, h.hra, h.hrb, h.mn, h.rn, h.same⟩, hw⟩
    · omega

section
variable {B : Nat} {w0 w w2 : World} {m : MS} {r : RS} {n : Nat}
theorem set_same (h : BI B w0 w m r n) (i : Nat) (hi : i < n) (hu : uat r.U i = true) : Calls Tryd.prog 12 #[.pointer (some ⟨m.a, 0, none⟩), .int .i64 i] w fun e w' => e = .returned (.int .i64 16) ∧ Hid (BI B w0 w' m r n ∧ Only (· = m.b) w w') :=
  (set_mi h.mi i (by rw [h.mn]; exact hi)).mono fun e w' ⟨m', hor, hm, hw, _, _, _⟩ => by
    obtain ⟨_, he, rfl⟩ | ⟨hc, _⟩ := hor
    · exact ⟨he, ⟨hm, h.ra.keep hw h.apart.1 h.apart.2.1, h.hra, h.hrb, h.mn, h.rn, h.same⟩, hw⟩
    · rw [h.same, hu] at hc; cases hc
theorem give_same (h : BI B w0 w m r n) (i : Nat) (hi : i < n) (hu : uat r.U i = false) : Calls Tryd.prog 11 #[.pointer (some ⟨m.a, 0, none⟩), .int .i64 i] w fun e w' => e = .returned (.int .i64 2) ∧ Hid (BI B w0 w' m r n ∧ Only (· = m.b) w w') :=
  (give_mi h.mi i (by rw [h.mn]; exact hi)).mono fun e w' ⟨m', hor, hm, hw, _, _, _⟩ => by
    obtain ⟨_, he, rfl⟩ | ⟨hc, _⟩ := hor
    · exact ⟨he, ⟨hm, h.ra.keep hw h.apart.1 h.apart.2.1, h.hra, h.hrb, h.mn, h.rn, h.same⟩, hw⟩
    · rw [h.same, hu] at hc; cases hc
/-- The document's map has done its part, the program's map not yet. -/
structure Mid (B : Nat) (w0 w2 : World) (m : MS) (r : RS) (n i : Nat) (b : Bool) : Prop where
  mi : MI B w0 w2 m
  ra : RAt w2 (r.put i b)
  hra : B ≤ r.a
  hrb : B ≤ r.b
  mn : m.n = n
  rn : r.U.length = n
  same : ∀ i, Go.Proofs.YtndefmchaohikaaDoor.used m.ws i = uat r.U i
theorem mid_of (h : BI B w0 w m r n) (i : Nat) (b : Bool) : Mid B w0 (w.setCell ⟨r.b, i, none⟩ (.bool b)).drew m r n i b := by
  have ho : Only (· = r.b) w (w.setCell ⟨r.b, i, none⟩ (.bool b)) := Only.setCell _ _ _ rfl
  have hm := h.mi.only ho h.apart.2.2.1 h.apart.2.2.2 (fun i hi => by have := h.hrb; omega)
  have hr := h.ra.put i b
  exact ⟨hm.still ⟨1, rfl⟩, hr.drewN 1, h.hra, h.hrb, h.mn, h.rn, h.same⟩
theorem Mid.turn {i : Nat} {b : Bool} (h : Mid B w0 w2 m r n i b) {w' : World} (hi : i < n) (hu : uat r.U i = !b) (hm : MI B w0 w' (m.turn i)) (hw : Only (· = m.b) w2 w') : BI B w0 w' (m.turn i) (r.put i b) n := by
  have hap : (r.put i b).a ≠ m.b ∧ (r.put i b).b ≠ m.b := by
    obtain ⟨cs, h1, _⟩ := h.mi.map.row
    have h3 := h.ra.st
    have h4 := h.ra.row
    refine ⟨?_, ?_⟩
    · intro e; rw [e, h1] at h3; simp at h3
    · intro e; rw [e, h1] at h4; simp at h4
  refine ⟨hm, h.ra.keep hw hap.1 hap.2, h.hra, h.hrb, h.mn, by show (r.U.set i b).length = n; rw [List.length_set]; exact h.rn, fun j => ?_⟩
  show Go.Proofs.YtndefmchaohikaaDoor.used (turned m.ws i) j = uat (r.U.set i b) j
  rw [turned_used (h.mi.map.fit.div (by rw [h.mn]; exact hi)), uat_set _ _ _ (by rw [h.rn]; exact hi), h.same, h.same]
  by_cases hj : j = i
  · rw [if_pos hj, if_pos hj, hu]; simp
  · rw [if_neg hj, if_neg hj]
theorem set_turn {i : Nat} (h : Mid B w0 w2 m r n i true) (hi : i < n) (hu : uat r.U i = false) : Calls Tryd.prog 12 #[.pointer (some ⟨m.a, 0, none⟩), .int .i64 i] w2 fun e w' => e = .returned (.int .i64 0) ∧ Hid (BI B w0 w' (m.turn i) (r.put i true) n ∧ Only (· = m.b) w2 w') :=
  (set_mi h.mi i (by rw [h.mn]; exact hi)).mono fun e w' ⟨m', hor, hm, hw, _, _, _⟩ => by
    obtain ⟨hc, _⟩ | ⟨_, he, rfl⟩ := hor
    · rw [h.same, hu] at hc; cases hc
    · exact ⟨he, h.turn hi hu hm hw, hw⟩
theorem give_turn {i : Nat} (h : Mid B w0 w2 m r n i false) (hi : i < n) (hu : uat r.U i = true) : Calls Tryd.prog 11 #[.pointer (some ⟨m.a, 0, none⟩), .int .i64 i] w2 fun e w' => e = .returned (.int .i64 0) ∧ Hid (BI B w0 w' (m.turn i) (r.put i false) n ∧ Only (· = m.b) w2 w') :=
  (give_mi h.mi i (by rw [h.mn]; exact hi)).mono fun e w' ⟨m', hor, hm, hw, _, _, _⟩ => by
    obtain ⟨hc, _⟩ | ⟨_, he, rfl⟩ := hor
    · rw [h.same, hu] at hc; cases hc
    · exact ⟨he, h.turn hi hu hm hw, hw⟩

/- There and back. -/
theorem load_bi (h : BI B w0 w m r n) (p : Option Addr) (bs : List (BitVec 8)) (c : Nat) (hb : Bytes w p bs) (hof : BytesOf m.n (Go.Proofs.YtndefmchaohikaaDoor.used m.ws) bs) :
    Calls Tryd.prog 13 #[.slice p bs.length c, .int .i64 n] w fun e w' => ∃ x, e = .returned (.tuple #[.pointer (some ⟨x, 0, none⟩), .int .i64 0]) ∧ Hid (∃ m', m'.a = x ∧ BI B w0 w' m' r n ∧ Below w.heap.size w w' ∧ w.heap.size ≤ m'.a ∧ w.heap.size ≤ m'.b) := by
  have := load_back h.mi p bs c hb hof
  rw [h.mn] at this
  refine this.mono ?_
  rintro e w' ⟨m', rfl, hM, hB, hn, hu, ha, hb'⟩
  exact ⟨_, rfl, m', rfl, ⟨hM, h.ra.below hB, h.hra, h.hrb, hn, h.rn, fun i => by rw [hu]; exact h.same i⟩, hB, ha, hb'⟩
end

/-- A thing of the operations of the region that follows. -/
theorem get_ops {P : Program} {ops : Array Oper} {b : Bool} {C : Code} {Q : Exit → Act → World → Prop} {K1 : Act → World → Prop} {id : Nat} (_ : ∀ a w, Code.wp P ((Code.region id ops b).seq C) Q a w → K1 a w)
    (F : Array Oper → Prop) (hF : F ops) (G : Prop) (hG : F ops → G) : G := hG hF

end Go.Proofs.YtndefmchaohikaaDoor
