/-
  put of the law's package: an item is written by both.
-/
import Derived.Test.YthimmgbccpdkmaaCodw
namespace Go.Proofs.Ythimmgbccpdkmaa
open Go.RowKit

/-- An item in memory: where its bytes and its vector lie. -/
structure ItmAt where
  x : Itm
  p : Option Addr
  cp : Nat
  q : Option Addr
  cq : Nat
def ItmAt.cells (i : ItmAt) : Array Value := #[.int .i64 i.x.kind, .int .i64 i.x.n, .slice i.p i.x.bs.length i.cp, .int .i64 i.x.t, .int .i64 i.x.nd, .slice i.q i.x.vs.length i.cq]

structure Fits (w : World) (i : ItmAt) : Prop where
  bytes : Bytes w i.p i.x.bs
  vec : Lies w i.q (i.x.vs.map iv)
  cp : i.x.bs.length ≤ i.cp
  cq : i.x.vs.length ≤ i.cq
theorem Fits.below {w w' : World} {i : ItmAt} (h : Fits w i) (hb : Below w.heap.size w w') : Fits w' i := ⟨below_bytes hb h.bytes, below_lies hb h.vec, h.cp, h.cq⟩

/-- What put leaves behind. -/
def PutDone (w : World) (a : Nat) (o s : St) (e : Ending) (w' : World) : Prop :=
  ∃ v, e = .returned (.tuple #[v, .bool o.isSome]) ∧ Wr w' a (app o s) ∧ Step w w' a ∧ w'.ownsRow w.heap.size 5 1 v (o.getD []).length ((o.getD []).map u8v)

theorem put_end {w w1 w2 w3 : World} {a : Nat} {s S : St} {bs : List (BitVec 8)} {v : Value} (h : Wr w a s) (hB : Below w.heap.size w w1) (h2 : Wr w2 a S) (s2 : Step w1 w2 a) (cl : Cloned w2 bs v w3) :
    Wr w3 a S ∧ Step w w3 a ∧ w3.ownsRow w.heap.size 5 1 v bs.length (bs.map u8v) := by
  obtain ⟨k1, k2⟩ := h2.keep_below cl.2
  exact ⟨k1, ((h.keep_below hB).2.trans s2).trans k2, own_base cl.1 (Nat.le_trans hB.size s2.only.size)⟩

/-- A block that was made since is none of the writer's. -/
theorem Step.new_block {w w1 w2 : World} {a : Nat} {s : St} (h : Wr w a s) (hB : Below w.heap.size w w1) (s2 : Step w1 w2 a) {b : Nat} {o : Obj} (hb : w1.heap[b]? = some o) (hge : w.heap.size ≤ b) : w2.heap[b]? = some o := by
  have hn : ¬ wset w1 a b := fun hs => by
    obtain ⟨v, hv⟩ := h
    have hv1 := hv.keep (Below.only hB (fun _ => False)) (fun _ _ h => h)
    have := (Wr.lo ⟨v, hv⟩ (hv.sets hv1 _ hs)).2
    omega
  exact (s2.only.block b (block_lt hb) hn).trans hb
theorem Wr.stays_out {w w1 : World} {a : Nat} {s : St} (h : Wr w a s) (hB : Below w.heap.size w w1) {b : Nat} (hb : ¬ wset w a b) : ¬ wset w1 a b := fun hs => by
  obtain ⟨v, hv⟩ := h
  have hv1 := hv.keep (Below.only hB (fun _ => False)) (fun _ _ h => h)
  exact hb (hv.sets hv1 _ hs)

theorem enc0 (x : Itm) (h : x.kind = 0) : enc x = eNum x.n := by unfold enc; rw [if_pos h]
theorem enc1 (x : Itm) (h : x.kind = 1) : enc x = eBytes x.bs := by unfold enc; rw [if_neg (by omega), if_pos h]
theorem enc2 (x : Itm) (h : x.kind = 2) : enc x = eBytes x.bs := by unfold enc; rw [if_neg (by omega), if_neg (by omega), if_pos h]
theorem enc3 (x : Itm) (h : x.kind = 3) : enc x = some (numB (if oddB x.n then 1 else 0)) := by unfold enc; rw [if_neg (by omega), if_neg (by omega), if_neg (by omega), if_pos h]
theorem enc4 (x : Itm) (h : x.kind = 4) : enc x = eID x.t x.nd := by unfold enc; rw [if_neg (by omega), if_neg (by omega), if_neg (by omega), if_neg (by omega), if_pos h]
theorem enc5 (x : Itm) (h0 : x.kind ≠ 0) (h1 : x.kind ≠ 1) (h2 : x.kind ≠ 2) (h3 : x.kind ≠ 3) (h4 : x.kind ≠ 4) : enc x = eVec x.vs := by unfold enc; rw [if_neg h0, if_neg h1, if_neg h2, if_neg h3, if_neg h4]

set_option maxRecDepth 8000 in
set_option maxHeartbeats 1000000 in
theorem put_num (a : Nat) (i : ItmAt) (s : St) (w : World) (h : Wr w a s) (hl : Few 100 s) (hf : Fits w i) (h300 : i.x.bs.length ≤ 300) (h100 : i.x.vs.length ≤ 100) (hnp : ∀ b o, 0 < i.x.bs.length → i.p = some ⟨b, o, none⟩ → ¬ wset w a b) (hnq : ∀ b o, 0 < i.x.vs.length → i.q = some ⟨b, o, none⟩ → ¬ wset w a b) (hk : i.x.kind = 0) :
    Calls Try.prog 9 #[.pointer (some ⟨a, 0, none⟩), .agg i.cells] w (PutDone w a (enc i.x) s) := by
  obtain ⟨⟨kind, n, bs, t, nd, vs⟩, p, cp, q, cq⟩ := i
  unfold ItmAt.cells
  simp only at *
  subst hk
  obtain ⟨w1, hw1⟩ : ∃ w1, w1 = w.alloc (.cells #[.int .i64 0, .int .i64 n, .slice p bs.length cp, .int .i64 t, .int .i64 nd, .slice q vs.length cq] 33) := ⟨_, rfl⟩
  have hB1 : Below w.heap.size w w1 := by rw [hw1]; exact (below_new _ _).out
  have hb1 : w1.heap[w.heap.size]? = some (.cells #[.int .i64 0, .int .i64 n, .slice p bs.length cp, .int .i64 t, .int .i64 nd, .slice q vs.length cq] 33 (0, 0)) := by rw [hw1]; exact heap_alloc_new w _
  have hW1 := (h.keep_below hB1).1
  have HF : Hid (Fits w1 ⟨⟨0, n, bs, t, nd, vs⟩, p, cp, q, cq⟩) := hf.below hB1
  have HW : Hid (Wr w a s) := h
  have HB1 : Hid (Below w.heap.size w w1) := hB1
  have HBL : Hid (w1.heap[w.heap.size]? = some (.cells #[.int .i64 0, .int .i64 n, .slice p bs.length cp, .int .i64 t, .int .i64 nd, .slice q vs.length cq] 33 (0, 0))) := hb1
  have c15 := num_any n a s w1 hW1 (hl.less (by omega))
  rw [w_num] at c15
  have HEQ : Hid (enc ⟨0, n, bs, t, nd, vs⟩ = eNum n) := enc0 _ rfl
  generalize enc ⟨0, n, bs, t, nd, vs⟩ = E at HEQ ⊢
  clear h hl hf hnp hnq hB1 hb1 hW1
  go_enter Try.func9, Try.ntmps9
  go_wp2_with (fail)
  rw [← hw1]
  refine c15.mono ?_
  rintro e w2 ⟨rfl, h2, s2⟩
  have hb2 := Step.new_block HW.out HB1.out s2 HBL.out (Nat.le_refl _)
  have d1 : w2.cell? ⟨w.heap.size, 1, none⟩ = some (.int .i64 n) := cellOf hb2 1
  have d2 : w2.cell? ⟨w.heap.size, 2, none⟩ = some (.slice p bs.length cp) := cellOf hb2 2
  have d3 : w2.cell? ⟨w.heap.size, 3, none⟩ = some (.int .i64 t) := cellOf hb2 3
  have d4 : w2.cell? ⟨w.heap.size, 4, none⟩ = some (.int .i64 nd) := cellOf hb2 4
  have d5 : w2.cell? ⟨w.heap.size, 5, none⟩ = some (.slice q vs.length cq) := cellOf hb2 5
  have c24 := enum_any n w2
  have H2 : Hid (Wr w2 a (app (eNum n) s)) := h2
  have S2 : Hid (Step w1 w2 a) := s2
  clear c15 h2 s2 hb2 hw1
  go_wp2_with fail
  refine c24.mono ?_
  rintro e w3 ⟨v, rfl, hcl⟩
  have HE : Hid _ := put_end HW.out HB1.out H2.out S2.out hcl
  clear c24 hcl d1 d2 d3 d4 d5
  go_wp2
  go_ret2
  rw [HEQ.out]
  exact ⟨v, rfl, HE.out.1, HE.out.2.1, HE.out.2.2⟩

set_option maxRecDepth 8000 in
set_option maxHeartbeats 1000000 in
theorem put_bytes (a : Nat) (i : ItmAt) (s : St) (w : World) (h : Wr w a s) (hl : Few 100 s) (hf : Fits w i) (h300 : i.x.bs.length ≤ 300) (h100 : i.x.vs.length ≤ 100) (hnp : ∀ b o, 0 < i.x.bs.length → i.p = some ⟨b, o, none⟩ → ¬ wset w a b) (hnq : ∀ b o, 0 < i.x.vs.length → i.q = some ⟨b, o, none⟩ → ¬ wset w a b) (hk : i.x.kind = 1) :
    Calls Try.prog 9 #[.pointer (some ⟨a, 0, none⟩), .agg i.cells] w (PutDone w a (enc i.x) s) := by
  obtain ⟨⟨kind, n, bs, t, nd, vs⟩, p, cp, q, cq⟩ := i
  unfold ItmAt.cells
  simp only at *
  subst hk
  obtain ⟨w1, hw1⟩ : ∃ w1, w1 = w.alloc (.cells #[.int .i64 1, .int .i64 n, .slice p bs.length cp, .int .i64 t, .int .i64 nd, .slice q vs.length cq] 33) := ⟨_, rfl⟩
  have hB1 : Below w.heap.size w w1 := by rw [hw1]; exact (below_new _ _).out
  have hb1 : w1.heap[w.heap.size]? = some (.cells #[.int .i64 1, .int .i64 n, .slice p bs.length cp, .int .i64 t, .int .i64 nd, .slice q vs.length cq] 33 (0, 0)) := by rw [hw1]; exact heap_alloc_new w _
  have hW1 := (h.keep_below hB1).1
  have HF : Hid (Fits w1 ⟨⟨1, n, bs, t, nd, vs⟩, p, cp, q, cq⟩) := hf.below hB1
  have HW : Hid (Wr w a s) := h
  have HB1 : Hid (Below w.heap.size w w1) := hB1
  have HBL : Hid (w1.heap[w.heap.size]? = some (.cells #[.int .i64 1, .int .i64 n, .slice p bs.length cp, .int .i64 t, .int .i64 nd, .slice q vs.length cq] 33 (0, 0))) := hb1
  have c17 := bytes_any p bs cp a s w1 hW1 (hl.less (by omega)) HF.out.bytes (fun b o hl e => h.stays_out hB1 (hnp b o hl e))
  rw [w_bytes] at c17
  have HEQ : Hid (enc ⟨1, n, bs, t, nd, vs⟩ = eBytes bs) := enc1 _ rfl
  generalize enc ⟨1, n, bs, t, nd, vs⟩ = E at HEQ ⊢
  have HNP : Hid (∀ b o, 0 < bs.length → p = some ⟨b, o, none⟩ → ¬ wset w1 a b) := fun b o hl e => h.stays_out hB1 (hnp b o hl e)
  clear h hl hf hnp hnq hB1 hb1 hW1
  go_enter Try.func9, Try.ntmps9
  go_wp2_with (fail)
  rw [← hw1]
  refine c17.mono ?_
  rintro e w2 ⟨rfl, h2, s2⟩
  have hb2 := Step.new_block HW.out HB1.out s2 HBL.out (Nat.le_refl _)
  have d1 : w2.cell? ⟨w.heap.size, 1, none⟩ = some (.int .i64 n) := cellOf hb2 1
  have d2 : w2.cell? ⟨w.heap.size, 2, none⟩ = some (.slice p bs.length cp) := cellOf hb2 2
  have d3 : w2.cell? ⟨w.heap.size, 3, none⟩ = some (.int .i64 t) := cellOf hb2 3
  have d4 : w2.cell? ⟨w.heap.size, 4, none⟩ = some (.int .i64 nd) := cellOf hb2 4
  have d5 : w2.cell? ⟨w.heap.size, 5, none⟩ = some (.slice q vs.length cq) := cellOf hb2 5
  have c25 := ebytes_any p bs cp w2 (s2.only.bytes HF.out.bytes HNP.out)
  have H2 : Hid (Wr w2 a (app (eBytes bs) s)) := h2
  have S2 : Hid (Step w1 w2 a) := s2
  clear c17 h2 s2 hb2 hw1
  go_wp2_with fail
  refine c25.mono ?_
  rintro e w3 ⟨v, rfl, hcl⟩
  have HE : Hid _ := put_end HW.out HB1.out H2.out S2.out hcl
  clear c25 hcl d1 d2 d3 d4 d5
  go_wp2
  go_ret2
  rw [HEQ.out]
  exact ⟨v, rfl, HE.out.1, HE.out.2.1, HE.out.2.2⟩

set_option maxRecDepth 8000 in
set_option maxHeartbeats 1000000 in
theorem put_text (a : Nat) (i : ItmAt) (s : St) (w : World) (h : Wr w a s) (hl : Few 100 s) (hf : Fits w i) (h300 : i.x.bs.length ≤ 300) (h100 : i.x.vs.length ≤ 100) (hnp : ∀ b o, 0 < i.x.bs.length → i.p = some ⟨b, o, none⟩ → ¬ wset w a b) (hnq : ∀ b o, 0 < i.x.vs.length → i.q = some ⟨b, o, none⟩ → ¬ wset w a b) (hk : i.x.kind = 2) :
    Calls Try.prog 9 #[.pointer (some ⟨a, 0, none⟩), .agg i.cells] w (PutDone w a (enc i.x) s) := by
  obtain ⟨⟨kind, n, bs, t, nd, vs⟩, p, cp, q, cq⟩ := i
  unfold ItmAt.cells
  simp only at *
  subst hk
  obtain ⟨w1, hw1⟩ : ∃ w1, w1 = w.alloc (.cells #[.int .i64 2, .int .i64 n, .slice p bs.length cp, .int .i64 t, .int .i64 nd, .slice q vs.length cq] 33) := ⟨_, rfl⟩
  have hB1 : Below w.heap.size w w1 := by rw [hw1]; exact (below_new _ _).out
  have hb1 : w1.heap[w.heap.size]? = some (.cells #[.int .i64 2, .int .i64 n, .slice p bs.length cp, .int .i64 t, .int .i64 nd, .slice q vs.length cq] 33 (0, 0)) := by rw [hw1]; exact heap_alloc_new w _
  have hW1 := (h.keep_below hB1).1
  have HF : Hid (Fits w1 ⟨⟨2, n, bs, t, nd, vs⟩, p, cp, q, cq⟩) := hf.below hB1
  have HW : Hid (Wr w a s) := h
  have HB1 : Hid (Below w.heap.size w w1) := hB1
  have HBL : Hid (w1.heap[w.heap.size]? = some (.cells #[.int .i64 2, .int .i64 n, .slice p bs.length cp, .int .i64 t, .int .i64 nd, .slice q vs.length cq] 33 (0, 0))) := hb1
  have c20 := text_any bs a s w1 hW1 (hl.less (by omega))
  rw [w_bytes] at c20
  have hstr := run_str w1 p bs cp HF.out.bytes
  generalize strOf bs = T at c20 hstr
  have HEQ : Hid (enc ⟨2, n, bs, t, nd, vs⟩ = eBytes bs) := enc2 _ rfl
  generalize enc ⟨2, n, bs, t, nd, vs⟩ = E at HEQ ⊢
  have HNP : Hid (∀ b o, 0 < bs.length → p = some ⟨b, o, none⟩ → ¬ wset w1 a b) := fun b o hl e => h.stays_out hB1 (hnp b o hl e)
  rw [hw1] at hstr
  clear h hl hf hnp hnq hB1 hb1 hW1
  go_enter Try.func9, Try.ntmps9
  go_wp2_with (fail)
  rw [← hw1]
  refine c20.mono ?_
  rintro e w2 ⟨rfl, h2, s2⟩
  have hb2 := Step.new_block HW.out HB1.out s2 HBL.out (Nat.le_refl _)
  have d1 : w2.cell? ⟨w.heap.size, 1, none⟩ = some (.int .i64 n) := cellOf hb2 1
  have d2 : w2.cell? ⟨w.heap.size, 2, none⟩ = some (.slice p bs.length cp) := cellOf hb2 2
  have d3 : w2.cell? ⟨w.heap.size, 3, none⟩ = some (.int .i64 t) := cellOf hb2 3
  have d4 : w2.cell? ⟨w.heap.size, 4, none⟩ = some (.int .i64 nd) := cellOf hb2 4
  have d5 : w2.cell? ⟨w.heap.size, 5, none⟩ = some (.slice q vs.length cq) := cellOf hb2 5
  have c25 := ebytes_any p bs cp w2 (s2.only.bytes HF.out.bytes HNP.out)
  have H2 : Hid (Wr w2 a (app (eBytes bs) s)) := h2
  have S2 : Hid (Step w1 w2 a) := s2
  clear c20 h2 s2 hb2 hw1
  go_wp2_with fail
  refine c25.mono ?_
  rintro e w3 ⟨v, rfl, hcl⟩
  have HE : Hid _ := put_end HW.out HB1.out H2.out S2.out hcl
  clear c25 hcl d1 d2 d3 d4 d5
  go_wp2
  go_ret2
  rw [HEQ.out]
  exact ⟨v, rfl, HE.out.1, HE.out.2.1, HE.out.2.2⟩

set_option maxRecDepth 8000 in
set_option maxHeartbeats 1000000 in
theorem put_truth (a : Nat) (i : ItmAt) (s : St) (w : World) (h : Wr w a s) (hl : Few 100 s) (hf : Fits w i) (h300 : i.x.bs.length ≤ 300) (h100 : i.x.vs.length ≤ 100) (hnp : ∀ b o, 0 < i.x.bs.length → i.p = some ⟨b, o, none⟩ → ¬ wset w a b) (hnq : ∀ b o, 0 < i.x.vs.length → i.q = some ⟨b, o, none⟩ → ¬ wset w a b) (hk : i.x.kind = 3) :
    Calls Try.prog 9 #[.pointer (some ⟨a, 0, none⟩), .agg i.cells] w (PutDone w a (enc i.x) s) := by
  obtain ⟨⟨kind, n, bs, t, nd, vs⟩, p, cp, q, cq⟩ := i
  unfold ItmAt.cells
  simp only at *
  subst hk
  obtain ⟨w1, hw1⟩ : ∃ w1, w1 = w.alloc (.cells #[.int .i64 3, .int .i64 n, .slice p bs.length cp, .int .i64 t, .int .i64 nd, .slice q vs.length cq] 33) := ⟨_, rfl⟩
  have hB1 : Below w.heap.size w w1 := by rw [hw1]; exact (below_new _ _).out
  have hb1 : w1.heap[w.heap.size]? = some (.cells #[.int .i64 3, .int .i64 n, .slice p bs.length cp, .int .i64 t, .int .i64 nd, .slice q vs.length cq] 33 (0, 0)) := by rw [hw1]; exact heap_alloc_new w _
  have hW1 := (h.keep_below hB1).1
  have HF : Hid (Fits w1 ⟨⟨3, n, bs, t, nd, vs⟩, p, cp, q, cq⟩) := hf.below hB1
  have HW : Hid (Wr w a s) := h
  have HB1 : Hid (Below w.heap.size w w1) := hB1
  have HBL : Hid (w1.heap[w.heap.size]? = some (.cells #[.int .i64 3, .int .i64 n, .slice p bs.length cp, .int .i64 t, .int .i64 nd, .slice q vs.length cq] 33 (0, 0))) := hb1
  have c26 := truth_any (oddB n) a s w1 hW1 (hl.less (by omega))
  rw [w_truth] at c26
  have hodd : (Int.tmod n 2 == 1) = oddB n := rfl
  have HEQ : Hid (enc ⟨3, n, bs, t, nd, vs⟩ = some (numB (if oddB n then 1 else 0))) := enc3 _ rfl
  generalize enc ⟨3, n, bs, t, nd, vs⟩ = E at HEQ ⊢
  generalize oddB n = od at c26 HEQ hodd
  clear h hl hf hnp hnq hB1 hb1 hW1
  go_enter Try.func9, Try.ntmps9
  go_wp2_with (fail)
  rw [← hw1]
  refine c26.mono ?_
  rintro e w2 ⟨rfl, h2, s2⟩
  have hb2 := Step.new_block HW.out HB1.out s2 HBL.out (Nat.le_refl _)
  have d1 : w2.cell? ⟨w.heap.size, 1, none⟩ = some (.int .i64 n) := cellOf hb2 1
  have d2 : w2.cell? ⟨w.heap.size, 2, none⟩ = some (.slice p bs.length cp) := cellOf hb2 2
  have d3 : w2.cell? ⟨w.heap.size, 3, none⟩ = some (.int .i64 t) := cellOf hb2 3
  have d4 : w2.cell? ⟨w.heap.size, 4, none⟩ = some (.int .i64 nd) := cellOf hb2 4
  have d5 : w2.cell? ⟨w.heap.size, 5, none⟩ = some (.slice q vs.length cq) := cellOf hb2 5
  have c27 := etruth_any od w2
  have H2 : Hid (Wr w2 a (app (some (numB (if od then 1 else 0))) s)) := h2
  have S2 : Hid (Step w1 w2 a) := s2
  clear c26 h2 s2 hb2 hw1
  go_wp2_with fail
  refine c27.mono ?_
  rintro e w3 ⟨v, rfl, hcl⟩
  have HE : Hid _ := put_end HW.out HB1.out H2.out S2.out hcl
  clear c27 hcl d1 d2 d3 d4 d5
  go_wp2
  go_ret2
  rw [HEQ.out]
  exact ⟨v, rfl, HE.out.1, HE.out.2.1, HE.out.2.2⟩

set_option maxRecDepth 8000 in
set_option maxHeartbeats 1000000 in
theorem put_id (a : Nat) (i : ItmAt) (s : St) (w : World) (h : Wr w a s) (hl : Few 100 s) (hf : Fits w i) (h300 : i.x.bs.length ≤ 300) (h100 : i.x.vs.length ≤ 100) (hnp : ∀ b o, 0 < i.x.bs.length → i.p = some ⟨b, o, none⟩ → ¬ wset w a b) (hnq : ∀ b o, 0 < i.x.vs.length → i.q = some ⟨b, o, none⟩ → ¬ wset w a b) (hk : i.x.kind = 4) :
    Calls Try.prog 9 #[.pointer (some ⟨a, 0, none⟩), .agg i.cells] w (PutDone w a (enc i.x) s) := by
  obtain ⟨⟨kind, n, bs, t, nd, vs⟩, p, cp, q, cq⟩ := i
  unfold ItmAt.cells
  simp only at *
  subst hk
  obtain ⟨w1, hw1⟩ : ∃ w1, w1 = w.alloc (.cells #[.int .i64 4, .int .i64 n, .slice p bs.length cp, .int .i64 t, .int .i64 nd, .slice q vs.length cq] 33) := ⟨_, rfl⟩
  have hB1 : Below w.heap.size w w1 := by rw [hw1]; exact (below_new _ _).out
  have hb1 : w1.heap[w.heap.size]? = some (.cells #[.int .i64 4, .int .i64 n, .slice p bs.length cp, .int .i64 t, .int .i64 nd, .slice q vs.length cq] 33 (0, 0)) := by rw [hw1]; exact heap_alloc_new w _
  have hW1 := (h.keep_below hB1).1
  have HF : Hid (Fits w1 ⟨⟨4, n, bs, t, nd, vs⟩, p, cp, q, cq⟩) := hf.below hB1
  have HW : Hid (Wr w a s) := h
  have HB1 : Hid (Below w.heap.size w w1) := hB1
  have HBL : Hid (w1.heap[w.heap.size]? = some (.cells #[.int .i64 4, .int .i64 n, .slice p bs.length cp, .int .i64 t, .int .i64 nd, .slice q vs.length cq] 33 (0, 0))) := hb1
  have c28 := wid_any t nd a s w1 hW1 (hl.less (by omega))
  rw [w_id] at c28
  have HEQ : Hid (enc ⟨4, n, bs, t, nd, vs⟩ = eID t nd) := enc4 _ rfl
  generalize enc ⟨4, n, bs, t, nd, vs⟩ = E at HEQ ⊢
  clear h hl hf hnp hnq hB1 hb1 hW1
  go_enter Try.func9, Try.ntmps9
  go_wp2_with (fail)
  rw [← hw1]
  refine c28.mono ?_
  rintro e w2 ⟨rfl, h2, s2⟩
  have hb2 := Step.new_block HW.out HB1.out s2 HBL.out (Nat.le_refl _)
  have d1 : w2.cell? ⟨w.heap.size, 1, none⟩ = some (.int .i64 n) := cellOf hb2 1
  have d2 : w2.cell? ⟨w.heap.size, 2, none⟩ = some (.slice p bs.length cp) := cellOf hb2 2
  have d3 : w2.cell? ⟨w.heap.size, 3, none⟩ = some (.int .i64 t) := cellOf hb2 3
  have d4 : w2.cell? ⟨w.heap.size, 4, none⟩ = some (.int .i64 nd) := cellOf hb2 4
  have d5 : w2.cell? ⟨w.heap.size, 5, none⟩ = some (.slice q vs.length cq) := cellOf hb2 5
  have c29 := eid_any t nd w2
  have H2 : Hid (Wr w2 a (app (eID t nd) s)) := h2
  have S2 : Hid (Step w1 w2 a) := s2
  clear c28 h2 s2 hb2 hw1
  go_wp2_with fail
  refine c29.mono ?_
  rintro e w3 ⟨v, rfl, hcl⟩
  have HE : Hid _ := put_end HW.out HB1.out H2.out S2.out hcl
  clear c29 hcl d1 d2 d3 d4 d5
  go_wp2
  go_ret2
  rw [HEQ.out]
  exact ⟨v, rfl, HE.out.1, HE.out.2.1, HE.out.2.2⟩

set_option maxRecDepth 8000 in
set_option maxHeartbeats 1000000 in
theorem put_vec (a : Nat) (i : ItmAt) (s : St) (w : World) (h : Wr w a s) (hl : Few 100 s) (hf : Fits w i) (h300 : i.x.bs.length ≤ 300) (h100 : i.x.vs.length ≤ 100) (hnp : ∀ b o, 0 < i.x.bs.length → i.p = some ⟨b, o, none⟩ → ¬ wset w a b) (hnq : ∀ b o, 0 < i.x.vs.length → i.q = some ⟨b, o, none⟩ → ¬ wset w a b) (h0 : i.x.kind ≠ 0) (h1 : i.x.kind ≠ 1) (h2 : i.x.kind ≠ 2) (h3 : i.x.kind ≠ 3) (h4 : i.x.kind ≠ 4) :
    Calls Try.prog 9 #[.pointer (some ⟨a, 0, none⟩), .agg i.cells] w (PutDone w a (enc i.x) s) := by
  obtain ⟨⟨kind, n, bs, t, nd, vs⟩, p, cp, q, cq⟩ := i
  unfold ItmAt.cells
  simp only at *
  obtain ⟨w1, hw1⟩ : ∃ w1, w1 = w.alloc (.cells #[.int .i64 kind, .int .i64 n, .slice p bs.length cp, .int .i64 t, .int .i64 nd, .slice q vs.length cq] 33) := ⟨_, rfl⟩
  have hB1 : Below w.heap.size w w1 := by rw [hw1]; exact (below_new _ _).out
  have hb1 : w1.heap[w.heap.size]? = some (.cells #[.int .i64 kind, .int .i64 n, .slice p bs.length cp, .int .i64 t, .int .i64 nd, .slice q vs.length cq] 33 (0, 0)) := by rw [hw1]; exact heap_alloc_new w _
  have hW1 := (h.keep_below hB1).1
  have HF : Hid (Fits w1 ⟨⟨kind, n, bs, t, nd, vs⟩, p, cp, q, cq⟩) := hf.below hB1
  have HW : Hid (Wr w a s) := h
  have HB1 : Hid (Below w.heap.size w w1) := hB1
  have HBL : Hid (w1.heap[w.heap.size]? = some (.cells #[.int .i64 kind, .int .i64 n, .slice p bs.length cp, .int .i64 t, .int .i64 nd, .slice q vs.length cq] 33 (0, 0))) := hb1
  have c21 := vector_write q vs cq a s w1 hW1 (hl.less (by omega)) HF.out.cq (by omega) HF.out.vec (fun b o hl e => h.stays_out hB1 (hnq b o hl e))
  rw [w_vec] at c21
  have HEQ : Hid (enc ⟨kind, n, bs, t, nd, vs⟩ = eVec vs) := enc5 _ h0 h1 h2 h3 h4
  generalize enc ⟨kind, n, bs, t, nd, vs⟩ = E at HEQ ⊢
  have HNQ : Hid (∀ b o, 0 < vs.length → q = some ⟨b, o, none⟩ → ¬ wset w1 a b) := fun b o hl e => h.stays_out hB1 (hnq b o hl e)
  have g0 : (kind == 0) = false := by simpa using h0
  have g1 : (kind == 1) = false := by simpa using h1
  have g2 : (kind == 2) = false := by simpa using h2
  have g3 : (kind == 3) = false := by simpa using h3
  have g4 : (kind == 4) = false := by simpa using h4
  clear h0 h1 h2 h3 h4
  clear h hl hf hnp hnq hB1 hb1 hW1
  go_enter Try.func9, Try.ntmps9
  go_wp2_with (fail)
  rw [← hw1]
  refine c21.mono ?_
  rintro e w2 ⟨rfl, h2, s2⟩
  have hb2 := Step.new_block HW.out HB1.out s2 HBL.out (Nat.le_refl _)
  have d1 : w2.cell? ⟨w.heap.size, 1, none⟩ = some (.int .i64 n) := cellOf hb2 1
  have d2 : w2.cell? ⟨w.heap.size, 2, none⟩ = some (.slice p bs.length cp) := cellOf hb2 2
  have d3 : w2.cell? ⟨w.heap.size, 3, none⟩ = some (.int .i64 t) := cellOf hb2 3
  have d4 : w2.cell? ⟨w.heap.size, 4, none⟩ = some (.int .i64 nd) := cellOf hb2 4
  have d5 : w2.cell? ⟨w.heap.size, 5, none⟩ = some (.slice q vs.length cq) := cellOf hb2 5
  have c30 := evec_any q vs cq w2 (by omega) (s2.only.lies HF.out.vec (fun b o hl e => HNQ.out b o (by simpa using hl) e))
  have H2 : Hid (Wr w2 a (app (eVec vs) s)) := h2
  have S2 : Hid (Step w1 w2 a) := s2
  clear c21 h2 s2 hb2 hw1
  go_wp2_with fail
  refine c30.mono ?_
  rintro e w3 ⟨v, rfl, hcl⟩
  have HE : Hid _ := put_end HW.out HB1.out H2.out S2.out hcl
  clear c30 hcl d1 d2 d3 d4 d5
  go_wp2
  go_ret2
  rw [HEQ.out]
  exact ⟨v, rfl, HE.out.1, HE.out.2.1, HE.out.2.2⟩

theorem put_any (a : Nat) (i : ItmAt) (s : St) (w : World) (h : Wr w a s) (hl : Few 100 s) (hf : Fits w i) (h300 : i.x.bs.length ≤ 300) (h100 : i.x.vs.length ≤ 100) (hnp : ∀ b o, 0 < i.x.bs.length → i.p = some ⟨b, o, none⟩ → ¬ wset w a b) (hnq : ∀ b o, 0 < i.x.vs.length → i.q = some ⟨b, o, none⟩ → ¬ wset w a b) :
    Calls Try.prog 9 #[.pointer (some ⟨a, 0, none⟩), .agg i.cells] w (PutDone w a (enc i.x) s) := by
  by_cases h0 : i.x.kind = 0
  · exact put_num a i s w h hl hf h300 h100 hnp hnq h0
  by_cases h1 : i.x.kind = 1
  · exact put_bytes a i s w h hl hf h300 h100 hnp hnq h1
  by_cases h2 : i.x.kind = 2
  · exact put_text a i s w h hl hf h300 h100 hnp hnq h2
  by_cases h3 : i.x.kind = 3
  · exact put_truth a i s w h hl hf h300 h100 hnp hnq h3
  by_cases h4 : i.x.kind = 4
  · exact put_id a i s w h hl hf h300 h100 hnp hnq h4
  exact put_vec a i s w h hl hf h300 h100 hnp hnq h0 h1 h2 h3 h4

end Go.Proofs.Ythimmgbccpdkmaa
