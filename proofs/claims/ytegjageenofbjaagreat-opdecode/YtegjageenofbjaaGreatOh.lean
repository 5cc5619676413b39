/-
  An operation is read: ops.Decode.
-/
import Derived.Test.YtegjageenofbjaaGreatOg
namespace Go.Proofs.YtegjageenofbjaaGreat.Cd
open Go.RowKit Go.Maps

attribute [local go_sem] Oper.semAt_some

/-- An operation. -/
structure Opn where
  t : Int
  n : Int
  sq : Int
  kd : Int
  ot : Int
  on : Int
  pt : Int
  pn : Int
  nm : List UInt8
  data : List (BitVec 8)
  ns : List Int
def Opn.may (o : Opn) : Bool := mayO o.t o.n o.sq o.kd o.ot o.on o.pt o.pn o.nm o.data.length o.ns
def Opn.bytes (o : Opn) : List (BitVec 8) := bytesO o.t o.n o.sq o.kd o.ot o.on o.pt o.pn o.nm o.data o.ns
def Opn.zero : Opn := ⟨0, 0, 0, 0, 0, 0, 0, 0, [], [], []⟩
def Opn.cells (o : Opn) (p : Option Addr) (c : Nat) (q : Option Addr) (d : Nat) : Array Value :=
  #[.int .i64 o.t, .int .i64 o.n, .int .i64 o.sq, .int .i64 o.kd, .int .i64 o.ot, .int .i64 o.on, .int .i64 o.pt, .int .i64 o.pn, .string (bas o.nm), .slice p o.data.length c, .slice q o.ns.length d]
/-- A value that is an operation. -/
structure OpAt (w : World) (o : Opn) (v : Value) : Prop where
  at_ : ∃ p c q d, v = .agg (o.cells p c q d) ∧ Bytes w p o.data ∧ Lies w q (o.ns.map iv) ∧ o.ns.length ≤ d
theorem OpAt.below {w w' : World} {o : Opn} {v : Value} (h : OpAt w o v) (hb : Below w.heap.size w w') : OpAt w' o v := by
  obtain ⟨p, c, q, d, h1, h2, h3, h4⟩ := h.at_
  exact ⟨p, c, q, d, h1, below_bytes hb h2, below_lies hb h3, h4⟩
theorem OpAt.zero (w : World) : OpAt w .zero (.agg #[.int .i64 0, .int .i64 0, .int .i64 0, .int .i64 0, .int .i64 0, .int .i64 0, .int .i64 0, .int .i64 0, .string ⟨#[]⟩, .slice none 0 0, .slice none 0 0]) :=
  ⟨none, 0, none, 0, rfl, bytes_nil _ _, lies_nil _ _, Nat.le_refl _⟩

/-- What is read, word by word. -/
def readO (bs : List (BitVec 8)) : Opn × St :=
  let a1 := rnum 4611686018427387904 (some bs)
  let a2 := rid a1.2
  let a3 := rnum 4611686018427387904 a2.2
  let a4 := rid a3.2
  let a5 := rid a4.2
  let a6 := rbytes a5.2
  let a7 := rbytes a6.2
  let a8 := rvec a7.2
  (⟨a2.1.1, a2.1.2, a3.1, a1.1, a4.1.1, a4.1.2, a5.1.1, a5.1.2, u8s a6.1, a7.1, zs a8.1⟩, a8.2)
/-- Whether it is an operation; which. -/
def goodO (bs : List (BitVec 8)) : Bool := decide ((readO bs).2 = some []) && (readO bs).1.may
def decO (bs : List (BitVec 8)) : Opn := if goodO bs then (readO bs).1 else .zero

/-- An operation is being read. -/
structure DW (ty : TypeId) (w W : World) (a g0 g1 : Nat) (s : St) (cs : Array Value) : Prop where
  rd : Rd ty W a s
  op : W.heap[g1]? = some (.cells cs 28 (0, 0))
  z : W.heap[g0]? = some (.cells #[.int .i64 0, .int .i64 0, .int .i64 0, .int .i64 0, .int .i64 0, .int .i64 0, .int .i64 0, .int .i64 0, .string ⟨#[]⟩, .slice none 0 0, .slice none 0 0] 28 (0, 0))
  bel : Below w.heap.size w W
  na : a ≠ g0 ∧ a ≠ g1 ∧ g0 ≠ g1
  lo : w.heap.size ≤ a ∧ w.heap.size ≤ g0 ∧ w.heap.size ≤ g1
theorem DW.call {ty : TypeId} {w W W' : World} {a g0 g1 : Nat} {s s' : St} {cs : Array Value} (h : DW ty w W a g0 g1 s cs) (hr : Rd ty W' a s') (ho : Only (· = a) W W') : DW ty w W' a g0 g1 s' cs :=
  ⟨hr, (ho.block g1 (block_lt h.op) (fun e => h.na.2.1 e.symm)).trans h.op, (ho.block g0 (block_lt h.z) (fun e => h.na.1 e.symm)).trans h.z,
    h.bel.trans (ho.below h.bel.size (fun i e => by have := h.lo; have : i = a := e; omega)), h.na, h.lo⟩
theorem DW.set {ty : TypeId} {w W : World} {a g0 g1 : Nat} {s : St} {cs : Array Value} (h : DW ty w W a g0 g1 s cs) (k : Nat) (v : Value) : DW ty w (W.setCell ⟨g1, k, none⟩ v) a g0 g1 s (cs.setIfInBounds k v) := by
  have ho : Only (· = g1) W (W.setCell ⟨g1, k, none⟩ v) := Only.setCell W ⟨g1, k, none⟩ v rfl
  refine ⟨h.rd.tagged ho h.na.2.1 (fun b cs' f hb e => ?_), heap_set_same h.op v, (ho.block g0 (block_lt h.z) h.na.2.2).trans h.z, h.bel.setCell h.lo.2.2 _, h.na, h.lo⟩
  have e' : b = g1 := e
  rw [e', h.op] at hb
  cases hb
theorem DW.keep {ty : TypeId} {w W W' : World} {a g0 g1 : Nat} {s : St} {cs : Array Value} (h : DW ty w W a g0 g1 s cs) (hb : Below W.heap.size W W') : DW ty w W' a g0 g1 s cs :=
  ⟨h.rd.below hb, (hb.block g1 (block_lt h.op)).trans h.op, (hb.block g0 (block_lt h.z)).trans h.z, h.bel.trans (hb.mono h.bel.size), h.na, h.lo⟩
theorem bytes_keep {W W' : World} {x : Nat} {p : Option Addr} {bs : List (BitVec 8)} (h : Bytes W p bs) (ho : Only (· = x) W W') (hn : ∀ b o, 0 < bs.length → p = some ⟨b, o, none⟩ → b ≠ x) : Bytes W' p bs := ho.bytes h hn
theorem lies_keep {W W' : World} {x : Nat} {p : Option Addr} {bs : List Value} (h : Lies W p bs) (ho : Only (· = x) W W') (hn : ∀ b o, 0 < bs.length → p = some ⟨b, o, none⟩ → b ≠ x) : Lies W' p bs := ho.lies h hn
/-- Small: all that is read of a reader of at most so many bytes. -/
theorem small_le {s s' : St} (h : Small s) (hl : (s'.getD []).length ≤ (s.getD []).length) : Small s' := Nat.le_trans hl h

theorem chain11 (W : World) (g : Nat) (x0 x1 x2 x3 x4 x5 x6 x7 x8 x9 x10 : Value) : Only (· = g) W (((((((((((W.setCell ⟨g, 0, none⟩ x0).setCell ⟨g, 1, none⟩ x1).setCell ⟨g, 2, none⟩ x2).setCell ⟨g, 3, none⟩ x3).setCell ⟨g, 4, none⟩ x4).setCell ⟨g, 5, none⟩ x5).setCell ⟨g, 6, none⟩ x6).setCell ⟨g, 7, none⟩ x7).setCell ⟨g, 8, none⟩ x8).setCell ⟨g, 9, none⟩ x9).setCell ⟨g, 10, none⟩ x10) :=
  (Only.next (Only.next (Only.next (Only.next (Only.next (Only.next (Only.next (Only.next (Only.next (Only.next (Only.setCell (S := (· = g)) W ⟨g, 0, none⟩ x0 rfl) (Only.setCell (S := (· = g)) _ ⟨g, 1, none⟩ x1 rfl)) (Only.setCell (S := (· = g)) _ ⟨g, 2, none⟩ x2 rfl)) (Only.setCell (S := (· = g)) _ ⟨g, 3, none⟩ x3 rfl)) (Only.setCell (S := (· = g)) _ ⟨g, 4, none⟩ x4 rfl)) (Only.setCell (S := (· = g)) _ ⟨g, 5, none⟩ x5 rfl)) (Only.setCell (S := (· = g)) _ ⟨g, 6, none⟩ x6 rfl)) (Only.setCell (S := (· = g)) _ ⟨g, 7, none⟩ x7 rfl)) (Only.setCell (S := (· = g)) _ ⟨g, 8, none⟩ x8 rfl)) (Only.setCell (S := (· = g)) _ ⟨g, 9, none⟩ x9 rfl)) (Only.setCell (S := (· = g)) _ ⟨g, 10, none⟩ x10 rfl))

set_option maxRecDepth 8000 in
set_option maxHeartbeats 4000000 in
theorem decode_any (p : Option Addr) (bs : List (BitVec 8)) (c : Nat) (w : World) (hl : bs.length ≤ 1000000000) (hb : Bytes w p bs) :
    Calls Tryz.prog 14 #[.slice p bs.length c] w fun e w' => ∃ v, e = .returned (.tuple #[v, .int .i64 (if goodO bs then 0 else 74)]) ∧ OpAt w' (decO bs) v ∧ Below w.heap.size w w' := by
  obtain ⟨er, her⟩ : ∃ er : Int, (if goodO bs then (0 : Int) else 74) = er := ⟨_, rfl⟩
  rw [her]
  have HER : Hid ((if goodO bs then (0 : Int) else 74) = er) := her
  clear her
  obtain ⟨a1, h1⟩ : ∃ x, rnum 4611686018427387904 (some bs) = x := ⟨_, rfl⟩
  obtain ⟨a2, h2⟩ : ∃ x, rid a1.2 = x := ⟨_, rfl⟩
  obtain ⟨a3, h3⟩ : ∃ x, rnum 4611686018427387904 a2.2 = x := ⟨_, rfl⟩
  obtain ⟨a4, h4⟩ : ∃ x, rid a3.2 = x := ⟨_, rfl⟩
  obtain ⟨a5, h5⟩ : ∃ x, rid a4.2 = x := ⟨_, rfl⟩
  obtain ⟨a6, h6⟩ : ∃ x, rbytes a5.2 = x := ⟨_, rfl⟩
  obtain ⟨a7, h7⟩ : ∃ x, rbytes a6.2 = x := ⟨_, rfl⟩
  obtain ⟨a8, h8⟩ : ∃ x, rvec a7.2 = x := ⟨_, rfl⟩
  have s0 : Small (some bs) := hl
  have s1 : Small a1.2 := small_le s0 (by rw [← h1]; exact rnum_len _ _)
  have s2 : Small a2.2 := small_le s1 (by rw [← h2]; exact rid_len _)
  have s3 : Small a3.2 := small_le s2 (by rw [← h3]; exact rnum_len _ _)
  have s4 : Small a4.2 := small_le s3 (by rw [← h4]; exact rid_len _)
  have s5 : Small a5.2 := small_le s4 (by rw [← h5]; exact rid_len _)
  have s6 : Small a6.2 := small_le s5 (by rw [← h6]; exact rbytes_len _)
  have s7 : Small a7.2 := small_le s6 (by rw [← h7]; exact rbytes_len _)
  have s8 : Small a8.2 := small_le s7 (by rw [← h8]; exact rvec_len _)
  have hR : readO bs = (⟨a2.1.1, a2.1.2, a3.1, a1.1, a4.1.1, a4.1.2, a5.1.1, a5.1.2, u8s a6.1, a7.1, zs a8.1⟩, a8.2) := by
    unfold readO
    simp only [h1, h2, h3, h4, h5, h6, h7, h8]
  have hnl : (u8s a6.1).length ≤ 65536 := by rw [u8s_length, ← h6]; exact rbytes_le _
  have hdl : a7.1.length ≤ 65536 := by rw [← h7]; exact rbytes_le _
  have hvl : a8.1.length ≤ 64 := by rw [← h8]; exact (rvec_good _).2.1
  have HNL : Hid ((u8s a6.1).length ≤ 65536 ∧ a7.1.length ≤ 65536 ∧ a8.1.length ≤ 64) := ⟨hnl, hdl, hvl⟩
  obtain ⟨o, ho⟩ : ∃ o : Opn, o = ⟨a2.1.1, a2.1.2, a3.1, a1.1, a4.1.1, a4.1.2, a5.1.1, a5.1.2, u8s a6.1, a7.1, zs a8.1⟩ := ⟨_, rfl⟩
  rw [← ho] at hR
  have HOE : Hid (o = ⟨a2.1.1, a2.1.2, a3.1, a1.1, a4.1.1, a4.1.2, a5.1.1, a5.1.2, u8s a6.1, a7.1, zs a8.1⟩) := ho
  have HRR : Hid (readO bs = (o, a8.2)) := hR
  have HB : Hid (Bytes w p bs) := hb
  have HS : Hid (Small (some bs) ∧ Small a1.2 ∧ Small a2.2 ∧ Small a3.2 ∧ Small a4.2 ∧ Small a5.2 ∧ Small a6.2 ∧ Small a7.2 ∧ Small a8.2) := ⟨s0, s1, s2, s3, s4, s5, s6, s7, s8⟩
  have HH : Hid (rnum 4611686018427387904 (some bs) = a1 ∧ rid a1.2 = a2 ∧ rnum 4611686018427387904 a2.2 = a3 ∧ rid a3.2 = a4 ∧ rid a4.2 = a5 ∧ rbytes a5.2 = a6 ∧ rbytes a6.2 = a7 ∧ rvec a7.2 = a8) := ⟨h1, h2, h3, h4, h5, h6, h7, h8⟩
  have HZ0 : Hid (bas [] = ⟨#[]⟩) := rfl
  clear h1 h2 h3 h4 h5 h6 h7 h8 s1 s2 s3 s4 s5 s6 s7 s8 hR ho hnl hdl hvl
  have k0 := fun W (h : Below w.heap.size w W) => newReader_any p bs c W hl (below_bytes h hb)
  have HK0 : Hid (∀ W, Below w.heap.size w W → Calls Tryz.prog 47 #[.slice p bs.length c] W fun e w' => ∃ a, e = .returned (.pointer (some ⟨a, 0, none⟩)) ∧ W.heap.size ≤ a ∧ Rd 92 w' a (some bs) ∧ Below W.heap.size W w') := k0
  clear k0 hb hl s0
  generalize bs.length = bl at *
  have HB0 : Hid (∀ x y, Below w.heap.size w ((w.alloc x).alloc y)) := fun x y => ((Below.refl _ _).alloc (Nat.le_refl _) _).alloc (by simp) _
  have HZ1 : Hid (((w.alloc (.cells #[.int .i64 0, .int .i64 0, .int .i64 0, .int .i64 0, .int .i64 0, .int .i64 0, .int .i64 0, .int .i64 0, .string ⟨#[]⟩, .slice none 0 0, .slice none 0 0] 28)).alloc (.cells #[.int .i64 0, .int .i64 0, .int .i64 0, .int .i64 0, .int .i64 0, .int .i64 0, .int .i64 0, .int .i64 0, .string ⟨#[]⟩, .slice none 0 0, .slice none 0 0] 28)).heap[w.heap.size]? = some (.cells #[.int .i64 0, .int .i64 0, .int .i64 0, .int .i64 0, .int .i64 0, .int .i64 0, .int .i64 0, .int .i64 0, .string ⟨#[]⟩, .slice none 0 0, .slice none 0 0] 28 (0, 0))) := by
    show _ = _
    rw [Below.heap_alloc _ _ _ (by simp)]; exact heap_alloc_new w _
  have HZ2 : Hid (((w.alloc (.cells #[.int .i64 0, .int .i64 0, .int .i64 0, .int .i64 0, .int .i64 0, .int .i64 0, .int .i64 0, .int .i64 0, .string ⟨#[]⟩, .slice none 0 0, .slice none 0 0] 28)).alloc (.cells #[.int .i64 0, .int .i64 0, .int .i64 0, .int .i64 0, .int .i64 0, .int .i64 0, .int .i64 0, .int .i64 0, .string ⟨#[]⟩, .slice none 0 0, .slice none 0 0] 28)).heap[w.heap.size + 1]? = some (.cells #[.int .i64 0, .int .i64 0, .int .i64 0, .int .i64 0, .int .i64 0, .int .i64 0, .int .i64 0, .int .i64 0, .string ⟨#[]⟩, .slice none 0 0, .slice none 0 0] 28 (0, 0))) := by
    have := heap_alloc_new (w.alloc (.cells #[.int .i64 0, .int .i64 0, .int .i64 0, .int .i64 0, .int .i64 0, .int .i64 0, .int .i64 0, .int .i64 0, .string ⟨#[]⟩, .slice none 0 0, .slice none 0 0] 28)) (.cells #[.int .i64 0, .int .i64 0, .int .i64 0, .int .i64 0, .int .i64 0, .int .i64 0, .int .i64 0, .int .i64 0, .string ⟨#[]⟩, .slice none 0 0, .slice none 0 0] 28)
    rwa [show (w.alloc (.cells #[.int .i64 0, .int .i64 0, .int .i64 0, .int .i64 0, .int .i64 0, .int .i64 0, .int .i64 0, .int .i64 0, .string ⟨#[]⟩, .slice none 0 0, .slice none 0 0] 28)).heap.size = w.heap.size + 1 by simp] at this
  go_enter Tryz.func14, Tryz.ntmps14
  go_wp2_with fail
  refine (HK0.out _ (HB0.out _ _)).mono ?_
  rintro e w1 ⟨a, rfl, hla, hrd, hbe⟩
  have E0 : Hid (DW 92 w w1 a w.heap.size (w.heap.size + 1) (some bs) #[.int .i64 0, .int .i64 0, .int .i64 0, .int .i64 0, .int .i64 0, .int .i64 0, .int .i64 0, .int .i64 0, .string ⟨#[]⟩, .slice none 0 0, .slice none 0 0]) := by
    have hsz : ((w.alloc (.cells #[.int .i64 0, .int .i64 0, .int .i64 0, .int .i64 0, .int .i64 0, .int .i64 0, .int .i64 0, .int .i64 0, .string ⟨#[]⟩, .slice none 0 0, .slice none 0 0] 28)).alloc (.cells #[.int .i64 0, .int .i64 0, .int .i64 0, .int .i64 0, .int .i64 0, .int .i64 0, .int .i64 0, .int .i64 0, .string ⟨#[]⟩, .slice none 0 0, .slice none 0 0] 28)).heap.size = w.heap.size + 2 := by simp
    refine ⟨hrd, (hbe.block _ (by rw [hsz]; omega)).trans HZ2.out, (hbe.block _ (by rw [hsz]; omega)).trans HZ1.out, (HB0.out _ _).trans (hbe.mono (HB0.out _ _).size), ?_, ?_⟩
    · rw [hsz] at hla; omega
    · rw [hsz] at hla; omega
  clear hla hrd hbe HK0 HZ1 HZ2
  obtain ⟨g0, hg0⟩ : ∃ g0, w.heap.size = g0 := ⟨_, rfl⟩
  have HW : Hid (w.heap.size = g0) := hg0
  rw [hg0] at E0
  simp only [hg0]
  clear hg0
  have k := rnum_any a (some bs) _ E0.out.rd HS.out.1
  rw [HH.out.1] at k
  go_wp2_with fail
  refine (show Calls Tryz.prog 48 _ _ _ from k).mono ?_
  rintro e v1 ⟨rfl, x1, x2⟩
  have F : Hid (DW 92 w v1 a g0 (g0 + 1) a1.2 #[.int .i64 0, .int .i64 0, .int .i64 0, .int .i64 0, .int .i64 0, .int .i64 0, .int .i64 0, .int .i64 0, .string ⟨#[]⟩, .slice none 0 0, .slice none 0 0]) := E0.out.call x1 x2
  have q3 : v1.cell? ⟨g0 + 1, 3, none⟩ = some (.int .i64 0) := cellOf F.out.op 3
  have r3 : v1.frozen? ⟨g0 + 1, 3, none⟩ = false := frozenOf F.out.op 3
  have E1 : Hid (DW 92 w (v1.setCell ⟨g0 + 1, 3, none⟩ (.int .i64 a1.1)) a g0 (g0 + 1) a1.2 #[.int .i64 0, .int .i64 0, .int .i64 0, .int .i64 a1.1, .int .i64 0, .int .i64 0, .int .i64 0, .int .i64 0, .string ⟨#[]⟩, .slice none 0 0, .slice none 0 0]) := (F.out.set 3 (.int .i64 a1.1))
  clear x1 x2 k F
  have k := id_read a a1.2 _ E1.out.rd HS.out.2.1
  rw [HH.out.2.1] at k
  go_wp2_with fail
  refine (show Calls Tryz.prog 49 _ _ _ from k).mono ?_
  rintro e v2 ⟨rfl, x1, x2⟩
  have F : Hid (DW 92 w v2 a g0 (g0 + 1) a2.2 #[.int .i64 0, .int .i64 0, .int .i64 0, .int .i64 a1.1, .int .i64 0, .int .i64 0, .int .i64 0, .int .i64 0, .string ⟨#[]⟩, .slice none 0 0, .slice none 0 0]) := E1.out.call x1 x2
  have q0 : v2.cell? ⟨g0 + 1, 0, none⟩ = some (.int .i64 0) := cellOf F.out.op 0
  have r0 : v2.frozen? ⟨g0 + 1, 0, none⟩ = false := frozenOf F.out.op 0
  have q1 : v2.cell? ⟨g0 + 1, 1, none⟩ = some (.int .i64 0) := cellOf F.out.op 1
  have r1 : v2.frozen? ⟨g0 + 1, 1, none⟩ = false := frozenOf F.out.op 1
  have E2 : Hid (DW 92 w ((v2.setCell ⟨g0 + 1, 0, none⟩ (.int .i64 a2.1.1)).setCell ⟨g0 + 1, 1, none⟩ (.int .i64 a2.1.2)) a g0 (g0 + 1) a2.2 #[.int .i64 a2.1.1, .int .i64 a2.1.2, .int .i64 0, .int .i64 a1.1, .int .i64 0, .int .i64 0, .int .i64 0, .int .i64 0, .string ⟨#[]⟩, .slice none 0 0, .slice none 0 0]) := ((F.out.set 0 (.int .i64 a2.1.1)).set 1 (.int .i64 a2.1.2))
  clear x1 x2 k F
  have k := rnum_any a a2.2 _ E2.out.rd HS.out.2.2.1
  rw [HH.out.2.2.1] at k
  go_wp2_with fail
  refine (show Calls Tryz.prog 48 _ _ _ from k).mono ?_
  rintro e v3 ⟨rfl, x1, x2⟩
  have F : Hid (DW 92 w v3 a g0 (g0 + 1) a3.2 #[.int .i64 a2.1.1, .int .i64 a2.1.2, .int .i64 0, .int .i64 a1.1, .int .i64 0, .int .i64 0, .int .i64 0, .int .i64 0, .string ⟨#[]⟩, .slice none 0 0, .slice none 0 0]) := E2.out.call x1 x2
  have q2 : v3.cell? ⟨g0 + 1, 2, none⟩ = some (.int .i64 0) := cellOf F.out.op 2
  have r2 : v3.frozen? ⟨g0 + 1, 2, none⟩ = false := frozenOf F.out.op 2
  have E3 : Hid (DW 92 w (v3.setCell ⟨g0 + 1, 2, none⟩ (.int .i64 a3.1)) a g0 (g0 + 1) a3.2 #[.int .i64 a2.1.1, .int .i64 a2.1.2, .int .i64 a3.1, .int .i64 a1.1, .int .i64 0, .int .i64 0, .int .i64 0, .int .i64 0, .string ⟨#[]⟩, .slice none 0 0, .slice none 0 0]) := (F.out.set 2 (.int .i64 a3.1))
  clear x1 x2 k F
  have k := id_read a a3.2 _ E3.out.rd HS.out.2.2.2.1
  rw [HH.out.2.2.2.1] at k
  go_wp2_with fail
  refine (show Calls Tryz.prog 49 _ _ _ from k).mono ?_
  rintro e v4 ⟨rfl, x1, x2⟩
  have F : Hid (DW 92 w v4 a g0 (g0 + 1) a4.2 #[.int .i64 a2.1.1, .int .i64 a2.1.2, .int .i64 a3.1, .int .i64 a1.1, .int .i64 0, .int .i64 0, .int .i64 0, .int .i64 0, .string ⟨#[]⟩, .slice none 0 0, .slice none 0 0]) := E3.out.call x1 x2
  have q4 : v4.cell? ⟨g0 + 1, 4, none⟩ = some (.int .i64 0) := cellOf F.out.op 4
  have r4 : v4.frozen? ⟨g0 + 1, 4, none⟩ = false := frozenOf F.out.op 4
  have q5 : v4.cell? ⟨g0 + 1, 5, none⟩ = some (.int .i64 0) := cellOf F.out.op 5
  have r5 : v4.frozen? ⟨g0 + 1, 5, none⟩ = false := frozenOf F.out.op 5
  have E4 : Hid (DW 92 w ((v4.setCell ⟨g0 + 1, 4, none⟩ (.int .i64 a4.1.1)).setCell ⟨g0 + 1, 5, none⟩ (.int .i64 a4.1.2)) a g0 (g0 + 1) a4.2 #[.int .i64 a2.1.1, .int .i64 a2.1.2, .int .i64 a3.1, .int .i64 a1.1, .int .i64 a4.1.1, .int .i64 a4.1.2, .int .i64 0, .int .i64 0, .string ⟨#[]⟩, .slice none 0 0, .slice none 0 0]) := ((F.out.set 4 (.int .i64 a4.1.1)).set 5 (.int .i64 a4.1.2))
  clear x1 x2 k F
  have k := id_read a a4.2 _ E4.out.rd HS.out.2.2.2.2.1
  rw [HH.out.2.2.2.2.1] at k
  go_wp2_with fail
  refine (show Calls Tryz.prog 49 _ _ _ from k).mono ?_
  rintro e v5 ⟨rfl, x1, x2⟩
  have F : Hid (DW 92 w v5 a g0 (g0 + 1) a5.2 #[.int .i64 a2.1.1, .int .i64 a2.1.2, .int .i64 a3.1, .int .i64 a1.1, .int .i64 a4.1.1, .int .i64 a4.1.2, .int .i64 0, .int .i64 0, .string ⟨#[]⟩, .slice none 0 0, .slice none 0 0]) := E4.out.call x1 x2
  have q6 : v5.cell? ⟨g0 + 1, 6, none⟩ = some (.int .i64 0) := cellOf F.out.op 6
  have r6 : v5.frozen? ⟨g0 + 1, 6, none⟩ = false := frozenOf F.out.op 6
  have q7 : v5.cell? ⟨g0 + 1, 7, none⟩ = some (.int .i64 0) := cellOf F.out.op 7
  have r7 : v5.frozen? ⟨g0 + 1, 7, none⟩ = false := frozenOf F.out.op 7
  have E5 : Hid (DW 92 w ((v5.setCell ⟨g0 + 1, 6, none⟩ (.int .i64 a5.1.1)).setCell ⟨g0 + 1, 7, none⟩ (.int .i64 a5.1.2)) a g0 (g0 + 1) a5.2 #[.int .i64 a2.1.1, .int .i64 a2.1.2, .int .i64 a3.1, .int .i64 a1.1, .int .i64 a4.1.1, .int .i64 a4.1.2, .int .i64 a5.1.1, .int .i64 a5.1.2, .string ⟨#[]⟩, .slice none 0 0, .slice none 0 0]) := ((F.out.set 6 (.int .i64 a5.1.1)).set 7 (.int .i64 a5.1.2))
  clear x1 x2 k F
  have k := text_read a a5.2 _ E5.out.rd HS.out.2.2.2.2.2.1
  rw [HH.out.2.2.2.2.2.1] at k
  rw [strOf_u8s] at k
  go_wp2_with fail
  refine (show Calls Tryz.prog 50 _ _ _ from k).mono ?_
  rintro e v6 ⟨rfl, x1, x2⟩
  have F : Hid (DW 92 w v6 a g0 (g0 + 1) a6.2 #[.int .i64 a2.1.1, .int .i64 a2.1.2, .int .i64 a3.1, .int .i64 a1.1, .int .i64 a4.1.1, .int .i64 a4.1.2, .int .i64 a5.1.1, .int .i64 a5.1.2, .string ⟨#[]⟩, .slice none 0 0, .slice none 0 0]) := E5.out.call x1 x2
  have q8 : v6.cell? ⟨g0 + 1, 8, none⟩ = some (.string ⟨#[]⟩) := cellOf F.out.op 8
  have r8 : v6.frozen? ⟨g0 + 1, 8, none⟩ = false := frozenOf F.out.op 8
  have E6 : Hid (DW 92 w (v6.setCell ⟨g0 + 1, 8, none⟩ (.string (bas (u8s a6.1)))) a g0 (g0 + 1) a6.2 #[.int .i64 a2.1.1, .int .i64 a2.1.2, .int .i64 a3.1, .int .i64 a1.1, .int .i64 a4.1.1, .int .i64 a4.1.2, .int .i64 a5.1.1, .int .i64 a5.1.2, .string (bas (u8s a6.1)), .slice none 0 0, .slice none 0 0]) := (F.out.set 8 (.string (bas (u8s a6.1))))
  clear x1 x2 k F
  have k := bytes_read a a6.2 _ E6.out.rd HS.out.2.2.2.2.2.2.1
  rw [HH.out.2.2.2.2.2.2.1] at k
  go_wp2_with fail
  refine (show Calls Tryz.prog 51 _ _ _ from k).mono ?_
  rintro e v7 ⟨p7, c7, ⟨rfl, x1, x2⟩, y1, y2⟩
  have F : Hid (DW 92 w v7 a g0 (g0 + 1) a7.2 #[.int .i64 a2.1.1, .int .i64 a2.1.2, .int .i64 a3.1, .int .i64 a1.1, .int .i64 a4.1.1, .int .i64 a4.1.2, .int .i64 a5.1.1, .int .i64 a5.1.2, .string (bas (u8s a6.1)), .slice none 0 0, .slice none 0 0]) := E6.out.call x1 x2
  have q9 : v7.cell? ⟨g0 + 1, 9, none⟩ = some (.slice none 0 0) := cellOf F.out.op 9
  have r9 : v7.frozen? ⟨g0 + 1, 9, none⟩ = false := frozenOf F.out.op 9
  have E7 : Hid (DW 92 w (v7.setCell ⟨g0 + 1, 9, none⟩ (.slice p7 a7.1.length c7)) a g0 (g0 + 1) a7.2 #[.int .i64 a2.1.1, .int .i64 a2.1.2, .int .i64 a3.1, .int .i64 a1.1, .int .i64 a4.1.1, .int .i64 a4.1.2, .int .i64 a5.1.1, .int .i64 a5.1.2, .string (bas (u8s a6.1)), .slice p7 a7.1.length c7, .slice none 0 0]) := (F.out.set 9 (.slice p7 a7.1.length c7))
  have HP7 : Hid (Bytes (v7.setCell ⟨g0 + 1, 9, none⟩ (.slice p7 a7.1.length c7)) p7 a7.1 ∧ ∀ b o, 0 < a7.1.length → p7 = some ⟨b, o, none⟩ → a < b ∧ g0 + 1 < b) := by
    have hlt : a < (v6.setCell ⟨g0 + 1, 8, none⟩ (.string (bas (u8s a6.1)))).heap.size ∧ g0 + 1 < (v6.setCell ⟨g0 + 1, 8, none⟩ (.string (bas (u8s a6.1)))).heap.size := ⟨E6.out.rd.lt, block_lt E6.out.op⟩
    have hh : ∀ b o, 0 < a7.1.length → p7 = some ⟨b, o, none⟩ → a < b ∧ g0 + 1 < b := fun b o h0 e => by have := y2 b o h0 e; omega
    exact ⟨bytes_keep y1 (show Only (· = g0 + 1) _ _ from Only.setCell v7 ⟨g0 + 1, 9, none⟩ _ rfl) (fun b o h0 e => by have := hh b o h0 e; omega), hh⟩
  clear x1 x2 k F y1 y2
  have k := vector_read a a7.2 _ E7.out.rd HS.out.2.2.2.2.2.2.2.1
  rw [HH.out.2.2.2.2.2.2.2] at k
  go_wp2_with fail
  refine (show Calls Tryz.prog 52 _ _ _ from k).mono ?_
  rintro e v8 ⟨p8, c8, ⟨rfl, x1, x2⟩, y0, y1, y2⟩
  have F : Hid (DW 92 w v8 a g0 (g0 + 1) a8.2 #[.int .i64 a2.1.1, .int .i64 a2.1.2, .int .i64 a3.1, .int .i64 a1.1, .int .i64 a4.1.1, .int .i64 a4.1.2, .int .i64 a5.1.1, .int .i64 a5.1.2, .string (bas (u8s a6.1)), .slice p7 a7.1.length c7, .slice none 0 0]) := E7.out.call x1 x2
  have q10 : v8.cell? ⟨g0 + 1, 10, none⟩ = some (.slice none 0 0) := cellOf F.out.op 10
  have r10 : v8.frozen? ⟨g0 + 1, 10, none⟩ = false := frozenOf F.out.op 10
  have E8 : Hid (DW 92 w (v8.setCell ⟨g0 + 1, 10, none⟩ (.slice p8 a8.1.length c8)) a g0 (g0 + 1) a8.2 #[.int .i64 a2.1.1, .int .i64 a2.1.2, .int .i64 a3.1, .int .i64 a1.1, .int .i64 a4.1.1, .int .i64 a4.1.2, .int .i64 a5.1.1, .int .i64 a5.1.2, .string (bas (u8s a6.1)), .slice p7 a7.1.length c7, .slice p8 a8.1.length c8]) := (F.out.set 10 (.slice p8 a8.1.length c8))
  have HP8 : Hid (Bytes (v8.setCell ⟨g0 + 1, 10, none⟩ (.slice p8 a8.1.length c8)) p7 a7.1 ∧ Lies (v8.setCell ⟨g0 + 1, 10, none⟩ (.slice p8 a8.1.length c8)) p8 (a8.1.map nv) ∧ (∀ b o, 0 < a7.1.length → p7 = some ⟨b, o, none⟩ → g0 + 1 < b) ∧ (∀ b o, p8 = some ⟨b, o, none⟩ → g0 + 1 < b) ∧ a8.1.length ≤ c8) := by
    have hlt : a < (v7.setCell ⟨g0 + 1, 9, none⟩ (.slice p7 a7.1.length c7)).heap.size ∧ g0 + 1 < (v7.setCell ⟨g0 + 1, 9, none⟩ (.slice p7 a7.1.length c7)).heap.size := ⟨E7.out.rd.lt, block_lt E7.out.op⟩
    have hh : ∀ b o, p8 = some ⟨b, o, none⟩ → g0 + 1 < b := fun b o e => by have := y2 b o e; omega
    exact ⟨bytes_keep (bytes_keep HP7.out.1 x2 (fun b o h0 e => by have := HP7.out.2 b o h0 e; omega)) (show Only (· = g0 + 1) _ _ from Only.setCell v8 ⟨g0 + 1, 10, none⟩ _ rfl) (fun b o h0 e => by have := HP7.out.2 b o h0 e; omega),
      lies_keep y1 (show Only (· = g0 + 1) _ _ from Only.setCell v8 ⟨g0 + 1, 10, none⟩ _ rfl) (fun b o h0 e => by have := hh b o e; omega), fun b o h0 e => (HP7.out.2 b o h0 e).2, hh, y0⟩
  clear x1 x2 k F y0 y1 y2 HP7
  have k := rdone_any a a8.2 _ E8.out.rd HS.out.2.2.2.2.2.2.2.2
  have ⟨c_0, c_1, c_2, c_3, c_4, c_5, c_6, c_7, c_8, c_9, c_10⟩ : ((v8.setCell ⟨g0 + 1, 10, none⟩ (.slice p8 a8.1.length c8))).cell? ⟨g0 + 1, 0, none⟩ = some (.int .i64 a2.1.1) ∧ ((v8.setCell ⟨g0 + 1, 10, none⟩ (.slice p8 a8.1.length c8))).cell? ⟨g0 + 1, 1, none⟩ = some (.int .i64 a2.1.2) ∧ ((v8.setCell ⟨g0 + 1, 10, none⟩ (.slice p8 a8.1.length c8))).cell? ⟨g0 + 1, 2, none⟩ = some (.int .i64 a3.1) ∧ ((v8.setCell ⟨g0 + 1, 10, none⟩ (.slice p8 a8.1.length c8))).cell? ⟨g0 + 1, 3, none⟩ = some (.int .i64 a1.1) ∧ ((v8.setCell ⟨g0 + 1, 10, none⟩ (.slice p8 a8.1.length c8))).cell? ⟨g0 + 1, 4, none⟩ = some (.int .i64 a4.1.1) ∧ ((v8.setCell ⟨g0 + 1, 10, none⟩ (.slice p8 a8.1.length c8))).cell? ⟨g0 + 1, 5, none⟩ = some (.int .i64 a4.1.2) ∧ ((v8.setCell ⟨g0 + 1, 10, none⟩ (.slice p8 a8.1.length c8))).cell? ⟨g0 + 1, 6, none⟩ = some (.int .i64 a5.1.1) ∧ ((v8.setCell ⟨g0 + 1, 10, none⟩ (.slice p8 a8.1.length c8))).cell? ⟨g0 + 1, 7, none⟩ = some (.int .i64 a5.1.2) ∧ ((v8.setCell ⟨g0 + 1, 10, none⟩ (.slice p8 a8.1.length c8))).cell? ⟨g0 + 1, 8, none⟩ = some (.string (bas (u8s a6.1))) ∧ ((v8.setCell ⟨g0 + 1, 10, none⟩ (.slice p8 a8.1.length c8))).cell? ⟨g0 + 1, 9, none⟩ = some (.slice p7 a7.1.length c7) ∧ ((v8.setCell ⟨g0 + 1, 10, none⟩ (.slice p8 a8.1.length c8))).cell? ⟨g0 + 1, 10, none⟩ = some (.slice p8 a8.1.length c8) := ⟨cellOf E8.out.op 0, cellOf E8.out.op 1, cellOf E8.out.op 2, cellOf E8.out.op 3, cellOf E8.out.op 4, cellOf E8.out.op 5, cellOf E8.out.op 6, cellOf E8.out.op 7, cellOf E8.out.op 8, cellOf E8.out.op 9, cellOf E8.out.op 10⟩
  have HM : Hid (∀ W, Below ((v8.setCell ⟨g0 + 1, 10, none⟩ (.slice p8 a8.1.length c8))).heap.size ((v8.setCell ⟨g0 + 1, 10, none⟩ (.slice p8 a8.1.length c8))) W → Calls Tryz.prog 10 #[.agg #[.int .i64 a2.1.1, .int .i64 a2.1.2, .int .i64 a3.1, .int .i64 a1.1, .int .i64 a4.1.1, .int .i64 a4.1.2, .int .i64 a5.1.1, .int .i64 a5.1.2, .string (bas (u8s a6.1)), .slice p7 a7.1.length c7, .slice p8 a8.1.length c8]] W fun e w' => e = .returned (.bool o.may) ∧ Below W.heap.size W w') := fun W hW => by
    have := omay_any a2.1.1 a2.1.2 a3.1 a1.1 a4.1.1 a4.1.2 a5.1.1 a5.1.2 (u8s a6.1) p7 p8 a7.1.length c7 a8.1.length c8 (zs a8.1) W (by have := HNL.out; omega) (by have := HNL.out; omega) (zs_length _) (by rw [zs_length]; have := HNL.out; omega) (by rw [zs_length]; exact HP8.out.2.2.2.2) (by rw [zs_nv]; exact below_lies hW HP8.out.2.1)
    rw [HOE.out]
    exact this
  by_cases h8 : a8.2 = some []
  · rw [if_pos h8] at k
    cases hm : o.may with
    | true =>
      rw [hm] at HM
      have HG : Hid (goodO bs = true ∧ decO bs = o) := by
        have : goodO bs = true := by unfold goodO; rw [HRR.out, decide_eq_true h8]; exact hm
        exact ⟨this, by unfold decO; rw [this, if_pos rfl, HRR.out]⟩
      clear hm h8
      go_wp2_with (first | (go_at_call 53; refine Calls_on k ?_; clear k) | (go_at_call 10; refine Calls_new (HM.out _ (Below.refl _ _)) ?_; clear HM; intro w9 hb9; have E9 : Hid (DW 92 w w9 a g0 (g0 + 1) a8.2 #[.int .i64 a2.1.1, .int .i64 a2.1.2, .int .i64 a3.1, .int .i64 a1.1, .int .i64 a4.1.1, .int .i64 a4.1.2, .int .i64 a5.1.1, .int .i64 a5.1.2, .string (bas (u8s a6.1)), .slice p7 a7.1.length c7, .slice p8 a8.1.length c8]) := E8.out.keep hb9.out; have ⟨m_0, m_1, m_2, m_3, m_4, m_5, m_6, m_7, m_8, m_9, m_10⟩ : w9.cell? ⟨g0 + 1, 0, none⟩ = some (.int .i64 a2.1.1) ∧ w9.cell? ⟨g0 + 1, 1, none⟩ = some (.int .i64 a2.1.2) ∧ w9.cell? ⟨g0 + 1, 2, none⟩ = some (.int .i64 a3.1) ∧ w9.cell? ⟨g0 + 1, 3, none⟩ = some (.int .i64 a1.1) ∧ w9.cell? ⟨g0 + 1, 4, none⟩ = some (.int .i64 a4.1.1) ∧ w9.cell? ⟨g0 + 1, 5, none⟩ = some (.int .i64 a4.1.2) ∧ w9.cell? ⟨g0 + 1, 6, none⟩ = some (.int .i64 a5.1.1) ∧ w9.cell? ⟨g0 + 1, 7, none⟩ = some (.int .i64 a5.1.2) ∧ w9.cell? ⟨g0 + 1, 8, none⟩ = some (.string (bas (u8s a6.1))) ∧ w9.cell? ⟨g0 + 1, 9, none⟩ = some (.slice p7 a7.1.length c7) ∧ w9.cell? ⟨g0 + 1, 10, none⟩ = some (.slice p8 a8.1.length c8) := ⟨cellOf E9.out.op 0, cellOf E9.out.op 1, cellOf E9.out.op 2, cellOf E9.out.op 3, cellOf E9.out.op 4, cellOf E9.out.op 5, cellOf E9.out.op 6, cellOf E9.out.op 7, cellOf E9.out.op 8, cellOf E9.out.op 9, cellOf E9.out.op 10⟩; have ⟨z_0, z_1, z_2, z_3, z_4, z_5, z_6, z_7, z_8, z_9, z_10⟩ : w9.cell? ⟨g0, 0, none⟩ = some (.int .i64 0) ∧ w9.cell? ⟨g0, 1, none⟩ = some (.int .i64 0) ∧ w9.cell? ⟨g0, 2, none⟩ = some (.int .i64 0) ∧ w9.cell? ⟨g0, 3, none⟩ = some (.int .i64 0) ∧ w9.cell? ⟨g0, 4, none⟩ = some (.int .i64 0) ∧ w9.cell? ⟨g0, 5, none⟩ = some (.int .i64 0) ∧ w9.cell? ⟨g0, 6, none⟩ = some (.int .i64 0) ∧ w9.cell? ⟨g0, 7, none⟩ = some (.int .i64 0) ∧ w9.cell? ⟨g0, 8, none⟩ = some (.string ⟨#[]⟩) ∧ w9.cell? ⟨g0, 9, none⟩ = some (.slice none 0 0) ∧ w9.cell? ⟨g0, 10, none⟩ = some (.slice none 0 0) := ⟨cellOf E9.out.z 0, cellOf E9.out.z 1, cellOf E9.out.z 2, cellOf E9.out.z 3, cellOf E9.out.z 4, cellOf E9.out.z 5, cellOf E9.out.z 6, cellOf E9.out.z 7, cellOf E9.out.z 8, cellOf E9.out.z 9, cellOf E9.out.z 10⟩; have ⟨f_0, f_1, f_2, f_3, f_4, f_5, f_6, f_7, f_8, f_9, f_10⟩ : w9.frozen? ⟨g0, 0, none⟩ = false ∧ w9.frozen? ⟨g0, 1, none⟩ = false ∧ w9.frozen? ⟨g0, 2, none⟩ = false ∧ w9.frozen? ⟨g0, 3, none⟩ = false ∧ w9.frozen? ⟨g0, 4, none⟩ = false ∧ w9.frozen? ⟨g0, 5, none⟩ = false ∧ w9.frozen? ⟨g0, 6, none⟩ = false ∧ w9.frozen? ⟨g0, 7, none⟩ = false ∧ w9.frozen? ⟨g0, 8, none⟩ = false ∧ w9.frozen? ⟨g0, 9, none⟩ = false ∧ w9.frozen? ⟨g0, 10, none⟩ = false := ⟨frozenOf E9.out.z 0, frozenOf E9.out.z 1, frozenOf E9.out.z 2, frozenOf E9.out.z 3, frozenOf E9.out.z 4, frozenOf E9.out.z 5, frozenOf E9.out.z 6, frozenOf E9.out.z 7, frozenOf E9.out.z 8, frozenOf E9.out.z 9, frozenOf E9.out.z 10⟩))
      have her : er = 0 := by rw [← HER.out, HG.out.1]; rfl
      have HX := chain11 w9 g0 (.int .i64 a2.1.1) (.int .i64 a2.1.2) (.int .i64 a3.1) (.int .i64 a1.1) (.int .i64 a4.1.1) (.int .i64 a4.1.2) (.int .i64 a5.1.1) (.int .i64 a5.1.2) (.string (bas (u8s a6.1))) (.slice p7 a7.1.length c7) (.slice p8 a8.1.length c8)
      refine bodyPost_ret (v := .tuple #[.agg #[.int .i64 a2.1.1, .int .i64 a2.1.2, .int .i64 a3.1, .int .i64 a1.1, .int .i64 a4.1.1, .int .i64 a4.1.2, .int .i64 a5.1.1, .int .i64 a5.1.2, .string (bas (u8s a6.1)), .slice p7 a7.1.length c7, .slice p8 a8.1.length c8], .int .i64 0]) (by simp [results, Tryz.results14, go_sem, z_0, z_1, z_2, z_3, z_4, z_5, z_6, z_7, z_8, z_9, z_10]) rfl ?_
      refine ⟨_, by rw [her], ⟨p7, c7, p8, c8, ?_, ?_, ?_, ?_⟩, ?_⟩
      · rw [HG.out.2, HOE.out]
        simp only [Opn.cells, zs_length]
      · rw [HG.out.2, HOE.out]
        exact HX.bytes (below_bytes hb9.out HP8.out.1) (fun b o h0 e hb => by have := HP8.out.2.2.1 b o h0 e; have : b = g0 := hb; omega)
      · rw [HG.out.2, HOE.out]
        show Lies _ _ ((zs a8.1).map iv)
        rw [zs_nv]
        exact HX.lies (below_lies hb9.out HP8.out.2.1) (fun b o h0 e hb => by have := HP8.out.2.2.2.1 b o e; have : b = g0 := hb; omega)
      · rw [HG.out.2, HOE.out]
        show (zs a8.1).length ≤ c8
        rw [zs_length]
        exact HP8.out.2.2.2.2
      · exact E9.out.bel.trans (HX.below E9.out.bel.size (fun i hi => by have := E9.out.lo; have : i = g0 := hi; omega))
    | false =>
      rw [hm] at HM
      have HG : Hid (goodO bs = false ∧ decO bs = .zero) := by
        have : goodO bs = false := by unfold goodO; rw [HRR.out, decide_eq_true h8]; exact hm
        exact ⟨this, by unfold decO; rw [this]; rfl⟩
      clear hm h8
      go_wp2_with (first | (go_at_call 53; refine Calls_on k ?_; clear k) | (go_at_call 10; refine Calls_new (HM.out _ (Below.refl _ _)) ?_; clear HM; intro w9 hb9; have E9 : Hid (DW 92 w w9 a g0 (g0 + 1) a8.2 #[.int .i64 a2.1.1, .int .i64 a2.1.2, .int .i64 a3.1, .int .i64 a1.1, .int .i64 a4.1.1, .int .i64 a4.1.2, .int .i64 a5.1.1, .int .i64 a5.1.2, .string (bas (u8s a6.1)), .slice p7 a7.1.length c7, .slice p8 a8.1.length c8]) := E8.out.keep hb9.out; have ⟨z_0, z_1, z_2, z_3, z_4, z_5, z_6, z_7, z_8, z_9, z_10⟩ : w9.cell? ⟨g0, 0, none⟩ = some (.int .i64 0) ∧ w9.cell? ⟨g0, 1, none⟩ = some (.int .i64 0) ∧ w9.cell? ⟨g0, 2, none⟩ = some (.int .i64 0) ∧ w9.cell? ⟨g0, 3, none⟩ = some (.int .i64 0) ∧ w9.cell? ⟨g0, 4, none⟩ = some (.int .i64 0) ∧ w9.cell? ⟨g0, 5, none⟩ = some (.int .i64 0) ∧ w9.cell? ⟨g0, 6, none⟩ = some (.int .i64 0) ∧ w9.cell? ⟨g0, 7, none⟩ = some (.int .i64 0) ∧ w9.cell? ⟨g0, 8, none⟩ = some (.string ⟨#[]⟩) ∧ w9.cell? ⟨g0, 9, none⟩ = some (.slice none 0 0) ∧ w9.cell? ⟨g0, 10, none⟩ = some (.slice none 0 0) := ⟨cellOf E9.out.z 0, cellOf E9.out.z 1, cellOf E9.out.z 2, cellOf E9.out.z 3, cellOf E9.out.z 4, cellOf E9.out.z 5, cellOf E9.out.z 6, cellOf E9.out.z 7, cellOf E9.out.z 8, cellOf E9.out.z 9, cellOf E9.out.z 10⟩; have ⟨f_0, f_1, f_2, f_3, f_4, f_5, f_6, f_7, f_8, f_9, f_10⟩ : w9.frozen? ⟨g0, 0, none⟩ = false ∧ w9.frozen? ⟨g0, 1, none⟩ = false ∧ w9.frozen? ⟨g0, 2, none⟩ = false ∧ w9.frozen? ⟨g0, 3, none⟩ = false ∧ w9.frozen? ⟨g0, 4, none⟩ = false ∧ w9.frozen? ⟨g0, 5, none⟩ = false ∧ w9.frozen? ⟨g0, 6, none⟩ = false ∧ w9.frozen? ⟨g0, 7, none⟩ = false ∧ w9.frozen? ⟨g0, 8, none⟩ = false ∧ w9.frozen? ⟨g0, 9, none⟩ = false ∧ w9.frozen? ⟨g0, 10, none⟩ = false := ⟨frozenOf E9.out.z 0, frozenOf E9.out.z 1, frozenOf E9.out.z 2, frozenOf E9.out.z 3, frozenOf E9.out.z 4, frozenOf E9.out.z 5, frozenOf E9.out.z 6, frozenOf E9.out.z 7, frozenOf E9.out.z 8, frozenOf E9.out.z 9, frozenOf E9.out.z 10⟩))
      have her : er = 74 := by rw [← HER.out, HG.out.1]; rfl
      have HX := chain11 w9 g0 (.int .i64 0) (.int .i64 0) (.int .i64 0) (.int .i64 0) (.int .i64 0) (.int .i64 0) (.int .i64 0) (.int .i64 0) (.string ⟨#[]⟩) (.slice none 0 0) (.slice none 0 0)
      refine bodyPost_ret (v := .tuple #[.agg #[.int .i64 0, .int .i64 0, .int .i64 0, .int .i64 0, .int .i64 0, .int .i64 0, .int .i64 0, .int .i64 0, .string ⟨#[]⟩, .slice none 0 0, .slice none 0 0], .int .i64 74]) (by simp [results, Tryz.results14, go_sem, z_0, z_1, z_2, z_3, z_4, z_5, z_6, z_7, z_8, z_9, z_10]) rfl ?_
      refine ⟨_, by rw [her], ?_, ?_⟩
      · rw [HG.out.2]; exact OpAt.zero _
      · exact E9.out.bel.trans (HX.below E9.out.bel.size (fun i hi => by have := E9.out.lo; have : i = g0 := hi; omega))
  · rw [if_neg h8] at k
    have HG : Hid (goodO bs = false ∧ decO bs = .zero) := by
      have : goodO bs = false := by unfold goodO; rw [HRR.out, decide_eq_false h8]; rfl
      exact ⟨this, by unfold decO; rw [this]; rfl⟩
    have ⟨z_0, z_1, z_2, z_3, z_4, z_5, z_6, z_7, z_8, z_9, z_10⟩ : ((v8.setCell ⟨g0 + 1, 10, none⟩ (.slice p8 a8.1.length c8))).cell? ⟨g0, 0, none⟩ = some (.int .i64 0) ∧ ((v8.setCell ⟨g0 + 1, 10, none⟩ (.slice p8 a8.1.length c8))).cell? ⟨g0, 1, none⟩ = some (.int .i64 0) ∧ ((v8.setCell ⟨g0 + 1, 10, none⟩ (.slice p8 a8.1.length c8))).cell? ⟨g0, 2, none⟩ = some (.int .i64 0) ∧ ((v8.setCell ⟨g0 + 1, 10, none⟩ (.slice p8 a8.1.length c8))).cell? ⟨g0, 3, none⟩ = some (.int .i64 0) ∧ ((v8.setCell ⟨g0 + 1, 10, none⟩ (.slice p8 a8.1.length c8))).cell? ⟨g0, 4, none⟩ = some (.int .i64 0) ∧ ((v8.setCell ⟨g0 + 1, 10, none⟩ (.slice p8 a8.1.length c8))).cell? ⟨g0, 5, none⟩ = some (.int .i64 0) ∧ ((v8.setCell ⟨g0 + 1, 10, none⟩ (.slice p8 a8.1.length c8))).cell? ⟨g0, 6, none⟩ = some (.int .i64 0) ∧ ((v8.setCell ⟨g0 + 1, 10, none⟩ (.slice p8 a8.1.length c8))).cell? ⟨g0, 7, none⟩ = some (.int .i64 0) ∧ ((v8.setCell ⟨g0 + 1, 10, none⟩ (.slice p8 a8.1.length c8))).cell? ⟨g0, 8, none⟩ = some (.string ⟨#[]⟩) ∧ ((v8.setCell ⟨g0 + 1, 10, none⟩ (.slice p8 a8.1.length c8))).cell? ⟨g0, 9, none⟩ = some (.slice none 0 0) ∧ ((v8.setCell ⟨g0 + 1, 10, none⟩ (.slice p8 a8.1.length c8))).cell? ⟨g0, 10, none⟩ = some (.slice none 0 0) := ⟨cellOf E8.out.z 0, cellOf E8.out.z 1, cellOf E8.out.z 2, cellOf E8.out.z 3, cellOf E8.out.z 4, cellOf E8.out.z 5, cellOf E8.out.z 6, cellOf E8.out.z 7, cellOf E8.out.z 8, cellOf E8.out.z 9, cellOf E8.out.z 10⟩
    have ⟨f_0, f_1, f_2, f_3, f_4, f_5, f_6, f_7, f_8, f_9, f_10⟩ : ((v8.setCell ⟨g0 + 1, 10, none⟩ (.slice p8 a8.1.length c8))).frozen? ⟨g0, 0, none⟩ = false ∧ ((v8.setCell ⟨g0 + 1, 10, none⟩ (.slice p8 a8.1.length c8))).frozen? ⟨g0, 1, none⟩ = false ∧ ((v8.setCell ⟨g0 + 1, 10, none⟩ (.slice p8 a8.1.length c8))).frozen? ⟨g0, 2, none⟩ = false ∧ ((v8.setCell ⟨g0 + 1, 10, none⟩ (.slice p8 a8.1.length c8))).frozen? ⟨g0, 3, none⟩ = false ∧ ((v8.setCell ⟨g0 + 1, 10, none⟩ (.slice p8 a8.1.length c8))).frozen? ⟨g0, 4, none⟩ = false ∧ ((v8.setCell ⟨g0 + 1, 10, none⟩ (.slice p8 a8.1.length c8))).frozen? ⟨g0, 5, none⟩ = false ∧ ((v8.setCell ⟨g0 + 1, 10, none⟩ (.slice p8 a8.1.length c8))).frozen? ⟨g0, 6, none⟩ = false ∧ ((v8.setCell ⟨g0 + 1, 10, none⟩ (.slice p8 a8.1.length c8))).frozen? ⟨g0, 7, none⟩ = false ∧ ((v8.setCell ⟨g0 + 1, 10, none⟩ (.slice p8 a8.1.length c8))).frozen? ⟨g0, 8, none⟩ = false ∧ ((v8.setCell ⟨g0 + 1, 10, none⟩ (.slice p8 a8.1.length c8))).frozen? ⟨g0, 9, none⟩ = false ∧ ((v8.setCell ⟨g0 + 1, 10, none⟩ (.slice p8 a8.1.length c8))).frozen? ⟨g0, 10, none⟩ = false := ⟨frozenOf E8.out.z 0, frozenOf E8.out.z 1, frozenOf E8.out.z 2, frozenOf E8.out.z 3, frozenOf E8.out.z 4, frozenOf E8.out.z 5, frozenOf E8.out.z 6, frozenOf E8.out.z 7, frozenOf E8.out.z 8, frozenOf E8.out.z 9, frozenOf E8.out.z 10⟩
    clear h8 HM
    go_wp2_with (go_at_call 53; refine Calls_on k ?_; clear k)
    have her : er = 74 := by rw [← HER.out, HG.out.1]; rfl
    have HX := chain11 ((v8.setCell ⟨g0 + 1, 10, none⟩ (.slice p8 a8.1.length c8))) g0 (.int .i64 0) (.int .i64 0) (.int .i64 0) (.int .i64 0) (.int .i64 0) (.int .i64 0) (.int .i64 0) (.int .i64 0) (.string ⟨#[]⟩) (.slice none 0 0) (.slice none 0 0)
    refine bodyPost_ret (v := .tuple #[.agg #[.int .i64 0, .int .i64 0, .int .i64 0, .int .i64 0, .int .i64 0, .int .i64 0, .int .i64 0, .int .i64 0, .string ⟨#[]⟩, .slice none 0 0, .slice none 0 0], .int .i64 74]) (by simp [results, Tryz.results14, go_sem, z_0, z_1, z_2, z_3, z_4, z_5, z_6, z_7, z_8, z_9, z_10]) rfl ?_
    refine ⟨_, by rw [her], ?_, ?_⟩
    · rw [HG.out.2]; exact OpAt.zero _
    · exact E8.out.bel.trans (HX.below E8.out.bel.size (fun i hi => by have := E8.out.lo; have : i = g0 := hi; omega))

end Go.Proofs.YtegjageenofbjaaGreat.Cd
