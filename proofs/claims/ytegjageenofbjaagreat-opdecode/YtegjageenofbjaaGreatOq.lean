/-
  An operation is read: the document's Decode.
-/
import Derived.Test.YtegjageenofbjaaGreatOp
import Derived.Test.YtegjageenofbjaaGreatKqany
import Derived.Test.YtegjageenofbjaaGreatKqid
import Derived.Test.YtegjageenofbjaaGreatKqis
namespace Go.Proofs.YtegjageenofbjaaGreat.Cd
open Go.RowKit Go.Maps

attribute [local go_sem] Oper.semAt_some

/-- A value that is an operation, its caps not told. -/
structure OpAw (w : World) (o : Opn) (v : Value) : Prop where
  at_ : ∃ p c q d, v = .agg (o.cells p c q d) ∧ Bytes w p o.data ∧ Lies w q (o.ns.map iv)
theorem OpAt.weak {w : World} {o : Opn} {v : Value} (h : OpAt w o v) : OpAw w o v := by
  obtain ⟨p, c, q, d, h1, h2, h3, _⟩ := h.at_
  exact ⟨p, c, q, d, h1, h2, h3⟩
theorem OpAw.below {w w' : World} {o : Opn} {v : Value} (h : OpAw w o v) (hb : Below w.heap.size w w') : OpAw w' o v := by
  obtain ⟨p, c, q, d, h1, h2, h3⟩ := h.at_
  exact ⟨p, c, q, d, h1, below_bytes hb h2, below_lies hb h3⟩
theorem kind_big {t n kd ot on pt pn : Int} {nm : List UInt8} {l : Nat} (h : 100 < kd) : kindB t n kd ot on pt pn nm l = false := by
  unfold kindB
  rw [if_neg (by omega), if_neg (by omega), if_neg (by omega)]

set_option maxRecDepth 8000 in
set_option maxHeartbeats 4000000 in
theorem rdecode_any (p : Option Addr) (bs : List (BitVec 8)) (c : Nat) (w : World) (hl : bs.length ≤ 1000000000) (hc : bs.length ≤ c) (hb : Bytes w p bs) (htg : Tg w p bs) (hpl : Plain w.heap.size p) :
    Calls Tryz.prog 17 #[.slice p bs.length c] w fun e w' => ∃ v, e = .returned (.tuple #[v, .bool (goodO bs)]) ∧ OpAw w' (decO bs) v ∧ Below w.heap.size w w' := by
  obtain ⟨er, her⟩ : ∃ er, goodO bs = er := ⟨_, rfl⟩
  rw [her]
  have HER : Hid (goodO bs = er) := her
  clear her
  obtain ⟨a1, h1⟩ : ∃ x, rnum 4611686018427387904 (some bs) = x := ⟨_, rfl⟩
  obtain ⟨a2, h2⟩ : ∃ x, rid a1.2 = x := ⟨_, rfl⟩
  obtain ⟨a3, h3⟩ : ∃ x, rnum 4611686018427387904 a2.2 = x := ⟨_, rfl⟩
  obtain ⟨a4, h4⟩ : ∃ x, rid a3.2 = x := ⟨_, rfl⟩
  obtain ⟨a5, h5⟩ : ∃ x, rid a4.2 = x := ⟨_, rfl⟩
  obtain ⟨a6, h6⟩ : ∃ x, rbytes a5.2 = x := ⟨_, rfl⟩
  obtain ⟨a7, h7⟩ : ∃ x, rbytes a6.2 = x := ⟨_, rfl⟩
  obtain ⟨a8, h8⟩ : ∃ x, rvec a7.2 = x := ⟨_, rfl⟩
  have s0 : Small (some bs) := hl
  have s1 : Small a1.2 := small_le s0 (by rw [← h1]; exact rnum_len _ _)
  have s2 : Small a2.2 := small_le s1 (by rw [← h2]; exact rid_len _)
  have s3 : Small a3.2 := small_le s2 (by rw [← h3]; exact rnum_len _ _)
  have s4 : Small a4.2 := small_le s3 (by rw [← h4]; exact rid_len _)
  have s5 : Small a5.2 := small_le s4 (by rw [← h5]; exact rid_len _)
  have s6 : Small a6.2 := small_le s5 (by rw [← h6]; exact rbytes_len _)
  have s7 : Small a7.2 := small_le s6 (by rw [← h7]; exact rbytes_len _)
  have s8 : Small a8.2 := small_le s7 (by rw [← h8]; exact rvec_len _)
  have hR : readO bs = (⟨a2.1.1, a2.1.2, a3.1, a1.1, a4.1.1, a4.1.2, a5.1.1, a5.1.2, u8s a6.1, a7.1, zs a8.1⟩, a8.2) := by
    unfold readO
    simp only [h1, h2, h3, h4, h5, h6, h7, h8]
  have hnl : (u8s a6.1).length ≤ 65536 := by rw [u8s_length, ← h6]; exact rbytes_le _
  have hdl : a7.1.length ≤ 65536 := by rw [← h7]; exact rbytes_le _
  have hvl : a8.1.length ≤ 64 := by rw [← h8]; exact (rvec_good _).2.1
  have HNL : Hid ((u8s a6.1).length ≤ 65536 ∧ a7.1.length ≤ 65536 ∧ a8.1.length ≤ 64) := ⟨hnl, hdl, hvl⟩
  obtain ⟨o, ho⟩ : ∃ o : Opn, o = ⟨a2.1.1, a2.1.2, a3.1, a1.1, a4.1.1, a4.1.2, a5.1.1, a5.1.2, u8s a6.1, a7.1, zs a8.1⟩ := ⟨_, rfl⟩
  rw [← ho] at hR
  have HOE : Hid (o = ⟨a2.1.1, a2.1.2, a3.1, a1.1, a4.1.1, a4.1.2, a5.1.1, a5.1.2, u8s a6.1, a7.1, zs a8.1⟩) := ho
  have HRR : Hid (readO bs = (o, a8.2)) := hR
  have HS : Hid (Small (some bs) ∧ Small a1.2 ∧ Small a2.2 ∧ Small a3.2 ∧ Small a4.2 ∧ Small a5.2 ∧ Small a6.2 ∧ Small a7.2 ∧ Small a8.2) := ⟨s0, s1, s2, s3, s4, s5, s6, s7, s8⟩
  have HH : Hid (rnum 4611686018427387904 (some bs) = a1 ∧ rid a1.2 = a2 ∧ rnum 4611686018427387904 a2.2 = a3 ∧ rid a3.2 = a4 ∧ rid a4.2 = a5 ∧ rbytes a5.2 = a6 ∧ rbytes a6.2 = a7 ∧ rvec a7.2 = a8) := ⟨h1, h2, h3, h4, h5, h6, h7, h8⟩
  clear h1 h2 h3 h4 h5 h6 h7 h8 s1 s2 s3 s4 s5 s6 s7 s8 hR ho hnl hdl hvl s0
  obtain ⟨g0, hg0⟩ : ∃ g0, w.heap.size = g0 := ⟨_, rfl⟩
  have E0 : Hid (DW 76 w (((w.alloc (.cells #[.int .i64 0, .int .i64 0, .int .i64 0, .int .i64 0, .int .i64 0, .int .i64 0, .int .i64 0, .int .i64 0, .string ⟨#[]⟩, .slice none 0 0, .slice none 0 0] 28)).alloc (.cells #[.slice p bs.length c, .bool false] 76)).alloc (.cells #[.int .i64 0, .int .i64 0, .int .i64 0, .int .i64 0, .int .i64 0, .int .i64 0, .int .i64 0, .int .i64 0, .string ⟨#[]⟩, .slice none 0 0, .slice none 0 0] 28)) (g0 + 1) g0 (g0 + 2) (some bs) #[.int .i64 0, .int .i64 0, .int .i64 0, .int .i64 0, .int .i64 0, .int .i64 0, .int .i64 0, .int .i64 0, .string ⟨#[]⟩, .slice none 0 0, .slice none 0 0]) := by
    have z1 := heap_alloc_new w (.cells #[.int .i64 0, .int .i64 0, .int .i64 0, .int .i64 0, .int .i64 0, .int .i64 0, .int .i64 0, .int .i64 0, .string ⟨#[]⟩, .slice none 0 0, .slice none 0 0] 28)
    have z2 := heap_alloc_new (w.alloc (.cells #[.int .i64 0, .int .i64 0, .int .i64 0, .int .i64 0, .int .i64 0, .int .i64 0, .int .i64 0, .int .i64 0, .string ⟨#[]⟩, .slice none 0 0, .slice none 0 0] 28)) (.cells #[.slice p bs.length c, .bool false] 76)
    have z3 := heap_alloc_new ((w.alloc (.cells #[.int .i64 0, .int .i64 0, .int .i64 0, .int .i64 0, .int .i64 0, .int .i64 0, .int .i64 0, .int .i64 0, .string ⟨#[]⟩, .slice none 0 0, .slice none 0 0] 28)).alloc (.cells #[.slice p bs.length c, .bool false] 76)) (.cells #[.int .i64 0, .int .i64 0, .int .i64 0, .int .i64 0, .int .i64 0, .int .i64 0, .int .i64 0, .int .i64 0, .string ⟨#[]⟩, .slice none 0 0, .slice none 0 0] 28)
    have y1 : (w.alloc (.cells #[.int .i64 0, .int .i64 0, .int .i64 0, .int .i64 0, .int .i64 0, .int .i64 0, .int .i64 0, .int .i64 0, .string ⟨#[]⟩, .slice none 0 0, .slice none 0 0] 28)).heap.size = g0 + 1 := by simp [hg0]
    have y2 : ((w.alloc (.cells #[.int .i64 0, .int .i64 0, .int .i64 0, .int .i64 0, .int .i64 0, .int .i64 0, .int .i64 0, .int .i64 0, .string ⟨#[]⟩, .slice none 0 0, .slice none 0 0] 28)).alloc (.cells #[.slice p bs.length c, .bool false] 76)).heap.size = g0 + 2 := by simp [hg0]
    have n1 := (below_new w (.cells #[.int .i64 0, .int .i64 0, .int .i64 0, .int .i64 0, .int .i64 0, .int .i64 0, .int .i64 0, .int .i64 0, .string ⟨#[]⟩, .slice none 0 0, .slice none 0 0] 28)).out
    have n2 := (below_new (w.alloc (.cells #[.int .i64 0, .int .i64 0, .int .i64 0, .int .i64 0, .int .i64 0, .int .i64 0, .int .i64 0, .int .i64 0, .string ⟨#[]⟩, .slice none 0 0, .slice none 0 0] 28)) (.cells #[.slice p bs.length c, .bool false] 76)).out
    have n3 := (below_new ((w.alloc (.cells #[.int .i64 0, .int .i64 0, .int .i64 0, .int .i64 0, .int .i64 0, .int .i64 0, .int .i64 0, .int .i64 0, .string ⟨#[]⟩, .slice none 0 0, .slice none 0 0] 28)).alloc (.cells #[.slice p bs.length c, .bool false] 76)) (.cells #[.int .i64 0, .int .i64 0, .int .i64 0, .int .i64 0, .int .i64 0, .int .i64 0, .int .i64 0, .int .i64 0, .string ⟨#[]⟩, .slice none 0 0, .slice none 0 0] 28)).out
    have nB : Below w.heap.size w (((w.alloc (.cells #[.int .i64 0, .int .i64 0, .int .i64 0, .int .i64 0, .int .i64 0, .int .i64 0, .int .i64 0, .int .i64 0, .string ⟨#[]⟩, .slice none 0 0, .slice none 0 0] 28)).alloc (.cells #[.slice p bs.length c, .bool false] 76)).alloc (.cells #[.int .i64 0, .int .i64 0, .int .i64 0, .int .i64 0, .int .i64 0, .int .i64 0, .int .i64 0, .int .i64 0, .string ⟨#[]⟩, .slice none 0 0, .slice none 0 0] 28)) := (n1.trans (n2.mono n1.size)).trans (n3.mono (Nat.le_trans n1.size n2.size))
    rw [y1] at z2
    rw [y2] at z3
    rw [hg0] at z1
    refine ⟨⟨p, c, ?_, (n3.block _ (block_lt z2)).trans z2, hc, below_bytes nB hb, (Below.only nB (fun _ => False)).tg htg (fun _ _ _ _ f => f)⟩, z3, (n3.block _ (by rw [y2]; omega)).trans ((n2.block _ (block_lt z1)).trans z1), nB, by omega, by omega⟩
    rcases hpl with h | ⟨g, o', e, h⟩
    · exact .inl h
    · exact .inr ⟨g, o', e, by omega⟩
  clear hb htg hpl hc hl
  generalize bs.length = bl at *
  have HW : Hid (w.heap.size = g0) := hg0
  clear hg0
  go_enter Tryz.func17, Tryz.ntmps17
  go_wp2_with fail
  have hg0 := HW.out
  simp only [hg0]
  clear hg0
  have k := qnum_any (g0 + 1) (some bs) _ E0.out.rd HS.out.1
  rw [HH.out.1] at k
  refine (show Calls Tryz.prog 55 _ _ _ from k).mono ?_
  rintro e v1 ⟨rfl, x1, x2⟩
  have F : Hid (DW 76 w v1 (g0 + 1) g0 (g0 + 2) a1.2 #[.int .i64 0, .int .i64 0, .int .i64 0, .int .i64 0, .int .i64 0, .int .i64 0, .int .i64 0, .int .i64 0, .string ⟨#[]⟩, .slice none 0 0, .slice none 0 0]) := E0.out.call x1 x2
  by_cases hbig : 100 < a1.1
  · have hbigI : (100 : Int) < a1.1 := by omega
    have HG : Hid (goodO bs = false ∧ decO bs = .zero) := by
      have : goodO bs = false := by
        unfold goodO Opn.may mayO
        rw [HRR.out, HOE.out, kind_big hbigI]
        simp
      exact ⟨this, by unfold decO; rw [this]; rfl⟩
    have ⟨z_0, z_1, z_2, z_3, z_4, z_5, z_6, z_7, z_8, z_9, z_10⟩ : v1.cell? ⟨g0, 0, none⟩ = some (.int .i64 0) ∧ v1.cell? ⟨g0, 1, none⟩ = some (.int .i64 0) ∧ v1.cell? ⟨g0, 2, none⟩ = some (.int .i64 0) ∧ v1.cell? ⟨g0, 3, none⟩ = some (.int .i64 0) ∧ v1.cell? ⟨g0, 4, none⟩ = some (.int .i64 0) ∧ v1.cell? ⟨g0, 5, none⟩ = some (.int .i64 0) ∧ v1.cell? ⟨g0, 6, none⟩ = some (.int .i64 0) ∧ v1.cell? ⟨g0, 7, none⟩ = some (.int .i64 0) ∧ v1.cell? ⟨g0, 8, none⟩ = some (.string ⟨#[]⟩) ∧ v1.cell? ⟨g0, 9, none⟩ = some (.slice none 0 0) ∧ v1.cell? ⟨g0, 10, none⟩ = some (.slice none 0 0) := ⟨cellOf F.out.z 0, cellOf F.out.z 1, cellOf F.out.z 2, cellOf F.out.z 3, cellOf F.out.z 4, cellOf F.out.z 5, cellOf F.out.z 6, cellOf F.out.z 7, cellOf F.out.z 8, cellOf F.out.z 9, cellOf F.out.z 10⟩; have ⟨f_0, f_1, f_2, f_3, f_4, f_5, f_6, f_7, f_8, f_9, f_10⟩ : v1.frozen? ⟨g0, 0, none⟩ = false ∧ v1.frozen? ⟨g0, 1, none⟩ = false ∧ v1.frozen? ⟨g0, 2, none⟩ = false ∧ v1.frozen? ⟨g0, 3, none⟩ = false ∧ v1.frozen? ⟨g0, 4, none⟩ = false ∧ v1.frozen? ⟨g0, 5, none⟩ = false ∧ v1.frozen? ⟨g0, 6, none⟩ = false ∧ v1.frozen? ⟨g0, 7, none⟩ = false ∧ v1.frozen? ⟨g0, 8, none⟩ = false ∧ v1.frozen? ⟨g0, 9, none⟩ = false ∧ v1.frozen? ⟨g0, 10, none⟩ = false := ⟨frozenOf F.out.z 0, frozenOf F.out.z 1, frozenOf F.out.z 2, frozenOf F.out.z 3, frozenOf F.out.z 4, frozenOf F.out.z 5, frozenOf F.out.z 6, frozenOf F.out.z 7, frozenOf F.out.z 8, frozenOf F.out.z 9, frozenOf F.out.z 10⟩
    clear x1 x2 k
    go_wp2_with fail
    have her : er = false := by rw [← HER.out, HG.out.1]
    have HX := chain11 v1 g0 (.int .i64 0) (.int .i64 0) (.int .i64 0) (.int .i64 0) (.int .i64 0) (.int .i64 0) (.int .i64 0) (.int .i64 0) (.string ⟨#[]⟩) (.slice none 0 0) (.slice none 0 0)
    refine bodyPost_ret (v := .tuple #[.agg #[.int .i64 0, .int .i64 0, .int .i64 0, .int .i64 0, .int .i64 0, .int .i64 0, .int .i64 0, .int .i64 0, .string ⟨#[]⟩, .slice none 0 0, .slice none 0 0], .bool false]) (by simp [results, Tryz.results17, go_sem, z_0, z_1, z_2, z_3, z_4, z_5, z_6, z_7, z_8, z_9, z_10]) rfl ?_
    refine ⟨_, by rw [her], ?_, ?_⟩
    · rw [HG.out.2]; exact (OpAt.zero _).weak
    · exact F.out.bel.trans (HX.below F.out.bel.size (fun i hi => by have := F.out.lo; have : i = g0 := hi; omega))
  have hbigI : ¬ (100 : Int) < a1.1 := by omega
  have q3 : v1.cell? ⟨g0 + 2, 3, none⟩ = some (.int .i64 0) := cellOf F.out.op 3
  have r3 : v1.frozen? ⟨g0 + 2, 3, none⟩ = false := frozenOf F.out.op 3
  have E1 : Hid (DW 76 w (v1.setCell ⟨g0 + 2, 3, none⟩ (.int .i64 a1.1)) (g0 + 1) g0 (g0 + 2) a1.2 #[.int .i64 0, .int .i64 0, .int .i64 0, .int .i64 a1.1, .int .i64 0, .int .i64 0, .int .i64 0, .int .i64 0, .string ⟨#[]⟩, .slice none 0 0, .slice none 0 0]) := (F.out.set 3 (.int .i64 a1.1))
  clear x1 x2 k F
  have k := qid_any (g0 + 1) a1.2 _ E1.out.rd HS.out.2.1
  rw [HH.out.2.1] at k
  go_wp2_with fail
  refine (show Calls Tryz.prog 56 _ _ _ from k).mono ?_
  rintro e v2 ⟨rfl, x1, x2⟩
  have F : Hid (DW 76 w v2 (g0 + 1) g0 (g0 + 2) a2.2 #[.int .i64 0, .int .i64 0, .int .i64 0, .int .i64 a1.1, .int .i64 0, .int .i64 0, .int .i64 0, .int .i64 0, .string ⟨#[]⟩, .slice none 0 0, .slice none 0 0]) := E1.out.call x1 x2
  have q0 : v2.cell? ⟨g0 + 2, 0, none⟩ = some (.int .i64 0) := cellOf F.out.op 0
  have r0 : v2.frozen? ⟨g0 + 2, 0, none⟩ = false := frozenOf F.out.op 0
  have q1 : v2.cell? ⟨g0 + 2, 1, none⟩ = some (.int .i64 0) := cellOf F.out.op 1
  have r1 : v2.frozen? ⟨g0 + 2, 1, none⟩ = false := frozenOf F.out.op 1
  have E2 : Hid (DW 76 w ((v2.setCell ⟨g0 + 2, 0, none⟩ (.int .i64 a2.1.1)).setCell ⟨g0 + 2, 1, none⟩ (.int .i64 a2.1.2)) (g0 + 1) g0 (g0 + 2) a2.2 #[.int .i64 a2.1.1, .int .i64 a2.1.2, .int .i64 0, .int .i64 a1.1, .int .i64 0, .int .i64 0, .int .i64 0, .int .i64 0, .string ⟨#[]⟩, .slice none 0 0, .slice none 0 0]) := ((F.out.set 0 (.int .i64 a2.1.1)).set 1 (.int .i64 a2.1.2))
  clear x1 x2 k F
  have k := qnum_any (g0 + 1) a2.2 _ E2.out.rd HS.out.2.2.1
  rw [HH.out.2.2.1] at k
  go_wp2_with fail
  refine (show Calls Tryz.prog 55 _ _ _ from k).mono ?_
  rintro e v3 ⟨rfl, x1, x2⟩
  have F : Hid (DW 76 w v3 (g0 + 1) g0 (g0 + 2) a3.2 #[.int .i64 a2.1.1, .int .i64 a2.1.2, .int .i64 0, .int .i64 a1.1, .int .i64 0, .int .i64 0, .int .i64 0, .int .i64 0, .string ⟨#[]⟩, .slice none 0 0, .slice none 0 0]) := E2.out.call x1 x2
  have q2 : v3.cell? ⟨g0 + 2, 2, none⟩ = some (.int .i64 0) := cellOf F.out.op 2
  have r2 : v3.frozen? ⟨g0 + 2, 2, none⟩ = false := frozenOf F.out.op 2
  have E3 : Hid (DW 76 w (v3.setCell ⟨g0 + 2, 2, none⟩ (.int .i64 a3.1)) (g0 + 1) g0 (g0 + 2) a3.2 #[.int .i64 a2.1.1, .int .i64 a2.1.2, .int .i64 a3.1, .int .i64 a1.1, .int .i64 0, .int .i64 0, .int .i64 0, .int .i64 0, .string ⟨#[]⟩, .slice none 0 0, .slice none 0 0]) := (F.out.set 2 (.int .i64 a3.1))
  clear x1 x2 k F
  have k := qid_any (g0 + 1) a3.2 _ E3.out.rd HS.out.2.2.2.1
  rw [HH.out.2.2.2.1] at k
  go_wp2_with fail
  refine (show Calls Tryz.prog 56 _ _ _ from k).mono ?_
  rintro e v4 ⟨rfl, x1, x2⟩
  have F : Hid (DW 76 w v4 (g0 + 1) g0 (g0 + 2) a4.2 #[.int .i64 a2.1.1, .int .i64 a2.1.2, .int .i64 a3.1, .int .i64 a1.1, .int .i64 0, .int .i64 0, .int .i64 0, .int .i64 0, .string ⟨#[]⟩, .slice none 0 0, .slice none 0 0]) := E3.out.call x1 x2
  have q4 : v4.cell? ⟨g0 + 2, 4, none⟩ = some (.int .i64 0) := cellOf F.out.op 4
  have r4 : v4.frozen? ⟨g0 + 2, 4, none⟩ = false := frozenOf F.out.op 4
  have q5 : v4.cell? ⟨g0 + 2, 5, none⟩ = some (.int .i64 0) := cellOf F.out.op 5
  have r5 : v4.frozen? ⟨g0 + 2, 5, none⟩ = false := frozenOf F.out.op 5
  have E4 : Hid (DW 76 w ((v4.setCell ⟨g0 + 2, 4, none⟩ (.int .i64 a4.1.1)).setCell ⟨g0 + 2, 5, none⟩ (.int .i64 a4.1.2)) (g0 + 1) g0 (g0 + 2) a4.2 #[.int .i64 a2.1.1, .int .i64 a2.1.2, .int .i64 a3.1, .int .i64 a1.1, .int .i64 a4.1.1, .int .i64 a4.1.2, .int .i64 0, .int .i64 0, .string ⟨#[]⟩, .slice none 0 0, .slice none 0 0]) := ((F.out.set 4 (.int .i64 a4.1.1)).set 5 (.int .i64 a4.1.2))
  clear x1 x2 k F
  have k := qid_any (g0 + 1) a4.2 _ E4.out.rd HS.out.2.2.2.2.1
  rw [HH.out.2.2.2.2.1] at k
  go_wp2_with fail
  refine (show Calls Tryz.prog 56 _ _ _ from k).mono ?_
  rintro e v5 ⟨rfl, x1, x2⟩
  have F : Hid (DW 76 w v5 (g0 + 1) g0 (g0 + 2) a5.2 #[.int .i64 a2.1.1, .int .i64 a2.1.2, .int .i64 a3.1, .int .i64 a1.1, .int .i64 a4.1.1, .int .i64 a4.1.2, .int .i64 0, .int .i64 0, .string ⟨#[]⟩, .slice none 0 0, .slice none 0 0]) := E4.out.call x1 x2
  have q6 : v5.cell? ⟨g0 + 2, 6, none⟩ = some (.int .i64 0) := cellOf F.out.op 6
  have r6 : v5.frozen? ⟨g0 + 2, 6, none⟩ = false := frozenOf F.out.op 6
  have q7 : v5.cell? ⟨g0 + 2, 7, none⟩ = some (.int .i64 0) := cellOf F.out.op 7
  have r7 : v5.frozen? ⟨g0 + 2, 7, none⟩ = false := frozenOf F.out.op 7
  have E5 : Hid (DW 76 w ((v5.setCell ⟨g0 + 2, 6, none⟩ (.int .i64 a5.1.1)).setCell ⟨g0 + 2, 7, none⟩ (.int .i64 a5.1.2)) (g0 + 1) g0 (g0 + 2) a5.2 #[.int .i64 a2.1.1, .int .i64 a2.1.2, .int .i64 a3.1, .int .i64 a1.1, .int .i64 a4.1.1, .int .i64 a4.1.2, .int .i64 a5.1.1, .int .i64 a5.1.2, .string ⟨#[]⟩, .slice none 0 0, .slice none 0 0]) := ((F.out.set 6 (.int .i64 a5.1.1)).set 7 (.int .i64 a5.1.2))
  clear x1 x2 k F
  have k := qbytes_any (g0 + 1) a5.2 _ E5.out.rd HS.out.2.2.2.2.2.1
  rw [HH.out.2.2.2.2.2.1] at k
  go_wp2_with fail
  refine (show Calls Tryz.prog 57 _ _ _ from k).mono ?_
  rintro e v6 ⟨p6, c6, ⟨rfl, x1, x2⟩, y1, y2⟩
  have hst := run_str v6 p6 a6.1 c6 y1
  rw [strOf_u8s] at hst
  have F : Hid (DW 76 w v6 (g0 + 1) g0 (g0 + 2) a6.2 #[.int .i64 a2.1.1, .int .i64 a2.1.2, .int .i64 a3.1, .int .i64 a1.1, .int .i64 a4.1.1, .int .i64 a4.1.2, .int .i64 a5.1.1, .int .i64 a5.1.2, .string ⟨#[]⟩, .slice none 0 0, .slice none 0 0]) := E5.out.call x1 x2
  have q8 : v6.cell? ⟨g0 + 2, 8, none⟩ = some (.string ⟨#[]⟩) := cellOf F.out.op 8
  have r8 : v6.frozen? ⟨g0 + 2, 8, none⟩ = false := frozenOf F.out.op 8
  have E6 : Hid (DW 76 w (v6.setCell ⟨g0 + 2, 8, none⟩ (.string (bas (u8s a6.1)))) (g0 + 1) g0 (g0 + 2) a6.2 #[.int .i64 a2.1.1, .int .i64 a2.1.2, .int .i64 a3.1, .int .i64 a1.1, .int .i64 a4.1.1, .int .i64 a4.1.2, .int .i64 a5.1.1, .int .i64 a5.1.2, .string (bas (u8s a6.1)), .slice none 0 0, .slice none 0 0]) := (F.out.set 8 (.string (bas (u8s a6.1))))
  clear x1 x2 k F y1 y2
  have k := qbytes_any (g0 + 1) a6.2 _ E6.out.rd HS.out.2.2.2.2.2.2.1
  rw [HH.out.2.2.2.2.2.2.1] at k
  go_wp2_with fail
  refine (show Calls Tryz.prog 57 _ _ _ from k).mono ?_
  rintro e v7 ⟨p7, c7, ⟨rfl, x1, x2⟩, y1, y2⟩
  have F : Hid (DW 76 w v7 (g0 + 1) g0 (g0 + 2) a7.2 #[.int .i64 a2.1.1, .int .i64 a2.1.2, .int .i64 a3.1, .int .i64 a1.1, .int .i64 a4.1.1, .int .i64 a4.1.2, .int .i64 a5.1.1, .int .i64 a5.1.2, .string (bas (u8s a6.1)), .slice none 0 0, .slice none 0 0]) := E6.out.call x1 x2
  have q9 : v7.cell? ⟨g0 + 2, 9, none⟩ = some (.slice none 0 0) := cellOf F.out.op 9
  have r9 : v7.frozen? ⟨g0 + 2, 9, none⟩ = false := frozenOf F.out.op 9
  have E7 : Hid (DW 76 w (v7.setCell ⟨g0 + 2, 9, none⟩ (.slice p7 a7.1.length c7)) (g0 + 1) g0 (g0 + 2) a7.2 #[.int .i64 a2.1.1, .int .i64 a2.1.2, .int .i64 a3.1, .int .i64 a1.1, .int .i64 a4.1.1, .int .i64 a4.1.2, .int .i64 a5.1.1, .int .i64 a5.1.2, .string (bas (u8s a6.1)), .slice p7 a7.1.length c7, .slice none 0 0]) := (F.out.set 9 (.slice p7 a7.1.length c7))
  have HP7 : Hid (Bytes (v7.setCell ⟨g0 + 2, 9, none⟩ (.slice p7 a7.1.length c7)) p7 a7.1 ∧ ∀ b o, p7 = some ⟨b, o, none⟩ → g0 + 2 < b) := by
    have hlt : g0 + 2 < ((v6.setCell ⟨g0 + 2, 8, none⟩ (.string (bas (u8s a6.1))))).heap.size := block_lt E6.out.op
    have hh : ∀ b o, p7 = some ⟨b, o, none⟩ → g0 + 2 < b := fun b o e => by have := y2 b o e; omega
    exact ⟨bytes_keep y1 (show Only (· = g0 + 2) _ _ from Only.setCell v7 ⟨g0 + 2, 9, none⟩ _ rfl) (fun b o h0 e => by have := hh b o e; omega), hh⟩
  clear x1 x2 k F y1 y2
  have k := qvector_any (g0 + 1) a7.2 _ E7.out.rd HS.out.2.2.2.2.2.2.2.1
  rw [HH.out.2.2.2.2.2.2.2] at k
  go_wp2_with fail
  refine (show Calls Tryz.prog 58 _ _ _ from k).mono ?_
  rintro e v8 ⟨p8, c8, ⟨rfl, x1, x2⟩, y1, y2⟩
  have F : Hid (DW 76 w v8 (g0 + 1) g0 (g0 + 2) a8.2 #[.int .i64 a2.1.1, .int .i64 a2.1.2, .int .i64 a3.1, .int .i64 a1.1, .int .i64 a4.1.1, .int .i64 a4.1.2, .int .i64 a5.1.1, .int .i64 a5.1.2, .string (bas (u8s a6.1)), .slice p7 a7.1.length c7, .slice none 0 0]) := E7.out.call x1 x2
  have q10 : v8.cell? ⟨g0 + 2, 10, none⟩ = some (.slice none 0 0) := cellOf F.out.op 10
  have r10 : v8.frozen? ⟨g0 + 2, 10, none⟩ = false := frozenOf F.out.op 10
  have E8 : Hid (DW 76 w (v8.setCell ⟨g0 + 2, 10, none⟩ (.slice p8 a8.1.length c8)) (g0 + 1) g0 (g0 + 2) a8.2 #[.int .i64 a2.1.1, .int .i64 a2.1.2, .int .i64 a3.1, .int .i64 a1.1, .int .i64 a4.1.1, .int .i64 a4.1.2, .int .i64 a5.1.1, .int .i64 a5.1.2, .string (bas (u8s a6.1)), .slice p7 a7.1.length c7, .slice p8 a8.1.length c8]) := (F.out.set 10 (.slice p8 a8.1.length c8))
  have HP8 : Hid (Bytes (v8.setCell ⟨g0 + 2, 10, none⟩ (.slice p8 a8.1.length c8)) p7 a7.1 ∧ Lies (v8.setCell ⟨g0 + 2, 10, none⟩ (.slice p8 a8.1.length c8)) p8 (a8.1.map nv) ∧ (∀ b o, p7 = some ⟨b, o, none⟩ → g0 + 2 < b) ∧ (∀ b o, p8 = some ⟨b, o, none⟩ → g0 + 2 < b)) := by
    have hlt : g0 + 2 < ((v7.setCell ⟨g0 + 2, 9, none⟩ (.slice p7 a7.1.length c7))).heap.size := block_lt E7.out.op
    have hh : ∀ b o, p8 = some ⟨b, o, none⟩ → g0 + 2 < b := fun b o e => by have := y2 b o e; omega
    exact ⟨bytes_keep (bytes_keep HP7.out.1 x2 (fun b o h0 e => by have := HP7.out.2 b o e; omega)) (show Only (· = g0 + 2) _ _ from Only.setCell v8 ⟨g0 + 2, 10, none⟩ _ rfl) (fun b o h0 e => by have := HP7.out.2 b o e; omega),
      lies_keep y1 (show Only (· = g0 + 2) _ _ from Only.setCell v8 ⟨g0 + 2, 10, none⟩ _ rfl) (fun b o h0 e => by have := hh b o e; omega), HP7.out.2, hh⟩
  clear x1 x2 k F y1 y2
  clear HP7
  have k := qdone_any (g0 + 1) a8.2 _ E8.out.rd
  have ⟨c_0, c_1, c_2, c_3, c_4, c_5, c_6, c_7, c_8, c_9, c_10⟩ : ((v8.setCell ⟨g0 + 2, 10, none⟩ (.slice p8 a8.1.length c8))).cell? ⟨g0 + 2, 0, none⟩ = some (.int .i64 a2.1.1) ∧ ((v8.setCell ⟨g0 + 2, 10, none⟩ (.slice p8 a8.1.length c8))).cell? ⟨g0 + 2, 1, none⟩ = some (.int .i64 a2.1.2) ∧ ((v8.setCell ⟨g0 + 2, 10, none⟩ (.slice p8 a8.1.length c8))).cell? ⟨g0 + 2, 2, none⟩ = some (.int .i64 a3.1) ∧ ((v8.setCell ⟨g0 + 2, 10, none⟩ (.slice p8 a8.1.length c8))).cell? ⟨g0 + 2, 3, none⟩ = some (.int .i64 a1.1) ∧ ((v8.setCell ⟨g0 + 2, 10, none⟩ (.slice p8 a8.1.length c8))).cell? ⟨g0 + 2, 4, none⟩ = some (.int .i64 a4.1.1) ∧ ((v8.setCell ⟨g0 + 2, 10, none⟩ (.slice p8 a8.1.length c8))).cell? ⟨g0 + 2, 5, none⟩ = some (.int .i64 a4.1.2) ∧ ((v8.setCell ⟨g0 + 2, 10, none⟩ (.slice p8 a8.1.length c8))).cell? ⟨g0 + 2, 6, none⟩ = some (.int .i64 a5.1.1) ∧ ((v8.setCell ⟨g0 + 2, 10, none⟩ (.slice p8 a8.1.length c8))).cell? ⟨g0 + 2, 7, none⟩ = some (.int .i64 a5.1.2) ∧ ((v8.setCell ⟨g0 + 2, 10, none⟩ (.slice p8 a8.1.length c8))).cell? ⟨g0 + 2, 8, none⟩ = some (.string (bas (u8s a6.1))) ∧ ((v8.setCell ⟨g0 + 2, 10, none⟩ (.slice p8 a8.1.length c8))).cell? ⟨g0 + 2, 9, none⟩ = some (.slice p7 a7.1.length c7) ∧ ((v8.setCell ⟨g0 + 2, 10, none⟩ (.slice p8 a8.1.length c8))).cell? ⟨g0 + 2, 10, none⟩ = some (.slice p8 a8.1.length c8) := ⟨cellOf E8.out.op 0, cellOf E8.out.op 1, cellOf E8.out.op 2, cellOf E8.out.op 3, cellOf E8.out.op 4, cellOf E8.out.op 5, cellOf E8.out.op 6, cellOf E8.out.op 7, cellOf E8.out.op 8, cellOf E8.out.op 9, cellOf E8.out.op 10⟩
  have HM : Hid (∀ W, Below ((v8.setCell ⟨g0 + 2, 10, none⟩ (.slice p8 a8.1.length c8))).heap.size ((v8.setCell ⟨g0 + 2, 10, none⟩ (.slice p8 a8.1.length c8))) W → Calls Tryz.prog 7 #[.agg #[.int .i64 a2.1.1, .int .i64 a2.1.2, .int .i64 a3.1, .int .i64 a1.1, .int .i64 a4.1.1, .int .i64 a4.1.2, .int .i64 a5.1.1, .int .i64 a5.1.2, .string (bas (u8s a6.1)), .slice p7 a7.1.length c7, .slice p8 a8.1.length c8]] W fun e w' => e = .returned (.bool o.may) ∧ Below W.heap.size W w') := fun W hW => by
    have := rmay_any a2.1.1 a2.1.2 a3.1 a1.1 a4.1.1 a4.1.2 a5.1.1 a5.1.2 (u8s a6.1) p7 p8 a7.1.length c7 a8.1.length c8 (zs a8.1) W (by have := HNL.out; omega) (by have := HNL.out; omega) (zs_length _) (by rw [zs_length]; have := HNL.out; omega) (by rw [zs_nv]; exact below_lies hW HP8.out.2.1)
    rw [HOE.out]
    exact this
  by_cases h8 : a8.2 = some []
  · rw [decide_eq_true h8] at k
    cases hm : o.may with
    | true =>
      rw [hm] at HM
      have HG : Hid (goodO bs = true ∧ decO bs = o) := by
        have : goodO bs = true := by unfold goodO; rw [HRR.out, decide_eq_true h8]; exact hm
        exact ⟨this, by unfold decO; rw [this, if_pos rfl, HRR.out]⟩
      clear hm h8
      go_wp2_with (first | (go_at_call 59; refine Calls_on k ?_; clear k) | (go_at_call 7; refine Calls_new (HM.out _ (Below.refl _ _)) ?_; clear HM; intro w9 hb9; have E9 : Hid (DW 76 w w9 (g0 + 1) g0 (g0 + 2) a8.2 #[.int .i64 a2.1.1, .int .i64 a2.1.2, .int .i64 a3.1, .int .i64 a1.1, .int .i64 a4.1.1, .int .i64 a4.1.2, .int .i64 a5.1.1, .int .i64 a5.1.2, .string (bas (u8s a6.1)), .slice p7 a7.1.length c7, .slice p8 a8.1.length c8]) := E8.out.keep hb9.out; have ⟨m_0, m_1, m_2, m_3, m_4, m_5, m_6, m_7, m_8, m_9, m_10⟩ : w9.cell? ⟨g0 + 2, 0, none⟩ = some (.int .i64 a2.1.1) ∧ w9.cell? ⟨g0 + 2, 1, none⟩ = some (.int .i64 a2.1.2) ∧ w9.cell? ⟨g0 + 2, 2, none⟩ = some (.int .i64 a3.1) ∧ w9.cell? ⟨g0 + 2, 3, none⟩ = some (.int .i64 a1.1) ∧ w9.cell? ⟨g0 + 2, 4, none⟩ = some (.int .i64 a4.1.1) ∧ w9.cell? ⟨g0 + 2, 5, none⟩ = some (.int .i64 a4.1.2) ∧ w9.cell? ⟨g0 + 2, 6, none⟩ = some (.int .i64 a5.1.1) ∧ w9.cell? ⟨g0 + 2, 7, none⟩ = some (.int .i64 a5.1.2) ∧ w9.cell? ⟨g0 + 2, 8, none⟩ = some (.string (bas (u8s a6.1))) ∧ w9.cell? ⟨g0 + 2, 9, none⟩ = some (.slice p7 a7.1.length c7) ∧ w9.cell? ⟨g0 + 2, 10, none⟩ = some (.slice p8 a8.1.length c8) := ⟨cellOf E9.out.op 0, cellOf E9.out.op 1, cellOf E9.out.op 2, cellOf E9.out.op 3, cellOf E9.out.op 4, cellOf E9.out.op 5, cellOf E9.out.op 6, cellOf E9.out.op 7, cellOf E9.out.op 8, cellOf E9.out.op 9, cellOf E9.out.op 10⟩; have ⟨z_0, z_1, z_2, z_3, z_4, z_5, z_6, z_7, z_8, z_9, z_10⟩ : w9.cell? ⟨g0, 0, none⟩ = some (.int .i64 0) ∧ w9.cell? ⟨g0, 1, none⟩ = some (.int .i64 0) ∧ w9.cell? ⟨g0, 2, none⟩ = some (.int .i64 0) ∧ w9.cell? ⟨g0, 3, none⟩ = some (.int .i64 0) ∧ w9.cell? ⟨g0, 4, none⟩ = some (.int .i64 0) ∧ w9.cell? ⟨g0, 5, none⟩ = some (.int .i64 0) ∧ w9.cell? ⟨g0, 6, none⟩ = some (.int .i64 0) ∧ w9.cell? ⟨g0, 7, none⟩ = some (.int .i64 0) ∧ w9.cell? ⟨g0, 8, none⟩ = some (.string ⟨#[]⟩) ∧ w9.cell? ⟨g0, 9, none⟩ = some (.slice none 0 0) ∧ w9.cell? ⟨g0, 10, none⟩ = some (.slice none 0 0) := ⟨cellOf E9.out.z 0, cellOf E9.out.z 1, cellOf E9.out.z 2, cellOf E9.out.z 3, cellOf E9.out.z 4, cellOf E9.out.z 5, cellOf E9.out.z 6, cellOf E9.out.z 7, cellOf E9.out.z 8, cellOf E9.out.z 9, cellOf E9.out.z 10⟩; have ⟨f_0, f_1, f_2, f_3, f_4, f_5, f_6, f_7, f_8, f_9, f_10⟩ : w9.frozen? ⟨g0, 0, none⟩ = false ∧ w9.frozen? ⟨g0, 1, none⟩ = false ∧ w9.frozen? ⟨g0, 2, none⟩ = false ∧ w9.frozen? ⟨g0, 3, none⟩ = false ∧ w9.frozen? ⟨g0, 4, none⟩ = false ∧ w9.frozen? ⟨g0, 5, none⟩ = false ∧ w9.frozen? ⟨g0, 6, none⟩ = false ∧ w9.frozen? ⟨g0, 7, none⟩ = false ∧ w9.frozen? ⟨g0, 8, none⟩ = false ∧ w9.frozen? ⟨g0, 9, none⟩ = false ∧ w9.frozen? ⟨g0, 10, none⟩ = false := ⟨frozenOf E9.out.z 0, frozenOf E9.out.z 1, frozenOf E9.out.z 2, frozenOf E9.out.z 3, frozenOf E9.out.z 4, frozenOf E9.out.z 5, frozenOf E9.out.z 6, frozenOf E9.out.z 7, frozenOf E9.out.z 8, frozenOf E9.out.z 9, frozenOf E9.out.z 10⟩))
      have her : er = true := by rw [← HER.out, HG.out.1]
      have HX := chain11 w9 g0 (.int .i64 a2.1.1) (.int .i64 a2.1.2) (.int .i64 a3.1) (.int .i64 a1.1) (.int .i64 a4.1.1) (.int .i64 a4.1.2) (.int .i64 a5.1.1) (.int .i64 a5.1.2) (.string (bas (u8s a6.1))) (.slice p7 a7.1.length c7) (.slice p8 a8.1.length c8)
      refine bodyPost_ret (v := .tuple #[.agg #[.int .i64 a2.1.1, .int .i64 a2.1.2, .int .i64 a3.1, .int .i64 a1.1, .int .i64 a4.1.1, .int .i64 a4.1.2, .int .i64 a5.1.1, .int .i64 a5.1.2, .string (bas (u8s a6.1)), .slice p7 a7.1.length c7, .slice p8 a8.1.length c8], .bool true]) (by simp [results, Tryz.results17, go_sem, z_0, z_1, z_2, z_3, z_4, z_5, z_6, z_7, z_8, z_9, z_10]) rfl ?_
      refine ⟨_, by rw [her], ⟨p7, c7, p8, c8, ?_, ?_, ?_⟩, ?_⟩
      · rw [HG.out.2, HOE.out]
        simp only [Opn.cells, zs_length]
      · rw [HG.out.2, HOE.out]
        exact HX.bytes (below_bytes hb9.out HP8.out.1) (fun b o h0 e hb => by have := HP8.out.2.2.1 b o e; have : b = g0 := hb; omega)
      · rw [HG.out.2, HOE.out]
        show Lies _ _ ((zs a8.1).map iv)
        rw [zs_nv]
        exact HX.lies (below_lies hb9.out HP8.out.2.1) (fun b o h0 e hb => by have := HP8.out.2.2.2 b o e; have : b = g0 := hb; omega)
      · exact E9.out.bel.trans (HX.below E9.out.bel.size (fun i hi => by have := E9.out.lo; have : i = g0 := hi; omega))
    | false =>
      rw [hm] at HM
      have HG : Hid (goodO bs = false ∧ decO bs = .zero) := by
        have : goodO bs = false := by unfold goodO; rw [HRR.out, decide_eq_true h8]; exact hm
        exact ⟨this, by unfold decO; rw [this]; rfl⟩
      clear hm h8
      go_wp2_with (first | (go_at_call 59; refine Calls_on k ?_; clear k) | (go_at_call 7; refine Calls_new (HM.out _ (Below.refl _ _)) ?_; clear HM; intro w9 hb9; have E9 : Hid (DW 76 w w9 (g0 + 1) g0 (g0 + 2) a8.2 #[.int .i64 a2.1.1, .int .i64 a2.1.2, .int .i64 a3.1, .int .i64 a1.1, .int .i64 a4.1.1, .int .i64 a4.1.2, .int .i64 a5.1.1, .int .i64 a5.1.2, .string (bas (u8s a6.1)), .slice p7 a7.1.length c7, .slice p8 a8.1.length c8]) := E8.out.keep hb9.out; have ⟨z_0, z_1, z_2, z_3, z_4, z_5, z_6, z_7, z_8, z_9, z_10⟩ : w9.cell? ⟨g0, 0, none⟩ = some (.int .i64 0) ∧ w9.cell? ⟨g0, 1, none⟩ = some (.int .i64 0) ∧ w9.cell? ⟨g0, 2, none⟩ = some (.int .i64 0) ∧ w9.cell? ⟨g0, 3, none⟩ = some (.int .i64 0) ∧ w9.cell? ⟨g0, 4, none⟩ = some (.int .i64 0) ∧ w9.cell? ⟨g0, 5, none⟩ = some (.int .i64 0) ∧ w9.cell? ⟨g0, 6, none⟩ = some (.int .i64 0) ∧ w9.cell? ⟨g0, 7, none⟩ = some (.int .i64 0) ∧ w9.cell? ⟨g0, 8, none⟩ = some (.string ⟨#[]⟩) ∧ w9.cell? ⟨g0, 9, none⟩ = some (.slice none 0 0) ∧ w9.cell? ⟨g0, 10, none⟩ = some (.slice none 0 0) := ⟨cellOf E9.out.z 0, cellOf E9.out.z 1, cellOf E9.out.z 2, cellOf E9.out.z 3, cellOf E9.out.z 4, cellOf E9.out.z 5, cellOf E9.out.z 6, cellOf E9.out.z 7, cellOf E9.out.z 8, cellOf E9.out.z 9, cellOf E9.out.z 10⟩; have ⟨f_0, f_1, f_2, f_3, f_4, f_5, f_6, f_7, f_8, f_9, f_10⟩ : w9.frozen? ⟨g0, 0, none⟩ = false ∧ w9.frozen? ⟨g0, 1, none⟩ = false ∧ w9.frozen? ⟨g0, 2, none⟩ = false ∧ w9.frozen? ⟨g0, 3, none⟩ = false ∧ w9.frozen? ⟨g0, 4, none⟩ = false ∧ w9.frozen? ⟨g0, 5, none⟩ = false ∧ w9.frozen? ⟨g0, 6, none⟩ = false ∧ w9.frozen? ⟨g0, 7, none⟩ = false ∧ w9.frozen? ⟨g0, 8, none⟩ = false ∧ w9.frozen? ⟨g0, 9, none⟩ = false ∧ w9.frozen? ⟨g0, 10, none⟩ = false := ⟨frozenOf E9.out.z 0, frozenOf E9.out.z 1, frozenOf E9.out.z 2, frozenOf E9.out.z 3, frozenOf E9.out.z 4, frozenOf E9.out.z 5, frozenOf E9.out.z 6, frozenOf E9.out.z 7, frozenOf E9.out.z 8, frozenOf E9.out.z 9, frozenOf E9.out.z 10⟩))
      have her : er = false := by rw [← HER.out, HG.out.1]
      have HX := chain11 w9 g0 (.int .i64 0) (.int .i64 0) (.int .i64 0) (.int .i64 0) (.int .i64 0) (.int .i64 0) (.int .i64 0) (.int .i64 0) (.string ⟨#[]⟩) (.slice none 0 0) (.slice none 0 0)
      refine bodyPost_ret (v := .tuple #[.agg #[.int .i64 0, .int .i64 0, .int .i64 0, .int .i64 0, .int .i64 0, .int .i64 0, .int .i64 0, .int .i64 0, .string ⟨#[]⟩, .slice none 0 0, .slice none 0 0], .bool false]) (by simp [results, Tryz.results17, go_sem, z_0, z_1, z_2, z_3, z_4, z_5, z_6, z_7, z_8, z_9, z_10]) rfl ?_
      refine ⟨_, by rw [her], ?_, ?_⟩
      · rw [HG.out.2]; exact (OpAt.zero _).weak
      · exact E9.out.bel.trans (HX.below E9.out.bel.size (fun i hi => by have := E9.out.lo; have : i = g0 := hi; omega))
  · rw [decide_eq_false h8] at k
    have HG : Hid (goodO bs = false ∧ decO bs = .zero) := by
      have : goodO bs = false := by unfold goodO; rw [HRR.out, decide_eq_false h8]; rfl
      exact ⟨this, by unfold decO; rw [this]; rfl⟩
    have ⟨z_0, z_1, z_2, z_3, z_4, z_5, z_6, z_7, z_8, z_9, z_10⟩ : ((v8.setCell ⟨g0 + 2, 10, none⟩ (.slice p8 a8.1.length c8))).cell? ⟨g0, 0, none⟩ = some (.int .i64 0) ∧ ((v8.setCell ⟨g0 + 2, 10, none⟩ (.slice p8 a8.1.length c8))).cell? ⟨g0, 1, none⟩ = some (.int .i64 0) ∧ ((v8.setCell ⟨g0 + 2, 10, none⟩ (.slice p8 a8.1.length c8))).cell? ⟨g0, 2, none⟩ = some (.int .i64 0) ∧ ((v8.setCell ⟨g0 + 2, 10, none⟩ (.slice p8 a8.1.length c8))).cell? ⟨g0, 3, none⟩ = some (.int .i64 0) ∧ ((v8.setCell ⟨g0 + 2, 10, none⟩ (.slice p8 a8.1.length c8))).cell? ⟨g0, 4, none⟩ = some (.int .i64 0) ∧ ((v8.setCell ⟨g0 + 2, 10, none⟩ (.slice p8 a8.1.length c8))).cell? ⟨g0, 5, none⟩ = some (.int .i64 0) ∧ ((v8.setCell ⟨g0 + 2, 10, none⟩ (.slice p8 a8.1.length c8))).cell? ⟨g0, 6, none⟩ = some (.int .i64 0) ∧ ((v8.setCell ⟨g0 + 2, 10, none⟩ (.slice p8 a8.1.length c8))).cell? ⟨g0, 7, none⟩ = some (.int .i64 0) ∧ ((v8.setCell ⟨g0 + 2, 10, none⟩ (.slice p8 a8.1.length c8))).cell? ⟨g0, 8, none⟩ = some (.string ⟨#[]⟩) ∧ ((v8.setCell ⟨g0 + 2, 10, none⟩ (.slice p8 a8.1.length c8))).cell? ⟨g0, 9, none⟩ = some (.slice none 0 0) ∧ ((v8.setCell ⟨g0 + 2, 10, none⟩ (.slice p8 a8.1.length c8))).cell? ⟨g0, 10, none⟩ = some (.slice none 0 0) := ⟨cellOf E8.out.z 0, cellOf E8.out.z 1, cellOf E8.out.z 2, cellOf E8.out.z 3, cellOf E8.out.z 4, cellOf E8.out.z 5, cellOf E8.out.z 6, cellOf E8.out.z 7, cellOf E8.out.z 8, cellOf E8.out.z 9, cellOf E8.out.z 10⟩; have ⟨f_0, f_1, f_2, f_3, f_4, f_5, f_6, f_7, f_8, f_9, f_10⟩ : ((v8.setCell ⟨g0 + 2, 10, none⟩ (.slice p8 a8.1.length c8))).frozen? ⟨g0, 0, none⟩ = false ∧ ((v8.setCell ⟨g0 + 2, 10, none⟩ (.slice p8 a8.1.length c8))).frozen? ⟨g0, 1, none⟩ = false ∧ ((v8.setCell ⟨g0 + 2, 10, none⟩ (.slice p8 a8.1.length c8))).frozen? ⟨g0, 2, none⟩ = false ∧ ((v8.setCell ⟨g0 + 2, 10, none⟩ (.slice p8 a8.1.length c8))).frozen? ⟨g0, 3, none⟩ = false ∧ ((v8.setCell ⟨g0 + 2, 10, none⟩ (.slice p8 a8.1.length c8))).frozen? ⟨g0, 4, none⟩ = false ∧ ((v8.setCell ⟨g0 + 2, 10, none⟩ (.slice p8 a8.1.length c8))).frozen? ⟨g0, 5, none⟩ = false ∧ ((v8.setCell ⟨g0 + 2, 10, none⟩ (.slice p8 a8.1.length c8))).frozen? ⟨g0, 6, none⟩ = false ∧ ((v8.setCell ⟨g0 + 2, 10, none⟩ (.slice p8 a8.1.length c8))).frozen? ⟨g0, 7, none⟩ = false ∧ ((v8.setCell ⟨g0 + 2, 10, none⟩ (.slice p8 a8.1.length c8))).frozen? ⟨g0, 8, none⟩ = false ∧ ((v8.setCell ⟨g0 + 2, 10, none⟩ (.slice p8 a8.1.length c8))).frozen? ⟨g0, 9, none⟩ = false ∧ ((v8.setCell ⟨g0 + 2, 10, none⟩ (.slice p8 a8.1.length c8))).frozen? ⟨g0, 10, none⟩ = false := ⟨frozenOf E8.out.z 0, frozenOf E8.out.z 1, frozenOf E8.out.z 2, frozenOf E8.out.z 3, frozenOf E8.out.z 4, frozenOf E8.out.z 5, frozenOf E8.out.z 6, frozenOf E8.out.z 7, frozenOf E8.out.z 8, frozenOf E8.out.z 9, frozenOf E8.out.z 10⟩
    clear h8 HM
    go_wp2_with (go_at_call 59; refine Calls_on k ?_; clear k)
    have her : er = false := by rw [← HER.out, HG.out.1]
    have HX := chain11 ((v8.setCell ⟨g0 + 2, 10, none⟩ (.slice p8 a8.1.length c8))) g0 (.int .i64 0) (.int .i64 0) (.int .i64 0) (.int .i64 0) (.int .i64 0) (.int .i64 0) (.int .i64 0) (.int .i64 0) (.string ⟨#[]⟩) (.slice none 0 0) (.slice none 0 0)
    refine bodyPost_ret (v := .tuple #[.agg #[.int .i64 0, .int .i64 0, .int .i64 0, .int .i64 0, .int .i64 0, .int .i64 0, .int .i64 0, .int .i64 0, .string ⟨#[]⟩, .slice none 0 0, .slice none 0 0], .bool false]) (by simp [results, Tryz.results17, go_sem, z_0, z_1, z_2, z_3, z_4, z_5, z_6, z_7, z_8, z_9, z_10]) rfl ?_
    refine ⟨_, by rw [her], ?_, ?_⟩
    · rw [HG.out.2]; exact (OpAt.zero _).weak
    · exact E8.out.bel.trans (HX.below E8.out.bel.size (fun i hi => by have := E8.out.lo; have : i = g0 := hi; omega))

end Go.Proofs.YtegjageenofbjaaGreat.Cd
