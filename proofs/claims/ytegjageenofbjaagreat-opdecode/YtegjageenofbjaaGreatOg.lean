/-
  An operation is written: ops.Encode, ops.Cost.
-/
import Derived.Test.YtegjageenofbjaaGreatOe
namespace Go.Proofs.YtegjageenofbjaaGreat.Cd
open Go.RowKit Go.Maps

attribute [local go_sem] Oper.semAt_some

/-- The words of an operation; its bytes. -/
def partsO (t n sq kd ot on pt pn : Int) (nm : List UInt8) (data : List (BitVec 8)) (ns : List Int) : List St :=
  [eNum kd, eID t n, eNum sq, eID ot on, eID pt pn, eBytes (bvs nm), eBytes data, eVec ns]
def bytesO (t n sq kd ot on pt pn : Int) (nm : List UInt8) (data : List (BitVec 8)) (ns : List Int) : List (BitVec 8) :=
  ((partsO t n sq kd ot on pt pn nm data ns).map fun s => s.getD []).flatten
theorem valid_id {t n : Int} (h : Ck.validB t n = true) : ∃ e, eID t n = some e := by
  obtain ⟨h1, h2, h3, h4⟩ := Ck.validB_true.1 h
  unfold eID
  rw [if_pos (by omega)]
  exact ⟨_, rfl⟩
theorem small_id {t n : Int} (h0 : 0 ≤ t) (h1 : t ≤ 1152921504606846976) (h2 : 0 ≤ n) (h3 : n < 64) : ∃ e, eID t n = some e := by
  unfold eID
  rw [if_pos (by omega)]
  exact ⟨_, rfl⟩
theorem older_id {a b t n : Int} (h : olderB a b t n = true) : ∃ e, eID a b = some e := by
  unfold olderB at h
  rw [Bool.and_eq_true] at h
  exact valid_id h.1
theorem fine_len {nm : List UInt8} (h : nameN nm = 0) : nm.length ≤ 64 := by
  unfold nameN fineN at h
  split at h
  · omega
  split at h
  · omega
  split at h
  · omega
  split at h
  · omega
  · omega
/-- An operation that may be can be written. -/
theorem may_parts {t n sq kd ot on pt pn : Int} {nm : List UInt8} {data : List (BitVec 8)} {ns : List Int} (h : mayO t n sq kd ot on pt pn nm data.length ns = true) :
    (∃ e, eNum kd = some e) ∧ (∃ e, eID t n = some e) ∧ (∃ e, eNum sq = some e) ∧ (∃ e, eID ot on = some e) ∧ (∃ e, eID pt pn = some e) ∧ (∃ e, eBytes (bvs nm) = some e) ∧ (∃ e, eBytes data = some e) ∧ (∃ e, eVec ns = some e) ∧ nm.length ≤ 64 ∧ data.length ≤ 65536 := by
  unfold mayO countB at h
  simp only [Bool.and_eq_true, decide_eq_true_eq] at h
  obtain ⟨⟨hv, ⟨⟨⟨h1, h2⟩, h3⟩, h4⟩⟩, hk⟩ := h
  have hst := valid_id hv
  have hsq : ∃ e, eNum sq = some e := ⟨_, by unfold eNum; rw [if_pos (by omega)]⟩
  have hvec : ∃ e, eVec ns = some e := ⟨_, by unfold eVec; rw [if_pos h3]⟩
  have hnum : ∀ k : Int, 1 ≤ k → k ≤ 4 → ∃ e, eNum k = some e := fun k a b => ⟨_, by unfold eNum; rw [if_pos (by omega)]⟩
  have hby : ∀ cs : List (BitVec 8), cs.length ≤ 65536 → ∃ e, eBytes cs = some e := fun cs hc => ⟨_, by unfold eBytes; rw [if_pos hc]⟩
  have hroot : rootB pt pn = true → ∃ e, eID pt pn = some e := fun h => by
    obtain ⟨rfl, rfl⟩ := rootB_true.1 h
    exact small_id (by decide) (by decide) (by decide) (by decide)
  have htrash : trashB pt pn = true → ∃ e, eID pt pn = some e := fun h => by
    obtain ⟨rfl, rfl⟩ := trashB_true.1 h
    exact small_id (by decide) (by decide) (by decide) (by decide)
  unfold kindB at hk
  split at hk
  · next h12 =>
    simp only [Bool.and_eq_true, Bool.or_eq_true, placedB, decide_eq_true_eq] at hk
    obtain ⟨⟨hs, hp⟩, hn, hd⟩ := hk
    obtain ⟨rfl, rfl⟩ := sameB_true.1 hs
    have := fine_len hn
    refine ⟨hnum kd (by omega) (by omega), hst, hsq, hst, ?_, hby _ (by rw [bvs_length]; omega), hby _ (by omega), hvec, this, by omega⟩
    rcases hp with h | h
    · exact hroot h
    · exact older_id h
  split at hk
  · next h12 h3 =>
    simp only [Bool.and_eq_true, Bool.or_eq_true, placedB, decide_eq_true_eq] at hk
    obtain ⟨⟨ho, hp⟩, hn, hd⟩ := hk
    have := fine_len hn
    refine ⟨hnum kd (by omega) (by omega), hst, hsq, older_id ho, ?_, hby _ (by rw [bvs_length]; omega), hby _ (by omega), hvec, this, by omega⟩
    rcases hp with (h | h) | h
    · exact hroot h
    · exact older_id h
    · exact htrash h
  split at hk
  · next h12 h3 h4 =>
    simp only [Bool.and_eq_true, decide_eq_true_eq] at hk
    obtain ⟨⟨⟨ho, hp⟩, hn⟩, hd⟩ := hk
    subst hn
    exact ⟨hnum kd (by omega) (by omega), hst, hsq, older_id ho, hroot hp, hby _ (by decide), hby _ hd, hvec, by decide, hd⟩
  · exact absurd hk (by decide)

/-- The writer while an operation is written. -/
structure EW (w0 w : World) (a : Nat) (s : St) : Prop where
  wr : Wr w a s
  bel : Below a w0 w
theorem EW.next {w0 w w' : World} {a : Nat} {s s' : St} (h : EW w0 w a s) (hw : Wr w' a s') (hs : Step w w' a) : EW w0 w' a s' :=
  ⟨hw, h.bel.trans (hs.below h.wr (Nat.le_refl _))⟩
theorem EW.apart {w0 w : World} {a : Nat} {s : St} (h : EW w0 w a s) {b : Nat} (hb : b < a) : ¬ wset w a b := fun e => by
  have := (h.wr.lo e).1
  omega
theorem bytes_under {a : Nat} {w0 w : World} (h : Below a w0 w) {p : Option Addr} {bs : List (BitVec 8)} (hb : Bytes w0 p bs) (hl : ∀ b o, 0 < bs.length → p = some ⟨b, o, none⟩ → b < a) : Bytes w p bs := by
  intro h0
  obtain ⟨b, o, e, hc⟩ := hb h0
  refine ⟨b, o, e, fun j x hj => ?_⟩
  exact (World.cell?_of_block (w := w0) (a := ⟨b, o + j, none⟩) (h.block b (hl b o h0 e))).trans (hc j x hj)
theorem lies_under {a : Nat} {w0 w : World} (h : Below a w0 w) {p : Option Addr} {bs : List Value} (hb : Lies w0 p bs) (hl : ∀ b o, 0 < bs.length → p = some ⟨b, o, none⟩ → b < a) : Lies w p bs := by
  intro h0
  obtain ⟨b, o, e, hc⟩ := hb h0
  refine ⟨b, o, e, fun j x hj => ?_⟩
  exact (World.cell?_of_block (w := w0) (a := ⟨b, o + j, none⟩) (h.block b (hl b o h0 e))).trans (hc j x hj)
theorem bytes_lt {w : World} {p : Option Addr} {bs : List (BitVec 8)} (hb : Bytes w p bs) : ∀ b o, 0 < bs.length → p = some ⟨b, o, none⟩ → b < w.heap.size := fun b o h0 e => by
  obtain ⟨b', o', e', hc⟩ := hb h0
  rw [e] at e'; cases e'
  exact cell_lt (hc 0 _ (List.getElem?_eq_getElem h0))
theorem lies_lt {w : World} {p : Option Addr} {bs : List Value} (hb : Lies w p bs) : ∀ b o, 0 < bs.length → p = some ⟨b, o, none⟩ → b < w.heap.size := fun b o h0 e => by
  obtain ⟨b', o', e', hc⟩ := hb h0
  rw [e] at e'; cases e'
  exact cell_lt (hc 0 _ (List.getElem?_eq_getElem h0))
theorem few_of {k : Nat} {bs : List (BitVec 8)} (h : bs.length ≤ 1000000) (hk : k ≤ 1000) : Few k (some bs) := by unfold Few; simp; omega
theorem num_len {n : Int} {e : List (BitVec 8)} (h : eNum n = some e) : e.length ≤ 9 := by
  unfold eNum at h
  split at h
  · cases h; exact numB_len9 _ (by omega)
  · cases h
theorem id_len {a b : Int} {e : List (BitVec 8)} (h : eID a b = some e) : e.length ≤ 18 := by
  unfold eID at h
  split at h
  · cases h
    rw [List.length_append]
    have := numB_len9 a.toNat (by omega)
    have := numB_len9 b.toNat (by omega)
    omega
  · cases h
theorem by_len {cs e : List (BitVec 8)} (h : eBytes cs = some e) : e.length ≤ 9 + cs.length := by
  unfold eBytes at h
  split at h
  · cases h
    rw [List.length_append]
    have := numB_len9 cs.length (by omega)
    omega
  · cases h

/-- What Encode answers. -/
def EncR (w : World) (may : Bool) (bs : List (BitVec 8)) (e : Ending) (w' : World) : Prop :=
  ∃ v, e = .returned (.tuple #[v, .int .i64 (if may then 0 else 22)]) ∧ Cloned w (if may then bs else []) v w'

set_option maxRecDepth 8000 in
set_option maxHeartbeats 2000000 in
theorem encode_any (t n sq kd ot on pt pn : Int) (nm : List UInt8) (p q : Option Addr) (l c m d : Nat) (data : List (BitVec 8)) (ns : List Int) (w : World) (hs : nm.length < 1000000000000000) (hl : l = data.length) (hll : l < 9000000000000000000) (hm : m = ns.length) (hml : ns.length ≤ 1000) (hd : ns.length ≤ d) (hp : Bytes w p data) (hq : Lies w q (ns.map iv)) :
    Calls Tryz.prog 9 #[.agg #[.int .i64 t, .int .i64 n, .int .i64 sq, .int .i64 kd, .int .i64 ot, .int .i64 on, .int .i64 pt, .int .i64 pn, .string (bas nm), .slice p l c, .slice q m d]] w (EncR w (mayO t n sq kd ot on pt pn nm data.length ns) (bytesO t n sq kd ot on pt pn nm data ns)) := by
  have H9 : Hid (OpB (w.alloc (.cells #[.int .i64 t, .int .i64 n, .int .i64 sq, .int .i64 kd, .int .i64 ot, .int .i64 on, .int .i64 pt, .int .i64 pn, .string (bas nm), .slice p l c, .slice q m d] 28)) w.heap.size t n sq kd ot on pt pn nm p q l c m d) := OpB.made w t n sq kd ot on pt pn nm p q l c m d
  have B0 : Hid (∀ o, Below w.heap.size w (w.alloc o)) := fun o => (below_new w o).out
  have HG : Hid (∀ o W, Below (w.alloc o).heap.size (w.alloc o) W → Below w.heap.size w W) := fun o W h => (B0.out o).trans (h.mono (B0.out o).size)
  have HK : Hid (∀ W, OpB W w.heap.size t n sq kd ot on pt pn nm p q l c m d → W.cell? ⟨w.heap.size, 0, none⟩ = some (.int .i64 t) ∧ W.cell? ⟨w.heap.size, 1, none⟩ = some (.int .i64 n) ∧ W.cell? ⟨w.heap.size, 2, none⟩ = some (.int .i64 sq) ∧ W.cell? ⟨w.heap.size, 3, none⟩ = some (.int .i64 kd) ∧ W.cell? ⟨w.heap.size, 4, none⟩ = some (.int .i64 ot) ∧ W.cell? ⟨w.heap.size, 5, none⟩ = some (.int .i64 on) ∧ W.cell? ⟨w.heap.size, 6, none⟩ = some (.int .i64 pt) ∧ W.cell? ⟨w.heap.size, 7, none⟩ = some (.int .i64 pn) ∧ W.cell? ⟨w.heap.size, 8, none⟩ = some (.string (bas nm)) ∧ W.cell? ⟨w.heap.size, 9, none⟩ = some (.slice p l c) ∧ W.cell? ⟨w.heap.size, 10, none⟩ = some (.slice q m d)) := fun W h => h.cells
  have HM : Hid (∀ W, Below w.heap.size w W → Calls Tryz.prog 10 #[.agg #[.int .i64 t, .int .i64 n, .int .i64 sq, .int .i64 kd, .int .i64 ot, .int .i64 on, .int .i64 pt, .int .i64 pn, .string (bas nm), .slice p l c, .slice q m d]] W fun e w' => e = .returned (.bool (mayO t n sq kd ot on pt pn nm data.length ns)) ∧ Below W.heap.size W w') := fun W hW => by
    rw [← hl]
    exact omay_any t n sq kd ot on pt pn nm p q l c m d ns W hs hll hm.symm (by omega) hd (below_lies hW hq)
  cases hmay : mayO t n sq kd ot on pt pn nm data.length ns with
  | false =>
    rw [hmay] at HM
    clear hmay hs hl hll hm hml hd hp hq
    go_enter Tryz.func9, Tryz.ntmps9
    go_wp2_with (go_at_call 10; refine Calls_new (HM.out _ (B0.out _)) ?_; clear HM; intro w2 hb2)
    go_ret2
    exact ⟨_, rfl, World.ownsRow_nil _ _ _ _, HG.out _ _ hb2.out⟩
  | true =>
    rw [hmay] at HM
    obtain ⟨⟨e1, h1⟩, ⟨e2, h2⟩, ⟨e3, h3⟩, ⟨e4, h4⟩, ⟨e5, h5⟩, ⟨e6, h6⟩, ⟨e7, h7⟩, ⟨e8, h8⟩, hnl, hdl⟩ := may_parts hmay
    have HBY : Hid (bytesO t n sq kd ot on pt pn nm data ns = e1 ++ (e2 ++ (e3 ++ (e4 ++ (e5 ++ (e6 ++ (e7 ++ e8))))))) := by
      show _ = _
      unfold bytesO partsO
      rw [h1, h2, h3, h4, h5, h6, h7, h8]
      simp
    have l1 := num_len h1
    have l2 := id_len h2
    have l3 := num_len h3
    have l4 := id_len h4
    have l5 := id_len h5
    have l6 := by_len h6
    rw [bvs_length] at l6
    have l7 := by_len h7
    have HL : Hid (e1.length ≤ 9 ∧ e2.length ≤ 18 ∧ e3.length ≤ 9 ∧ e4.length ≤ 18 ∧ e5.length ≤ 18 ∧ e6.length ≤ 100 ∧ e7.length ≤ 70000) := ⟨l1, l2, l3, l4, l5, by omega, by omega⟩
    have HS1 : Hid (wnum kd 4611686018427387904 (some []) = some e1) := by show _ = _; rw [w_num, h1]; rfl
    have HS2 : Hid (wid t n (some e1) = some (e1 ++ e2)) := by show _ = _; rw [w_id, h2]; rfl
    have HS3 : Hid (wnum sq 4611686018427387904 (some (e1 ++ e2)) = some (e1 ++ e2 ++ e3)) := by show _ = _; rw [w_num, h3]; rfl
    have HS4 : Hid (wid ot on (some (e1 ++ e2 ++ e3)) = some (e1 ++ e2 ++ e3 ++ e4)) := by show _ = _; rw [w_id, h4]; rfl
    have HS5 : Hid (wid pt pn (some (e1 ++ e2 ++ e3 ++ e4)) = some (e1 ++ e2 ++ e3 ++ e4 ++ e5)) := by show _ = _; rw [w_id, h5]; rfl
    have HS6 : Hid (wbytes (bvs nm) (some (e1 ++ e2 ++ e3 ++ e4 ++ e5)) = some (e1 ++ e2 ++ e3 ++ e4 ++ e5 ++ e6)) := by show _ = _; rw [w_bytes, h6]; rfl
    have HS7 : Hid (wbytes data (some (e1 ++ e2 ++ e3 ++ e4 ++ e5 ++ e6)) = some (e1 ++ e2 ++ e3 ++ e4 ++ e5 ++ e6 ++ e7)) := by show _ = _; rw [w_bytes, h7]; rfl
    have HS8 : Hid (wvec ns (some (e1 ++ e2 ++ e3 ++ e4 ++ e5 ++ e6 ++ e7)) = some (e1 ++ e2 ++ e3 ++ e4 ++ e5 ++ e6 ++ e7 ++ e8)) := by show _ = _; rw [w_vec, h8]; rfl
    have HST : Hid (strOf (bvs nm) = bas nm) := strOf_bvs nm
    have HP : Hid (Bytes w p data) := hp
    have HQ : Hid (Lies w q (ns.map iv)) := hq
    have HLL : Hid (l = data.length) := hl
    have HMM : Hid (m = ns.length) := hm
    have HD : Hid (ns.length ≤ d ∧ ns.length ≤ 1000) := ⟨hd, hml⟩
    have HE8 : Hid (e8.length ≤ 1000) := by
      have : eVec ns = some e8 := h8
      unfold eVec at this
      split at this
      · cases this
        have g1 := numB_len9 (normOf ns).length (by have := normOf_le ns; omega)
        have g2 := numsB_len (normOf ns) (normOf_ok ns)
        have g3 := normOf_le ns
        show _ ≤ _
        rw [List.length_append]
        omega
      · cases this
    clear hmay h1 h2 h3 h4 h5 h6 h7 h8 l1 l2 l3 l4 l5 l6 l7 hnl hdl hs hl hll hm hml hd hp hq
    go_enter Tryz.func9, Tryz.ntmps9
    go_wp2_with (go_at_call 10; refine Calls_new (HM.out _ (B0.out _)) ?_; clear HM; intro w2 hb2)
    refine (newWriter_any w2).mono ?_
    rintro e w3 ⟨rfl, rfl⟩
    have HW2 : Hid (w.heap.size < w2.heap.size) := by
      have := hb2.out.size
      simp at this
      show _ < _
      omega
    have HO2 : Hid (OpB w2 w.heap.size t n sq kd ot on pt pn nm p q l c m d) := H9.out.below hb2.out
    have HB2 : Hid (Below w.heap.size w w2) := HG.out _ _ hb2.out
    obtain ⟨a, ha⟩ : ∃ a, a = w2.heap.size := ⟨_, rfl⟩
    have HA : Hid (a = w2.heap.size) := ha
    have E0 : Hid (EW (w2.alloc (.cells #[.slice none 0 0, .bool false] 79)) (w2.alloc (.cells #[.slice none 0 0, .bool false] 79)) a (some [])) := by
      show EW _ _ _ _
      rw [ha]
      exact ⟨newWriter_wr w2, Below.refl _ _⟩
    rw [← ha]
    obtain ⟨w0, hw0⟩ : ∃ w0, w0 = w2.alloc (.cells #[.slice none 0 0, .bool false] 79) := ⟨_, rfl⟩
    have HB3 : Hid (Below w2.heap.size w2 w0) := by show Below _ _ _; rw [hw0]; exact (below_new w2 _).out
    rw [← hw0] at E0
    rw [← hw0]
    clear ha hw0 hb2 H9
    have HC : Hid (∀ W s, EW w0 W a s → W.cell? ⟨w.heap.size, 0, none⟩ = some (.int .i64 t) ∧ W.cell? ⟨w.heap.size, 1, none⟩ = some (.int .i64 n) ∧ W.cell? ⟨w.heap.size, 2, none⟩ = some (.int .i64 sq) ∧ W.cell? ⟨w.heap.size, 3, none⟩ = some (.int .i64 kd) ∧ W.cell? ⟨w.heap.size, 4, none⟩ = some (.int .i64 ot) ∧ W.cell? ⟨w.heap.size, 5, none⟩ = some (.int .i64 on) ∧ W.cell? ⟨w.heap.size, 6, none⟩ = some (.int .i64 pt) ∧ W.cell? ⟨w.heap.size, 7, none⟩ = some (.int .i64 pn) ∧ W.cell? ⟨w.heap.size, 8, none⟩ = some (.string (bas nm)) ∧ W.cell? ⟨w.heap.size, 9, none⟩ = some (.slice p l c) ∧ W.cell? ⟨w.heap.size, 10, none⟩ = some (.slice q m d)) := fun W s h => by
      refine HK.out W (((h.bel.block w.heap.size (by have := HW2.out; have := HA.out; omega)).trans ?_).trans HO2.out)
      exact HB3.out.block _ HW2.out
    have HPW : Hid (∀ W s, EW w0 W a s → Bytes W p data) := fun W s h => by
      refine bytes_under h.bel (below_bytes HB3.out (below_bytes HB2.out HP.out)) (fun b o h0 e => ?_)
      have := bytes_lt HP.out b o h0 e
      have := HW2.out; have := HA.out; omega
    have HQW : Hid (∀ W s, EW w0 W a s → Lies W q (ns.map iv)) := fun W s h => by
      refine lies_under h.bel (below_lies HB3.out (below_lies HB2.out HQ.out)) (fun b o h0 e => ?_)
      have := lies_lt HQ.out b o h0 e
      have := HW2.out; have := HA.out; omega
    have HNP : Hid (∀ W s, EW w0 W a s → ∀ b o, 0 < data.length → p = some ⟨b, o, none⟩ → ¬ wset W a b) := fun W s h b o h0 e => by
      have := bytes_lt HP.out b o h0 e
      exact h.apart (by have := HW2.out; have := HA.out; omega)
    have HNQ : Hid (∀ W s, EW w0 W a s → ∀ b o, 0 < ns.length → q = some ⟨b, o, none⟩ → ¬ wset W a b) := fun W s h b o h0 e => by
      have := lies_lt HQ.out b o (by simpa using h0) e
      exact h.apart (by have := HW2.out; have := HA.out; omega)
    have HF : Hid (∀ (k : Nat) (bs : List (BitVec 8)), bs.length ≤ 1000000 → k ≤ 1000 → Few k (some bs)) := fun k bs h1 h2 => few_of h1 h2
    have ⟨c0_0, c0_1, c0_2, c0_3, c0_4, c0_5, c0_6, c0_7, c0_8, c0_9, c0_10⟩ := HC.out _ _ E0.out
    have k0 := num_any kd a (some []) _ E0.out.wr (HF.out 0 [] (by decide) (by decide))
    rw [HS1.out] at k0
    go_wp2_with fail
    refine (show Calls Tryz.prog 35 _ _ _ from k0).mono ?_
    rintro e v1 ⟨rfl, x1, x2⟩
    have E1 : Hid (EW w0 v1 a _) := E0.out.next x1 x2
    clear x1 x2 k0 c0_0 c0_1 c0_2 c0_3 c0_4 c0_5 c0_6 c0_7 c0_8 c0_9 c0_10
    have ⟨c1_0, c1_1, c1_2, c1_3, c1_4, c1_5, c1_6, c1_7, c1_8, c1_9, c1_10⟩ := HC.out _ _ E1.out
    have k1 := wid_any t n a (some e1) _ E1.out.wr (HF.out 2 _ (by have := HL.out; omega) (by decide))
    rw [HS2.out] at k1
    go_wp2_with fail
    refine (show Calls Tryz.prog 36 _ _ _ from k1).mono ?_
    rintro e v2 ⟨rfl, x1, x2⟩
    have E2 : Hid (EW w0 v2 a _) := E1.out.next x1 x2
    clear x1 x2 k1 c1_0 c1_1 c1_2 c1_3 c1_4 c1_5 c1_6 c1_7 c1_8 c1_9 c1_10
    have ⟨c2_0, c2_1, c2_2, c2_3, c2_4, c2_5, c2_6, c2_7, c2_8, c2_9, c2_10⟩ := HC.out _ _ E2.out
    have k2 := num_any sq a (some (e1 ++ e2)) _ E2.out.wr (HF.out 0 _ (by have := HL.out; simp; omega) (by decide))
    rw [HS3.out] at k2
    go_wp2_with fail
    refine (show Calls Tryz.prog 35 _ _ _ from k2).mono ?_
    rintro e v3 ⟨rfl, x1, x2⟩
    have E3 : Hid (EW w0 v3 a _) := E2.out.next x1 x2
    clear x1 x2 k2 c2_0 c2_1 c2_2 c2_3 c2_4 c2_5 c2_6 c2_7 c2_8 c2_9 c2_10
    have ⟨c3_0, c3_1, c3_2, c3_3, c3_4, c3_5, c3_6, c3_7, c3_8, c3_9, c3_10⟩ := HC.out _ _ E3.out
    have k3 := wid_any ot on a (some (e1 ++ e2 ++ e3)) _ E3.out.wr (HF.out 2 _ (by have := HL.out; simp; omega) (by decide))
    rw [HS4.out] at k3
    go_wp2_with fail
    refine (show Calls Tryz.prog 36 _ _ _ from k3).mono ?_
    rintro e v4 ⟨rfl, x1, x2⟩
    have E4 : Hid (EW w0 v4 a _) := E3.out.next x1 x2
    clear x1 x2 k3 c3_0 c3_1 c3_2 c3_3 c3_4 c3_5 c3_6 c3_7 c3_8 c3_9 c3_10
    have ⟨c4_0, c4_1, c4_2, c4_3, c4_4, c4_5, c4_6, c4_7, c4_8, c4_9, c4_10⟩ := HC.out _ _ E4.out
    have k4 := wid_any pt pn a (some (e1 ++ e2 ++ e3 ++ e4)) _ E4.out.wr (HF.out 2 _ (by have := HL.out; simp; omega) (by decide))
    rw [HS5.out] at k4
    go_wp2_with fail
    refine (show Calls Tryz.prog 36 _ _ _ from k4).mono ?_
    rintro e v5 ⟨rfl, x1, x2⟩
    have E5 : Hid (EW w0 v5 a _) := E4.out.next x1 x2
    clear x1 x2 k4 c4_0 c4_1 c4_2 c4_3 c4_4 c4_5 c4_6 c4_7 c4_8 c4_9 c4_10
    have ⟨c5_0, c5_1, c5_2, c5_3, c5_4, c5_5, c5_6, c5_7, c5_8, c5_9, c5_10⟩ := HC.out _ _ E5.out
    have k5 := (HST.out ▸ text_any (bvs nm) a (some (e1 ++ e2 ++ e3 ++ e4 ++ e5)) _ E5.out.wr (HF.out 1 _ (by have := HL.out; simp; omega) (by decide)))
    rw [HS6.out] at k5
    go_wp2_with fail
    refine (show Calls Tryz.prog 37 _ _ _ from k5).mono ?_
    rintro e v6 ⟨rfl, x1, x2⟩
    have E6 : Hid (EW w0 v6 a _) := E5.out.next x1 x2
    clear x1 x2 k5 c5_0 c5_1 c5_2 c5_3 c5_4 c5_5 c5_6 c5_7 c5_8 c5_9 c5_10
    have ⟨c6_0, c6_1, c6_2, c6_3, c6_4, c6_5, c6_6, c6_7, c6_8, c6_9, c6_10⟩ := HC.out _ _ E6.out
    have k6 := (HLL.out ▸ bytes_any p data c a (some (e1 ++ e2 ++ e3 ++ e4 ++ e5 ++ e6)) _ E6.out.wr (HF.out 1 _ (by have := HL.out; simp; omega) (by decide)) (HPW.out _ _ E6.out) (HNP.out _ _ E6.out))
    rw [HS7.out] at k6
    go_wp2_with fail
    refine (show Calls Tryz.prog 38 _ _ _ from k6).mono ?_
    rintro e v7 ⟨rfl, x1, x2⟩
    have E7 : Hid (EW w0 v7 a _) := E6.out.next x1 x2
    clear x1 x2 k6 c6_0 c6_1 c6_2 c6_3 c6_4 c6_5 c6_6 c6_7 c6_8 c6_9 c6_10
    have ⟨c7_0, c7_1, c7_2, c7_3, c7_4, c7_5, c7_6, c7_7, c7_8, c7_9, c7_10⟩ := HC.out _ _ E7.out
    have k7 := (HMM.out ▸ vector_write q ns d a (some (e1 ++ e2 ++ e3 ++ e4 ++ e5 ++ e6 ++ e7)) _ E7.out.wr (HF.out 70 _ (by have := HL.out; simp; omega) (by decide)) HD.out.1 HD.out.2 (HQW.out _ _ E7.out) (HNQ.out _ _ E7.out))
    rw [HS8.out] at k7
    go_wp2_with fail
    refine (show Calls Tryz.prog 39 _ _ _ from k7).mono ?_
    rintro e v8 ⟨rfl, x1, x2⟩
    have E8 : Hid (EW w0 v8 a _) := E7.out.next x1 x2
    clear x1 x2 k7 c7_0 c7_1 c7_2 c7_3 c7_4 c7_5 c7_6 c7_7 c7_8 c7_9 c7_10
    have k9 := wdone_good a _ _ E8.out.wr (HF.out 0 _ (by have := HL.out; have := HE8.out; simp; omega) (by decide))
    go_wp2_with fail
    refine (show Calls Tryz.prog 40 _ _ _ from k9).mono ?_
    rintro e w9 ⟨vv, rfl, x1, x2⟩
    have HX1 : Hid _ := x1
    have HX2 : Hid _ := x2
    clear x1 x2 k9
    go_wp2
    go_ret2
    have hB8 : Below w.heap.size w v8 := (HB2.out.trans (HB3.out.mono HB2.out.size)).trans (E8.out.bel.mono (by have := HW2.out; have := HA.out; omega))
    refine ⟨vv, rfl, ?_, hB8.trans (HX2.out.mono hB8.size)⟩
    rw [if_pos rfl, HBY.out]
    have := own_base HX1.out hB8.size
    simp only [List.append_assoc] at this
    exact this

end Go.Proofs.YtegjageenofbjaaGreat.Cd
