/-
  Add.
-/
import Derived.Test.YteimjkicinjcgaaKLo
import Derived.Test.YteimjkicinjcgaaKOe

namespace Go.Proofs.Yteimjkicinjcgaa.Ck.Y.L
open Go.RowKit Go.Maps Go.Lib

def mayW (o : OG) (ns : List Int) : Bool := Cd.mayO o.t o.n o.sq o.kd o.ot o.on o.pt o.pn o.nm.data.toList o.dl ns
/-- An operation that comes in, with what it has seen and its bytes. -/
structure WIn (w : World) (o : OG) (ns : List Int) (bs : List (BitVec 8)) : Prop where
  seen : Cd.Lies w o.sp (ns.map Cd.iv)
  sl : ns.length = o.sl
  sc : ns.length ≤ o.sc
  le : ns.length ≤ 1000000
  data : Cd.Bytes w o.dp bs
  dl : bs.length = o.dl
  dc : bs.length ≤ o.dc
  bl : bs.length ≤ 1000000
  nm : o.nm.size ≤ 1000000
theorem WIn.below {w w' : World} {o : OG} {ns : List Int} {bs : List (BitVec 8)} (h : WIn w o ns bs) (hb : Below w.heap.size w w') : WIn w' o ns bs := ⟨Cd.below_lies hb h.seen, h.sl, h.sc, h.le, Cd.below_bytes hb h.data, h.dl, h.dc, h.bl, h.nm⟩
theorem may_call {w : World} {o : OG} {ns : List Int} {bs : List (BitVec 8)} (h : WIn w o ns bs) : Calls Try.prog 27 #[opgv o] w fun e w' => e = .returned (.bool (mayW o ns)) ∧ Below w.heap.size w w' := by
  have := Cd.omay_any o.t o.n o.sq o.kd o.ot o.on o.pt o.pn o.nm.data.toList o.dp o.sp o.dl o.dc o.sl o.sc ns w (by rw [← Lib.size_eq]; have := h.nm; omega) (by have := h.dl; have := h.bl; omega) h.sl h.le h.sc h.seen
  rw [Cd.bas_of] at this
  exact this
def vcOf (o : OG) (ns : List Int) (bs : List (BitVec 8)) : VC := ⟨o.t, o.n, o.sq, ns, bs⟩

theorem add_box {w : World} {o : OG} {ns : List Int} {bs : List (BitVec 8)} (h : WIn w o ns bs) : ∃ A, A = w.alloc (.cells (opgC o) 35) ∧ Below w.heap.size w A ∧ A.heap[w.heap.size]? = some (.cells (opgC o) 35 (0, 0)) ∧ WIn A o ns bs :=
  ⟨_, rfl, (below_new w _).out, heap_alloc_new w _, h.below (below_new w _).out⟩

set_option maxRecDepth 8000 in
set_option maxHeartbeats 1000000 in
/-- What may not be, or is no write. -/
theorem add_bad {w : World} {fb : Nat} {o : OG} {ns : List Int} {bs : List (BitVec 8)} (h : WIn w o ns bs) (hb : o.kd ≠ 4 ∨ mayW o ns = false) :
    Calls Try.prog 10 #[.pointer (some ⟨fb, 0, none⟩), opgv o] w fun e w' => e = .returned (.int .i64 22) ∧ Below w.heap.size w w' := by
  obtain ⟨A, hA, bA, kA, hI⟩ := add_box h
  have c1 := may_call hI
  have HB : Hid (Below w.heap.size w A) := bA
  have HK : Hid (A.heap[w.heap.size]? = some (.cells (opgC o) 35 (0, 0))) := kA
  obtain ⟨a0, a1, a2, a3, a4, a5, a6, a7, a8, a9, a10⟩ := op_cellsG kA
  have HA : Hid (A = w.alloc (.cells (opgC o) 35)) := hA
  rw [hA] at a0 a1 a2 a3 a4 a5 a6 a7 a8 a9 a10
  generalize hmw : mayW o ns = m at *
  clear hmw
  obtain ⟨t, n, sq, kd, ot, on, pt, pn, nm, dp, dl, dc, sp, sl, sc⟩ := o
  simp only [opgv, opgC] at *
  by_cases h4 : kd = 4
  · subst h4
    have hm : m = false := hb.elim (fun e => absurd rfl e) id
    subst hm
    clear hA bA kA hI h hb
    go_enter Try.func10, Try.ntmps10
    go_wp2_with (go_at_call 27; rw [← HA.out]; refine Calls_new c1 ?_; intro w1 HB1)
    go_ret
    exact ⟨rfl, below_thenH HB.out HB1.out⟩
  · have hk : ¬ kd = 4 := h4
    clear hA bA kA hI h hb h4 c1
    go_enter Try.func10, Try.ntmps10
    go_wp2
    go_ret
    refine ⟨rfl, ?_⟩
    have := HB.out
    rw [HA.out] at this
    exact this

theorem FMem.look {w : World} {fb : Nat} {E : List KP} {sn : List Int} {H : List VG} {mv : Value} {sp : Option Addr} {sc : Nat} {hv : Value} (h : FMem w fb E sn H mv sp sc hv) (t n : Int) :
    (Instr.lookup 53 mv (idv t n) true).run Try.prog w = .ok (.tuple #[uv, .bool (decide ((t, n) ∈ E))]) w := by
  rcases h.map with ⟨rfl, rfl⟩ | ⟨mb, rfl, hm⟩
  · exact look_nil t n w
  · by_cases hq : (t, n) ∈ E
    · rw [decide_eq_true hq]; exact look_yes hm hq
    · rw [decide_eq_false hq]; exact look_no hm hq

def FileS (F : Nat → Prop) (w : World) (fb : Nat) (S : List VC) : Prop := ∃ sn H mv sp sc hv, FMem w fb (S.map VC.key) sn H mv sp sc hv ∧ HF S sn (H.map VG.c) ∧ F = Foot fb mv hv ∧ H.length ≤ S.length ∧ S.length ≤ 800
theorem map_filter (sn : List Int) : ∀ H : List VG, (H.filter (keepV sn)).map VG.c = (H.map VG.c).filter (keepC sn)
  | [] => rfl
  | x :: H => by
    have e : keepV sn x = keepC sn x.c := rfl
    cases h : keepV sn x with
    | true => rw [List.filter_cons_of_pos h, List.map_cons, List.map_cons, List.filter_cons_of_pos (by rw [← e]; exact h), map_filter sn H]
    | false => rw [List.filter_cons_of_neg (by simp [h]), List.map_cons, List.filter_cons_of_neg (by rw [← e]; simp [h]), map_filter sn H]
theorem HF.heads {S : List VC} {sn : List Int} {H : List VG} (h : HF S sn (H.map VG.c)) : (∀ x ∈ H, seenB x.sq x.n sn = false) ∧ H.Pairwise ltV :=
  ⟨fun x hx => ((h.mem x.c).1 (List.mem_map_of_mem hx)).2, by have := h.rise; rw [List.pairwise_map] at this; exact this⟩

theorem FMem.notFoot {w : World} {fb : Nat} {E : List KP} {sn : List Int} {H : List VG} {mv : Value} {sp : Option Addr} {sc : Nat} {hv : Value} (h : FMem w fb E sn H mv sp sc hv) {b : Nat} {cs : Array Value} {t : TypeId} (hb : w.heap[b]? = some (.cells cs t (0, 0))) (h1 : t ≠ 55) (h2 : t ≠ 43) : ¬ Foot fb mv hv b := by
  rintro (rfl | rfl | e)
  · rw [h.blk] at hb; cases hb; exact h1 rfl
  · rcases h.map with ⟨e, _⟩ | ⟨mb, e, es, clock, hm, _⟩
    · cases e
    · cases e; rw [hm] at hb; cases hb
  · obtain ⟨cs', hc⟩ := RowV.tagged h.hrow e
    rw [hc] at hb; cases hb; exact h2 rfl
/-- What Add gives. -/
theorem add_end {w w2 w3 w4 w5 w6 : World} {fb : Nat} {S : List VC} {sn : List Int} {H : List VG} {mv : Value} {hv : Value} {c : VC} {mb : Nat} {sp' : Option Addr} {sc' : Nat} {hv' : Value}
    (hS : L.HF S sn (H.map VG.c) ∧ H.length ≤ S.length ∧ S.length < 800) (hc : c.key ∉ S.map VC.key) (b2 : Below w.heap.size w w2) (o3 : Only (Foot fb mv hv) w2 w3) (m3 : mv = .map (some mb) ∨ w.heap.size ≤ mb)
    (o4 : Only (Foot fb (.map (some mb)) hv) w3 w4) (e4 : hv'.ownBlock = hv.ownBlock) (b5 : Below w4.heap.size w4 w5)
    (hfin : (seenB c.sq c.n (seeN sn c.ns) = true ∧ Below w5.heap.size w5 w6 ∧ FMem w6 fb (S.map VC.key ++ [c.key]) (seeN sn c.ns) (H.filter (keepV (seeN sn c.ns))) (.map (some mb)) sp' sc' hv') ∨
      (seenB c.sq c.n (seeN sn c.ns) = false ∧ ∃ x : VG, x.c = c ∧ ∃ i hv6, PlcV (H.filter (keepV (seeN sn c.ns))) x.t x.n i ∧ FMem w6 fb (S.map VC.key ++ [c.key]) (seeN sn c.ns) ((H.filter (keepV (seeN sn c.ns))).take i ++ x :: (H.filter (keepV (seeN sn c.ns))).drop i) (.map (some mb)) sp' sc' hv6 ∧ Only (Foot fb (.map (some mb)) hv') w5 w6 ∧ (hv6.ownBlock = hv'.ownBlock ∨ ∃ g, hv6.ownBlock = some g ∧ w5.heap.size ≤ g))) :
    ∃ F', FileS F' w6 fb (S ++ [c]) ∧ (∀ b, F' b → Foot fb mv hv b ∨ w.heap.size ≤ b) ∧ Only (Foot fb mv hv) w w6 := by
  have s3 := b2.size
  have s4 := Nat.le_trans s3 o3.size
  have s5 := Nat.le_trans s4 o4.size
  have foot : ∀ v : Value, v.ownBlock = hv.ownBlock → ∀ b, Foot fb (.map (some mb)) v b → Foot fb mv hv b ∨ w.heap.size ≤ b := by
    rintro v hv b (rfl | e | e)
    · exact .inl (.inl rfl)
    · cases e
      rcases m3 with m3 | m3
      · exact .inl (.inr (.inl m3))
      · exact .inr m3
    · exact .inl (.inr (.inr (by rw [← hv]; exact e)))
  have o24 : Only (Foot fb mv hv) w w4 := ((Below.only b2 _).next o3).trans o4 fun b hb => foot hv rfl b hb
  have o25 : Only (Foot fb mv hv) w w5 := o24.next (Below.only b5 _)
  have hlen : (S ++ [c]).length ≤ 800 := by rw [List.length_append]; have := hS.2.2; simp; omega
  have hmap : (S ++ [c]).map VC.key = S.map VC.key ++ [c.key] := by simp
  have hfl : (H.filter (keepV (seeN sn c.ns))).length ≤ S.length := Nat.le_trans (List.length_filter_le _ _) hS.2.1
  rcases hfin with ⟨hs, b6, f6⟩ | ⟨hs, x, hx, i, hv6, hp, f6, o6, e6⟩
  · refine ⟨Foot fb (.map (some mb)) hv', ⟨seeN sn c.ns, H.filter (keepV (seeN sn c.ns)), .map (some mb), sp', sc', hv', ?_, ?_, rfl, ?_, hlen⟩, foot hv' e4, o25.next (Below.only b6 _)⟩
    · rw [hmap]; exact f6
    · rw [map_filter]; exact hS.1.add_seen c hs
    · rw [List.length_append]; omega
  · subst hx
    refine ⟨Foot fb (.map (some mb)) hv6, ⟨seeN sn x.c.ns, (H.filter (keepV (seeN sn x.c.ns))).take i ++ x :: (H.filter (keepV (seeN sn x.c.ns))).drop i, .map (some mb), sp', sc', hv6, ?_, ?_, rfl, ?_, hlen⟩, ?_, ?_⟩
    · rw [hmap]; exact f6
    · rw [List.map_append, List.map_take, List.map_cons, List.map_drop, map_filter]
      refine hS.1.add_new x.c hc hs (fun y hy => ?_) (fun y hy => ?_)
      · rw [← map_filter, ← List.map_take, List.mem_map] at hy
        obtain ⟨z, hz, rfl⟩ := hy
        obtain ⟨k, hk, e⟩ := List.getElem_of_mem hz
        rw [List.length_take] at hk
        exact hp.lo k z (by omega) (by rw [List.getElem?_eq_getElem (by omega), ← e, List.getElem_take])
      · rw [← map_filter, ← List.map_drop, List.mem_map] at hy
        obtain ⟨z, hz, rfl⟩ := hy
        obtain ⟨k, hk, e⟩ := List.getElem_of_mem hz
        rw [List.length_drop] at hk
        exact hp.hi (i + k) z (by omega) (by rw [List.getElem?_eq_getElem (by omega), ← e, List.getElem_drop])
    · have := hp.le
      rw [List.length_append, List.length_append, List.length_cons, List.length_take, List.length_drop]
      simp only [List.length_cons, List.length_nil]
      omega
    · rintro b (rfl | e | e)
      · exact .inl (.inl rfl)
      · exact foot hv rfl b (.inr (.inl e))
      · rcases e6 with e6 | ⟨g, e6, hg⟩
        · rw [e6, e4] at e; exact .inl (.inr (.inr e))
        · rw [e6] at e; cases e
          have := b5.size
          exact .inr (by omega)
    · exact o25.trans o6 fun b hb => foot hv' e4 b hb

theorem put_seen' {w : World} {fb : Nat} {E : List KP} {sn : List Int} {H : List VG} {mv : Value} {sp : Option Addr} {sc : Nat} {hv : Value} (h : FMem w fb E sn H mv sp sc hv) (t n sq : Int) (ns : List Int) (p1 p2 : Option Addr) (c1 c2 nl bl : Nat) (bs : List (BitVec 8)) (hn : ns.length = nl ∧ bs.length = bl) (hs : seenB sq n sn = true) :
    Calls Try.prog 30 #[.pointer (some ⟨fb, 0, none⟩), .agg #[.int .i64 t, .int .i64 n, .int .i64 sq, .slice p1 nl c1, .slice p2 bl c2]] w fun e w' => e = .returned (.tuple #[]) ∧ Below w.heap.size w w' := by
  obtain ⟨rfl, rfl⟩ := hn
  exact put_seen h ⟨t, n, sq, ns, p1, c1, bs, p2, c2⟩ hs
theorem put_new' {w : World} {fb : Nat} {E : List KP} {sn : List Int} {H : List VG} {mv : Value} {sp : Option Addr} {sc : Nat} {hv : Value} (h : FMem w fb E sn H mv sp sc hv) (t n sq : Int) (ns : List Int) (p1 p2 : Option Addr) (c1 c2 nl bl : Nat) (bs : List (BitVec 8)) (hn : ns.length = nl ∧ bs.length = bl) (hx : VOwn w 0 ⟨t, n, sq, ns, p1, c1, bs, p2, c2⟩) (hs : seenB sq n sn = false) (hr : H.Pairwise ltV) (hl : H.length < 900) :
    Calls Try.prog 30 #[.pointer (some ⟨fb, 0, none⟩), .agg #[.int .i64 t, .int .i64 n, .int .i64 sq, .slice p1 nl c1, .slice p2 bl c2]] w fun e w' => e = .returned (.tuple #[]) ∧ ∃ i hv', PlcV H t n i ∧ FMem w' fb E sn (H.take i ++ ⟨t, n, sq, ns, p1, c1, bs, p2, c2⟩ :: H.drop i) mv sp sc hv' ∧ Only (Foot fb mv hv) w w' ∧ (hv'.ownBlock = hv.ownBlock ∨ ∃ g, hv'.ownBlock = some g ∧ w.heap.size ≤ g) := by
  obtain ⟨rfl, rfl⟩ := hn
  exact put_new h ⟨t, n, sq, ns, p1, c1, bs, p2, c2⟩ hx hs hr hl
/-- The heads that stay are in order. -/
theorem HF.staying {S : List VC} {sn : List Int} {H : List VG} (h : L.HF S sn (H.map VG.c)) (sn' : List Int) : (H.filter (keepV sn')).Pairwise ltV := h.heads.2.filter _

end Go.Proofs.Yteimjkicinjcgaa.Ck.Y.L
