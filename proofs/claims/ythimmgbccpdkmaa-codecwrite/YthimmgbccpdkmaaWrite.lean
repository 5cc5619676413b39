/-
  The law CodecWrite returns true.
-/
import Derived.Test.YthimmgbccpdkmaaPut
namespace Go.Proofs.Ythimmgbccpdkmaa
open Go.RowKit

/-- An item as the law cuts it. -/
def ItmAt.cut (i : ItmAt) : ItmAt := ⟨⟨i.x.kind, i.x.n, i.x.bs.take 300, i.x.t, i.x.nd, i.x.vs.take 100⟩, i.p, i.cp, i.q, i.cq⟩
theorem Fits.cut {w : World} {i : ItmAt} (h : Fits w i) : Fits w i.cut := by
  refine ⟨bytes_take h.bytes 300, ?_, ?_, ?_⟩
  · show Lies w i.q ((i.x.vs.take 100).map iv)
    rw [List.map_take]; exact lies_take h.vec 100
  · show (i.x.bs.take 300).length ≤ i.cp
    have := h.cp; simp; omega
  · show (i.x.vs.take 100).length ≤ i.cq
    have := h.cq; simp; omega

/-- Items that lie in a row. -/
structure Items (w : World) (P : Option Addr) (its : List ItmAt) : Prop where
  row : 0 < its.length → ∃ b o, P = some ⟨b, o, none⟩ ∧ ∀ (j : Nat) (x : ItmAt), its[j]? = some x → ∀ (k : Nat) (v : Value), x.cells[k]? = some v → w.cell? ⟨b, o + j * 6 + k, none⟩ = some v
  fits : ∀ x ∈ its, Fits w x
  old : ∀ x ∈ its, (∀ b o, 0 < x.x.bs.length → x.p = some ⟨b, o, none⟩ → b < w.heap.size) ∧ (∀ b o, 0 < x.x.vs.length → x.q = some ⟨b, o, none⟩ → b < w.heap.size)

def cuts (its : List ItmAt) (i : Nat) : List Itm := (its.take i).map fun x => x.cut.x
theorem cuts_next (its : List ItmAt) (i : Nat) (x : ItmAt) (h : its[i]? = some x) : cuts its (i + 1) = cuts its i ++ [x.cut.x] := by
  unfold cuts; rw [List.take_add_one, h]; simp
theorem cuts_length (its : List ItmAt) (i : Nat) (h : i ≤ its.length) : (cuts its i).length = i := by unfold cuts; simp; omega

/-- The writer, what is wanted, the kinds so far. -/
structure WSt (w wr : World) (a : Nat) (S : St) (Wn : List (BitVec 8)) (Kn : List Int) (v5 v7 : Value) : Prop where
  wri : Wr wr a S
  lo : w.heap.size ≤ a
  want : wr.ownsRow w.heap.size 5 1 v5 Wn.length (Wn.map u8v)
  out : ∀ b, v5.ownBlock = some b → ¬ wset wr a b
  kinds : wr.ownsRow w.heap.size 3 1 v7 Kn.length (Kn.map iv)
  bel : Below w.heap.size w wr

theorem WSt.below {w wr wr' : World} {a : Nat} {S : St} {Wn : List (BitVec 8)} {Kn : List Int} {v5 v7 : Value} (h : WSt w wr a S Wn Kn v5 v7) (hB : Below wr.heap.size wr wr') : WSt w wr' a S Wn Kn v5 v7 :=
  ⟨(h.wri.keep_below hB).1, h.lo, own_below h.want hB, fun b hb => h.wri.stays_out hB (h.out b hb), own_below h.kinds hB, h.bel.trans (hB.mono h.bel.size)⟩
/-- A block of another type is none of the writer's. -/
theorem Wr.tag_out {w : World} {a : Nat} {S : St} (h : Wr w a S) {b : Nat} {cs : Array Value} {t : TypeId} {f : Nat × Nat} (hb : w.heap[b]? = some (.cells cs t f)) (h1 : t ≠ 58) (h2 : t ≠ 5) : ¬ wset w a b := by
  obtain ⟨v, hv⟩ := h
  intro hs
  rcases (hv.set b).1 hs with rfl | hs
  · rw [hv.blk] at hb; cases hb; exact h1 rfl
  · obtain ⟨_, _, cur, hc⟩ := own_lt hv.own hs
    rw [hc] at hb; cases hb; exact h2 rfl
theorem WSt.put {w wr wr' : World} {a : Nat} {S S' : St} {Wn : List (BitVec 8)} {Kn : List Int} {v5 v7 : Value} (h : WSt w wr a S Wn Kn v5 v7) (hw : Wr wr' a S') (hs : Step wr wr' a) : WSt w wr' a S' Wn Kn v5 v7 := by
  refine ⟨hw, h.lo, hs.only.owns h.want h.out, fun b hb hset => ?_, hs.only.owns h.kinds (fun b hb => ?_), h.bel.trans (hs.below h.wri h.lo)⟩
  · rcases hs.sets b hset with h1 | h1
    · exact h.out b hb h1
    · have := (own_lt h.want hb).2.1; omega
  · obtain ⟨_, _, cur, hc⟩ := own_lt h.kinds hb
    exact h.wri.tag_out hc (by decide) (by decide)
theorem WSt.grow {w wr wr' : World} {a : Nat} {S : St} {Wn Wm : List (BitVec 8)} {Kn : List Int} {v5 v5' v7 : Value} (h : WSt w wr a S Wn Kn v5 v7) (ho : wr'.ownsRow w.heap.size 5 1 v5' (Wn.length + Wm.length) (Wn.map u8v ++ Wm.map u8v)) (hg : wr.grownBy wr' v5.ownBlock)
    (hb : v5'.ownBlock = v5.ownBlock ∨ v5'.ownBlock = some wr.heap.size) : WSt w wr' a S (Wn ++ Wm) Kn v5' v7 := by
  have hO : Only (fun b => v5.ownBlock = some b) wr wr' := Only.grown hg (fun _ e => e)
  obtain ⟨k1, k2⟩ := h.wri.keep hO (fun b hs e => h.out b e hs)
  refine ⟨k1, h.lo, by rw [List.length_append, List.map_append]; exact ho, fun b hb' hs => ?_, hO.owns h.kinds (fun b hb' e => ?_), h.bel.grown hg h.bel.size (fun k hk => (own_lt h.want hk).1)⟩
  · rcases hb with e | e
    · rw [e] at hb'; exact h.out b hb' (k2 b hs)
    · rw [e] at hb'; cases hb'; exact absurd (h.wri.lo (k2 _ hs)).2 (by omega)
  · obtain ⟨_, _, c1, h1⟩ := own_lt h.kinds hb'
    obtain ⟨_, _, c2, h2⟩ := own_lt h.want e
    exact tag_ne h1 h2 (by decide) rfl
theorem WSt.kind {w wr wr' : World} {a : Nat} {S : St} {Wn : List (BitVec 8)} {Kn : List Int} {v5 v7 v7' : Value} {k : Int} (h : WSt w wr a S Wn Kn v5 v7) (ho : wr'.ownsRow w.heap.size 3 1 v7' (Kn.length + 1) (Kn.map iv ++ [.int .i64 k])) (hg : wr.grownBy wr' v7.ownBlock) :
    WSt w wr' a S Wn (Kn ++ [k]) v5 v7' := by
  have hO : Only (fun b => v7.ownBlock = some b) wr wr' := Only.grown hg (fun _ e => e)
  obtain ⟨k1, k2⟩ := h.wri.keep hO (fun b hs e => by
    obtain ⟨_, _, c1, h1⟩ := own_lt h.kinds e
    exact h.wri.tag_out h1 (by decide) (by decide) hs)
  refine ⟨k1, h.lo, hO.owns h.want (fun b hb' e => ?_), fun b hb' hs => h.out b hb' (k2 b hs), by rw [List.length_append, List.map_append]; exact ho, h.bel.grown hg h.bel.size (fun k hk => (own_lt h.kinds hk).1)⟩
  obtain ⟨_, _, c1, h1⟩ := own_lt h.want hb'
  obtain ⟨_, _, c2, h2⟩ := own_lt h.kinds e
  exact tag_ne h1 h2 (by decide) rfl

theorem wpList_want {w W : World} {ops : Array Oper} {rest : List Oper} {o : Oper} {act : Act} {Q : Exit → Act → World → Prop} (hgd : o.guard = none) (s x : Operand)
    (ho : o.op = .call { callee := .builtin .append, args := #[s, x], argTypes := #[26, 26] })
    (a : Nat) (S : St) (Wn : List (BitVec 8)) (Kn : List Int) (v5 v7 : Value) (hs : act.eval s = v5) (hst : Hid (WSt w W a S Wn Kn v5 v7))
    (p : Option Addr) (E : List (BitVec 8)) (cp : Nat) (hx : act.eval x = .slice p E.length cp) (hb : Hid (Bytes W p E)) (h63 : Hid (Wn.length + E.length ≤ 1099511627776))
    (X : Nat) (k : Int) (cs : List Value) (hX : Hid (W.heap[X]? = some (.cells (Value.int .i64 k :: cs).toArray 33 (0, 0))))
    (h : ∀ v' w', Hid (WSt w w' a S (Wn ++ E) Kn v' v7) → w'.cell? ⟨X, 0, none⟩ = some (.int .i64 k) → wpList Try.prog ops Q rest (act.put o.dst v') w') :
    wpList Try.prog ops Q (o :: rest) act W := by
  refine wpList_append_bytes hgd s x ho w.heap.size v5 Wn.length (Wn.map u8v) hs hst.out.want p E cp hx hb.out h63.out hst.out.bel.size ?_
  intro v' w' h1 h2 h3
  refine h v' w' (hst.out.grow h1 h2 h3) ?_
  have hX4 := (h2.block _ (block_lt hX.out) (fun e => by
    obtain ⟨_, _, cc, hc⟩ := own_lt hst.out.want e.symm
    exact tag_ne hX.out hc (by decide) rfl)).trans hX.out
  exact cellOf hX4 0
theorem wpList_kind {w W0 W : World} {ops : Array Oper} {rest : List Oper} {o : Oper} {act : Act} {Q : Exit → Act → World → Prop} (hgd : o.guard = none) (s x : Operand)
    (ho : o.op = .call { callee := .builtin .append, args := #[s, x], argTypes := #[27, 27] })
    (a : Nat) (S : St) (Wn : List (BitVec 8)) (Kn : List Int) (v5 v7 : Value) (hs : act.eval s = v7) (hst : Hid (WSt w W0 a S Wn Kn v5 v7)) (k : Int) (hW : W = W0.alloc (.cells #[.int .i64 k] 3))
    (hx : act.eval x = .slice (some ⟨W0.heap.size, 0, none⟩) 1 1) (hl : Hid (Kn.length ≤ 1000000))
    (h : ∀ v' w', Hid (WSt w w' a S Wn (Kn ++ [k]) v5 v') → wpList Try.prog ops Q rest (act.put o.dst v') w') :
    wpList Try.prog ops Q (o :: rest) act W := by
  refine wpList_append_num hgd s x 27 3 ho Try.underlying27 Try.info3 w.heap.size v7 Kn.length (Kn.map iv) hs W0 k hW hst.out.kinds hx hl hst.out.bel.size ?_
  intro v' w' h1 h2 _
  subst hW
  exact h v' w' ((hst.out.below (below_new W0 _).out).kind h1.out h2.out)

theorem cuts_small (its : List ItmAt) (i : Nat) : ∀ x ∈ cuts its i, x.bs.length ≤ 300 := by
  intro x hx
  unfold cuts at hx
  obtain ⟨y, _, rfl⟩ := List.mem_map.1 hx
  show (y.x.bs.take 300).length ≤ 300
  simp; omega

set_option maxRecDepth 8000 in
set_option maxHeartbeats 2000000 in
theorem write_any (P : Option Addr) (its : List ItmAt) (cpI : Nat) (w : World) (hits : Items w P its) :
    Calls Try.prog 3 #[.slice P its.length cpI] w fun e w' => e = .returned (.bool true) ∧ Below w.heap.size w w' := by
  have c6 := begun_any w
  have HI : Hid (Items w P its) := hits
  clear hits
  go_enter Try.func3, Try.ntmps3
  go_wp2_with fail
  refine c6.mono ?_
  rintro e w1 ⟨rfl, hB1⟩
  have HB1 : Hid (Below w.heap.size w w1) := hB1
  have c7 := newWriter_any w1
  clear c6 hB1
  go_wp2_with fail
  refine c7.mono ?_
  rintro e w2 ⟨rfl, hw2⟩
  have hW2 : Wr w2 w1.heap.size (some []) := by rw [hw2]; exact newWriter_wr w1
  have hB2 : Below w1.heap.size w1 w2 := by rw [hw2]; exact (below_new _ _).out
  have HINV : Hid (WSt w w2 w1.heap.size (writes (cuts its 0) (some [])) (wants (cuts its 0)) ((cuts its 0).map (·.kind)) (.slice none 0 0) (.slice none 0 0)) :=
    ⟨hW2, HB1.out.size, World.ownsRow_nil _ _ _ _, (fun b hb => by cases hb), World.ownsRow_nil _ _ _ _, HB1.out.trans (hB2.mono HB1.out.size)⟩
  generalize w1.heap.size = a at HINV ⊢
  clear c7 hw2 hW2 hB2 HB1
  go_wp2_with fail
  go_loopw [5, 6, 7, 8] (fun v5 vb v7 ii wr => ∃ i : Nat, ii = .int .i64 i ∧ i ≤ its.length ∧ i ≤ 12 ∧ vb = .bool (!allIn (cuts its i)) ∧ Hid (WSt w wr a (writes (cuts its i) (some [])) (wants (cuts its i)) ((cuts its i).map (·.kind)) v5 v7)) (fun _ _ _ ii _ => 12 - (intOf ii).toNat)
  case atStart => exact ⟨0, rfl, Nat.zero_le _, by omega, rfl, HINV⟩
  case round =>
    obtain ⟨i, rfl, hi, hi12, rfl, HV⟩ := hrel
    by_cases hlt : i < its.length ∧ i < 12
    · have hltI : (i : Int) < its.length := by omega
      have hlt12 : (i : Int) < 12 := by omega
      obtain ⟨ib, io, rfl, hrow⟩ := HI.out.row (by omega)
      obtain ⟨x, hx⟩ : ∃ x, its[i]? = some x := ⟨_, List.getElem?_eq_getElem hlt.1⟩
      have hcell : ∀ (k : Nat) (v : Value), x.cells[k]? = some v → wr.cell? ⟨ib, io + i * 6 + k, none⟩ = some v := fun k v hk => by
        have := hrow i x hx k v hk
        exact (HV.out.bel.cell (p := ⟨ib, io + i * 6 + k, none⟩) (cell_lt this)).trans this
      have HX : Hid (its[i]? = some x) := hx
      have hfit : Fits w x := HI.out.fits x (List.mem_of_getElem? hx)
      have hold := HI.out.old x (List.mem_of_getElem? hx)
      obtain ⟨⟨kind, n, bs, t, nd, vs⟩, p, cp, q, cq⟩ := x
      have k0 : wr.cell? ⟨ib, io + i * 6, none⟩ = some (.int .i64 kind) := hcell 0 _ rfl
      have k1 : wr.cell? ⟨ib, io + i * 6 + 1, none⟩ = some (.int .i64 n) := hcell 1 _ rfl
      have k2 : wr.cell? ⟨ib, io + i * 6 + 2, none⟩ = some (.slice p bs.length cp) := hcell 2 _ rfl
      have k3 : wr.cell? ⟨ib, io + i * 6 + 3, none⟩ = some (.int .i64 t) := hcell 3 _ rfl
      have k4 : wr.cell? ⟨ib, io + i * 6 + 4, none⟩ = some (.int .i64 nd) := hcell 4 _ rfl
      have k5 : wr.cell? ⟨ib, io + i * 6 + 5, none⟩ = some (.slice q vs.length cq) := hcell 5 _ rfl
      have HF : Hid (Fits w ⟨⟨kind, n, bs, t, nd, vs⟩, p, cp, q, cq⟩) := hfit
      have HOLD : Hid ((∀ b o, 0 < bs.length → p = some ⟨b, o, none⟩ → b < w.heap.size) ∧ (∀ b o, 0 < vs.length → q = some ⟨b, o, none⟩ → b < w.heap.size)) := hold
      have HBX : Hid (Below w.heap.size w (wr.alloc (.cells #[.int .i64 kind, .int .i64 n, .slice p bs.length cp, .int .i64 t, .int .i64 nd, .slice q vs.length cq] 33))) := HV.out.bel.trans ((below_new _ _).out.mono HV.out.bel.size)
      have hltN : i < its.length := hlt.1
      have hlt12N : i < 12 := hlt.2
      obtain ⟨c8, _, _, _⟩ := short_any p bs cp 300 (wr.alloc (.cells #[.int .i64 kind, .int .i64 n, .slice p bs.length cp, .int .i64 t, .int .i64 nd, .slice q vs.length cq] 33)) hfit.cp (by decide) (below_bytes HBX.out hfit.bytes)
      clear hcell hrow hx hfit HI hold hlt
      go_wp2_with fail
      refine Calls_on (show Calls Try.prog 8 #[.slice p bs.length cp, .int .i64 300] _ _ from c8) ?_
      clear c8 k0 k1 k2 k3 k4 k5
      by_cases hv : 100 < vs.length
      · have hvI : (100 : Int) < vs.length := by omega
        have hcq : vs.length ≤ cq := HF.out.cq
        have hv0 : ∃ vb vo, q = some ⟨vb, vo, none⟩ := by obtain ⟨vb, vo, e, _⟩ := HF.out.vec (by simp; omega); exact ⟨vb, vo, e⟩
        obtain ⟨vb, vo, rfl⟩ := hv0
        -- the item as it is handed on
        have hcl : (ItmAt.cut ⟨⟨kind, n, bs, t, nd, vs⟩, p, cp, (some ⟨vb, vo, none⟩), cq⟩).cells = #[.int .i64 kind, .int .i64 n, .slice p (min 300 bs.length) cp, .int .i64 t, .int .i64 nd, .slice (some ⟨vb, vo, none⟩) 100 cq] := by
          show (#[.int .i64 kind, .int .i64 n, .slice p (bs.take 300).length cp, .int .i64 t, .int .i64 nd, .slice (some ⟨vb, vo, none⟩) (vs.take 100).length cq] : Array Value) = _
          rw [show ((bs.take 300).length) = min 300 bs.length by simp, show ((vs.take 100).length) = 100 by simp; omega]
        obtain ⟨W3, hW3⟩ : ∃ W3, W3 = wr.alloc (.cells #[.int .i64 kind, .int .i64 n, .slice p (min 300 bs.length) cp, .int .i64 t, .int .i64 nd, .slice (some ⟨vb, vo, none⟩) 100 cq] 33) := ⟨_, rfl⟩
        have hBW : Below wr.heap.size wr W3 := by rw [hW3]; exact (below_new _ _).out
        have hXW : W3.heap[wr.heap.size]? = some (.cells #[.int .i64 kind, .int .i64 n, .slice p (min 300 bs.length) cp, .int .i64 t, .int .i64 nd, .slice (some ⟨vb, vo, none⟩) 100 cq] 33 (0, 0)) := by rw [hW3]; exact heap_alloc_new wr _
        have hVW := HV.out.below hBW
        obtain ⟨y, hy⟩ : ∃ y, y = (ItmAt.cut ⟨⟨kind, n, bs, t, nd, vs⟩, p, cp, (some ⟨vb, vo, none⟩), cq⟩) := ⟨_, rfl⟩
        have hnlo : ∀ b, b < w.heap.size → ¬ wset W3 a b := fun b hb hs => by have := (hVW.wri.lo hs).1; have := hVW.lo; omega
        have hwl := wants_len (cuts its i) (cuts_small its i)
        rw [cuts_length its i hi] at hwl
        have hfew : Few 100 (writes (cuts its i) (some [])) := by
          rw [writes_all]
          unfold Few
          split
          · simp only [Option.getD_some, List.nil_append]; omega
          · simp
        have c9 := put_any a y (writes (cuts its i) (some [])) W3 hVW.wri hfew (by rw [hy]; exact (HF.out.cut).below ((HV.out.bel.trans (hBW.mono HV.out.bel.size)))) (by rw [hy]; show (bs.take 300).length ≤ 300; simp; omega) (by rw [hy]; show (vs.take 100).length ≤ 100; simp; omega)
          (fun b o hl e => hnlo b (by rw [hy] at hl e; exact HOLD.out.1 b o (by have : 0 < (bs.take 300).length := hl; rw [List.length_take] at this; omega) e))
          (fun b o hl e => hnlo b (by rw [hy] at hl e; exact HOLD.out.2 b o (by have : 0 < (vs.take 100).length := hl; rw [List.length_take] at this; omega) e))
        have HNX : Hid (cuts its (i + 1) = cuts its i ++ [y.x]) := by show _ = _; rw [hy]; exact cuts_next its i _ HX.out
        have HKD : Hid (y.x.kind = kind) := by rw [hy]; rfl
        rw [hy, hcl, ← hy] at c9
        have HVW : Hid (WSt w W3 a (writes (cuts its i) (some [])) (wants (cuts its i)) ((cuts its i).map (·.kind)) u5 u7) := hVW
        have HXW : Hid (W3.heap[wr.heap.size]? = some (.cells #[.int .i64 kind, .int .i64 n, .slice p (min 300 bs.length) cp, .int .i64 t, .int .i64 nd, .slice (some ⟨vb, vo, none⟩) 100 cq] 33 (0, 0))) := hXW
        have HWL : Hid ((wants (cuts its i)).length ≤ 600 * i) := hwl
        have HEL : Hid (((enc y.x).getD []).length ≤ 600) := enc_len y.x (by rw [hy]; show (bs.take 300).length ≤ 300; simp; omega)
        have HKL : Hid (((cuts its i).map (·.kind)).length = i) := by show _ = _; rw [List.length_map]; exact cuts_length its i hi
        clear hcl hBW hXW hVW hnlo hwl hfew hy HF HOLD HBX
        go_wp2_with fail
        rw [← hW3]
        refine c9.mono ?_
        rintro e w3 ⟨v, rfl, m1, m2, m3⟩
        rw [← writes_snoc, ← HNX.out] at m1
        have hst := HVW.out.put m1 m2
        have hX3 : w3.heap[wr.heap.size]? = some (.cells #[.int .i64 kind, .int .i64 n, .slice p (min 300 bs.length) cp, .int .i64 t, .int .i64 nd, .slice (some ⟨vb, vo, none⟩) 100 cq] 33 (0, 0)) := (m2.only.block _ (block_lt HXW.out) (HVW.out.wri.tag_out HXW.out (by decide) (by decide))).trans HXW.out
        obtain ⟨_, pv, cv, rfl, _, bv, _⟩ := owns_bytes m3
        have HST : Hid (WSt w w3 a (writes (cuts its (i + 1)) (some [])) (wants (cuts its i)) ((cuts its i).map (·.kind)) u5 u7) := hst
        have HX3 : Hid (w3.heap[wr.heap.size]? = some (.cells #[.int .i64 kind, .int .i64 n, .slice p (min 300 bs.length) cp, .int .i64 t, .int .i64 nd, .slice (some ⟨vb, vo, none⟩) 100 cq] 33 (0, 0))) := hX3
        have HBV : Hid (Bytes w3 pv ((enc y.x).getD [])) := bv
        have H63 : Hid ((wants (cuts its i)).length + ((enc y.x).getD []).length ≤ 1099511627776) := by have := HWL.out; have := HEL.out; show _ ≤ _; omega
        have HKN : Hid (((cuts its i).map (·.kind)).length ≤ 1000000) := by have := HKL.out; show _ ≤ _; omega
        have hBAD : (!allIn (cuts its i) || !(enc y.x).isSome) = !allIn (cuts its (i + 1)) := by
          rw [HNX.out, allIn_snoc]
          cases allIn (cuts its i) <;> cases (enc y.x).isSome <;> rfl
        have e1 : wants (cuts its (i + 1)) = wants (cuts its i) ++ (enc y.x).getD [] := by rw [HNX.out, wants_snoc]
        have e2 : (cuts its (i + 1)).map (·.kind) = (cuts its i).map (·.kind) ++ [kind] := by rw [HNX.out, List.map_append, ← HKD.out]; rfl
        have HE1 : Hid (wants (cuts its (i + 1)) = wants (cuts its i) ++ (enc y.x).getD []) := e1
        have HE2 : Hid ((cuts its (i + 1)).map (·.kind) = (cuts its i).map (·.kind) ++ [kind]) := e2
        generalize (enc y.x).getD [] = E at HBV H63 HEL HE1
        generalize (enc y.x).isSome = ok at hBAD
        have HBAD : Hid ((!allIn (cuts its i) || !ok) = !allIn (cuts its (i + 1))) := hBAD
        have tokA : True := trivial
        have tokB : True := trivial
        clear c9 m1 m2 m3 hst hX3 bv hW3 e1 e2 hBAD
        obtain ⟨okA, hA⟩ : ∃ okA, allIn (cuts its i) = okA := ⟨_, rfl⟩
        rw [hA] at HBAD
        rw [hA]
        clear hA
        cases okA
        all_goals go_wp2_with (first | (have tk := tokA; refine wpList_want rfl _ _ rfl a _ _ _ _ _ rfl HST _ E _ rfl HBV H63 _ _ _ HX3 ?_; clear tk tokA; intro v5 w4 HST4 d0) | (have tk := tokB; refine wpList_kind rfl _ _ rfl a _ _ _ _ _ rfl HST4 _ rfl rfl HKN ?_; clear tk tokB; intro v7 w5 HST5))
        all_goals (refine ⟨⟨i + 1, by go_num, by omega, by omega, by rw [← HBAD.out]; rfl, ?_⟩, by simp [intOf]; omega⟩; rw [HE1.out, HE2.out]; exact HST5)
      · have hvI : ¬ (100 : Int) < vs.length := by omega
        -- the item as it is handed on
        have hcl : (ItmAt.cut ⟨⟨kind, n, bs, t, nd, vs⟩, p, cp, q, cq⟩).cells = #[.int .i64 kind, .int .i64 n, .slice p (min 300 bs.length) cp, .int .i64 t, .int .i64 nd, .slice q vs.length cq] := by
          show (#[.int .i64 kind, .int .i64 n, .slice p (bs.take 300).length cp, .int .i64 t, .int .i64 nd, .slice q (vs.take 100).length cq] : Array Value) = _
          rw [show ((bs.take 300).length) = min 300 bs.length by simp, show ((vs.take 100).length) = vs.length by simp; omega]
        obtain ⟨W3, hW3⟩ : ∃ W3, W3 = wr.alloc (.cells #[.int .i64 kind, .int .i64 n, .slice p (min 300 bs.length) cp, .int .i64 t, .int .i64 nd, .slice q vs.length cq] 33) := ⟨_, rfl⟩
        have hBW : Below wr.heap.size wr W3 := by rw [hW3]; exact (below_new _ _).out
        have hXW : W3.heap[wr.heap.size]? = some (.cells #[.int .i64 kind, .int .i64 n, .slice p (min 300 bs.length) cp, .int .i64 t, .int .i64 nd, .slice q vs.length cq] 33 (0, 0)) := by rw [hW3]; exact heap_alloc_new wr _
        have hVW := HV.out.below hBW
        obtain ⟨y, hy⟩ : ∃ y, y = (ItmAt.cut ⟨⟨kind, n, bs, t, nd, vs⟩, p, cp, q, cq⟩) := ⟨_, rfl⟩
        have hnlo : ∀ b, b < w.heap.size → ¬ wset W3 a b := fun b hb hs => by have := (hVW.wri.lo hs).1; have := hVW.lo; omega
        have hwl := wants_len (cuts its i) (cuts_small its i)
        rw [cuts_length its i hi] at hwl
        have hfew : Few 100 (writes (cuts its i) (some [])) := by
          rw [writes_all]
          unfold Few
          split
          · simp only [Option.getD_some, List.nil_append]; omega
          · simp
        have c9 := put_any a y (writes (cuts its i) (some [])) W3 hVW.wri hfew (by rw [hy]; exact (HF.out.cut).below ((HV.out.bel.trans (hBW.mono HV.out.bel.size)))) (by rw [hy]; show (bs.take 300).length ≤ 300; simp; omega) (by rw [hy]; show (vs.take 100).length ≤ 100; simp; omega)
          (fun b o hl e => hnlo b (by rw [hy] at hl e; exact HOLD.out.1 b o (by have : 0 < (bs.take 300).length := hl; rw [List.length_take] at this; omega) e))
          (fun b o hl e => hnlo b (by rw [hy] at hl e; exact HOLD.out.2 b o (by have : 0 < (vs.take 100).length := hl; rw [List.length_take] at this; omega) e))
        have HNX : Hid (cuts its (i + 1) = cuts its i ++ [y.x]) := by show _ = _; rw [hy]; exact cuts_next its i _ HX.out
        have HKD : Hid (y.x.kind = kind) := by rw [hy]; rfl
        rw [hy, hcl, ← hy] at c9
        have HVW : Hid (WSt w W3 a (writes (cuts its i) (some [])) (wants (cuts its i)) ((cuts its i).map (·.kind)) u5 u7) := hVW
        have HXW : Hid (W3.heap[wr.heap.size]? = some (.cells #[.int .i64 kind, .int .i64 n, .slice p (min 300 bs.length) cp, .int .i64 t, .int .i64 nd, .slice q vs.length cq] 33 (0, 0))) := hXW
        have HWL : Hid ((wants (cuts its i)).length ≤ 600 * i) := hwl
        have HEL : Hid (((enc y.x).getD []).length ≤ 600) := enc_len y.x (by rw [hy]; show (bs.take 300).length ≤ 300; simp; omega)
        have HKL : Hid (((cuts its i).map (·.kind)).length = i) := by show _ = _; rw [List.length_map]; exact cuts_length its i hi
        clear hcl hBW hXW hVW hnlo hwl hfew hy HF HOLD HBX
        go_wp2_with fail
        rw [← hW3]
        refine c9.mono ?_
        rintro e w3 ⟨v, rfl, m1, m2, m3⟩
        rw [← writes_snoc, ← HNX.out] at m1
        have hst := HVW.out.put m1 m2
        have hX3 : w3.heap[wr.heap.size]? = some (.cells #[.int .i64 kind, .int .i64 n, .slice p (min 300 bs.length) cp, .int .i64 t, .int .i64 nd, .slice q vs.length cq] 33 (0, 0)) := (m2.only.block _ (block_lt HXW.out) (HVW.out.wri.tag_out HXW.out (by decide) (by decide))).trans HXW.out
        obtain ⟨_, pv, cv, rfl, _, bv, _⟩ := owns_bytes m3
        have HST : Hid (WSt w w3 a (writes (cuts its (i + 1)) (some [])) (wants (cuts its i)) ((cuts its i).map (·.kind)) u5 u7) := hst
        have HX3 : Hid (w3.heap[wr.heap.size]? = some (.cells #[.int .i64 kind, .int .i64 n, .slice p (min 300 bs.length) cp, .int .i64 t, .int .i64 nd, .slice q vs.length cq] 33 (0, 0))) := hX3
        have HBV : Hid (Bytes w3 pv ((enc y.x).getD [])) := bv
        have H63 : Hid ((wants (cuts its i)).length + ((enc y.x).getD []).length ≤ 1099511627776) := by have := HWL.out; have := HEL.out; show _ ≤ _; omega
        have HKN : Hid (((cuts its i).map (·.kind)).length ≤ 1000000) := by have := HKL.out; show _ ≤ _; omega
        have hBAD : (!allIn (cuts its i) || !(enc y.x).isSome) = !allIn (cuts its (i + 1)) := by
          rw [HNX.out, allIn_snoc]
          cases allIn (cuts its i) <;> cases (enc y.x).isSome <;> rfl
        have e1 : wants (cuts its (i + 1)) = wants (cuts its i) ++ (enc y.x).getD [] := by rw [HNX.out, wants_snoc]
        have e2 : (cuts its (i + 1)).map (·.kind) = (cuts its i).map (·.kind) ++ [kind] := by rw [HNX.out, List.map_append, ← HKD.out]; rfl
        have HE1 : Hid (wants (cuts its (i + 1)) = wants (cuts its i) ++ (enc y.x).getD []) := e1
        have HE2 : Hid ((cuts its (i + 1)).map (·.kind) = (cuts its i).map (·.kind) ++ [kind]) := e2
        generalize (enc y.x).getD [] = E at HBV H63 HEL HE1
        generalize (enc y.x).isSome = ok at hBAD
        have HBAD : Hid ((!allIn (cuts its i) || !ok) = !allIn (cuts its (i + 1))) := hBAD
        have tokA : True := trivial
        have tokB : True := trivial
        clear c9 m1 m2 m3 hst hX3 bv hW3 e1 e2 hBAD
        obtain ⟨okA, hA⟩ : ∃ okA, allIn (cuts its i) = okA := ⟨_, rfl⟩
        rw [hA] at HBAD
        rw [hA]
        clear hA
        cases okA
        all_goals go_wp2_with (first | (have tk := tokA; refine wpList_want rfl _ _ rfl a _ _ _ _ _ rfl HST _ E _ rfl HBV H63 _ _ _ HX3 ?_; clear tk tokA; intro v5 w4 HST4 d0) | (have tk := tokB; refine wpList_kind rfl _ _ rfl a _ _ _ _ _ rfl HST4 _ rfl rfl HKN ?_; clear tk tokB; intro v7 w5 HST5))
        all_goals (refine ⟨⟨i + 1, by go_num, by omega, by omega, by rw [← HBAD.out]; rfl, ?_⟩, by simp [intOf]; omega⟩; rw [HE1.out, HE2.out]; exact HST5)
    · by_cases hlk : i < its.length
      · have hlkI : (i : Int) < its.length := by omega
        have h12I : ¬ (i : Int) < 12 := by omega
        cases hok : allIn (cuts its i) with
        | false =>
          have HW10 : Hid (Wr wr a none) := by
            have := HV.out.wri
            rw [writes_all, if_neg (by rw [hok]; decide)] at this
            exact this
          have HBEL : Hid (Below w.heap.size w wr) := HV.out.bel
          clear hok HV hlt
          have c10 := wdone_bad a wr HW10.out
          clear HW10
          go_wp2_with (go_at_call 10; refine Calls_on c10 ?_)
          go_ret
          exact ⟨rfl, HBEL.out⟩
        | true =>
          have HW10' : Hid (Wr wr a (some (wants (cuts its i)))) := by
            have := HV.out.wri
            rw [writes_all, if_pos hok, List.nil_append] at this
            exact this
          have HSK' : Hid (skips ((cuts its i).map (·.kind)) (some (wants (cuts its i))) = some []) := by
            have := skips_all (cuts its i) hok []
            rw [List.append_nil] at this
            exact this
          have HWL' : Hid ((wants (cuts its i)).length ≤ 7200) := by
            have := wants_len (cuts its i) (cuts_small its i)
            rw [cuts_length its i hi] at this
            show _ ≤ _; omega
          have hkl12 : ((cuts its i).map (·.kind)).length ≤ 12 := by rw [List.length_map, cuts_length its i hi]; exact hi12
          have HBEL : Hid (Below w.heap.size w wr) := HV.out.bel
          obtain ⟨hz5, p5, c5, hu5, hz6, bw5, hz7⟩ := owns_bytes HV.out.want
          obtain ⟨hz8, p7, c7, hu7, hz9, lk7, hz10⟩ := owns_lies HV.out.kinds
          rw [List.length_map] at hu7
          subst hu5
          subst hu7
          have HBW5' : Hid (Bytes wr p5 (wants (cuts its i))) := bw5
          have HLK' : Hid (Lies wr p7 (((cuts its i).map (·.kind)).map iv)) := lk7
          clear hz5 hz6 hz7 hz8 hz9 hz10 bw5 lk7 hok HV hlt
          obtain ⟨Wn, hWn⟩ : ∃ Wn, wants (cuts its i) = Wn := ⟨_, rfl⟩
          obtain ⟨Kn, hKn⟩ : ∃ Kn, (cuts its i).map (·.kind) = Kn := ⟨_, rfl⟩
          rw [hWn] at HW10' HSK' HWL' HBW5'
          rw [hKn] at HSK' HLK' hkl12
          rw [hWn, hKn]
          have HW10 : Hid (Wr wr a (some Wn)) := HW10'
          have HSK : Hid (skips Kn (some Wn) = some []) := HSK'
          have HWL : Hid (Wn.length ≤ 7200) := HWL'
          have HBW5 : Hid (Bytes wr p5 Wn) := HBW5'
          have HLK : Hid (Lies wr p7 (Kn.map iv)) := HLK'
          clear hWn hKn HW10' HSK' HWL' HBW5' HLK'
          have c10 := wdone_good a Wn wr HW10.out (by unfold Few; have := HWL.out; simp; omega)
          clear HW10
          go_wp2_with fail
          refine c10.mono ?_
          rintro e w6 ⟨v, rfl, hclo⟩
          obtain ⟨pb, cb, rfl, hcb, bb⟩ := hclo.slice
          have hst1 := run_str w6 pb Wn cb bb
          have hst2 := run_str w6 p5 Wn c5 (below_bytes hclo.2 HBW5.out)
          have c11 := newReader_any pb Wn cb w6 (by have := HWL.out; omega) bb
          have HB6 : Hid (Below w.heap.size w w6) := HBEL.out.trans (hclo.2.mono HBEL.out.size)
          have HL7 : Hid (Lies w6 p7 (Kn.map iv)) := below_lies hclo.2 HLK.out
          have HBB : Hid (Bytes w6 pb Wn) := bb
          generalize strOf Wn = T at hst1 hst2
          clear c10 hclo bb hcb
          go_wp2_with (go_at_call 11; fail)
          refine c11.mono ?_
          rintro e w7 ⟨a2, rfl, ha2, hR7, hB7⟩
          have HB7 : Hid (Below w6.heap.size w6 w7) := hB7
          have HA2 : Hid (w6.heap.size ≤ a2) := ha2
          have HR7 : Hid (Rd 68 w7 a2 (some Wn)) := hR7
          have B7 : Hid (Bytes w7 pb Wn) := below_bytes hB7 HBB.out
          have HO7 : Hid (w7.ownsRow w7.heap.size 5 1 (.slice none 0 0) 0 []) := World.ownsRow_nil _ _ _ _
          have H63 : Hid (0 + Wn.length ≤ 1099511627776) := by have := HWL.out; show _ ≤ _; omega
          have tok : True := trivial
          clear c11 ha2 hR7 hB7 hst1 hst2
          go_wp2_with (have tk := tok; refine wpList_append_bytes rfl _ _ rfl w7.heap.size _ 0 [] rfl HO7.out pb Wn cb rfl B7.out H63.out (Nat.le_refl _) ?_; clear tk tok; intro v' w8 hown hg _; rw [Nat.zero_add, List.nil_append] at hown; obtain ⟨hl0, p8, c8, rfl, hc8, hb8, hp8⟩ := owns_bytes hown; have HP8 : Hid (Plain w8.heap.size p8) := owns_plain hown; have HC8 : Hid (Wn.length ≤ c8) := hc8; have B8 : Hid (Bytes w8 p8 Wn) := hb8; have hB8 : Below w7.heap.size w7 w8 := (Below.refl _ _).grown hg (Nat.le_refl _) (by intro k hk; cases hk); have HB8 : Hid (Below w7.heap.size w7 w8) := hB8; clear hown hg hl0 hc8 hb8 hp8 hB8)
          have HAW : Hid (Below w8.heap.size w8 (w8.alloc (.cells #[.slice p8 Wn.length c8, .bool false] 44))) := below_new _ _
          have HBO : Hid (Both (w8.alloc (.cells #[.slice p8 Wn.length c8, .bool false] 44)) a2 w8.heap.size (some Wn)) :=
            ⟨(HR7.out.below HB8.out).below HAW.out, ⟨p8, c8, HP8.out, heap_alloc_new w8 _, HC8.out, below_bytes HAW.out B8.out⟩⟩
          have HB9 : Hid (Below w6.heap.size w6 (w8.alloc (.cells #[.slice p8 Wn.length c8, .bool false] 44))) := (HB7.out.trans (HB8.out.mono HB7.out.size)).trans (HAW.out.mono (Nat.le_trans HB7.out.size HB8.out.size))
          have HC2 : Hid (w6.heap.size ≤ w8.heap.size) := Nat.le_trans HB7.out.size HB8.out.size
          generalize w8.alloc (.cells #[.slice p8 Wn.length c8, .bool false] 44) = w9 at HBO HB9 HAW ⊢
          generalize w8.heap.size = cc at HBO HC2 ⊢
          clear HAW HP8 HC8 B8 HB8
          go_loopw [16] (fun jj wr2 => ∃ j : Nat, jj = .int .i64 j ∧ j ≤ Kn.length ∧ Hid (Both wr2 a2 cc (skips (Kn.take j) (some Wn))) ∧ Hid (Below w6.heap.size w6 wr2)) (fun jj _ => Kn.length - (intOf jj).toNat)
          case atStart => exact ⟨0, rfl, Nat.zero_le _, HBO, HB9⟩
          case round =>
            obtain ⟨j, rfl, hj, HR, HBQ⟩ := hrel
            have HSM : Hid (Small (skips (Kn.take j) (some Wn))) := by
              have h1 := skips_len (Kn.take j) (some Wn)
              have h2 := HWL.out
              show Small _
              unfold Small
              simp at h1
              omega
            by_cases hltj : j < Kn.length
            · have hltJ : (j : Int) < Kn.length := by omega
              obtain ⟨kb, ko, rfl, hkc⟩ := HL7.out (by simp; omega)
              obtain ⟨kx, hkx⟩ : ∃ kx, Kn[j]? = some kx := ⟨_, List.getElem?_eq_getElem hltj⟩
              have kk1 := hkc j (iv kx) (by rw [List.getElem?_map, hkx]; rfl)
              have cc1 : wr.cell? ⟨kb, ko + j, none⟩ = some (.int .i64 kx) := (HBQ.out.cell (p := ⟨kb, ko + j, none⟩) (cell_lt kk1)).trans kk1
              have c12 := take_any a2 cc kx _ wr HR.out HSM.out
              have HXX : Hid (skips (Kn.take (j + 1)) (some Wn) = skip kx (skips (Kn.take j) (some Wn))) := by
                show _ = _
                rw [List.take_add_one, hkx]; exact skips_snoc _ _ _
              clear hkc hkx kk1
              go_wp2_with fail
              refine c12.mono ?_
              rintro e w10 ⟨rfl, mm1, mm2⟩
              have MM1 : Hid (Both w10 a2 cc (skip kx (skips (Kn.take j) (some Wn)))) := mm1
              have MM2 : Hid (Below w6.heap.size w6 w10) := two_below HBQ.out mm2 HA2.out HC2.out
              clear c12 mm1 mm2 cc1
              go_wp2
              go_roundw
              case rel => exact ⟨j + 1, by go_num, by omega, by rw [HXX.out]; exact MM1, MM2⟩
              case measure => simp [intOf]; omega
            · obtain rfl : j = Kn.length := by omega
              have hRr := HR.out.r
              have hSm := HSM.out
              rw [List.take_length, HSK.out] at hRr hSm
              have c13 := rdone_any a2 _ wr hRr hSm
              rw [if_pos rfl] at c13
              clear hltj HR HSM hRr hSm
              go_wp2_with (go_at_call 13; refine Calls_on c13 ?_)
              go_ret
              exact ⟨rfl, HB6.out.trans (HBQ.out.mono HB6.out.size)⟩
      · have hlkI : ¬ (i : Int) < its.length := by omega
        cases hok : allIn (cuts its i) with
        | false =>
          have HW10 : Hid (Wr wr a none) := by
            have := HV.out.wri
            rw [writes_all, if_neg (by rw [hok]; decide)] at this
            exact this
          have HBEL : Hid (Below w.heap.size w wr) := HV.out.bel
          clear hok HV hlt
          have c10 := wdone_bad a wr HW10.out
          clear HW10
          go_wp2_with (go_at_call 10; refine Calls_on c10 ?_)
          go_ret
          exact ⟨rfl, HBEL.out⟩
        | true =>
          have HW10' : Hid (Wr wr a (some (wants (cuts its i)))) := by
            have := HV.out.wri
            rw [writes_all, if_pos hok, List.nil_append] at this
            exact this
          have HSK' : Hid (skips ((cuts its i).map (·.kind)) (some (wants (cuts its i))) = some []) := by
            have := skips_all (cuts its i) hok []
            rw [List.append_nil] at this
            exact this
          have HWL' : Hid ((wants (cuts its i)).length ≤ 7200) := by
            have := wants_len (cuts its i) (cuts_small its i)
            rw [cuts_length its i hi] at this
            show _ ≤ _; omega
          have hkl12 : ((cuts its i).map (·.kind)).length ≤ 12 := by rw [List.length_map, cuts_length its i hi]; exact hi12
          have HBEL : Hid (Below w.heap.size w wr) := HV.out.bel
          obtain ⟨hz5, p5, c5, hu5, hz6, bw5, hz7⟩ := owns_bytes HV.out.want
          obtain ⟨hz8, p7, c7, hu7, hz9, lk7, hz10⟩ := owns_lies HV.out.kinds
          rw [List.length_map] at hu7
          subst hu5
          subst hu7
          have HBW5' : Hid (Bytes wr p5 (wants (cuts its i))) := bw5
          have HLK' : Hid (Lies wr p7 (((cuts its i).map (·.kind)).map iv)) := lk7
          clear hz5 hz6 hz7 hz8 hz9 hz10 bw5 lk7 hok HV hlt
          obtain ⟨Wn, hWn⟩ : ∃ Wn, wants (cuts its i) = Wn := ⟨_, rfl⟩
          obtain ⟨Kn, hKn⟩ : ∃ Kn, (cuts its i).map (·.kind) = Kn := ⟨_, rfl⟩
          rw [hWn] at HW10' HSK' HWL' HBW5'
          rw [hKn] at HSK' HLK' hkl12
          rw [hWn, hKn]
          have HW10 : Hid (Wr wr a (some Wn)) := HW10'
          have HSK : Hid (skips Kn (some Wn) = some []) := HSK'
          have HWL : Hid (Wn.length ≤ 7200) := HWL'
          have HBW5 : Hid (Bytes wr p5 Wn) := HBW5'
          have HLK : Hid (Lies wr p7 (Kn.map iv)) := HLK'
          clear hWn hKn HW10' HSK' HWL' HBW5' HLK'
          have c10 := wdone_good a Wn wr HW10.out (by unfold Few; have := HWL.out; simp; omega)
          clear HW10
          go_wp2_with fail
          refine c10.mono ?_
          rintro e w6 ⟨v, rfl, hclo⟩
          obtain ⟨pb, cb, rfl, hcb, bb⟩ := hclo.slice
          have hst1 := run_str w6 pb Wn cb bb
          have hst2 := run_str w6 p5 Wn c5 (below_bytes hclo.2 HBW5.out)
          have c11 := newReader_any pb Wn cb w6 (by have := HWL.out; omega) bb
          have HB6 : Hid (Below w.heap.size w w6) := HBEL.out.trans (hclo.2.mono HBEL.out.size)
          have HL7 : Hid (Lies w6 p7 (Kn.map iv)) := below_lies hclo.2 HLK.out
          have HBB : Hid (Bytes w6 pb Wn) := bb
          generalize strOf Wn = T at hst1 hst2
          clear c10 hclo bb hcb
          go_wp2_with (go_at_call 11; fail)
          refine c11.mono ?_
          rintro e w7 ⟨a2, rfl, ha2, hR7, hB7⟩
          have HB7 : Hid (Below w6.heap.size w6 w7) := hB7
          have HA2 : Hid (w6.heap.size ≤ a2) := ha2
          have HR7 : Hid (Rd 68 w7 a2 (some Wn)) := hR7
          have B7 : Hid (Bytes w7 pb Wn) := below_bytes hB7 HBB.out
          have HO7 : Hid (w7.ownsRow w7.heap.size 5 1 (.slice none 0 0) 0 []) := World.ownsRow_nil _ _ _ _
          have H63 : Hid (0 + Wn.length ≤ 1099511627776) := by have := HWL.out; show _ ≤ _; omega
          have tok : True := trivial
          clear c11 ha2 hR7 hB7 hst1 hst2
          go_wp2_with (have tk := tok; refine wpList_append_bytes rfl _ _ rfl w7.heap.size _ 0 [] rfl HO7.out pb Wn cb rfl B7.out H63.out (Nat.le_refl _) ?_; clear tk tok; intro v' w8 hown hg _; rw [Nat.zero_add, List.nil_append] at hown; obtain ⟨hl0, p8, c8, rfl, hc8, hb8, hp8⟩ := owns_bytes hown; have HP8 : Hid (Plain w8.heap.size p8) := owns_plain hown; have HC8 : Hid (Wn.length ≤ c8) := hc8; have B8 : Hid (Bytes w8 p8 Wn) := hb8; have hB8 : Below w7.heap.size w7 w8 := (Below.refl _ _).grown hg (Nat.le_refl _) (by intro k hk; cases hk); have HB8 : Hid (Below w7.heap.size w7 w8) := hB8; clear hown hg hl0 hc8 hb8 hp8 hB8)
          have HAW : Hid (Below w8.heap.size w8 (w8.alloc (.cells #[.slice p8 Wn.length c8, .bool false] 44))) := below_new _ _
          have HBO : Hid (Both (w8.alloc (.cells #[.slice p8 Wn.length c8, .bool false] 44)) a2 w8.heap.size (some Wn)) :=
            ⟨(HR7.out.below HB8.out).below HAW.out, ⟨p8, c8, HP8.out, heap_alloc_new w8 _, HC8.out, below_bytes HAW.out B8.out⟩⟩
          have HB9 : Hid (Below w6.heap.size w6 (w8.alloc (.cells #[.slice p8 Wn.length c8, .bool false] 44))) := (HB7.out.trans (HB8.out.mono HB7.out.size)).trans (HAW.out.mono (Nat.le_trans HB7.out.size HB8.out.size))
          have HC2 : Hid (w6.heap.size ≤ w8.heap.size) := Nat.le_trans HB7.out.size HB8.out.size
          generalize w8.alloc (.cells #[.slice p8 Wn.length c8, .bool false] 44) = w9 at HBO HB9 HAW ⊢
          generalize w8.heap.size = cc at HBO HC2 ⊢
          clear HAW HP8 HC8 B8 HB8
          go_loopw [16] (fun jj wr2 => ∃ j : Nat, jj = .int .i64 j ∧ j ≤ Kn.length ∧ Hid (Both wr2 a2 cc (skips (Kn.take j) (some Wn))) ∧ Hid (Below w6.heap.size w6 wr2)) (fun jj _ => Kn.length - (intOf jj).toNat)
          case atStart => exact ⟨0, rfl, Nat.zero_le _, HBO, HB9⟩
          case round =>
            obtain ⟨j, rfl, hj, HR, HBQ⟩ := hrel
            have HSM : Hid (Small (skips (Kn.take j) (some Wn))) := by
              have h1 := skips_len (Kn.take j) (some Wn)
              have h2 := HWL.out
              show Small _
              unfold Small
              simp at h1
              omega
            by_cases hltj : j < Kn.length
            · have hltJ : (j : Int) < Kn.length := by omega
              obtain ⟨kb, ko, rfl, hkc⟩ := HL7.out (by simp; omega)
              obtain ⟨kx, hkx⟩ : ∃ kx, Kn[j]? = some kx := ⟨_, List.getElem?_eq_getElem hltj⟩
              have kk1 := hkc j (iv kx) (by rw [List.getElem?_map, hkx]; rfl)
              have cc1 : wr.cell? ⟨kb, ko + j, none⟩ = some (.int .i64 kx) := (HBQ.out.cell (p := ⟨kb, ko + j, none⟩) (cell_lt kk1)).trans kk1
              have c12 := take_any a2 cc kx _ wr HR.out HSM.out
              have HXX : Hid (skips (Kn.take (j + 1)) (some Wn) = skip kx (skips (Kn.take j) (some Wn))) := by
                show _ = _
                rw [List.take_add_one, hkx]; exact skips_snoc _ _ _
              clear hkc hkx kk1
              go_wp2_with fail
              refine c12.mono ?_
              rintro e w10 ⟨rfl, mm1, mm2⟩
              have MM1 : Hid (Both w10 a2 cc (skip kx (skips (Kn.take j) (some Wn)))) := mm1
              have MM2 : Hid (Below w6.heap.size w6 w10) := two_below HBQ.out mm2 HA2.out HC2.out
              clear c12 mm1 mm2 cc1
              go_wp2
              go_roundw
              case rel => exact ⟨j + 1, by go_num, by omega, by rw [HXX.out]; exact MM1, MM2⟩
              case measure => simp [intOf]; omega
            · obtain rfl : j = Kn.length := by omega
              have hRr := HR.out.r
              have hSm := HSM.out
              rw [List.take_length, HSK.out] at hRr hSm
              have c13 := rdone_any a2 _ wr hRr hSm
              rw [if_pos rfl] at c13
              clear hltj HR HSM hRr hSm
              go_wp2_with (go_at_call 13; refine Calls_on c13 ?_)
              go_ret
              exact ⟨rfl, HB6.out.trans (HBQ.out.mono HB6.out.size)⟩

end Go.Proofs.Ythimmgbccpdkmaa
