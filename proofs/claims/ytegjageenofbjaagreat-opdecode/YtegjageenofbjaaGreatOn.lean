/-
  An operation is written: the document's Encode.
-/
import Derived.Test.YtegjageenofbjaaGreatOm
import Derived.Laws.IdiomStrings
import Derived.Laws.MakeOwn
namespace Go.Proofs.YtegjageenofbjaaGreat.Cd
open Go.RowKit Go.Maps

attribute [local go_sem] Oper.semAt_some

/-- '[]byte(s)'. -/
theorem conv_bytes (nm : List UInt8) (W : World) : ∃ W' c, (convert 9 24 (.string (bas nm))).run Tryz.prog W = .ok (.slice (some ⟨W.heap.size, 0, none⟩) nm.length c) W' ∧ Bytes W' (some ⟨W.heap.size, 0, none⟩) (bvs nm) ∧ Below W.heap.size W W' := by
  have h := run_bytes_of_string (P := Tryz.prog) W 9 24 5 (bas nm) Tryz.underlying9 Tryz.underlying24 Tryz.underlying5
  rw [bas_size] at h
  refine ⟨_, _, h, ?_, ((Below.refl _ W).drew).alloc (Nat.le_refl _) _⟩
  intro _
  refine ⟨W.heap.size, 0, rfl, fun j x hj => ?_⟩
  have hb := heap_alloc_new W.drew (.cells (bytesRow (bas nm) (grownCap W nm.length 0 5)) 5 ((bytesRow (bas nm) (grownCap W nm.length 0 5)).size, (bytesRow (bas nm) (grownCap W nm.length 0 5)).size + 1))
  rw [show W.drew.heap.size = W.heap.size from rfl] at hb
  rw [cellOf hb]
  unfold bvs at hj
  rw [List.getElem?_map] at hj
  obtain ⟨y, hy, rfl⟩ := Option.map_eq_some_iff.1 hj
  unfold bytesRow bas
  rw [Nat.zero_add, Array.getElem?_append_left (by
    have := (List.getElem?_eq_some_iff.1 hy).1
    simpa using this)]
  simp [hy, u8v]

theorem bytesInfo : ∃ i, Tryz.prog.info? 24 = some i ∧ i.zero = some (.slice none 0 0) ∧ i.size = 1 ∧ i.bytes = 24 := by
  have e : (Tryz.prog.info? 24).map (fun i => (i.zero, i.size, i.bytes)) = some (some (.slice none 0 0), 1, 24) := by kernel_rfl
  obtain ⟨i, hi, he⟩ := Option.map_eq_some_iff.1 e
  injection he with h1 h2
  injection h2 with h2 h3
  exact ⟨i, hi, h1, h2, h3⟩
theorem make7 (w : World) : (Instr.makeSlice 54 (.int .i64 7) (.int .i64 7)).run Tryz.prog w = .ok (.slice (some ⟨w.heap.size, 0, none⟩) 7 7) (w.alloc (.cells #[.slice none 0 0, .slice none 0 0, .slice none 0 0, .slice none 0 0, .slice none 0 0, .slice none 0 0, .slice none 0 0] 24)) := by
  obtain ⟨i0, hi0, hz0, hz1, hz2⟩ := bytesInfo
  have := run_make (P := Tryz.prog) w 54 24 i0 (.slice none 0 0) Tryz.underlying54 hi0 hz0 .i64 .i64 7 7 (by omega) (Int.le_refl _) (by rw [hz2]; omega) (by omega)
  rw [this, hz1, show (Value.slice none 0 0).cells = #[Value.slice none 0 0] from rfl, show (#[.slice none 0 0, .slice none 0 0, .slice none 0 0, .slice none 0 0, .slice none 0 0, .slice none 0 0, .slice none 0 0] : Array Value) = (List.replicate 7 (.slice none 0 0)).toArray from rfl, ← toList_madeCells_one]
  rfl

theorem conv_at (nm : List UInt8) (W : World) (g : Nat) (hg : W.heap.size = g) : ∃ W' c, (convert 9 24 (.string (bas nm))).run Tryz.prog W = .ok (.slice (some ⟨g, 0, none⟩) nm.length c) W' ∧ Bytes W' (some ⟨g, 0, none⟩) (bvs nm) ∧ Below W.heap.size W W' := by
  subst hg
  exact conv_bytes nm W

/-- The document's Encode, while the parts are made. -/
structure RW (w W : World) (g P : Nat) (t n sq kd ot on pt pn : Int) (nm : List UInt8) (p q : Option Addr) (l c m d : Nat) (data : List (BitVec 8)) (ns : List Int) (v0 : Value) (e1 : List (BitVec 8)) (cs : Array Value) (Ls : List (Option Addr × List (BitVec 8))) : Prop where
  op : OpB W g t n sq kd ot on pt pn nm p q l c m d
  bel : Below w.heap.size w W
  blk : W.heap[P]? = some (.cells cs 24 (0, 0))
  own : W.ownsRow w.heap.size 5 1 v0 e1.length (e1.map u8v)
  ob : ∀ x, v0.ownBlock = some x → x < P
  lo : w.heap.size ≤ g ∧ g < P
  dat : Bytes W p data
  see : Lies W q (ns.map iv)
  datlo : ∀ b o, 0 < data.length → p = some ⟨b, o, none⟩ → b < w.heap.size
  seelo : ∀ b o, 0 < (ns.map iv).length → q = some ⟨b, o, none⟩ → b < w.heap.size
  parts : ∀ x ∈ Ls, Bytes W x.1 x.2 ∧ ∀ b o, 0 < x.2.length → x.1 = some ⟨b, o, none⟩ → P < b
theorem RW.call {w W W' : World} {g P : Nat} {t n sq kd ot on pt pn : Int} {nm : List UInt8} {p q : Option Addr} {l c m d : Nat} {data : List (BitVec 8)} {ns : List Int} {v0 : Value} {e1 : List (BitVec 8)} {cs : Array Value} {Ls : List (Option Addr × List (BitVec 8))} (h : RW w W g P t n sq kd ot on pt pn nm p q l c m d data ns v0 e1 cs Ls) (hb : Below W.heap.size W W') : RW w W' g P t n sq kd ot on pt pn nm p q l c m d data ns v0 e1 cs Ls :=
  ⟨h.op.below hb, h.bel.trans (hb.mono h.bel.size), (hb.block P (block_lt h.blk)).trans h.blk, own_below h.own hb, h.ob, h.lo, below_bytes hb h.dat, below_lies hb h.see, h.datlo, h.seelo, fun x hx => ⟨below_bytes hb (h.parts x hx).1, (h.parts x hx).2⟩⟩
theorem RW.set {w W : World} {g P : Nat} {t n sq kd ot on pt pn : Int} {nm : List UInt8} {p q : Option Addr} {l c m d : Nat} {data : List (BitVec 8)} {ns : List Int} {v0 : Value} {e1 : List (BitVec 8)} {cs : Array Value} {Ls : List (Option Addr × List (BitVec 8))} (h : RW w W g P t n sq kd ot on pt pn nm p q l c m d data ns v0 e1 cs Ls) (k : Nat) (v : Value) : RW w (W.setCell ⟨P, k, none⟩ v) g P t n sq kd ot on pt pn nm p q l c m d data ns v0 e1 (cs.setIfInBounds k v) Ls := by
  have ho : Only (· = P) W (W.setCell ⟨P, k, none⟩ v) := Only.setCell W ⟨P, k, none⟩ v rfl
  refine ⟨h.op.keep ho (by have := h.lo; omega), h.bel.setCell (by have := h.lo; show w.heap.size ≤ P; omega) _, heap_set_same h.blk v, ho.owns h.own (fun b hb e => by have := h.ob b hb; have : b = P := e; omega), h.ob, h.lo,
    ho.bytes h.dat (fun b o h0 e hb => by have := h.datlo b o h0 e; have := h.lo; have : b = P := hb; omega), ho.lies h.see (fun b o h0 e hb => by have := h.seelo b o h0 e; have := h.lo; have : b = P := hb; omega), h.datlo, h.seelo,
    fun x hx => ⟨ho.bytes (h.parts x hx).1 (fun b o h0 e hb => by have := (h.parts x hx).2 b o h0 e; have : b = P := hb; omega), (h.parts x hx).2⟩⟩
theorem RW.add {w W : World} {g P : Nat} {t n sq kd ot on pt pn : Int} {nm : List UInt8} {p q : Option Addr} {l c m d : Nat} {data : List (BitVec 8)} {ns : List Int} {v0 : Value} {e1 : List (BitVec 8)} {cs : Array Value} {Ls : List (Option Addr × List (BitVec 8))} (h : RW w W g P t n sq kd ot on pt pn nm p q l c m d data ns v0 e1 cs Ls) (x : Option Addr × List (BitVec 8)) (hx : Bytes W x.1 x.2) (hlo : ∀ b o, 0 < x.2.length → x.1 = some ⟨b, o, none⟩ → P < b) : RW w W g P t n sq kd ot on pt pn nm p q l c m d data ns v0 e1 cs (Ls ++ [x]) :=
  ⟨h.op, h.bel, h.blk, h.own, h.ob, h.lo, h.dat, h.see, h.datlo, h.seelo, fun y hy => by
    rcases List.mem_append.1 hy with hy | hy
    · exact h.parts y hy
    · rw [List.mem_singleton.1 hy]; exact ⟨hx, hlo⟩⟩

/-- While the parts are laid together. -/
structure RB (w W : World) (P Lim : Nat) (Ls : List (Option Addr × List (BitVec 8) × Nat)) (bs : List (BitVec 8)) (v : Value) : Prop where
  own : W.ownsRow w.heap.size 5 1 v bs.length (bs.map u8v)
  bel : Below w.heap.size w W
  parts : ∀ j x, Ls[j]? = some x → W.cell? ⟨P, j, none⟩ = some (.slice x.1 x.2.1.length x.2.2) ∧ Bytes W x.1 x.2.1 ∧ ∀ b o, 0 < x.2.1.length → x.1 = some ⟨b, o, none⟩ → P < b ∧ b < Lim
  ob : ∀ x, v.ownBlock = some x → x < P ∨ Lim ≤ x
  lim : Lim ≤ W.heap.size ∧ P < Lim
theorem wpList_part {w W : World} {ops : Array Oper} {rest : List Oper} {o : Oper} {a : Act} {Q : Exit → Act → World → Prop} (hgd : o.guard = none) (s x : Operand)
    (ho : o.op = .call { callee := .builtin .append, args := #[s, x], argTypes := #[24, 24] })
    (P Lim : Nat) (Ls : List (Option Addr × List (BitVec 8) × Nat)) (bs : List (BitVec 8)) (v : Value) (hs : a.eval s = v) (h : Hid (RB w W P Lim Ls bs v)) (j : Nat) (y : Option Addr × List (BitVec 8) × Nat) (hj : Hid (Ls[j]? = some y))
    (hx : a.eval x = .slice y.1 y.2.1.length y.2.2) (h63 : Hid (bs.length + y.2.1.length ≤ 1099511627776))
    (hK : ∀ v' w', Hid (RB w w' P Lim Ls (bs ++ y.2.1) v') → wpList Tryz.prog ops Q rest (a.put o.dst v') w') :
    wpList Tryz.prog ops Q (o :: rest) a W := by
  obtain ⟨k1, k2, k3⟩ := h.out.parts j y hj.out
  refine wpList_append_bytes hgd s x ho w.heap.size v bs.length (bs.map u8v) hs h.out.own y.1 y.2.1 y.2.2 hx k2 h63.out h.out.bel.size ?_
  intro v' w' h1 h2 h3
  have hlim := h.out.lim
  have hbk : ∀ b, b < W.heap.size → (P ≤ b ∧ b < Lim) → w'.heap[b]? = W.heap[b]? := fun b hb hlt => h2.block b hb (fun e => by
    have := h.out.ob b e.symm
    omega)
  refine hK v' w' ⟨by rw [List.length_append, List.map_append]; exact h1, h.out.bel.grown h2 h.out.bel.size (fun k hk => (own_lt h.out.own hk).1), fun i z hz => ?_, fun b hb => ?_, ?_⟩
  · obtain ⟨m1, m2, m3⟩ := h.out.parts i z hz
    refine ⟨(World.cell?_of_block (w := W) (a := ⟨P, i, none⟩) (hbk P (cell_lt m1) ⟨Nat.le_refl _, hlim.2⟩)).trans m1, fun h0 => ?_, m3⟩
    obtain ⟨b, oo, e, hc⟩ := m2 h0
    refine ⟨b, oo, e, fun i x hx => ?_⟩
    have hb := m3 b oo h0 e
    exact (World.cell?_of_block (w := W) (a := ⟨b, oo + i, none⟩) (hbk b (by omega) ⟨by omega, hb.2⟩)).trans (hc i x hx)
  · rcases h3 with e | e
    · rw [e] at hb; exact h.out.ob b hb
    · rw [e] at hb; cases hb; exact .inr hlim.1
  · exact ⟨Nat.le_trans hlim.1 h2.size, hlim.2⟩

set_option maxRecDepth 8000 in
set_option maxHeartbeats 8000000 in
theorem rencode_any (t n sq kd ot on pt pn : Int) (nm : List UInt8) (p q : Option Addr) (l c m d : Nat) (data : List (BitVec 8)) (ns : List Int) (w : World) (hs : nm.length < 1000000000000000) (hl : l = data.length) (hll : l < 9000000000000000000) (hm : m = ns.length) (hml : ns.length ≤ 1000) (hp : Bytes w p data) (hq : Lies w q (ns.map iv)) :
    Calls Tryz.prog 8 #[.agg #[.int .i64 t, .int .i64 n, .int .i64 sq, .int .i64 kd, .int .i64 ot, .int .i64 on, .int .i64 pt, .int .i64 pn, .string (bas nm), .slice p l c, .slice q m d]] w fun e w' => ∃ v, e = .returned v ∧ Cloned w (if mayO t n sq kd ot on pt pn nm data.length ns then bytesO t n sq kd ot on pt pn nm data ns else []) v w' := by
  have H9 : Hid (OpB (w.alloc (.cells #[.int .i64 t, .int .i64 n, .int .i64 sq, .int .i64 kd, .int .i64 ot, .int .i64 on, .int .i64 pt, .int .i64 pn, .string (bas nm), .slice p l c, .slice q m d] 28)) w.heap.size t n sq kd ot on pt pn nm p q l c m d) := OpB.made w t n sq kd ot on pt pn nm p q l c m d
  have B0 : Hid (∀ o, Below w.heap.size w (w.alloc o)) := fun o => (below_new w o).out
  have HG : Hid (∀ o W, Below (w.alloc o).heap.size (w.alloc o) W → Below w.heap.size w W) := fun o W h => (B0.out o).trans (h.mono (B0.out o).size)
  have HM : Hid (∀ W, Below w.heap.size w W → Calls Tryz.prog 7 #[.agg #[.int .i64 t, .int .i64 n, .int .i64 sq, .int .i64 kd, .int .i64 ot, .int .i64 on, .int .i64 pt, .int .i64 pn, .string (bas nm), .slice p l c, .slice q m d]] W fun e w' => e = .returned (.bool (mayO t n sq kd ot on pt pn nm data.length ns)) ∧ Below W.heap.size W w') := fun W hW => by
    rw [← hl]
    exact rmay_any t n sq kd ot on pt pn nm p q l c m d ns W hs hll hm.symm hml (below_lies hW hq)
  cases hmay : mayO t n sq kd ot on pt pn nm data.length ns with
  | false =>
    rw [hmay] at HM
    rw [show (if false = true then bytesO t n sq kd ot on pt pn nm data ns else []) = [] from rfl]
    clear hmay hs hl hll hm hml hp hq
    go_enter Tryz.func8, Tryz.ntmps8
    go_wp2_with (go_at_call 7; refine Calls_new (HM.out _ (B0.out _)) ?_; clear HM; intro w2 hb2)
    go_ret
    exact ⟨_, rfl, World.ownsRow_nil _ _ _ _, HG.out _ _ hb2.out⟩
  | true =>
    rw [hmay] at HM
    rw [if_pos rfl]
    obtain ⟨⟨e1, h1⟩, ⟨e2, h2⟩, ⟨e3, h3⟩, ⟨e4, h4⟩, ⟨e5, h5⟩, ⟨e6, h6⟩, ⟨e7, h7⟩, ⟨e8, h8⟩, hnl, hdl⟩ := may_parts hmay
    obtain ⟨bys, hbys⟩ : ∃ bys, bytesO t n sq kd ot on pt pn nm data ns = bys := ⟨_, rfl⟩
    rw [hbys]
    have HBY : Hid (bys = e1 ++ (e2 ++ (e3 ++ (e4 ++ (e5 ++ (e6 ++ (e7 ++ e8))))))) := by
      show _ = _
      rw [← hbys]
      unfold bytesO partsO
      rw [h1, h2, h3, h4, h5, h6, h7, h8]
      simp
    have l1 := num_len h1
    have l2 := id_len h2
    have l3 := num_len h3
    have l4 := id_len h4
    have l5 := id_len h5
    have l6 := by_len h6
    rw [bvs_length] at l6
    have l7 := by_len h7
    have l8 : e8.length ≤ 1000 := by
      have : eVec ns = some e8 := h8
      unfold eVec at this
      split at this
      · cases this
        have g1 := numB_len9 (normOf ns).length (by have := normOf_le ns; omega)
        have g2 := numsB_len (normOf ns) (normOf_ok ns)
        have g3 := normOf_le ns
        rw [List.length_append]
        omega
      · cases this
    have HL : Hid (e1.length ≤ 9 ∧ e2.length ≤ 18 ∧ e3.length ≤ 9 ∧ e4.length ≤ 18 ∧ e5.length ≤ 18 ∧ e6.length ≤ 100 ∧ e7.length ≤ 70000 ∧ e8.length ≤ 1000) := ⟨l1, l2, l3, l4, l5, by omega, by omega, l8⟩
    have HS : Hid (eNum kd = some e1 ∧ eID t n = some e2 ∧ eNum sq = some e3 ∧ eID ot on = some e4 ∧ eID pt pn = some e5 ∧ eBytes (bvs nm) = some e6 ∧ eBytes data = some e7 ∧ eVec ns = some e8) := ⟨h1, h2, h3, h4, h5, h6, h7, h8⟩
    have HP : Hid (Bytes w p data) := hp
    have HQ : Hid (Lies w q (ns.map iv)) := hq
    have HLL : Hid (l = data.length) := hl
    have HMM : Hid (m = ns.length ∧ ns.length ≤ 1000) := ⟨hm, hml⟩
    clear hmay h1 h2 h3 h4 h5 h6 h7 h8 l1 l2 l3 l4 l5 l6 l7 l8 hnl hdl hs hl hll hm hml hp hq hbys
    go_enter Tryz.func8, Tryz.ntmps8
    go_wp2_with (go_at_call 7; refine Calls_new (HM.out _ (B0.out _)) ?_; clear HM; intro w2 hb2; have HO2 : Hid (OpB w2 w.heap.size t n sq kd ot on pt pn nm p q l c m d) := H9.out.below hb2.out; have ⟨c0, c1, c2, c3, c4, c5, c6, c7, c8, c9, c10⟩ := HO2.out.cells; have HB2 : Hid (Below w.heap.size w w2) := HG.out _ _ hb2.out; have HW2 : Hid (w.heap.size < w2.heap.size) := block_lt HO2.out; clear hb2)
    have k0 := enum_any kd w2
    rw [HS.out.1] at k0
    refine (show Calls Tryz.prog 30 _ _ _ from k0).mono ?_
    rintro e w3 ⟨v0, rfl, x1, x2⟩
    rw [show (some e1 : St).getD [] = e1 from rfl] at x1
    have X1 : Hid (w3.ownsRow w2.heap.size 5 1 v0 e1.length (e1.map u8v)) := x1
    have X2 : Hid (Below w2.heap.size w2 w3) := x2
    clear x1 x2 k0 c0 c1 c2 c3 c4 c5 c6 c7 c8 c9 c10 H9
    obtain ⟨P, hP⟩ : ∃ P, w3.heap.size = P := ⟨_, rfl⟩
    have E0 : Hid (RW w (w3.alloc (.cells #[.slice none 0 0, .slice none 0 0, .slice none 0 0, .slice none 0 0, .slice none 0 0, .slice none 0 0, .slice none 0 0] 24)) w.heap.size P t n sq kd ot on pt pn nm p q l c m d data ns v0 e1 #[.slice none 0 0, .slice none 0 0, .slice none 0 0, .slice none 0 0, .slice none 0 0, .slice none 0 0, .slice none 0 0] []) := by
      have hB3 : Below w.heap.size w w3 := HB2.out.trans (X2.out.mono HB2.out.size)
      have hb := (below_new w3 (.cells #[.slice none 0 0, .slice none 0 0, .slice none 0 0, .slice none 0 0, .slice none 0 0, .slice none 0 0, .slice none 0 0] 24)).out
      have hsz := X2.out.size
      have hw := HW2.out
      refine ⟨(HO2.out.below X2.out).below hb, hB3.trans (hb.mono hB3.size), by rw [← hP]; exact heap_alloc_new w3 _, own_base (own_below X1.out hb) (Nat.le_of_lt hw), fun x hx => ?_, ⟨Nat.le_refl _, by omega⟩, below_bytes hb (below_bytes hB3 HP.out), below_lies hb (below_lies hB3 HQ.out), bytes_lt HP.out, lies_lt HQ.out, fun x hx => by cases hx⟩
      have := (own_lt X1.out hx).2.1
      omega
    rw [show (some e1 : St).isSome = true from rfl]
    have hmk := make7 w3
    clear HO2 X1 X2
    have ⟨c0, c1, c2, c3, c4, c5, c6, c7, c8, c9, c10⟩ := E0.out.op.cells
    have k := eid_any t n (w3.alloc (.cells #[.slice none 0 0, .slice none 0 0, .slice none 0 0, .slice none 0 0, .slice none 0 0, .slice none 0 0, .slice none 0 0] 24))
    rw [HS.out.2.1] at k
    go_wp2_with fail
    refine (show Calls Tryz.prog 31 _ _ _ from k).mono ?_
    rintro e v2_ ⟨vv, rfl, x1, x2⟩
    rw [show (some e2 : St).getD [] = e2 from rfl] at x1
    rw [show (some e2 : St).isSome = true from rfl]
    obtain ⟨_, p2, cc2, rfl, _, hbb, hpb⟩ := owns_bytes x1
    have F : Hid (RW w v2_ w.heap.size P t n sq kd ot on pt pn nm p q l c m d data ns v0 e1 #[.slice none 0 0, .slice none 0 0, .slice none 0 0, .slice none 0 0, .slice none 0 0, .slice none 0 0, .slice none 0 0] [(p2, e2)]) := (E0.out.call x2).add (p2, e2) hbb (fun b o _ e => by have := (own_lt x1 (hpb b o e)).1; have := block_lt E0.out.blk; omega)
    have q0 : v2_.cell? ⟨P, 0, none⟩ = some (.slice none 0 0) := cellOf F.out.blk 0
    have r0 : v2_.frozen? ⟨P, 0, none⟩ = false := frozenOf F.out.blk 0
    have E1 : Hid (RW w (v2_.setCell ⟨P, 0, none⟩ (.slice p2 e2.length cc2)) w.heap.size P t n sq kd ot on pt pn nm p q l c m d data ns v0 e1 #[.slice p2 e2.length cc2, .slice none 0 0, .slice none 0 0, .slice none 0 0, .slice none 0 0, .slice none 0 0, .slice none 0 0] [(p2, e2)]) := F.out.set 0 (.slice p2 e2.length cc2)
    clear x1 x2 hbb hpb k F c0 c1 c2 c3 c4 c5 c6 c7 c8 c9 c10
    have ⟨c0, c1, c2, c3, c4, c5, c6, c7, c8, c9, c10⟩ := E1.out.op.cells
    have k := enum_any sq (v2_.setCell ⟨P, 0, none⟩ (.slice p2 e2.length cc2))
    rw [HS.out.2.2.1] at k
    go_wp2_with fail
    refine (show Calls Tryz.prog 30 _ _ _ from k).mono ?_
    rintro e v3_ ⟨vv, rfl, x1, x2⟩
    rw [show (some e3 : St).getD [] = e3 from rfl] at x1
    rw [show (some e3 : St).isSome = true from rfl]
    obtain ⟨_, p3, cc3, rfl, _, hbb, hpb⟩ := owns_bytes x1
    have F : Hid (RW w v3_ w.heap.size P t n sq kd ot on pt pn nm p q l c m d data ns v0 e1 #[.slice p2 e2.length cc2, .slice none 0 0, .slice none 0 0, .slice none 0 0, .slice none 0 0, .slice none 0 0, .slice none 0 0] [(p2, e2), (p3, e3)]) := (E1.out.call x2).add (p3, e3) hbb (fun b o _ e => by have := (own_lt x1 (hpb b o e)).1; have := block_lt E1.out.blk; omega)
    have q1 : v3_.cell? ⟨P, 1, none⟩ = some (.slice none 0 0) := cellOf F.out.blk 1
    have r1 : v3_.frozen? ⟨P, 1, none⟩ = false := frozenOf F.out.blk 1
    have E2 : Hid (RW w (v3_.setCell ⟨P, 1, none⟩ (.slice p3 e3.length cc3)) w.heap.size P t n sq kd ot on pt pn nm p q l c m d data ns v0 e1 #[.slice p2 e2.length cc2, .slice p3 e3.length cc3, .slice none 0 0, .slice none 0 0, .slice none 0 0, .slice none 0 0, .slice none 0 0] [(p2, e2), (p3, e3)]) := F.out.set 1 (.slice p3 e3.length cc3)
    clear x1 x2 hbb hpb k F c0 c1 c2 c3 c4 c5 c6 c7 c8 c9 c10
    have ⟨c0, c1, c2, c3, c4, c5, c6, c7, c8, c9, c10⟩ := E2.out.op.cells
    have k := eid_any ot on (v3_.setCell ⟨P, 1, none⟩ (.slice p3 e3.length cc3))
    rw [HS.out.2.2.2.1] at k
    go_wp2_with fail
    refine (show Calls Tryz.prog 31 _ _ _ from k).mono ?_
    rintro e v4_ ⟨vv, rfl, x1, x2⟩
    rw [show (some e4 : St).getD [] = e4 from rfl] at x1
    rw [show (some e4 : St).isSome = true from rfl]
    obtain ⟨_, p4, cc4, rfl, _, hbb, hpb⟩ := owns_bytes x1
    have F : Hid (RW w v4_ w.heap.size P t n sq kd ot on pt pn nm p q l c m d data ns v0 e1 #[.slice p2 e2.length cc2, .slice p3 e3.length cc3, .slice none 0 0, .slice none 0 0, .slice none 0 0, .slice none 0 0, .slice none 0 0] [(p2, e2), (p3, e3), (p4, e4)]) := (E2.out.call x2).add (p4, e4) hbb (fun b o _ e => by have := (own_lt x1 (hpb b o e)).1; have := block_lt E2.out.blk; omega)
    have q2 : v4_.cell? ⟨P, 2, none⟩ = some (.slice none 0 0) := cellOf F.out.blk 2
    have r2 : v4_.frozen? ⟨P, 2, none⟩ = false := frozenOf F.out.blk 2
    have E3 : Hid (RW w (v4_.setCell ⟨P, 2, none⟩ (.slice p4 e4.length cc4)) w.heap.size P t n sq kd ot on pt pn nm p q l c m d data ns v0 e1 #[.slice p2 e2.length cc2, .slice p3 e3.length cc3, .slice p4 e4.length cc4, .slice none 0 0, .slice none 0 0, .slice none 0 0, .slice none 0 0] [(p2, e2), (p3, e3), (p4, e4)]) := F.out.set 2 (.slice p4 e4.length cc4)
    clear x1 x2 hbb hpb k F c0 c1 c2 c3 c4 c5 c6 c7 c8 c9 c10
    have ⟨c0, c1, c2, c3, c4, c5, c6, c7, c8, c9, c10⟩ := E3.out.op.cells
    have k := eid_any pt pn (v4_.setCell ⟨P, 2, none⟩ (.slice p4 e4.length cc4))
    rw [HS.out.2.2.2.2.1] at k
    go_wp2_with fail
    refine (show Calls Tryz.prog 31 _ _ _ from k).mono ?_
    rintro e v5_ ⟨vv, rfl, x1, x2⟩
    rw [show (some e5 : St).getD [] = e5 from rfl] at x1
    rw [show (some e5 : St).isSome = true from rfl]
    obtain ⟨_, p5, cc5, rfl, _, hbb, hpb⟩ := owns_bytes x1
    have F : Hid (RW w v5_ w.heap.size P t n sq kd ot on pt pn nm p q l c m d data ns v0 e1 #[.slice p2 e2.length cc2, .slice p3 e3.length cc3, .slice p4 e4.length cc4, .slice none 0 0, .slice none 0 0, .slice none 0 0, .slice none 0 0] [(p2, e2), (p3, e3), (p4, e4), (p5, e5)]) := (E3.out.call x2).add (p5, e5) hbb (fun b o _ e => by have := (own_lt x1 (hpb b o e)).1; have := block_lt E3.out.blk; omega)
    have q3 : v5_.cell? ⟨P, 3, none⟩ = some (.slice none 0 0) := cellOf F.out.blk 3
    have r3 : v5_.frozen? ⟨P, 3, none⟩ = false := frozenOf F.out.blk 3
    have E4 : Hid (RW w (v5_.setCell ⟨P, 3, none⟩ (.slice p5 e5.length cc5)) w.heap.size P t n sq kd ot on pt pn nm p q l c m d data ns v0 e1 #[.slice p2 e2.length cc2, .slice p3 e3.length cc3, .slice p4 e4.length cc4, .slice p5 e5.length cc5, .slice none 0 0, .slice none 0 0, .slice none 0 0] [(p2, e2), (p3, e3), (p4, e4), (p5, e5)]) := F.out.set 3 (.slice p5 e5.length cc5)
    clear x1 x2 hbb hpb k F c0 c1 c2 c3 c4 c5 c6 c7 c8 c9 c10
    have ⟨c0, c1, c2, c3, c4, c5, c6, c7, c8, c9, c10⟩ := E4.out.op.cells
    obtain ⟨wc, cc, hcv, hbc, hBc⟩ := conv_at nm (v5_.setCell ⟨P, 3, none⟩ (.slice p5 e5.length cc5)) v5_.heap.size (by simp [World.setCell])
    have G4 : Hid (RW w wc w.heap.size P t n sq kd ot on pt pn nm p q l c m d data ns v0 e1 #[.slice p2 e2.length cc2, .slice p3 e3.length cc3, .slice p4 e4.length cc4, .slice p5 e5.length cc5, .slice none 0 0, .slice none 0 0, .slice none 0 0] [(p2, e2), (p3, e3), (p4, e4), (p5, e5)]) := E4.out.call hBc
    have k := ebytes_any _ (bvs nm) cc wc hbc
    rw [bvs_length] at k
    have HBC : Hid (Below ((v5_.setCell ⟨P, 3, none⟩ (.slice p5 e5.length cc5))).heap.size (v5_.setCell ⟨P, 3, none⟩ (.slice p5 e5.length cc5)) wc) := hBc
    clear hbc hBc
    rw [HS.out.2.2.2.2.2.1] at k
    go_wp2_with fail
    refine (show Calls Tryz.prog 32 _ _ _ from k).mono ?_
    rintro e v6_ ⟨vv, rfl, x1, x2⟩
    rw [show (some e6 : St).getD [] = e6 from rfl] at x1
    rw [show (some e6 : St).isSome = true from rfl]
    obtain ⟨_, p6, cc6, rfl, _, hbb, hpb⟩ := owns_bytes x1
    have F : Hid (RW w v6_ w.heap.size P t n sq kd ot on pt pn nm p q l c m d data ns v0 e1 #[.slice p2 e2.length cc2, .slice p3 e3.length cc3, .slice p4 e4.length cc4, .slice p5 e5.length cc5, .slice none 0 0, .slice none 0 0, .slice none 0 0] [(p2, e2), (p3, e3), (p4, e4), (p5, e5), (p6, e6)]) := (G4.out.call x2).add (p6, e6) hbb (fun b o _ e => by have := (own_lt x1 (hpb b o e)).1; have := block_lt G4.out.blk; omega)
    have q4 : v6_.cell? ⟨P, 4, none⟩ = some (.slice none 0 0) := cellOf F.out.blk 4
    have r4 : v6_.frozen? ⟨P, 4, none⟩ = false := frozenOf F.out.blk 4
    have E5 : Hid (RW w (v6_.setCell ⟨P, 4, none⟩ (.slice p6 e6.length cc6)) w.heap.size P t n sq kd ot on pt pn nm p q l c m d data ns v0 e1 #[.slice p2 e2.length cc2, .slice p3 e3.length cc3, .slice p4 e4.length cc4, .slice p5 e5.length cc5, .slice p6 e6.length cc6, .slice none 0 0, .slice none 0 0] [(p2, e2), (p3, e3), (p4, e4), (p5, e5), (p6, e6)]) := F.out.set 4 (.slice p6 e6.length cc6)
    clear x1 x2 hbb hpb k F c0 c1 c2 c3 c4 c5 c6 c7 c8 c9 c10
    clear hcv G4
    have ⟨c0, c1, c2, c3, c4, c5, c6, c7, c8, c9, c10⟩ := E5.out.op.cells
    have k := (HLL.out ▸ ebytes_any p data c (v6_.setCell ⟨P, 4, none⟩ (.slice p6 e6.length cc6)) E5.out.dat)
    rw [HS.out.2.2.2.2.2.2.1] at k
    go_wp2_with fail
    refine (show Calls Tryz.prog 32 _ _ _ from k).mono ?_
    rintro e v7_ ⟨vv, rfl, x1, x2⟩
    rw [show (some e7 : St).getD [] = e7 from rfl] at x1
    rw [show (some e7 : St).isSome = true from rfl]
    obtain ⟨_, p7, cc7, rfl, _, hbb, hpb⟩ := owns_bytes x1
    have F : Hid (RW w v7_ w.heap.size P t n sq kd ot on pt pn nm p q l c m d data ns v0 e1 #[.slice p2 e2.length cc2, .slice p3 e3.length cc3, .slice p4 e4.length cc4, .slice p5 e5.length cc5, .slice p6 e6.length cc6, .slice none 0 0, .slice none 0 0] [(p2, e2), (p3, e3), (p4, e4), (p5, e5), (p6, e6), (p7, e7)]) := (E5.out.call x2).add (p7, e7) hbb (fun b o _ e => by have := (own_lt x1 (hpb b o e)).1; have := block_lt E5.out.blk; omega)
    have q5 : v7_.cell? ⟨P, 5, none⟩ = some (.slice none 0 0) := cellOf F.out.blk 5
    have r5 : v7_.frozen? ⟨P, 5, none⟩ = false := frozenOf F.out.blk 5
    have E6 : Hid (RW w (v7_.setCell ⟨P, 5, none⟩ (.slice p7 e7.length cc7)) w.heap.size P t n sq kd ot on pt pn nm p q l c m d data ns v0 e1 #[.slice p2 e2.length cc2, .slice p3 e3.length cc3, .slice p4 e4.length cc4, .slice p5 e5.length cc5, .slice p6 e6.length cc6, .slice p7 e7.length cc7, .slice none 0 0] [(p2, e2), (p3, e3), (p4, e4), (p5, e5), (p6, e6), (p7, e7)]) := F.out.set 5 (.slice p7 e7.length cc7)
    clear x1 x2 hbb hpb k F c0 c1 c2 c3 c4 c5 c6 c7 c8 c9 c10
    have ⟨c0, c1, c2, c3, c4, c5, c6, c7, c8, c9, c10⟩ := E6.out.op.cells
    have k := (HMM.out.1 ▸ evec_any q ns d (v7_.setCell ⟨P, 5, none⟩ (.slice p7 e7.length cc7)) HMM.out.2 E6.out.see)
    rw [HS.out.2.2.2.2.2.2.2] at k
    go_wp2_with fail
    refine (show Calls Tryz.prog 33 _ _ _ from k).mono ?_
    rintro e v8_ ⟨vv, rfl, x1, x2⟩
    rw [show (some e8 : St).getD [] = e8 from rfl] at x1
    rw [show (some e8 : St).isSome = true from rfl]
    obtain ⟨_, p8, cc8, rfl, _, hbb, hpb⟩ := owns_bytes x1
    have F : Hid (RW w v8_ w.heap.size P t n sq kd ot on pt pn nm p q l c m d data ns v0 e1 #[.slice p2 e2.length cc2, .slice p3 e3.length cc3, .slice p4 e4.length cc4, .slice p5 e5.length cc5, .slice p6 e6.length cc6, .slice p7 e7.length cc7, .slice none 0 0] [(p2, e2), (p3, e3), (p4, e4), (p5, e5), (p6, e6), (p7, e7), (p8, e8)]) := (E6.out.call x2).add (p8, e8) hbb (fun b o _ e => by have := (own_lt x1 (hpb b o e)).1; have := block_lt E6.out.blk; omega)
    have q6 : v8_.cell? ⟨P, 6, none⟩ = some (.slice none 0 0) := cellOf F.out.blk 6
    have r6 : v8_.frozen? ⟨P, 6, none⟩ = false := frozenOf F.out.blk 6
    have E7 : Hid (RW w (v8_.setCell ⟨P, 6, none⟩ (.slice p8 e8.length cc8)) w.heap.size P t n sq kd ot on pt pn nm p q l c m d data ns v0 e1 #[.slice p2 e2.length cc2, .slice p3 e3.length cc3, .slice p4 e4.length cc4, .slice p5 e5.length cc5, .slice p6 e6.length cc6, .slice p7 e7.length cc7, .slice p8 e8.length cc8] [(p2, e2), (p3, e3), (p4, e4), (p5, e5), (p6, e6), (p7, e7), (p8, e8)]) := F.out.set 6 (.slice p8 e8.length cc8)
    clear x1 x2 hbb hpb k F c0 c1 c2 c3 c4 c5 c6 c7 c8 c9 c10
    obtain ⟨Lx, hLx⟩ : ∃ Lx : List (Option Addr × List (BitVec 8) × Nat), Lx = [(p2, e2, cc2), (p3, e3, cc3), (p4, e4, cc4), (p5, e5, cc5), (p6, e6, cc6), (p7, e7, cc7), (p8, e8, cc8)] := ⟨_, rfl⟩
    have HLX : Hid (Lx = [(p2, e2, cc2), (p3, e3, cc3), (p4, e4, cc4), (p5, e5, cc5), (p6, e6, cc6), (p7, e7, cc7), (p8, e8, cc8)]) := hLx
    have R0 : Hid (RB w (v8_.setCell ⟨P, 6, none⟩ (.slice p8 e8.length cc8)) P ((v8_.setCell ⟨P, 6, none⟩ (.slice p8 e8.length cc8))).heap.size Lx e1 v0) := by
      refine ⟨E7.out.own, E7.out.bel, fun j x hj => ?_, fun x hx => .inl (E7.out.ob x hx), ⟨Nat.le_refl _, block_lt E7.out.blk⟩⟩
      rw [hLx] at hj
      have hcell : ((v8_.setCell ⟨P, 6, none⟩ (.slice p8 e8.length cc8))).cell? ⟨P, j, none⟩ = some (.slice x.1 x.2.1.length x.2.2) := by
        rw [cellOf E7.out.blk]
        match j, hj with
        | 0, hj => simp at hj; rw [← hj]; rfl
        | 1, hj => simp at hj; rw [← hj]; rfl
        | 2, hj => simp at hj; rw [← hj]; rfl
        | 3, hj => simp at hj; rw [← hj]; rfl
        | 4, hj => simp at hj; rw [← hj]; rfl
        | 5, hj => simp at hj; rw [← hj]; rfl
        | 6, hj => simp at hj; rw [← hj]; rfl
        | j + 7, hj => simp at hj
      have hmem : (x.1, x.2.1) ∈ [(p2, e2), (p3, e3), (p4, e4), (p5, e5), (p6, e6), (p7, e7), (p8, e8)] := by
        match j, hj with
        | 0, hj => simp at hj; rw [← hj]; simp
        | 1, hj => simp at hj; rw [← hj]; simp
        | 2, hj => simp at hj; rw [← hj]; simp
        | 3, hj => simp at hj; rw [← hj]; simp
        | 4, hj => simp at hj; rw [← hj]; simp
        | 5, hj => simp at hj; rw [← hj]; simp
        | 6, hj => simp at hj; rw [← hj]; simp
        | j + 7, hj => simp at hj
      obtain ⟨b1, b2⟩ := E7.out.parts _ hmem
      exact ⟨hcell, b1, fun b o h0 e => ⟨b2 b o h0 e, bytes_lt b1 b o h0 e⟩⟩
    have HTK : Hid (∀ i, i < 7 → ∃ y, Lx[i]? = some y ∧ y.2.1.length ≤ 70000) := fun i hi => by
      have := HL.out
      rw [hLx]
      match i, hi with
      | 0, _ => exact ⟨_, rfl, by show e2.length ≤ 70000; omega⟩
      | 1, _ => exact ⟨_, rfl, by show e3.length ≤ 70000; omega⟩
      | 2, _ => exact ⟨_, rfl, by show e4.length ≤ 70000; omega⟩
      | 3, _ => exact ⟨_, rfl, by show e5.length ≤ 70000; omega⟩
      | 4, _ => exact ⟨_, rfl, by show e6.length ≤ 70000; omega⟩
      | 5, _ => exact ⟨_, rfl, by show e7.length ≤ 70000; omega⟩
      | 6, _ => exact ⟨_, rfl, by show e8.length ≤ 70000; omega⟩
    obtain ⟨Lim, hLim⟩ : ∃ Lim, ((v8_.setCell ⟨P, 6, none⟩ (.slice p8 e8.length cc8))).heap.size = Lim := ⟨_, rfl⟩
    rw [hLim] at R0
    clear hLx hLim
    have hLxl : Lx.length = 7 := by rw [HLX.out]; rfl
    have HLXL : Hid (Lx.length = 7) := hLxl
    clear hLxl
    go_wp2_with fail
    go_loopw [3, 6] (fun bb ii wr => ∃ i : Nat, ii = .int .i64 i ∧ i ≤ 7 ∧ Hid (RB w wr P Lim Lx (e1 ++ (Lx.take i).flatMap (·.2.1)) bb)) (fun _ ii _ => 7 - (intOf ii).toNat)
    case atStart => exact ⟨0, rfl, by omega, by simpa using R0⟩
    case round =>
      obtain ⟨i, rfl, hi, HR⟩ := hrel
      by_cases hlt : i < 7
      · have hltI : (i : Int) < 7 := by omega
        obtain ⟨y, hy, hyl⟩ := HTK.out i hlt
        obtain ⟨m1, m2, m3⟩ := HR.out.parts i y hy
        have HY : Hid (Lx[i]? = some y) := hy
        have HN : Hid (e1 ++ (Lx.take (i + 1)).flatMap (·.2.1) = e1 ++ (Lx.take i).flatMap (·.2.1) ++ y.2.1) := by
          show _ = _
          rw [List.take_add_one, hy]
          simp
        have H63 : Hid ((e1 ++ (Lx.take i).flatMap (·.2.1)).length + y.2.1.length ≤ 1099511627776) := by
          show _ ≤ _
          have h1 : ((Lx.take i).flatMap (·.2.1)).length ≤ 70000 * 7 := by
            have hfm : ∀ (L : List (Option Addr × List (BitVec 8) × Nat)), (∀ z ∈ L, z.2.1.length ≤ 70000) → (L.flatMap (·.2.1)).length ≤ 70000 * L.length := fun L => by
              induction L with
              | nil => intro _; simp
              | cons z L ih =>
                intro hz
                have := ih (fun z hz' => hz z (List.mem_cons_of_mem _ hz'))
                have := hz z (List.mem_cons_self ..)
                simp only [List.flatMap_cons, List.length_append, List.length_cons]
                omega
            have := hfm (Lx.take i) (fun z hz => by
              obtain ⟨j, hj⟩ := List.getElem?_of_mem (List.mem_of_mem_take hz)
              obtain ⟨y', hy', hl'⟩ := HTK.out j (by have := (List.getElem?_eq_some_iff.1 hj).1; rw [HLXL.out] at this; exact this)
              rw [hj] at hy'; cases hy'; exact hl')
            have hle : (Lx.take i).length ≤ 7 := by rw [List.length_take]; omega
            omega
          rw [List.length_append]
          have := HL.out.1
          omega
        clear hy m2 m3
        go_wp2_with (refine wpList_part rfl _ _ rfl P Lim Lx _ _ rfl HR i y HY rfl H63 ?_; intro vb' wq HR2)
        exact ⟨⟨i + 1, by simp, by omega, by show RB _ _ _ _ _ _ _; rw [HN.out]; exact HR2.out⟩, by simp [intOf]; omega⟩
      · obtain rfl : i = 7 := by omega
        go_wp2
        go_ret
        refine ⟨_, rfl, ?_, HR.out.bel⟩
        have := HR.out.own
        rw [HLX.out] at this
        rw [HBY.out]
        simpa using this

end Go.Proofs.YtegjageenofbjaaGreat.Cd
