import Derived.Test.YthhakekbffembaaGreatDoorQAc
import Derived.Deep.LoopGhost
import Derived.Laws.AppendOwn
import Derived.Laws.IdiomStrings
import Derived.Maps.OwnOps
import Derived.Carry
import Derived.MapKept

namespace Go.Proofs.YthhakekbffembaaGreatDoor.Ck.Sh
open Go.RowKit Go.Lib
attribute [local go_sem] Oper.semAt_some
def Cs (w : World) (p : Option Addr) (xs : List Value) : Prop := ∀ (j : Nat) (u : Value), xs[j]? = some u → ∃ g o, p = some ⟨g, o, none⟩ ∧ w.cell? ⟨g, o + j, none⟩ = some u
theorem Cs.of_own {w : World} {base : Nat} {e : TypeId} {sz n : Nat} {v : Value} {xs : List Value} (h : w.ownsRow base e sz v n xs) : ∃ p c, v = .slice p n c ∧ Cs w p xs := by
 obtain ⟨hl, ⟨rfl, hn⟩ | ⟨g, cap, cur, rfl, _, hb, _, _, hs, ht⟩⟩ := h
 · subst hn
   exact ⟨none, 0, rfl, fun j u hj => by
     have := (List.getElem?_eq_some_iff.1 hj).1
     rw [hl] at this
     omega⟩
 · refine ⟨_, _, rfl, fun j u hj => ⟨g, 0, rfl, ?_⟩⟩
   have hjl := (List.getElem?_eq_some_iff.1 hj).1
   rw [hl] at hjl
   rw [Nat.zero_add, cellOf hb j, ← Array.getElem?_toList]
   rw [← ht, List.getElem?_take, if_pos hjl] at hj
   exact hj
theorem own_slice {w : World} {base : Nat} {e : TypeId} {sz n : Nat} {v : Value} {xs : List Value} (h : w.ownsRow base e sz v n xs) : ∃ p c, v = .slice p n c ∧ n ≤ c := by
 obtain ⟨hl, ⟨rfl, hn⟩ | ⟨g, cap, cur, rfl, _, hb, h1, _⟩⟩ := h
 · exact ⟨none, 0, by rw [hn], by omega⟩
 · exact ⟨_, _, rfl, h1⟩
theorem own_below {w w' : World} {base : Nat} {e : TypeId} {sz n : Nat} {v : Value} {xs : List Value} (h : w.ownsRow base e sz v n xs) (hb : Below w.heap.size w w') : w'.ownsRow base e sz v n xs := by
 obtain ⟨hl, h | ⟨g, cap, cur, rfl, h1, hg, h2⟩⟩ := h
 · exact ⟨hl, .inl h⟩
 · exact ⟨hl, .inr ⟨g, cap, cur, rfl, h1, (hb.block g (block_lt hg)).trans hg, h2⟩⟩
structure TI (e : TypeId) (z : Value) (sz by_ : Nat) : Prop where
 info : ∃ i, Tryz.prog.info? e = some i ∧ i.zero = some z ∧ i.size = sz ∧ i.bytes = by_
 cells : z.cells.size = sz
 pos : 0 < sz
theorem ti_of {e : TypeId} {z : Value} {sz by_ : Nat} (h : (Tryz.prog.info? e).map (fun i => (i.zero, i.size, i.bytes)) = some (some z, sz, by_)) (h1 : z.cells.size = sz) (h2 : 0 < sz) : TI e z sz by_ := by
 obtain ⟨i, hi, he⟩ := Option.map_eq_some_iff.1 h
 injection he with e1 e2
 injection e2 with e2 e3
 exact ⟨⟨i, hi, e1, e2, e3⟩, h1, h2⟩
theorem ti_str : TI 9 (.string ⟨#[]⟩) 1 16 := ti_of (by kernel_rfl) rfl (by decide)
theorem ti_id : TI 28 (.agg #[.int .i64 0, .int .i64 0]) 2 16 := ti_of (by kernel_rfl) (by decide) (by decide)
theorem app_run {t e : TypeId} {z : Value} {sz by_ : Nat} (ht : Tryz.prog.underlying t = some (.slice e)) (hti : TI e z sz by_) (ty : TypeId) (w : World) (base : Nat) (v : Value) (n m : Nat) (xs news : List Value) (p : Option Addr) (c : Nat) (h1 : w.ownsRow base e sz v n xs) (h2 : Cs w p news) (hl : news.length = m * sz) (ho : ∀ u ∈ news, u.oneCell' = true) (hb : (n + m) * by_ ≤ 140737488355328) (hm : n + m ≤ 140737488355328) (hbase : base ≤ w.heap.size) :
   ∃ p' c' w', (Builtin.append_ #[t, t] ty #[v, .slice p m c]).run Tryz.prog w = .ok (.slice p' (n + m) c') w' ∧ w'.ownsRow base e sz (.slice p' (n + m) c') (n + m) (xs ++ news) ∧ w.grownBy w' v.ownBlock := by
 obtain ⟨i0, hi0, hz0, hz1, hz2⟩ := hti.info
 by_cases hk : m = 0
 · subst hk
   have hnil : news = [] := List.length_eq_zero_iff.1 (by rw [hl]; simp)
   subst hnil
   obtain ⟨p1, c1, rfl, hc⟩ := own_slice h1
   refine ⟨p1, c1, w, ?_, by simpa using h1, ⟨rfl, rfl, rfl, Nat.le_refl _, fun _ _ _ => rfl⟩⟩
   cases p1 <;> cases p <;> simp [Builtin.append_, run_underlying ht, sizeOf, typeInfo, hi0, Builtin.lenOf, Builtin.firstCells, hc, storeCells, loadCells, loadCellsFrom]
 · have hpos : 0 < news.length := by
     rw [hl]
     exact Nat.mul_pos (by omega) hti.pos
   obtain ⟨g, o, rfl, _⟩ := h2 0 _ (List.getElem?_eq_getElem hpos)
   obtain ⟨v', w', hr, ho', hg, _⟩ := run_append_own (w := w) base t ty e i0 z sz by_ ht hi0 hz0 hz1 hz2 hti.cells hti.pos v n xs h1 ⟨g, o, none⟩ m c news hl (fun j u hj => by
     obtain ⟨g', o', e', hc⟩ := h2 j u hj
     cases e'
     rw [Addr.add_lit]
     exact hc) ho (by unfold maxLen; omega) hb hbase
   obtain ⟨p', c', rfl, _⟩ := own_slice ho'
   exact ⟨p', c', w', hr, ho', hg⟩
theorem wpList_appG {w : World} {ops : Array Oper} {rest : List Oper} {o : Oper} {a : Act} {Q : Exit → Act → World → Prop} {t e : TypeId} {z : Value} {sz by_ : Nat} (hgd : o.guard = none) (s x : Operand) (ho : o.op = .call { callee := .builtin .append, args := #[s, x], argTypes := #[t, t] }) (ht : Tryz.prog.underlying t = some (.slice e)) (hti : TI e z sz by_) (base : Nat) (v : Value) (n m : Nat) (xs news : List Value) (p : Option Addr) (c : Nat) (hs : a.eval s = v) (hx : a.eval x = .slice p m c) (h : Hid (w.ownsRow base e sz v n xs ∧ Cs w p news ∧ news.length = m * sz ∧ (∀ u ∈ news, u.oneCell' = true) ∧ (n + m) * by_ ≤ 140737488355328 ∧ n + m ≤ 140737488355328 ∧ base ≤ w.heap.size)) (hK : ∀ p' c' w', Hid (w'.ownsRow base e sz (.slice p' (n + m) c') (n + m) (xs ++ news) ∧ w.grownBy w' v.ownBlock) → wpList Tryz.prog ops Q rest (a.put o.dst (.slice p' (n + m) c')) w') : wpList Tryz.prog ops Q (o :: rest) a w := by
 obtain ⟨h1, h2, h3, h4, h5, h6, h7⟩ := h.out
 obtain ⟨p', c', w', hr, h8, h9⟩ := app_run ht hti o.type w base v n m xs news p c h1 h2 h3 h4 h5 h6 h7
 refine wpList_plain hgd fun K hK' => ?_
 unfold Oper.wp execOp
 simp only [ho, resolve, invoke, builtin, Sem.run_bind, Sem.run_pure, Result.andThen_ok, List.map_toArray, List.map_cons, List.map_nil, hs, hx, hr]
 exact hK' _ _ (hK p' c' w' ⟨h8, h9⟩)
end Go.Proofs.YthhakekbffembaaGreatDoor.Ck.Sh

namespace Go.Proofs.YthhakekbffembaaGreatDoor.Ck.Sh
open Go.RowKit Go.Lib
attribute [local go_sem] Oper.semAt_some
theorem split_none1 {l : List UInt8} (h : (1 : UInt8) ∉ l) : SplitOf l none := fun nm t n _ _ e => h (by rw [e]; unfold sufL; simp)
end Go.Proofs.YthhakekbffembaaGreatDoor.Ck.Sh

namespace Go.Proofs.YthhakekbffembaaGreatDoor.Ck.Sh
open Go.RowKit Go.Lib Go.Maps
attribute [local go_sem] Oper.semAt_some
def atS (E : List (List UInt8 × Nat)) (q : List UInt8) : Option Nat := (E.find? fun x => decide (x.1 = q)).map (·.2)
def enS (x : List UInt8 × Nat) : Value × Value := (.string (bas x.1), .int .i64 (x.2 : Nat))
def MapS (w : World) (mb : Nat) (E : List (List UInt8 × Nat)) : Prop := ∃ es clock, w.heap[mb]? = some (.map es clock) ∧ es.toList.map (fun e => (e.key, e.val)) = E.map enS
theorem bas_eqb (a b : List UInt8) : (bas a == bas b) = decide (a = b) := by
 by_cases h : a = b
 · subst h
   rw [decide_eq_true rfl]
   exact (MapKept.bytes_beq _ _).2 rfl
 · rw [decide_eq_false h]
   cases e : bas a == bas b with
   | false => rfl
   | true => exact absurd (bas_inj ((MapKept.bytes_beq _ _).1 e)) h
theorem find_now (q : List UInt8) : ∀ (l : List MapEntry) (E : List (List UInt8 × Nat)) (i : Nat), l.map (fun e => (e.key, e.val)) = E.map enS → Instr.findNow .string (.string (bas q)) l i = some ((E.findIdx? fun x => decide (x.1 = q)).bind fun k => (E[k]?).map fun x => (i + k, Value.int .i64 (x.2 : Nat)))
 | [], [], i, _ => by simp [Instr.findNow]
 | [], _ :: _, i, h => by simp at h
 | _ :: _, [], i, h => by simp at h
 | e :: l, x :: E, i, h => by
   simp only [List.map_cons, List.cons.injEq] at h
   obtain ⟨h1, h2⟩ := h
   obtain ⟨hk, hv⟩ := Prod.mk.inj h1
   have ih := find_now q l E (i + 1) h2
   unfold Instr.findNow
   rw [hk, hv]
   simp only [Instr.sameNow, bas_eqb]
   by_cases e1 : x.1 = q
   · have : decide (q = x.1) = true := decide_eq_true e1.symm
     rw [this]
     simp [List.findIdx?_cons, e1]
   · have : decide (q = x.1) = false := decide_eq_false (fun e => e1 e.symm)
     rw [this]
     simp only [ih, List.findIdx?_cons, e1, decide_false]
     cases E.findIdx? fun x => decide (x.1 = q) with
     | none => simp
     | some k => simp only [Option.bind_some, Option.map_some, List.getElem?_cons_succ, show i + 1 + k = i + (k + 1) by omega, if_false, Bool.false_eq_true]
def fdS (E : List (List UInt8 × Nat)) (q : List UInt8) : Option (Nat × Value) := (E.findIdx? fun x => decide (x.1 = q)).bind fun k => (E[k]?).map fun x => (k, Value.int .i64 (x.2 : Nat))
theorem key_findS (q : List UInt8) (w : World) (l : List MapEntry) (E : List (List UInt8 × Nat)) (h : l.map (fun e => (e.key, e.val)) = E.map enS) : (Instr.findKey 9 (.string (bas q)) l).run Tryz.prog w = .ok (fdS E q) w := by
 have hA := find_now q l E 0 h
 simp only [Nat.zero_add] at hA
 unfold Instr.findKey
 simp only [Sem.run_bind, run_underlying Tryz.underlying9, Result.andThen_ok, hA]
 rfl
theorem fdS_none {E : List (List UInt8 × Nat)} {q : List UInt8} (h : atS E q = none) : fdS E q = none := by
 unfold atS at h
 unfold fdS
 rw [Option.map_eq_none_iff, List.find?_eq_none] at h
 rw [List.findIdx?_eq_none_iff.2 (fun x hx => by simpa using h x hx)]
 rfl
theorem fdS_some {E : List (List UInt8 × Nat)} {q : List UInt8} {b : Nat} (h : atS E q = some b) : ∃ k, fdS E q = some (k, .int .i64 (b : Nat)) ∧ E[k]? = some (q, b) ∧ ∀ j, j < k → ∀ x, E[j]? = some x → x.1 ≠ q := by
 unfold atS at h
 obtain ⟨x, hx, rfl⟩ := Option.map_eq_some_iff.1 h
 rw [List.find?_eq_some_iff_getElem] at hx
 obtain ⟨h1, i, hi, he, hlt⟩ := hx
 have hq : x.1 = q := by simpa using h1
 refine ⟨i, ?_, ?_, fun j hj y hy => ?_⟩
 · unfold fdS
   have : E.findIdx? (fun x => decide (x.1 = q)) = some i := by
     rw [List.findIdx?_eq_some_iff_getElem]
     exact ⟨hi, by rw [he]; exact h1, fun j hj => by have := hlt j hj; simpa using this⟩
   rw [this]
   simp [List.getElem?_eq_getElem hi, he]
 · rw [List.getElem?_eq_getElem hi, he, ← hq]
 · have := hlt j hj
   obtain ⟨hjl, e⟩ := List.getElem?_eq_some_iff.1 hy
   rw [e] at this
   simpa using this
theorem chkS (e : Bool) (q : List UInt8) (w : World) : (Instr.checkKey e 10000 9 (.string (bas q))).run Tryz.prog w = .ok () w := by
 unfold Instr.checkKey
 simp only [Sem.run_bind, run_underlying Tryz.underlying9, Result.andThen_ok]
 rfl
theorem look_ok {w : World} {mb : Nat} {E : List (List UInt8 × Nat)} (h : MapS w mb E) (q : List UInt8) : (Instr.lookup 174 (.map (some mb)) (.string (bas q)) true).run Tryz.prog w = .ok (.tuple #[.int .i64 ((atS E q).getD 0 : Nat), .bool (atS E q).isSome]) w := by
 obtain ⟨es, clock, hb, he⟩ := h
 have hk := key_findS q w es.toList E he
 have hc := fun e => chkS e q w
 cases hq : atS E q with
 | none =>
   rw [fdS_none hq] at hk
   simp [Instr.lookup, run_underlying Tryz.underlying174, MapKept.run_getObj_map hb, hc, hk, Tryz.zeroValue3]
 | some b =>
   obtain ⟨k, e, _⟩ := fdS_some hq
   rw [e] at hk
   simp [Instr.lookup, run_underlying Tryz.underlying174, MapKept.run_getObj_map hb, hc, hk]
theorem look_plain {w : World} {mb : Nat} {E : List (List UInt8 × Nat)} (h : MapS w mb E) (q : List UInt8) : (Instr.lookup 174 (.map (some mb)) (.string (bas q)) false).run Tryz.prog w = .ok (.int .i64 ((atS E q).getD 0 : Nat)) w := by
 obtain ⟨es, clock, hb, he⟩ := h
 have hk := key_findS q w es.toList E he
 have hc := fun e => chkS e q w
 cases hq : atS E q with
 | none =>
   rw [fdS_none hq] at hk
   simp [Instr.lookup, run_underlying Tryz.underlying174, MapKept.run_getObj_map hb, hc, hk, Tryz.zeroValue3]
 | some b =>
   obtain ⟨k, e, _⟩ := fdS_some hq
   rw [e] at hk
   simp [Instr.lookup, run_underlying Tryz.underlying174, MapKept.run_getObj_map hb, hc, hk]
theorem block_at {w : World} {b : Nat} (o : Obj) (h : b < w.heap.size) : (Go.ChangeMaps.setBlock w b o).heap[b]? = some o := by
 unfold Go.ChangeMaps.setBlock
 simp [h]
theorem only_block (w : World) (b : Nat) (o : Obj) : Only (· = b) w (Go.ChangeMaps.setBlock w b o) := ⟨rfl, rfl, rfl, by simp [Go.ChangeMaps.setBlock], fun i _ hn => by
 unfold Go.ChangeMaps.setBlock
 simp [Array.getElem?_setIfInBounds_ne (Ne.symm hn)]⟩
theorem atS_append (E : List (List UInt8 × Nat)) (q : List UInt8) (j : Nat) (hq : atS E q = none) (x : List UInt8) : atS (E ++ [(q, j)]) x = if x = q then some j else atS E x := by
 unfold atS at hq ⊢
 rw [List.find?_append]
 by_cases h : x = q
 · subst h
   rw [Option.map_eq_none_iff] at hq
   rw [hq]
   simp
 · rw [if_neg h]
   have : ¬ q = x := fun e => h e.symm
   simp [this]
theorem atS_set (E : List (List UInt8 × Nat)) (q : List UInt8) (b j k : Nat) (hk : E[k]? = some (q, b)) (hlt : ∀ i, i < k → ∀ x, E[i]? = some x → x.1 ≠ q) (x : List UInt8) : atS (E.set k (q, j)) x = if x = q then some j else atS E x := by
 induction E generalizing k with
 | nil => simp at hk
 | cons y E ih =>
   cases k with
   | zero =>
     simp only [List.getElem?_cons_zero, Option.some.injEq] at hk
     subst hk
     simp only [List.set_cons_zero, atS, List.find?_cons]
     by_cases h : x = q
     · subst h; simp
     · have : ¬ q = x := fun e => h e.symm
       simp [this, h]
   | succ k =>
     have hy : y.1 ≠ q := hlt 0 (by omega) y rfl
     have ih' := ih k (by simpa using hk) (fun i hi z hz => hlt (i + 1) (by omega) z (by simpa using hz))
     simp only [List.set_cons_succ, atS, List.find?_cons]
     by_cases h : y.1 = x
     · have : ¬ x = q := fun e => hy (h.trans e)
       simp [h, this]
     · simp only [h, decide_false]
       exact ih'
theorem putS {w : World} {mb : Nat} {E : List (List UInt8 × Nat)} (h : MapS w mb E) (q : List UInt8) (j : Nat) :
   ∃ W E', (Instr.mapUpdate 174 (.map (some mb)) (.string (bas q)) (.int .i64 (j : Nat))).run Tryz.prog w = .ok () W ∧ MapS W mb E' ∧ (∀ x, atS E' x = if x = q then some j else atS E x) ∧ Only (· = mb) w W ∧ W.heap.size = w.heap.size := by
 obtain ⟨es, clock, hb, he⟩ := h
 have hk := key_findS q w es.toList E he
 have hc := fun e => chkS e q w
 cases hq : atS E q with
 | none =>
   rw [fdS_none hq] at hk
   refine ⟨Go.ChangeMaps.setBlock w mb (.map (es.push ⟨.string (bas q), .int .i64 (j : Nat), clock⟩) (clock + 1)), E ++ [(q, j)], ?_, ⟨_, _, block_at _ (block_lt hb), ?_⟩, atS_append E q j hq, only_block _ _ _, by simp [Go.ChangeMaps.setBlock]⟩
   · simp [Instr.mapUpdate, run_underlying Tryz.underlying174, MapKept.run_getObj_map hb, hc, hk, MapKept.run_setObj_map _ hb, Result.andThen, Go.ChangeMaps.setBlock]
   · rw [Array.toList_push, List.map_append, List.map_append, he]
     rfl
 | some b =>
   obtain ⟨k, e, hk1, hk2⟩ := fdS_some hq
   rw [e] at hk
   have hkl : k < E.length := (List.getElem?_eq_some_iff.1 hk1).1
   have hel : es.toList.length = E.length := by
     have := congrArg List.length he
     simpa using this
   have hkk : (es[k]?).map (·.key) = some (.string (bas q)) := by
     have := congrArg (·[k]?) he
     simp only [List.getElem?_map, hk1] at this
     rw [← Array.getElem?_toList]
     cases h1 : es.toList[k]? with
     | none => rw [h1] at this; simp at this
     | some z =>
       rw [h1] at this
       simp only [Option.map_some, Option.some.injEq, enS] at this
       simp [(Prod.mk.inj this).1]
   have hst : ∀ W, (Instr.keyThatStays (.string (bas q)) (.string (bas q))).run Tryz.prog W = .ok (.string (bas q)) W := fun W => by
     exact MapKept.run_keyThatStays (d := .string) trivial
   refine ⟨Go.ChangeMaps.setBlock w mb (.map (es.modify k fun e => { e with key := .string (bas q), val := .int .i64 (j : Nat) }) clock), E.set k (q, j), ?_, ⟨_, _, block_at _ (block_lt hb), ?_⟩, atS_set E q b j k hk1 hk2, only_block _ _ _, by simp [Go.ChangeMaps.setBlock]⟩
   · simp [Instr.mapUpdate, run_underlying Tryz.underlying174, MapKept.run_getObj_map hb, hc, hk, hkk, hst, MapKept.run_setObj_map _ hb, Result.andThen, Go.ChangeMaps.setBlock]
   · apply List.ext_getElem?
     intro i
     rw [Array.toList_modify, List.getElem?_map, List.getElem?_map, List.getElem?_modify, List.getElem?_set]
     have hi := congrArg (·[i]?) he
     simp only [List.getElem?_map] at hi
     by_cases hik : k = i
     · subst hik
       have hlt' : k < es.toList.length := by omega
       simp [hkl, List.getElem?_eq_getElem hlt', enS]
     · simp only [hik, if_false]
       simpa using hi
theorem MapS.kept {w w' : World} {mb : Nat} {E : List (List UInt8 × Nat)} {S : Nat → Prop} (h : MapS w mb E) (ho : Only S w w') (hn : ¬ S mb) : MapS w' mb E := by
 obtain ⟨es, clock, hb, he⟩ := h
 exact ⟨es, clock, (ho.block mb (block_lt hb) hn).trans hb, he⟩
theorem MapS.below {w w' : World} {mb : Nat} {E : List (List UInt8 × Nat)} (h : MapS w mb E) (hb : Below w.heap.size w w') : MapS w' mb E := h.kept (Below.only hb (fun _ => False)) (fun f => f)
theorem MapS.lt {w : World} {mb : Nat} {E : List (List UInt8 × Nat)} (h : MapS w mb E) : mb < w.heap.size := by
 obtain ⟨es, clock, hb, he⟩ := h
 exact block_lt hb
def idA (ids : List (Int × Int)) (i : Nat) : Int × Int := ids.getD i (0, 0)
def nmA (names : List (List UInt8)) (i : Nat) : List UInt8 := names.getD i []
def lsA (a b : Int × Int) : Bool := lessB a.1 a.2 b.1 b.2
def befB (ids : List (Int × Int)) (names : List (List UInt8)) (k i : Nat) : Bool := decide (nmA names k = nmA names i) && (lsA (idA ids k) (idA ids i) || (decide (k < i) && decide (idA ids k = idA ids i)))
def keptB (ids : List (Int × Int)) (names : List (List UInt8)) (n i : Nat) : Bool := (List.range n).all fun k => !befB ids names k i
def shownAt (ids : List (Int × Int)) (names : List (List UInt8)) (n i : Nat) : List UInt8 := if keptB ids names n i = true then nmA names i else nmA names i ++ sufL (idA ids i).1 (idA ids i).2
def shownL (ids : List (Int × Int)) (names : List (List UInt8)) (n : Nat) : List (List UInt8) := (List.range n).map (shownAt ids names n)
theorem lsA_iff {a b : Int × Int} : lsA a b = true ↔ a.1 < b.1 ∨ (a.1 = b.1 ∧ a.2 < b.2) := lessB_true
theorem lsA_trans {a b c : Int × Int} (h : lsA a b = true) (h' : lsA b c = true) : lsA a c = true := by
 rw [lsA_iff] at *; omega
theorem lsA_irr (a : Int × Int) : lsA a a = false := by
 cases h : lsA a a with
 | false => rfl
 | true => rw [lsA_iff] at h; omega
theorem lsA_tot {a b : Int × Int} (h : lsA a b = false) (h' : lsA b a = false) : a = b := by
 have h1 : ¬ (a.1 < b.1 ∨ (a.1 = b.1 ∧ a.2 < b.2)) := fun e => by rw [lsA_iff.2 e] at h; cases h
 have h2 : ¬ (b.1 < a.1 ∨ (b.1 = a.1 ∧ b.2 < a.2)) := fun e => by rw [lsA_iff.2 e] at h'; cases h'
 exact Prod.ext (by omega) (by omega)
theorem bef_iff {ids : List (Int × Int)} {names : List (List UInt8)} {k i : Nat} : befB ids names k i = true ↔ nmA names k = nmA names i ∧ (lsA (idA ids k) (idA ids i) = true ∨ (k < i ∧ idA ids k = idA ids i)) := by
 simp [befB]
theorem kept_iff {ids : List (Int × Int)} {names : List (List UInt8)} {n i : Nat} : keptB ids names n i = true ↔ ∀ k, k < n → ¬ befB ids names k i = true := by
 simp [keptB]
def FirstI (ids : List (Int × Int)) (names : List (List UInt8)) (j : Nat) (E : List (List UInt8 × Nat)) : Prop :=
 ∀ nm, match atS E nm with
   | none => ∀ k, k < j → nmA names k ≠ nm
   | some p => p < j ∧ nmA names p = nm ∧ ∀ k, k < j → ¬ befB ids names k p = true
theorem FirstI.nil (ids : List (Int × Int)) (names : List (List UInt8)) : FirstI ids names 0 [] := fun nm => by
 show ∀ k, k < 0 → _
 intro k hk; omega
theorem FirstI.put {ids : List (Int × Int)} {names : List (List UInt8)} {j : Nat} {E E' : List (List UInt8 × Nat)} (h : FirstI ids names j E) (hE : ∀ x, atS E' x = if x = nmA names j then some j else atS E x) (hl : ∀ p, atS E (nmA names j) = some p → lsA (idA ids j) (idA ids p) = true) : FirstI ids names (j + 1) E' := by
 intro nm
 rw [hE nm]
 by_cases hn : nm = nmA names j
 · rw [if_pos hn]
   refine ⟨by omega, hn.symm, fun k hk hb => ?_⟩
   obtain ⟨b1, b2⟩ := bef_iff.1 hb
   by_cases hkj : k = j
   · subst hkj
     rcases b2 with b2 | b2
     · rw [lsA_irr] at b2; cases b2
     · omega
   · have hh := h (nmA names j)
     cases hq : atS E (nmA names j) with
     | none =>
       rw [hq] at hh
       exact hh k (by omega) b1
     | some p =>
       rw [hq] at hh
       obtain ⟨p1, p2, p3⟩ := hh
       have hl' := hl p hq
       refine p3 k (by omega) (bef_iff.2 ⟨b1.trans p2.symm, .inl ?_⟩)
       rcases b2 with b2 | ⟨_, b2⟩
       · exact lsA_trans b2 hl'
       · rw [b2]; exact hl'
 · rw [if_neg hn]
   have hh := h nm
   cases hq : atS E nm with
   | none =>
     rw [hq] at hh
     intro k hk e
     by_cases hkj : k = j
     · subst hkj; exact hn e.symm
     · exact hh k (by omega) e
   | some p =>
     rw [hq] at hh
     obtain ⟨p1, p2, p3⟩ := hh
     refine ⟨by omega, p2, fun k hk hb => ?_⟩
     by_cases hkj : k = j
     · subst hkj
       exact hn (((bef_iff.1 hb).1.trans p2).symm)
     · exact p3 k (by omega) hb
theorem FirstI.stay {ids : List (Int × Int)} {names : List (List UInt8)} {j : Nat} {E : List (List UInt8 × Nat)} (h : FirstI ids names j E) {p : Nat} (hp : atS E (nmA names j) = some p) (hl : lsA (idA ids j) (idA ids p) = false) : FirstI ids names (j + 1) E := by
 intro nm
 have hh := h nm
 cases hq : atS E nm with
 | none =>
   rw [hq] at hh
   intro k hk e
   by_cases hkj : k = j
   · subst hkj
     rw [e, hq] at hp; cases hp
   · exact hh k (by omega) e
 | some p' =>
   rw [hq] at hh
   obtain ⟨p1, p2, p3⟩ := hh
   refine ⟨by omega, p2, fun k hk hb => ?_⟩
   by_cases hkj : k = j
   · subst hkj
     obtain ⟨b1, b2⟩ := bef_iff.1 hb
     rw [b1.trans p2, hq] at hp
     injection hp with hp
     subst hp
     rcases b2 with b2 | b2
     · rw [b2] at hl; cases hl
     · omega
   · exact p3 k (by omega) hb
theorem FirstI.keeps {ids : List (Int × Int)} {names : List (List UInt8)} {n : Nat} {E : List (List UInt8 × Nat)} (h : FirstI ids names n E) {i : Nat} (hi : i < n) : decide ((atS E (nmA names i)).getD 0 = i) = keptB ids names n i := by
 have hh := h (nmA names i)
 cases hq : atS E (nmA names i) with
 | none =>
   rw [hq] at hh
   exact absurd rfl (hh i hi)
 | some p =>
   rw [hq] at hh
   obtain ⟨p1, p2, p3⟩ := hh
   rw [Option.getD_some]
   by_cases hpi : p = i
   · subst hpi
     rw [decide_eq_true rfl, kept_iff.2 p3]
   · rw [decide_eq_false hpi]
     cases hk : keptB ids names n i with
     | false => rfl
     | true =>
       exfalso
       have k1 := kept_iff.1 hk
       have a1 : lsA (idA ids p) (idA ids i) = false := by
         cases e : lsA (idA ids p) (idA ids i) with
         | false => rfl
         | true => exact absurd (bef_iff.2 ⟨p2, .inl e⟩) (k1 p p1)
       have a2 : lsA (idA ids i) (idA ids p) = false := by
         cases e : lsA (idA ids i) (idA ids p) with
         | false => rfl
         | true => exact absurd (bef_iff.2 ⟨p2.symm, .inl e⟩) (p3 i hi)
       have e := lsA_tot a1 a2
       by_cases hlt : p < i
       · exact k1 p p1 (bef_iff.2 ⟨p2, .inr ⟨hlt, e⟩⟩)
       · exact p3 i hi (bef_iff.2 ⟨p2.symm, .inr ⟨by omega, e.symm⟩⟩)
end Go.Proofs.YthhakekbffembaaGreatDoor.Ck.Sh
