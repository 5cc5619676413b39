/-
  Maps of texts; who keeps a name: of lists alone.
-/
import Derived.Test.YtjajbhpcjickbaaDoorKAe
import Derived.Maps.OwnOps
import Derived.Carry
import Derived.MapKept

namespace Go.Proofs.YtjajbhpcjickbaaDoor.Ck.Sh
open Go.RowKit Go.Lib Go.Maps

attribute [local go_sem] Oper.semAt_some

/-- What lies at a text. -/
def atS (E : List (List UInt8 × Nat)) (q : List UInt8) : Option Nat := (E.find? fun x => decide (x.1 = q)).map (·.2)
def enS (x : List UInt8 × Nat) : Value × Value := (.string (bas x.1), .int .i64 (x.2 : Nat))
/-- A map of texts, its entries in the order in which they came. -/
def MapS (w : World) (mb : Nat) (E : List (List UInt8 × Nat)) : Prop := ∃ es clock, w.heap[mb]? = some (.map es clock) ∧ es.toList.map (fun e => (e.key, e.val)) = E.map enS
theorem bas_eqb (a b : List UInt8) : (bas a == bas b) = decide (a = b) := by
  by_cases h : a = b
  · subst h
    rw [decide_eq_true rfl]
    exact (MapKept.bytes_beq _ _).2 rfl
  · rw [decide_eq_false h]
    cases e : bas a == bas b with
    | false => rfl
    | true => exact absurd (bas_inj ((MapKept.bytes_beq _ _).1 e)) h
theorem find_now (q : List UInt8) : ∀ (l : List MapEntry) (E : List (List UInt8 × Nat)) (i : Nat), l.map (fun e => (e.key, e.val)) = E.map enS → Instr.findNow .string (.string (bas q)) l i = some ((E.findIdx? fun x => decide (x.1 = q)).bind fun k => (E[k]?).map fun x => (i + k, Value.int .i64 (x.2 : Nat)))
  | [], [], i, _ => by simp [Instr.findNow]
  | [], _ :: _, i, h => by simp at h
  | _ :: _, [], i, h => by simp at h
  | e :: l, x :: E, i, h => by
    simp only [List.map_cons, List.cons.injEq] at h
    obtain ⟨h1, h2⟩ := h
    obtain ⟨hk, hv⟩ := Prod.mk.inj h1
    have ih := find_now q l E (i + 1) h2
    unfold Instr.findNow
    rw [hk, hv]
    simp only [Instr.sameNow, bas_eqb]
    by_cases e1 : x.1 = q
    · have : decide (q = x.1) = true := decide_eq_true e1.symm
      rw [this]
      simp [List.findIdx?_cons, e1]
    · have : decide (q = x.1) = false := decide_eq_false (fun e => e1 e.symm)
      rw [this]
      simp only [ih, List.findIdx?_cons, e1, decide_false]
      cases E.findIdx? fun x => decide (x.1 = q) with
      | none => simp
      | some k => simp only [Option.bind_some, Option.map_some, List.getElem?_cons_succ, show i + 1 + k = i + (k + 1) by omega, if_false, Bool.false_eq_true]
def fdS (E : List (List UInt8 × Nat)) (q : List UInt8) : Option (Nat × Value) := (E.findIdx? fun x => decide (x.1 = q)).bind fun k => (E[k]?).map fun x => (k, Value.int .i64 (x.2 : Nat))
theorem key_findS (q : List UInt8) (w : World) (l : List MapEntry) (E : List (List UInt8 × Nat)) (h : l.map (fun e => (e.key, e.val)) = E.map enS) : (Instr.findKey 9 (.string (bas q)) l).run Tryd.prog w = .ok (fdS E q) w := by
  have hA := find_now q l E 0 h
  simp only [Nat.zero_add] at hA
  unfold Instr.findKey
  simp only [Sem.run_bind, run_underlying Tryd.underlying9, Result.andThen_ok, hA]
  rfl
theorem fdS_none {E : List (List UInt8 × Nat)} {q : List UInt8} (h : atS E q = none) : fdS E q = none := by
  unfold atS at h
  unfold fdS
  rw [Option.map_eq_none_iff, List.find?_eq_none] at h
  rw [List.findIdx?_eq_none_iff.2 (fun x hx => by simpa using h x hx)]
  rfl
theorem fdS_some {E : List (List UInt8 × Nat)} {q : List UInt8} {b : Nat} (h : atS E q = some b) : ∃ k, fdS E q = some (k, .int .i64 (b : Nat)) ∧ E[k]? = some (q, b) ∧ ∀ j, j < k → ∀ x, E[j]? = some x → x.1 ≠ q := by
  unfold atS at h
  obtain ⟨x, hx, rfl⟩ := Option.map_eq_some_iff.1 h
  rw [List.find?_eq_some_iff_getElem] at hx
  obtain ⟨h1, i, hi, he, hlt⟩ := hx
  have hq : x.1 = q := by simpa using h1
  refine ⟨i, ?_, ?_, fun j hj y hy => ?_⟩
  · unfold fdS
    have : E.findIdx? (fun x => decide (x.1 = q)) = some i := by
      rw [List.findIdx?_eq_some_iff_getElem]
      exact ⟨hi, by rw [he]; exact h1, fun j hj => by have := hlt j hj; simpa using this⟩
    rw [this]
    simp [List.getElem?_eq_getElem hi, he]
  · rw [List.getElem?_eq_getElem hi, he, ← hq]
  · have := hlt j hj
    obtain ⟨hjl, e⟩ := List.getElem?_eq_some_iff.1 hy
    rw [e] at this
    simpa using this
theorem chkS (e : Bool) (q : List UInt8) (w : World) : (Instr.checkKey e 10000 9 (.string (bas q))).run Tryd.prog w = .ok () w := by
  unfold Instr.checkKey
  simp only [Sem.run_bind, run_underlying Tryd.underlying9, Result.andThen_ok]
  rfl
theorem look_ok {w : World} {mb : Nat} {E : List (List UInt8 × Nat)} (h : MapS w mb E) (q : List UInt8) : (Instr.lookup 38 (.map (some mb)) (.string (bas q)) true).run Tryd.prog w = .ok (.tuple #[.int .i64 ((atS E q).getD 0 : Nat), .bool (atS E q).isSome]) w := by
  obtain ⟨es, clock, hb, he⟩ := h
  have hk := key_findS q w es.toList E he
  have hc := fun e => chkS e q w
  cases hq : atS E q with
  | none =>
    rw [fdS_none hq] at hk
    simp [Instr.lookup, run_underlying Tryd.underlying38, MapKept.run_getObj_map hb, hc, hk, Tryd.zeroValue3]
  | some b =>
    obtain ⟨k, e, _⟩ := fdS_some hq
    rw [e] at hk
    simp [Instr.lookup, run_underlying Tryd.underlying38, MapKept.run_getObj_map hb, hc, hk]
theorem look_plain {w : World} {mb : Nat} {E : List (List UInt8 × Nat)} (h : MapS w mb E) (q : List UInt8) : (Instr.lookup 38 (.map (some mb)) (.string (bas q)) false).run Tryd.prog w = .ok (.int .i64 ((atS E q).getD 0 : Nat)) w := by
  obtain ⟨es, clock, hb, he⟩ := h
  have hk := key_findS q w es.toList E he
  have hc := fun e => chkS e q w
  cases hq : atS E q with
  | none =>
    rw [fdS_none hq] at hk
    simp [Instr.lookup, run_underlying Tryd.underlying38, MapKept.run_getObj_map hb, hc, hk, Tryd.zeroValue3]
  | some b =>
    obtain ⟨k, e, _⟩ := fdS_some hq
    rw [e] at hk
    simp [Instr.lookup, run_underlying Tryd.underlying38, MapKept.run_getObj_map hb, hc, hk]
theorem block_at {w : World} {b : Nat} (o : Obj) (h : b < w.heap.size) : (Go.ChangeMaps.setBlock w b o).heap[b]? = some o := by
  unfold Go.ChangeMaps.setBlock
  simp [h]
theorem only_block (w : World) (b : Nat) (o : Obj) : Only (· = b) w (Go.ChangeMaps.setBlock w b o) := ⟨rfl, rfl, rfl, by simp [Go.ChangeMaps.setBlock], fun i _ hn => by
  unfold Go.ChangeMaps.setBlock
  simp [Array.getElem?_setIfInBounds_ne (Ne.symm hn)]⟩
theorem atS_append (E : List (List UInt8 × Nat)) (q : List UInt8) (j : Nat) (hq : atS E q = none) (x : List UInt8) : atS (E ++ [(q, j)]) x = if x = q then some j else atS E x := by
  unfold atS at hq ⊢
  rw [List.find?_append]
  by_cases h : x = q
  · subst h
    rw [Option.map_eq_none_iff] at hq
    rw [hq]
    simp
  · rw [if_neg h]
    have : ¬ q = x := fun e => h e.symm
    simp [this]
theorem atS_set (E : List (List UInt8 × Nat)) (q : List UInt8) (b j k : Nat) (hk : E[k]? = some (q, b)) (hlt : ∀ i, i < k → ∀ x, E[i]? = some x → x.1 ≠ q) (x : List UInt8) : atS (E.set k (q, j)) x = if x = q then some j else atS E x := by
  induction E generalizing k with
  | nil => simp at hk
  | cons y E ih =>
    cases k with
    | zero =>
      simp only [List.getElem?_cons_zero, Option.some.injEq] at hk
      subst hk
      simp only [List.set_cons_zero, atS, List.find?_cons]
      by_cases h : x = q
      · subst h; simp
      · have : ¬ q = x := fun e => h e.symm
        simp [this, h]
    | succ k =>
      have hy : y.1 ≠ q := hlt 0 (by omega) y rfl
      have ih' := ih k (by simpa using hk) (fun i hi z hz => hlt (i + 1) (by omega) z (by simpa using hz))
      simp only [List.set_cons_succ, atS, List.find?_cons]
      by_cases h : y.1 = x
      · have : ¬ x = q := fun e => hy (h.trans e)
        simp [h, this]
      · simp only [h, decide_false]
        exact ih'
theorem putS {w : World} {mb : Nat} {E : List (List UInt8 × Nat)} (h : MapS w mb E) (q : List UInt8) (j : Nat) :
    ∃ W E', (Instr.mapUpdate 38 (.map (some mb)) (.string (bas q)) (.int .i64 (j : Nat))).run Tryd.prog w = .ok () W ∧ MapS W mb E' ∧ (∀ x, atS E' x = if x = q then some j else atS E x) ∧ Only (· = mb) w W ∧ W.heap.size = w.heap.size := by
  obtain ⟨es, clock, hb, he⟩ := h
  have hk := key_findS q w es.toList E he
  have hc := fun e => chkS e q w
  cases hq : atS E q with
  | none =>
    rw [fdS_none hq] at hk
    refine ⟨Go.ChangeMaps.setBlock w mb (.map (es.push ⟨.string (bas q), .int .i64 (j : Nat), clock⟩) (clock + 1)), E ++ [(q, j)], ?_, ⟨_, _, block_at _ (block_lt hb), ?_⟩, atS_append E q j hq, only_block _ _ _, by simp [Go.ChangeMaps.setBlock]⟩
    · simp [Instr.mapUpdate, run_underlying Tryd.underlying38, MapKept.run_getObj_map hb, hc, hk, MapKept.run_setObj_map _ hb, Result.andThen, Go.ChangeMaps.setBlock]
    · rw [Array.toList_push, List.map_append, List.map_append, he]
      rfl
  | some b =>
    obtain ⟨k, e, hk1, hk2⟩ := fdS_some hq
    rw [e] at hk
    have hkl : k < E.length := (List.getElem?_eq_some_iff.1 hk1).1
    have hel : es.toList.length = E.length := by
      have := congrArg List.length he
      simpa using this
    have hkk : (es[k]?).map (·.key) = some (.string (bas q)) := by
      have := congrArg (·[k]?) he
      simp only [List.getElem?_map, hk1] at this
      rw [← Array.getElem?_toList]
      cases h1 : es.toList[k]? with
      | none => rw [h1] at this; simp at this
      | some z =>
        rw [h1] at this
        simp only [Option.map_some, Option.some.injEq, enS] at this
        simp [(Prod.mk.inj this).1]
    have hst : ∀ W, (Instr.keyThatStays (.string (bas q)) (.string (bas q))).run Tryd.prog W = .ok (.string (bas q)) W := fun W => by
      exact MapKept.run_keyThatStays (d := .string) trivial
    refine ⟨Go.ChangeMaps.setBlock w mb (.map (es.modify k fun e => { e with key := .string (bas q), val := .int .i64 (j : Nat) }) clock), E.set k (q, j), ?_, ⟨_, _, block_at _ (block_lt hb), ?_⟩, atS_set E q b j k hk1 hk2, only_block _ _ _, by simp [Go.ChangeMaps.setBlock]⟩
    · simp [Instr.mapUpdate, run_underlying Tryd.underlying38, MapKept.run_getObj_map hb, hc, hk, hkk, hst, MapKept.run_setObj_map _ hb, Result.andThen, Go.ChangeMaps.setBlock]
    · apply List.ext_getElem?
      intro i
      rw [Array.toList_modify, List.getElem?_map, List.getElem?_map, List.getElem?_modify, List.getElem?_set]
      have hi := congrArg (·[i]?) he
      simp only [List.getElem?_map] at hi
      by_cases hik : k = i
      · subst hik
        have hlt' : k < es.toList.length := by omega
        simp [hkl, List.getElem?_eq_getElem hlt', enS]
      · simp only [hik, if_false]
        simpa using hi
theorem MapS.kept {w w' : World} {mb : Nat} {E : List (List UInt8 × Nat)} {S : Nat → Prop} (h : MapS w mb E) (ho : Only S w w') (hn : ¬ S mb) : MapS w' mb E := by
  obtain ⟨es, clock, hb, he⟩ := h
  exact ⟨es, clock, (ho.block mb (block_lt hb) hn).trans hb, he⟩
theorem MapS.below {w w' : World} {mb : Nat} {E : List (List UInt8 × Nat)} (h : MapS w mb E) (hb : Below w.heap.size w w') : MapS w' mb E := h.kept (Below.only hb (fun _ => False)) (fun f => f)
theorem MapS.lt {w : World} {mb : Nat} {E : List (List UInt8 × Nat)} (h : MapS w mb E) : mb < w.heap.size := by
  obtain ⟨es, clock, hb, he⟩ := h
  exact block_lt hb

/- Who keeps a name. -/
def idA (ids : List (Int × Int)) (i : Nat) : Int × Int := ids.getD i (0, 0)
def nmA (names : List (List UInt8)) (i : Nat) : List UInt8 := names.getD i []
def lsA (a b : Int × Int) : Bool := lessB a.1 a.2 b.1 b.2
/-- k comes ahead of i, and has its name. -/
def befB (ids : List (Int × Int)) (names : List (List UInt8)) (k i : Nat) : Bool := decide (nmA names k = nmA names i) && (lsA (idA ids k) (idA ids i) || (decide (k < i) && decide (idA ids k = idA ids i)))
def keptB (ids : List (Int × Int)) (names : List (List UInt8)) (n i : Nat) : Bool := (List.range n).all fun k => !befB ids names k i
def shownAt (ids : List (Int × Int)) (names : List (List UInt8)) (n i : Nat) : List UInt8 := if keptB ids names n i = true then nmA names i else nmA names i ++ sufL (idA ids i).1 (idA ids i).2
def shownL (ids : List (Int × Int)) (names : List (List UInt8)) (n : Nat) : List (List UInt8) := (List.range n).map (shownAt ids names n)
theorem lsA_iff {a b : Int × Int} : lsA a b = true ↔ a.1 < b.1 ∨ (a.1 = b.1 ∧ a.2 < b.2) := lessB_true
theorem lsA_trans {a b c : Int × Int} (h : lsA a b = true) (h' : lsA b c = true) : lsA a c = true := by
  rw [lsA_iff] at *; omega
theorem lsA_irr (a : Int × Int) : lsA a a = false := by
  cases h : lsA a a with
  | false => rfl
  | true => rw [lsA_iff] at h; omega
theorem lsA_tot {a b : Int × Int} (h : lsA a b = false) (h' : lsA b a = false) : a = b := by
  have h1 : ¬ (a.1 < b.1 ∨ (a.1 = b.1 ∧ a.2 < b.2)) := fun e => by rw [lsA_iff.2 e] at h; cases h
  have h2 : ¬ (b.1 < a.1 ∨ (b.1 = a.1 ∧ b.2 < a.2)) := fun e => by rw [lsA_iff.2 e] at h'; cases h'
  exact Prod.ext (by omega) (by omega)
theorem bef_iff {ids : List (Int × Int)} {names : List (List UInt8)} {k i : Nat} : befB ids names k i = true ↔ nmA names k = nmA names i ∧ (lsA (idA ids k) (idA ids i) = true ∨ (k < i ∧ idA ids k = idA ids i)) := by
  simp [befB]
theorem kept_iff {ids : List (Int × Int)} {names : List (List UInt8)} {n i : Nat} : keptB ids names n i = true ↔ ∀ k, k < n → ¬ befB ids names k i = true := by
  simp [keptB]
/-- What firstOf's map says of the first j kids. -/
def FirstI (ids : List (Int × Int)) (names : List (List UInt8)) (j : Nat) (E : List (List UInt8 × Nat)) : Prop :=
  ∀ nm, match atS E nm with
    | none => ∀ k, k < j → nmA names k ≠ nm
    | some p => p < j ∧ nmA names p = nm ∧ ∀ k, k < j → ¬ befB ids names k p = true
theorem FirstI.nil (ids : List (Int × Int)) (names : List (List UInt8)) : FirstI ids names 0 [] := fun nm => by
  show ∀ k, k < 0 → _
  intro k hk; omega
theorem FirstI.put {ids : List (Int × Int)} {names : List (List UInt8)} {j : Nat} {E E' : List (List UInt8 × Nat)} (h : FirstI ids names j E) (hE : ∀ x, atS E' x = if x = nmA names j then some j else atS E x)
    (hl : ∀ p, atS E (nmA names j) = some p → lsA (idA ids j) (idA ids p) = true) : FirstI ids names (j + 1) E' := by
  intro nm
  rw [hE nm]
  by_cases hn : nm = nmA names j
  · rw [if_pos hn]
    refine ⟨by omega, hn.symm, fun k hk hb => ?_⟩
    obtain ⟨b1, b2⟩ := bef_iff.1 hb
    by_cases hkj : k = j
    · subst hkj
      rcases b2 with b2 | b2
      · rw [lsA_irr] at b2; cases b2
      · omega
    · have hh := h (nmA names j)
      cases hq : atS E (nmA names j) with
      | none =>
        rw [hq] at hh
        exact hh k (by omega) b1
      | some p =>
        rw [hq] at hh
        obtain ⟨p1, p2, p3⟩ := hh
        have hl' := hl p hq
        refine p3 k (by omega) (bef_iff.2 ⟨b1.trans p2.symm, .inl ?_⟩)
        rcases b2 with b2 | ⟨_, b2⟩
        · exact lsA_trans b2 hl'
        · rw [b2]; exact hl'
  · rw [if_neg hn]
    have hh := h nm
    cases hq : atS E nm with
    | none =>
      rw [hq] at hh
      intro k hk e
      by_cases hkj : k = j
      · subst hkj; exact hn e.symm
      · exact hh k (by omega) e
    | some p =>
      rw [hq] at hh
      obtain ⟨p1, p2, p3⟩ := hh
      refine ⟨by omega, p2, fun k hk hb => ?_⟩
      by_cases hkj : k = j
      · subst hkj
        exact hn (((bef_iff.1 hb).1.trans p2).symm)
      · exact p3 k (by omega) hb
theorem FirstI.stay {ids : List (Int × Int)} {names : List (List UInt8)} {j : Nat} {E : List (List UInt8 × Nat)} (h : FirstI ids names j E) {p : Nat} (hp : atS E (nmA names j) = some p)
    (hl : lsA (idA ids j) (idA ids p) = false) : FirstI ids names (j + 1) E := by
  intro nm
  have hh := h nm
  cases hq : atS E nm with
  | none =>
    rw [hq] at hh
    intro k hk e
    by_cases hkj : k = j
    · subst hkj
      rw [e, hq] at hp; cases hp
    · exact hh k (by omega) e
  | some p' =>
    rw [hq] at hh
    obtain ⟨p1, p2, p3⟩ := hh
    refine ⟨by omega, p2, fun k hk hb => ?_⟩
    by_cases hkj : k = j
    · subst hkj
      obtain ⟨b1, b2⟩ := bef_iff.1 hb
      rw [b1.trans p2, hq] at hp
      injection hp with hp
      subst hp
      rcases b2 with b2 | b2
      · rw [b2] at hl; cases hl
      · omega
    · exact p3 k (by omega) hb
theorem FirstI.keeps {ids : List (Int × Int)} {names : List (List UInt8)} {n : Nat} {E : List (List UInt8 × Nat)} (h : FirstI ids names n E) {i : Nat} (hi : i < n) : decide ((atS E (nmA names i)).getD 0 = i) = keptB ids names n i := by
  have hh := h (nmA names i)
  cases hq : atS E (nmA names i) with
  | none =>
    rw [hq] at hh
    exact absurd rfl (hh i hi)
  | some p =>
    rw [hq] at hh
    obtain ⟨p1, p2, p3⟩ := hh
    rw [Option.getD_some]
    by_cases hpi : p = i
    · subst hpi
      rw [decide_eq_true rfl, kept_iff.2 p3]
    · rw [decide_eq_false hpi]
      cases hk : keptB ids names n i with
      | false => rfl
      | true =>
        exfalso
        have k1 := kept_iff.1 hk
        have a1 : lsA (idA ids p) (idA ids i) = false := by
          cases e : lsA (idA ids p) (idA ids i) with
          | false => rfl
          | true => exact absurd (bef_iff.2 ⟨p2, .inl e⟩) (k1 p p1)
        have a2 : lsA (idA ids i) (idA ids p) = false := by
          cases e : lsA (idA ids i) (idA ids p) with
          | false => rfl
          | true => exact absurd (bef_iff.2 ⟨p2.symm, .inl e⟩) (p3 i hi)
        have e := lsA_tot a1 a2
        by_cases hlt : p < i
        · exact k1 p p1 (bef_iff.2 ⟨p2, .inr ⟨hlt, e⟩⟩)
        · exact p3 i hi (bef_iff.2 ⟨p2.symm, .inr ⟨by omega, e.symm⟩⟩)

end Go.Proofs.YtjajbhpcjickbaaDoor.Ck.Sh
