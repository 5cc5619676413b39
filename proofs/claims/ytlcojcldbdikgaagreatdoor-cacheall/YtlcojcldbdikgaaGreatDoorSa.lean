/-
  The document's own cache: how it lies in memory.
-/
import Derived.Test.YtlcojcldbdikgaaGreatDoorBac
import Derived.Test.YtlcojcldbdikgaaGreatDoorRund
namespace Go.Proofs.YtlcojcldbdikgaaGreatDoor.Rc
open Go.RowKit

theorem block_lt {w : World} {b : Nat} {o : Obj} (h : w.heap[b]? = some o) : b < w.heap.size := (Array.getElem?_eq_some_iff.1 h).1
/-- Outside S nothing turns. -/
structure Only (S : Nat → Prop) (w w' : World) : Prop where
  os : w'.os = w.os
  tape : w'.tape = w.tape
  output : w'.output = w.output
  size : w.heap.size ≤ w'.heap.size
  block : ∀ k, k < w.heap.size → ¬ S k → w'.heap[k]? = w.heap[k]?
theorem Only.refl (S : Nat → Prop) (w : World) : Only S w w := ⟨rfl, rfl, rfl, Nat.le_refl _, fun _ _ _ => rfl⟩
theorem Only.trans {S T : Nat → Prop} {a b c : World} (h : Only S a b) (k : Only T b c) (hs : ∀ i, T i → S i ∨ a.heap.size ≤ i) : Only S a c :=
  ⟨k.os.trans h.os, k.tape.trans h.tape, k.output.trans h.output, Nat.le_trans h.size k.size, fun i hi hn =>
    (k.block i (Nat.lt_of_lt_of_le hi h.size) (fun e => by rcases hs i e with h | h; exact hn h; omega)).trans (h.block i hi hn)⟩
theorem Only.next {S : Nat → Prop} {a b c : World} (h : Only S a b) (k : Only S b c) : Only S a c := h.trans k (fun _ h => .inl h)
theorem Only.weak {S T : Nat → Prop} {a b : World} (h : Only S a b) (hs : ∀ i, i < a.heap.size → S i → T i) : Only T a b :=
  ⟨h.os, h.tape, h.output, h.size, fun i hi hn => h.block i hi (fun e => hn (hs i hi e))⟩
theorem Only.below {S : Nat → Prop} {w w' : World} {B : Nat} (h : Only S w w') (hB : B ≤ w.heap.size) (hs : ∀ i, S i → B ≤ i) : Below B w w' :=
  ⟨h.os, h.tape, h.output, h.size, fun k hk => h.block k (by omega) (fun e => by have := hs k e; omega)⟩
theorem only_below {w w' : World} (h : Below w.heap.size w w') (S : Nat → Prop) : Only S w w' :=
  ⟨h.os, h.tape, h.output, h.size, fun k hk _ => h.block k hk⟩
theorem only_grown {w w' : World} {row : Option Nat} (h : w.grownBy w' row) : Only (fun j => row = some j) w w' :=
  ⟨h.os, h.tape, h.output, h.size, fun k hk hn => h.block k hk (fun e => hn e.symm)⟩
theorem Only.alloc (S : Nat → Prop) (w : World) (o : Obj) : Only S w (w.alloc o) :=
  ⟨rfl, rfl, rfl, by simp, fun k hk _ => Below.heap_alloc _ _ _ hk⟩
theorem Only.setCell {S : Nat → Prop} (w : World) (p : Addr) (u : Value) (h : S p.block) : Only S w (w.setCell p u) :=
  ⟨rfl, rfl, rfl, by simp [World.setCell], fun k _ hk => Below.heap_setCell _ _ _ _ (fun e => hk (e ▸ h))⟩
theorem Only.cell {S : Nat → Prop} {w w' : World} (h : Only S w w') {b o : Nat} {v : Value} (hc : w.cell? ⟨b, o, none⟩ = some v) (hn : ¬ S b) : w'.cell? ⟨b, o, none⟩ = some v :=
  (World.cell?_of_block (w := w) (a := ⟨b, o, none⟩) (h.block b (cell_lt hc) hn)).trans hc
theorem Only.owns {S : Nat → Prop} {w w' : World} (h : Only S w w') {base e size : Nat} {v : Value} {n : Nat} {xs : List Value} (ho : w.ownsRow base e size v n xs) (hn : ∀ b, v.ownBlock = some b → ¬ S b) : w'.ownsRow base e size v n xs := by
  refine ⟨ho.1, ?_⟩
  rcases ho.2 with h0 | ⟨g, cap, cur, rfl, hb, hg, r⟩
  · exact .inl h0
  · exact .inr ⟨g, cap, cur, rfl, hb, (h.block g (block_lt hg) (hn g rfl)).trans hg, r⟩
theorem own_tag {w : World} {base e size : Nat} {v : Value} {n : Nat} {xs : List Value} (ho : w.ownsRow base e size v n xs) {g : Nat} (hg : v.ownBlock = some g) : base ≤ g ∧ ∃ cur, w.heap[g]? = some (.cells cur e (0, 0)) := by
  rcases ho.2 with ⟨rfl, h0⟩ | ⟨g', cap, cur, rfl, hb, hg', r⟩
  · cases hg
  · cases hg; exact ⟨hb, cur, hg'⟩
theorem set_same {w : World} {a k : Nat} {cs : Array Value} {t : TypeId} {f : Nat × Nat} (h : w.heap[a]? = some (.cells cs t f)) (u : Value) : (w.setCell ⟨a, k, none⟩ u).heap[a]? = some (.cells (cs.setIfInBounds k u) t f) := by
  simp [World.setCell, Array.getElem?_modify, h]

/-- A slice of bytes as a value. -/
structure SV where
  p : Option Addr
  n : Nat
  c : Nat
def SV.val (s : SV) : Value := .slice s.p s.n s.c
/-- An entry of the document's list. -/
structure RE where
  block : Nat
  pins : Nat
  used : Nat
  dirty : Bool
  b : SV
def reCells (x : RE) : List Value := [.int .i64 (x.block : Nat), .int .i64 (x.pins : Nat), .int .i64 (x.used : Nat), .bool x.dirty, x.b.val]
def rows (L : List RE) : List Value := (L.map reCells).flatten
theorem rows_length (L : List RE) : (rows L).length = L.length * 5 := by
  unfold rows
  induction L with
  | nil => rfl
  | cons x L ih => rw [List.map_cons, List.flatten_cons, List.length_append, ih]; simp [reCells]; omega
theorem rows_append (L M : List RE) : rows (L ++ M) = rows L ++ rows M := by simp [rows]
theorem rows_cons (x : RE) (M : List RE) : rows (x :: M) = reCells x ++ rows M := by simp [rows]
theorem rows_at : ∀ (L : List RE) (i j : Nat) (x : RE), L[i]? = some x → j < 5 → (rows L)[i * 5 + j]? = (reCells x)[j]?
  | [], i, j, x, h, _ => by simp at h
  | y :: L, 0, j, x, h, hj => by
    simp at h
    subst h
    rw [rows_cons, Nat.zero_mul, Nat.zero_add, List.getElem?_append_left (by simpa [reCells] using hj)]
  | y :: L, i + 1, j, x, h, hj => by
    rw [rows_cons, List.getElem?_append_right (by simp [reCells]; omega)]
    have e : (i + 1) * 5 + j - (reCells y).length = i * 5 + j := by simp [reCells]; omega
    rw [e]
    exact rows_at L i j x (by simpa using h) hj
theorem rows_one (L : List RE) : ∀ v ∈ rows L, v.oneCell' = true := by
  intro v hv
  unfold rows at hv
  obtain ⟨l, hl, hv⟩ := List.mem_flatten.1 hv
  obtain ⟨x, _, rfl⟩ := List.mem_map.1 hl
  simp [reCells, SV.val] at hv
  rcases hv with rfl | rfl | rfl | rfl | rfl <;> rfl
theorem rows_take (L : List RE) (i : Nat) : (rows L).take (i * 5) = rows (L.take i) := by
  induction L generalizing i with
  | nil => simp [rows]
  | cons x L ih =>
    cases i with
    | zero => simp [rows]
    | succ i =>
      rw [rows_cons, List.take_succ_cons, rows_cons, ← ih i, List.take_append]
      have e : (reCells x).length = 5 := rfl
      rw [e, show (i + 1) * 5 - 5 = i * 5 by omega, List.take_of_length_le (by rw [e]; omega)]
theorem rows_drop (L : List RE) (i : Nat) : (rows L).drop (i * 5) = rows (L.drop i) := by
  induction L generalizing i with
  | nil => simp [rows]
  | cons x L ih =>
    cases i with
    | zero => simp
    | succ i =>
      rw [rows_cons, List.drop_succ_cons, ← ih i, List.drop_append]
      have e : (reCells x).length = 5 := rfl
      rw [e, show (i + 1) * 5 - 5 = i * 5 by omega, List.drop_of_length_le (by rw [e]; omega), List.nil_append]
theorem rows_set (L : List RE) (i : Nat) (x y : RE) (k : Nat) (u : Value) (hx : L[i]? = some x) (hk : k < 5) (hy : reCells y = (reCells x).set k u) : rows (L.set i y) = (rows L).set (i * 5 + k) u := by
  induction L generalizing i with
  | nil => simp at hx
  | cons z L ih =>
    cases i with
    | zero =>
      simp at hx
      subst hx
      rw [List.set_cons_zero, rows_cons, rows_cons, hy, Nat.zero_mul, Nat.zero_add, List.set_append_left _ _ (by simpa [reCells] using hk)]
    | succ i =>
      rw [List.set_cons_succ, rows_cons, rows_cons, ih i (by simpa using hx), List.set_append_right _ _ (by simp [reCells]; omega)]
      congr 2
      simp [reCells]; omega

/-- The document's cache. -/
structure RS where
  room : Nat
  L : List RE
  time : Nat
  hit : Nat
  miss : Nat
  outs : Nat
  V : List SV
/-- .. at block r. -/
structure RF (w : World) (base r : Nat) (vv lv : Value) (S : RS) : Prop where
  lo : base ≤ r
  cell : w.heap[r]? = some (.cells #[vv, .int .i64 (S.room : Nat), lv, .int .i64 (S.time : Nat), .int .i64 (S.hit : Nat), .int .i64 (S.miss : Nat), .int .i64 (S.outs : Nat)] 32 (0, 0))
  row : w.ownsRow base 68 5 lv S.L.length (rows S.L)
  vrow : w.ownsRow base 33 1 vv S.V.length (S.V.map SV.val)
/-- Blocks of the types that it is made of. -/
def RT (o : Option Obj) : Prop := ∃ cs t f, o = some (.cells cs t f) ∧ (t = 32 ∨ t = 68 ∨ t = 33)
def Fr (base : Nat) (w w' : World) : Prop := Only (fun k => base ≤ k ∧ RT w.heap[k]?) w w'
theorem Fr.refl (base : Nat) (w : World) : Fr base w w := Only.refl _ _
theorem Fr.trans {base : Nat} {a b c : World} (h : Fr base a b) (k : Fr base b c) : Fr base a c := by
  refine ⟨k.os.trans h.os, k.tape.trans h.tape, k.output.trans h.output, Nat.le_trans h.size k.size, fun i hi hn => ?_⟩
  have e := h.block i hi hn
  rw [k.block i (Nat.lt_of_lt_of_le hi h.size) (by rw [e]; exact hn), e]
theorem Fr.below {base : Nat} {w w' : World} (h : Below w.heap.size w w') : Fr base w w' := only_below h _
theorem RF.below {w w' : World} {base r : Nat} {vv lv : Value} {S : RS} (h : RF w base r vv lv S) (hb : Below w.heap.size w w') : RF w' base r vv lv S :=
  ⟨h.lo, (hb.block r (block_lt h.cell)).trans h.cell, (only_below hb (fun _ => False)).owns h.row (fun _ _ f => f), (only_below hb (fun _ => False)).owns h.vrow (fun _ _ f => f)⟩
theorem own_form {w : World} {base e size : Nat} {v : Value} {n : Nat} {xs : List Value} (ho : w.ownsRow base e size v n xs) : ∃ p c, v = .slice p n c ∧ n ≤ c ∧ (0 < n → ∃ g, p = some ⟨g, 0, none⟩ ∧ base ≤ g ∧ ∀ j, j < n * size → w.cell? ⟨g, j, none⟩ = xs[j]?) := by
  rcases ho.2 with ⟨rfl, h0⟩ | ⟨g, cap, cur, rfl, hb, hg, hn, hm, hs, ht⟩
  · exact ⟨none, 0, by rw [h0], by omega, fun h => absurd h (by omega)⟩
  · exact ⟨_, cap, rfl, hn, fun _ => ⟨g, rfl, hb, fun j hj => ho.cellAt j hj⟩⟩
/-- An entry's cells. -/
theorem RF.at_ {w : World} {base r : Nat} {vv lv : Value} {S : RS} (h : RF w base r vv lv S) {i : Nat} {x : RE} (hx : S.L[i]? = some x) : ∃ g c, lv = .slice (some ⟨g, 0, none⟩) S.L.length c ∧ base ≤ g ∧ ∀ j, j < 5 → w.cell? ⟨g, i * 5 + j, none⟩ = (reCells x)[j]? := by
  have hl := (List.getElem?_eq_some_iff.1 hx).1
  obtain ⟨p, c, e, _, hp⟩ := own_form h.row
  obtain ⟨g, rfl, hb, hc⟩ := hp (by omega)
  refine ⟨g, c, e, hb, fun j hj => ?_⟩
  rw [hc _ (by omega), rows_at S.L i j x hx hj]

end Go.Proofs.YtlcojcldbdikgaaGreatDoor.Rc
