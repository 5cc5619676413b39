/-
  A directory in memory: entries in rows, rows in blocks; what a call on it may turn.
-/
import Derived.Test.YtdocablbkafkiaaDoorDb
import Derived.Test.YtdocablbkafkiaaDoorKrany
namespace Go.Proofs.YtdocablbkafkiaaDoor.Cd
open Go.RowKit

/-- A name as a string; its bytes as numbers of eight bits. -/
def bas (l : List UInt8) : ByteArray := ⟨l.toArray⟩
theorem bas_data (l : List UInt8) : (bas l).data.toList = l := rfl
theorem bas_toList (l : List UInt8) : (bas l).toList = l := by rw [Lib.toList_data, bas_data]
theorem bas_of (s : ByteArray) : bas s.data.toList = s := Lib.mk_data s
theorem bas_size (l : List UInt8) : (bas l).size = l.length := by rw [Lib.size_eq, bas_data]
theorem bas_inj {a b : List UInt8} (h : bas a = bas b) : a = b := by rw [← bas_data a, h, bas_data]
def bits8 (l : List UInt8) : List (BitVec 8) := l.map (·.toBitVec)
theorem bits8_cells (l : List UInt8) : (bits8 l).map u8v = Lib.strCells (bas l) := by
  unfold bits8 Lib.strCells
  rw [bas_data, List.map_map]
  rfl
theorem bits8_length (l : List UInt8) : (bits8 l).length = l.length := by simp [bits8]

def entCells (x : En) : List Value := [.string (bas x.name), .int .i64 (x.num : Nat)]
def ents (L : List En) : List Value := (L.map entCells).flatten
theorem ents_length (L : List En) : (ents L).length = L.length * 2 := by
  unfold ents
  induction L with
  | nil => rfl
  | cons x L ih => rw [List.map_cons, List.flatten_cons, List.length_append, ih]; simp [entCells]; omega
theorem ents_append (L M : List En) : ents (L ++ M) = ents L ++ ents M := by simp [ents]
theorem ents_cons (x : En) (M : List En) : ents (x :: M) = entCells x ++ ents M := by simp [ents]
theorem ents_at : ∀ (L : List En) (i j : Nat) (x : En), L[i]? = some x → j < 2 → (ents L)[i * 2 + j]? = (entCells x)[j]?
  | [], i, j, x, h, _ => by simp at h
  | y :: L, 0, j, x, h, hj => by
    simp at h
    subst h
    rw [ents_cons, Nat.zero_mul, Nat.zero_add, List.getElem?_append_left (by simpa [entCells] using hj)]
  | y :: L, i + 1, j, x, h, hj => by
    rw [ents_cons, List.getElem?_append_right (by simp [entCells]; omega)]
    have e : (i + 1) * 2 + j - (entCells y).length = i * 2 + j := by simp [entCells]; omega
    rw [e]
    exact ents_at L i j x (by simpa using h) hj
theorem ents_one (L : List En) : ∀ v ∈ ents L, v.oneCell' = true := by
  intro v hv
  unfold ents at hv
  obtain ⟨l, hl, hv⟩ := List.mem_flatten.1 hv
  obtain ⟨x, _, rfl⟩ := List.mem_map.1 hl
  simp [entCells] at hv
  rcases hv with rfl | rfl <;> rfl
theorem ents_take (L : List En) (i : Nat) : (ents L).take (i * 2) = ents (L.take i) := by
  induction L generalizing i with
  | nil => simp [ents]
  | cons x L ih =>
    cases i with
    | zero => simp [ents]
    | succ i =>
      rw [ents_cons, List.take_succ_cons, ents_cons, ← ih i, List.take_append]
      have e : (entCells x).length = 2 := rfl
      rw [e, show (i + 1) * 2 - 2 = i * 2 by omega, List.take_of_length_le (by rw [e]; omega)]
theorem ents_drop (L : List En) (i : Nat) : (ents L).drop (i * 2) = ents (L.drop i) := by
  induction L generalizing i with
  | nil => simp [ents]
  | cons x L ih =>
    cases i with
    | zero => simp
    | succ i =>
      rw [ents_cons, List.drop_succ_cons, ← ih i, List.drop_append]
      have e : (entCells x).length = 2 := rfl
      rw [e, show (i + 1) * 2 - 2 = i * 2 by omega, List.drop_of_length_le (by rw [e]; omega), List.nil_append]

/-- A block of a directory: a row of entries that is its own. -/
def Blk (w : World) (base : Nat) (v : Value) (L : List En) : Prop := w.ownsRow base 55 2 v L.length (ents L)
theorem Blk.nil (w : World) (base : Nat) : Blk w base (.slice none 0 0) [] := World.ownsRow_nil _ _ _ _
/-- .. as a slice of entries that is read alone. -/
def Ents (w : World) (p : Option Addr) (L : List En) : Prop :=
  0 < L.length → ∃ b o, p = some ⟨b, o, none⟩ ∧ ∀ (i j : Nat) (x : En), L[i]? = some x → j < 2 → w.cell? ⟨b, o + (i * 2 + j), none⟩ = (entCells x)[j]?
theorem Blk.form {w : World} {base : Nat} {v : Value} {L : List En} (h : Blk w base v L) : ∃ p c, v = .slice p L.length c ∧ L.length ≤ c ∧ c ≤ maxLen ∧ Ents w p L := by
  unfold Blk at h
  rcases h.2 with ⟨rfl, h0⟩ | ⟨g, cap, cur, rfl, hb, hg, hn, hm, hs, ht⟩
  · exact ⟨none, 0, by rw [h0], by omega, Nat.zero_le _, fun hl => absurd hl (by omega)⟩
  · refine ⟨_, cap, rfl, hn, hm, fun _ => ⟨g, 0, rfl, fun i j x hx hj => ?_⟩⟩
    have hi := (List.getElem?_eq_some_iff.1 hx).1
    rw [Nat.zero_add, h.cellAt (i * 2 + j) (by omega), ents_at L i j x hx hj]
theorem Only.ownsAny {S : Nat → Prop} {w w' : World} (h : Only S w w') {base e size : Nat} {v : Value} {n : Nat} {xs : List Value} (ho : w.ownsRow base e size v n xs) (hn : ∀ b, v.ownBlock = some b → ¬ S b) : w'.ownsRow base e size v n xs := by
  refine ⟨ho.1, ?_⟩
  rcases ho.2 with h0 | ⟨g, cap, cur, rfl, hb, hg, r⟩
  · exact .inl h0
  · exact .inr ⟨g, cap, cur, rfl, hb, (h.block g (block_lt hg) (hn g rfl)).trans hg, r⟩
theorem Blk.kept {w w' : World} {base : Nat} {v : Value} {L : List En} {S : Nat → Prop} (h : Blk w base v L) (ho : Only S w w') (hn : ∀ b, v.ownBlock = some b → ¬ S b) : Blk w' base v L := Only.ownsAny ho h hn
theorem Blk.tag {w : World} {base : Nat} {v : Value} {L : List En} (h : Blk w base v L) {g : Nat} (hg : v.ownBlock = some g) : base ≤ g ∧ g < w.heap.size ∧ ∃ cur, w.heap[g]? = some (.cells cur 55 (0, 0)) := by
  rcases h.2 with ⟨rfl, h0⟩ | ⟨g', cap, cur, rfl, hb, hg', r⟩
  · cases hg
  · cases hg; exact ⟨hb, block_lt hg', cur, hg'⟩
theorem Ents.only {w w' : World} {S : Nat → Prop} (h : Only S w w') {p : Option Addr} {L : List En} (he : Ents w p L) (hn : ∀ b o, 0 < L.length → p = some ⟨b, o, none⟩ → ¬ S b) : Ents w' p L := by
  intro hl
  obtain ⟨b, o, rfl, hc⟩ := he hl
  refine ⟨b, o, rfl, fun i j x hx hj => ?_⟩
  obtain ⟨v, hv⟩ : ∃ v, (entCells x)[j]? = some v := ⟨_, List.getElem?_eq_getElem (by simpa [entCells] using hj)⟩
  rw [hv]
  exact h.cell ((hc i j x hx hj).trans hv) (hn b o hl rfl)
theorem Ents.below {w w' : World} (h : Below w.heap.size w w') {p : Option Addr} {L : List En} (he : Ents w p L) : Ents w' p L := Ents.only (Below.only h (fun _ => False)) he (fun _ _ _ _ h => h)

/-- Blocks of the types that a directory is made of. -/
def DT (o : Option Obj) : Prop := ∃ cs t f, o = some (.cells cs t f) ∧ (t = 49 ∨ t = 57 ∨ t = 55)
/-- What calls on directories from base on may turn: just blocks of such types. -/
def Fr (base : Nat) (w w' : World) : Prop := Only (fun k => base ≤ k ∧ DT w.heap[k]?) w w'
theorem Fr.refl (base : Nat) (w : World) : Fr base w w := Only.refl _ _
theorem Fr.trans {base : Nat} {a b c : World} (h : Fr base a b) (k : Fr base b c) : Fr base a c := by
  refine ⟨k.os.trans h.os, k.tape.trans h.tape, k.output.trans h.output, Nat.le_trans h.size k.size, fun i hi hn => ?_⟩
  have e := h.block i hi hn
  rw [k.block i (Nat.lt_of_lt_of_le hi h.size) (by rw [e]; exact hn), e]
theorem Fr.below {base : Nat} {w w' : World} (h : Below w.heap.size w w') : Fr base w w' := Below.only h _
theorem Fr.low {base base' : Nat} {w w' : World} (h : Fr base w w') (hb : base' ≤ base) : Fr base' w w' := Only.weak h (fun _ _ hs => ⟨Nat.le_trans hb hs.1, hs.2⟩)
theorem Fr.toBelow {base : Nat} {w w' : World} (h : Fr base w w') (hb : base ≤ w.heap.size) : Below base w w' := Only.below h hb (fun _ hs => hs.1)
theorem Fr.cell {base : Nat} {w w' : World} (h : Fr base w w') {b o : Nat} {v : Value} (hc : w.cell? ⟨b, o, none⟩ = some v) (hn : b < base ∨ ¬ DT w.heap[b]?) : w'.cell? ⟨b, o, none⟩ = some v :=
  Only.cell h hc (fun hs => by rcases hn with hn | hn; exact absurd hs.1 (by omega); exact hn hs.2)

/-- The rows of the blocks, each apart from the others. -/
structure Rows (w : World) (base : Nat) (vs : List Value) (D : List (List En)) : Prop where
  len : vs.length = D.length
  row : ∀ (i : Nat) v L, vs[i]? = some v → D[i]? = some L → Blk w base v L
  apart : ∀ (i j : Nat) v u g, i ≠ j → vs[i]? = some v → vs[j]? = some u → v.ownBlock = some g → u.ownBlock ≠ some g
/-- A directory at block a: how many names it says, its blocks. -/
structure DirAt (w : World) (base a : Nat) (count : Nat) (bv : Value) (vs : List Value) (D : List (List En)) : Prop where
  lo : base ≤ a
  dir : w.heap[a]? = some (.cells #[.int .i64 (count : Nat), bv] 49 (0, 0))
  blocks : w.ownsRow base 57 1 bv D.length vs
  rows : Rows w base vs D

theorem DirAt.c0 {w : World} {base a count : Nat} {bv : Value} {vs : List Value} {D : List (List En)} (h : DirAt w base a count bv vs D) : w.cell? ⟨a, 0, none⟩ = some (.int .i64 (count : Nat)) := cellOf h.dir 0
theorem DirAt.c1 {w : World} {base a count : Nat} {bv : Value} {vs : List Value} {D : List (List En)} (h : DirAt w base a count bv vs D) : w.cell? ⟨a, 1, none⟩ = some bv := cellOf h.dir 1
theorem DirAt.bform {w : World} {base a count : Nat} {bv : Value} {vs : List Value} {D : List (List En)} (h : DirAt w base a count bv vs D) : ∃ p c, bv = .slice p D.length c ∧ D.length ≤ c ∧ c ≤ maxLen ∧ (0 < D.length → ∃ B, p = some ⟨B, 0, none⟩ ∧ base ≤ B ∧ B < w.heap.size ∧ ∃ cur, w.heap[B]? = some (.cells cur 57 (0, 0))) := by
  rcases h.blocks.2 with ⟨h1, h0⟩ | ⟨g, cap, cur, h1, hb, hg, hn, hm, hs, ht⟩
  · exact ⟨none, 0, by rw [h1, h0], by omega, Nat.zero_le _, fun hl => absurd hl (by omega)⟩
  · exact ⟨_, cap, h1, hn, hm, fun _ => ⟨g, rfl, hb, block_lt hg, cur, hg⟩⟩
/-- What turns no block of it keeps it. -/
theorem DirAt.kept {w w' : World} {base a count : Nat} {bv : Value} {vs : List Value} {D : List (List En)} {S : Nat → Prop} (h : DirAt w base a count bv vs D) (ho : Only S w w') (hn : ∀ k, base ≤ k → k < w.heap.size → DT w.heap[k]? → ¬ S k) : DirAt w' base a count bv vs D := by
  refine ⟨h.lo, (ho.block a (block_lt h.dir) (hn a h.lo (block_lt h.dir) ⟨_, _, _, h.dir, .inl rfl⟩)).trans h.dir, Only.ownsAny ho h.blocks ?_, h.rows.len, fun i v L hv hL => (h.rows.row i v L hv hL).kept ho ?_, h.rows.apart⟩
  · intro b hb
    rcases h.blocks.2 with ⟨rfl, _⟩ | ⟨g, cap, cur, rfl, hlo, hg, _⟩
    · cases hb
    · cases hb; exact hn g hlo (block_lt hg) ⟨_, _, _, hg, .inr (.inl rfl)⟩
  · intro b hb
    obtain ⟨h1, h2, cur, h3⟩ := (h.rows.row i v L hv hL).tag hb
    exact hn b h1 h2 ⟨_, _, _, h3, .inr (.inr rfl)⟩
theorem DirAt.below {w w' : World} {base a count : Nat} {bv : Value} {vs : List Value} {D : List (List En)} (h : DirAt w base a count bv vs D) (hb : Below w.heap.size w w') : DirAt w' base a count bv vs D :=
  h.kept (Below.only hb (fun _ => False)) (fun _ _ _ _ h => h)

end Go.Proofs.YtdocablbkafkiaaDoor.Cd
