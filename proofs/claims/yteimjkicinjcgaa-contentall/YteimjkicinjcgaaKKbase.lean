/-
  What the other texts stand on: bytes in memory, what a call leaves alone, a writer and a reader in memory.
-/
import Derived.Test.YteimjkicinjcgaaProg
import Derived.Test.YteimjkicinjcgaaKKcodm
import Derived.WalkKit
import Derived.WalkSpells
import Derived.WalkLawsBesides
import Derived.Laws.CopyOwn
import Derived.Laws.BitsAllLaws
import Derived.Laws.OwnMore
import Derived.Laws.BytesArg
import Derived.Deep.AppendLies
import Derived.Maps.AppendAt
import Derived.Lib.AppendStr
import Derived.Lib.SliceRun
import Derived.Lib.SlBytesConst
import Derived.Deep.LoopGhost
import Derived.Deep.QuietTactic
import Derived.BigQuiet
import Derived.RegionTactic

namespace Go.Proofs.Yteimjkicinjcgaa.Cd
open Go.RowKit

theorem Try.info5 : (Try.prog.info? 5).map (fun i => (i.zero, i.size, i.bytes)) = some (some (.int .u8 0), 1, 1) := by kernel_rfl
theorem Try.info2 : (Try.prog.info? 2).map (fun i => (i.zero, i.size, i.bytes)) = some (some (.int .i64 0), 1, 8) := by kernel_rfl
theorem cellOf {w : World} {b : Nat} {cs : Array Value} {t : TypeId} {f : Nat × Nat} (h : w.heap[b]? = some (.cells cs t f)) (j : Nat) :
    w.cell? ⟨b, j, none⟩ = cs[j]? := by
  simp [World.cell?, h]
theorem frozenOf {w : World} {b : Nat} {cs : Array Value} {t : TypeId} (h : w.heap[b]? = some (.cells cs t (0, 0))) (j : Nat) :
    w.frozen? ⟨b, j, none⟩ = false := by
  simp [World.frozen?, h]
theorem cell_lt {w : World} {b k : Nat} {v : Value} (h : w.cell? ⟨b, k, none⟩ = some v) : b < w.heap.size := by
  by_cases hb : b < w.heap.size
  · exact hb
  · simp [World.cell?, Array.getElem?_eq_none (Nat.not_lt.1 hb)] at h
theorem block_lt {w : World} {b : Nat} {o : Obj} (h : w.heap[b]? = some o) : b < w.heap.size := (Array.getElem?_eq_some_iff.1 h).1

/-- A callee that leaves the world as it was, met at its call. -/
theorem Calls_on {P : Program} {f : Nat} {args : Array Value} {w : World} {v : Ending} {K : Ending → World → Prop}
    (h : Calls P f args w fun e w' => e = v ∧ w' = w) (hk : K v w) : Calls P f args w K :=
  h.mono (by rintro e w' ⟨rfl, rfl⟩; exact hk)

/-- A byte; a number. -/
def u8v (b : BitVec 8) : Value := .int .u8 (b.toNat : Int)
abbrev iv (n : Int) : Value := .int .i64 n
theorem u8v_one (bs : List (BitVec 8)) : ∀ v ∈ bs.map u8v, v.oneCell' = true := by
  intro v hv
  obtain ⟨x, _, rfl⟩ := List.mem_map.1 hv
  rfl

/-- The bytes bs lie from p on. -/
def Bytes (w : World) (p : Option Addr) (bs : List (BitVec 8)) : Prop :=
  0 < bs.length → ∃ b o, p = some ⟨b, o, none⟩ ∧ ∀ j x, bs[j]? = some x → w.cell? ⟨b, o + j, none⟩ = some (u8v x)

/-- The values xs lie from p on. -/
def Lies (w : World) (p : Option Addr) (xs : List Value) : Prop :=
  0 < xs.length → ∃ b o, p = some ⟨b, o, none⟩ ∧ ∀ j x, xs[j]? = some x → w.cell? ⟨b, o + j, none⟩ = some x

theorem bytes_nil (w : World) (p : Option Addr) : Bytes w p [] := fun h => absurd h (by simp)
theorem lies_nil (w : World) (p : Option Addr) : Lies w p [] := fun h => absurd h (by simp)

/-- Outside S nothing turns. -/
structure Only (S : Nat → Prop) (w w' : World) : Prop where
  os : w'.os = w.os
  tape : w'.tape = w.tape
  output : w'.output = w.output
  size : w.heap.size ≤ w'.heap.size
  block : ∀ k, k < w.heap.size → ¬ S k → w'.heap[k]? = w.heap[k]?

theorem Only.refl (S : Nat → Prop) (w : World) : Only S w w := ⟨rfl, rfl, rfl, Nat.le_refl _, fun _ _ _ => rfl⟩
theorem Only.trans {S T : Nat → Prop} {a b c : World} (h : Only S a b) (k : Only T b c) (hs : ∀ i, T i → S i ∨ a.heap.size ≤ i) : Only S a c :=
  ⟨k.os.trans h.os, k.tape.trans h.tape, k.output.trans h.output, Nat.le_trans h.size k.size, fun i hi hn =>
    (k.block i (Nat.lt_of_lt_of_le hi h.size) (fun e => by rcases hs i e with h | h; exact hn h; omega)).trans (h.block i hi hn)⟩
theorem Only.next {S : Nat → Prop} {a b c : World} (h : Only S a b) (k : Only S b c) : Only S a c := h.trans k (fun _ h => .inl h)
theorem Only.below {S : Nat → Prop} {w w' : World} {B : Nat} (h : Only S w w') (hB : B ≤ w.heap.size) (hs : ∀ i, S i → B ≤ i) : Below B w w' :=
  ⟨h.os, h.tape, h.output, h.size, fun k hk => h.block k (by omega) (fun e => by have := hs k e; omega)⟩
theorem Below.only {w w' : World} (h : Below w.heap.size w w') (S : Nat → Prop) : Only S w w' :=
  ⟨h.os, h.tape, h.output, h.size, fun k hk _ => h.block k hk⟩
theorem Only.setCell {S : Nat → Prop} (w : World) (p : Addr) (u : Value) (h : S p.block) : Only S w (w.setCell p u) :=
  ⟨rfl, rfl, rfl, by simp [World.setCell], fun k _ hk => Below.heap_setCell _ _ _ _ (fun e => hk (e ▸ h))⟩
theorem Only.cell {S : Nat → Prop} {w w' : World} (h : Only S w w') {b o : Nat} {v : Value} (hc : w.cell? ⟨b, o, none⟩ = some v) (hn : ¬ S b) : w'.cell? ⟨b, o, none⟩ = some v :=
  (World.cell?_of_block (w := w) (a := ⟨b, o, none⟩) (h.block b (cell_lt hc) hn)).trans hc
theorem Only.bytes {S : Nat → Prop} {w w' : World} (h : Only S w w') {p : Option Addr} {bs : List (BitVec 8)} (hb : Bytes w p bs) (hn : ∀ b o, 0 < bs.length → p = some ⟨b, o, none⟩ → ¬ S b) : Bytes w' p bs := by
  intro hl
  obtain ⟨b, o, rfl, hx⟩ := hb hl
  exact ⟨b, o, rfl, fun j x hj => h.cell (hx j x hj) (hn b o hl rfl)⟩
theorem Only.lies {S : Nat → Prop} {w w' : World} (h : Only S w w') {p : Option Addr} {bs : List Value} (hb : Lies w p bs) (hn : ∀ b o, 0 < bs.length → p = some ⟨b, o, none⟩ → ¬ S b) : Lies w' p bs := by
  intro hl
  obtain ⟨b, o, rfl, hx⟩ := hb hl
  exact ⟨b, o, rfl, fun j x hj => h.cell (hx j x hj) (hn b o hl rfl)⟩
theorem Only.owns {S : Nat → Prop} {w w' : World} (h : Only S w w') {base e : Nat} {v : Value} {n : Nat} {xs : List Value} (ho : w.ownsRow base e 1 v n xs) (hn : ∀ b, v.ownBlock = some b → ¬ S b) : w'.ownsRow base e 1 v n xs := by
  refine ⟨ho.1, ?_⟩
  rcases ho.2 with h0 | ⟨g, cap, cur, rfl, hb, hgg, r⟩
  · exact .inl h0
  · exact .inr ⟨g, cap, cur, rfl, hb, (h.block g (block_lt hgg) (hn g rfl)).trans hgg, r⟩

theorem below_bytes {w w' : World} (h : Below w.heap.size w w') {p : Option Addr} {bs : List (BitVec 8)} (hb : Bytes w p bs) : Bytes w' p bs :=
  (Below.only h (fun _ => False)).bytes hb (fun _ _ _ _ h => h)
theorem below_lies {w w' : World} (h : Below w.heap.size w w') {p : Option Addr} {bs : List Value} (hb : Lies w p bs) : Lies w' p bs :=
  (Below.only h (fun _ => False)).lies hb (fun _ _ _ _ h => h)
theorem own_below {W W' : World} {base e : Nat} {v : Value} {n : Nat} {xs : List Value} (h : W.ownsRow base e 1 v n xs) (hb : Below W.heap.size W W') : W'.ownsRow base e 1 v n xs :=
  (Below.only hb (fun _ => False)).owns h (fun _ _ h => h)
theorem own_lt {W : World} {base e : Nat} {v : Value} {n : Nat} {xs : List Value} (h : W.ownsRow base e 1 v n xs) {b : Nat} (hb : v.ownBlock = some b) : base ≤ b ∧ b < W.heap.size ∧ ∃ cur, W.heap[b]? = some (.cells cur e (0, 0)) := by
  rcases h.2 with ⟨rfl, _⟩ | ⟨g, cap, cur, rfl, hb', hgg, r⟩
  · cases hb
  · cases hb
    exact ⟨hb', block_lt hgg, cur, hgg⟩
/-- The bytes of a row that the call owns. -/
theorem owns_bytes {W : World} {base : Nat} {v : Value} {n : Nat} {bs : List (BitVec 8)} (h : W.ownsRow base 5 1 v n (bs.map u8v)) :
    n = bs.length ∧ ∃ p cap, v = .slice p bs.length cap ∧ bs.length ≤ cap ∧ Bytes W p bs ∧ (∀ b o, p = some ⟨b, o, none⟩ → v.ownBlock = some b) := by
  have hlen := h.1
  rw [List.length_map, Nat.mul_one] at hlen
  subst hlen
  refine ⟨rfl, ?_⟩
  rcases h.2 with ⟨rfl, h0⟩ | ⟨g, cap, cur, rfl, hb', hgg, hc, r⟩
  · refine ⟨none, 0, by rw [h0], by omega, fun hl => absurd hl (by omega), fun b o e => by cases e⟩
  · refine ⟨some ⟨g, 0, none⟩, cap, rfl, hc, fun _ => ⟨g, 0, rfl, fun j x hj => ?_⟩, fun b o e => by cases e; rfl⟩
    have hlt := (List.getElem?_eq_some_iff.1 hj).1
    rw [Nat.zero_add, h.cellAt j (by omega), List.getElem?_map, hj]
    rfl
theorem owns_lies {W : World} {base e : Nat} {v : Value} {n : Nat} {xs : List Value} (h : W.ownsRow base e 1 v n xs) :
    n = xs.length ∧ ∃ p cap, v = .slice p xs.length cap ∧ xs.length ≤ cap ∧ Lies W p xs ∧ (∀ b o, p = some ⟨b, o, none⟩ → v.ownBlock = some b) := by
  have hlen := h.1
  rw [Nat.mul_one] at hlen
  subst hlen
  refine ⟨rfl, ?_⟩
  rcases h.2 with ⟨rfl, h0⟩ | ⟨g, cap, cur, rfl, hb', hgg, hc, r⟩
  · refine ⟨none, 0, by rw [h0], by omega, fun hl => absurd hl (by omega), fun b o e => by cases e⟩
  · refine ⟨some ⟨g, 0, none⟩, cap, rfl, hc, fun _ => ⟨g, 0, rfl, fun j x hj => ?_⟩, fun b o e => by cases e; rfl⟩
    have hlt := (List.getElem?_eq_some_iff.1 hj).1
    rw [Nat.zero_add, h.cellAt j (by omega), hj]

theorem bytes_take {w : World} {p : Option Addr} {bs : List (BitVec 8)} (hb : Bytes w p bs) (n : Nat) : Bytes w p (bs.take n) := by
  intro hl
  have hl' : 0 < bs.length := by rw [List.length_take] at hl; omega
  obtain ⟨g, o, rfl, hx⟩ := hb hl'
  refine ⟨g, o, rfl, fun j x hj => ?_⟩
  rw [List.getElem?_take] at hj
  split at hj
  · exact hx j x hj
  · cases hj
/- Appending. -/

theorem run_append_none_any {P : Program} {w : World} (base : Nat) (t ty e : TypeId) (i : TypeInfo) (size : Nat) (ht : P.underlying t = some (.slice e)) (hi : P.info? e = some i)
    (v : Value) (n : Nat) (xs : List Value) (hown : w.ownsRow base e size v n xs) (c : Nat) :
    (Builtin.append_ #[t, t] ty #[v, .slice none 0 c]).run P w = .ok v w := by
  rcases hown.2 with ⟨rfl, rfl⟩ | ⟨g, cap, cur, rfl, _, _, hnc, _⟩
  · simp [Builtin.append_, run_underlying ht, sizeOf, typeInfo, hi, Builtin.lenOf, Builtin.firstCells]
  · simp [Builtin.append_, run_underlying ht, sizeOf, typeInfo, hi, Builtin.lenOf, Builtin.firstCells, hnc, storeCells]

theorem run_append_bytes {W : World} {base : Nat} {v : Value} {n : Nat} {xs : List Value} (ty : TypeId) (hown : W.ownsRow base 5 1 v n xs) (p : Option Addr) (bs : List (BitVec 8)) (cp : Nat) (hb : Bytes W p bs)
    (h63 : n + bs.length ≤ 1099511627776) (hbase : base ≤ W.heap.size) :
    ∃ v' W', (Builtin.append_ #[31, 31] ty #[v, .slice p bs.length cp]).run Try.prog W = .ok v' W' ∧ W'.ownsRow base 5 1 v' (n + bs.length) (xs ++ bs.map u8v) ∧ W.grownBy W' v.ownBlock ∧ (v'.ownBlock = v.ownBlock ∨ v'.ownBlock = some W.heap.size) := by
  obtain ⟨i0, hi0, hz0, hz1, hz2⟩ := info_parts Try.info5
  rcases p with _ | ad
  · have h0 : bs = [] := by
      by_cases hl : 0 < bs.length
      · obtain ⟨_, _, h, _⟩ := hb hl; cases h
      · exact List.eq_nil_of_length_eq_zero (by omega)
    subst h0
    refine ⟨v, W, run_append_none_any base 31 ty 5 i0 1 Try.underlying31 hi0 v n xs hown cp, by simpa using hown, ⟨rfl, rfl, rfl, Nat.le_refl _, fun _ _ _ => rfl⟩, .inl rfl⟩
  · obtain ⟨v', w', hr, h2, h3, _, h5⟩ := run_append_own_at (P := Try.prog) W base 31 ty 5 i0 (.int .u8 0) 1 1 Try.underlying31 hi0 hz0 hz1 hz2 rfl (by decide) v n xs hown ad bs.length cp (bs.map u8v) (by simp)
      (fun j u hj => by
        rw [List.getElem?_map] at hj
        obtain ⟨x, hx, rfl⟩ := Option.map_eq_some_iff.1 hj
        obtain ⟨b, o, e, hc⟩ := hb (Nat.lt_of_le_of_lt (Nat.zero_le _) (List.getElem?_eq_some_iff.1 hx).1)
        cases e
        rw [Addr.add_lit]
        exact hc j x hx) (u8v_one bs) (by unfold maxLen; omega) (by omega) hbase
    exact ⟨v', w', hr, h2, h3, h5⟩

theorem wpList_append_bytes {W : World} {ops : Array Oper} {rest : List Oper} {o : Oper} {a : Act} {Q : Exit → Act → World → Prop} (hgd : o.guard = none) (s x : Operand)
    (ho : o.op = .call { callee := .builtin .append, args := #[s, x], argTypes := #[31, 31] })
    (base : Nat) (v : Value) (n : Nat) (xs : List Value) (hs : a.eval s = v) (hown : W.ownsRow base 5 1 v n xs)
    (p : Option Addr) (bs : List (BitVec 8)) (cp : Nat) (hx : a.eval x = .slice p bs.length cp) (hb : Bytes W p bs) (h63 : n + bs.length ≤ 1099511627776) (hbase : base ≤ W.heap.size)
    (h : ∀ v' w', w'.ownsRow base 5 1 v' (n + bs.length) (xs ++ bs.map u8v) → W.grownBy w' v.ownBlock → (v'.ownBlock = v.ownBlock ∨ v'.ownBlock = some W.heap.size) → wpList Try.prog ops Q rest (a.put o.dst v') w') :
    wpList Try.prog ops Q (o :: rest) a W := by
  refine wpList_plain hgd fun K hK => ?_
  obtain ⟨v', w', hr, h2, h3, h5⟩ := run_append_bytes (ty := o.type) hown p bs cp hb h63 hbase
  unfold Oper.wp execOp
  simp only [ho, resolve, invoke, builtin, Sem.run_bind, Sem.run_pure, Result.andThen_ok, List.map_toArray, List.map_cons, List.map_nil, hs, hx, hr]
  exact hK _ _ (h v' w' h2 h3 h5)

/-- The text of some bytes. -/
def strOf (bs : List (BitVec 8)) : ByteArray := strOfNums (bs.map fun b => (b.toNat : Int))

theorem run_str (W : World) (p : Option Addr) (bs : List (BitVec 8)) (c : Nat) (h : Bytes W p bs) :
    (convert 31 9 (.slice p bs.length c)).run Try.prog W = .ok (.string (strOf bs)) W := by
  by_cases hl : 0 < bs.length
  · obtain ⟨g, o, rfl, hx⟩ := h hl
    refine run_convert_bytes_arg W 31 5 Try.underlying31 Try.underlying5 g o bs.length c (bs.map fun b => (b.toNat : Int)) (by simp) (fun i hi => ?_) 9 Try.underlying9
    rw [hx i bs[i] (List.getElem?_eq_getElem hi)]
    simp [u8v, hi]
  · have h0 : bs = [] := List.eq_nil_of_length_eq_zero (by omega)
    subst h0
    rcases p with _ | ad
    · exact run_convert_bytes_nil W 31 5 Try.underlying31 Try.underlying5 0 c 9 Try.underlying9
    · have hl0 : (loadCells ad 0).run Try.prog W = .ok #[] W := by
        have := run_loadCells_list (P := Try.prog) W ad [] (fun j v hj => by simp at hj)
        simpa using this
      show (convert 31 9 (.slice (some ad) 0 c)).run Try.prog W = _
      rw [run_convert_bytes_string W 31 9 5 _ 0 c Try.underlying31 Try.underlying5 Try.underlying9]
      simp [Conv.bytesToString, hl0]
      rfl

/- A writer in memory: what it wrote, or none: it is bad. -/

theorem heap_set_same {w : World} {a k : Nat} {cs : Array Value} {t : TypeId} {f : Nat × Nat} (h : w.heap[a]? = some (.cells cs t f)) (u : Value) : (w.setCell ⟨a, k, none⟩ u).heap[a]? = some (.cells (cs.setIfInBounds k u) t f) := by
  simp [World.setCell, Array.getElem?_modify, h]

/- A reader in memory (of type t): what is left, or none: it is bad. -/

end Go.Proofs.Yteimjkicinjcgaa.Cd
