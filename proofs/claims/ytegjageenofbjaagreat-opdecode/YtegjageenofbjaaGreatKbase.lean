/-
  What the other texts stand on: bytes in memory, what a call leaves alone, a writer and a reader in memory.
-/
import Derived.Test.YtegjageenofbjaaGreatProg
import Derived.Test.YtegjageenofbjaaGreatKcodm
import Derived.WalkKit
import Derived.WalkSpells
import Derived.WalkLawsBesides
import Derived.Laws.CopyOwn
import Derived.Laws.BitsAllLaws
import Derived.Laws.OwnMore
import Derived.Laws.BytesArg
import Derived.Deep.AppendLies
import Derived.Maps.AppendAt
import Derived.Lib.AppendStr
import Derived.Lib.SliceRun
import Derived.Lib.SlBytesConst
import Derived.Deep.LoopGhost
import Derived.Deep.QuietTactic
import Derived.BigQuiet
import Derived.RegionTactic
namespace Go.Proofs.YtegjageenofbjaaGreat.Cd
open Go.RowKit

theorem Tryz.info5 : (Tryz.prog.info? 5).map (fun i => (i.zero, i.size, i.bytes)) = some (some (.int .u8 0), 1, 1) := by kernel_rfl
theorem Tryz.info2 : (Tryz.prog.info? 2).map (fun i => (i.zero, i.size, i.bytes)) = some (some (.int .i64 0), 1, 8) := by kernel_rfl
theorem Tryz.info3 : (Tryz.prog.info? 3).map (fun i => (i.zero, i.size, i.bytes)) = some (some (.int .i64 0), 1, 8) := by kernel_rfl

theorem cellOf {w : World} {b : Nat} {cs : Array Value} {t : TypeId} {f : Nat × Nat} (h : w.heap[b]? = some (.cells cs t f)) (j : Nat) :
    w.cell? ⟨b, j, none⟩ = cs[j]? := by
  simp [World.cell?, h]
theorem frozenOf {w : World} {b : Nat} {cs : Array Value} {t : TypeId} (h : w.heap[b]? = some (.cells cs t (0, 0))) (j : Nat) :
    w.frozen? ⟨b, j, none⟩ = false := by
  simp [World.frozen?, h]
theorem cell_lt {w : World} {b k : Nat} {v : Value} (h : w.cell? ⟨b, k, none⟩ = some v) : b < w.heap.size := by
  by_cases hb : b < w.heap.size
  · exact hb
  · simp [World.cell?, Array.getElem?_eq_none (Nat.not_lt.1 hb)] at h
theorem block_lt {w : World} {b : Nat} {o : Obj} (h : w.heap[b]? = some o) : b < w.heap.size := (Array.getElem?_eq_some_iff.1 h).1

/-- A callee that leaves the world as it was, met at its call. -/
theorem Calls_on {P : Program} {f : Nat} {args : Array Value} {w : World} {v : Ending} {K : Ending → World → Prop}
    (h : Calls P f args w fun e w' => e = v ∧ w' = w) (hk : K v w) : Calls P f args w K :=
  h.mono (by rintro e w' ⟨rfl, rfl⟩; exact hk)

/-- A byte; a number. -/
def u8v (b : BitVec 8) : Value := .int .u8 (b.toNat : Int)
abbrev nv (n : Nat) : Value := .int .i64 (n : Int)
abbrev iv (n : Int) : Value := .int .i64 n
theorem u8v_one (bs : List (BitVec 8)) : ∀ v ∈ bs.map u8v, v.oneCell' = true := by
  intro v hv
  obtain ⟨x, _, rfl⟩ := List.mem_map.1 hv
  rfl

/-- The bytes bs lie from p on. -/
def Bytes (w : World) (p : Option Addr) (bs : List (BitVec 8)) : Prop :=
  0 < bs.length → ∃ b o, p = some ⟨b, o, none⟩ ∧ ∀ j x, bs[j]? = some x → w.cell? ⟨b, o + j, none⟩ = some (u8v x)

/-- The values xs lie from p on. -/
def Lies (w : World) (p : Option Addr) (xs : List Value) : Prop :=
  0 < xs.length → ∃ b o, p = some ⟨b, o, none⟩ ∧ ∀ j x, xs[j]? = some x → w.cell? ⟨b, o + j, none⟩ = some x

theorem bytes_nil (w : World) (p : Option Addr) : Bytes w p [] := fun h => absurd h (by simp)
theorem lies_nil (w : World) (p : Option Addr) : Lies w p [] := fun h => absurd h (by simp)

/-- Outside S nothing turns. -/
structure Only (S : Nat → Prop) (w w' : World) : Prop where
  os : w'.os = w.os
  tape : w'.tape = w.tape
  output : w'.output = w.output
  size : w.heap.size ≤ w'.heap.size
  block : ∀ k, k < w.heap.size → ¬ S k → w'.heap[k]? = w.heap[k]?

theorem Only.refl (S : Nat → Prop) (w : World) : Only S w w := ⟨rfl, rfl, rfl, Nat.le_refl _, fun _ _ _ => rfl⟩
theorem Only.trans {S T : Nat → Prop} {a b c : World} (h : Only S a b) (k : Only T b c) (hs : ∀ i, T i → S i ∨ a.heap.size ≤ i) : Only S a c :=
  ⟨k.os.trans h.os, k.tape.trans h.tape, k.output.trans h.output, Nat.le_trans h.size k.size, fun i hi hn =>
    (k.block i (Nat.lt_of_lt_of_le hi h.size) (fun e => by rcases hs i e with h | h; exact hn h; omega)).trans (h.block i hi hn)⟩
theorem Only.next {S : Nat → Prop} {a b c : World} (h : Only S a b) (k : Only S b c) : Only S a c := h.trans k (fun _ h => .inl h)
theorem Only.weak {S T : Nat → Prop} {a b : World} (h : Only S a b) (hs : ∀ i, i < a.heap.size → S i → T i) : Only T a b :=
  ⟨h.os, h.tape, h.output, h.size, fun i hi hn => h.block i hi (fun e => hn (hs i hi e))⟩
theorem Only.below {S : Nat → Prop} {w w' : World} {B : Nat} (h : Only S w w') (hB : B ≤ w.heap.size) (hs : ∀ i, S i → B ≤ i) : Below B w w' :=
  ⟨h.os, h.tape, h.output, h.size, fun k hk => h.block k (by omega) (fun e => by have := hs k e; omega)⟩
theorem Below.only {w w' : World} (h : Below w.heap.size w w') (S : Nat → Prop) : Only S w w' :=
  ⟨h.os, h.tape, h.output, h.size, fun k hk _ => h.block k hk⟩
theorem Only.grown {S : Nat → Prop} {w w' : World} {row : Option Nat} (h : w.grownBy w' row) (hs : ∀ i, row = some i → S i) : Only S w w' :=
  ⟨h.os, h.tape, h.output, h.size, fun k hk hn => h.block k hk (fun e => hn (hs k e.symm))⟩
theorem Only.alloc (S : Nat → Prop) (w : World) (o : Obj) : Only S w (w.alloc o) :=
  ⟨rfl, rfl, rfl, by simp, fun k hk _ => Below.heap_alloc _ _ _ hk⟩
theorem Only.setCell {S : Nat → Prop} (w : World) (p : Addr) (u : Value) (h : S p.block) : Only S w (w.setCell p u) :=
  ⟨rfl, rfl, rfl, by simp [World.setCell], fun k _ hk => Below.heap_setCell _ _ _ _ (fun e => hk (e ▸ h))⟩
theorem Only.cell {S : Nat → Prop} {w w' : World} (h : Only S w w') {b o : Nat} {v : Value} (hc : w.cell? ⟨b, o, none⟩ = some v) (hn : ¬ S b) : w'.cell? ⟨b, o, none⟩ = some v :=
  (World.cell?_of_block (w := w) (a := ⟨b, o, none⟩) (h.block b (cell_lt hc) hn)).trans hc
theorem Only.bytes {S : Nat → Prop} {w w' : World} (h : Only S w w') {p : Option Addr} {bs : List (BitVec 8)} (hb : Bytes w p bs) (hn : ∀ b o, 0 < bs.length → p = some ⟨b, o, none⟩ → ¬ S b) : Bytes w' p bs := by
  intro hl
  obtain ⟨b, o, rfl, hx⟩ := hb hl
  exact ⟨b, o, rfl, fun j x hj => h.cell (hx j x hj) (hn b o hl rfl)⟩
theorem Only.lies {S : Nat → Prop} {w w' : World} (h : Only S w w') {p : Option Addr} {bs : List Value} (hb : Lies w p bs) (hn : ∀ b o, 0 < bs.length → p = some ⟨b, o, none⟩ → ¬ S b) : Lies w' p bs := by
  intro hl
  obtain ⟨b, o, rfl, hx⟩ := hb hl
  exact ⟨b, o, rfl, fun j x hj => h.cell (hx j x hj) (hn b o hl rfl)⟩
theorem Only.owns {S : Nat → Prop} {w w' : World} (h : Only S w w') {base e : Nat} {v : Value} {n : Nat} {xs : List Value} (ho : w.ownsRow base e 1 v n xs) (hn : ∀ b, v.ownBlock = some b → ¬ S b) : w'.ownsRow base e 1 v n xs := by
  refine ⟨ho.1, ?_⟩
  rcases ho.2 with h0 | ⟨g, cap, cur, rfl, hb, hgg, r⟩
  · exact .inl h0
  · exact .inr ⟨g, cap, cur, rfl, hb, (h.block g (block_lt hgg) (hn g rfl)).trans hgg, r⟩

theorem below_bytes {w w' : World} (h : Below w.heap.size w w') {p : Option Addr} {bs : List (BitVec 8)} (hb : Bytes w p bs) : Bytes w' p bs :=
  (Below.only h (fun _ => False)).bytes hb (fun _ _ _ _ h => h)
theorem below_lies {w w' : World} (h : Below w.heap.size w w') {p : Option Addr} {bs : List Value} (hb : Lies w p bs) : Lies w' p bs :=
  (Below.only h (fun _ => False)).lies hb (fun _ _ _ _ h => h)
theorem own_below {W W' : World} {base e : Nat} {v : Value} {n : Nat} {xs : List Value} (h : W.ownsRow base e 1 v n xs) (hb : Below W.heap.size W W') : W'.ownsRow base e 1 v n xs :=
  (Below.only hb (fun _ => False)).owns h (fun _ _ h => h)
theorem own_lt {W : World} {base e : Nat} {v : Value} {n : Nat} {xs : List Value} (h : W.ownsRow base e 1 v n xs) {b : Nat} (hb : v.ownBlock = some b) : base ≤ b ∧ b < W.heap.size ∧ ∃ cur, W.heap[b]? = some (.cells cur e (0, 0)) := by
  rcases h.2 with ⟨rfl, _⟩ | ⟨g, cap, cur, rfl, hb', hgg, r⟩
  · cases hb
  · cases hb
    exact ⟨hb', block_lt hgg, cur, hgg⟩
theorem tag_ne {W : World} {a b : Nat} {cs ds : Array Value} {s t : TypeId} {f g : Nat × Nat} (h : W.heap[a]? = some (.cells cs s f)) (k : W.heap[b]? = some (.cells ds t g)) (hne : s ≠ t) : a ≠ b := by
  rintro rfl
  rw [h] at k
  cases k
  exact hne rfl

/-- The bytes of a row that the call owns. -/
theorem owns_bytes {W : World} {base : Nat} {v : Value} {n : Nat} {bs : List (BitVec 8)} (h : W.ownsRow base 5 1 v n (bs.map u8v)) :
    n = bs.length ∧ ∃ p cap, v = .slice p bs.length cap ∧ bs.length ≤ cap ∧ Bytes W p bs ∧ (∀ b o, p = some ⟨b, o, none⟩ → v.ownBlock = some b) := by
  have hlen := h.1
  rw [List.length_map, Nat.mul_one] at hlen
  subst hlen
  refine ⟨rfl, ?_⟩
  rcases h.2 with ⟨rfl, h0⟩ | ⟨g, cap, cur, rfl, hb', hgg, hc, r⟩
  · refine ⟨none, 0, by rw [h0], by omega, fun hl => absurd hl (by omega), fun b o e => by cases e⟩
  · refine ⟨some ⟨g, 0, none⟩, cap, rfl, hc, fun _ => ⟨g, 0, rfl, fun j x hj => ?_⟩, fun b o e => by cases e; rfl⟩
    have hlt := (List.getElem?_eq_some_iff.1 hj).1
    rw [Nat.zero_add, h.cellAt j (by omega), List.getElem?_map, hj]
    rfl
theorem owns_lies {W : World} {base e : Nat} {v : Value} {n : Nat} {xs : List Value} (h : W.ownsRow base e 1 v n xs) :
    n = xs.length ∧ ∃ p cap, v = .slice p xs.length cap ∧ xs.length ≤ cap ∧ Lies W p xs ∧ (∀ b o, p = some ⟨b, o, none⟩ → v.ownBlock = some b) := by
  have hlen := h.1
  rw [Nat.mul_one] at hlen
  subst hlen
  refine ⟨rfl, ?_⟩
  rcases h.2 with ⟨rfl, h0⟩ | ⟨g, cap, cur, rfl, hb', hgg, hc, r⟩
  · refine ⟨none, 0, by rw [h0], by omega, fun hl => absurd hl (by omega), fun b o e => by cases e⟩
  · refine ⟨some ⟨g, 0, none⟩, cap, rfl, hc, fun _ => ⟨g, 0, rfl, fun j x hj => ?_⟩, fun b o e => by cases e; rfl⟩
    have hlt := (List.getElem?_eq_some_iff.1 hj).1
    rw [Nat.zero_add, h.cellAt j (by omega), hj]

theorem bytes_block {W : World} {g : Nat} {bs : List (BitVec 8)} {f : Nat × Nat} (h : W.heap[g]? = some (.cells (bs.map u8v).toArray 5 f)) : Bytes W (some ⟨g, 0, none⟩) bs := by
  refine fun _ => ⟨g, 0, rfl, fun j x hj => ?_⟩
  rw [Nat.zero_add, cellOf h j, List.getElem?_toArray, List.getElem?_map, hj]
  rfl
theorem bytes_take {w : World} {p : Option Addr} {bs : List (BitVec 8)} (hb : Bytes w p bs) (n : Nat) : Bytes w p (bs.take n) := by
  intro hl
  have hl' : 0 < bs.length := by rw [List.length_take] at hl; omega
  obtain ⟨g, o, rfl, hx⟩ := hb hl'
  refine ⟨g, o, rfl, fun j x hj => ?_⟩
  rw [List.getElem?_take] at hj
  split at hj
  · exact hx j x hj
  · cases hj
theorem bytes_drop {w : World} {g o : Nat} {bs : List (BitVec 8)} (hb : Bytes w (some ⟨g, o, none⟩) bs) (k : Nat) : Bytes w (some ⟨g, o + k, none⟩) (bs.drop k) := by
  intro hl
  have hl' : 0 < bs.length := by rw [List.length_drop] at hl; omega
  obtain ⟨b, o', e, hx⟩ := hb hl'
  cases e
  refine ⟨g, o + k, rfl, fun j x hj => ?_⟩
  rw [List.getElem?_drop] at hj
  rw [Nat.add_assoc]
  exact hx _ x hj

/- Appending. -/

theorem run_append_none_any {P : Program} {w : World} (base : Nat) (t ty e : TypeId) (i : TypeInfo) (size : Nat) (ht : P.underlying t = some (.slice e)) (hi : P.info? e = some i)
    (v : Value) (n : Nat) (xs : List Value) (hown : w.ownsRow base e size v n xs) (c : Nat) :
    (Builtin.append_ #[t, t] ty #[v, .slice none 0 c]).run P w = .ok v w := by
  rcases hown.2 with ⟨rfl, rfl⟩ | ⟨g, cap, cur, rfl, _, _, hnc, _⟩
  · simp [Builtin.append_, run_underlying ht, sizeOf, typeInfo, hi, Builtin.lenOf, Builtin.firstCells]
  · simp [Builtin.append_, run_underlying ht, sizeOf, typeInfo, hi, Builtin.lenOf, Builtin.firstCells, hnc, storeCells]

theorem run_append_bytes {W : World} {base : Nat} {v : Value} {n : Nat} {xs : List Value} (ty : TypeId) (hown : W.ownsRow base 5 1 v n xs) (p : Option Addr) (bs : List (BitVec 8)) (cp : Nat) (hb : Bytes W p bs)
    (h63 : n + bs.length ≤ 1099511627776) (hbase : base ≤ W.heap.size) :
    ∃ v' W', (Builtin.append_ #[24, 24] ty #[v, .slice p bs.length cp]).run Tryz.prog W = .ok v' W' ∧ W'.ownsRow base 5 1 v' (n + bs.length) (xs ++ bs.map u8v) ∧ W.grownBy W' v.ownBlock ∧ (v'.ownBlock = v.ownBlock ∨ v'.ownBlock = some W.heap.size) := by
  obtain ⟨i0, hi0, hz0, hz1, hz2⟩ := info_parts Tryz.info5
  rcases p with _ | ad
  · have h0 : bs = [] := by
      by_cases hl : 0 < bs.length
      · obtain ⟨_, _, h, _⟩ := hb hl; cases h
      · exact List.eq_nil_of_length_eq_zero (by omega)
    subst h0
    refine ⟨v, W, run_append_none_any base 24 ty 5 i0 1 Tryz.underlying24 hi0 v n xs hown cp, by simpa using hown, ⟨rfl, rfl, rfl, Nat.le_refl _, fun _ _ _ => rfl⟩, .inl rfl⟩
  · obtain ⟨v', w', hr, h2, h3, _, h5⟩ := run_append_own_at (P := Tryz.prog) W base 24 ty 5 i0 (.int .u8 0) 1 1 Tryz.underlying24 hi0 hz0 hz1 hz2 rfl (by decide) v n xs hown ad bs.length cp (bs.map u8v) (by simp)
      (fun j u hj => by
        rw [List.getElem?_map] at hj
        obtain ⟨x, hx, rfl⟩ := Option.map_eq_some_iff.1 hj
        obtain ⟨b, o, e, hc⟩ := hb (Nat.lt_of_le_of_lt (Nat.zero_le _) (List.getElem?_eq_some_iff.1 hx).1)
        cases e
        rw [Addr.add_lit]
        exact hc j x hx) (u8v_one bs) (by unfold maxLen; omega) (by omega) hbase
    exact ⟨v', w', hr, h2, h3, h5⟩

theorem wpList_append_bytes {W : World} {ops : Array Oper} {rest : List Oper} {o : Oper} {a : Act} {Q : Exit → Act → World → Prop} (hgd : o.guard = none) (s x : Operand)
    (ho : o.op = .call { callee := .builtin .append, args := #[s, x], argTypes := #[24, 24] })
    (base : Nat) (v : Value) (n : Nat) (xs : List Value) (hs : a.eval s = v) (hown : W.ownsRow base 5 1 v n xs)
    (p : Option Addr) (bs : List (BitVec 8)) (cp : Nat) (hx : a.eval x = .slice p bs.length cp) (hb : Bytes W p bs) (h63 : n + bs.length ≤ 1099511627776) (hbase : base ≤ W.heap.size)
    (h : ∀ v' w', w'.ownsRow base 5 1 v' (n + bs.length) (xs ++ bs.map u8v) → W.grownBy w' v.ownBlock → (v'.ownBlock = v.ownBlock ∨ v'.ownBlock = some W.heap.size) → wpList Tryz.prog ops Q rest (a.put o.dst v') w') :
    wpList Tryz.prog ops Q (o :: rest) a W := by
  refine wpList_plain hgd fun K hK => ?_
  obtain ⟨v', w', hr, h2, h3, h5⟩ := run_append_bytes (ty := o.type) hown p bs cp hb h63 hbase
  unfold Oper.wp execOp
  simp only [ho, resolve, invoke, builtin, Sem.run_bind, Sem.run_pure, Result.andThen_ok, List.map_toArray, List.map_cons, List.map_nil, hs, hx, hr]
  exact hK _ _ (h v' w' h2 h3 h5)

/-- The text of some bytes. -/
def strOf (bs : List (BitVec 8)) : ByteArray := strOfNums (bs.map fun b => (b.toNat : Int))

theorem strOf_cells (bs : List (BitVec 8)) : Lib.strCells (strOf bs) = bs.map u8v := by
  unfold Lib.strCells strOf strOfNums
  simp only [List.map_map]
  apply List.ext_getElem
  · simp
  · intro i h1 h2
    simp at h2
    simp [u8v]
theorem strOf_size (bs : List (BitVec 8)) : (strOf bs).size = bs.length := by
  rw [← Lib.strCells_length, strOf_cells, List.length_map]

theorem append_string_block {W : World} {base : Nat} {v : Value} {n : Nat} {xs : List Value} (ty : TypeId) (hown : W.ownsRow base 5 1 v n xs) (s : ByteArray) (h63 : n + s.size ≤ 1099511627776) {v' : Value} {W' : World}
    (hr : (Builtin.append_ #[24, 9] ty #[v, .string s]).run Tryz.prog W = .ok v' W') : v'.ownBlock = v.ownBlock ∨ v'.ownBlock = some W.heap.size := by
  obtain ⟨i0, hi0, hz0, hz1, hz2⟩ := info_parts Tryz.info5
  rcases hown.2 with ⟨rfl, rfl⟩ | ⟨g, cap, cur, rfl, hbg, hg, hnc, hcm, hcs, htake⟩
  · by_cases hm : s.size = 0
    · have hf := Lib.run_firstCells_string (P := Tryz.prog) W 1 s
      rw [hm] at hf
      simp [Builtin.append_, run_underlying Tryz.underlying24, run_underlying Tryz.underlying9, sizeOf, typeInfo, hi0, hz1, Builtin.lenOf, hm, hf] at hr
      exact .inl (by rw [← hr.1])
    · have := run_append_nil_string (P := Tryz.prog) W 24 9 ty 5 i0 (.int .u8 0) Tryz.underlying24 Tryz.underlying9 hi0 hz0 s (by omega) (by omega) (by rw [hz2]; omega)
      rw [this] at hr
      cases hr
      exact .inr rfl
  · by_cases hroom : n + s.size ≤ cap
    · have := Lib.run_append_room_string (P := Tryz.prog) W 24 9 ty 5 i0 Tryz.underlying24 Tryz.underlying9 hi0 hz1 g n cap cur hg s hroom (by omega)
      rw [this] at hr
      cases hr
      exact .inl rfl
    · have hxl : xs.length = n := by simpa using hown.1
      have := Lib.run_append_grow_string (P := Tryz.prog) W 24 9 ty 5 i0 (.int .u8 0) Tryz.underlying24 Tryz.underlying9 hi0 hz0 ⟨g, 0, none⟩ n cap xs (by rw [hz1]; simpa using hxl) (hown.cells (g := g) rfl) s (by omega) (by omega) (by rw [hz2]; exact growslice_fits (by omega) (by omega))
      rw [this] at hr
      cases hr
      exact .inr rfl

theorem wpList_append_text {W : World} {ops : Array Oper} {rest : List Oper} {o : Oper} {a : Act} {Q : Exit → Act → World → Prop} (hgd : o.guard = none) (s x : Operand)
    (ho : o.op = .call { callee := .builtin .append, args := #[s, x], argTypes := #[24, 9] })
    (base : Nat) (v : Value) (n : Nat) (xs : List Value) (hs : a.eval s = v) (hown : W.ownsRow base 5 1 v n xs)
    (bs : List (BitVec 8)) (hx : a.eval x = .string (strOf bs)) (h63 : n + bs.length ≤ 1099511627776) (hbase : base ≤ W.heap.size)
    (h : ∀ v' w', w'.ownsRow base 5 1 v' (n + bs.length) (xs ++ bs.map u8v) → W.grownBy w' v.ownBlock → (v'.ownBlock = v.ownBlock ∨ v'.ownBlock = some W.heap.size) → wpList Tryz.prog ops Q rest (a.put o.dst v') w') :
    wpList Tryz.prog ops Q (o :: rest) a W := by
  refine wpList_plain hgd fun K hK => ?_
  obtain ⟨i0, hi0, hz0, hz1, hz2⟩ := info_parts Tryz.info5
  have hsz := strOf_size bs
  obtain ⟨v', w', hr, h2, h3, _⟩ := Lib.run_append_own_string (P := Tryz.prog) W base 24 9 o.type 5 i0 Tryz.underlying24 Tryz.underlying9 hi0 hz0 hz1 hz2 v n xs hown (strOf bs) (by unfold maxLen; omega) (by omega) hbase
  have h5 := append_string_block o.type hown (strOf bs) (by omega) hr
  rw [hsz, strOf_cells] at h2
  unfold Oper.wp execOp
  simp only [ho, resolve, invoke, builtin, Sem.run_bind, Sem.run_pure, Result.andThen_ok, List.map_toArray, List.map_cons, List.map_nil, hs, hx, hr]
  exact hK _ _ (h v' w' h2 h3 h5)

theorem run_str (W : World) (p : Option Addr) (bs : List (BitVec 8)) (c : Nat) (h : Bytes W p bs) :
    (convert 24 9 (.slice p bs.length c)).run Tryz.prog W = .ok (.string (strOf bs)) W := by
  by_cases hl : 0 < bs.length
  · obtain ⟨g, o, rfl, hx⟩ := h hl
    refine run_convert_bytes_arg W 24 5 Tryz.underlying24 Tryz.underlying5 g o bs.length c (bs.map fun b => (b.toNat : Int)) (by simp) (fun i hi => ?_) 9 Tryz.underlying9
    rw [hx i bs[i] (List.getElem?_eq_getElem hi)]
    simp [u8v, hi]
  · have h0 : bs = [] := List.eq_nil_of_length_eq_zero (by omega)
    subst h0
    rcases p with _ | ad
    · exact run_convert_bytes_nil W 24 5 Tryz.underlying24 Tryz.underlying5 0 c 9 Tryz.underlying9
    · have hl0 : (loadCells ad 0).run Tryz.prog W = .ok #[] W := by
        have := run_loadCells_list (P := Tryz.prog) W ad [] (fun j v hj => by simp at hj)
        simpa using this
      show (convert 24 9 (.slice (some ad) 0 c)).run Tryz.prog W = _
      rw [run_convert_bytes_string W 24 9 5 _ 0 c Tryz.underlying24 Tryz.underlying5 Tryz.underlying9]
      simp [Conv.bytesToString, hl0]
      rfl

/- A writer in memory: what it wrote, or none: it is bad. -/

/-- The blocks that are the writer's own. -/
def wset (w : World) (a : Nat) (b : Nat) : Prop := b = a ∨ ∃ v, w.cell? ⟨a, 0, none⟩ = some v ∧ v.ownBlock = some b

structure WrAt (w : World) (a : Nat) (v : Value) (s : St) : Prop where
  blk : w.heap[a]? = some (.cells #[v, .bool s.isNone] 79 (0, 0))
  own : w.ownsRow a 5 1 v (s.getD []).length ((s.getD []).map u8v)

def Wr (w : World) (a : Nat) (s : St) : Prop := ∃ v, WrAt w a v s

theorem WrAt.cell {w : World} {a : Nat} {v : Value} {s : St} (h : WrAt w a v s) : w.cell? ⟨a, 0, none⟩ = some v := cellOf h.blk 0
theorem WrAt.set {w : World} {a : Nat} {v : Value} {s : St} (h : WrAt w a v s) (b : Nat) : wset w a b ↔ b = a ∨ v.ownBlock = some b := by
  unfold wset
  rw [h.cell]
  constructor
  · rintro (h | ⟨u, hu, hb⟩)
    · exact .inl h
    · cases hu; exact .inr hb
  · rintro (h | hb)
    · exact .inl h
    · exact .inr ⟨v, rfl, hb⟩
theorem Wr.lt {w : World} {a : Nat} {s : St} (h : Wr w a s) : a < w.heap.size := block_lt h.choose_spec.blk
theorem Wr.lo {w : World} {a : Nat} {s : St} (h : Wr w a s) {b : Nat} (hb : wset w a b) : a ≤ b ∧ b < w.heap.size := by
  obtain ⟨v, hv⟩ := h
  rcases (hv.set b).1 hb with rfl | hb
  · exact ⟨Nat.le_refl _, block_lt hv.blk⟩
  · obtain ⟨h1, h2, _⟩ := own_lt hv.own hb
    exact ⟨h1, h2⟩

/-- What a call on the writer may turn. -/
structure Step (w w' : World) (a : Nat) : Prop where
  only : Only (wset w a) w w'
  sets : ∀ b, wset w' a b → wset w a b ∨ w.heap.size ≤ b

theorem Step.refl (w : World) (a : Nat) : Step w w a := ⟨Only.refl _ _, fun _ h => .inl h⟩
theorem Step.trans {u v w : World} {a : Nat} (h : Step u v a) (k : Step v w a) : Step u w a :=
  ⟨h.only.trans k.only h.sets, fun b hb => by
    rcases k.sets b hb with h1 | h1
    · exact h.sets b h1
    · exact .inr (Nat.le_trans h.only.size h1)⟩
/-- What is not the writer's own is left. -/
theorem Step.below {w w' : World} {a B : Nat} {s : St} (h : Step w w' a) (hw : Wr w a s) (hB : B ≤ a) : Below B w w' :=
  h.only.below (Nat.le_trans hB (Nat.le_of_lt hw.lt)) (fun _ hi => Nat.le_trans hB (hw.lo hi).1)

/-- The writer is left by what turns none of its blocks. -/
theorem WrAt.keep {S : Nat → Prop} {w w' : World} {a : Nat} {v : Value} {s : St} (h : WrAt w a v s) (ho : Only S w w') (hn : ∀ b, wset w a b → ¬ S b) : WrAt w' a v s := by
  refine ⟨(ho.block a (block_lt h.blk) (hn a (.inl rfl))).trans h.blk, ho.owns h.own (fun b hb => hn b ((h.set b).2 (.inr hb)))⟩
theorem WrAt.sets {w w' : World} {a : Nat} {v : Value} {s s' : St} (h : WrAt w a v s) (h' : WrAt w' a v s') (b : Nat) (hb : wset w' a b) : wset w a b := (h.set b).2 ((h'.set b).1 hb)
theorem Wr.keep {S : Nat → Prop} {w w' : World} {a : Nat} {s : St} (h : Wr w a s) (ho : Only S w w') (hn : ∀ b, wset w a b → ¬ S b) : Wr w' a s ∧ ∀ b, wset w' a b → wset w a b := by
  obtain ⟨v, hv⟩ := h
  have hv' := hv.keep ho hn
  exact ⟨⟨v, hv'⟩, fun b hb => hv.sets hv' b hb⟩
/-- The writer is left by a call that makes new memory alone. -/
theorem Wr.keep_below {w w' : World} {a : Nat} {s : St} (h : Wr w a s) (hb : Below w.heap.size w w') : Wr w' a s ∧ Step w w' a := by
  obtain ⟨h1, h2⟩ := h.keep (Below.only hb (fun _ => False)) (fun _ _ h => h)
  exact ⟨h1, Below.only hb _, fun b hb => .inl (h2 b hb)⟩

theorem heap_set_same {w : World} {a k : Nat} {cs : Array Value} {t : TypeId} {f : Nat × Nat} (h : w.heap[a]? = some (.cells cs t f)) (u : Value) : (w.setCell ⟨a, k, none⟩ u).heap[a]? = some (.cells (cs.setIfInBounds k u) t f) := by
  simp [World.setCell, Array.getElem?_modify, h]

/-- More is written. -/
theorem WrAt.put {w w0 w' : World} {a : Nat} {v v' : Value} {bs cs : List (BitVec 8)} {n : Nat} (h : WrAt w a v (some bs)) (hb : Below w.heap.size w w0) (hg : w0.grownBy w' v.ownBlock)
    (ho : w'.ownsRow a 5 1 v' n (bs.map u8v ++ cs.map u8v)) (hv : v'.ownBlock = v.ownBlock ∨ v'.ownBlock = some w0.heap.size) :
    WrAt (w'.setCell ⟨a, 0, none⟩ v') a v' (some (bs ++ cs)) ∧ Step w (w'.setCell ⟨a, 0, none⟩ v') a := by
  have h0 : WrAt w0 a v (some bs) := h.keep (Below.only hb (fun _ => False)) (fun _ _ h => h)
  have hne : v.ownBlock ≠ some a := fun e => by
    obtain ⟨_, _, cur, hc⟩ := own_lt h0.own e
    exact tag_ne h0.blk hc (by decide) rfl
  have hne' : v'.ownBlock ≠ some a := by
    rcases hv with e | e
    · rw [e]; exact hne
    · rw [e]; intro e'; have := block_lt h0.blk; cases e'; omega
  have hlen : n = (bs ++ cs).length := by have := ho.1; simp at this; simp; omega
  have hbl : w'.heap[a]? = some (.cells #[v, .bool false] 79 (0, 0)) := (hg.block a (block_lt h0.blk) (fun e => hne e.symm)).trans h0.blk
  have hW : WrAt (w'.setCell ⟨a, 0, none⟩ v') a v' (some (bs ++ cs)) := by
    refine ⟨by rw [heap_set_same hbl]; rfl, ?_⟩
    have : w'.ownsRow a 5 1 v' (bs ++ cs).length ((bs ++ cs).map u8v) := by rw [← hlen, List.map_append]; exact ho
    exact (Only.setCell (S := fun b => b = a) w' ⟨a, 0, none⟩ v' rfl).owns this (fun b hb e => hne' (by rw [hb, e]))
  refine ⟨hW, ?_, fun b hb' => ?_⟩
  · have h1 : Only (wset w a) w w0 := Below.only hb _
    have h2 : Only (wset w a) w0 w' := Only.grown hg (fun i e => (h.set i).2 (.inr e))
    exact (h1.next h2).next (Only.setCell _ _ _ (.inl rfl))
  · rcases (hW.set b).1 hb' with rfl | hb'
    · exact .inl (.inl rfl)
    · rcases hv with e | e
      · exact .inl ((h.set b).2 (.inr (by rw [← e]; exact hb')))
      · rw [e] at hb'; cases hb'; exact .inr hb.size

/-- It turns bad. -/
theorem WrAt.spoilt {w : World} {a : Nat} {v : Value} {s : St} (h : WrAt w a v s) :
    WrAt ((w.setCell ⟨a, 0, none⟩ (.slice none 0 0)).setCell ⟨a, 1, none⟩ (.bool true)) a (.slice none 0 0) none ∧ Step w ((w.setCell ⟨a, 0, none⟩ (.slice none 0 0)).setCell ⟨a, 1, none⟩ (.bool true)) a := by
  have hW : WrAt ((w.setCell ⟨a, 0, none⟩ (.slice none 0 0)).setCell ⟨a, 1, none⟩ (.bool true)) a (.slice none 0 0) none := by
    refine ⟨?_, World.ownsRow_nil _ _ _ _⟩
    rw [heap_set_same (heap_set_same h.blk _)]; rfl
  refine ⟨hW, ?_, fun b hb' => ?_⟩
  · exact (Only.setCell _ _ _ (.inl rfl)).next (Only.setCell _ _ _ (.inl rfl))
  · rcases (hW.set b).1 hb' with rfl | hb'
    · exact .inl (.inl rfl)
    · cases hb'

/- A reader in memory (of type t): what is left, or none: it is bad. -/

/-- A slice's address is of no view, and lies below block a. -/
def Plain (a : Nat) (p : Option Addr) : Prop := p = none ∨ ∃ g o, p = some ⟨g, o, none⟩ ∧ g < a
theorem plain_lt {a g o : Nat} (h : Plain a (some ⟨g, o, none⟩)) : g < a := by
  rcases h with h | ⟨g', o', e, h⟩
  · cases h
  · cases e; exact h
theorem owns_plain {W : World} {base e : Nat} {p : Option Addr} {l c : Nat} {n : Nat} {xs : List Value} (h : W.ownsRow base e 1 (.slice p l c) n xs) : Plain W.heap.size p := by
  rcases h.2 with ⟨e, _⟩ | ⟨g, cap, cur, e, _, hg, _⟩
  · cases e; exact .inl rfl
  · cases e; exact .inr ⟨_, _, rfl, block_lt hg⟩

/-- The bytes lie in a row of bytes. -/
def Tg (w : World) (p : Option Addr) (bs : List (BitVec 8)) : Prop := 0 < bs.length → ∀ g o, p = some ⟨g, o, none⟩ → ∃ cs f, w.heap[g]? = some (.cells cs 5 f)
structure Rd (t : TypeId) (w : World) (a : Nat) (s : St) : Prop where
  at_ : ∃ p c, Plain a p ∧ w.heap[a]? = some (.cells #[.slice p (s.getD []).length c, .bool s.isNone] t (0, 0)) ∧ (s.getD []).length ≤ c ∧ Bytes w p (s.getD []) ∧ Tg w p (s.getD [])
theorem Only.tg {S : Nat → Prop} {w w' : World} (h : Only S w w') {p : Option Addr} {bs : List (BitVec 8)} (ht : Tg w p bs) (hn : ∀ b o, 0 < bs.length → p = some ⟨b, o, none⟩ → ¬ S b) : Tg w' p bs := fun hl g o e => by
  obtain ⟨cs, f, hg⟩ := ht hl g o e
  exact ⟨cs, f, (h.block g (block_lt hg) (hn g o hl e)).trans hg⟩

theorem Rd.lt {t : TypeId} {w : World} {a : Nat} {s : St} (h : Rd t w a s) : a < w.heap.size := by
  obtain ⟨p, c, _, h, _⟩ := h.at_
  exact block_lt h
/-- No bytes lie in a reader's own block. -/
theorem bytes_apart {w : World} {a t : Nat} {x : Value} {b0 : Bool} {f : Nat × Nat} {g o : Nat} {bs : List (BitVec 8)} (h : w.heap[a]? = some (.cells #[x, .bool b0] t f)) (hx : ∃ p n c, x = .slice p n c)
    (hb : Bytes w (some ⟨g, o, none⟩) bs) (hl : 0 < bs.length) : g ≠ a := by
  obtain ⟨p, n, c, rfl⟩ := hx
  obtain ⟨g', o', e, hc⟩ := hb hl
  cases e
  rintro rfl
  have := hc 0 bs[0] (List.getElem?_eq_getElem hl)
  rw [cellOf h] at this
  rw [Nat.add_zero] at this
  match o, this with
  | 0, this => simp [u8v] at this
  | 1, this => simp [u8v] at this
  | k + 2, this => simp at this
theorem Rd.keep {S : Nat → Prop} {t : TypeId} {w w' : World} {a : Nat} {s : St} (h : Rd t w a s) (ho : Only S w w') (hn : ¬ S a) (hs : ∀ b, S b → ∃ p n c b0 t' f, w.heap[b]? = some (.cells #[.slice p n c, .bool b0] t' f)) : Rd t w' a s := by
  obtain ⟨p, c, h0, h1, h2, h3, h4⟩ := h.at_
  have hno : ∀ b o, 0 < (s.getD []).length → p = some ⟨b, o, none⟩ → ¬ S b := fun b o hl e hS => by
    obtain ⟨p', n', c', b0, t', f, hb⟩ := hs b hS
    subst e
    exact bytes_apart hb ⟨_, _, _, rfl⟩ h3 hl rfl
  exact ⟨p, c, h0, (ho.block a (block_lt h1) hn).trans h1, h2, ho.bytes h3 hno, ho.tg h4 hno⟩
theorem Rd.below {t : TypeId} {w w' : World} {a : Nat} {s : St} (h : Rd t w a s) (hb : Below w.heap.size w w') : Rd t w' a s :=
  h.keep (Below.only hb (fun _ => False)) id (fun _ h => h.elim)
/-- Another reader is left by what turns this one's block alone. -/
theorem Rd.other {t u : TypeId} {w w' : World} {a c : Nat} {s s' : St} (h : Rd t w a s) (k : Rd u w c s') (ho : Only (· = a) w w') (hne : t ≠ u) : Rd u w' c s' := by
  obtain ⟨p, q, _, h1, _⟩ := h.at_
  obtain ⟨p', q', _, k1, _⟩ := k.at_
  exact k.keep ho (tag_ne k1 h1 (Ne.symm hne)) (fun b hb => by subst hb; exact ⟨_, _, _, _, _, _, h1⟩)

/-- A reader is left by what turns blocks above its own alone. -/
theorem Rd.above {S : Nat → Prop} {t : TypeId} {w w' : World} {a : Nat} {s : St} (h : Rd t w a s) (ho : Only S w w') (hs : ∀ b, S b → a < b) : Rd t w' a s := by
  obtain ⟨p, c, h0, h1, h2, h3, h4⟩ := h.at_
  have hno : ∀ b o, 0 < (s.getD []).length → p = some ⟨b, o, none⟩ → ¬ S b := fun b o hl e hS => by
    subst e
    have := plain_lt h0
    have := hs b hS
    omega
  exact ⟨p, c, h0, (ho.block a (block_lt h1) (fun e => by have := hs a e; omega)).trans h1, h2, ho.bytes h3 hno, ho.tg h4 hno⟩
/-- A reader is left by what turns no row of bytes, and not its own block. -/
theorem Rd.tagged {S : Nat → Prop} {t : TypeId} {w w' : World} {a : Nat} {s : St} (h : Rd t w a s) (ho : Only S w w') (hn : ¬ S a) (hs : ∀ b cs f, w.heap[b]? = some (.cells cs 5 f) → ¬ S b) : Rd t w' a s := by
  obtain ⟨p, c, h0, h1, h2, h3, h4⟩ := h.at_
  have hno : ∀ b o, 0 < (s.getD []).length → p = some ⟨b, o, none⟩ → ¬ S b := fun b o hl e => by
    obtain ⟨cs, f, hg⟩ := h4 hl b o e
    exact hs b cs f hg
  exact ⟨p, c, h0, (ho.block a (block_lt h1) hn).trans h1, h2, ho.bytes h3 hno, ho.tg h4 hno⟩

/-- What is left of a reader's bytes behind the first k. -/
theorem cut_bytes {w : World} {p : Option Addr} {bs : List (BitVec 8)} {c k : Nat} (hb : Bytes w p bs) (hk : k ≤ bs.length) (hc : bs.length ≤ c) (q : Option Addr)
    (hq : ∀ g o, p = some ⟨g, o, none⟩ → q = if k = c then some ⟨g, o, none⟩ else some ⟨g, o + k, none⟩) : Bytes w q (bs.drop k) := by
  intro hl
  rw [List.length_drop] at hl
  obtain ⟨g, o, rfl, hx⟩ := hb (by omega)
  have := hq g o rfl
  rw [if_neg (by omega)] at this
  subst this
  exact bytes_drop hb k (by rw [List.length_drop]; exact hl)

end Go.Proofs.YtegjageenofbjaaGreat.Cd
