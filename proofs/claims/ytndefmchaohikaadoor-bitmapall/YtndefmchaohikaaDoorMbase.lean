/-
  The small functions of package bitmap: what each call answers and does to memory.
-/
import Derived.Test.YtndefmchaohikaaDoorProg
import Derived.Test.YtndefmchaohikaaDoorMpop
import Derived.WalkKit
import Derived.WalkSpells
import Derived.WalkLawsBesides
import Derived.Maps.OwnSet
import Derived.Laws.CopyOwn
import Derived.Laws.BitsAllLaws
import Derived.Laws.Small
import Derived.Deep.LoopGhost
import Derived.Deep.QuietTactic
import Derived.Deep.RegionHeld3
import Derived.BigQuiet
import Derived.RegionTactic
import Derived.Lib.TrailingZeros
namespace Go.Proofs.YtndefmchaohikaaDoor
open Go.RowKit

theorem cellOf {w : World} {b : Nat} {cs : Array Value} {t : TypeId} {f : Nat × Nat} (h : w.heap[b]? = some (.cells cs t f)) (j : Nat) :
    w.cell? ⟨b, j, none⟩ = cs[j]? := by
  simp [World.cell?, h]
theorem frozenOf {w : World} {b : Nat} {cs : Array Value} {t : TypeId} (h : w.heap[b]? = some (.cells cs t (0, 0))) (j : Nat) :
    w.frozen? ⟨b, j, none⟩ = false := by
  simp [World.frozen?, h]
theorem cell_lt {w : World} {b k : Nat} {v : Value} (h : w.cell? ⟨b, k, none⟩ = some v) : b < w.heap.size := by
  by_cases hb : b < w.heap.size
  · exact hb
  · simp [World.cell?, Array.getElem?_eq_none (Nat.not_lt.1 hb)] at h
theorem block_lt {w : World} {b : Nat} {o : Obj} (h : w.heap[b]? = some o) : b < w.heap.size := (Array.getElem?_eq_some_iff.1 h).1
theorem heap_set_same {w : World} {a k : Nat} {cs : Array Value} {t : TypeId} {f : Nat × Nat} (h : w.heap[a]? = some (.cells cs t f)) (u : Value) : (w.setCell ⟨a, k, none⟩ u).heap[a]? = some (.cells (cs.setIfInBounds k u) t f) := by
  simp [World.setCell, Array.getElem?_modify, h]
theorem below_new (w : World) (o : Obj) : Hid (Below w.heap.size w (w.alloc o)) := (Below.refl _ _).alloc (Nat.le_refl _) _

/-- A callee that leaves the world as it was, met at its call. -/
theorem Calls_on {P : Program} {f : Nat} {args : Array Value} {w : World} {v : Ending} {K : Ending → World → Prop}
    (h : Calls P f args w fun e w' => e = v ∧ w' = w) (hk : K v w) : Calls P f args w K :=
  h.mono (by rintro e w' ⟨rfl, rfl⟩; exact hk)

/-- Outside S nothing turns. -/
structure Only (S : Nat → Prop) (w w' : World) : Prop where
  os : w'.os = w.os
  tape : w'.tape = w.tape
  output : w'.output = w.output
  size : w.heap.size ≤ w'.heap.size
  block : ∀ k, k < w.heap.size → ¬ S k → w'.heap[k]? = w.heap[k]?

theorem Only.refl (S : Nat → Prop) (w : World) : Only S w w := ⟨rfl, rfl, rfl, Nat.le_refl _, fun _ _ _ => rfl⟩
theorem Only.trans {S T : Nat → Prop} {a b c : World} (h : Only S a b) (k : Only T b c) (hs : ∀ i, T i → S i ∨ a.heap.size ≤ i) : Only S a c :=
  ⟨k.os.trans h.os, k.tape.trans h.tape, k.output.trans h.output, Nat.le_trans h.size k.size, fun i hi hn =>
    (k.block i (Nat.lt_of_lt_of_le hi h.size) (fun e => by rcases hs i e with h | h; exact hn h; omega)).trans (h.block i hi hn)⟩
theorem Only.next {S : Nat → Prop} {a b c : World} (h : Only S a b) (k : Only S b c) : Only S a c := h.trans k (fun _ h => .inl h)
theorem Only.below {S : Nat → Prop} {w w' : World} {B : Nat} (h : Only S w w') (hB : B ≤ w.heap.size) (hs : ∀ i, S i → B ≤ i) : Below B w w' :=
  ⟨h.os, h.tape, h.output, h.size, fun k hk => h.block k (by omega) (fun e => by have := hs k e; omega)⟩
theorem Below.only {w w' : World} (h : Below w.heap.size w w') (S : Nat → Prop) : Only S w w' :=
  ⟨h.os, h.tape, h.output, h.size, fun k hk _ => h.block k hk⟩
theorem Only.alloc (S : Nat → Prop) (w : World) (o : Obj) : Only S w (w.alloc o) :=
  ⟨rfl, rfl, rfl, by simp, fun k hk _ => Below.heap_alloc _ _ _ hk⟩
theorem Only.setCell {S : Nat → Prop} (w : World) (p : Addr) (u : Value) (h : S p.block) : Only S w (w.setCell p u) :=
  ⟨rfl, rfl, rfl, by simp [World.setCell], fun k _ hk => Below.heap_setCell _ _ _ _ (fun e => hk (e ▸ h))⟩
theorem Only.drew {S : Nat → Prop} {w w' : World} (h : Only S w w') : Only S w w'.drew := ⟨h.os, h.tape, h.output, h.size, h.block⟩

/- Words of 64 bits. -/

/-- Whether the number i is used. -/
def used (ws : List Nat) (i : Nat) : Bool := (ws.getD (i / 64) 0).testBit (i % 64)

/-- A map: where its struct and its words lie, how many numbers, the words and their room. -/
structure MS where
  a : Nat
  b : Nat
  n : Nat
  c : Nat
  ws : List Nat

/-- The words lie in block b. -/
def RowAt (w : World) (b : Nat) (ws : List Nat) : Prop := ∃ cs, w.heap[b]? = some (.cells cs 51 (0, 0)) ∧ ∀ (j x : Nat), ws[j]? = some x → cs[j]? = some (Value.int .u64 (x : Int))

/-- As many words as n numbers take, each of 64 bits. -/
structure Fit (n : Nat) (ws : List Nat) : Prop where
  len : ws.length = (n + 63) / 64
  most : n ≤ 65536
  small : ∀ (j x : Nat), ws[j]? = some x → x < 18446744073709551616

/-- No bit behind the last number. -/
def Tight (n : Nat) (ws : List Nat) : Prop := ∀ i, n ≤ i → used ws i = false

structure MapAt (w : World) (m : MS) : Prop where
  st : w.heap[m.a]? = some (.cells #[.int .i64 m.n, .slice (some ⟨m.b, 0, none⟩) m.ws.length m.c] 48 (0, 0))
  row : RowAt w m.b m.ws
  fit : Fit m.n m.ws
  pos : 0 < m.b

theorem RowAt.cell {w : World} {b : Nat} {ws : List Nat} (h : RowAt w b ws) {j x : Nat} (hj : ws[j]? = some x) : w.cell? ⟨b, j, none⟩ = some (.int .u64 (x : Int)) := by
  obtain ⟨cs, h1, h2⟩ := h
  rw [cellOf h1 j, h2 j x hj]
theorem RowAt.frozen {w : World} {b : Nat} {ws : List Nat} (h : RowAt w b ws) (j : Nat) : w.frozen? ⟨b, j, none⟩ = false := by
  obtain ⟨cs, h1, h2⟩ := h
  exact frozenOf h1 j
theorem RowAt.lt {w : World} {b : Nat} {ws : List Nat} (h : RowAt w b ws) : b < w.heap.size := by
  obtain ⟨cs, h1, h2⟩ := h
  exact block_lt h1
theorem RowAt.set {w : World} {b : Nat} {ws : List Nat} (h : RowAt w b ws) (j x : Nat) : RowAt (w.setCell ⟨b, j, none⟩ (.int .u64 (x : Int))) b (ws.set j x) := by
  obtain ⟨cs, h1, h2⟩ := h
  refine ⟨_, heap_set_same h1 _, fun k y hk => ?_⟩
  rw [List.getElem?_set] at hk
  rw [Array.getElem?_setIfInBounds]
  split at hk
  · rename_i hjk
    subst hjk
    split at hk
    · rename_i hl
      cases hk
      obtain ⟨z, hz⟩ : ∃ z, ws[j]? = some z := ⟨_, List.getElem?_eq_getElem hl⟩
      have := (Array.getElem?_eq_some_iff.1 (h2 j z hz)).1
      rw [if_pos rfl, if_pos this]
    · cases hk
  · rename_i hjk
    rw [if_neg hjk]
    exact h2 k y hk
theorem RowAt.keep {S : Nat → Prop} {w w' : World} {b : Nat} {ws : List Nat} (h : RowAt w b ws) (ho : Only S w w') (hn : ¬ S b) : RowAt w' b ws := by
  have hl := h.lt
  obtain ⟨cs, h1, h2⟩ := h
  exact ⟨cs, (ho.block b hl hn).trans h1, h2⟩

theorem MapAt.c0 {w : World} {m : MS} (h : MapAt w m) : w.cell? ⟨m.a, 0, none⟩ = some (.int .i64 m.n) := cellOf h.st 0
theorem MapAt.c1 {w : World} {m : MS} (h : MapAt w m) : w.cell? ⟨m.a, 1, none⟩ = some (.slice (some ⟨m.b, 0, none⟩) m.ws.length m.c) := cellOf h.st 1
theorem MapAt.ne {w : World} {m : MS} (h : MapAt w m) : m.a ≠ m.b := by
  intro e
  obtain ⟨cs, h1, h2⟩ := h.row
  have := h.st
  rw [e, h1] at this
  simp at this
theorem MapAt.keep {S : Nat → Prop} {w w' : World} {m : MS} (h : MapAt w m) (ho : Only S w w') (ha : ¬ S m.a) (hb : ¬ S m.b) : MapAt w' m :=
  ⟨(ho.block m.a (block_lt h.st) ha).trans h.st, h.row.keep ho hb, h.fit, h.pos⟩
theorem MapAt.below {w w' : World} {m : MS} (h : MapAt w m) (hb : Below w.heap.size w w') : MapAt w' m := h.keep (Below.only hb (fun _ => False)) (fun h => h) (fun h => h)
theorem MapAt.drew {w : World} {m : MS} (h : MapAt w m) : MapAt w.drew m := ⟨h.st, h.row, h.fit, h.pos⟩

set_option maxRecDepth 8000 in
set_option maxHeartbeats 400000 in
theorem size_nil (w : World) : Calls Tryd.prog 19 #[.pointer none] w fun e w' => e = .returned (.int .i64 0) ∧ w' = w := by
  go_enter Tryd.func19, Tryd.ntmps19
  go_wp2
  go_ret
  exact ⟨rfl, rfl⟩
set_option maxRecDepth 8000 in
set_option maxHeartbeats 400000 in
theorem size_any (m : MS) (w : World) (h : MapAt w m) : Calls Tryd.prog 19 #[.pointer (some ⟨m.a, 0, none⟩)] w fun e w' => e = .returned (.int .i64 m.n) ∧ w' = w := by
  have h0 := h.c0
  clear h
  go_enter Tryd.func19, Tryd.ntmps19
  go_wp2
  go_ret
  exact ⟨rfl, rfl⟩

set_option maxRecDepth 8000 in
set_option maxHeartbeats 400000 in
theorem has_nil (i : Int) (w : World) : Calls Tryd.prog 22 #[.pointer none, .int .i64 i] w fun e w' => e = .returned (.bool false) ∧ w' = w := by
  by_cases h : 0 ≤ i
  · go_enter Tryd.func22, Tryd.ntmps22
    go_wp2_with (go_at_call 19; refine Calls_on (size_nil _) ?_)
    go_ret
    exact ⟨by simp; omega, rfl⟩
  · go_enter Tryd.func22, Tryd.ntmps22
    go_wp2_with (go_at_call 19; refine Calls_on (size_nil _) ?_)
    go_ret
    exact ⟨rfl, rfl⟩
set_option maxRecDepth 8000 in
set_option maxHeartbeats 400000 in
theorem has_any (i : Int) (m : MS) (w : World) (h : MapAt w m) : Calls Tryd.prog 22 #[.pointer (some ⟨m.a, 0, none⟩), .int .i64 i] w fun e w' => e = .returned (.bool (decide (0 ≤ i ∧ i < m.n))) ∧ w' = w := by
  have hs := size_any m w h
  clear h
  by_cases h : 0 ≤ i
  · go_enter Tryd.func22, Tryd.ntmps22
    go_wp2_with (go_at_call 19; refine Calls_on hs ?_)
    go_ret
    exact ⟨by simp [h], rfl⟩
  · go_enter Tryd.func22, Tryd.ntmps22
    go_wp2_with (go_at_call 19; refine Calls_on hs ?_)
    go_ret
    exact ⟨by simp; omega, rfl⟩

set_option maxRecDepth 8000 in
set_option maxHeartbeats 400000 in
theorem count_nil (w : World) : Calls Tryd.prog 25 #[.pointer none] w fun e w' => e = .returned (.int .i64 0) ∧ w' = w := by
  go_enter Tryd.func25, Tryd.ntmps25
  go_wp2_with (go_at_call 19; refine Calls_on (size_nil _) ?_)
  go_ret
  exact ⟨rfl, rfl⟩
set_option maxRecDepth 8000 in
set_option maxHeartbeats 400000 in
theorem count_any (m : MS) (w : World) (h : MapAt w m) : Calls Tryd.prog 25 #[.pointer (some ⟨m.a, 0, none⟩)] w fun e w' => e = .returned (.int .i64 ((m.n + 7) / 8 : Nat)) ∧ w' = w := by
  have hs := size_any m w h
  have hm : m.n ≤ 65536 := h.fit.most
  clear h
  go_enter Tryd.func25, Tryd.ntmps25
  go_wp2_with (go_at_call 19; refine Calls_on hs ?_)
  go_ret
  exact ⟨by simp, rfl⟩

theorem pow_bit (i : Nat) : 2 ^ (i % 64) < 18446744073709551616 := Nat.pow_lt_pow_right (by decide) (show i % 64 < 64 by omega)
set_option maxRecDepth 8000 in
set_option maxHeartbeats 400000 in
theorem bit_any (i : Nat) (hi : i < 9223372036854775808) (w : World) : Calls Tryd.prog 29 #[.int .i64 i] w fun e w' => e = .returned (.int .u64 ((2 ^ (i % 64) : Nat) : Int)) ∧ w' = w := by
  go_enter Tryd.func29, Tryd.ntmps29
  go_wp2
  go_ret
  refine ⟨?_, rfl⟩
  have hp := pow_bit i
  have hw : IntKind.u64.wrap ((2 ^ (i % 64) : Nat) : Int) = ((2 ^ (i % 64) : Nat) : Int) := by
    generalize 2 ^ (i % 64) = p at hp
    rw [IntKind.wrap_u64]; omega
  simpa using hw

/- A bit is turned. -/

theorem used_set {ws : List Nat} {q x : Nat} (hq : q < ws.length) (i : Nat) : used (ws.set q x) i = if i / 64 = q then x.testBit (i % 64) else used ws i := by
  unfold used
  rw [List.getD, List.getD, List.getElem?_set]
  by_cases h : q = i / 64
  · rw [if_pos h, if_pos hq, if_pos h.symm]; rfl
  · rw [if_neg h, if_neg (fun e => h e.symm)]
def turned (ws : List Nat) (i : Nat) : List Nat := ws.set (i / 64) (ws.getD (i / 64) 0 ^^^ 2 ^ (i % 64))
theorem turned_used {ws : List Nat} {i : Nat} (hi : i / 64 < ws.length) (j : Nat) : used (turned ws i) j = if j = i then !used ws i else used ws j := by
  unfold turned
  rw [used_set hi, Nat.testBit_xor, Nat.testBit_two_pow]
  by_cases h : j = i
  · subst h; simp [used]
  · rw [if_neg h]
    by_cases hq : j / 64 = i / 64
    · rw [if_pos hq]
      have : ¬ i % 64 = j % 64 := by omega
      simp [this, used, hq]
    · rw [if_neg hq]
theorem turned_length (ws : List Nat) (i : Nat) : (turned ws i).length = ws.length := by simp [turned]
theorem Fit.word {n : Nat} {ws : List Nat} (h : Fit n ws) (q : Nat) : ws.getD q 0 < 18446744073709551616 := by
  rw [List.getD]
  rcases hq : ws[q]? with _ | x
  · simp
  · exact h.small q x hq
theorem Fit.turned {n : Nat} {ws : List Nat} (h : Fit n ws) (i : Nat) : Fit n (turned ws i) := by
  refine ⟨by rw [turned_length]; exact h.len, h.most, fun j x hj => ?_⟩
  unfold Go.Proofs.YtndefmchaohikaaDoor.turned at hj
  rw [List.getElem?_set] at hj
  split at hj
  · split at hj
    · cases hj
      exact Nat.xor_lt_two_pow (n := 64) (h.word _) (pow_bit i)
    · cases hj
  · exact h.small j x hj
theorem Fit.div {n : Nat} {ws : List Nat} (h : Fit n ws) {i : Nat} (hi : i < n) : i / 64 < ws.length := by rw [h.len]; omega
theorem Tight.turned {n : Nat} {ws : List Nat} (h : Tight n ws) (hf : Fit n ws) {i : Nat} (hi : i < n) : Tight n (turned ws i) := by
  intro j hj
  rw [turned_used (hf.div hi), if_neg (by omega)]
  exact h j hj
theorem getD_some {ws : List Nat} {q : Nat} (hq : q < ws.length) : ws[q]? = some (ws.getD q 0) := by
  rw [List.getD, List.getElem?_eq_getElem hq]; rfl

/-- The map behind a turn. -/
def MS.turn (m : MS) (i : Nat) : MS := { m with ws := turned m.ws i }
theorem MapAt.turn {w : World} {m : MS} (h : MapAt w m) (i : Nat) : MapAt (w.setCell ⟨m.b, i / 64, none⟩ (.int .u64 ((m.ws.getD (i / 64) 0 ^^^ 2 ^ (i % 64) : Nat) : Int))) (m.turn i) := by
  refine ⟨?_, h.row.set _ _, h.fit.turned i, h.pos⟩
  have := Below.heap_setCell w ⟨m.b, i / 64, none⟩ (.int .u64 ((m.ws.getD (i / 64) 0 ^^^ 2 ^ (i % 64) : Nat) : Int)) m.a h.ne
  refine this.trans (h.st.trans ?_)
  unfold MS.turn
  simp only [turned_length]

end Go.Proofs.YtndefmchaohikaaDoor
